import Derived.Test.YtmohklalmohilaaGreatCodeB
import Derived.KernelRfl
namespace Go.Abs.J
open Go Go.Abs
set_option maxRecDepth 100000 in
theorem t3_1 : okT 3 1 = true := by kernel_rfl
set_option maxRecDepth 100000 in
theorem t3_21 : okT 3 21 = true := by kernel_rfl
set_option maxRecDepth 100000 in
theorem t3_22 : okT 3 22 = true := by kernel_rfl
set_option maxRecDepth 100000 in
theorem t3_16 : okT 3 16 = true := by kernel_rfl
set_option maxRecDepth 100000 in
theorem t3_6 : okT 3 6 = true := by kernel_rfl
set_option maxRecDepth 100000 in
theorem t3_4 : okT 3 4 = true := by kernel_rfl
end Go.Abs.J
