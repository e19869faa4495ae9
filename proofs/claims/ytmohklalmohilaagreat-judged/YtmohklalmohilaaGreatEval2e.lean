import Derived.Test.YtmohklalmohilaaGreatCodeB
import Derived.KernelRfl
namespace Go.Abs.J
open Go Go.Abs
set_option maxRecDepth 100000 in
theorem t2_1 : okT 2 1 = true := by kernel_rfl
set_option maxRecDepth 100000 in
theorem t2_21 : okT 2 21 = true := by kernel_rfl
set_option maxRecDepth 100000 in
theorem t2_22 : okT 2 22 = true := by kernel_rfl
set_option maxRecDepth 100000 in
theorem t2_16 : okT 2 16 = true := by kernel_rfl
set_option maxRecDepth 100000 in
theorem t2_6 : okT 2 6 = true := by kernel_rfl
set_option maxRecDepth 100000 in
theorem t2_4 : okT 2 4 = true := by kernel_rfl
end Go.Abs.J
