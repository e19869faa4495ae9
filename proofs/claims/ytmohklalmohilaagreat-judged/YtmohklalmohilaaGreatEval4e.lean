import Derived.Test.YtmohklalmohilaaGreatCodeB
import Derived.KernelRfl
namespace Go.Abs.J
open Go Go.Abs
set_option maxRecDepth 100000 in
theorem t4_1 : okT 4 1 = true := by kernel_rfl
set_option maxRecDepth 100000 in
theorem t4_21 : okT 4 21 = true := by kernel_rfl
set_option maxRecDepth 100000 in
theorem t4_22 : okT 4 22 = true := by kernel_rfl
set_option maxRecDepth 100000 in
theorem t4_16 : okT 4 16 = true := by kernel_rfl
set_option maxRecDepth 100000 in
theorem t4_6 : okT 4 6 = true := by kernel_rfl
set_option maxRecDepth 100000 in
theorem t4_4 : okT 4 4 = true := by kernel_rfl
end Go.Abs.J
