import Derived.Test.YtmohklalmohilaaGreatCodeB
import Derived.KernelRfl
namespace Go.Abs.J
open Go Go.Abs
set_option maxRecDepth 100000 in
theorem t3_28 : okT 3 28 = true := by kernel_rfl
set_option maxRecDepth 100000 in
theorem t3_7 : okT 3 7 = true := by kernel_rfl
set_option maxRecDepth 100000 in
theorem t3_13 : okT 3 13 = true := by kernel_rfl
end Go.Abs.J
