import Derived.Test.YtmohklalmohilaaGreatCodeB
import Derived.KernelRfl
namespace Go.Abs.J
open Go Go.Abs
set_option maxRecDepth 100000 in
theorem t2_28 : okT 2 28 = true := by kernel_rfl
set_option maxRecDepth 100000 in
theorem t2_7 : okT 2 7 = true := by kernel_rfl
set_option maxRecDepth 100000 in
theorem t2_13 : okT 2 13 = true := by kernel_rfl
end Go.Abs.J
