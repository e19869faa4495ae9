import Derived.Test.YtmohklalmohilaaGreatCodeB
import Derived.KernelRfl
namespace Go.Abs.J
open Go Go.Abs
set_option maxRecDepth 100000 in
theorem t1_28 : okT 1 28 = true := by kernel_rfl
set_option maxRecDepth 100000 in
theorem t1_7 : okT 1 7 = true := by kernel_rfl
set_option maxRecDepth 100000 in
theorem t1_13 : okT 1 13 = true := by kernel_rfl
end Go.Abs.J
