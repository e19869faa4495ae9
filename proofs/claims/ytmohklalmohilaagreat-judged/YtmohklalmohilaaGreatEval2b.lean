import Derived.Test.YtmohklalmohilaaGreatCodeB
import Derived.KernelRfl
namespace Go.Abs.J
open Go Go.Abs
set_option maxRecDepth 100000 in
theorem t2_25 : okT 2 25 = true := by kernel_rfl
set_option maxRecDepth 100000 in
theorem t2_23 : okT 2 23 = true := by kernel_rfl
set_option maxRecDepth 100000 in
theorem t2_5 : okT 2 5 = true := by kernel_rfl
end Go.Abs.J
