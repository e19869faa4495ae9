import Derived.Test.YtmohklalmohilaaGreatCodeB
import Derived.KernelRfl
namespace Go.Abs.J
open Go Go.Abs
set_option maxRecDepth 100000 in
theorem t3_25 : okT 3 25 = true := by kernel_rfl
set_option maxRecDepth 100000 in
theorem t3_23 : okT 3 23 = true := by kernel_rfl
set_option maxRecDepth 100000 in
theorem t3_5 : okT 3 5 = true := by kernel_rfl
end Go.Abs.J
