import Derived.Test.YtmohklalmohilaaGreatCodeB
import Derived.KernelRfl
namespace Go.Abs.J
open Go Go.Abs
set_option maxRecDepth 100000 in
theorem t1_25 : okT 1 25 = true := by kernel_rfl
set_option maxRecDepth 100000 in
theorem t1_23 : okT 1 23 = true := by kernel_rfl
set_option maxRecDepth 100000 in
theorem t1_5 : okT 1 5 = true := by kernel_rfl
end Go.Abs.J
