import Derived.Test.YtmohklalmohilaaGreatCodeB
import Derived.KernelRfl
namespace Go.Abs.J
open Go Go.Abs
set_option maxRecDepth 100000 in
theorem t4_25 : okT 4 25 = true := by kernel_rfl
set_option maxRecDepth 100000 in
theorem t4_23 : okT 4 23 = true := by kernel_rfl
set_option maxRecDepth 100000 in
theorem t4_5 : okT 4 5 = true := by kernel_rfl
end Go.Abs.J
