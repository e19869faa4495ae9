import Derived.Test.YtmohklalmohilaaGreatCodeB
import Derived.KernelRfl
namespace Go.Abs.J
open Go Go.Abs
set_option maxRecDepth 100000 in
theorem t4_28 : okT 4 28 = true := by kernel_rfl
set_option maxRecDepth 100000 in
theorem t4_7 : okT 4 7 = true := by kernel_rfl
set_option maxRecDepth 100000 in
theorem t4_13 : okT 4 13 = true := by kernel_rfl
end Go.Abs.J
