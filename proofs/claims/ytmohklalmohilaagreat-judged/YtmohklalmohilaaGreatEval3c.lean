import Derived.Test.YtmohklalmohilaaGreatCodeB
import Derived.KernelRfl
namespace Go.Abs.J
open Go Go.Abs
set_option maxRecDepth 100000 in
theorem t3_27 : okT 3 27 = true := by kernel_rfl
set_option maxRecDepth 100000 in
theorem t3_32 : okT 3 32 = true := by kernel_rfl
set_option maxRecDepth 100000 in
theorem t3_31 : okT 3 31 = true := by kernel_rfl
end Go.Abs.J
