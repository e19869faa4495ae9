import Derived.Test.YtmohklalmohilaaGreatCodeB
import Derived.KernelRfl
namespace Go.Abs.J
open Go Go.Abs
set_option maxRecDepth 100000 in
theorem t2_27 : okT 2 27 = true := by kernel_rfl
set_option maxRecDepth 100000 in
theorem t2_32 : okT 2 32 = true := by kernel_rfl
set_option maxRecDepth 100000 in
theorem t2_31 : okT 2 31 = true := by kernel_rfl
end Go.Abs.J
