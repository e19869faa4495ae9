import Derived.Test.YtmohklalmohilaaGreatCodeB
import Derived.KernelRfl
namespace Go.Abs.J
open Go Go.Abs
set_option maxRecDepth 100000 in
theorem t4_27 : okT 4 27 = true := by kernel_rfl
set_option maxRecDepth 100000 in
theorem t4_32 : okT 4 32 = true := by kernel_rfl
set_option maxRecDepth 100000 in
theorem t4_31 : okT 4 31 = true := by kernel_rfl
end Go.Abs.J
