import Derived.Test.YtmohklalmohilaaGreatCodeB
import Derived.KernelRfl
namespace Go.Abs.J
open Go Go.Abs
set_option maxRecDepth 100000 in
theorem t1_27 : okT 1 27 = true := by kernel_rfl
set_option maxRecDepth 100000 in
theorem t1_32 : okT 1 32 = true := by kernel_rfl
set_option maxRecDepth 100000 in
theorem t1_31 : okT 1 31 = true := by kernel_rfl
end Go.Abs.J
