import Derived.Test.YtmohklalmohilaaGreatCodeB
import Derived.KernelRfl
namespace Go.Abs.J
open Go Go.Abs
set_option maxRecDepth 100000 in
theorem t1_1 : okT 1 1 = true := by kernel_rfl
set_option maxRecDepth 100000 in
theorem t1_21 : okT 1 21 = true := by kernel_rfl
set_option maxRecDepth 100000 in
theorem t1_22 : okT 1 22 = true := by kernel_rfl
set_option maxRecDepth 100000 in
theorem t1_16 : okT 1 16 = true := by kernel_rfl
set_option maxRecDepth 100000 in
theorem t1_6 : okT 1 6 = true := by kernel_rfl
set_option maxRecDepth 100000 in
theorem t1_4 : okT 1 4 = true := by kernel_rfl
end Go.Abs.J
