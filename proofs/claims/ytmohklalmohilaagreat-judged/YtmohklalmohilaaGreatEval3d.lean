import Derived.Test.YtmohklalmohilaaGreatCodeB
import Derived.KernelRfl
namespace Go.Abs.J
open Go Go.Abs
set_option maxRecDepth 100000 in
theorem t3_29 : okT 3 29 = true := by kernel_rfl
set_option maxRecDepth 100000 in
theorem t3_9 : okT 3 9 = true := by kernel_rfl
set_option maxRecDepth 100000 in
theorem t3_30 : okT 3 30 = true := by kernel_rfl
set_option maxRecDepth 100000 in
theorem t3_2 : okT 3 2 = true := by kernel_rfl
set_option maxRecDepth 100000 in
theorem t3_19 : okT 3 19 = true := by kernel_rfl
set_option maxRecDepth 100000 in
theorem t3_12 : okT 3 12 = true := by kernel_rfl
end Go.Abs.J
