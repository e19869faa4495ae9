import Derived.Test.YtmohklalmohilaaGreatCodeB
import Derived.KernelRfl
namespace Go.Abs.J
open Go Go.Abs
set_option maxRecDepth 100000 in
theorem t2_29 : okT 2 29 = true := by kernel_rfl
set_option maxRecDepth 100000 in
theorem t2_9 : okT 2 9 = true := by kernel_rfl
set_option maxRecDepth 100000 in
theorem t2_30 : okT 2 30 = true := by kernel_rfl
set_option maxRecDepth 100000 in
theorem t2_2 : okT 2 2 = true := by kernel_rfl
set_option maxRecDepth 100000 in
theorem t2_19 : okT 2 19 = true := by kernel_rfl
set_option maxRecDepth 100000 in
theorem t2_12 : okT 2 12 = true := by kernel_rfl
end Go.Abs.J
