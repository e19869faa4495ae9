import Derived.Test.YtmohklalmohilaaGreatCodeB
import Derived.KernelRfl
namespace Go.Abs.J
open Go Go.Abs
set_option maxRecDepth 100000 in
theorem t1_29 : okT 1 29 = true := by kernel_rfl
set_option maxRecDepth 100000 in
theorem t1_9 : okT 1 9 = true := by kernel_rfl
set_option maxRecDepth 100000 in
theorem t1_30 : okT 1 30 = true := by kernel_rfl
set_option maxRecDepth 100000 in
theorem t1_2 : okT 1 2 = true := by kernel_rfl
set_option maxRecDepth 100000 in
theorem t1_19 : okT 1 19 = true := by kernel_rfl
set_option maxRecDepth 100000 in
theorem t1_12 : okT 1 12 = true := by kernel_rfl
end Go.Abs.J
