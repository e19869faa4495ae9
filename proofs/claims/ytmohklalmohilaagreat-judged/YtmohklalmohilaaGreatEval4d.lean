import Derived.Test.YtmohklalmohilaaGreatCodeB
import Derived.KernelRfl
namespace Go.Abs.J
open Go Go.Abs
set_option maxRecDepth 100000 in
theorem t4_29 : okT 4 29 = true := by kernel_rfl
set_option maxRecDepth 100000 in
theorem t4_9 : okT 4 9 = true := by kernel_rfl
set_option maxRecDepth 100000 in
theorem t4_30 : okT 4 30 = true := by kernel_rfl
set_option maxRecDepth 100000 in
theorem t4_2 : okT 4 2 = true := by kernel_rfl
set_option maxRecDepth 100000 in
theorem t4_19 : okT 4 19 = true := by kernel_rfl
set_option maxRecDepth 100000 in
theorem t4_12 : okT 4 12 = true := by kernel_rfl
end Go.Abs.J
