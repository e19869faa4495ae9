import Derived.Test.YtfhcoiogdgfkcaaGreatCode2
import Derived.KernelRfl
namespace Go.Abs.C2
open Go Go.Abs
set_option maxRecDepth 100000 in
theorem t28 : okT 28 = true := by kernel_rfl
set_option maxRecDepth 100000 in
theorem t11 : okT 11 = true := by kernel_rfl
set_option maxRecDepth 100000 in
theorem t17 : okT 17 = true := by kernel_rfl
set_option maxRecDepth 100000 in
theorem t20 : okT 20 = true := by kernel_rfl
set_option maxRecDepth 100000 in
theorem t12 : okT 12 = true := by kernel_rfl
set_option maxRecDepth 100000 in
theorem t33 : okT 33 = true := by kernel_rfl
end Go.Abs.C2
