import Derived.Test.YtfhcoiogdgfkcaaGreatCode3
import Derived.KernelRfl
namespace Go.Abs.C3
open Go Go.Abs
set_option maxRecDepth 100000 in
theorem t23 : okT 23 = true := by kernel_rfl
set_option maxRecDepth 100000 in
theorem t7 : okT 7 = true := by kernel_rfl
set_option maxRecDepth 100000 in
theorem t24 : okT 24 = true := by kernel_rfl
end Go.Abs.C3
