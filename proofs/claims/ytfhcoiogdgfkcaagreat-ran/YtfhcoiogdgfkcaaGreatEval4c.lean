import Derived.Test.YtfhcoiogdgfkcaaGreatCode4
import Derived.KernelRfl
namespace Go.Abs.C4
open Go Go.Abs
set_option maxRecDepth 100000 in
theorem t27 : okT 27 = true := by kernel_rfl
set_option maxRecDepth 100000 in
theorem t29 : okT 29 = true := by kernel_rfl
end Go.Abs.C4
