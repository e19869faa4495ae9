import Derived.Test.YtfhcoiogdgfkcaaGreatCode2
import Derived.KernelRfl
namespace Go.Abs.C2
open Go Go.Abs
set_option maxRecDepth 100000 in
theorem t32 : okT 32 = true := by kernel_rfl
set_option maxRecDepth 100000 in
theorem t5 : okT 5 = true := by kernel_rfl
set_option maxRecDepth 100000 in
theorem t26 : okT 26 = true := by kernel_rfl
set_option maxRecDepth 100000 in
theorem t14 : okT 14 = true := by kernel_rfl
end Go.Abs.C2
