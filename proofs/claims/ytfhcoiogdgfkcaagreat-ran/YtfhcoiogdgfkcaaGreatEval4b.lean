import Derived.Test.YtfhcoiogdgfkcaaGreatCode4
import Derived.KernelRfl
namespace Go.Abs.C4
open Go Go.Abs
set_option maxRecDepth 100000 in
theorem t25 : okT 25 = true := by kernel_rfl
set_option maxRecDepth 100000 in
theorem t19 : okT 19 = true := by kernel_rfl
set_option maxRecDepth 100000 in
theorem t10 : okT 10 = true := by kernel_rfl
set_option maxRecDepth 100000 in
theorem t8 : okT 8 = true := by kernel_rfl
set_option maxRecDepth 100000 in
theorem t4 : okT 4 = true := by kernel_rfl
set_option maxRecDepth 100000 in
theorem t13 : okT 13 = true := by kernel_rfl
end Go.Abs.C4
