import Derived.Test.YtfhcoiogdgfkcaaGreatCode3
import Derived.KernelRfl
namespace Go.Abs.C3
open Go Go.Abs
set_option maxRecDepth 100000 in
theorem t3 : okT 3 = true := by kernel_rfl
set_option maxRecDepth 100000 in
theorem t21 : okT 21 = true := by kernel_rfl
set_option maxRecDepth 100000 in
theorem t16 : okT 16 = true := by kernel_rfl
set_option maxRecDepth 100000 in
theorem t2 : okT 2 = true := by kernel_rfl
set_option maxRecDepth 100000 in
theorem t6 : okT 6 = true := by kernel_rfl
set_option maxRecDepth 100000 in
theorem t0 : okT 0 = true := by kernel_rfl
end Go.Abs.C3
