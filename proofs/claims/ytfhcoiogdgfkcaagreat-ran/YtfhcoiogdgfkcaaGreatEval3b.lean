import Derived.Test.YtfhcoiogdgfkcaaGreatCodeB
import Derived.KernelRfl
namespace Go.Abs.J
open Go Go.Abs
set_option maxRecDepth 100000 in
theorem t3_27 : okT 3 27 = true := by kernel_rfl
set_option maxRecDepth 100000 in
theorem t3_29 : okT 3 29 = true := by kernel_rfl
set_option maxRecDepth 100000 in
theorem t3_23 : okT 3 23 = true := by kernel_rfl
set_option maxRecDepth 100000 in
theorem t3_7 : okT 3 7 = true := by kernel_rfl
set_option maxRecDepth 100000 in
theorem t3_24 : okT 3 24 = true := by kernel_rfl
set_option maxRecDepth 100000 in
theorem t3_32 : okT 3 32 = true := by kernel_rfl
end Go.Abs.J
