import Derived.Test.YtfhcoiogdgfkcaaGreatCodeB
import Derived.KernelRfl
namespace Go.Abs.J
open Go Go.Abs
set_option maxRecDepth 100000 in
theorem t2_27 : okT 2 27 = true := by kernel_rfl
set_option maxRecDepth 100000 in
theorem t2_29 : okT 2 29 = true := by kernel_rfl
set_option maxRecDepth 100000 in
theorem t2_23 : okT 2 23 = true := by kernel_rfl
set_option maxRecDepth 100000 in
theorem t2_7 : okT 2 7 = true := by kernel_rfl
set_option maxRecDepth 100000 in
theorem t2_24 : okT 2 24 = true := by kernel_rfl
set_option maxRecDepth 100000 in
theorem t2_32 : okT 2 32 = true := by kernel_rfl
end Go.Abs.J
