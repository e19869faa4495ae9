import Derived.Test.YtfhcoiogdgfkcaaGreatCodeB
import Derived.KernelRfl
namespace Go.Abs.J
open Go Go.Abs
set_option maxRecDepth 100000 in
theorem t4_27 : okT 4 27 = true := by kernel_rfl
set_option maxRecDepth 100000 in
theorem t4_29 : okT 4 29 = true := by kernel_rfl
set_option maxRecDepth 100000 in
theorem t4_23 : okT 4 23 = true := by kernel_rfl
set_option maxRecDepth 100000 in
theorem t4_7 : okT 4 7 = true := by kernel_rfl
set_option maxRecDepth 100000 in
theorem t4_24 : okT 4 24 = true := by kernel_rfl
set_option maxRecDepth 100000 in
theorem t4_32 : okT 4 32 = true := by kernel_rfl
end Go.Abs.J
