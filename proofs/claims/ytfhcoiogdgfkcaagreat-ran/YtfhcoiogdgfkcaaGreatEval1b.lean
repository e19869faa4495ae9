import Derived.Test.YtfhcoiogdgfkcaaGreatCodeB
import Derived.KernelRfl
namespace Go.Abs.J
open Go Go.Abs
set_option maxRecDepth 100000 in
theorem t1_27 : okT 1 27 = true := by kernel_rfl
set_option maxRecDepth 100000 in
theorem t1_29 : okT 1 29 = true := by kernel_rfl
set_option maxRecDepth 100000 in
theorem t1_23 : okT 1 23 = true := by kernel_rfl
set_option maxRecDepth 100000 in
theorem t1_7 : okT 1 7 = true := by kernel_rfl
set_option maxRecDepth 100000 in
theorem t1_24 : okT 1 24 = true := by kernel_rfl
set_option maxRecDepth 100000 in
theorem t1_32 : okT 1 32 = true := by kernel_rfl
end Go.Abs.J
