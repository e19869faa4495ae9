import Derived.Test.YtfhcoiogdgfkcaaGreatCode2
import Derived.KernelRfl
namespace Go.Abs.C2
open Go Go.Abs
set_option maxRecDepth 100000 in
theorem t30 : okT 30 = true := by kernel_rfl
set_option maxRecDepth 100000 in
theorem t31 : okT 31 = true := by kernel_rfl
set_option maxRecDepth 100000 in
theorem t22 : okT 22 = true := by kernel_rfl
set_option maxRecDepth 100000 in
theorem t1 : okT 1 = true := by kernel_rfl
set_option maxRecDepth 100000 in
theorem t9 : okT 9 = true := by kernel_rfl
set_option maxRecDepth 100000 in
theorem t18 : okT 18 = true := by kernel_rfl
set_option maxRecDepth 100000 in
theorem t15 : okT 15 = true := by kernel_rfl
end Go.Abs.C2
