import Derived.Test.YtfhcoiogdgfkcaaGreatCodeB
import Derived.KernelRfl
namespace Go.Abs.J
open Go Go.Abs
set_option maxRecDepth 100000 in
theorem t3_28 : okT 3 28 = true := by kernel_rfl
set_option maxRecDepth 100000 in
theorem t3_11 : okT 3 11 = true := by kernel_rfl
set_option maxRecDepth 100000 in
theorem t3_17 : okT 3 17 = true := by kernel_rfl
set_option maxRecDepth 100000 in
theorem t3_20 : okT 3 20 = true := by kernel_rfl
set_option maxRecDepth 100000 in
theorem t3_12 : okT 3 12 = true := by kernel_rfl
set_option maxRecDepth 100000 in
theorem t3_33 : okT 3 33 = true := by kernel_rfl
set_option maxRecDepth 100000 in
theorem t3_25 : okT 3 25 = true := by kernel_rfl
set_option maxRecDepth 100000 in
theorem t3_19 : okT 3 19 = true := by kernel_rfl
set_option maxRecDepth 100000 in
theorem t3_10 : okT 3 10 = true := by kernel_rfl
set_option maxRecDepth 100000 in
theorem t3_8 : okT 3 8 = true := by kernel_rfl
set_option maxRecDepth 100000 in
theorem t3_4 : okT 3 4 = true := by kernel_rfl
set_option maxRecDepth 100000 in
theorem t3_13 : okT 3 13 = true := by kernel_rfl
end Go.Abs.J
