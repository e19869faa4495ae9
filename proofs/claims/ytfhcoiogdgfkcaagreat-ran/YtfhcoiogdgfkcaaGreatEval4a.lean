import Derived.Test.YtfhcoiogdgfkcaaGreatCodeB
import Derived.KernelRfl
namespace Go.Abs.J
open Go Go.Abs
set_option maxRecDepth 100000 in
theorem t4_28 : okT 4 28 = true := by kernel_rfl
set_option maxRecDepth 100000 in
theorem t4_11 : okT 4 11 = true := by kernel_rfl
set_option maxRecDepth 100000 in
theorem t4_17 : okT 4 17 = true := by kernel_rfl
set_option maxRecDepth 100000 in
theorem t4_20 : okT 4 20 = true := by kernel_rfl
set_option maxRecDepth 100000 in
theorem t4_12 : okT 4 12 = true := by kernel_rfl
set_option maxRecDepth 100000 in
theorem t4_33 : okT 4 33 = true := by kernel_rfl
set_option maxRecDepth 100000 in
theorem t4_25 : okT 4 25 = true := by kernel_rfl
set_option maxRecDepth 100000 in
theorem t4_19 : okT 4 19 = true := by kernel_rfl
set_option maxRecDepth 100000 in
theorem t4_10 : okT 4 10 = true := by kernel_rfl
set_option maxRecDepth 100000 in
theorem t4_8 : okT 4 8 = true := by kernel_rfl
set_option maxRecDepth 100000 in
theorem t4_4 : okT 4 4 = true := by kernel_rfl
set_option maxRecDepth 100000 in
theorem t4_13 : okT 4 13 = true := by kernel_rfl
end Go.Abs.J
