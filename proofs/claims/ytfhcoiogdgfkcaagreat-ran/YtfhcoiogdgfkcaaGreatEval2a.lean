import Derived.Test.YtfhcoiogdgfkcaaGreatCodeB
import Derived.KernelRfl
namespace Go.Abs.J
open Go Go.Abs
set_option maxRecDepth 100000 in
theorem t2_28 : okT 2 28 = true := by kernel_rfl
set_option maxRecDepth 100000 in
theorem t2_11 : okT 2 11 = true := by kernel_rfl
set_option maxRecDepth 100000 in
theorem t2_17 : okT 2 17 = true := by kernel_rfl
set_option maxRecDepth 100000 in
theorem t2_20 : okT 2 20 = true := by kernel_rfl
set_option maxRecDepth 100000 in
theorem t2_12 : okT 2 12 = true := by kernel_rfl
set_option maxRecDepth 100000 in
theorem t2_33 : okT 2 33 = true := by kernel_rfl
set_option maxRecDepth 100000 in
theorem t2_25 : okT 2 25 = true := by kernel_rfl
set_option maxRecDepth 100000 in
theorem t2_19 : okT 2 19 = true := by kernel_rfl
set_option maxRecDepth 100000 in
theorem t2_10 : okT 2 10 = true := by kernel_rfl
set_option maxRecDepth 100000 in
theorem t2_8 : okT 2 8 = true := by kernel_rfl
set_option maxRecDepth 100000 in
theorem t2_4 : okT 2 4 = true := by kernel_rfl
set_option maxRecDepth 100000 in
theorem t2_13 : okT 2 13 = true := by kernel_rfl
end Go.Abs.J
