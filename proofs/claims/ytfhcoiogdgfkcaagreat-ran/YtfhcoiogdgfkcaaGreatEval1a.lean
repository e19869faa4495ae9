import Derived.Test.YtfhcoiogdgfkcaaGreatCodeB
import Derived.KernelRfl
namespace Go.Abs.J
open Go Go.Abs
set_option maxRecDepth 100000 in
theorem t1_28 : okT 1 28 = true := by kernel_rfl
set_option maxRecDepth 100000 in
theorem t1_11 : okT 1 11 = true := by kernel_rfl
set_option maxRecDepth 100000 in
theorem t1_17 : okT 1 17 = true := by kernel_rfl
set_option maxRecDepth 100000 in
theorem t1_20 : okT 1 20 = true := by kernel_rfl
set_option maxRecDepth 100000 in
theorem t1_12 : okT 1 12 = true := by kernel_rfl
set_option maxRecDepth 100000 in
theorem t1_33 : okT 1 33 = true := by kernel_rfl
set_option maxRecDepth 100000 in
theorem t1_25 : okT 1 25 = true := by kernel_rfl
set_option maxRecDepth 100000 in
theorem t1_19 : okT 1 19 = true := by kernel_rfl
set_option maxRecDepth 100000 in
theorem t1_10 : okT 1 10 = true := by kernel_rfl
set_option maxRecDepth 100000 in
theorem t1_8 : okT 1 8 = true := by kernel_rfl
set_option maxRecDepth 100000 in
theorem t1_4 : okT 1 4 = true := by kernel_rfl
set_option maxRecDepth 100000 in
theorem t1_13 : okT 1 13 = true := by kernel_rfl
end Go.Abs.J
