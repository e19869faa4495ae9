import Derived.Test.YtfhcoiogdgfkcaaGreatCodeB
import Derived.KernelRfl
namespace Go.Abs.J
open Go Go.Abs
set_option maxRecDepth 100000 in
theorem t3_5 : okT 3 5 = true := by kernel_rfl
set_option maxRecDepth 100000 in
theorem t3_26 : okT 3 26 = true := by kernel_rfl
set_option maxRecDepth 100000 in
theorem t3_14 : okT 3 14 = true := by kernel_rfl
set_option maxRecDepth 100000 in
theorem t3_30 : okT 3 30 = true := by kernel_rfl
set_option maxRecDepth 100000 in
theorem t3_31 : okT 3 31 = true := by kernel_rfl
set_option maxRecDepth 100000 in
theorem t3_22 : okT 3 22 = true := by kernel_rfl
set_option maxRecDepth 100000 in
theorem t3_1 : okT 3 1 = true := by kernel_rfl
set_option maxRecDepth 100000 in
theorem t3_9 : okT 3 9 = true := by kernel_rfl
set_option maxRecDepth 100000 in
theorem t3_18 : okT 3 18 = true := by kernel_rfl
set_option maxRecDepth 100000 in
theorem t3_15 : okT 3 15 = true := by kernel_rfl
set_option maxRecDepth 100000 in
theorem t3_3 : okT 3 3 = true := by kernel_rfl
set_option maxRecDepth 100000 in
theorem t3_21 : okT 3 21 = true := by kernel_rfl
set_option maxRecDepth 100000 in
theorem t3_16 : okT 3 16 = true := by kernel_rfl
set_option maxRecDepth 100000 in
theorem t3_2 : okT 3 2 = true := by kernel_rfl
set_option maxRecDepth 100000 in
theorem t3_6 : okT 3 6 = true := by kernel_rfl
set_option maxRecDepth 100000 in
theorem t3_0 : okT 3 0 = true := by kernel_rfl
end Go.Abs.J
