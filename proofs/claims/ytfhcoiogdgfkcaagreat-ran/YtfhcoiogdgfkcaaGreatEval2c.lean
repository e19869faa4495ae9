import Derived.Test.YtfhcoiogdgfkcaaGreatCodeB
import Derived.KernelRfl
namespace Go.Abs.J
open Go Go.Abs
set_option maxRecDepth 100000 in
theorem t2_5 : okT 2 5 = true := by kernel_rfl
set_option maxRecDepth 100000 in
theorem t2_26 : okT 2 26 = true := by kernel_rfl
set_option maxRecDepth 100000 in
theorem t2_14 : okT 2 14 = true := by kernel_rfl
set_option maxRecDepth 100000 in
theorem t2_30 : okT 2 30 = true := by kernel_rfl
set_option maxRecDepth 100000 in
theorem t2_31 : okT 2 31 = true := by kernel_rfl
set_option maxRecDepth 100000 in
theorem t2_22 : okT 2 22 = true := by kernel_rfl
set_option maxRecDepth 100000 in
theorem t2_1 : okT 2 1 = true := by kernel_rfl
set_option maxRecDepth 100000 in
theorem t2_9 : okT 2 9 = true := by kernel_rfl
set_option maxRecDepth 100000 in
theorem t2_18 : okT 2 18 = true := by kernel_rfl
set_option maxRecDepth 100000 in
theorem t2_15 : okT 2 15 = true := by kernel_rfl
set_option maxRecDepth 100000 in
theorem t2_3 : okT 2 3 = true := by kernel_rfl
set_option maxRecDepth 100000 in
theorem t2_21 : okT 2 21 = true := by kernel_rfl
set_option maxRecDepth 100000 in
theorem t2_16 : okT 2 16 = true := by kernel_rfl
set_option maxRecDepth 100000 in
theorem t2_2 : okT 2 2 = true := by kernel_rfl
set_option maxRecDepth 100000 in
theorem t2_6 : okT 2 6 = true := by kernel_rfl
set_option maxRecDepth 100000 in
theorem t2_0 : okT 2 0 = true := by kernel_rfl
end Go.Abs.J
