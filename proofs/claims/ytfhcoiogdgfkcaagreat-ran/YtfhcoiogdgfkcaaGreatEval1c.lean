import Derived.Test.YtfhcoiogdgfkcaaGreatCodeB
import Derived.KernelRfl
namespace Go.Abs.J
open Go Go.Abs
set_option maxRecDepth 100000 in
theorem t1_5 : okT 1 5 = true := by kernel_rfl
set_option maxRecDepth 100000 in
theorem t1_26 : okT 1 26 = true := by kernel_rfl
set_option maxRecDepth 100000 in
theorem t1_14 : okT 1 14 = true := by kernel_rfl
set_option maxRecDepth 100000 in
theorem t1_30 : okT 1 30 = true := by kernel_rfl
set_option maxRecDepth 100000 in
theorem t1_31 : okT 1 31 = true := by kernel_rfl
set_option maxRecDepth 100000 in
theorem t1_22 : okT 1 22 = true := by kernel_rfl
set_option maxRecDepth 100000 in
theorem t1_1 : okT 1 1 = true := by kernel_rfl
set_option maxRecDepth 100000 in
theorem t1_9 : okT 1 9 = true := by kernel_rfl
set_option maxRecDepth 100000 in
theorem t1_18 : okT 1 18 = true := by kernel_rfl
set_option maxRecDepth 100000 in
theorem t1_15 : okT 1 15 = true := by kernel_rfl
set_option maxRecDepth 100000 in
theorem t1_3 : okT 1 3 = true := by kernel_rfl
set_option maxRecDepth 100000 in
theorem t1_21 : okT 1 21 = true := by kernel_rfl
set_option maxRecDepth 100000 in
theorem t1_16 : okT 1 16 = true := by kernel_rfl
set_option maxRecDepth 100000 in
theorem t1_2 : okT 1 2 = true := by kernel_rfl
set_option maxRecDepth 100000 in
theorem t1_6 : okT 1 6 = true := by kernel_rfl
set_option maxRecDepth 100000 in
theorem t1_0 : okT 1 0 = true := by kernel_rfl
end Go.Abs.J
