import Derived.Test.YtfhcoiogdgfkcaaGreatCodeB
import Derived.KernelRfl
namespace Go.Abs.J
open Go Go.Abs
set_option maxRecDepth 100000 in
theorem t4_5 : okT 4 5 = true := by kernel_rfl
set_option maxRecDepth 100000 in
theorem t4_26 : okT 4 26 = true := by kernel_rfl
set_option maxRecDepth 100000 in
theorem t4_14 : okT 4 14 = true := by kernel_rfl
set_option maxRecDepth 100000 in
theorem t4_30 : okT 4 30 = true := by kernel_rfl
set_option maxRecDepth 100000 in
theorem t4_31 : okT 4 31 = true := by kernel_rfl
set_option maxRecDepth 100000 in
theorem t4_22 : okT 4 22 = true := by kernel_rfl
set_option maxRecDepth 100000 in
theorem t4_1 : okT 4 1 = true := by kernel_rfl
set_option maxRecDepth 100000 in
theorem t4_9 : okT 4 9 = true := by kernel_rfl
set_option maxRecDepth 100000 in
theorem t4_18 : okT 4 18 = true := by kernel_rfl
set_option maxRecDepth 100000 in
theorem t4_15 : okT 4 15 = true := by kernel_rfl
set_option maxRecDepth 100000 in
theorem t4_3 : okT 4 3 = true := by kernel_rfl
set_option maxRecDepth 100000 in
theorem t4_21 : okT 4 21 = true := by kernel_rfl
set_option maxRecDepth 100000 in
theorem t4_16 : okT 4 16 = true := by kernel_rfl
set_option maxRecDepth 100000 in
theorem t4_2 : okT 4 2 = true := by kernel_rfl
set_option maxRecDepth 100000 in
theorem t4_6 : okT 4 6 = true := by kernel_rfl
set_option maxRecDepth 100000 in
theorem t4_0 : okT 4 0 = true := by kernel_rfl
end Go.Abs.J
