import Derived.Test.YtmohklalmohilaaGreatCodeB
import Derived.KernelRfl
namespace Go.Abs.J
open Go Go.Abs
set_option maxRecDepth 100000 in
theorem t3_0 : okT 3 0 = true := by kernel_rfl
set_option maxRecDepth 100000 in
theorem t3_3 : okT 3 3 = true := by kernel_rfl
set_option maxRecDepth 100000 in
theorem t3_8 : okT 3 8 = true := by kernel_rfl
set_option maxRecDepth 100000 in
theorem t3_10 : okT 3 10 = true := by kernel_rfl
set_option maxRecDepth 100000 in
theorem t3_11 : okT 3 11 = true := by kernel_rfl
set_option maxRecDepth 100000 in
theorem t3_14 : okT 3 14 = true := by kernel_rfl
set_option maxRecDepth 100000 in
theorem t3_15 : okT 3 15 = true := by kernel_rfl
set_option maxRecDepth 100000 in
theorem t3_17 : okT 3 17 = true := by kernel_rfl
set_option maxRecDepth 100000 in
theorem t3_18 : okT 3 18 = true := by kernel_rfl
set_option maxRecDepth 100000 in
theorem t3_20 : okT 3 20 = true := by kernel_rfl
set_option maxRecDepth 100000 in
theorem t3_24 : okT 3 24 = true := by kernel_rfl
set_option maxRecDepth 100000 in
theorem t3_26 : okT 3 26 = true := by kernel_rfl
set_option maxRecDepth 100000 in
theorem t3_33 : okT 3 33 = true := by kernel_rfl
end Go.Abs.J
