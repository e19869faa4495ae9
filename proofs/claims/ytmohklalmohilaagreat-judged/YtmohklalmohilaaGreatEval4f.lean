import Derived.Test.YtmohklalmohilaaGreatCodeB
import Derived.KernelRfl
namespace Go.Abs.J
open Go Go.Abs
set_option maxRecDepth 100000 in
theorem t4_0 : okT 4 0 = true := by kernel_rfl
set_option maxRecDepth 100000 in
theorem t4_3 : okT 4 3 = true := by kernel_rfl
set_option maxRecDepth 100000 in
theorem t4_8 : okT 4 8 = true := by kernel_rfl
set_option maxRecDepth 100000 in
theorem t4_10 : okT 4 10 = true := by kernel_rfl
set_option maxRecDepth 100000 in
theorem t4_11 : okT 4 11 = true := by kernel_rfl
set_option maxRecDepth 100000 in
theorem t4_14 : okT 4 14 = true := by kernel_rfl
set_option maxRecDepth 100000 in
theorem t4_15 : okT 4 15 = true := by kernel_rfl
set_option maxRecDepth 100000 in
theorem t4_17 : okT 4 17 = true := by kernel_rfl
set_option maxRecDepth 100000 in
theorem t4_18 : okT 4 18 = true := by kernel_rfl
set_option maxRecDepth 100000 in
theorem t4_20 : okT 4 20 = true := by kernel_rfl
set_option maxRecDepth 100000 in
theorem t4_24 : okT 4 24 = true := by kernel_rfl
set_option maxRecDepth 100000 in
theorem t4_26 : okT 4 26 = true := by kernel_rfl
set_option maxRecDepth 100000 in
theorem t4_33 : okT 4 33 = true := by kernel_rfl
end Go.Abs.J
