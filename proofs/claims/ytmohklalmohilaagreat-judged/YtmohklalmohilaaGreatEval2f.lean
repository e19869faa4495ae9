import Derived.Test.YtmohklalmohilaaGreatCodeB
import Derived.KernelRfl
namespace Go.Abs.J
open Go Go.Abs
set_option maxRecDepth 100000 in
theorem t2_0 : okT 2 0 = true := by kernel_rfl
set_option maxRecDepth 100000 in
theorem t2_3 : okT 2 3 = true := by kernel_rfl
set_option maxRecDepth 100000 in
theorem t2_8 : okT 2 8 = true := by kernel_rfl
set_option maxRecDepth 100000 in
theorem t2_10 : okT 2 10 = true := by kernel_rfl
set_option maxRecDepth 100000 in
theorem t2_11 : okT 2 11 = true := by kernel_rfl
set_option maxRecDepth 100000 in
theorem t2_14 : okT 2 14 = true := by kernel_rfl
set_option maxRecDepth 100000 in
theorem t2_15 : okT 2 15 = true := by kernel_rfl
set_option maxRecDepth 100000 in
theorem t2_17 : okT 2 17 = true := by kernel_rfl
set_option maxRecDepth 100000 in
theorem t2_18 : okT 2 18 = true := by kernel_rfl
set_option maxRecDepth 100000 in
theorem t2_20 : okT 2 20 = true := by kernel_rfl
set_option maxRecDepth 100000 in
theorem t2_24 : okT 2 24 = true := by kernel_rfl
set_option maxRecDepth 100000 in
theorem t2_26 : okT 2 26 = true := by kernel_rfl
set_option maxRecDepth 100000 in
theorem t2_33 : okT 2 33 = true := by kernel_rfl
end Go.Abs.J
