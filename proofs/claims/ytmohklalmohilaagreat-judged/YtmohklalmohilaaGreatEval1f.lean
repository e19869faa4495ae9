import Derived.Test.YtmohklalmohilaaGreatCodeB
import Derived.KernelRfl
namespace Go.Abs.J
open Go Go.Abs
set_option maxRecDepth 100000 in
theorem t1_0 : okT 1 0 = true := by kernel_rfl
set_option maxRecDepth 100000 in
theorem t1_3 : okT 1 3 = true := by kernel_rfl
set_option maxRecDepth 100000 in
theorem t1_8 : okT 1 8 = true := by kernel_rfl
set_option maxRecDepth 100000 in
theorem t1_10 : okT 1 10 = true := by kernel_rfl
set_option maxRecDepth 100000 in
theorem t1_11 : okT 1 11 = true := by kernel_rfl
set_option maxRecDepth 100000 in
theorem t1_14 : okT 1 14 = true := by kernel_rfl
set_option maxRecDepth 100000 in
theorem t1_15 : okT 1 15 = true := by kernel_rfl
set_option maxRecDepth 100000 in
theorem t1_17 : okT 1 17 = true := by kernel_rfl
set_option maxRecDepth 100000 in
theorem t1_18 : okT 1 18 = true := by kernel_rfl
set_option maxRecDepth 100000 in
theorem t1_20 : okT 1 20 = true := by kernel_rfl
set_option maxRecDepth 100000 in
theorem t1_24 : okT 1 24 = true := by kernel_rfl
set_option maxRecDepth 100000 in
theorem t1_26 : okT 1 26 = true := by kernel_rfl
set_option maxRecDepth 100000 in
theorem t1_33 : okT 1 33 = true := by kernel_rfl
end Go.Abs.J
