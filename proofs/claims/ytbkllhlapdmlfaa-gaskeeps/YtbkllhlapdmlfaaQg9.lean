/-
  What the last text of this claim leans on, part 9: Ga7.
-/
import Derived.Test.YtbkllhlapdmlfaaQg6
namespace Go.Proofs.Ytbkllhlapdmlfaa
open Go.RowKit
set_option linter.unusedVariables false
/-- A cell's number, each bit so many further. -/
def tnG (K b c : Nat) : Nat := c % 2 ^ (K - b) * 2 ^ b + c / 2 ^ (K - b)
theorem tn_43 : ∀ c : Fin 16, bits .and .u8 (bits .or .u8 ((c.val : Int) * 8) ((c.val : Int) / 2)) 15 = (tnG 4 3 c.val : Int) := by decide +kernel
set_option maxRecDepth 100000 in
theorem turned_43 (c : Nat) (w : World) (hc : c < 16) : Calls Try.prog 26 #[.int .u8 (c : Int), .int .i64 3, .int .i64 4] w fun e w' => e = .returned (.int .u8 (tnG 4 3 c : Int)) ∧ w' = w.drew := by
  have F := hide' (tn_43 ⟨c, hc⟩)
  go_enter Try.func26, Try.ntmps26
  go_wp2
  go_big_region
  go_wp2
  go_ret
  rw [show (tnG 4 3 c : Int) = _ from F.out.symm]
  exact ⟨rfl, rfl⟩
theorem tn_41 : ∀ c : Fin 16, bits .and .u8 (bits .or .u8 ((c.val : Int) * 2) ((c.val : Int) / 8)) 15 = (tnG 4 1 c.val : Int) := by decide +kernel
set_option maxRecDepth 100000 in
theorem turned_41 (c : Nat) (w : World) (hc : c < 16) : Calls Try.prog 26 #[.int .u8 (c : Int), .int .i64 1, .int .i64 4] w fun e w' => e = .returned (.int .u8 (tnG 4 1 c : Int)) ∧ w' = w.drew := by
  have F := hide' (tn_41 ⟨c, hc⟩)
  go_enter Try.func26, Try.ntmps26
  go_wp2
  go_big_region
  go_wp2
  go_ret
  rw [show (tnG 4 1 c : Int) = _ from F.out.symm]
  exact ⟨rfl, rfl⟩
theorem tn_42 : ∀ c : Fin 16, bits .and .u8 (bits .or .u8 ((c.val : Int) * 4) ((c.val : Int) / 4)) 15 = (tnG 4 2 c.val : Int) := by decide +kernel
set_option maxRecDepth 100000 in
theorem turned_42 (c : Nat) (w : World) (hc : c < 16) : Calls Try.prog 26 #[.int .u8 (c : Int), .int .i64 2, .int .i64 4] w fun e w' => e = .returned (.int .u8 (tnG 4 2 c : Int)) ∧ w' = w.drew := by
  have F := hide' (tn_42 ⟨c, hc⟩)
  go_enter Try.func26, Try.ntmps26
  go_wp2
  go_big_region
  go_wp2
  go_ret
  rw [show (tnG 4 2 c : Int) = _ from F.out.symm]
  exact ⟨rfl, rfl⟩
theorem tn_65 : ∀ c : Fin 64, bits .and .u8 (bits .or .u8 ((c.val : Int) * 32 % 256) ((c.val : Int) / 2)) 63 = (tnG 6 5 c.val : Int) := by decide +kernel
set_option maxRecDepth 100000 in
theorem turned_65 (c : Nat) (w : World) (hc : c < 64) : Calls Try.prog 26 #[.int .u8 (c : Int), .int .i64 5, .int .i64 6] w fun e w' => e = .returned (.int .u8 (tnG 6 5 c : Int)) ∧ w' = w.drew := by
  have F := hide' (tn_65 ⟨c, hc⟩)
  go_enter Try.func26, Try.ntmps26
  go_wp2
  go_big_region
  go_wp2
  go_ret
  rw [show (tnG 6 5 c : Int) = _ from F.out.symm]
  exact ⟨rfl, rfl⟩
theorem tn_61 : ∀ c : Fin 64, bits .and .u8 (bits .or .u8 ((c.val : Int) * 2) ((c.val : Int) / 32)) 63 = (tnG 6 1 c.val : Int) := by decide +kernel
set_option maxRecDepth 100000 in
theorem turned_61 (c : Nat) (w : World) (hc : c < 64) : Calls Try.prog 26 #[.int .u8 (c : Int), .int .i64 1, .int .i64 6] w fun e w' => e = .returned (.int .u8 (tnG 6 1 c : Int)) ∧ w' = w.drew := by
  have F := hide' (tn_61 ⟨c, hc⟩)
  go_enter Try.func26, Try.ntmps26
  go_wp2
  go_big_region
  go_wp2
  go_ret
  rw [show (tnG 6 1 c : Int) = _ from F.out.symm]
  exact ⟨rfl, rfl⟩
end Go.Proofs.Ytbkllhlapdmlfaa

