/-
  rules.printLine, rules.Print.
-/
import Derived.Test.YtpbcgojfpmpgpaaDoorPr6
import Derived.Test.YtpbcgojfpmpgpaaDoorShelf
import Derived.WalkSmall
import Derived.Deep.RegionWith
import Derived.Lib.ItoaLen
namespace Go.Proofs.YtpbcgojfpmpgpaaDoor
open Go.RowKit
set_option linter.unusedVariables false

/-- The library's table of powers reads as it is written. -/
def PowT (w : World) : Prop := Lib.TabIs Tryd.prog w "internal/strconv.uint64pow10" .u64 Lib.pow10Tab
theorem powAt : Tryd.prog.globalNamed "internal/strconv.uint64pow10" = some 1 := by kernel_rfl
theorem PowT.lt {w : World} (h : PowT w) : 1 < w.heap.size := by
  unfold PowT Lib.TabIs World.var? at h
  simp only [powAt, Option.bind_some] at h
  rcases Nat.lt_or_ge 1 w.heap.size with q | q
  · exact q
  · rw [Array.getElem?_eq_none q] at h; cases h
theorem PowT.below {w w' : World} (h : PowT w) (hb : Below w.heap.size w w') : PowT w' := var?_below hb powAt h.lt h
theorem below_grow (w : World) (k : Nat) (os : Array Obj) : Below w.heap.size w (Sort.grow (w.drewN k) os) :=
  ⟨rfl, rfl, rfl, by show w.heap.size ≤ (w.heap ++ os).size; simp, fun i hi => by show (w.heap ++ os)[i]? = w.heap[i]?; rw [Array.getElem?_append_left hi]⟩

set_option maxHeartbeats 1600000 in
theorem printLine_W (o : Out) (a : Option Addr) (n c : Nat) (w : World) (hR : ArgR w o a n c) (hP : PowT w) (h1 : o.states = 2) (h2 : o.radius = 1) (h8 : n = 8) (hb : ∀ k, k < o.table.length → 0 ≤ o.table.getD k 0 ∧ o.table.getD k 0 < 2) :
    Calls Tryd.prog 47 #[o.val (.slice a n c)] w fun e w' => e = .returned (.string (⟨#[87]⟩ ++ ⟨(Lib.itoa (tabNum o.table 8 : Int)).toArray⟩)) ∧ Below w.heap.size w w' := by
  have k1 : (o.states == 2) = true := by simp [h1]
  have k2 : (o.radius == 1) = true := by simp [h2]
  have H8 := hide' h8
  have HP := hide' hP
  have n8 : n ≤ 8 := by omega
  have hlt := tabNum_lt o.table hb 8 (by rw [← hR.len]; omega)
  clear h1 h2 h8 hP
  unfold Out.val
  go_enter Tryd.func47, Tryd.ntmps47
  go_wp2_with fail
  refine (numberOf_any o a n c _ (hR.alloc _) H8.out hb).mono ?_
  rintro e w1 ⟨rfl, rfl⟩
  go_wp2_with fail
  refine (Tryd.strconv_Itoa (tabNum o.table 8 : Int) (by omega) (by omega) _ (HP.out.below ((Below.refl _ _).alloc (Nat.le_refl _) _))).mono ?_
  rintro e w1 ⟨rfl, k, os, rfl⟩
  have B := hide' (below_grow (w.alloc (.cells #[.int .i64 o.kind, .int .i64 o.born, .int .i64 o.stay, .int .i64 o.states, .int .i64 o.radius, .slice a n c, .string o.turns] 24)) k os)
  have hl := Lib.itoa_length_le (tabNum o.table 8 : Int) (by omega) (by omega)
  go_wp2
  go_ret
  exact ⟨rfl, ((Below.refl _ _).alloc (Nat.le_refl _) _).trans (B.out.mono (by simp))⟩
end Go.Proofs.YtpbcgojfpmpgpaaDoor
