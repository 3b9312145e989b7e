/-
  What the last text of this claim leans on, part 5: Pa1, Pa2, Pa3, Pa4.
-/
import Derived.Test.YtljdidimoagnhaaDoorJv2
import Derived.Test.YtljdidimoagnhaaDoorJv4
namespace Go.Proofs.YtljdidimoagnhaaDoor
open Go.RowKit
set_option linter.unusedVariables false

/-- What the reader holds, its text aside. -/
structure Rv where
  i : Nat
  fl : Int
  wd : Int
  hi : Int
  cs : Value
  rt : Int
  dn : Int
  bg : Int
  tm : Int

def Rv.val (r : Rv) (s : ByteArray) : Nat → Value
  | 0 => .string s
  | 1 => .int .i64 (r.i : Int)
  | 2 => .int .i64 r.fl
  | 3 => .int .i64 r.wd
  | 4 => .int .i64 r.hi
  | 5 => r.cs
  | 6 => .int .i64 r.rt
  | 7 => .int .i64 r.dn
  | 8 => .int .i64 r.bg
  | 9 => .int .i64 r.tm
  | _ => .bool false

structure RAt (b : Nat) (s : ByteArray) (r : Rv) (w : World) : Prop where
  cell : ∀ k, k < 10 → w.cell? ⟨b, k, none⟩ = some (r.val s k)
  fz : ∀ k, k < 10 → w.frozen? ⟨b, k, none⟩ = false

theorem RAt.lt {b : Nat} {s : ByteArray} {r : Rv} {w : World} (h : RAt b s r w) : b < w.heap.size := by
  rcases Nat.lt_or_ge b w.heap.size with k | k
  · exact k
  · have := h.cell 0 (by omega); simp [World.cell?, Array.getElem?_eq_none k] at this
theorem RAt.block {b : Nat} {s : ByteArray} {r : Rv} {w w' : World} (h : RAt b s r w) (e : w'.heap[b]? = w.heap[b]?) : RAt b s r w' :=
  ⟨fun k hk => (World.cell?_of_block (w := w) (a := ⟨b, k, none⟩) e).trans (h.cell k hk), fun k hk => (World.frozen?_of_block (w := w) (a := ⟨b, k, none⟩) e).trans (h.fz k hk)⟩
theorem RAt.drewN {b : Nat} {s : ByteArray} {r : Rv} {w : World} (h : RAt b s r w) (n : Nat) : RAt b s r (w.drewN n) := h.block rfl
theorem RAt.alloc {b : Nat} {s : ByteArray} {r : Rv} {w : World} (h : RAt b s r w) (o : Obj) : RAt b s r (w.alloc o) := h.block (Below.heap_alloc _ _ _ h.lt)
theorem RAt.setOther {b : Nat} {s : ByteArray} {r : Rv} {w : World} (h : RAt b s r w) {p : Addr} (hp : b ≠ p.block) (u : Value) : RAt b s r (w.setCell p u) := h.block (Below.heap_setCell _ _ _ _ hp)
theorem RAt.below {b : Nat} {s : ByteArray} {r : Rv} {w w' : World} (h : RAt b s r w) (hb : Below w.heap.size w w') : RAt b s r w' := h.block (hb.block b h.lt)
theorem RAt.set {b : Nat} {s : ByteArray} {r r' : Rv} {w : World} (h : RAt b s r w) (k : Nat) (u : Value) (hk : k < 10) (h1 : r'.val s k = u) (h2 : ∀ j, j < 10 → j ≠ k → r'.val s j = r.val s j) : RAt b s r' (w.setCell ⟨b, k, none⟩ u) := by
  refine ⟨fun j hj => ?_, fun j hj => by rw [World.frozen?_setCell]; exact h.fz j hj⟩
  by_cases e : j = k
  · subst e; rw [h1]; exact World.cell?_setCell_same (w := w) (a := ⟨b, j, none⟩) (v := _) (h := h.cell j hj)
  · rw [h2 j hj e]; exact (World.cell?_setCell_other (w := w) (a := ⟨b, k, none⟩) (b := ⟨b, j, none⟩) (v := _) (h := fun q => e (congrArg Addr.off q).symm)).trans (h.cell j hj)

theorem RAt.set_i {b : Nat} {s : ByteArray} {r : Rv} {w : World} (h : RAt b s r w) (x : Nat) : RAt b s { r with i := x } (w.setCell ⟨b, 1, none⟩ (.int .i64 (x : Int))) :=
  h.set 1 _ (by omega) rfl fun j hj hn => by
    match j, hj, hn with
    | 0, _, hn => rfl
    | 1, _, hn => exact absurd rfl hn
    | 2, _, hn => rfl
    | 3, _, hn => rfl
    | 4, _, hn => rfl
    | 5, _, hn => rfl
    | 6, _, hn => rfl
    | 7, _, hn => rfl
    | 8, _, hn => rfl
    | 9, _, hn => rfl
theorem RAt.set_fl {b : Nat} {s : ByteArray} {r : Rv} {w : World} (h : RAt b s r w) (x : Int) : RAt b s { r with fl := x } (w.setCell ⟨b, 2, none⟩ (.int .i64 x)) :=
  h.set 2 _ (by omega) rfl fun j hj hn => by
    match j, hj, hn with
    | 0, _, hn => rfl
    | 1, _, hn => rfl
    | 2, _, hn => exact absurd rfl hn
    | 3, _, hn => rfl
    | 4, _, hn => rfl
    | 5, _, hn => rfl
    | 6, _, hn => rfl
    | 7, _, hn => rfl
    | 8, _, hn => rfl
    | 9, _, hn => rfl
theorem RAt.set_wd {b : Nat} {s : ByteArray} {r : Rv} {w : World} (h : RAt b s r w) (x : Int) : RAt b s { r with wd := x } (w.setCell ⟨b, 3, none⟩ (.int .i64 x)) :=
  h.set 3 _ (by omega) rfl fun j hj hn => by
    match j, hj, hn with
    | 0, _, hn => rfl
    | 1, _, hn => rfl
    | 2, _, hn => rfl
    | 3, _, hn => exact absurd rfl hn
    | 4, _, hn => rfl
    | 5, _, hn => rfl
    | 6, _, hn => rfl
    | 7, _, hn => rfl
    | 8, _, hn => rfl
    | 9, _, hn => rfl
theorem RAt.set_hi {b : Nat} {s : ByteArray} {r : Rv} {w : World} (h : RAt b s r w) (x : Int) : RAt b s { r with hi := x } (w.setCell ⟨b, 4, none⟩ (.int .i64 x)) :=
  h.set 4 _ (by omega) rfl fun j hj hn => by
    match j, hj, hn with
    | 0, _, hn => rfl
    | 1, _, hn => rfl
    | 2, _, hn => rfl
    | 3, _, hn => rfl
    | 4, _, hn => exact absurd rfl hn
    | 5, _, hn => rfl
    | 6, _, hn => rfl
    | 7, _, hn => rfl
    | 8, _, hn => rfl
    | 9, _, hn => rfl
theorem RAt.set_cs {b : Nat} {s : ByteArray} {r : Rv} {w : World} (h : RAt b s r w) (x : Value) : RAt b s { r with cs := x } (w.setCell ⟨b, 5, none⟩ x) :=
  h.set 5 _ (by omega) rfl fun j hj hn => by
    match j, hj, hn with
    | 0, _, hn => rfl
    | 1, _, hn => rfl
    | 2, _, hn => rfl
    | 3, _, hn => rfl
    | 4, _, hn => rfl
    | 5, _, hn => exact absurd rfl hn
    | 6, _, hn => rfl
    | 7, _, hn => rfl
    | 8, _, hn => rfl
    | 9, _, hn => rfl
theorem RAt.set_rt {b : Nat} {s : ByteArray} {r : Rv} {w : World} (h : RAt b s r w) (x : Int) : RAt b s { r with rt := x } (w.setCell ⟨b, 6, none⟩ (.int .i64 x)) :=
  h.set 6 _ (by omega) rfl fun j hj hn => by
    match j, hj, hn with
    | 0, _, hn => rfl
    | 1, _, hn => rfl
    | 2, _, hn => rfl
    | 3, _, hn => rfl
    | 4, _, hn => rfl
    | 5, _, hn => rfl
    | 6, _, hn => exact absurd rfl hn
    | 7, _, hn => rfl
    | 8, _, hn => rfl
    | 9, _, hn => rfl
theorem RAt.set_dn {b : Nat} {s : ByteArray} {r : Rv} {w : World} (h : RAt b s r w) (x : Int) : RAt b s { r with dn := x } (w.setCell ⟨b, 7, none⟩ (.int .i64 x)) :=
  h.set 7 _ (by omega) rfl fun j hj hn => by
    match j, hj, hn with
    | 0, _, hn => rfl
    | 1, _, hn => rfl
    | 2, _, hn => rfl
    | 3, _, hn => rfl
    | 4, _, hn => rfl
    | 5, _, hn => rfl
    | 6, _, hn => rfl
    | 7, _, hn => exact absurd rfl hn
    | 8, _, hn => rfl
    | 9, _, hn => rfl
theorem RAt.set_bg {b : Nat} {s : ByteArray} {r : Rv} {w : World} (h : RAt b s r w) (x : Int) : RAt b s { r with bg := x } (w.setCell ⟨b, 8, none⟩ (.int .i64 x)) :=
  h.set 8 _ (by omega) rfl fun j hj hn => by
    match j, hj, hn with
    | 0, _, hn => rfl
    | 1, _, hn => rfl
    | 2, _, hn => rfl
    | 3, _, hn => rfl
    | 4, _, hn => rfl
    | 5, _, hn => rfl
    | 6, _, hn => rfl
    | 7, _, hn => rfl
    | 8, _, hn => exact absurd rfl hn
    | 9, _, hn => rfl
theorem RAt.set_tm {b : Nat} {s : ByteArray} {r : Rv} {w : World} (h : RAt b s r w) (x : Int) : RAt b s { r with tm := x } (w.setCell ⟨b, 9, none⟩ (.int .i64 x)) :=
  h.set 9 _ (by omega) rfl fun j hj hn => by
    match j, hj, hn with
    | 0, _, hn => rfl
    | 1, _, hn => rfl
    | 2, _, hn => rfl
    | 3, _, hn => rfl
    | 4, _, hn => rfl
    | 5, _, hn => rfl
    | 6, _, hn => rfl
    | 7, _, hn => rfl
    | 8, _, hn => rfl
    | 9, _, hn => exact absurd rfl hn

/-- The ten cells, and that they may be written. -/
structure Ten (b : Nat) (s : ByteArray) (r : Rv) (w : World) : Prop where
  c0 : w.cell? ⟨b, 0, none⟩ = some (.string s)
  c1 : w.cell? ⟨b, 1, none⟩ = some (.int .i64 (r.i : Int))
  c2 : w.cell? ⟨b, 2, none⟩ = some (.int .i64 r.fl)
  c3 : w.cell? ⟨b, 3, none⟩ = some (.int .i64 r.wd)
  c4 : w.cell? ⟨b, 4, none⟩ = some (.int .i64 r.hi)
  c5 : w.cell? ⟨b, 5, none⟩ = some (r.cs)
  c6 : w.cell? ⟨b, 6, none⟩ = some (.int .i64 r.rt)
  c7 : w.cell? ⟨b, 7, none⟩ = some (.int .i64 r.dn)
  c8 : w.cell? ⟨b, 8, none⟩ = some (.int .i64 r.bg)
  c9 : w.cell? ⟨b, 9, none⟩ = some (.int .i64 r.tm)
  f1 : w.frozen? ⟨b, 1, none⟩ = false
  f2 : w.frozen? ⟨b, 2, none⟩ = false
  f3 : w.frozen? ⟨b, 3, none⟩ = false
  f4 : w.frozen? ⟨b, 4, none⟩ = false
  f5 : w.frozen? ⟨b, 5, none⟩ = false
  f6 : w.frozen? ⟨b, 6, none⟩ = false
  f7 : w.frozen? ⟨b, 7, none⟩ = false
  f8 : w.frozen? ⟨b, 8, none⟩ = false
  f9 : w.frozen? ⟨b, 9, none⟩ = false
theorem RAt.ten {b : Nat} {s : ByteArray} {r : Rv} {w : World} (h : RAt b s r w) : Ten b s r w :=
  ⟨h.cell 0 (by omega), h.cell 1 (by omega), h.cell 2 (by omega), h.cell 3 (by omega), h.cell 4 (by omega), h.cell 5 (by omega), h.cell 6 (by omega), h.cell 7 (by omega), h.cell 8 (by omega), h.cell 9 (by omega), h.fz 1 (by omega), h.fz 2 (by omega), h.fz 3 (by omega), h.fz 4 (by omega), h.fz 5 (by omega), h.fz 6 (by omega), h.fz 7 (by omega), h.fz 8 (by omega), h.fz 9 (by omega)⟩

/-- What a method of the reader leaves: the reader so, and nothing else turned. -/
def Left (b : Nat) (s : ByteArray) (r : Rv) (w w' : World) : Prop := RAt b s r w' ∧ Rd b w w'
end Go.Proofs.YtljdidimoagnhaaDoor

namespace Go.Proofs.YtljdidimoagnhaaDoor
open Go.RowKit
set_option linter.unusedVariables false

theorem pfail (b : Nat) (s : ByteArray) (r : Rv) (a : Nat) (A f : Int) (w : World) (hA : A = a) (h : RAt b s r w) :
    Calls Tryd.prog 103 #[.pointer (some ⟨b, 0, none⟩), .int .i64 A, .int .i64 f] w fun e w' => e = .returned (.bool false) ∧ RAt b s { r with i := a, fl := f } w' ∧ Rd b w w' := by
  subst hA
  have H := hide' h
  obtain ⟨c0, c1, c2, c3, c4, c5, c6, c7, c8, c9, f1, f2, f3, f4, f5, f6, f7, f8, f9⟩ := h.ten
  clear h
  go_enter Tryd.func103, Tryd.ntmps103
  go_wp2
  go_ret
  exact ⟨rfl, (H.out.set_i a).set_fl f, ((Rd.refl _ _).set _ _).set _ _⟩

theorem pnext_in (b : Nat) (s : ByteArray) (i : Nat) (w : World) (c0 : w.cell? ⟨b, 0, none⟩ = some (.string s)) (c1 : w.cell? ⟨b, 1, none⟩ = some (.int .i64 (i : Int))) (hi : i < s.size) :
    Calls Tryd.prog 107 #[.pointer (some ⟨b, 0, none⟩)] w fun e w' => e = .returned (.int .u8 (bt s i : Int)) ∧ ∃ n, w' = w.drewN n := by
  have n1 : ((i : Int) == (s.size : Int)) = false := by simp; omega
  rw [← bt_lt s i hi]
  go_enter Tryd.func107, Tryd.ntmps107
  go_wp2
  go_quiet (fail)
  go_wp2
  go_quiet (fail)
  go_wp2
  go_ret
  exact ⟨rfl, _, World.drewN_drewN _ _ _⟩

theorem pnext_end (b : Nat) (s : ByteArray) (i : Nat) (w : World) (c0 : w.cell? ⟨b, 0, none⟩ = some (.string s)) (c1 : w.cell? ⟨b, 1, none⟩ = some (.int .i64 (i : Int))) (hi : i = s.size) :
    Calls Tryd.prog 107 #[.pointer (some ⟨b, 0, none⟩)] w fun e w' => e = .returned (.int .u8 (bt s i : Int)) ∧ ∃ n, w' = w.drewN n := by
  have n1 : ((i : Int) == (s.size : Int)) = true := by simp; omega
  rw [show bt s i = 0 by simp [bt, hi]]
  clear hi
  go_enter Tryd.func107, Tryd.ntmps107
  go_wp2
  go_quiet (fail)
  go_wp2
  go_ret
  exact ⟨rfl, _, rfl⟩

theorem pnext (b : Nat) (s : ByteArray) (r : Rv) (w : World) (h : RAt b s r w) (hi : r.i ≤ s.size) :
    Calls Tryd.prog 107 #[.pointer (some ⟨b, 0, none⟩)] w fun e w' => e = .returned (.int .u8 (bt s r.i : Int)) ∧ ∃ n, w' = w.drewN n := by
  by_cases hl : r.i < s.size
  · exact pnext_in b s r.i w h.ten.c0 h.ten.c1 hl
  · exact pnext_end b s r.i w h.ten.c0 h.ten.c1 (by omega)
end Go.Proofs.YtljdidimoagnhaaDoor

namespace Go.Proofs.YtljdidimoagnhaaDoor
open Go.RowKit
set_option linter.unusedVariables false

theorem RAt.posOf {b : Nat} {s : ByteArray} {r : Rv} {w : World} (h : RAt b s r w) : posOf b w = r.i := by
  unfold Go.Proofs.YtljdidimoagnhaaDoor.posOf; rw [h.ten.c1]; simp

set_option maxHeartbeats 800000 in
theorem pskip (b : Nat) (s : ByteArray) (r : Rv) (w : World) (h : RAt b s r w) (hi : r.i ≤ s.size) (hs : s.size ≤ 40000) :
    Calls Tryd.prog 105 #[.pointer (some ⟨b, 0, none⟩)] w fun e w' => e = .returned (.tuple #[]) ∧ RAt b s { r with i := sk s r.i } w' ∧ Rd b w w' := by
  have H := hide' h
  clear h
  go_enter Tryd.func105, Tryd.ntmps105
  go_wp2
  go_loopw [] (fun wr => ∃ i, RAt b s { r with i := i } wr ∧ Rd b w wr ∧ i ≤ s.size ∧ sk s i = sk s r.i) (fun wr => s.size - posOf b wr)
  case atStart => exact ⟨r.i, H.out, Rd.refl _ _, hi, rfl⟩
  case round =>
    obtain ⟨i, ha, hr, hi', hsk⟩ := hrel
    have HA := hide' ha
    have HR := hide' hr
    have HS := hide' hsk
    obtain ⟨c0, c1, -, -, -, -, -, -, -, -, f1, -, -, -, -, -, -, -, -⟩ := ha.ten
    clear ha hr hsk
    dsimp only at c1
    by_cases q32 : bt s i = 32
    · have n1 : ((bt s i : Int) == 32) = true := by simp; omega
      have hlt : i < s.size := by
        rcases Nat.lt_or_ge i s.size with z | z
        · exact z
        · simp [bt, show ¬ i < s.size by omega] at q32
      have hb : blankAt s i = true := blankAt_true.2 ⟨hlt, Or.inl q32⟩
      have HB := hide' hb
      clear hb q32
      go_wp2_with fail
      refine (pnext b s _ _ HA.out hi').mono ?_
      rintro e w1 ⟨rfl, n, rfl⟩
      go_wp2
      go_roundw
      case rel => exact ⟨i + 1, by rw [show (i : Int) + 1 = ((i + 1 : Nat) : Int) by omega]; exact (HA.out.drewN n).set_i (i + 1), (HR.out.drewN n).set _ _, by omega, (sk_step HB.out).symm.trans HS.out⟩
      · rw [show (i : Int) + 1 = ((i + 1 : Nat) : Int) by omega, ((HA.out.drewN n).set_i (i + 1)).posOf, HA.out.posOf]
        dsimp only; omega
    · have n1 : ((bt s i : Int) == 32) = false := by simp; omega
      by_cases q10 : bt s i = 10
      · have n2 : ((bt s i : Int) == 10) = true := by simp; omega
        have hlt : i < s.size := by
          rcases Nat.lt_or_ge i s.size with z | z
          · exact z
          · simp [bt, show ¬ i < s.size by omega] at q10
        have hb : blankAt s i = true := blankAt_true.2 ⟨hlt, Or.inr q10⟩
        have HB := hide' hb
        clear hb q32 q10
        go_wp2_with fail
        refine (pnext b s _ _ HA.out hi').mono ?_
        rintro e w1 ⟨rfl, n, rfl⟩
        go_wp2_with fail
        refine (pnext b s _ _ (HA.out.drewN n) hi').mono ?_
        rintro e w1 ⟨rfl, n', rfl⟩
        go_wp2
        go_roundw
        case rel => exact ⟨i + 1, by rw [show (i : Int) + 1 = ((i + 1 : Nat) : Int) by omega]; exact (HA.out.drewN (n + n')).set_i (i + 1), (HR.out.drewN (n + n')).set _ _, by omega, (sk_step HB.out).symm.trans HS.out⟩
        · rw [show (i : Int) + 1 = ((i + 1 : Nat) : Int) by omega, ((HA.out.drewN (n + n')).set_i (i + 1)).posOf, HA.out.posOf]
          dsimp only; omega
      · have n2 : ((bt s i : Int) == 10) = false := by simp; omega
        have hb : blankAt s i = false := blankAt_false.2 (by omega)
        have HB := hide' hb
        clear hb q32 q10
        go_wp2_with fail
        refine (pnext b s _ _ HA.out hi').mono ?_
        rintro e w1 ⟨rfl, n, rfl⟩
        go_wp2_with fail
        refine (pnext b s _ _ (HA.out.drewN n) hi').mono ?_
        rintro e w1 ⟨rfl, n', rfl⟩
        go_wp2
        go_end0
        have e := (sk_stop HB.out).symm.trans HS.out
        rw [← e]
        exact ⟨rfl, HA.out.drewN _, HR.out.drewN _⟩

theorem digit_lo (s : ByteArray) (i : Nat) (h : bt s i < 48) : inR s i 48 57 = false := inR_false.2 (by omega)
theorem digit_hi (s : ByteArray) (i : Nat) (h : 57 < bt s i) : inR s i 48 57 = false := inR_false.2 (by omega)
theorem bt_pos {s : ByteArray} {i : Nat} (h : 0 < bt s i) : i < s.size := by
  rcases Nat.lt_or_ge i s.size with z | z
  · exact z
  · simp [bt, show ¬ i < s.size by omega] at h
theorem digit_in (s : ByteArray) (i : Nat) (h : 48 ≤ bt s i) (h' : bt s i ≤ 57) : inR s i 48 57 = true := inR_true.2 ⟨bt_pos (by omega), by omega, by omega⟩

set_option maxHeartbeats 800000 in
theorem pisDigit (b : Nat) (s : ByteArray) (r : Rv) (w : World) (h : RAt b s r w) (hi : r.i ≤ s.size) :
    Calls Tryd.prog 161 #[.pointer (some ⟨b, 0, none⟩)] w fun e w' => e = .returned (.bool (inR s r.i 48 57)) ∧ ∃ n, w' = w.drewN n := by
  have H := hide' h
  clear h
  by_cases q1 : bt s r.i < 48
  · have n1 : ¬ (48 : Int) ≤ (bt s r.i : Int) := by omega
    rw [digit_lo s r.i q1]
    clear q1
    go_enter Tryd.func161, Tryd.ntmps161
    go_wp2_with fail
    refine (pnext b s _ _ H.out hi).mono ?_
    rintro e w1 ⟨rfl, n, rfl⟩
    go_wp2
    go_ret
    exact ⟨rfl, n, rfl⟩
  · have n1 : (48 : Int) ≤ (bt s r.i : Int) := by omega
    by_cases q2 : 57 < bt s r.i
    · have n2 : ¬ (bt s r.i : Int) ≤ 57 := by omega
      rw [digit_hi s r.i q2]
      clear q1 q2
      go_enter Tryd.func161, Tryd.ntmps161
      go_wp2_with fail
      refine (pnext b s _ _ H.out hi).mono ?_
      rintro e w1 ⟨rfl, n, rfl⟩
      go_wp2_with fail
      refine (pnext b s _ _ (H.out.drewN n) hi).mono ?_
      rintro e w1 ⟨rfl, n', rfl⟩
      go_wp2
      go_ret
      exact ⟨by simp [n2], _, rfl⟩
    · have n2 : (bt s r.i : Int) ≤ 57 := by omega
      rw [digit_in s r.i (by omega) (by omega)]
      clear q1 q2
      go_enter Tryd.func161, Tryd.ntmps161
      go_wp2_with fail
      refine (pnext b s _ _ H.out hi).mono ?_
      rintro e w1 ⟨rfl, n, rfl⟩
      go_wp2_with fail
      refine (pnext b s _ _ (H.out.drewN n) hi).mono ?_
      rintro e w1 ⟨rfl, n', rfl⟩
      go_wp2
      go_ret
      exact ⟨by simp, _, rfl⟩
theorem pisDigit' (b : Nat) (s : ByteArray) (r : Rv) (w : World) (c : Bool) (hc : inR s r.i 48 57 = c) (h : RAt b s r w) (hi : r.i ≤ s.size) :
    Calls Tryd.prog 161 #[.pointer (some ⟨b, 0, none⟩)] w fun e w' => e = .returned (.bool c) ∧ ∃ n, w' = w.drewN n := by
  subst hc
  exact pisDigit b s r w h hi
end Go.Proofs.YtljdidimoagnhaaDoor

namespace Go.Proofs.YtljdidimoagnhaaDoor
open Go.RowKit
set_option linter.unusedVariables false

def NumPost (b : Nat) (s : ByteArray) (r : Rv) (w : World) (e : Ending) (w' : World) : Prop :=
  (numSix s r.i = true ∧ e = .returned (.tuple #[.int .i64 ((num s r.i).1 : Int), .bool true]) ∧ RAt b s { r with i := (num s r.i).2 } w' ∧ Rd b w w' ∧ (num s r.i).2 ≤ s.size) ∨
  (numSix s r.i = false ∧ e = .returned (.tuple #[.int .i64 0, .bool false]) ∧ RAt b s { r with fl := 2 } w' ∧ Rd b w w')

theorem numSix_true {s : ByteArray} {i : Nat} : numSix s i = true ↔ i < (num s i).2 ∧ ¬ (1 < (num s i).2 - i ∧ bt s i = 48) ∧ (num s i).2 - i ≤ 6 := by
  unfold numSix
  rw [Bool.and_eq_true, Bool.and_eq_true, decide_eq_true_eq, Bool.not_eq_true', decide_eq_true_eq, and_assoc]
  constructor <;> rintro ⟨a, c, d⟩ <;> refine ⟨a, ?_, d⟩ <;> simp at c ⊢ <;> omega
theorem numSix_false {s : ByteArray} {i : Nat} : numSix s i = false ↔ ¬ (i < (num s i).2 ∧ ¬ (1 < (num s i).2 - i ∧ bt s i = 48) ∧ (num s i).2 - i ≤ 6) := by
  rw [← numSix_true]; cases numSix s i <;> simp

set_option maxHeartbeats 1600000 in
theorem pnumber (b : Nat) (s : ByteArray) (r : Rv) (w : World) (h : RAt b s r w) (hi : r.i ≤ s.size) (hs : s.size ≤ 40000) :
    Calls Tryd.prog 162 #[.pointer (some ⟨b, 0, none⟩)] w (NumPost b s r w) := by
  have H := hide' h
  obtain ⟨i0, hI⟩ : ∃ i0, i0 = r.i := ⟨_, rfl⟩
  have hi0 : i0 ≤ s.size := by omega
  have HI := hide' hI
  have c1 : w.cell? ⟨b, 1, none⟩ = some (.int .i64 (i0 : Int)) := by rw [hI]; exact h.ten.c1
  clear h hI hi
  go_enter Tryd.func162, Tryd.ntmps162
  go_wp2
  have N := hide' (show ∃ k v i : Nat, True from ⟨0, 0, 0, trivial⟩)
  clear N
  go_loopw [5] (fun nv wr => ∃ v i : Nat, nv = .int .i64 (v : Int) ∧ RAt b s { r with i := i } wr ∧ Rd b w wr ∧ i0 ≤ i ∧ i ≤ s.size ∧ i - i0 ≤ 6 ∧ v < 1000000 ∧ v < 10 ^ (i - i0) ∧ (1 < i - i0 → ¬ bt s i0 = 48) ∧ numF s (s.size - i) i v = num s i0) (fun _ wr => s.size - posOf b wr)
  case atStart => exact ⟨0, i0, rfl, by rw [HI.out]; exact H.out, Rd.refl _ _, by omega, hi0, by omega, by omega, by simp, by omega, rfl⟩
  case round =>
    obtain ⟨v, i, rfl, ha, hr, hlo, hi, h6, hv, hv', hz, hnum⟩ := hrel
    have HR := hide' hr
    have HA := hide' ha
    have HN := hide' hnum
    have HV := hide' hv'
    have HZ := hide' hz
    have c1' := ha.ten.c1
    have c0' := ha.ten.c0
    have f1' := ha.ten.f1
    dsimp only at c1'
    clear ha hr hnum hv' hz c1
    cases hin : inR s i 48 57 with
    | false =>
      have e1 := HN.out
      rw [numF_stop hin] at e1
      have F := hide' (show (num s i0).2 = i by rw [← e1])
      have V := hide' (show (num s i0).1 = v by rw [← e1])
      clear e1
      by_cases q : i = i0
      · have n1 : ((i : Int) == (i0 : Int)) = true := by simp; omega
        have Q := hide' q
        clear q
        go_wp2_with fail
        refine (pisDigit' b s _ _ false hin HA.out hi).mono ?_
        rintro e w1 ⟨rfl, n, rfl⟩
        go_wp2_with fail
        refine (pfail b s _ i0 _ _ _ rfl (HA.out.drewN n)).mono ?_
        rintro e w1 ⟨rfl, a1, r1⟩
        go_wp2
        go_ret2
        right
        have hI := HI.out
        subst hI
        refine ⟨numSix_false.2 (by have := F.out; have := Q.out; omega), rfl, ?_, (HR.out.drewN n).trans r1⟩
        exact a1
      · have n1 : ((i : Int) == (i0 : Int)) = false := by simp; omega
        go_wp2_with fail
        refine (pisDigit' b s _ _ false hin HA.out hi).mono ?_
        rintro e w1 ⟨rfl, n, rfl⟩
        go_wp2
        go_ret2
        left
        have hI := HI.out
        subst hI
        have f := F.out
        have z := HZ.out
        refine ⟨numSix_true.2 (by rw [f]; omega), by rw [V.out]; rfl, ?_, HR.out.drewN n, by rw [f]; exact hi⟩
        rw [f]
        exact HA.out.drewN n
    | true =>
      have hb := inR_true.1 hin
      have hlt := hb.1
      have hlt0 : i0 < s.size := by omega
      have k1 : (48 : Int) ≤ (bt s i : Int) := hb.2.1
      have k2 : (bt s i : Int) ≤ 57 := hb.2.2
      have e1 := HN.out
      rw [numF_step hin] at e1
      have E1 := hide' e1
      have G := hide' (show i + 1 ≤ (num s i0).2 by rw [← e1]; exact numF_ge s _ _ _)
      clear e1 hb
      by_cases q1 : i0 < i
      · have n1 : (i0 : Int) < (i : Int) := by omega
        by_cases q2 : bt s i0 = 48
        · have n2 : ((s[i0].toNat : Int) == 48) = true := by have := bt_lt s i0 hlt0; simp; omega
          have Q2 := hide' q2
          clear q2
          go_wp2_with fail
          refine (pisDigit' b s _ _ true hin HA.out hi).mono ?_
          rintro e w1 ⟨rfl, n, rfl⟩
          go_wp2_with fail
          refine (pfail b s _ i0 _ _ _ rfl (HA.out.drewN _)).mono ?_
          rintro e w1 ⟨rfl, a1, r1⟩
          go_wp2
          go_ret2
          right
          have hI := HI.out
          subst hI
          exact ⟨numSix_false.2 (by have := G.out; have := Q2.out; omega), rfl, a1, (HR.out.drewN _).trans r1⟩
        · have n2 : ((s[i0].toNat : Int) == 48) = false := by have := bt_lt s i0 hlt0; simp; omega
          have Q2 := hide' q2
          clear q2
          by_cases q3 : i - i0 = 6
          · have n3 : ((i : Int) - (i0 : Int) == 6) = true := by simp; omega
            have Q3 := hide' q3
            clear q3
            go_wp2_with fail
            refine (pisDigit' b s _ _ true hin HA.out hi).mono ?_
            rintro e w1 ⟨rfl, n, rfl⟩
            go_wp2_with fail
            refine (pfail b s _ i0 _ _ _ rfl (HA.out.drewN _)).mono ?_
            rintro e w1 ⟨rfl, a1, r1⟩
            go_wp2
            go_ret2
            right
            have hI := HI.out
            subst hI
            exact ⟨numSix_false.2 (by have := G.out; have := Q3.out; omega), rfl, a1, (HR.out.drewN _).trans r1⟩
          · have n3 : ((i : Int) - (i0 : Int) == 6) = false := by simp; omega
            have hv2 : v < 100000 := by
              have h1 := HV.out
              have h2 : 10 ^ (i - i0) ≤ 10 ^ 5 := Nat.pow_le_pow_right (by omega) (by omega)
              omega
            go_wp2_with fail
            refine (pisDigit' b s _ _ true hin HA.out hi).mono ?_
            rintro e w1 ⟨rfl, n, rfl⟩
            go_wp2_with fail
            refine (pnext b s _ _ (HA.out.drewN _) hi).mono ?_
            rintro e w1 ⟨rfl, n', rfl⟩
            go_wp2
            go_roundw
            case rel =>
              have hn1 : i - i0 ≤ 5 := by omega
              refine ⟨v * 10 + (bt s i - 48), i + 1, by go_num, by rw [show (i : Int) + 1 = ((i + 1 : Nat) : Int) by omega]; exact (HA.out.drewN _).set_i (i + 1), (HR.out.drewN _).set _ _, by omega, by omega, by omega, by omega, ?_, ?_, E1.out⟩
              · have h1 := HV.out
                rw [show i + 1 - i0 = (i - i0) + 1 by omega, Nat.pow_succ]
                omega
              · exact fun _ => Q2.out
            · rw [show (i : Int) + 1 = ((i + 1 : Nat) : Int) by omega, ((HA.out.drewN _).set_i (i + 1)).posOf, HA.out.posOf]
              dsimp only; omega
      · have n1 : ¬ (i0 : Int) < (i : Int) := by omega
        have n3 : ((i : Int) - (i0 : Int) == 6) = false := by simp; omega
        have hv2 : v < 100000 := by
          have h1 := HV.out
          have h2 : 10 ^ (i - i0) ≤ 10 ^ 5 := Nat.pow_le_pow_right (by omega) (by omega)
          omega
        go_wp2_with fail
        refine (pisDigit' b s _ _ true hin HA.out hi).mono ?_
        rintro e w1 ⟨rfl, n, rfl⟩
        go_wp2_with fail
        refine (pnext b s _ _ (HA.out.drewN _) hi).mono ?_
        rintro e w1 ⟨rfl, n', rfl⟩
        go_wp2
        go_roundw
        case rel =>
          have hn1 : i - i0 ≤ 5 := by omega
          refine ⟨v * 10 + (bt s i - 48), i + 1, by go_num, by rw [show (i : Int) + 1 = ((i + 1 : Nat) : Int) by omega]; exact (HA.out.drewN _).set_i (i + 1), (HR.out.drewN _).set _ _, by omega, by omega, by omega, by omega, ?_, ?_, E1.out⟩
          · have h1 := HV.out
            rw [show i + 1 - i0 = (i - i0) + 1 by omega, Nat.pow_succ]
            omega
          · intro hh; omega
        · rw [show (i : Int) + 1 = ((i + 1 : Nat) : Int) by omega, ((HA.out.drewN _).set_i (i + 1)).posOf, HA.out.posOf]
          dsimp only; omega
end Go.Proofs.YtljdidimoagnhaaDoor

