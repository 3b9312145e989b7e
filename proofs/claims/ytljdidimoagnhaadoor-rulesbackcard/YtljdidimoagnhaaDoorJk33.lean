/-
  What the last text of this claim leans on, part 33: Ls0, Rx1, Rx4, Ll3, Ll4.
-/
import Derived.Test.YtljdidimoagnhaaDoorJk32
import Derived.Test.YtljdidimoagnhaaDoorJk26
import Derived.Test.YtljdidimoagnhaaDoorJk31
import Derived.Test.YtljdidimoagnhaaDoorJk4
namespace Go.Proofs.YtljdidimoagnhaaDoor
set_option linter.unusedVariables false

def wnN (S : Nat) (F : Nat → Nat) : Nat → Nat
  | 0 => 0
  | m + 1 => wnN S F m * S + F m
theorem wn_nat (S : Nat) (f : Nat → Int) (h : ∀ d, 0 ≤ f d) : ∀ m, wn S f 0 m = ((wnN S (fun d => (f d).toNat) m : Nat) : Int)
  | 0 => rfl
  | m + 1 => by
    rw [wn, wn_nat S f h m, wnN, Nat.zero_add]
    have := h m
    simp only [Int.natCast_add, Int.natCast_mul]
    omega
theorem wnN_pow (S : Nat) (F : Nat → Nat) (hS : 0 < S) (h : ∀ d, F d < S) (m : Nat) : ∀ t, wnN S F (m + t) / S ^ t = wnN S F m
  | 0 => by simp
  | t + 1 => by
    rw [show m + (t + 1) = (m + t) + 1 by omega, Nat.pow_succ, Nat.mul_comm, ← Nat.div_div_eq_div_mul, wnN, Nat.mul_comm, Nat.mul_add_div hS, Nat.div_eq_of_lt (h _), Nat.add_zero]
    exact wnN_pow S F hS h m t
theorem wnN_mod (S : Nat) (F : Nat → Nat) (h : ∀ d, F d < S) (m : Nat) : wnN S F (m + 1) % S = F m := by
  rw [wnN, Nat.mul_comm, Nat.mul_add_mod, Nat.mod_eq_of_lt (h _)]
/-- The digits of a window's number are its cells. -/
theorem spell_wn (S L : Nat) (f : Nat → Int) (hS : 0 < S) (h : ∀ d, 0 ≤ f d ∧ f d < (S : Int)) : spellL S L (wn S f 0 L).toNat = (List.range L).map f := by
  have hF : ∀ d, (fun d => (f d).toNat) d < S := fun d => by have := h d; show (f d).toNat < S; omega
  rw [wn_nat S f (fun d => (h d).1), Int.toNat_natCast]
  unfold spellL
  refine List.map_congr_left fun j hj => ?_
  rw [List.mem_range] at hj
  have e := wnN_pow S (fun d => (f d).toNat) hS hF (j + 1) (L - 1 - j)
  rw [show j + 1 + (L - 1 - j) = L by omega] at e
  rw [e, wnN_mod S _ hF]
  have := h j
  omega
theorem madeL_wn (S R : Nat) (F : List Int → Int) (f : Nat → Int) (hS : 0 < S) (h : ∀ d, 0 ≤ f d ∧ f d < (S : Int)) : (madeL S R F).getD (wn S f 0 (2 * R + 1)).toNat 0 = F ((List.range (2 * R + 1)).map f) := by
  have h1 := wn_lt (S := (S : Int)) (f := f) (i := 0) (m := 2 * R + 1) (by omega) (fun d _ => h _)
  have h2 := wn_nonneg (S := (S : Int)) (f := f) (i := 0) (m := 2 * R + 1) (by omega) (fun d _ => (h _).1)
  have h3 : (wn S f 0 (2 * R + 1)).toNat < S ^ (2 * R + 1) := by
    have : ((S : Int)) ^ (2 * R + 1) = ((S ^ (2 * R + 1) : Nat) : Int) := by simp
    omega
  rw [madeL_at S R F h3, spell_wn S (2 * R + 1) f hS h]
theorem map_at (f : Nat → Int) {L j : Nat} (h : j < L) : ((List.range L).map f).getD j 0 = f j := by simp [List.getD, h]
theorem applyL_map (S : Int) (R : Nat) (T : List Int) (f : Nat → Int) (L : Nat) : applyL S R T ((List.range L).map f) = (List.range (L - 2 * R)).map fun j => T.getD (wn S (fun d => f (j + d)) 0 (2 * R + 1)).toNat 0 := by
  unfold applyL
  rw [List.length_map, List.length_range]
  refine List.map_congr_left fun j hj => ?_
  rw [List.mem_range] at hj
  rw [wn_congr (g := fun d => f (j + d)) (k := 0) fun d hd => ?_]
  rw [map_at f (by omega), Nat.zero_add]
theorem rat_step (S : Int) (R : Nat) (T ws : List Int) (h0 : 0 < ws.length) (t : Int) : rat (stepL S R T ws) t = T.getD (wn S (fun d => rat ws (t + d - R)) 0 (2 * R + 1)).toNat 0 := by
  have h1 := Int.emod_nonneg t (show (ws.length : Int) ≠ 0 by omega)
  have h2 := Int.emod_lt_of_pos t (show (0 : Int) < ws.length by omega)
  have h3 := Int.emod_add_mul_ediv t (ws.length : Int)
  unfold rat
  rw [stepL_length]
  have e : (stepL S R T ws).getD (t % (ws.length : Int)).toNat 0 = T.getD (wn S (fun d => rat ws ((((t % (ws.length : Int)).toNat : Nat) : Int) + d - R)) 0 (2 * R + 1)).toNat 0 := by
    have hi : (t % (ws.length : Int)).toNat < ws.length := by omega
    simp [stepL, List.getD, hi]
  rw [e]
  congr 2
  refine wn_congr fun d hd => ?_
  show rat ws _ = rat ws _
  rw [← rat_add ws _ (t / (ws.length : Int))]
  congr 1
  omega
theorem stepL_get (S : Int) (R : Nat) (T xs : List Int) {i : Nat} (h : i < xs.length) : (stepL S R T xs)[i]'(by rw [stepL_length]; exact h) = T.getD (wn S (fun d => rat xs ((i : Int) + d - R)) 0 (2 * R + 1)).toNat 0 := by
  simp [stepL]
theorem compose_step (S Ra Rb : Nat) (Ta Tb ws : List Int) (hS : 0 < S) (hok : cellsOk S ws) :
    stepL S (Ra + Rb) (madeL S (Ra + Rb) fun ds => (applyL S Rb Tb (applyL S Ra Ta ds)).getD 0 0) ws = stepL S Rb Tb (stepL S Ra Ta ws) := by
  apply List.ext_getElem (by rw [stepL_length, stepL_length, stepL_length])
  intro i h1 h2
  have hi : i < ws.length := by rw [stepL_length] at h1; exact h1
  have h0 : 0 < ws.length := by omega
  rw [stepL_get _ _ _ _ hi, stepL_get _ _ _ _ (by rw [stepL_length]; exact hi)]
  rw [madeL_wn S (Ra + Rb) _ _ hS (fun d => rat_ok hok h0 _)]
  rw [applyL_map, applyL_map, show 2 * (Ra + Rb) + 1 - 2 * Ra - 2 * Rb = 1 by omega, map_at _ (by omega : 0 < 1)]
  congr 2
  refine wn_congr fun d hd => ?_
  rw [rat_step _ _ _ _ h0]
  congr 2
  refine wn_congr fun d' hd' => ?_
  show rat ws _ = rat ws _
  congr 1
  simp only [Int.natCast_add]
  omega
theorem widen_step (S R K : Nat) (T ws : List Int) (hS : 0 < S) (hk : R ≤ K) (hok : cellsOk S ws) :
    stepL S K (madeL S K fun ds => (applyL S R T ((ds.drop (K - R)).take (2 * R + 1))).getD 0 0) ws = stepL S R T ws := by
  apply List.ext_getElem (by rw [stepL_length, stepL_length])
  intro i h1 h2
  have hi : i < ws.length := by rw [stepL_length] at h1; exact h1
  have h0 : 0 < ws.length := by omega
  rw [stepL_get _ _ _ _ hi, stepL_get _ _ _ _ hi]
  rw [madeL_wn S K _ _ hS (fun d => rat_ok hok h0 _)]
  have e : ((((List.range (2 * K + 1)).map fun d : Nat => rat ws ((i : Int) + d - K)).drop (K - R)).take (2 * R + 1)) = (List.range (2 * R + 1)).map fun d : Nat => rat ws ((i : Int) + d - R) := by
    apply List.ext_getElem (by simp; omega)
    intro j h3 h4
    simp
    congr 1
    omega
  rw [e, applyL_map, show 2 * R + 1 - 2 * R = 1 by omega, map_at _ (by omega : 0 < 1)]
  congr 2
  refine wn_congr fun d hd => ?_
  simp
/-- A ring turned round by so many cells. -/
def movedL (ws : List Int) (b : Int) : List Int := (List.range ws.length).map fun i : Nat => rat ws ((i : Int) + b)
theorem movedL_length (ws : List Int) (b : Int) : (movedL ws b).length = ws.length := by simp [movedL]
theorem movedL_ok {S : Int} {ws : List Int} (h : cellsOk S ws) (b : Int) : cellsOk S (movedL ws b) := by
  intro x hx
  simp only [movedL, List.mem_map, List.mem_range] at hx
  obtain ⟨i, hi, rfl⟩ := hx
  exact rat_ok h (by omega) _
theorem rat_moved (ws : List Int) (b : Int) (h0 : 0 < ws.length) (t : Int) : rat (movedL ws b) t = rat ws (t + b) := by
  have h1 := Int.emod_nonneg t (show (ws.length : Int) ≠ 0 by omega)
  have h2 := Int.emod_lt_of_pos t (show (0 : Int) < ws.length by omega)
  have h3 := Int.emod_add_mul_ediv t (ws.length : Int)
  show (movedL ws b).getD (t % ((movedL ws b).length : Int)).toNat 0 = _
  rw [movedL_length]
  have hi : (t % (ws.length : Int)).toNat < ws.length := by omega
  have e : (movedL ws b).getD (t % (ws.length : Int)).toNat 0 = rat ws ((((t % (ws.length : Int)).toNat : Nat) : Int) + b) := by simp [movedL, List.getD, hi]
  rw [e, ← rat_add ws _ (t / (ws.length : Int))]
  congr 1
  omega
theorem shift_step (S : Int) (R : Nat) (T ws : List Int) (b : Int) : stepL S R T (movedL ws b) = movedL (stepL S R T ws) b := by
  apply List.ext_getElem (by rw [stepL_length, movedL_length, movedL_length, stepL_length])
  intro i h1 h2
  have hi : i < ws.length := by rw [stepL_length, movedL_length] at h1; exact h1
  have h0 : 0 < ws.length := by omega
  rw [stepL_get _ _ _ _ (by rw [movedL_length]; exact hi)]
  have e : (movedL (stepL S R T ws) b)[i]'h2 = rat (stepL S R T ws) ((i : Int) + b) := by simp [movedL]
  rw [e, rat_step _ _ _ _ h0]
  congr 2
  refine wn_congr fun d hd => ?_
  rw [rat_moved ws b h0]
  show rat ws _ = rat ws _
  congr 1
  omega
end Go.Proofs.YtljdidimoagnhaaDoor

namespace Go.Proofs.YtljdidimoagnhaaDoor
set_option linter.unusedVariables false

theorem wnN_tail (S : Nat) : ∀ (m : Nat) (G : Nat → Nat), wnN S G (m + 1) = G 0 * S ^ m + wnN S (fun d => G (d + 1)) m
  | 0, G => by simp [wnN]
  | m + 1, G => by
    rw [wnN, wnN_tail S m G, wnN, Nat.add_mul, Nat.mul_assoc, ← Nat.pow_succ, Nat.add_assoc]
theorem wnN_congr (S : Nat) {F G : Nat → Nat} : ∀ {m : Nat}, (∀ d, d < m → F d = G d) → wnN S F m = wnN S G m
  | 0, _ => rfl
  | m + 1, h => by rw [wnN, wnN, wnN_congr S (m := m) fun d hd => h d (by omega), h m (by omega)]
theorem rv_wnN (S : Nat) (hS : 0 < S) (F : Nat → Nat) (h : ∀ d, F d < S) : ∀ m, rv S m 0 (wnN S F m) = wnN S (fun d => F (m - 1 - d)) m
  | 0 => rfl
  | m + 1 => by
    have e1 : wnN S F (m + 1) / S = wnN S F m := by
      have := wnN_pow S F hS h m 1
      rwa [Nat.pow_one] at this
    rw [rv_low, wnN_mod S F h m, e1, rv_wnN S hS F h m, wnN_tail S m]
    have e2 : wnN S (fun d => F (m - 1 - d)) m = wnN S (fun d => F (m + 1 - 1 - (d + 1))) m := wnN_congr S fun d hd => by
      show F _ = F _
      congr 1
      omega
    rw [e2]
    simp
theorem rv_wn (S : Nat) (hS : 0 < S) (f : Nat → Int) (h : ∀ d, 0 ≤ f d ∧ f d < (S : Int)) (m : Nat) : rv S m 0 (wn S f 0 m).toNat = (wn S (fun d => f (m - 1 - d)) 0 m).toNat := by
  have hF : ∀ d, (fun d => (f d).toNat) d < S := fun d => by have := h d; show (f d).toNat < S; omega
  rw [wn_nat S f (fun d => (h d).1), wn_nat S _ (fun d => (h _).1), Int.toNat_natCast, Int.toNat_natCast, rv_wnN S hS _ hF]
/-- The table of the mirrored rule. -/
def mirL (S R : Nat) (T : List Int) : List Int := (List.range (S ^ (2 * R + 1))).map fun j => T.getD (rv S (2 * R + 1) 0 j) 0
theorem mirL_length (S R : Nat) (T : List Int) : (mirL S R T).length = S ^ (2 * R + 1) := by simp [mirL]
theorem mirL_at (S R : Nat) (T : List Int) {j : Nat} (h : j < S ^ (2 * R + 1)) : (mirL S R T).getD j 0 = T.getD (rv S (2 * R + 1) 0 j) 0 := by
  simp [mirL, List.getD, h]
theorem mirL_mirL (S R : Nat) (T : List Int) (hS : 0 < S) (hl : T.length = S ^ (2 * R + 1)) : mirL S R (mirL S R T) = T := by
  apply List.ext_getElem (by rw [mirL_length, hl])
  intro j h1 h2
  have hj : j < S ^ (2 * R + 1) := by rw [mirL_length] at h1; exact h1
  have e1 : (mirL S R (mirL S R T))[j] = (mirL S R (mirL S R T)).getD j 0 := by rw [List.getD_eq_getElem?_getD, List.getElem?_eq_getElem h1]; rfl
  rw [e1, mirL_at S R _ hj, mirL_at S R T (rv_lt S hS _ _), rv_rv S hS _ _ hj, List.getD_eq_getElem?_getD, List.getElem?_eq_getElem h2]
  rfl
theorem rat_reverse (ws : List Int) (h0 : 0 < ws.length) (t : Int) : rat ws.reverse t = rat ws ((ws.length : Int) - 1 - t) := by
  have h1 := Int.emod_nonneg t (show (ws.length : Int) ≠ 0 by omega)
  have h2 := Int.emod_lt_of_pos t (show (0 : Int) < ws.length by omega)
  have h3 := Int.emod_add_mul_ediv t (ws.length : Int)
  have e : (ws.length : Int) - 1 - t = ((ws.length : Int) - 1 - t % (ws.length : Int)) + (ws.length : Int) * (-(t / (ws.length : Int))) := by
    rw [Int.mul_neg]; omega
  rw [e, rat_add]
  obtain ⟨r, hr⟩ : ∃ r : Nat, t % (ws.length : Int) = (r : Int) := ⟨(t % (ws.length : Int)).toNat, by omega⟩
  rw [hr]
  have hrl : r < ws.length := by omega
  have e2 : rat ws.reverse t = ws.reverse.getD r 0 := by
    unfold rat
    rw [List.length_reverse, hr, Int.toNat_natCast]
  rw [e2, show (ws.length : Int) - 1 - (r : Int) = ((ws.length - 1 - r : Nat) : Int) by omega, rat_mid ws (by omega)]
  have hq : ws.length - 1 - r < ws.length := by omega
  simp [List.getD, hrl, hq]
theorem mirror_step (S R : Nat) (T ws : List Int) (hS : 0 < S) (hok : cellsOk S ws) : stepL S R (mirL S R T) ws.reverse = (stepL S R T ws).reverse := by
  apply List.ext_getElem (by rw [stepL_length, List.length_reverse, List.length_reverse, stepL_length])
  intro i h1 h2
  have hi : i < ws.length := by rw [stepL_length, List.length_reverse] at h1; exact h1
  have h0 : 0 < ws.length := by omega
  have hf : ∀ t, 0 ≤ rat ws.reverse t ∧ rat ws.reverse t < (S : Int) := fun t => by rw [rat_reverse ws h0]; exact rat_ok hok h0 _
  have w1 := wn_lt (S := (S : Int)) (f := fun d : Nat => rat ws.reverse ((i : Int) + d - R)) (i := 0) (m := 2 * R + 1) (by omega) (fun d _ => hf _)
  have w2 := wn_nonneg (S := (S : Int)) (f := fun d : Nat => rat ws.reverse ((i : Int) + d - R)) (i := 0) (m := 2 * R + 1) (by omega) (fun d _ => (hf _).1)
  have w3 : (wn S (fun d : Nat => rat ws.reverse ((i : Int) + d - R)) 0 (2 * R + 1)).toNat < S ^ (2 * R + 1) := by
    have : ((S : Int)) ^ (2 * R + 1) = ((S ^ (2 * R + 1) : Nat) : Int) := by simp
    omega
  rw [stepL_get _ _ _ _ (by rw [List.length_reverse]; exact hi), mirL_at S R T w3, rv_wn S hS _ (fun d => hf _)]
  rw [List.getElem_reverse]
  have hj : (stepL S R T ws).length - 1 - i < ws.length := by rw [stepL_length]; omega
  rw [stepL_get _ _ _ _ hj]
  congr 2
  refine wn_congr fun d hd => ?_
  rw [rat_reverse ws h0]
  show rat ws _ = rat ws _
  congr 1
  rw [stepL_length]
  omega
end Go.Proofs.YtljdidimoagnhaaDoor

namespace Go.Proofs.YtljdidimoagnhaaDoor
open Go.RowKit
set_option linter.unusedVariables false

theorem grown_baseR {w0 wr w' : World} {v : Value} {n : Nat} {xs : List Value} {x : Int} (ho : wr.ownsRow w0.heap.size 3 1 v n xs) (hb : Below w0.heap.size w0 wr) (hg : (wr.alloc (.cells #[.int .i64 x] 3)).grownBy w' v.ownBlock) : Below w0.heap.size w0 w' := by
  have hz := hb.size
  have hsz : wr.heap.size + 1 ≤ w'.heap.size := by have := hg.size; rw [World.size_alloc] at this; exact this
  refine hb.trans ⟨hg.os, hg.tape, hg.output, by omega, fun k hk => ?_⟩
  rw [hg.block k (by rw [World.size_alloc]; omega) (fun e => by have := ownsRow_block ho k e.symm; omega)]
  exact Below.heap_alloc _ _ _ (by omega)
/-- A list that is answered by the document's side, wherever it lies. -/
def ListTurn (xs : List Int) (w : World) (e : Ending) (w' : World) : Prop :=
  ∃ v, e = .returned v ∧ Tab w' v xs ∧ Below w.heap.size w w'

set_option maxRecDepth 100000 in
set_option maxHeartbeats 3200000 in
theorem turned_any (ws : List Int) (wa : Option Addr) (wc : Nat) (w : World) (hW : ArgP w ws wa ws.length wc) (hl : ws.length ≤ 1000) :
    Calls Tryd.prog 27 #[.slice wa ws.length wc] w (ListTurn ws.reverse w) := by
  obtain ⟨i0, hi, hz0, hz1, hz2⟩ := info_parts info_int
  obtain ⟨n, hn⟩ : ∃ n, ws.length = n := ⟨_, rfl⟩
  have HN := hide' hn
  rw [hn] at hW hl ⊢
  have AW := hide' hW
  obtain ⟨out, hout⟩ : ∃ out, ws.reverse = out := ⟨_, rfl⟩
  have OUT := hide' hout
  have OL := hide' (show out.length = n by rw [← hout, List.length_reverse, hn])
  rw [hout]
  clear hW hn hout
  go_enter Tryd.func27, Tryd.ntmps27
  go_wp2
  go_loopw [3, 4] (fun ov iv wr => ∃ (j : Nat) (i : Int), iv = .int .i64 i ∧ Hid (i = (n : Int) - 1 - j) ∧ j ≤ n ∧ wr.ownsRow w.heap.size 3 1 ov (out.take j).length ((out.take j).map fun x => .int .i64 x) ∧ Below w.heap.size w wr) (fun _ iv _ => (intOf iv + 1).toNat)
  case atStart => exact ⟨0, (n : Int) - 1, by go_num, hide' (by omega), by omega, ⟨by simp, Or.inl ⟨rfl, by simp⟩⟩, Below.refl _ _⟩
  case round =>
    obtain ⟨j, i, rfl, IE, hi', ow, bl⟩ := hrel
    have hle : (out.take j).length = j := by rw [List.length_take]; have := OL.out; omega
    have HLE := hide' hle
    obtain ⟨sa, sc, e0⟩ := ownsRow_len ow
    rw [hle] at e0
    subst e0
    have OW := hide' ow
    have BL := hide' bl
    have sz := bl.size
    clear ow bl hle
    by_cases d : (0 : Int) ≤ i
    · obtain ⟨r, rfl⟩ := Int.eq_ofNat_of_zero_le d
      have hrl : r < n := by have := IE.out; omega
      have hjl : j < n := by have := IE.out; omega
      clear d
      obtain ⟨g, off, rfl, hc⟩ := (AW.out.below BL.out).at (k := r) (by omega)
      obtain ⟨x, hx⟩ : ∃ x, ws.getD r 0 = x := ⟨_, rfl⟩
      rw [hx] at hc
      have TN := hide' (take_next (xs := out) (i := j) (x := x) (by have := OL.out; omega) (by
        rw [← OUT.out, ← hx]
        have h1 := HN.out
        have h2 := IE.out
        have h3 : j < ws.length := by omega
        have h4 : r = ws.length - 1 - j := by omega
        have h5 : r < ws.length := by omega
        subst h4
        simp [List.getD, h3, h5]))
      clear hx
      go_wp2_with (at_builtin; refine wpList_append_own _ rfl _ _ 22 rfl w.heap.size 3 i0 (.int .i64 0) 1 8 Tryd.underlying22 hi hz0 hz1 hz2 rfl (by decide) (.slice sa j sc) _ _ rfl (OW.out.alloc _) ⟨wr.heap.size, 0, none⟩ 1 1 [.int .i64 x] rfl rfl (cell_one_new _ _ _) (fun x hx => by simp at hx; subst hx; rfl) (by rw [HLE.out]; unfold maxLen; omega) (by rw [HLE.out]; omega) (by simp; omega) ?_; intro v' w3 hown' hgrow3 hnil3; have O3 := hide' hown'; have B3 := hide' (grown_baseR OW.out BL.out hgrow3); clear hgrow3 hown' hnil3)
      refine ⟨⟨j + 1, (r : Int) - 1, by go_num, hide' (by have := IE.out; omega), by omega, ?_, B3.out⟩, by simp [intOf]⟩
      have h := O3.out
      rw [TN.out]
      simpa using h
    · have TK := hide' (show out.take j = out by rw [show j = out.length by have := OL.out; have := IE.out; omega, List.take_length])
      go_wp2
      go_ret
      have h := OW.out
      rw [TK.out] at h
      exact ⟨_, rfl, ownsRow_tab h, BL.out⟩
end Go.Proofs.YtljdidimoagnhaaDoor

namespace Go.Proofs.YtljdidimoagnhaaDoor
open Go.RowKit
set_option linter.unusedVariables false

set_option maxRecDepth 100000 in
set_option maxHeartbeats 3200000 in
theorem compose_clo (S Ra Rb : Nat) (Ta Tb : List Int) (ta : Option Addr) (na ca : Nat) (tb : Option Addr) (nb cb pa pb g L : Nat) (ds : List Int) (wr : World)
    (hLa : LineOk S Ra Ta) (hLb : LineOk S Rb Tb) (hA : RB pa S Ra (.slice ta na ca) wr) (hB : RB pb S Rb (.slice tb nb cb) wr) (hTa : ArgP wr Ta ta na ca) (hTb : ArgP wr Tb tb nb cb) (hC : Cel wr g ds) (hl : ds.length = L) (hL : L = 2 * (Ra + Rb) + 1) (hok : cellsOk S ds) :
    Calls Tryd.prog 122 #[.slice (some ⟨g, 0, none⟩) L L, .pointer (some ⟨pb, 0, none⟩), .pointer (some ⟨pa, 0, none⟩)] wr fun e w' => e = .returned (.int .i64 ((applyL S Rb Tb (applyL S Ra Ta ds)).getD 0 0)) ∧ Below wr.heap.size wr w' := by
  have ra10 := hLa.r10
  have rb10 := hLb.r10
  have HLa := hide' hLa
  have HLb := hide' hLb
  have HA := hide' hA
  have HB := hide' hB
  have HTa := hide' hTa
  have HTb := hide' hTb
  have HL := hide' hL
  have HO := hide' hok
  have AW := hide' (show ArgP wr ds (some ⟨g, 0, none⟩) L L from hC.argP hl (by unfold maxLen; omega))
  have D0 := hide' (show Below wr.heap.size wr wr.drew from (Below.refl _ _).drew)
  have OA := hide' (applyL_ok (S := (S : Int)) (R := Ra) (T := Ta) (by omega) hLa.lenI hLa.ok hok)
  obtain ⟨xs, hxs⟩ : ∃ xs, applyL S Ra Ta ds = xs := ⟨_, rfl⟩
  have XS := hide' hxs
  have XL := hide' (show xs.length = 2 * Rb + 1 by rw [← hxs, applyL_length, hl, hL]; omega)
  rw [hxs] at OA ⊢
  obtain ⟨res, hres⟩ : ∃ res, (applyL S Rb Tb xs).getD 0 0 = res := ⟨_, rfl⟩
  have RES := hide' hres
  rw [hres]
  obtain ⟨m, hm⟩ : ∃ m, 2 * Rb + 1 = m := ⟨_, rfl⟩
  have HM := hide' hm
  have m0 : 0 < m := by omega
  have m1 : m ≤ 100 := by omega
  clear hLa hLb hA hB hTa hTb hC hl hL hok hxs hres hm
  go_enter Tryd.func122, Tryd.ntmps122
  go_upto_region 1 with fail
  obtain ⟨a0, a1, a2, a3, a4, a5, a6⟩ := HA.out
  obtain ⟨b0, b1, b2, b3, b4, b5, b6⟩ := HB.out
  go_region_with
    (first
      | (go_at_call_of 114 (Value.agg #[.int .i64 2, .int .i64 0, .int .i64 0, .int .i64 (S : Int), .int .i64 (Ra : Int), .slice ta na ca, .string ⟨#[]⟩]); refine (applied_pos S Ra Ta ta na ca ds (some ⟨g, 0, none⟩) L L m _ HLa.out (HTa.out.below D0.out) (AW.out.below D0.out) (Nat.le_refl _) (by unfold maxLen; have := HL.out; omega) HO.out (by rw [HL.out, ← HM.out]; omega) m0 (by omega)).mono ?_; rintro e w1 ⟨g1, rfl, hg1, c1, bw1⟩; have D1 := hide' (D0.out.trans (bw1.mono (by have := D0.out.size; omega))); have C1 := hide' (show Cel w1 g1 xs by rw [← XS.out]; exact c1); have G1 := hide' hg1; obtain ⟨d0, d1, d2, d3, d4, d5, d6⟩ := HB.out.next D1.out; clear bw1 c1 hg1)
      | (go_at_call_of 114 (Value.agg #[.int .i64 2, .int .i64 0, .int .i64 0, .int .i64 (S : Int), .int .i64 (Rb : Int), .slice tb nb cb, .string ⟨#[]⟩]); refine (applied_pos S Rb Tb tb nb cb xs (some ⟨g1, 0, none⟩) m m 1 _ HLb.out (HTb.out.below D1.out) (C1.out.argP (by rw [XL.out, HM.out]) (by unfold maxLen; omega)) (Nat.le_refl _) (by unfold maxLen; omega) OA.out (by rw [← HM.out]; omega) (by omega) (by omega)).mono ?_; rintro e w2 ⟨g2, rfl, hg2, c2, bw2⟩; have D2 := hide' (D1.out.trans (bw2.mono (by have := D1.out.size; omega))); have k2 : w2.cell? ⟨g2, 0, none⟩ = some (.int .i64 res) := (by rw [← RES.out]; exact c2.cells 0 (by rw [applyL_length, XL.out]; omega)); clear bw2 c2 hg2))
  all_goals
    go_wp2
    go_ret
    exact ⟨rfl, D2.out⟩
end Go.Proofs.YtljdidimoagnhaaDoor

namespace Go.Proofs.YtljdidimoagnhaaDoor
open Go.RowKit
set_option linter.unusedVariables false

theorem Cel.mid {w : World} {g M n c : Nat} {ds : List Int} (h : Cel w g ds) (hl : M + n ≤ ds.length) (hm : n ≤ maxLen) : ArgP w ((ds.drop M).take n) (some ⟨g, M, none⟩) n c := by
  refine ⟨by simp; omega, hm, fun k hk => ⟨g, M, rfl, h.lt, ?_⟩⟩
  have hk' : k < n := by simp at hk; omega
  rw [h.cells (M + k) (by omega)]
  simp [List.getD, show M + k < ds.length by omega]
theorem mid_ok {S : Int} {ds : List Int} (h : cellsOk S ds) (M n : Nat) : cellsOk S ((ds.drop M).take n) := fun x hx => h x (List.mem_of_mem_drop (List.mem_of_mem_take hx))

theorem wrap_natL (n : Nat) (h : n ≤ 1000000) : IntKind.i64.wrap (n : Int) = (n : Int) := by simp [IntKind.wrap, IntKind.bits, IntKind.signed]; omega

set_option maxRecDepth 100000 in
set_option maxHeartbeats 3200000 in
theorem widen_clo (S R M : Nat) (T : List Int) (ta : Option Addr) (tn tc pr pm g L : Nat) (ds : List Int) (wr : World)
    (hLk : LineOk S R T) (hA : RB pr S R (.slice ta tn tc) wr) (hM : wr.cell? ⟨pm, 0, none⟩ = some (.int .i64 (M : Int))) (hT : ArgP wr T ta tn tc) (hC : Cel wr g ds) (hl : ds.length = L) (hL : L = 2 * (R + M) + 1) (hM1 : M ≤ 10) (hok : cellsOk S ds) :
    Calls Tryd.prog 123 #[.slice (some ⟨g, 0, none⟩) L L, .pointer (some ⟨pr, 0, none⟩), .pointer (some ⟨pm, 0, none⟩)] wr fun e w' => e = .returned (.int .i64 ((applyL S R T ((ds.drop M).take (2 * R + 1))).getD 0 0)) ∧ Below wr.heap.size wr w' := by
  have r10 := hLk.r10
  have HLk := hide' hLk
  have HA := hide' hA
  have HT := hide' hT
  have HL := hide' hL
  obtain ⟨H, hH⟩ : ∃ H, L - M = H := ⟨_, rfl⟩
  have q1 : (L : Int) - (M : Int) = (H : Int) := by omega
  have HMe := hide' (show H - M = 1 + 2 * R by omega)
  obtain ⟨xs, hxs⟩ : ∃ xs, (ds.drop M).take (2 * R + 1) = xs := ⟨_, rfl⟩
  have AW := hide' (show ArgP wr xs (some ⟨g, M, none⟩) (H - M) (L - M) by rw [← hxs, show H - M = 2 * R + 1 by omega]; exact hC.mid (by omega) (by unfold maxLen; omega))
  have OX := hide' (show cellsOk S xs by rw [← hxs]; exact mid_ok hok M _)
  have XL := hide' (show xs.length = 2 * R + 1 by rw [← hxs]; simp; omega)
  rw [hxs]
  obtain ⟨res, hres⟩ : ∃ res, (applyL S R T xs).getD 0 0 = res := ⟨_, rfl⟩
  have RES := hide' hres
  rw [hres]
  have D0 := hide' (show Below wr.heap.size wr wr.drew from (Below.refl _ _).drew)
  have v1 : ¬ L = M := by omega
  have v2 : H ≤ L := by omega
  have v3 : M ≤ H := by omega
  have v4 : L ≤ 41 := by omega
  have u1 : IntKind.i64.wrap (M : Int) = (M : Int) := wrap_natL M (by omega)
  have u2 : IntKind.i64.wrap (H : Int) = (H : Int) := wrap_natL H (by omega)
  have u3 : IntKind.i64.wrap (L : Int) = (L : Int) := wrap_natL L (by omega)
  clear hLk hA hT hC hl hL hok hxs hres hH
  obtain ⟨a0, a1, a2, a3, a4, a5, a6⟩ := HA.out
  go_enter Tryd.func123, Tryd.ntmps123
  go_upto_region 1 with fail
  go_region_with
    (go_at_call 114; refine (applied_pos S R T ta tn tc xs (some ⟨g, M, none⟩) (H - M) (L - M) 1 _ HLk.out (HT.out.below D0.out) (AW.out.below D0.out) (by omega) (by unfold maxLen; omega) OX.out HMe.out (by omega) (by omega)).mono ?_; rintro e w2 ⟨g2, rfl, hg2, c2, bw2⟩; have D2 := hide' (D0.out.trans (bw2.mono (by have := D0.out.size; omega))); have k2 : w2.cell? ⟨g2, 0, none⟩ = some (.int .i64 res) := (by rw [← RES.out]; exact c2.cells 0 (by rw [applyL_length, XL.out]; omega)); clear bw2 c2 hg2)
  all_goals
    go_wp2
    go_ret
    exact ⟨rfl, D2.out⟩
end Go.Proofs.YtljdidimoagnhaaDoor

