/-
  What the last text of this claim leans on, part 23: Oj4.
-/
import Derived.Test.YtjjdjdodhedihaaDoorJs22
import Derived.Test.YtjjdjdodhedihaaDoorJs11
import Derived.Maps.AppendAt
namespace Go.Proofs.YtjjdjdodhedihaaDoor
open Go.RowKit
set_option linter.unusedVariables false

/-- Numbers in a block. -/
structure IC (w : World) (g n : Nat) (E : Nat → Int) : Prop where
  lt : g < w.heap.size
  c0 : ∀ k, k < n → w.cell? ⟨g, k, none⟩ = some (.int .i64 (E k))
  fz : ∀ k, w.frozen? ⟨g, k, none⟩ = false
theorem IC.drew {w : World} {g n : Nat} {E : Nat → Int} (h : IC w g n E) : IC w.drew g n E := ⟨h.lt, h.c0, h.fz⟩
theorem IC.ext {w : World} {g n : Nat} {E E' : Nat → Int} (h : IC w g n E) (e : ∀ k, k < n → E k = E' k) : IC w g n E' := ⟨h.lt, fun k hk => by rw [← e k hk]; exact h.c0 k hk, h.fz⟩
theorem IC.set {w : World} {g n : Nat} {E : Nat → Int} (h : IC w g n E) (i : Nat) (hi : i < n) (x : Int) : IC (w.setCell ⟨g, i, none⟩ (.int .i64 x)) g n (fun k => if k = i then x else E k) := by
  refine ⟨by simpa using h.lt, fun k hk => ?_, fun k => by rw [World.frozen?_setCell]; exact h.fz k⟩
  by_cases e : k = i
  · subst e
    simp only [if_true]
    exact World.cell?_setCell_same _ _ _ (h.c0 k hk)
  · rw [World.cell?_setCell_other _ ⟨g, i, none⟩ ⟨g, k, none⟩ _ (fun q => e (congrArg Addr.off q).symm), if_neg e]; exact h.c0 k hk
theorem Cel.ic {w : World} {g : Nat} {xs : List Int} (h : Cel w g xs) : IC w g xs.length (fun k => xs.getD k 0) := ⟨h.lt, h.cells, h.fz⟩
theorem IC.cel {w : World} {g : Nat} {xs : List Int} (h : IC w g xs.length (fun k => xs.getD k 0)) : Cel w g xs := ⟨h.lt, h.c0, h.fz⟩
theorem rd_set1 {w w' : World} {g : Nat} (h : Rd g w w') (i : Nat) (u : Value) : Rd g w (w'.setCell ⟨g, i, none⟩ u) :=
  ⟨h.os, h.tape, h.output, by simpa using h.size, fun k hk hg => by rw [heap_setCell_other _ _ _ _ _ hg]; exact h.block k hk hg⟩

set_option maxRecDepth 100000 in
set_option maxHeartbeats 6400000 in
theorem reverseI_any (g n c : Nat) (E : Nat → Int) (w : World) (h0 : 0 < n) (hn : n ≤ 70000) (hP : IC w g n E) :
    Calls Tryd.prog 105 #[.slice (some ⟨g, 0, none⟩) n c] w fun e w' => e = .returned (.tuple #[]) ∧ IC w' g n (fun k => E (n - 1 - k)) ∧ Rd g w w' := by
  have HP := hide' (show IC w g n (fun k => E (ixR n 0 k)) from hP.ext (fun k hk => by unfold ixR; rw [if_neg (by omega)]))
  clear hP
  go_enter Tryd.func105, Tryd.ntmps105
  go_wp2
  go_loopw [2, 3] (fun iv jv wr => ∃ i : Nat, iv = .int .i64 (i : Int) ∧ jv = .int .i64 ((n : Int) - 1 - (i : Int)) ∧ 2 * i ≤ n + 1 ∧ Hid (IC wr g n (fun k => E (ixR n i k)) ∧ Rd g w wr)) (fun iv _ _ => n - (intOf iv).toNat)
  case atStart => exact ⟨0, rfl, by simp, by omega, hide' ⟨HP.out, Rd.refl _ _⟩⟩
  case round =>
    clear HP
    obtain ⟨i, rfl, rfl, hi, H1⟩ := hrel
    by_cases d : (i : Int) < (n : Int) - 1 - (i : Int)
    · obtain ⟨j, hj⟩ : ∃ j : Nat, (n : Int) - 1 - (i : Int) = (j : Int) := ⟨n - 1 - i, by omega⟩
      obtain ⟨x, hx⟩ : ∃ x, E (ixR n i i) = x := ⟨_, rfl⟩
      obtain ⟨y, hy⟩ : ∃ y, E (ixR n i j) = y := ⟨_, rfl⟩
      have a0 := H1.out.1.c0 i (by omega)
      have b0 := H1.out.1.c0 j (by omega)
      have f0 := H1.out.1.fz
      simp only [hx] at a0
      simp only [hy] at b0
      rw [hj] at d
      have e0 := f0 i
      have e2 := f0 j
      have JI := hide' (show j = n - 1 - i by omega)
      have IJ := hide' (show i < j by omega)
      have NX := hide' (show ∀ k, k < n → (if k = j then x else if k = i then y else E (ixR n i k)) = E (ixR n (i + 1) k) by
        intro k hk
        have h1 := JI.out
        have h2 := IJ.out
        by_cases q1 : k = j
        · rw [if_pos q1, ← hx]
          unfold ixR
          rw [if_neg (by omega), if_pos (by omega)]
          congr 1
          omega
        · rw [if_neg q1]
          by_cases q2 : k = i
          · rw [if_pos q2, ← hy]
            unfold ixR
            rw [if_neg (by omega), if_pos (by omega)]
            congr 1
            omega
          · rw [if_neg q2]
            unfold ixR
            by_cases q3 : k < i ∨ n ≤ k + i
            · rw [if_pos q3, if_pos (by omega)]
            · rw [if_neg q3, if_neg (by omega)])
      have PN := hide' (show IC (((wr.setCell ⟨g, i, none⟩ (.int .i64 y)).setCell ⟨g, j, none⟩ (.int .i64 x)).drew) g n (fun k => E (ixR n (i + 1) k)) from
        (((H1.out.1.set i (by omega) y).set j (by omega) x).drew).ext NX.out)
      have RN := hide' (rd_drew (rd_set1 (rd_set1 H1.out.2 i (.int .i64 y)) j (.int .i64 x)))
      clear hx hy NX JI H1
      go_wp2
      go_region
      go_wp2
      exact ⟨⟨i + 1, by go_num, by go_num, by omega, hide' ⟨PN.out, RN.out⟩⟩, by simp [intOf]; omega⟩
    · have FI := hide' (show IC wr g n (fun k => E (n - 1 - k)) from H1.out.1.ext (fun k hk => by
        show E (ixR n i k) = _
        unfold ixR
        split
        · rfl
        · rw [show n - 1 - k = k by omega]))
      go_wp2
      go_end0
      exact ⟨rfl, FI.out, H1.out.2⟩

/-- The queue, cell by cell. -/
structure QC (W : World) (g : Nat) (Q : List En) : Prop where
  lt : g < W.heap.size
  c0 : ∀ i e, Q[i]? = some e → W.cell? ⟨g, i * 3, none⟩ = some (.int .i64 (e.set : Int))
  c1 : ∀ i e, Q[i]? = some e → W.cell? ⟨g, i * 3 + 1, none⟩ = some (.int .i64 (e.st : Int))
  c2 : ∀ i e, Q[i]? = some e → W.cell? ⟨g, i * 3 + 2, none⟩ = some (.int .i64 (e.ah : Int))
theorem QC.block {W W' : World} {g : Nat} {Q : List En} (h : QC W g Q) (hs : W.heap.size ≤ W'.heap.size) (e : W'.heap[g]? = W.heap[g]?) : QC W' g Q :=
  ⟨Nat.lt_of_lt_of_le h.lt hs, fun i x hx => (World.cell?_of_block (w := W) (a := ⟨g, i * 3, none⟩) e).trans (h.c0 i x hx), fun i x hx => (World.cell?_of_block (w := W) (a := ⟨g, i * 3 + 1, none⟩) e).trans (h.c1 i x hx), fun i x hx => (World.cell?_of_block (w := W) (a := ⟨g, i * 3 + 2, none⟩) e).trans (h.c2 i x hx)⟩
theorem QC.below {W W' : World} {g : Nat} {Q : List En} (h : QC W g Q) (hb : Below W.heap.size W W') : QC W' g Q := h.block hb.size (hb.block g h.lt)
theorem grown_baseQ {w0 wr w' : World} {v : Value} {n : Nat} {xs : List Value} {x : Value} {t : TypeId} (ho : wr.ownsRow w0.heap.size 3 1 v n xs) (hb : Below w0.heap.size w0 wr) (hg : (wr.alloc (.cells #[x] t)).grownBy w' v.ownBlock) : Below w0.heap.size w0 w' := by
  have hz := hb.size
  have hsz : wr.heap.size + 1 ≤ w'.heap.size := by have := hg.size; rw [World.size_alloc] at this; exact this
  refine hb.trans ⟨hg.os, hg.tape, hg.output, by omega, fun k hk => ?_⟩
  rw [hg.block k (by rw [World.size_alloc]; omega) (fun e => by have := ownsRow_block ho k e.symm; omega)]
  exact Below.heap_alloc _ _ _ (by omega)
/-- A list that is answered, not empty. -/
def SpellPost (full : List Int) (w : World) (e : Ending) (w' : World) : Prop :=
  ∃ g c, e = .returned (.slice (some ⟨g, 0, none⟩) full.length c) ∧ w.heap.size ≤ g ∧ Cel w' g full ∧ Below w.heap.size w w'
theorem owns_cel {W : World} {B0 : Nat} {v : Value} {xs : List Int} (h : W.ownsRow B0 3 1 v xs.length (xs.map fun y => Value.int .i64 y)) (h0 : 0 < xs.length) : ∃ g cap, v = .slice (some ⟨g, 0, none⟩) xs.length cap ∧ B0 ≤ g ∧ Cel W g xs := by
  rcases h.2 with ⟨rfl, h1⟩ | ⟨g, cap, cur, rfl, hg, hh, hc, hm', hs, ht⟩
  · omega
  · refine ⟨g, cap, rfl, hg, (Array.getElem?_eq_some_iff.1 hh).1, fun k hk => ?_, fun k => by simp [World.frozen?, hh]⟩
    have e : (xs.map fun y => Value.int .i64 y)[k]? = some (.int .i64 (xs.getD k 0)) := by simp [hk, List.getD]
    rw [← ht, List.getElem?_take, if_pos (by omega)] at e
    simp only [World.cell?, hh]
    rw [← Array.getElem?_toList]
    exact e

set_option maxRecDepth 100000 in
set_option maxHeartbeats 6400000 in
theorem spelled_any (S : Nat) (Q : List En) (x : En) (g L cap : Nat) (w : World) (hQ : QC w g Q) (hok : QOk S Q) (hL : Q.length = L) (h1 : 1 < L) (hx : Q[L - 1]? = some x) (hb : L ≤ 65536) :
    Calls Tryd.prog 76 #[.slice (some ⟨g, 0, none⟩) L cap] w (SpellPost x.wd w) := by
  have HQ := hide' hQ
  have HO := hide' hok
  have HX := hide' hx
  have HL := hide' hL
  obtain ⟨full, hf⟩ : ∃ full, x.wd = full := ⟨_, rfl⟩
  have HF := hide' hf
  rw [hf]
  obtain ⟨i0, hi, hz0, hz1, hz2⟩ := info_parts info_int
  clear hQ hok hx hL hf
  go_enter Tryd.func76, Tryd.ntmps76
  go_wp2
  go_loopw [3, 4] (fun wv av wr => ∃ (j : Nat) (l : List Int), av = .int .i64 (j : Int) ∧ j + l.length + 1 ≤ L ∧ (j = 0 → 0 < l.length) ∧ Hid (wr.ownsRow w.heap.size 3 1 wv l.length (l.map fun y => Value.int .i64 y) ∧ (∃ e, Q[j]? = some e ∧ e.wd ++ l.reverse = full) ∧ Below w.heap.size w wr)) (fun _ av _ => (intOf av).toNat)
  case atStart => exact ⟨L - 1, [], by go_num, by simp; omega, by omega, hide' ⟨⟨by simp, Or.inl ⟨rfl, by simp⟩⟩, ⟨x, HX.out, by simp [HF.out]⟩, Below.refl _ _⟩⟩
  case round =>
    obtain ⟨j, l, rfl, hj, hj0, H⟩ := hrel
    obtain ⟨e, he, hw⟩ := H.out.2.1
    have HE := hide' he
    have sz := H.out.2.2.size
    by_cases d : (0 : Int) < (j : Int)
    · obtain ⟨a1, a2, e2, a3, a4⟩ := HO.out.link j e (by omega) he
      have q0 := (HQ.out.below H.out.2.2).c1 j e he
      have q1 := (HQ.out.below H.out.2.2).c2 j e he
      have NX := hide' (show e2.wd ++ (l ++ [(e.st : Int)]).reverse = full by rw [← hw, a4]; simp)
      have HE2 := hide' a3
      have OW := hide' H.out.1
      have BL := hide' H.out.2.2
      have QJ := hide' (fun (W : World) (h : Below w.heap.size w W) => (HQ.out.below h).c2 j e HE.out)
      obtain ⟨s, hs⟩ : ∃ s, e.st = s := ⟨_, rfl⟩
      obtain ⟨h, hh⟩ : ∃ h, e.ah = h := ⟨_, rfl⟩
      rw [hs] at q0 NX
      rw [hh] at q1 a1 HE2
      simp only [hh] at QJ
      clear hs hh a3 a4 hw he H HE
      obtain ⟨sa, sc, e0⟩ := ownsRow_len OW.out
      subst e0
      go_wp2_with (at_builtin; refine wpList_append_own _ rfl _ _ 22 rfl w.heap.size 3 i0 (.int .i64 0) 1 8 Tryd.underlying22 hi hz0 hz1 hz2 rfl (by decide) (.slice sa l.length sc) _ _ rfl (OW.out.alloc _) ⟨wr.heap.size, 0, none⟩ 1 1 [.int .i64 (s : Int)] rfl rfl (cell_one_new _ _ _) (fun x hx => by simp at hx; subst hx; rfl) (by unfold maxLen; omega) (by omega) (by simp; omega) ?_; intro v' w3 hown' hgrow3 hnil3; have O3 := hide' hown'; have B3 := hide' (grown_baseQ OW.out BL.out hgrow3); clear hgrow3 hown' hnil3; have m2 := QJ.out _ B3.out)
      refine ⟨⟨h, l ++ [(s : Int)], rfl, by simp; omega, fun _ => by simp, hide' ⟨?_, ⟨e2, HE2.out, NX.out⟩, B3.out⟩⟩, by simp [intOf]; omega⟩
      have h := O3.out
      simpa using h
    · have j0 : j = 0 := by omega
      subst j0
      have FU := hide' (show l.reverse = full by rw [← hw, HO.out.first e he]; simp)
      obtain ⟨g2, c2, rfl, hg2, cl⟩ := owns_cel H.out.1 (hj0 rfl)
      have CL := hide' cl.ic
      have BL := hide' H.out.2.2
      have l0 : 0 < l.length := hj0 rfl
      clear H cl hw he
      go_wp2_with fail
      refine (reverseI_any g2 l.length c2 (fun k => l.getD k 0) _ l0 (by omega) CL.out).mono ?_
      rintro e w5 ⟨rfl, pc5, r5⟩
      have FL : full.length = l.length := by rw [← FU.out]; simp
      have P5 := hide' (show Cel w5 g2 full from IC.cel (by
        rw [FL]
        refine pc5.ext fun k hk => ?_
        rw [← FU.out]
        simp [List.getD, List.getElem?_reverse hk]))
      have B5 := hide' (show Below w.heap.size w w5 from BL.out.trans ⟨r5.os, r5.tape, r5.output, r5.size, fun k hk => r5.block k (by omega) (by omega)⟩)
      clear pc5 r5
      go_wp2
      go_ret
      exact ⟨g2, c2, by rw [FL]; rfl, hg2, P5.out, B5.out⟩
end Go.Proofs.YtjjdjdodhedihaaDoor

