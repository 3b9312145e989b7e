/-
  What the last text of this claim leans on, part 11: Oc4, Oc5.
-/
import Derived.Test.YtjjdjdodhedihaaDoorJs10
namespace Go.Proofs.YtjjdjdodhedihaaDoor
open Go.RowKit
set_option linter.unusedVariables false

def prCells (l : List (Nat × Nat)) : List Value := l.flatMap fun x => [.int .i64 (x.1 : Int), .int .i64 (x.2 : Int)]
theorem prCells_snoc (l : List (Nat × Nat)) (x : Nat × Nat) : prCells (l ++ [x]) = prCells l ++ [.int .i64 (x.1 : Int), .int .i64 (x.2 : Int)] := by simp [prCells]
theorem prCells_at (l : List (Nat × Nat)) : ∀ (i : Nat) (hi : i < l.length), (prCells l)[i * 2]? = some (.int .i64 (l[i].1 : Int)) ∧ (prCells l)[i * 2 + 1]? = some (.int .i64 (l[i].2 : Int)) := by
  induction l with
  | nil => intro i hi; simp at hi
  | cons x r ih =>
    intro i hi
    have e : prCells (x :: r) = [.int .i64 (x.1 : Int), .int .i64 (x.2 : Int)] ++ prCells r := rfl
    rw [e]
    cases i with
    | zero => exact ⟨rfl, rfl⟩
    | succ i =>
      rw [List.getElem?_append_right (by simp; omega), List.getElem?_append_right (by simp; omega)]
      have := ih i (by simpa using hi)
      rw [show (i + 1) * 2 - [Value.int .i64 (x.1 : Int), .int .i64 (x.2 : Int)].length = i * 2 by simp; omega, show (i + 1) * 2 + 1 - [Value.int .i64 (x.1 : Int), .int .i64 (x.2 : Int)].length = i * 2 + 1 by simp; omega]
      simpa using this
def prAt (l : List (Nat × Nat)) (k : Nat) : Nat × Nat := l.getD k (0, 0)
theorem ownsRow_pc {w : World} {base : Nat} {v : Value} {l : List (Nat × Nat)} (h : w.ownsRow base 127 2 v l.length (prCells l)) (h0 : 0 < l.length) : ∃ g cap, v = .slice (some ⟨g, 0, none⟩) l.length cap ∧ base ≤ g ∧ l.length ≤ cap ∧ cap ≤ maxLen ∧ PC w g l.length (prAt l) := by
  rcases h.2 with ⟨_, h1⟩ | ⟨g, cap, cur, rfl, hg, hh, hc, hm, hs, ht⟩
  · omega
  · have at_ : ∀ j u, j < l.length * 2 → (prCells l)[j]? = some u → w.cell? ⟨g, j, none⟩ = some u := fun j u hj hu => by
      rw [← ht, List.getElem?_take, if_pos hj] at hu
      simp only [World.cell?, hh]
      simpa using hu
    refine ⟨g, cap, rfl, hg, hc, hm, (Array.getElem?_eq_some_iff.1 hh).1, fun k hk => ?_, fun k hk => ?_, fun k => by simp [World.frozen?, hh]⟩
    · rw [at_ (k * 2) _ (by omega) (prCells_at l k hk).1]; simp [prAt, List.getD, hk]
    · rw [at_ (k * 2 + 1) _ (by omega) (prCells_at l k hk).2]; simp [prAt, List.getD, hk]

/-- The stop of a number. -/
def stAt (st : List Stp) (j : Nat) : Stp := st.getD j ⟨0, 0, 0, 0, 0⟩
/-- Where the chain of a stop begins, and the cells along it. -/
def chF (st : List Stp) : Nat → Nat → (Nat × Nat) × List (Nat × Nat)
  | 0, j => (((stAt st j).p, (stAt st j).q), [])
  | f + 1, j => if (stAt st j).h < 0 then (((stAt st j).p, (stAt st j).q), []) else ((chF st f (stAt st j).h.toNat).1, (chF st f (stAt st j).h.toNat).2 ++ [((stAt st j).a, (stAt st j).b)])
def chain (st : List Stp) (j : Nat) : (Nat × Nat) × List (Nat × Nat) := chF st (j + 1) j
/-- Each stop's ahead is an earlier one, or none. -/
def Chains (st : List Stp) : Prop := ∀ j, j < st.length → (stAt st j).h < 0 ∨ (stAt st j).h.toNat < j
theorem chF_same {st : List Stp} (hC : Chains st) : ∀ (N j f f' : Nat), j < N → j < st.length → j < f → j < f' → chF st f j = chF st f' j := by
  intro N
  induction N with
  | zero => intro j _ _ h; omega
  | succ N ih =>
    intro j f f' hN hj hf hf'
    obtain ⟨f, rfl⟩ : ∃ k, f = k + 1 := ⟨f - 1, by omega⟩
    obtain ⟨f', rfl⟩ : ∃ k, f' = k + 1 := ⟨f' - 1, by omega⟩
    by_cases h0 : (stAt st j).h < 0
    · rw [chF, chF, if_pos h0, if_pos h0]
    · have h1 := (hC j hj).resolve_left h0
      rw [chF, chF, if_neg h0, if_neg h0, ih (stAt st j).h.toNat f f' (by omega) (by omega) (by omega) (by omega)]
theorem chain_root {st : List Stp} {j : Nat} (h : (stAt st j).h < 0) : chain st j = (((stAt st j).p, (stAt st j).q), []) := by
  unfold chain; rw [chF, if_pos h]
theorem chain_step {st : List Stp} (hC : Chains st) {j h : Nat} (hj : j < st.length) (e : (stAt st j).h = (h : Int)) : h < j ∧ chain st j = ((chain st h).1, (chain st h).2 ++ [((stAt st j).a, (stAt st j).b)]) := by
  have h1 := (hC j hj).resolve_left (by rw [e]; omega)
  rw [e] at h1
  simp only [Int.toNat_natCast] at h1
  refine ⟨h1, ?_⟩
  unfold chain
  rw [chF, if_neg (by rw [e]; omega), e]
  simp only [Int.toNat_natCast]
  rw [chF_same hC (h + 1) h j (h + 1) (by omega) (by omega) h1 (by omega)]

/-- The stops, cell by cell. -/
structure SC (W : World) (g : Nat) (st : List Stp) : Prop where
  lt : g < W.heap.size
  cells : ∀ i k, i < st.length → k < 5 → W.cell? ⟨g, i * 5 + k, none⟩ = ((stAt st i).cells)[k]?
theorem SC.below {W W' : World} {g : Nat} {st : List Stp} (h : SC W g st) (hb : Below W.heap.size W W') : SC W' g st :=
  ⟨Nat.lt_of_lt_of_le h.lt hb.size, fun i k hi hk => (World.cell?_of_block (w := W) (a := ⟨g, i * 5 + k, none⟩) (hb.block g h.lt)).trans (h.cells i k hi hk)⟩
theorem SC.block {W W' : World} {g : Nat} {st : List Stp} (h : SC W g st) (hs : W.heap.size ≤ W'.heap.size) (e : W'.heap[g]? = W.heap[g]?) : SC W' g st :=
  ⟨Nat.lt_of_lt_of_le h.lt hs, fun i k hi hk => (World.cell?_of_block (w := W) (a := ⟨g, i * 5 + k, none⟩) e).trans (h.cells i k hi hk)⟩
theorem info_pair : (Tryd.prog.info? 127).map (fun i => (i.zero, i.size, i.bytes)) = some (some (.agg #[.int .i64 0, .int .i64 0]), 2, 16) := by kernel_rfl
theorem two_new (w : World) (x0 x1 : Value) (t : TypeId) : ∀ j u, [x0, x1][j]? = some u → (w.alloc (.cells #[x0, x1] t)).cell? ((⟨w.heap.size, 0, none⟩ : Addr).add j) = some u := by
  intro j u hj
  have e : (⟨w.heap.size, 0, none⟩ : Addr).add j = ⟨w.heap.size, j, none⟩ := by unfold Addr.add; split <;> simp_all
  rw [e, World.cell?_alloc_at _ _ _ _ rfl]
  simpa using hj
theorem row_one (w : World) (base : Nat) (x : Nat × Nat) (hb : base ≤ w.heap.size) : (w.alloc (.cells #[.int .i64 (x.1 : Int), .int .i64 (x.2 : Int)] 127)).ownsRow base 127 2 (.slice (some ⟨w.heap.size, 0, none⟩) 1 1) 1 (prCells [x]) :=
  ⟨rfl, Or.inr ⟨_, 1, _, rfl, hb, World.alloc_heap_new w _, by decide, by unfold maxLen; decide, rfl, rfl⟩⟩

theorem row_base {w : World} {base : Nat} {e : TypeId} {size n : Nat} {v : Value} {xs : List Value} (h : w.ownsRow base e size v n xs) : ∀ r, v.ownBlock = some r → base ≤ r := fun r er => by
  rcases h.2 with ⟨rfl, _⟩ | ⟨g, cap, cur, rfl, hb, _⟩
  · simp [Value.ownBlock] at er
  · obtain rfl : g = r := by simpa [Value.ownBlock] using er
    exact hb
theorem stored2 {w2 : World} {p : Nat} {z0 z1 : Value} (h0 : w2.cell? ⟨p, 0, none⟩ = some z0) (h1 : w2.cell? ⟨p, 1, none⟩ = some z1) (a b : Value) {W : World} (e : W = (w2.setCell ⟨p, 0, none⟩ a).setCell ⟨p, 1, none⟩ b) : W.cell? ⟨p, 0, none⟩ = some a ∧ W.cell? ⟨p, 1, none⟩ = some b := by
  subst e
  have o : ∀ (W : World) (i j : Nat) (u : Value), i ≠ j → (W.setCell ⟨p, i, none⟩ u).cell? ⟨p, j, none⟩ = W.cell? ⟨p, j, none⟩ := fun W i j u h => World.cell?_setCell_other _ ⟨p, i, none⟩ ⟨p, j, none⟩ _ (fun q => h (congrArg Addr.off q))
  exact ⟨by rw [o _ 1 0 _ (by decide)]; exact World.cell?_setCell_same _ _ _ h0, World.cell?_setCell_same _ _ _ (by rw [o _ 0 1 _ (by decide)]; exact h1)⟩
theorem PC.block {w w' : World} {g n : Nat} {E : Nat → Nat × Nat} (h : PC w g n E) (hs : w.heap.size ≤ w'.heap.size) (e : w'.heap[g]? = w.heap[g]?) : PC w' g n E :=
  ⟨Nat.lt_of_lt_of_le h.lt hs, fun k hk => (World.cell?_of_block (w := w) (a := ⟨g, k * 2, none⟩) e).trans (h.c0 k hk), fun k hk => (World.cell?_of_block (w := w) (a := ⟨g, k * 2 + 1, none⟩) e).trans (h.c1 k hk), fun k => (World.frozen?_of_block (w := w) (a := ⟨g, k, none⟩) e).trans (h.fz k)⟩
/-- The trail that is answered. -/
def TrailPost (root : Nat × Nat) (full : List (Nat × Nat)) (w : World) (e : Ending) (w' : World) : Prop :=
  ∃ g c, e = .returned (.tuple #[.agg #[.int .i64 (root.1 : Int), .int .i64 (root.2 : Int)], .slice (some ⟨g, 0, none⟩) full.length c]) ∧ w.heap.size ≤ g ∧ full.length ≤ c ∧ c ≤ maxLen ∧ PC w' g full.length (prAt full) ∧ Below w.heap.size w w'

set_option maxRecDepth 100000 in
set_option maxHeartbeats 6400000 in
theorem trailTo_any (st : List Stp) (g cap i : Nat) (a b : Nat) (w : World) (hS : SC w g st) (hC : Chains st) (hi : i < st.length) (hst : st.length ≤ 256) :
    Calls Tryd.prog 108 #[.slice (some ⟨g, 0, none⟩) st.length cap, .int .i64 (i : Int), .agg #[.int .i64 (a : Int), .int .i64 (b : Int)]] w (TrailPost (chain st i).1 ((chain st i).2 ++ [(a, b)]) w) := by
  obtain ⟨w1, hw1⟩ : ∃ w1, (w.alloc (.cells #[.int .i64 (a : Int), .int .i64 (b : Int)] 127)).alloc (.cells #[.int .i64 0, .int .i64 0] 127) = w1 := ⟨_, rfl⟩
  have s1 : w1.heap.size = w.heap.size + 2 := by rw [← hw1]; simp
  have BB := hide' (show Below w.heap.size w w1 by rw [← hw1]; exact ((Below.refl _ _).alloc (Nat.le_refl _) _).alloc (by simp) _)
  have X1 := hide' (show Blk w1 w.heap.size #[.int .i64 (a : Int), .int .i64 (b : Int)] 127 by rw [← hw1]; exact (Blk.new _ _ _).alloc _)
  have Y1 := hide' (show Blk w1 (w.heap.size + 1) #[.int .i64 0, .int .i64 0] 127 by rw [← hw1]; have := Blk.new (w.alloc (.cells #[.int .i64 (a : Int), .int .i64 (b : Int)] 127)) #[.int .i64 0, .int .i64 0] 127; rw [World.size_alloc] at this; exact this)
  have HS := hide' hS
  have HC := hide' hC
  have c0 : w1.cell? ⟨w.heap.size, 0, none⟩ = some (.int .i64 (a : Int)) := X1.out.cell 0
  have c1 : w1.cell? ⟨w.heap.size, 1, none⟩ = some (.int .i64 (b : Int)) := X1.out.cell 1
  obtain ⟨i0, hi0, hz0, hz1, hz2⟩ := info_parts info_pair
  obtain ⟨root, hroot⟩ : ∃ r, (chain st i).1 = r := ⟨_, rfl⟩
  obtain ⟨full, hfull⟩ : ∃ l, (chain st i).2 ++ [(a, b)] = l := ⟨_, rfl⟩
  have R0 := hide' hroot
  have F0 := hide' (show (chain st i).2 ++ ([(a, b)] : List (Nat × Nat)).reverse = full from hfull)
  rw [hroot, hfull]
  have O1 := hide' (show (w1.alloc (.cells #[.int .i64 (a : Int), .int .i64 (b : Int)] 127)).ownsRow (w.heap.size + 2) 127 2 (.slice (some ⟨w1.heap.size, 0, none⟩) 1 1) 1 (prCells [(a, b)]) from row_one w1 _ (a, b) (by omega))
  obtain ⟨L, hL⟩ : ∃ L, st.length = L := ⟨_, rfl⟩
  have HL := hide' hL
  rw [hL] at hi hst ⊢
  clear hS hC hroot hfull hL
  go_enter Tryd.func108, Tryd.ntmps108
  go_wp2
  clear c0 c1 hw1
  try rw [s1] at O1
  try rw [s1]
  go_loopw [1, 7] (fun jv tv wr => ∃ (j : Nat) (l : List (Nat × Nat)), jv = .int .i64 (j : Int) ∧ j ≤ i ∧ l.length + j ≤ i + 1 ∧ 1 ≤ l.length ∧ Hid (wr.ownsRow (w.heap.size + 2) 127 2 tv l.length (prCells l) ∧ (chain st j).1 = root ∧ (chain st j).2 ++ l.reverse = full ∧ Below (w.heap.size + 2) w1 wr)) (fun jv _ _ => (intOf jv).toNat)
  case atStart => exact ⟨i, [(a, b)], rfl, by omega, by simp; omega, by simp, hide' ⟨by rw [s1] at *; exact O1.out, R0.out, F0.out, (Below.refl _ _).alloc (by omega) _⟩⟩
  case round =>
    clear O1
    obtain ⟨j, l, rfl, hj, hl, hl1, H1⟩ := hrel
    obtain ⟨s, hs⟩ : ∃ s, stAt st j = s := ⟨_, rfl⟩
    have BW := hide' (show Below w.heap.size w wr from BB.out.trans (H1.out.2.2.2.mono (by omega)))
    have SJ := hide' (show ∀ (W : World), Below w.heap.size w W → ∀ k, k < 5 → W.cell? ⟨g, j * 5 + k, none⟩ = (s.cells)[k]? by
      intro W hW k hk
      rw [(HS.out.below hW).cells j k (by have := HL.out; omega) hk, hs])
    have sz := H1.out.2.2.2.size
    by_cases hneg : s.h < 0
    · have RT := hide' (chain_root (st := st) (j := j) (by rw [hs]; exact hneg))
      rw [hs] at RT
      have E1 := hide' (show root = (s.p, s.q) by rw [← H1.out.2.1, RT.out])
      have E2 := hide' (show l.reverse = full by have := H1.out.2.2.1; rw [RT.out] at this; simpa using this)
      obtain ⟨g2, c2, rfl, hg2, hc2, hm2, pc⟩ := ownsRow_pc H1.out.1 (by omega)
      have PCX := hide' pc
      have CC := hide' (show l.length ≤ c2 ∧ c2 ≤ maxLen from ⟨hc2, hm2⟩)
      have BL := hide' H1.out.2.2.2
      have k4 : wr.cell? ⟨g, j * 5 + 4, none⟩ = some (.int .i64 s.h) := SJ.out wr BW.out 4 (by decide)
      clear hs H1 pc hc2 hm2 RT
      go_wp2_with fail
      refine (reverseP_any g2 l.length c2 (prAt l) _ (by omega) (by omega) PCX.out).mono ?_
      rintro e w5 ⟨rfl, pc5, r5⟩
      have g2b : w.heap.size + 2 ≤ g2 := hg2
      have R5 := hide' r5
      have BL5 := hide' (show Below (w.heap.size + 2) w1 w5 from BL.out.trans ⟨r5.os, r5.tape, r5.output, r5.size, fun k hk => r5.block k (by omega) (by omega)⟩)
      have B5 := hide' (show Below w.heap.size w w5 from BB.out.trans (BL5.out.mono (by omega)))
      have P5 := hide' pc5
      have Y5 := hide' (show Blk w5 (w.heap.size + 1) #[.int .i64 0, .int .i64 0] 127 from Y1.out.of (BL5.out.block _ (by omega)))
      have d0 : w5.cell? ⟨g, j * 5, none⟩ = some (.int .i64 (s.p : Int)) := SJ.out w5 B5.out 0 (by decide)
      have d1 : w5.cell? ⟨g, j * 5 + 1, none⟩ = some (.int .i64 (s.q : Int)) := SJ.out w5 B5.out 1 (by decide)
      have z0 : w5.cell? ⟨w.heap.size + 1, 0, none⟩ = some (.int .i64 0) := Y5.out.cell 0
      have z1 : w5.cell? ⟨w.heap.size + 1, 1, none⟩ = some (.int .i64 0) := Y5.out.cell 1
      have f0 := Y5.out.frozen 0
      have f1 := Y5.out.frozen 1
      clear k4 pc5 r5
      have FL := hide' (show full.length = l.length by rw [← E2.out]; simp)
      have PF := hide' (show PC ((w5.setCell ⟨w.heap.size + 1, 0, none⟩ (.int .i64 (s.p : Int))).setCell ⟨w.heap.size + 1, 1, none⟩ (.int .i64 (s.q : Int))) g2 full.length (prAt full) by
        rw [FL.out]
        refine PC.ext ((P5.out.block (by simp) ?_)) (fun k hk => ?_)
        · rw [heap_setCell_other _ _ _ _ _ (by omega), heap_setCell_other _ _ _ _ _ (by omega)]
        · rw [← E2.out]
          unfold prAt
          simp [List.getD, List.getElem?_reverse hk])
      have BF := hide' (show Below w.heap.size w ((w5.setCell ⟨w.heap.size + 1, 0, none⟩ (.int .i64 (s.p : Int))).setCell ⟨w.heap.size + 1, 1, none⟩ (.int .i64 (s.q : Int))) from
        (B5.out.setCell (p := ⟨w.heap.size + 1, 0, none⟩) (by show w.heap.size ≤ w.heap.size + 1; omega) _).setCell (p := ⟨w.heap.size + 1, 1, none⟩) (by show w.heap.size ≤ w.heap.size + 1; omega) _)
      go_wp2
      obtain ⟨W, hW⟩ : ∃ W, W = ((w5.setCell ⟨w.heap.size + 1, 0, none⟩ (.int .i64 (s.p : Int))).setCell ⟨w.heap.size + 1, 1, none⟩ (.int .i64 (s.q : Int))) := ⟨_, rfl⟩
      obtain ⟨v0, v1⟩ := stored2 z0 z1 (.int .i64 (s.p : Int)) (.int .i64 (s.q : Int)) hW
      rw [← hW] at PF BF ⊢
      refine bodyPost_ret (v := .tuple #[.agg #[.int .i64 (s.p : Int), .int .i64 (s.q : Int)], .slice (some ⟨g2, 0, none⟩) l.length c2]) (by simp [results, Tryd.results108, go_sem, v0, v1]) rfl ?_
      exact ⟨g2, c2, by rw [E1.out, FL.out], by omega, by rw [FL.out]; exact CC.out.1, CC.out.2, PF.out, BF.out⟩
    · obtain ⟨hn, hhn⟩ : ∃ hn : Nat, s.h = (hn : Int) := ⟨s.h.toNat, by omega⟩
      have STEP := chain_step HC.out (j := j) (h := hn) (by have := HL.out; omega) (by rw [hs]; exact hhn)
      rw [hs] at STEP
      have hnj : hn < j := STEP.1
      have E1 := hide' (show (chain st hn).1 = root by rw [← H1.out.2.1, STEP.2])
      have E2 := hide' (show (chain st hn).2 ++ (l ++ [(s.a, s.b)]).reverse = full by rw [← H1.out.2.2.1, STEP.2]; simp)
      have OW := hide' H1.out.1
      have BL := hide' H1.out.2.2.2
      have k4 : wr.cell? ⟨g, j * 5 + 4, none⟩ = some (.int .i64 (hn : Int)) := by rw [← hhn]; exact SJ.out wr BW.out 4 (by decide)
      have k2 : wr.cell? ⟨g, j * 5 + 2, none⟩ = some (.int .i64 (s.a : Int)) := SJ.out wr BW.out 2 (by decide)
      have k3 : wr.cell? ⟨g, j * 5 + 3, none⟩ = some (.int .i64 (s.b : Int)) := SJ.out wr BW.out 3 (by decide)
      have HHN := hide' hhn
      clear hs STEP H1 hhn hneg
      go_wp2_with (at_builtin; refine wpList_append_own_at _ rfl _ _ 125 rfl (w.heap.size + 2) 127 i0 (.agg #[.int .i64 0, .int .i64 0]) 2 16 Tryd.underlying125 hi0 hz0 hz1 hz2 rfl (by decide) _ l.length (prCells l) rfl (OW.out.alloc _) ⟨wr.heap.size, 0, none⟩ 1 1 [.int .i64 (s.a : Int), .int .i64 (s.b : Int)] rfl rfl (two_new _ _ _ _) (by simp [Value.oneCell']) (by unfold maxLen; omega) (by omega) (by simp; omega) ?_; intro v' w3 hown' hgrow3 hnil3 hloc3; have ON := hide' hown'; have GR := hide' hgrow3; clear hown' hgrow3 hnil3 hloc3; have BG := hide' (show Below (w.heap.size + 2) w1 w3 from (BL.out.alloc (by omega) _).grown GR.out (by simp; omega) (row_base OW.out)); have m4 : w3.cell? ⟨g, j * 5 + 4, none⟩ = some (.int .i64 (hn : Int)) := by (rw [← HHN.out]; exact SJ.out w3 (BB.out.trans (BG.out.mono (by omega))) 4 (by decide)))
      refine ⟨⟨hn, l ++ [(s.a, s.b)], rfl, by omega, by simp; omega, by simp, hide' ⟨?_, E1.out, E2.out, BG.out⟩⟩, by simp [intOf]; omega⟩
      rw [prCells_snoc, List.length_append]
      exact ON.out
end Go.Proofs.YtjjdjdodhedihaaDoor

namespace Go.Proofs.YtjjdjdodhedihaaDoor
open Go.RowKit
set_option linter.unusedVariables false

set_option maxRecDepth 100000 in
set_option maxHeartbeats 1600000 in
theorem alike_any (a b : Nat) (β : Bool) (hβ : decide (a = b) = β) (w : World) :
    Calls Tryd.prog 79 #[.agg #[.int .i64 (a : Int), .int .i64 (b : Int)]] w fun e w' => e = .returned (.bool β) ∧ Below w.heap.size w w' := by
  obtain ⟨w1, hw1⟩ : ∃ w1, w.alloc (.cells #[.int .i64 (a : Int), .int .i64 (b : Int)] 127) = w1 := ⟨_, rfl⟩
  have BB := hide' (show Below w.heap.size w w1 by rw [← hw1]; exact (Below.refl _ _).alloc (Nat.le_refl _) _)
  have BX := hide' (show Blk w1 w.heap.size #[.int .i64 (a : Int), .int .i64 (b : Int)] 127 by rw [← hw1]; exact Blk.new _ _ _)
  have c0 : w1.cell? ⟨w.heap.size, 0, none⟩ = some (.int .i64 (a : Int)) := BX.out.cell 0
  have c1 : w1.cell? ⟨w.heap.size, 1, none⟩ = some (.int .i64 (b : Int)) := BX.out.cell 1
  have e1 : ((a : Int) == (b : Int)) = β := by
    rw [← hβ]
    by_cases h : a = b
    · simp [h]
    · simp [h, show ¬ (a : Int) = (b : Int) by omega]
  clear hβ
  go_enter Tryd.func79, Tryd.ntmps79
  go_wp2
  go_ret
  exact ⟨rfl, BB.out⟩

/-- What rings wants of a way. -/
def wantR (x y p' q' a b : Nat) : Bool := decide (p' = x ∧ q' = y) && !decide (a = b)
set_option maxRecDepth 100000 in
set_option maxHeartbeats 1600000 in
theorem wantR_any (x y p q p' q' a b : Nat) (pst : Nat) (w : World) (hP : PB pst x y w) :
    Calls Tryd.prog 83 #[.agg #[.int .i64 (p : Int), .int .i64 (q : Int), .int .i64 (p' : Int), .int .i64 (q' : Int), .int .i64 (a : Int), .int .i64 (b : Int)], .pointer (some ⟨pst, 0, none⟩)] w fun e w' => e = .returned (.bool (wantR x y p' q' a b)) ∧ Below w.heap.size w w' := by
  obtain ⟨w1, hw1⟩ : ∃ w1, w.alloc (.cells #[.int .i64 (p : Int), .int .i64 (q : Int), .int .i64 (p' : Int), .int .i64 (q' : Int), .int .i64 (a : Int), .int .i64 (b : Int)] 131) = w1 := ⟨_, rfl⟩
  have BB := hide' (show Below w.heap.size w w1 by rw [← hw1]; exact (Below.refl _ _).alloc (Nat.le_refl _) _)
  have BX := hide' (show Blk w1 w.heap.size #[.int .i64 (p : Int), .int .i64 (q : Int), .int .i64 (p' : Int), .int .i64 (q' : Int), .int .i64 (a : Int), .int .i64 (b : Int)] 131 by rw [← hw1]; exact Blk.new _ _ _)
  have c2 : w1.cell? ⟨w.heap.size, 2, none⟩ = some (.int .i64 (p' : Int)) := BX.out.cell 2
  have c3 : w1.cell? ⟨w.heap.size, 3, none⟩ = some (.int .i64 (q' : Int)) := BX.out.cell 3
  have c4 : w1.cell? ⟨w.heap.size, 4, none⟩ = some (.int .i64 (a : Int)) := BX.out.cell 4
  have c5 : w1.cell? ⟨w.heap.size, 5, none⟩ = some (.int .i64 (b : Int)) := BX.out.cell 5
  obtain ⟨d0, d1⟩ := hP.block (BB.out.block pst hP.lt)
  clear hP
  by_cases e1 : p' = x
  · subst e1
    by_cases e2 : q' = y
    · subst e2
      obtain ⟨β, hβ⟩ : ∃ β, decide (a = b) = β := ⟨_, rfl⟩
      have AL := hide' (fun (wr : World) => alike_any a b β hβ wr)
      have E := hide' (show wantR p' q' p' q' a b = !β by unfold wantR; rw [hβ]; simp)
      rw [E.out]
      clear hβ E
      go_enter Tryd.func83, Tryd.ntmps83
      go_wp2_with fail
      refine (AL.out _).mono ?_
      rintro e w2 ⟨rfl, b2⟩
      have B2 := hide' (BB.out.trans (b2.mono BB.out.size))
      clear b2
      go_wp2
      go_ret
      exact ⟨rfl, B2.out⟩
    · have n2 : ¬ (q' : Int) = (y : Int) := by omega
      have E := hide' (show wantR p' y p' q' a b = false by unfold wantR; simp [e2])
      rw [E.out]
      clear e2
      go_enter Tryd.func83, Tryd.ntmps83
      go_wp2
      go_ret
      exact ⟨rfl, BB.out⟩
  · have n1 : ¬ (p' : Int) = (x : Int) := by omega
    have E := hide' (show wantR x y p' q' a b = false by unfold wantR; simp [e1])
    rw [E.out]
    clear e1
    go_enter Tryd.func83, Tryd.ntmps83
    go_wp2
    go_ret
    exact ⟨rfl, BB.out⟩

/-- What twins wants of a way. -/
def wantT (p q p' q' a b : Nat) : Bool := decide (p' = q') && !(decide (p = q) && decide (a = b))
end Go.Proofs.YtjjdjdodhedihaaDoor

