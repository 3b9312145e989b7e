/-
  What the last text of this claim leans on, part 32: Of4.
-/
import Derived.Test.YtdhbdkkchobinaaDoorJd31
namespace Go.Proofs.YtdhbdkkchobinaaDoor
open Go.RowKit
set_option linter.unusedVariables false

def ClosedR (S n : Nat) (T : List Int) (il : List Bool) (tl : List Nat) (i : Nat) : Prop := ∀ m, m < i → ∀ c, OkWay S T (unP n (tl.getD m 0)) c → il.getD (codeP S n (tl.getD m 0) c) false = true
/-- What reach holds between its rounds. -/
structure RL (w W : World) (S R n : Nat) (T : List Int) (ta : Option Addr) (tn tc : Nat) (fl il : List Bool) (tl : List Nat) : Prop where
  tj : TJ W n (w.heap.size + 2) (w.heap.size + 1) (w.heap.size + 3) w.heap.size il tl
  pr : PR S n T fl il tl
  rb : Blk W w.heap.size #[.int .i64 2, .int .i64 0, .int .i64 0, .int .i64 (S : Int), .int .i64 (R : Int), .slice ta tn tc, .string ⟨#[]⟩] 24
  bl : Below w.heap.size w W
  sz : w.heap.size + 4 ≤ W.heap.size
def FromIn (fl il : List Bool) (N : Nat) : Prop := ∀ j, j < N → fl.getD j false = true → il.getD j false = true
theorem RL.next {w W W' : World} {S R n : Nat} {T : List Int} {ta : Option Addr} {tn tc : Nat} {fl il : List Bool} {tl : List Nat} (h : RL w W S R n T ta tn tc fl il tl) (k : Below W.heap.size W W') : RL w W' S R n T ta tn tc fl il tl :=
  ⟨h.tj.next k, h.pr, h.rb.of (k.block _ h.rb.lt), h.bl.trans (k.mono h.bl.size), Nat.le_trans h.sz k.size⟩
theorem RL.rk {w W W' : World} {S R n : Nat} {T : List Int} {ta : Option Addr} {tn tc : Nat} {fl il il' : List Bool} {tl tl' : List Nat} (h : RL w W S R n T ta tn tc fl il tl) (hj : TJ W' n (w.heap.size + 2) (w.heap.size + 1) (w.heap.size + 3) w.heap.size il' tl') (hp : PR S n T fl il' tl') (k : RK (w.heap.size + 1) (w.heap.size + 3) w.heap.size W W') : RL w W' S R n T ta tn tc fl il' tl' :=
  ⟨hj, hp, k.blk h.rb (by omega) (by omega) (by decide), h.bl.trans k.bl, Nat.le_trans h.sz k.bl.size⟩
/-- While pair k is looked at. -/
def PJ (w : World) (S R n : Nat) (T : List Int) (ta : Option Addr) (tn tc : Nat) (fl : List Bool) (i k j : Nat) (W : World) : Prop :=
  ∃ il tl, RL w W S R n T ta tn tc fl il tl ∧ FromIn fl il (n * n) ∧ i < tl.length ∧ tl.getD i 0 = k ∧ ClosedR S n T il tl i ∧ ∀ c : Nat × Nat, c.1 * S + c.2 < j → OkWay S T (unP n k) c → il.getD (codeP S n k c) false = true
theorem PJ.step {w W W' : World} {S R n : Nat} {T : List Int} {ta : Option Addr} {tn tc : Nat} {fl il : List Bool} {tl : List Nat} {i k j : Nat} (hn : 0 < n) (hr : RL w W S R n T ta tn tc fl il tl) (hf : FromIn fl il (n * n)) (hi : i < tl.length) (hk : tl.getD i 0 = k) (hc : ClosedR S n T il tl i) (hd : ∀ c : Nat × Nat, c.1 * S + c.2 < j → OkWay S T (unP n k) c → il.getD (codeP S n k c) false = true)
    (c : Nat × Nat) (hc2 : c.2 < S) (hj : j = c.1 * S + c.2) (hok : OkWay S T (unP n k) c) (htj : TJ W' n (w.heap.size + 2) (w.heap.size + 1) (w.heap.size + 3) w.heap.size (ilAfter il (codeP S n k c)) (tlAfter il tl (codeP S n k c))) (rk : RK (w.heap.size + 1) (w.heap.size + 3) w.heap.size W W') : PJ w S R n T ta tn tc fl i k (j + 1) W' := by
  have tl' := codeP_lt (S := S) (k := k) hn c
  have ill : codeP S n k c < il.length := by rw [hr.pr.len]; exact tl'
  have hkm : k ∈ tl := by rw [← hk, List.getD_eq_getElem?_getD, List.getElem?_eq_getElem hi]; exact List.getElem_mem hi
  obtain ⟨j0, cs, q1, q2, q3, q4⟩ := hr.pr.org k hkm
  have ke : endP S n (unP n j0) cs = unP n k := by
    rw [← q4, un_co (endP_lt hn cs _ (un_lt hn q1).1 (un_lt hn q1).2).2]
  refine ⟨_, _, hr.rk htj (hr.pr.add _ tl' ⟨j0, cs ++ [c], q1, q2, ?_, ?_⟩) rk, fun m hm h => il_mono ill (hf m hm h), (tl_left hi).2, by rw [(tl_left hi).1]; exact hk, fun m hm d hdo => ?_, fun d hlt hdo => ?_⟩
  · rw [okP_append, ke]; exact ⟨q3, hok, trivial⟩
  · rw [endP_append, ke]; rfl
  · rw [(tl_left (show m < tl.length by omega)).1] at hdo ⊢
    exact il_mono ill (hc m hm d hdo)
  · rcases Nat.lt_or_ge (d.1 * S + d.2) j with q | q
    · exact il_mono ill (hd d q hdo)
    · rw [show d = c from (cell_code hc2 hdo.2.1 (by omega : c.1 * S + c.2 = d.1 * S + d.2)).symm]
      exact il_here ill
def ReachPost (S n : Nat) (T : List Int) (fl : List Bool) (w : World) (e : Ending) (w' : World) : Prop :=
  ∃ g il, e = .returned (.slice (some ⟨g, 0, none⟩) (n * n) (n * n)) ∧ Blk w' g (il.map Value.bool).toArray 4 ∧ il.length = n * n ∧ FromIn fl il (n * n) ∧ (∀ k, k < n * n → il.getD k false = true → ∀ c, OkWay S T (unP n k) c → il.getD (codeP S n k c) false = true) ∧
    (∀ k, k < n * n → il.getD k false = true → ∃ j cs, j < n * n ∧ fl.getD j false = true ∧ okP S n T (unP n j) cs ∧ coP n (endP S n (unP n j) cs) = k) ∧ Below w.heap.size w w'
theorem RL.ends {w W : World} {S R n : Nat} {T : List Int} {ta : Option Addr} {tn tc : Nat} {fl il : List Bool} {tl : List Nat} (h : RL w W S R n T ta tn tc fl il tl) (hf : FromIn fl il (n * n)) (hc : ClosedR S n T il tl tl.length) : ReachPost S n T fl w (.returned (.slice (some ⟨w.heap.size + 1, 0, none⟩) (n * n) (n * n))) W := by
  refine ⟨_, il, rfl, h.tj.ic, h.pr.len, hf, fun k hk hin c hok => ?_, fun k hk hin => h.pr.org k ((h.pr.seen k hk).1 hin), h.bl⟩
  obtain ⟨m, hm, e⟩ := List.getElem_of_mem ((h.pr.seen k hk).1 hin)
  have e' : tl.getD m 0 = k := by rw [List.getD_eq_getElem?_getD, List.getElem?_eq_getElem hm]; exact e
  have := hc m hm c (by rw [e']; exact hok)
  rw [e'] at this
  exact this
theorem TJ.row {W : World} {n pi gi pt B0 : Nat} {il : List Bool} {tl : List Nat} (h : TJ W n pi gi pt B0 il tl) : ∃ a cap, Blk W pt #[.slice a tl.length cap] 22 ∧ (∀ i, i < tl.length → ∃ g, a = some ⟨g, 0, none⟩ ∧ W.cell? ⟨g, i, none⟩ = some (.int .i64 ((tl.getD i 0 : Nat) : Int))) := by
  obtain ⟨v, tb, hr⟩ := h.tv
  rcases hr.2 with ⟨rfl, h1⟩ | ⟨g, cap, cur, rfl, hg, hh, hc, hm, hs, ht⟩
  · rw [h1]; exact ⟨_, _, tb, fun i hi => by omega⟩
  · refine ⟨_, _, tb, fun i hi => ⟨g, rfl, ?_⟩⟩
    have e : (tl.map fun (y : Nat) => Value.int .i64 (y : Int))[i]? = some (.int .i64 ((tl.getD i 0 : Nat) : Int)) := by simp [List.getD, hi]
    rw [← ht, List.getElem?_take, if_pos (by omega)] at e
    simp only [World.cell?, hh]
    rw [← Array.getElem?_toList]
    exact e
theorem PJ.done {w W : World} {S R n : Nat} {T : List Int} {ta : Option Addr} {tn tc : Nat} {fl : List Bool} {i k : Nat} (h : PJ w S R n T ta tn tc fl i k (S * S) W) : ∃ il tl, RL w W S R n T ta tn tc fl il tl ∧ FromIn fl il (n * n) ∧ i + 1 ≤ tl.length ∧ ClosedR S n T il tl (i + 1) := by
  obtain ⟨il, tl, hr, hf, hi, hk, hc, hd⟩ := h
  refine ⟨il, tl, hr, hf, hi, fun m hm c hok => ?_⟩
  rcases Nat.lt_or_ge m i with q | q
  · exact hc m q c hok
  · obtain rfl : m = i := by omega
    rw [hk] at hok ⊢
    refine hd c ?_ hok
    have : (c.1 + 1) * S ≤ S * S := Nat.mul_le_mul_right _ hok.1
    rw [Nat.add_mul] at this
    have := hok.2.1
    omega
theorem pairs_reach {w W : World} {S R n : Nat} {T : List Int} {ta : Option Addr} {tn tc : Nat} {fl il : List Bool} {tl : List Nat} {i k : Nat} (hL : LineOk S R T) (hT : ArgP w T ta tn tc) (hta : ∀ g off, ta = some ⟨g, off, none⟩ → g < w.heap.size) (hn : 0 < n) (hn16 : n ≤ 16) (htn : tn = n * S) (hr : RL w W S R n T ta tn tc fl il tl) (hf : FromIn fl il (n * n)) (hi : i < tl.length) (hk : tl.getD i 0 = k) (hc : ClosedR S n T il tl i) :
    Calls Tryd.prog 138 #[.agg #[.int .i64 2, .int .i64 0, .int .i64 0, .int .i64 (S : Int), .int .i64 (R : Int), .slice ta tn tc, .string ⟨#[]⟩], .int .i64 (n : Int), .int .i64 (k : Int), .func (.func 193) #[] #[.pointer (some ⟨w.heap.size + 2, 0, none⟩), .pointer (some ⟨w.heap.size + 3, 0, none⟩)]] W fun e W' => e = .returned (.tuple #[]) ∧ ∃ il tl, RL w W' S R n T ta tn tc fl il tl ∧ FromIn fl il (n * n) ∧ i + 1 ≤ tl.length ∧ ClosedR S n T il tl (i + 1) := by
  have hkm : k ∈ tl := by rw [← hk, List.getD_eq_getElem?_getD, List.getElem?_eq_getElem hi]; exact List.getElem_mem hi
  have hsz := hr.sz
  refine (refPairsR S R n k T ta tn tc (w.heap.size + 2) (w.heap.size + 3) (w.heap.size + 1) (w.heap.size + 3) w.heap.size (PJ w S R n T ta tn tc fl i k) W hL (hT.below' hr.bl hta) hta (by omega) (by omega) (by omega) hn hn16 htn (hr.pr.rng k hkm) ?_ ?_ ?_ ?_).mono ?_
  · rintro j V V' ⟨il, tl, h1, h2⟩ hb
    exact ⟨il, tl, h1.next hb, h2⟩
  · rintro j V c hc1 hc2 hj ⟨il, tl, h1, h2, h3, h4, h5, h6⟩ hok
    have hb := h1.pr.bound
    have : n * n ≤ 256 := Nat.mul_le_mul hn16 hn16
    have hs := h1.sz
    refine (reach1_any n (w.heap.size + 2) (w.heap.size + 1) (w.heap.size + 3) w.heap.size il tl (codeP S n k c) (decide (c.1 ≠ c.2)) V h1.tj (by omega) (codeP_lt hn c) hn16 (by omega)).mono ?_
    rintro e V' ⟨rfl, g1, g2⟩
    exact ⟨rfl, PJ.step hn h1 h2 h3 h4 h5 h6 c hc2 hj hok g1 g2, g2⟩
  · rintro j V c hc1 hc2 hj ⟨il, tl, h1, h2, h3, h4, h5, h6⟩ hno
    refine ⟨il, tl, h1, h2, h3, h4, h5, fun d hlt hdo => ?_⟩
    rcases Nat.lt_or_ge (d.1 * S + d.2) j with q | q
    · exact h6 d q hdo
    · rw [show d = c from (cell_code hc2 hdo.2.1 (by omega : c.1 * S + c.2 = d.1 * S + d.2)).symm] at hdo
      exact absurd hdo hno
  · exact ⟨il, tl, hr, hf, hi, hk, hc, fun d hlt => by omega⟩
  · rintro e W' ⟨rfl, h1, h2⟩
    exact ⟨rfl, h1.done⟩

set_option maxRecDepth 100000 in
set_option maxHeartbeats 12800000 in
theorem reach_any (S R n : Nat) (T : List Int) (ta : Option Addr) (tn tc gf : Nat) (fl : List Bool) (w : World) (hL : LineOk S R T) (hT : ArgP w T ta tn tc) (hta : ∀ g off, ta = some ⟨g, off, none⟩ → g < w.heap.size) (hn : 0 < n) (hn16 : n ≤ 16) (htn : tn = n * S) (hF : Blk w gf (fl.map Value.bool).toArray 4) (hfl : fl.length = n * n) :
    Calls Tryd.prog 140 #[.agg #[.int .i64 2, .int .i64 0, .int .i64 0, .int .i64 (S : Int), .int .i64 (R : Int), .slice ta tn tc, .string ⟨#[]⟩], .int .i64 (n : Int), .slice (some ⟨gf, 0, none⟩) (n * n) (n * n)] w (ReachPost S n T fl w) := by
  have hmf : ∀ (fn : Fn) (first cap : Array Value) (w : World), (Instr.makeFunc fn first cap).run Tryd.prog w = .ok (.func fn first cap) w := fun _ _ _ _ => rfl
  obtain ⟨PP, hPP⟩ : ∃ PP, ReachPost S n T fl w = PP := ⟨_, rfl⟩
  have HPP := hide' hPP
  rw [hPP]
  obtain ⟨N, hN⟩ : ∃ N, n * n = N := ⟨_, rfl⟩
  have HN := hide' hN
  have n256 : N ≤ 256 := by rw [← hN]; exact Nat.mul_le_mul hn16 hn16
  have q1 : (n : Int) * (n : Int) = (N : Int) := by rw [← hN]; simp
  have hmk := run_make_row' (P := Tryd.prog) 155 4 (.bool false) 1 Tryd.underlying155 info_bool rfl .i64 .i64 N (by omega) (by omega)
  have HF := hide' hF
  have HFL := hide' (show fl.length = N by rw [hfl, hN])
  have FLT := hide' hF.lt
  have HL := hide' hL
  have HT := hide' hT
  have HTA := hide' hta
  have HTN := hide' htn
  obtain ⟨i1, hi1, hz0, hz1, hz2⟩ := info_parts info_int
  obtain ⟨w1, hw1⟩ : ∃ w1, (((w.alloc (.cells #[.int .i64 2, .int .i64 0, .int .i64 0, .int .i64 (S : Int), .int .i64 (R : Int), .slice ta tn tc, .string ⟨#[]⟩] 24)).alloc (.cells (madeCells #[.bool false] N) 4)).alloc (.cells #[.slice (some ⟨w.heap.size + 1, 0, none⟩) N N] 155)).alloc (.cells #[.slice none 0 0] 22) = w1 := ⟨_, rfl⟩
  have s1 : w1.heap.size = w.heap.size + 4 := by rw [← hw1]; simp
  have L0 := hide' (show RL w w1 S R n T ta tn tc fl (List.replicate N false) [] by
    rw [← hw1]
    refine ⟨⟨?_, ?_, by rw [hN]; simp, ⟨.slice none 0 0, ?_, ⟨rfl, Or.inl ⟨rfl, rfl⟩⟩⟩, by omega, by omega⟩, ⟨by rw [hN]; simp, by simp [List.count_replicate], fun t ht => ?_, fun t ht => by simp at ht, fun t ht => by simp at ht⟩, ?_, ?_, by simp⟩
    · rw [hN]; exact (blk_new_at (by simp)).alloc _
    · have := ((Blk.new (w.alloc (.cells #[.int .i64 2, .int .i64 0, .int .i64 0, .int .i64 (S : Int), .int .i64 (R : Int), .slice ta tn tc, .string ⟨#[]⟩] 24)) (madeCells #[.bool false] N) 4).alloc (.cells #[.slice (some ⟨w.heap.size + 1, 0, none⟩) N N] 155)).alloc (.cells #[.slice none 0 0] 22)
      rw [World.size_alloc] at this
      rw [show ((List.replicate N false).map Value.bool).toArray = madeCells #[.bool false] N by
        apply Array.toList_inj.1
        rw [toList_madeCells_one]
        simp]
      exact this
    · exact blk_new_at (by simp)
    · constructor
      · intro h
        rw [List.getD_eq_getElem?_getD, List.getElem?_replicate] at h
        split at h <;> simp at h
      · intro h; simp at h
    · exact (((Blk.new _ _ _).alloc _).alloc _).alloc _
    · exact ((((Below.refl _ _).alloc (Nat.le_refl _) _).alloc (by simp) _).alloc (by simp; omega) _).alloc (by simp; omega) _)
  rw [hN]
  clear hPP hN hF hfl hL hT hta htn
  go_enter Tryd.func140, Tryd.ntmps140
  go_wp2
  rw [show w.heap.size + 1 + 1 + 1 = w.heap.size + 3 from rfl, show w.heap.size + 1 + 1 = w.heap.size + 2 from rfl]
  clear hw1
  go_loopw [9] (fun av wr => ∃ i : Nat, av = .int .i64 (i : Int) ∧ i ≤ N ∧ Hid (∃ il tl, RL w wr S R n T ta tn tc fl il tl ∧ FromIn fl il i ∧ ∀ t ∈ tl, t < i)) (fun av _ => N - (intOf av).toNat)
  case atStart => exact ⟨0, rfl, by omega, hide' ⟨_, _, L0.out, fun j hj => by omega, fun t ht => by simp at ht⟩⟩
  case round =>
    clear L0
    obtain ⟨i, rfl, hi, H1⟩ := hrel
    obtain ⟨il, tl, hr, hf, ht⟩ := H1.out
    have HR := hide' hr
    have HFI := hide' hf
    have HTI := hide' ht
    clear hr hf ht H1
    by_cases d : (i : Int) < (N : Int)
    · have iN : i < N := by omega
      obtain ⟨β, hβ⟩ : ∃ β, fl.getD i false = β := ⟨_, rfl⟩
      have cf : wr.cell? ⟨gf, i, none⟩ = some (.bool β) := by
        have q := (HF.out.of (HR.out.bl.block _ FLT.out)).cell i
        rw [q, bools_at fl i (by rw [HFL.out]; exact iN), hβ]
      have HB := hide' hβ
      clear hβ
      cases β with
      | false =>
        go_wp2
        exact ⟨⟨i + 1, by go_num, by omega, hide' ⟨_, _, HR.out, fun j hj hjf => by
          rcases Nat.lt_or_ge j i with q | q
          · exact HFI.out j q hjf
          · rw [show j = i by omega, HB.out] at hjf; exact absurd hjf (by decide), fun t ht => Nat.lt_succ_of_lt (HTI.out t ht)⟩⟩, by simp [intOf]; omega⟩
      | true =>
        have HIL := hide' (show il.getD i false = false by
          cases hb : il.getD i false with
          | false => rfl
          | true => exact absurd (HTI.out i ((HR.out.pr.seen i (by rw [HN.out]; exact iN)).1 hb)) (Nat.lt_irrefl _))
        have tl256 : tl.length ≤ 256 := by have := HR.out.pr.bound; rw [HN.out] at this; omega
        have i0 : wr.cell? ⟨w.heap.size + 2, 0, none⟩ = some (.slice (some ⟨w.heap.size + 1, 0, none⟩) N N) := by rw [← HN.out]; exact HR.out.tj.ib.cell 0
        have ck : wr.cell? ⟨w.heap.size + 1, i, none⟩ = some (.bool false) := by rw [HR.out.tj.ic.cell, bools_at il i (by rw [HR.out.pr.len, HN.out]; exact iN), HIL.out]
        have fz := HR.out.tj.ic.frozen i
        obtain ⟨i1, hi1, hz0, hz1, hz2⟩ := info_parts info_int
        obtain ⟨w2, hw2⟩ : ∃ w2, wr.setCell ⟨w.heap.size + 1, i, none⟩ (.bool true) = w2 := ⟨_, rfl⟩
        have V2 := hide' (HR.out.tj.mark i)
        rw [hw2] at V2
        obtain ⟨v, tb, tr⟩ := V2.out.tv
        have TB := hide' tb
        have TR := hide' tr
        have K2 := hide' (show RK (w.heap.size + 1) (w.heap.size + 3) w.heap.size wr w2 by
          refine ⟨by rw [← hw2]; exact (Below.refl _ wr).setCell (p := ⟨w.heap.size + 1, i, none⟩) (by simp) _, fun j o h0 h1 h2 h3 => ?_⟩
          rw [← hw2, heap_setCell_other _ _ _ _ _ h1]
          exact h0)
        have S2 := hide' (show w.heap.size ≤ w2.heap.size from Nat.le_trans HR.out.bl.size K2.out.bl.size)
        have dt : w2.cell? ⟨w.heap.size + 3, 0, none⟩ = some v := TB.out.cell 0
        clear tb tr
        go_wp2_with (at_builtin; refine wpList_append_own_at _ rfl _ _ 22 rfl w.heap.size 3 i1 (.int .i64 0) 1 8 Tryd.underlying22 hi1 hz0 hz1 hz2 rfl (by decide) v tl.length (tl.map fun (y : Nat) => Value.int .i64 (y : Int)) rfl (TR.out.alloc _) ⟨w2.heap.size, 0, none⟩ 1 1 [.int .i64 (i : Int)] rfl rfl (cell_one_new _ _ _) (by simp [Value.oneCell']) (by unfold maxLen; omega) (by omega) (by have := S2.out; simp; omega) ?_; intro v' w3 hown' hgrow3 hnil3 hloc3; have OW := hide' hown'; have GR := hide' hgrow3; clear hown' hgrow3 hnil3 hloc3; obtain ⟨g', cap', rfl⟩ := ownsRow_succ OW.out; have NP := hide' (not_row (TB.out.alloc (.cells #[.int .i64 (i : Int)] 3)) (by decide) (TR.out.alloc _)); have T3 := hide' ((TB.out.alloc (.cells #[.int .i64 (i : Int)] 3)).of (GR.out.block (w.heap.size + 3) (TB.out.alloc _).lt NP.out)); have e0 := T3.out.cell 0; have f0 := T3.out.frozen 0)
        obtain ⟨VP, KP⟩ := V2.out.pushed (t := i) S2.out TB.out TR.out GR.out OW.out
        have E1 : ilAfter il i = il.set i true := by unfold ilAfter; rw [HIL.out]; rfl
        have E2 : tlAfter il tl i = tl ++ [i] := by unfold tlAfter; rw [HIL.out]; rfl
        have P2 := HR.out.pr.add i (by rw [HN.out]; exact iN) ⟨i, [], by rw [HN.out]; exact iN, HB.out, trivial, co_un⟩
        have ill : i < il.length := by rw [HR.out.pr.len, HN.out]; exact iN
        have M1 : ∀ j, il.getD j false = true → (ilAfter il i).getD j false = true := fun j h => il_mono ill h
        have M2 : (ilAfter il i).getD i false = true := il_here ill
        rw [E1, E2] at P2
        rw [E1] at M1 M2
        exact ⟨⟨i + 1, by go_num, by omega, hide' ⟨_, _, HR.out.rk VP P2 (K2.out.trans KP), fun j hj hjf => by
          rcases Nat.lt_or_ge j i with q | q
          · exact M1 j (HFI.out j q hjf)
          · rw [show j = i by omega]; exact M2, fun t ht => by
          rcases List.mem_append.1 ht with q | q
          · exact Nat.lt_succ_of_lt (HTI.out t q)
          · rw [List.mem_singleton.1 q]; exact Nat.lt_succ_self _⟩⟩, by simp [intOf]; omega⟩
    · have iN : i = N := by omega
      have HF2 := hide' (show FromIn fl il N by rw [← iN]; exact HFI.out)
      clear HFI HTI iN
      go_wp2
      clear d
      go_loopw [10] (fun av wr => ∃ i : Nat, av = .int .i64 (i : Int) ∧ Hid (∃ il tl, RL w wr S R n T ta tn tc fl il tl ∧ FromIn fl il N ∧ i ≤ tl.length ∧ ClosedR S n T il tl i)) (fun av _ => N - (intOf av).toNat)
      case atStart => exact ⟨0, rfl, hide' ⟨_, _, HR.out, HF2.out, Nat.zero_le _, fun m hm => by omega⟩⟩
      case round =>
        clear HR HF2
        obtain ⟨i, rfl, H1⟩ := hrel
        obtain ⟨il, tl, hr, hf, hit, hcl⟩ := H1.out
        obtain ⟨a, cap, hb, hc⟩ := hr.tj.row
        have HR := hide' hr
        have HFI := hide' hf
        have HCL := hide' hcl
        have tl256 : tl.length ≤ N := by have := HR.out.pr.bound; rw [HN.out] at this; exact this
        have t0 : wr.cell? ⟨w.heap.size + 3, 0, none⟩ = some (.slice a tl.length cap) := hb.cell 0
        clear hr hf hcl hb H1
        by_cases d : (i : Int) < ((tl.length : Nat) : Int)
        · have iT : i < tl.length := by omega
          obtain ⟨g, rfl, hgi⟩ := hc i iT
          obtain ⟨k, hk⟩ : ∃ k, tl.getD i 0 = k := ⟨_, rfl⟩
          rw [hk] at hgi
          obtain ⟨L, hLl⟩ : ∃ L, tl.length = L := ⟨_, rfl⟩
          have PC := hide' (fun (W : World) (hb : Below wr.heap.size wr W) => pairs_reach (W := W) HL.out HT.out HTA.out hn hn16 HTN.out (HR.out.next hb) (by rw [HN.out]; exact HFI.out) iT hk HCL.out)
          have b0 : wr.cell? ⟨w.heap.size, 0, none⟩ = some (.int .i64 2) := HR.out.rb.cell 0
          have b1 : wr.cell? ⟨w.heap.size, 1, none⟩ = some (.int .i64 0) := HR.out.rb.cell 1
          have b2 : wr.cell? ⟨w.heap.size, 2, none⟩ = some (.int .i64 0) := HR.out.rb.cell 2
          have b3 : wr.cell? ⟨w.heap.size, 3, none⟩ = some (.int .i64 (S : Int)) := HR.out.rb.cell 3
          have b4 : wr.cell? ⟨w.heap.size, 4, none⟩ = some (.int .i64 (R : Int)) := HR.out.rb.cell 4
          have b5 : wr.cell? ⟨w.heap.size, 5, none⟩ = some (.slice ta tn tc) := HR.out.rb.cell 5
          have b6 : wr.cell? ⟨w.heap.size, 6, none⟩ = some (.string ⟨#[]⟩) := HR.out.rb.cell 6
          rw [hLl] at d iT tl256 t0
          clear hk hc hit HR HFI HCL hLl
          go_wp2
          go_region_with
            ((refine (PC.out _ (by repeat (first | exact Below.refl _ _ | refine Below.drew ?_))).mono ?_; rintro e W4 ⟨rfl, il4, tl4, h4, f4, l4, c4⟩; have R4 := hide' h4; have F4 := hide' f4; have L4 := hide' l4; have C4 := hide' c4; clear h4 f4 l4 c4))
          all_goals
            go_wp2
            exact ⟨⟨i + 1, by go_num, hide' ⟨_, _, R4.out, by rw [← HN.out]; exact F4.out, L4.out, C4.out⟩⟩, by simp [intOf]; omega⟩
        · have iT : i = tl.length := by omega
          have RE := hide' (HR.out.ends (by rw [HN.out]; exact HFI.out) (by rw [← iT]; exact HCL.out))
          rw [HN.out] at RE
          have i0 : wr.cell? ⟨w.heap.size + 2, 0, none⟩ = some (.slice (some ⟨w.heap.size + 1, 0, none⟩) N N) := by rw [← HN.out]; exact HR.out.tj.ib.cell 0
          have RE2 := hide' (show PP _ wr by rw [← HPP.out]; exact RE.out)
          clear iT HR HFI HCL hc hit RE
          go_wp2
          exact RE2.out
end Go.Proofs.YtdhbdkkchobinaaDoor

