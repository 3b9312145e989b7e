/-
  What the last text of this claim leans on, part 12: Da3, Wd1.
-/
import Derived.Test.YtdbgdfodoceadaaDoorZt11
import Derived.Test.YtdbgdfodoceadaaDoorZt10
import Derived.Lib.OthersKept
namespace Go.Proofs.YtdbgdfodoceadaaDoor
open Go.RowKit
set_option linter.unusedVariables false

theorem ownsRow_from {w w' : World} {base : Nat} {e : TypeId} {v : Value} {n : Nat} {xs : List Value} (h : w.ownsRow base e 1 v n xs) (hb : ∀ k, base ≤ k → k < w.heap.size → w'.heap[k]? = w.heap[k]?) : w'.ownsRow base e 1 v n xs := by
  refine ⟨h.1, ?_⟩
  rcases h.2 with h0 | ⟨g, cap, cur, hv, hg, hh, rest⟩
  · exact Or.inl h0
  · exact Or.inr ⟨g, cap, cur, hv, hg, (hb g hg (Array.getElem?_eq_some_iff.1 hh).1).trans hh, rest⟩

/-- What holds of the numbers between two rounds. -/
structure DNum (s : ByteArray) (i r n W H : Nat) (xs : List Int) : Prop where
  li : i ≤ s.size
  lH : H ≤ 100
  ln : n ≤ 100
  lW : W ≤ 100
  len : xs.length = H * W + n
  top : H = 100 → n = 0
  row : n = 0 → r = i
  lr : r ≤ i
  eq : drawF s (s.size + 1 - i) i r n W H xs = drawS s
theorem DNum.cell {s : ByteArray} {i r n W H : Nat} {xs : List Int} (h : DNum s i r n W H xs) (j : Nat) (x : Int) (hj : j ≤ s.size) (hij : i ≤ j) (hH : ¬ H = 100) (hn : ¬ n = 100) (e : drawF s (s.size + 1 - i) i r n W H xs = drawF s (s.size + 1 - j) j r (n + 1) W H (xs ++ [x])) : DNum s j r (n + 1) W H (xs ++ [x]) :=
  ⟨hj, h.lH, by have := h.ln; omega, h.lW, by have := h.len; simp; omega, fun q => absurd q hH, fun q => by omega, Nat.le_trans h.lr hij, e.symm.trans h.eq⟩
theorem DNum.small {s : ByteArray} {i r n W H : Nat} {xs : List Int} (h : DNum s i r n W H xs) (hH : ¬ H = 100) : xs.length ≤ 10000 := by
  have h1 := h.lH
  have h2 : H * W ≤ 99 * 100 := Nat.mul_le_mul (by omega) h.lW
  have h3 := h.len
  have h4 := h.ln
  omega
theorem DNum.all {s : ByteArray} {i r n W H : Nat} {xs : List Int} (h : DNum s i r n W H xs) : xs.length ≤ 10100 := by
  have h2 : H * W ≤ 100 * 100 := Nat.mul_le_mul h.lH h.lW
  have h3 := h.len
  have h4 := h.ln
  omega
theorem DNum.start (s : ByteArray) (hs : s.size ≤ 40000) : DNum s 0 0 0 0 0 [] :=
  ⟨by omega, by omega, by omega, by omega, by simp, by omega, by omega, by omega, by unfold drawS; rw [if_neg (by omega)]; rfl⟩

/-- pattern.ParseDraw's memory between two rounds: the result's block, the drawing's, the iterator's. -/
structure DS (s : ByteArray) (w wr : World) (i r n W H : Nat) (v : Value) (xs : List Int) : Prop where
  it : wr.heap[w.heap.size + 2]? = some (.stringIter s i)
  dat : DAt (w.heap.size + 1) W H v r n wr
  own : wr.ownsRow (w.heap.size + 3) 3 1 v xs.length (xs.map fun x => .int .i64 x)
  res : ResB w.heap.size wr
  below : Below w.heap.size w wr
theorem DS.sz {s : ByteArray} {w wr : World} {i r n W H : Nat} {v : Value} {xs : List Int} (h : DS s w wr i r n W H v xs) : w.heap.size + 3 ≤ wr.heap.size := (Array.getElem?_eq_some_iff.1 h.it).1
theorem DS.rd {s : ByteArray} {w wr w' : World} {i r n W H r' n' W' H' : Nat} {v : Value} {xs : List Int} (h : DS s w wr i r n W H v xs) (hr : Rd (w.heap.size + 1) wr w') (hd : DAt (w.heap.size + 1) W' H' v r' n' w') : DS s w w' i r' n' W' H' v xs := by
  have hz := h.sz
  exact ⟨(hr.block _ (by omega) (by omega)).trans h.it, hd, ownsRow_from h.own fun k hk hl => hr.block k hl (by omega), h.res.block (hr.block _ (by omega) (by omega)), h.below.trans (hr.below (by omega) (by omega))⟩
end Go.Proofs.YtdbgdfodoceadaaDoor

namespace Go.Proofs.YtdbgdfodoceadaaDoor
open Go.RowKit
set_option linter.unusedVariables false

theorem Cel.arg {w : World} {g n c : Nat} {xs : List Int} (h : Cel w g xs) (hn : xs.length = n) (hm : n ≤ maxLen) : ArgP w xs (some ⟨g, 0, none⟩) n c := by
  subst hn
  exact ⟨rfl, hm, fun k hk => ⟨g, 0, rfl, h.lt, by rw [Nat.zero_add, h.cells k hk]; simp [List.getD, hk]⟩⟩
theorem Tab.arg {w : World} {v : Value} {xs : List Int} (h : Tab w v xs) (hm : xs.length ≤ maxLen) : ∃ a c, v = .slice a xs.length c ∧ ArgP w xs a xs.length c := by
  rcases h with ⟨h1, h2⟩ | ⟨g, cap, h1, h2, h3⟩
  · subst h1
    exact ⟨none, 0, h2, rfl, hm, fun k hk => by simp at hk⟩
  · exact ⟨some ⟨g, 0, none⟩, cap, h1, rfl, hm, fun k hk => ⟨g, 0, rfl, h2, by rw [Nat.zero_add]; exact h3 k hk⟩⟩

theorem small (p : Pat) (hp : p.ok) (h1 : p.W ≤ 100) (h2 : p.H ≤ 100) : p.xs.length ≤ 10000 := by rw [hp]; exact Nat.mul_le_mul h1 h2
/-- A slice whose block was made since, its capacity in bounds. -/
def FreshC (w : World) (v : Value) : Prop := ∀ g k c, v = .slice (some ⟨g, 0, none⟩) k c → w.heap.size ≤ g ∧ k ≤ c ∧ c ≤ maxLen
/-- The pattern in the box, as far as it is turned. -/
structure TD (w wr : World) (p : Pat) (v : Value) : Prop where
  box : TB w.heap.size (.int .i64 (p.W : Int)) (.int .i64 (p.H : Int)) v wr
  res : TB (w.heap.size + 1) (.int .i64 0) (.int .i64 0) (.slice none 0 0) wr
  tab : Tab wr v p.xs
  fresh : ∀ g k c, v = .slice (some ⟨g, 0, none⟩) k c → w.heap.size + 2 ≤ g ∧ k ≤ c ∧ c ≤ maxLen
  ok : p.ok
  lW : p.W ≤ 100
  lH : p.H ≤ 100
  below : Below w.heap.size w wr
  sz : w.heap.size + 2 ≤ wr.heap.size

theorem TB.store {p : Nat} {a b c : Value} {w : World} (h : TB p a b c w) (a' b' c' : Value) : TB p a' b' c' (((w.setCell ⟨p, 0, none⟩ a').setCell ⟨p, 1, none⟩ b').setCell ⟨p, 2, none⟩ c') :=
  ⟨cell_other (cell_other (cell_same h.c0) (by omega)) (by omega), cell_other (cell_same (cell_other h.c1 (by omega))) (by omega), cell_same (cell_other (cell_other h.c2 (by omega)) (by omega)), fun k => by rw [World.frozen?_setCell, World.frozen?_setCell, World.frozen?_setCell]; exact h.fz k⟩
theorem stored_blk (w : World) (p q : Nat) (a b c : Value) (h : q ≠ p) : (((w.setCell ⟨p, 0, none⟩ a).setCell ⟨p, 1, none⟩ b).setCell ⟨p, 2, none⟩ c).heap[q]? = w.heap[q]? :=
  (Below.heap_setCell _ _ _ _ h).trans ((Below.heap_setCell _ _ _ _ h).trans (Below.heap_setCell _ _ _ _ h))
theorem TD.next {w wr w' : World} {p : Pat} {v : Value} (h : TD w wr p v) (hb : Below wr.heap.size wr w') (q : Pat) (g : Nat) (n : Nat) (hC : Cel w' g q.xs) (hn : q.xs.length = n) (hg : wr.heap.size ≤ g) (hq : q.ok) (l1 : q.W ≤ 100) (l2 : q.H ≤ 100) :
    TD w (((w'.setCell ⟨w.heap.size, 0, none⟩ (.int .i64 (q.W : Int))).setCell ⟨w.heap.size, 1, none⟩ (.int .i64 (q.H : Int))).setCell ⟨w.heap.size, 2, none⟩ (.slice (some ⟨g, 0, none⟩) n n)) q (.slice (some ⟨g, 0, none⟩) n n) := by
  have hz := h.sz
  have hz' := hb.size
  refine ⟨(h.box.next hb).store _ _ _, (h.res.next hb).block (stored_blk _ _ _ _ _ _ (by omega)), ?_, fun g' k c e => by injection e with e1 e5 e6; injection e1 with e2; injection e2 with e3; subst e5 e6; exact ⟨by omega, Nat.le_refl _, by rw [← hn]; exact Nat.le_trans (small q hq l1 l2) (by unfold maxLen; omega)⟩, hq, l1, l2, ?_, ?_⟩
  · exact (((hC.rd ((Rd.refl w.heap.size _).set 0 _) (by omega)).rd ((Rd.refl w.heap.size _).set 1 _) (by omega)).rd ((Rd.refl w.heap.size _).set 2 _) (by omega)).tab hn
  · exact (((h.below.trans (hb.mono (by omega))).setCell (Nat.le_refl _) _).setCell (Nat.le_refl _) _).setCell (Nat.le_refl _) _
  · rw [World.size_setCell, World.size_setCell, World.size_setCell]; omega
theorem ok_qtr (p : Pat) : p.qtr.ok := qtrP_length _ _ _
theorem ok_mir (p : Pat) : p.mir.ok := mirP_length _ _ _

def TurnedPostC (q : Pat) (w : World) (e : Ending) (w' : World) : Prop :=
  ∃ v, e = .returned (.agg #[.int .i64 (q.W : Int), .int .i64 (q.H : Int), v]) ∧ Tab w' v q.xs ∧ FreshC w v ∧ Below w.heap.size w w'

theorem TD.start_nil (w : World) (W H c : Nat) (hp : Pat.ok ⟨W, H, []⟩) (l1 : W ≤ 100) (l2 : H ≤ 100) (t1 t2 : TypeId) : TD w ((w.alloc (.cells #[.int .i64 (W : Int), .int .i64 (H : Int), .slice none 0 0] t1)).alloc (.cells #[.int .i64 0, .int .i64 0, .slice none 0 0] t2)) ⟨W, H, []⟩ (.slice none 0 0) := by
  have r1 := TB.new (w.alloc (.cells #[.int .i64 (W : Int), .int .i64 (H : Int), .slice none 0 0] t1)) (.int .i64 0) (.int .i64 0) (.slice none 0 0) t2
  rw [World.size_alloc] at r1
  exact ⟨(TB.new w _ _ _ t1).alloc _, r1, Or.inl ⟨rfl, rfl⟩, fun g k c e => (by injection e with e1; cases e1), hp, l1, l2, ((Below.refl _ _).alloc (Nat.le_refl _) _).alloc (by simp) _, by simp⟩

set_option maxRecDepth 100000 in
set_option maxHeartbeats 1600000 in
theorem pturned_nil (W H : Nat) (k : Nat) (c : Nat) (w : World) (hp : Pat.ok ⟨W, H, []⟩) (lW : W ≤ 100) (lH : H ≤ 100) (hk : k < 8) :
    Calls Tryd.prog 59 #[.agg #[.int .i64 (W : Int), .int .i64 (H : Int), .slice none 0 c], .int .i64 (k : Int)] w (TurnedPostC (Pat.turn ⟨W, H, []⟩ k) w) := by
  have D0 := hide' (TD.start_nil w W H c hp lW lH 26 26)
  have OK0 := hide' (show (⟨W, H, []⟩ : Pat).xs.length = W * H from hp)
  go_enter Tryd.func59, Tryd.ntmps59
  by_cases h4 : 4 ≤ k
  · have m4 : (4 : Int) ≤ (k : Int) := by omega
    have AP0 := hide' (show ArgP ((w.alloc (.cells #[.int .i64 (W : Int), .int .i64 (H : Int), .slice none 0 0] 26)).alloc (.cells #[.int .i64 0, .int .i64 0, .slice none 0 0] 26)) [] none 0 0 from ⟨rfl, by unfold maxLen; omega, fun k hk => by simp at hk⟩)
    go_wp2_with fail
    refine (pmirrored ((⟨W, H, []⟩ : Pat)).W ((⟨W, H, []⟩ : Pat)).H ((⟨W, H, []⟩ : Pat)).xs none _ 0 _ AP0.out D0.out.lW D0.out.lH OK0.out).mono ?_
    rintro e w2 ⟨g, rfl, hg, C, b2⟩
    have D := hide' (D0.out.next b2 (((⟨W, H, []⟩ : Pat)).mir) g ((⟨W, H, []⟩ : Pat)).xs.length C (by rw [OK0.out]; exact mirP_length _ _ _) hg (ok_mir _) D0.out.lW D0.out.lH)
    obtain ⟨z0, z1, z2, zf⟩ := D0.out.box.next b2
    have h0 := zf 0
    have h1 := zf 1
    have h2 := zf 2
    clear hg C b2 zf
    go_wp2
    go_loopw [15] (fun jv wr => ∃ (j : Nat) (v : Value), jv = .int .i64 (j : Int) ∧ j ≤ k % 4 ∧ TD w wr ((((⟨W, H, []⟩ : Pat)).mir).rot j) v) (fun jv _ => k % 4 - (intOf jv).toNat)
    case atStart => exact ⟨0, _, rfl, by omega, D.out⟩
    case round =>
      obtain ⟨j, v, rfl, hj, td⟩ := hrel
      have D2 := hide' td
      obtain ⟨a2, c2, rfl, ap⟩ := td.tab.arg (Nat.le_trans (small _ td.ok td.lW td.lH) (by unfold maxLen; omega))
      have AP := hide' ap
      obtain ⟨x0, x1, x2, xf⟩ := td.box
      obtain ⟨r0, r1, r2, rf⟩ := td.res
      have f0 := xf 0
      have f1 := xf 1
      have f2 := xf 2
      have e0 := rf 0
      have e1 := rf 1
      have e2 := rf 2
      have OK := hide' (show ((((⟨W, H, []⟩ : Pat)).mir).rot j).xs.length = ((((⟨W, H, []⟩ : Pat)).mir).rot j).W * ((((⟨W, H, []⟩ : Pat)).mir).rot j).H from td.ok)
      clear td ap xf rf D
      by_cases d : j < k % 4
      · have m1 : (j : Int) < (k : Int) % 4 := by omega
        go_wp2_with fail
        refine (pquarter ((((⟨W, H, []⟩ : Pat)).mir).rot j).W ((((⟨W, H, []⟩ : Pat)).mir).rot j).H ((((⟨W, H, []⟩ : Pat)).mir).rot j).xs a2 _ c2 _ AP.out D2.out.lW D2.out.lH OK.out).mono ?_
        rintro e w2 ⟨g, rfl, hg, C, b2⟩
        have D3 := hide' (D2.out.next b2 (((((⟨W, H, []⟩ : Pat)).mir).rot j).qtr) g ((((⟨W, H, []⟩ : Pat)).mir).rot j).xs.length C (by rw [OK.out, Nat.mul_comm]; exact qtrP_length _ _ _) hg (ok_qtr _) D2.out.lH D2.out.lW)
        obtain ⟨z0, z1, z2, zf⟩ := D2.out.box.next b2
        have h0 := zf 0
        have h1 := zf 1
        have h2 := zf 2
        clear x0 x1 x2 r0 r1 r2 f0 f1 f2 e0 e1 e2 hg C b2 zf
        go_wp2
        exact ⟨⟨j + 1, _, by go_num, by omega, D3.out⟩, by simp [intOf]; omega⟩
      · have m1 : ¬ (j : Int) < (k : Int) % 4 := by omega
        have J := hide' (show j = k % 4 by omega)
        clear d
        go_wp2
        refine bodyPost_ret (v := .agg #[.int .i64 (((((⟨W, H, []⟩ : Pat)).mir).rot j).W : Int), .int .i64 (((((⟨W, H, []⟩ : Pat)).mir).rot j).H : Int), .slice a2 ((((⟨W, H, []⟩ : Pat)).mir).rot j).xs.length c2]) (by simp [results, Tryd.results59, go_sem, r0, r1, r2]) rfl ?_
        have hq : Pat.turn (⟨W, H, []⟩ : Pat) k = (((⟨W, H, []⟩ : Pat)).mir).rot j := by rw [J.out]; unfold Pat.turn; rw [if_pos h4]
        rw [hq]
        have hz := D2.out.sz
        refine ⟨_, rfl, ?_, fun g k c e => by have := D2.out.fresh g k c e; omega, ((D2.out.below.setCell (by simp) _).setCell (by simp) _).setCell (by simp) _⟩
        rcases D2.out.tab with h | ⟨g, cap, e, hg, hc⟩
        · exact Or.inl h
        · exact Or.inr ⟨g, cap, e, by rw [World.size_setCell, World.size_setCell, World.size_setCell]; exact hg, fun i hi => (World.cell?_of_block (w := wr) (a := ⟨g, i, none⟩) (stored_blk wr (w.heap.size + 1) g _ _ _ (by have := D2.out.fresh g _ _ e; omega))).trans (hc i hi)⟩
  · have m4 : ¬ (4 : Int) ≤ (k : Int) := by omega
    have AP0 := hide' (show ArgP ((w.alloc (.cells #[.int .i64 (W : Int), .int .i64 (H : Int), .slice none 0 0] 26)).alloc (.cells #[.int .i64 0, .int .i64 0, .slice none 0 0] 26)) [] none 0 0 from ⟨rfl, by unfold maxLen; omega, fun k hk => by simp at hk⟩)
    go_wp2
    have D := D0
    go_loopw [15] (fun jv wr => ∃ (j : Nat) (v : Value), jv = .int .i64 (j : Int) ∧ j ≤ k % 4 ∧ TD w wr (((⟨W, H, []⟩ : Pat)).rot j) v) (fun jv _ => k % 4 - (intOf jv).toNat)
    case atStart => exact ⟨0, _, rfl, by omega, D.out⟩
    case round =>
      obtain ⟨j, v, rfl, hj, td⟩ := hrel
      have D2 := hide' td
      obtain ⟨a2, c2, rfl, ap⟩ := td.tab.arg (Nat.le_trans (small _ td.ok td.lW td.lH) (by unfold maxLen; omega))
      have AP := hide' ap
      obtain ⟨x0, x1, x2, xf⟩ := td.box
      obtain ⟨r0, r1, r2, rf⟩ := td.res
      have f0 := xf 0
      have f1 := xf 1
      have f2 := xf 2
      have e0 := rf 0
      have e1 := rf 1
      have e2 := rf 2
      have OK := hide' (show (((⟨W, H, []⟩ : Pat)).rot j).xs.length = (((⟨W, H, []⟩ : Pat)).rot j).W * (((⟨W, H, []⟩ : Pat)).rot j).H from td.ok)
      clear td ap xf rf D
      by_cases d : j < k % 4
      · have m1 : (j : Int) < (k : Int) % 4 := by omega
        go_wp2_with fail
        refine (pquarter (((⟨W, H, []⟩ : Pat)).rot j).W (((⟨W, H, []⟩ : Pat)).rot j).H (((⟨W, H, []⟩ : Pat)).rot j).xs a2 _ c2 _ AP.out D2.out.lW D2.out.lH OK.out).mono ?_
        rintro e w2 ⟨g, rfl, hg, C, b2⟩
        have D3 := hide' (D2.out.next b2 ((((⟨W, H, []⟩ : Pat)).rot j).qtr) g (((⟨W, H, []⟩ : Pat)).rot j).xs.length C (by rw [OK.out, Nat.mul_comm]; exact qtrP_length _ _ _) hg (ok_qtr _) D2.out.lH D2.out.lW)
        obtain ⟨z0, z1, z2, zf⟩ := D2.out.box.next b2
        have h0 := zf 0
        have h1 := zf 1
        have h2 := zf 2
        clear x0 x1 x2 r0 r1 r2 f0 f1 f2 e0 e1 e2 hg C b2 zf
        go_wp2
        exact ⟨⟨j + 1, _, by go_num, by omega, D3.out⟩, by simp [intOf]; omega⟩
      · have m1 : ¬ (j : Int) < (k : Int) % 4 := by omega
        have J := hide' (show j = k % 4 by omega)
        clear d
        go_wp2
        refine bodyPost_ret (v := .agg #[.int .i64 ((((⟨W, H, []⟩ : Pat)).rot j).W : Int), .int .i64 ((((⟨W, H, []⟩ : Pat)).rot j).H : Int), .slice a2 (((⟨W, H, []⟩ : Pat)).rot j).xs.length c2]) (by simp [results, Tryd.results59, go_sem, r0, r1, r2]) rfl ?_
        have hq : Pat.turn (⟨W, H, []⟩ : Pat) k = ((⟨W, H, []⟩ : Pat)).rot j := by rw [J.out]; unfold Pat.turn; rw [if_neg h4]
        rw [hq]
        have hz := D2.out.sz
        refine ⟨_, rfl, ?_, fun g k c e => by have := D2.out.fresh g k c e; omega, ((D2.out.below.setCell (by simp) _).setCell (by simp) _).setCell (by simp) _⟩
        rcases D2.out.tab with h | ⟨g, cap, e, hg, hc⟩
        · exact Or.inl h
        · exact Or.inr ⟨g, cap, e, by rw [World.size_setCell, World.size_setCell, World.size_setCell]; exact hg, fun i hi => (World.cell?_of_block (w := wr) (a := ⟨g, i, none⟩) (stored_blk wr (w.heap.size + 1) g _ _ _ (by have := D2.out.fresh g _ _ e; omega))).trans (hc i hi)⟩
end Go.Proofs.YtdbgdfodoceadaaDoor

