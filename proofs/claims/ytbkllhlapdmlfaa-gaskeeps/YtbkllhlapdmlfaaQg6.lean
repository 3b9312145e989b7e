/-
  What the last text of this claim leans on, part 6: Wd1, Wd2, We1, Wf1, Gs2, Bk7, Bk8, Bk9, Bka, Bkb, Bkd, Bke, Bkf, Bkg, Bkh, Ga2, Ga3.
-/
import Derived.Test.YtbkllhlapdmlfaaQg5
import Derived.Test.YtbkllhlapdmlfaaQg1
import Derived.Test.YtbkllhlapdmlfaaQg3
import Derived.Test.YtbkllhlapdmlfaaQg2
import Derived.Laws.CopyOwn
import Derived.Deep.AppendLies
import Derived.Deep.RegionLaw
import Derived.Deep.CutRange
import Derived.BigRegion
import Derived.Deep.RegionHeld3
namespace Go.Proofs.Ytbkllhlapdmlfaa
open Go.RowKit
set_option linter.unusedVariables false

theorem small (p : Pat) (hp : p.ok) (h1 : p.W ≤ 100) (h2 : p.H ≤ 100) : p.xs.length ≤ 10000 := by rw [hp]; exact Nat.mul_le_mul h1 h2
/-- The pattern in the box, as far as it is turned. -/
structure TD (w wr : World) (p : Pat) (v : Value) : Prop where
  box : TB w.heap.size (.int .i64 (p.W : Int)) (.int .i64 (p.H : Int)) v wr
  res : TB (w.heap.size + 1) (.int .i64 0) (.int .i64 0) (.slice none 0 0) wr
  tab : Tab wr v p.xs
  fresh : ∀ g k c, v = .slice (some ⟨g, 0, none⟩) k c → w.heap.size + 2 ≤ g ∧ k ≤ c ∧ c ≤ maxLen
  ok : p.ok
  lW : p.W ≤ 100
  lH : p.H ≤ 100
  below : Below w.heap.size w wr
  sz : w.heap.size + 2 ≤ wr.heap.size

theorem TB.store {p : Nat} {a b c : Value} {w : World} (h : TB p a b c w) (a' b' c' : Value) : TB p a' b' c' (((w.setCell ⟨p, 0, none⟩ a').setCell ⟨p, 1, none⟩ b').setCell ⟨p, 2, none⟩ c') :=
  ⟨cell_other (cell_other (cell_same h.c0) (by omega)) (by omega), cell_other (cell_same (cell_other h.c1 (by omega))) (by omega), cell_same (cell_other (cell_other h.c2 (by omega)) (by omega)), fun k => by rw [World.frozen?_setCell, World.frozen?_setCell, World.frozen?_setCell]; exact h.fz k⟩
theorem stored_blk (w : World) (p q : Nat) (a b c : Value) (h : q ≠ p) : (((w.setCell ⟨p, 0, none⟩ a).setCell ⟨p, 1, none⟩ b).setCell ⟨p, 2, none⟩ c).heap[q]? = w.heap[q]? :=
  (Below.heap_setCell _ _ _ _ h).trans ((Below.heap_setCell _ _ _ _ h).trans (Below.heap_setCell _ _ _ _ h))
theorem TD.next {w wr w' : World} {p : Pat} {v : Value} (h : TD w wr p v) (hb : Below wr.heap.size wr w') (q : Pat) (g : Nat) (n : Nat) (hC : Cel w' g q.xs) (hn : q.xs.length = n) (hg : wr.heap.size ≤ g) (hq : q.ok) (l1 : q.W ≤ 100) (l2 : q.H ≤ 100) :
    TD w (((w'.setCell ⟨w.heap.size, 0, none⟩ (.int .i64 (q.W : Int))).setCell ⟨w.heap.size, 1, none⟩ (.int .i64 (q.H : Int))).setCell ⟨w.heap.size, 2, none⟩ (.slice (some ⟨g, 0, none⟩) n n)) q (.slice (some ⟨g, 0, none⟩) n n) := by
  have hz := h.sz
  have hz' := hb.size
  refine ⟨(h.box.next hb).store _ _ _, (h.res.next hb).block (stored_blk _ _ _ _ _ _ (by omega)), ?_, fun g' k c e => by injection e with e1 e5 e6; injection e1 with e2; injection e2 with e3; subst e5 e6; exact ⟨by omega, Nat.le_refl _, by rw [← hn]; exact Nat.le_trans (small q hq l1 l2) (by unfold maxLen; omega)⟩, hq, l1, l2, ?_, ?_⟩
  · exact (((hC.rd ((Rd.refl w.heap.size _).set 0 _) (by omega)).rd ((Rd.refl w.heap.size _).set 1 _) (by omega)).rd ((Rd.refl w.heap.size _).set 2 _) (by omega)).tab hn
  · exact (((h.below.trans (hb.mono (by omega))).setCell (Nat.le_refl _) _).setCell (Nat.le_refl _) _).setCell (Nat.le_refl _) _
  · rw [World.size_setCell, World.size_setCell, World.size_setCell]; omega
end Go.Proofs.Ytbkllhlapdmlfaa

namespace Go.Proofs.Ytbkllhlapdmlfaa
open Go.RowKit
set_option linter.unusedVariables false

end Go.Proofs.Ytbkllhlapdmlfaa

namespace Go.Proofs.Ytbkllhlapdmlfaa
open Go.RowKit
set_option linter.unusedVariables false

end Go.Proofs.Ytbkllhlapdmlfaa

namespace Go.Proofs.Ytbkllhlapdmlfaa
open Go.RowKit
set_option linter.unusedVariables false

end Go.Proofs.Ytbkllhlapdmlfaa

namespace Go.Proofs.Ytbkllhlapdmlfaa
open Go.RowKit
set_option linter.unusedVariables false
theorem drew_keep {w w1 : World} {k : Nat} (h : w.heap[k]? = w1.heap[k]?) : w.drew.heap[k]? = w1.heap[k]? := h
theorem cut3P {A B C : Type} {P Φ : A → B → C → Prop} {G : Prop} (h : (∀ a b c, P a b c → Φ a b c) → G) (k : ∀ a b c, P a b c → Φ a b c) : G := h k
theorem made_arr (n : Nat) : madeCells #[Value.int .i64 0] n = arrF n (fun _ => .int .i64 0) := by
  apply Array.ext'
  rw [toList_madeCells_one]
  simp [arrF, List.map_const']
end Go.Proofs.Ytbkllhlapdmlfaa

namespace Go.Proofs.Ytbkllhlapdmlfaa
open Go.RowKit
set_option linter.unusedVariables false
structure Kp (w W V : World) : Prop where
  keep : ∀ k, k < W.heap.size → V.heap[k]? = W.heap[k]?
  size : W.heap.size ≤ V.heap.size
  below : Below w.heap.size w V
theorem Kp.drew {w W V : World} (h : Kp w W V) : Kp w W V.drew := ⟨h.keep, h.size, ⟨h.below.os, h.below.tape, h.below.output, h.below.size, h.below.block⟩⟩
theorem Kp.alloc {w W V : World} (h : Kp w W V) (o : Obj) : Kp w W (V.alloc o) := ⟨fun k hk => (Below.heap_alloc _ _ _ (Nat.lt_of_lt_of_le hk h.size)).trans (h.keep k hk), by simp; have := h.size; omega, h.below.alloc h.below.size _⟩
theorem Kp.call {w W S U : World} (h : Kp w W S) (b : Below S.heap.size S U) {g : Nat} (hg : S.heap.size ≤ g) : Kp w W U ∧ W.heap.size ≤ g := ⟨⟨fun k hk => (b.block k (Nat.lt_of_lt_of_le hk h.size)).trans (h.keep k hk), Nat.le_trans h.size b.size, h.below.trans (b.mono h.below.size)⟩, Nat.le_trans h.size hg⟩
end Go.Proofs.Ytbkllhlapdmlfaa

namespace Go.Proofs.Ytbkllhlapdmlfaa
open Go.RowKit
set_option linter.unusedVariables false
end Go.Proofs.Ytbkllhlapdmlfaa

namespace Go.Proofs.Ytbkllhlapdmlfaa
open Go.RowKit
set_option linter.unusedVariables false
def ones4 (n : Nat) : Nat := dg n 0 + dg n 1 + dg n 2 + dg n 3
def keepB (tv : Nat → Nat) : Bool := (List.range 16).all fun j => ones4 j == ones4 (tv j)
end Go.Proofs.Ytbkllhlapdmlfaa

namespace Go.Proofs.Ytbkllhlapdmlfaa
open Go.RowKit
set_option linter.unusedVariables false
end Go.Proofs.Ytbkllhlapdmlfaa

namespace Go.Proofs.Ytbkllhlapdmlfaa
open Go.RowKit
set_option linter.unusedVariables false
end Go.Proofs.Ytbkllhlapdmlfaa

namespace Go.Proofs.Ytbkllhlapdmlfaa
open Go.RowKit
set_option linter.unusedVariables false
def sumB (g : Nat → Nat) : Nat → Nat
  | 0 => 0
  | n + 1 => sumB g n + g n
theorem sumB_ext {g h : Nat → Nat} : ∀ n, (∀ i, i < n → g i = h i) → sumB g n = sumB h n
  | 0, _ => rfl
  | n + 1, e => by rw [sumB, sumB, sumB_ext n (fun i hi => e i (by omega)), e n (by omega)]
end Go.Proofs.Ytbkllhlapdmlfaa

namespace Go.Proofs.Ytbkllhlapdmlfaa
open Go.RowKit
set_option linter.unusedVariables false
end Go.Proofs.Ytbkllhlapdmlfaa

namespace Go.Proofs.Ytbkllhlapdmlfaa
open Go.RowKit
set_option linter.unusedVariables false
end Go.Proofs.Ytbkllhlapdmlfaa

namespace Go.Proofs.Ytbkllhlapdmlfaa
open Go.RowKit
set_option linter.unusedVariables false
end Go.Proofs.Ytbkllhlapdmlfaa

namespace Go.Proofs.Ytbkllhlapdmlfaa
open Go.RowKit
set_option linter.unusedVariables false
end Go.Proofs.Ytbkllhlapdmlfaa

namespace Go.Proofs.Ytbkllhlapdmlfaa
open Go.RowKit
set_option linter.unusedVariables false
def u8F (f : Nat → Nat) (k : Nat) : Value := .int .u8 (f k : Int)
/-- Cells that lie in bytes at a block's head. -/
def CU (w : World) (g n : Nat) (f : Nat → Nat) : Prop := w.heap[g]? = some (.cells (arrF n (u8F f)) 65 (0, 0))
theorem CU.cell {w : World} {g n : Nat} {f : Nat → Nat} (h : CU w g n f) {k : Nat} (hk : k < n) : w.cell? ⟨g, k, none⟩ = some (.int .u8 (f k : Int)) := by
  rw [cell_of_row w _ _ _ _ _ h, arrF_get _ hk]; rfl
theorem CU.free {w : World} {g n : Nat} {f : Nat → Nat} (h : CU w g n f) (k : Nat) : w.frozen? ⟨g, k, none⟩ = false := frozen_of_row w _ _ _ _ h
theorem CU.lt {w : World} {g n : Nat} {f : Nat → Nat} (h : CU w g n f) : g < w.heap.size := lt_of_block h
theorem CU.set {w : World} {g n : Nat} {f : Nat → Nat} (h : CU w g n f) (i v : Nat) : CU (w.setCell ⟨g, i, none⟩ (.int .u8 (v : Int))) g n (fun k => if k = i then v else f k) := by
  unfold CU
  rw [heap_setCell_same _ _ _ _ _ _ h, arrF_set]
  refine congrArg (fun z => some (Obj.cells z 65 (0, 0))) (arrF_ext fun k _ => ?_)
  unfold u8F
  try dsimp only
  by_cases e : k = i
  · rw [if_pos e, if_pos e]
  · rw [if_neg e, if_neg e]
theorem CU.ext {w : World} {g n : Nat} {f f' : Nat → Nat} (h : CU w g n f) (e : ∀ k, k < n → f k = f' k) : CU w g n f' := by
  unfold CU
  rw [h]
  exact congrArg (fun z => some (Obj.cells z 65 (0, 0))) (arrF_ext fun k hk => by unfold u8F; rw [e k hk])
theorem CU.block {w w' : World} {g n : Nat} {f : Nat → Nat} (h : CU w g n f) (e : w'.heap[g]? = w.heap[g]?) : CU w' g n f := e.trans h
theorem info_cellG : (Try.prog.info? 65).map (fun i => (i.zero, i.size, i.bytes)) = some (some (.int .u8 0), 1, 1) := by kernel_rfl
theorem made_u8 (n : Nat) : madeCells #[Value.int .u8 0] n = arrF n (u8F fun _ => 0) := by
  apply Array.ext'
  rw [toList_madeCells_one]
  unfold u8F
  simp [arrF, List.map_const']
theorem mk_cellG (n : Nat) (hn : n ≤ 10000) (w : World) : (Instr.makeSlice 51 (.int .i64 (n : Int)) (.int .i64 (n : Int))).run Try.prog w = .ok (.slice (some ⟨w.heap.size, 0, none⟩) n n) (w.alloc (.cells (madeCells #[.int .u8 0] n) 65)) := run_make_row' (P := Try.prog) 51 65 (.int .u8 0) 1 Try.underlying51 info_cellG rfl .i64 .i64 n (by omega) (by omega) w
theorem wrap_u8 (n : Nat) (h : n ≤ 255) : IntKind.u8.wrap (n : Int) = (n : Int) := by simp [IntKind.wrap, IntKind.bits, IntKind.signed]; omega
theorem pre_next (f : Nat → Nat) (i k : Nat) : (if k = i then f i else (if k < i then f k else 0)) = (if k < i + 1 then f k else 0) := by
  by_cases h : k = i
  · subst h; rw [if_pos rfl, if_pos (by omega)]
  · rw [if_neg h]
    by_cases q : k < i
    · rw [if_pos q, if_pos (by omega)]
    · rw [if_neg q, if_neg (by omega)]
set_option maxRecDepth 100000 in
set_option maxHeartbeats 1600000 in
theorem packed_any (f : Nat → Nat) (a : Option Addr) (n c : Nat) (w : World) (hP : ArgP w ((List.range n).map fun i => (f i : Int)) a n c) (hf : ∀ i, f i ≤ 63) (hn : n ≤ 10000) :
    Calls Try.prog 18 #[.slice a n c] w fun e w' => e = .returned (.slice (some ⟨w.heap.size, 0, none⟩) n n) ∧ CU w' w.heap.size n f ∧ Below w.heap.size w w' := by
  obtain ⟨w1, hw1⟩ : ∃ w1, w.alloc (.cells (madeCells #[.int .u8 0] n) 65) = w1 := ⟨_, rfl⟩
  have hmk := mk_cellG n hn w
  rw [hw1] at hmk
  have S0 := hide' (show CU w1 w.heap.size n (fun k => if k < 0 then f k else 0) from by rw [← hw1, made_u8]; unfold CU; rw [heap_alloc_new]; exact congrArg (fun z => some (Obj.cells z 65 (0, 0))) (arrF_ext fun k _ => by unfold u8F; simp))
  have B0 := hide' (show Below w.heap.size w w1 by rw [← hw1]; exact (Below.refl _ _).alloc (Nat.le_refl _) _)
  have HC := hide' (fun (V : World) (hV : Below w.heap.size w V) k (hk : k < n) => show ∃ g off, a = some ⟨g, off, none⟩ ∧ V.cell? ⟨g, off + k, none⟩ = some (.int .i64 (f k : Int)) from by
    obtain ⟨g, off, e, hg, hc⟩ := (hP.below hV).cells k (by simpa using hk)
    simp only [List.getElem_map, List.getElem_range] at hc
    exact ⟨g, off, e, hc⟩)
  have HF := hide' hf
  clear hP hf hw1
  go_enter Try.func18, Try.ntmps18
  go_wp2
  clear hmk
  go_loopw [11] (fun iv wr => ∃ (i : Nat), iv = .int .i64 (i : Int) ∧ i ≤ n ∧ Hid (CU wr w.heap.size n (fun k => if k < i then f k else 0)) ∧ Hid (Below w.heap.size w wr)) (fun iv _ => ((n : Int) - intOf iv).toNat)
  case atStart => exact ⟨0, by go_num, by omega, S0, B0⟩
  case round =>
    obtain ⟨i, rfl, hi, HS, HB⟩ := hrel
    obtain ⟨V, rfl⟩ : ∃ V, V = wr := ⟨_, rfl⟩
    by_cases d : (i : Int) < (n : Int)
    · have il : i < n := by omega
      obtain ⟨g, off, rfl, hc⟩ := HC.out V HB.out i il
      have c1 := HS.out.cell il
      have f1 := HS.out.free i
      have l1 := HS.out.lt
      have NS := hide' ((HS.out.set i (f i)).ext (fun k _ => pre_next f i k))
      have NB := hide' (HB.out.setCell (show w.heap.size ≤ (⟨w.heap.size, i, none⟩ : Addr).block from Nat.le_refl _) (.int .u8 (f i : Int)))
      have x63 := HF.out i
      obtain ⟨x, hx⟩ : ∃ x, f i = x := ⟨_, rfl⟩
      rw [hx] at hc NS NB x63
      have wx := wrap_u8 x (by omega)
      clear hx
      go_wp2
      exact ⟨⟨i + 1, by go_num, by omega, NS, NB⟩, by simp [intOf]; omega⟩
    · have ni : i = n := by omega
      subst ni
      have FS := hide' (HS.out.ext (f' := f) (fun k hk => if_pos hk))
      go_wp2
      go_ret
      exact ⟨rfl, FS.out, HB.out⟩
end Go.Proofs.Ytbkllhlapdmlfaa

namespace Go.Proofs.Ytbkllhlapdmlfaa
open Go.RowKit
set_option linter.unusedVariables false
def afF (AF : Nat → Nat → Nat) (j : Nat) : Value := .int .u8 (AF (j / 64) (j % 64) : Int)
set_option maxRecDepth 100000 in
set_option maxHeartbeats 3200000 in
theorem meet_any (AF : Nat → Nat → Nat) (f m0 cs : Nat → Nat) (gm gn ga n m s B : Nat) (co : Option Addr) (cc : Nat) (w : World) (hm : CU w gm n m0) (hw : CU w gn n f) (n1 : gn ≠ gm) (n2 : ga ≠ gm) (hA : w.heap[ga]? = some (.cells (arrF 128 (afF AF)) 81 (0, 0))) (hC : ArgP w ((List.range m).map fun i => (cs i : Int)) co m cc) (n3 : ∀ g off, co = some ⟨g, off, none⟩ → g ≠ gm) (hcs : ∀ i, cs i ≤ 1) (hf : ∀ i, f i ≤ 63) (m1 : 1 ≤ m) (hs : s < m) (hn : n ≤ 10000) (hB : B ≤ gm) :
    Calls Try.prog 21 #[.slice (some ⟨gm, 0, none⟩) n n, .slice (some ⟨gn, 0, none⟩) n n, .pointer (some ⟨ga, 0, none⟩), .slice co m cc, .int .i64 (s : Int)] w fun e w' => e = .returned (.int .i64 (((s + n) % m : Nat) : Int)) ∧ CU w' gm n (fun k => AF (cs ((s + k) % m)) (f k)) ∧ (∀ j, j ≠ gm → w'.heap[j]? = w.heap[j]?) ∧ Below B w w' := by
  obtain ⟨r, hr⟩ : ∃ r, (s + n) % m = r := ⟨_, rfl⟩
  rw [hr]
  have HR := hide' hr
  clear hr
  have mM : m ≤ 9223372036854775807 := by have := hC.max; unfold maxLen at this; omega
  have HC := hide' (fun (V : World) (hV : ∀ j, j ≠ gm → V.heap[j]? = w.heap[j]?) k (hk : k < m) => show ∃ g off, co = some ⟨g, off, none⟩ ∧ V.cell? ⟨g, off + k, none⟩ = some (.int .i64 (cs k : Int)) from by
    obtain ⟨g, off, e, hg, hc⟩ := hC.cells k (by simpa using hk)
    simp only [List.getElem_map, List.getElem_range] at hc
    exact ⟨g, off, e, (World.cell?_of_block (w := w) (a := ⟨g, off + k, none⟩) (hV g (n3 g off e))).trans hc⟩)
  have HN := hide' (fun (V : World) (hV : ∀ j, j ≠ gm → V.heap[j]? = w.heap[j]?) k (hk : k < n) => show V.cell? ⟨gn, k, none⟩ = some (.int .u8 (f k : Int)) from (hw.block (hV gn n1)).cell hk)
  have HA := hide' (fun (V : World) (hV : ∀ j, j ≠ gm → V.heap[j]? = w.heap[j]?) z x (hz : z < 2) (hx : x < 64) => show V.cell? ⟨ga, z * 64 + x, none⟩ = some (.int .u8 ((AF z x : Nat) : Int)) from by
    rw [cell_of_row V _ _ _ _ _ ((hV ga n2).trans hA), arrF_get _ (by omega)]
    unfold afF
    rw [show (z * 64 + x) / 64 = z by omega, show (z * 64 + x) % 64 = x by omega])
  have HCS := hide' hcs
  have HF := hide' hf
  have BG := hide' hB
  have S0 := hide' (show CU w gm n (fun k => if k < 0 then AF (cs ((s + k) % m)) (f k) else m0 k) from hm.ext (fun k _ => by simp))
  have B0 := hide' (Below.refl B w)
  clear hm hw hA hC n3 hcs hf hB
  go_enter Try.func21, Try.ntmps21
  go_wp2
  go_loopw [4, 15] (fun fv iv wr => ∃ (i q : Nat), iv = .int .i64 (i : Int) ∧ fv = .int .i64 (q : Int) ∧ i ≤ n ∧ q < m ∧ Hid (q = (s + i) % m) ∧ Hid (CU wr gm n (fun k => if k < i then AF (cs ((s + k) % m)) (f k) else m0 k)) ∧ Hid (∀ j, j ≠ gm → wr.heap[j]? = w.heap[j]?) ∧ Hid (Below B w wr)) (fun _ iv _ => ((n : Int) - intOf iv).toNat)
  case atStart => exact ⟨0, s, by go_num, rfl, by omega, hs, hide' (by rw [Nat.add_zero, Nat.mod_eq_of_lt hs]), S0, hide' (fun _ _ => rfl), B0⟩
  case round =>
    obtain ⟨i, q, rfl, rfl, hi, hq1, HQ, HS, HK, HB⟩ := hrel
    obtain ⟨V, rfl⟩ : ∃ V, V = wr := ⟨_, rfl⟩
    by_cases d : (i : Int) < (n : Int)
    · have il : i < n := by omega
      obtain ⟨g, off, rfl, hc⟩ := HC.out V HK.out q hq1
      have cn := HN.out V HK.out i il
      have c1 := HS.out.cell il
      have f1 := HS.out.free i
      have l1 := HS.out.lt
      have hq := HQ.out.symm
      obtain ⟨x, hx⟩ : ∃ x, f i = x := ⟨_, rfl⟩
      have x63 : x ≤ 63 := by rw [← hx]; exact HF.out i
      have z1 := HCS.out q
      rw [hx] at cn
      have NQ : (q + 1 = m ∧ (s + (i + 1)) % m = 0) ∨ (q + 1 < m ∧ (s + (i + 1)) % m = q + 1) := by
        have e : (s + (i + 1)) % m = (q + 1) % m := by rw [← hq, ← Nat.add_assoc, Nat.add_mod (s + i) 1 m, Nat.add_mod ((s + i) % m) 1 m, Nat.mod_mod]
        by_cases h : q + 1 = m
        · left; exact ⟨h, by rw [e, h, Nat.mod_self]⟩
        · right; exact ⟨by omega, by rw [e, Nat.mod_eq_of_lt (by omega)]⟩
      have NQH := hide' NQ
      clear NQ
      rcases (by omega : cs q = 0 ∨ cs q = 1) with hz | hz <;> rw [hz] at hc
      · have ca : V.cell? ⟨ga, x, none⟩ = some (.int .u8 ((AF 0 x : Nat) : Int)) := by
          have := HA.out V HK.out 0 x (by omega) (by omega)
          simpa using this
        obtain ⟨y, hy⟩ : ∃ y, AF 0 x = y := ⟨_, rfl⟩
        rw [hy] at ca
        have NS := hide' ((HS.out.set i y).ext (fun k _ => show _ = (if k < i + 1 then AF (cs ((s + k) % m)) (f k) else m0 k) from by
          by_cases e : k = i
          · subst e; rw [if_pos rfl, if_pos (by omega), hq, hz, hx, hy]
          · rw [if_neg e]
            by_cases l : k < i
            · rw [if_pos l, if_pos (by omega)]
            · rw [if_neg l, if_neg (by omega)]))
        have NK := hide' (fun k (hk : k ≠ gm) => show (V.setCell ⟨gm, i, none⟩ (.int .u8 (y : Int))).heap[k]? = w.heap[k]? from (Below.heap_setCell _ _ _ _ hk).trans (HK.out k hk))
        have NB := hide' (HB.out.setCell (show B ≤ (⟨gm, i, none⟩ : Addr).block from BG.out) (.int .u8 (y : Int)))
        clear hq hz hx hy
        go_wp2
        go_region
        obtain ⟨X, hX⟩ : ∃ X, (V.setCell ⟨gm, i, none⟩ (.int .u8 (y : Int))).drew = X := ⟨_, rfl⟩
        rw [hX]
        have XS := hide' (show CU X gm n _ by rw [← hX]; exact NS.out)
        have XK := hide' (show ∀ k, k ≠ gm → X.heap[k]? = w.heap[k]? by rw [← hX]; exact NK.out)
        have XB := hide' (show Below B w X by rw [← hX]; exact NB.out.drew)
        clear hX NS NK NB
        rcases NQH.out with ⟨e1, e2⟩ | ⟨e1, e2⟩
        · have e3 : ((q : Int) + 1 == (m : Int)) = true := by simp; omega
          have e4 : (q : Int) + 1 = (m : Int) := by omega
          have QN := hide' e2
          clear e1 e2 hc
          go_wp2
          exact ⟨⟨i + 1, 0, by go_num, by go_num, by omega, by omega, hide' QN.out.symm, XS, XK, XB⟩, by simp [intOf]; omega⟩
        · have e3 : ((q : Int) + 1 == (m : Int)) = false := by simp; omega
          have e4 : ¬ (q : Int) + 1 = (m : Int) := by omega
          have QN := hide' e2
          clear e2 hc
          go_wp2
          exact ⟨⟨i + 1, q + 1, by go_num, by go_num, by omega, by omega, hide' QN.out.symm, XS, XK, XB⟩, by simp [intOf]; omega⟩
      · have ca : V.cell? ⟨ga, 64 + x, none⟩ = some (.int .u8 ((AF 1 x : Nat) : Int)) := by
          have := HA.out V HK.out 1 x (by omega) (by omega)
          simpa using this
        obtain ⟨y, hy⟩ : ∃ y, AF 1 x = y := ⟨_, rfl⟩
        rw [hy] at ca
        have NS := hide' ((HS.out.set i y).ext (fun k _ => show _ = (if k < i + 1 then AF (cs ((s + k) % m)) (f k) else m0 k) from by
          by_cases e : k = i
          · subst e; rw [if_pos rfl, if_pos (by omega), hq, hz, hx, hy]
          · rw [if_neg e]
            by_cases l : k < i
            · rw [if_pos l, if_pos (by omega)]
            · rw [if_neg l, if_neg (by omega)]))
        have NK := hide' (fun k (hk : k ≠ gm) => show (V.setCell ⟨gm, i, none⟩ (.int .u8 (y : Int))).heap[k]? = w.heap[k]? from (Below.heap_setCell _ _ _ _ hk).trans (HK.out k hk))
        have NB := hide' (HB.out.setCell (show B ≤ (⟨gm, i, none⟩ : Addr).block from BG.out) (.int .u8 (y : Int)))
        clear hq hz hx hy
        go_wp2
        go_region
        obtain ⟨X, hX⟩ : ∃ X, (V.setCell ⟨gm, i, none⟩ (.int .u8 (y : Int))).drew = X := ⟨_, rfl⟩
        rw [hX]
        have XS := hide' (show CU X gm n _ by rw [← hX]; exact NS.out)
        have XK := hide' (show ∀ k, k ≠ gm → X.heap[k]? = w.heap[k]? by rw [← hX]; exact NK.out)
        have XB := hide' (show Below B w X by rw [← hX]; exact NB.out.drew)
        clear hX NS NK NB
        rcases NQH.out with ⟨e1, e2⟩ | ⟨e1, e2⟩
        · have e3 : ((q : Int) + 1 == (m : Int)) = true := by simp; omega
          have e4 : (q : Int) + 1 = (m : Int) := by omega
          have QN := hide' e2
          clear e1 e2 hc
          go_wp2
          exact ⟨⟨i + 1, 0, by go_num, by go_num, by omega, by omega, hide' QN.out.symm, XS, XK, XB⟩, by simp [intOf]; omega⟩
        · have e3 : ((q : Int) + 1 == (m : Int)) = false := by simp; omega
          have e4 : ¬ (q : Int) + 1 = (m : Int) := by omega
          have QN := hide' e2
          clear e2 hc
          go_wp2
          exact ⟨⟨i + 1, q + 1, by go_num, by go_num, by omega, by omega, hide' QN.out.symm, XS, XK, XB⟩, by simp [intOf]; omega⟩
    · have ni : i = n := by omega
      subst ni
      have FS := hide' (HS.out.ext (f' := fun k => AF (cs ((s + k) % m)) (f k)) (fun k hk => if_pos hk))
      have qr : q = r := HQ.out.trans HR.out
      subst qr
      go_wp2
      go_ret
      exact ⟨rfl, FS.out, HK.out, HB.out⟩
end Go.Proofs.Ytbkllhlapdmlfaa

