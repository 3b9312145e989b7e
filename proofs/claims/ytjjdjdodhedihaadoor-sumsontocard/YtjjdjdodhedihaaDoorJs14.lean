/-
  What the last text of this claim leans on, part 14: Oc9, Od1.
-/
import Derived.Test.YtjjdjdodhedihaaDoorJs13
import Derived.Test.YtjjdjdodhedihaaDoorJs11
import Derived.Deep.RegionHeld3
import Derived.Deep.AppendLies
namespace Go.Proofs.YtjjdjdodhedihaaDoor
open Go.RowKit Go.Shelf
set_option linter.unusedVariables false
attribute [local go_sem] Oper.semAt_some
attribute [local go_sem] run_store_func

def wantTf (S n : Nat) (u c : Nat × Nat) : Bool := wantT u.1 u.2 ((u.1 * S + c.1) % n) ((u.2 * S + c.2) % n) c.1 c.2
end Go.Proofs.YtjjdjdodhedihaaDoor

namespace Go.Proofs.YtjjdjdodhedihaaDoor
open Go.RowKit
set_option linter.unusedVariables false

/-- Two rows of numbers that lie apart, and a pair's box. -/
structure TW (base pb : Nat) (bx : Array Value) (w X : World) (v1 : Value) (n1 : Nat) (x1 : List Value) (v2 : Value) (n2 : Nat) (x2 : List Value) : Prop where
  b1 : X.ownsRow base 3 1 v1 n1 x1
  b2 : X.ownsRow base 3 1 v2 n2 x2
  sep : ∀ b, v1.ownBlock = some b → v2.ownBlock ≠ some b
  box : Blk X pb bx 127
  bl : Below base w X
  sz : base ≤ X.heap.size
theorem row_lt {w : World} {base : Nat} {e : TypeId} {size n : Nat} {v : Value} {xs : List Value} (h : w.ownsRow base e size v n xs) : ∀ b, v.ownBlock = some b → b < w.heap.size := fun b eb => by
  rcases h.2 with ⟨rfl, _⟩ | ⟨g, cap, cur, rfl, _, hh, _⟩
  · simp [Value.ownBlock] at eb
  · obtain rfl : g = b := by simpa [Value.ownBlock] using eb
    exact (Array.getElem?_eq_some_iff.1 hh).1
theorem TW.alloc {base pb : Nat} {bx : Array Value} {w X : World} {v1 v2 : Value} {n1 n2 : Nat} {x1 x2 : List Value} (h : TW base pb bx w X v1 n1 x1 v2 n2 x2) (o : Obj) : TW base pb bx w (X.alloc o) v1 n1 x1 v2 n2 x2 :=
  ⟨h.b1.alloc o, h.b2.alloc o, h.sep, h.box.alloc o, h.bl.alloc h.sz o, by simp; have := h.sz; omega⟩
theorem TW.drew {base pb : Nat} {bx : Array Value} {w X : World} {v1 v2 : Value} {n1 n2 : Nat} {x1 x2 : List Value} (h : TW base pb bx w X v1 n1 x1 v2 n2 x2) : TW base pb bx w X.drew v1 n1 x1 v2 n2 x2 :=
  ⟨h.b1.drew, h.b2.drew, h.sep, h.box.of rfl, h.bl.drew, h.sz⟩
theorem TW.swap {base pb : Nat} {bx : Array Value} {w X : World} {v1 v2 : Value} {n1 n2 : Nat} {x1 x2 : List Value} (h : TW base pb bx w X v1 n1 x1 v2 n2 x2) : TW base pb bx w X v2 n2 x2 v1 n1 x1 :=
  ⟨h.b2, h.b1, fun b e1 e2 => h.sep b e2 e1, h.box, h.bl, h.sz⟩
theorem TW.app1 {base pb : Nat} {bx : Array Value} {w X Y : World} {v1 v2 : Value} {n1 n2 : Nat} {x1 x2 : List Value} (h : TW base pb bx w X v1 n1 x1 v2 n2 x2) {g m d : Nat} {y1 : List Value} (hown : Y.ownsRow base 3 1 (.slice (some ⟨g, 0, none⟩) m d) m y1) (hg : X.grownBy Y v1.ownBlock) (hat : v1.ownBlock = some g ∨ g = X.heap.size) : TW base pb bx w Y (.slice (some ⟨g, 0, none⟩) m d) m y1 v2 n2 x2 := by
  refine ⟨hown, h.b2.kept hg ?_, fun b e1 e2 => ?_, h.box.of (hg.block pb h.box.lt (not_row h.box (by decide) h.b1)), ?_, Nat.le_trans h.sz hg.size⟩
  · rcases Classical.em (v2.ownBlock = none) with q | q
    · exact Or.inl q
    · right
      intro e
      cases hb : v1.ownBlock with
      | none => rw [hb] at e; exact q e
      | some b => exact h.sep b hb (by rw [e]; exact hb)
  · obtain rfl : g = b := by simpa [Value.ownBlock] using e1
    rcases hat with hat | hat
    · exact h.sep _ hat e2
    · have := row_lt h.b2 _ e2
      omega
  · refine ⟨hg.os.trans h.bl.os, hg.tape.trans h.bl.tape, hg.output.trans h.bl.output, Nat.le_trans h.bl.size hg.size, fun k hk => ?_⟩
    refine (hg.block k (by have := h.sz; omega) (fun e => ?_)).trans (h.bl.block k hk)
    have := row_base h.b1 k e.symm
    omega
theorem TW.app2 {base pb : Nat} {bx : Array Value} {w X Y : World} {v1 v2 : Value} {n1 n2 : Nat} {x1 x2 : List Value} (h : TW base pb bx w X v1 n1 x1 v2 n2 x2) {g m d : Nat} {y2 : List Value} (hown : Y.ownsRow base 3 1 (.slice (some ⟨g, 0, none⟩) m d) m y2) (hg : X.grownBy Y v2.ownBlock) (hat : v2.ownBlock = some g ∨ g = X.heap.size) : TW base pb bx w Y v1 n1 x1 (.slice (some ⟨g, 0, none⟩) m d) m y2 :=
  (h.swap.app1 hown hg hat).swap
theorem blk_new_at {w : World} {p : Nat} {x : Value} {t : TypeId} (h : p = w.heap.size) : Blk (w.alloc (.cells #[x] t)) p #[x] t := by rw [h]; exact Blk.new _ _ _
theorem news_blk {w : World} {p : Nat} {x : Value} {t : TypeId} (h : Blk w p #[x] t) : ∀ j u, [x][j]? = some u → w.cell? ((⟨p, 0, none⟩ : Addr).add j) = some u := World.news_of_block (cs := #[x]) h

/-- Two lists of numbers, of the call's own. -/
def SplitPost (l : List (Nat × Nat)) (w : World) (e : Ending) (w' : World) : Prop :=
  ∃ v1 v2, e = .returned (.tuple #[v1, v2]) ∧ w'.ownsRow w.heap.size 3 1 v1 l.length (l.map fun y => .int .i64 (y.1 : Int)) ∧ w'.ownsRow w.heap.size 3 1 v2 l.length (l.map fun y => .int .i64 (y.2 : Int)) ∧ Below w.heap.size w w'

set_option maxRecDepth 100000 in
set_option maxHeartbeats 12800000 in
theorem split_any (l : List (Nat × Nat)) (g c : Nat) (w : World) (hP : PC w g l.length (prAt l)) (hl : l.length ≤ 300) :
    Calls Tryd.prog 80 #[.slice (some ⟨g, 0, none⟩) l.length c] w (SplitPost l w) := by
  have HP := hide' hP
  obtain ⟨m, hm⟩ : ∃ m, l.length = m := ⟨_, rfl⟩
  have HM := hide' hm
  have LT := hide' (show g < w.heap.size from hP.lt)
  obtain ⟨i0, hi, hz0, hz1, hz2⟩ := info_parts info_int
  rw [hm] at hl ⊢
  clear hP hm
  go_enter Tryd.func80, Tryd.ntmps80
  go_wp2
  go_loopw [2, 3, 8] (fun v1 v2 iv wr => ∃ (k : Nat) (a1 : Option Addr) (c1 : Nat) (a2 : Option Addr) (c2 : Nat), v1 = .slice a1 k c1 ∧ v2 = .slice a2 k c2 ∧ iv = .int .i64 (k : Int) ∧ k ≤ m ∧ Hid (wr.ownsRow w.heap.size 3 1 (.slice a1 k c1) k ((l.take k).map fun y => Value.int .i64 (y.1 : Int)) ∧ wr.ownsRow w.heap.size 3 1 (.slice a2 k c2) k ((l.take k).map fun y => Value.int .i64 (y.2 : Int)) ∧ (∀ b, (Value.slice a1 k c1).ownBlock = some b → (Value.slice a2 k c2).ownBlock ≠ some b) ∧ Below w.heap.size w wr)) (fun _ _ iv _ => m - (intOf iv).toNat)
  case atStart => exact ⟨0, none, 0, none, 0, rfl, rfl, rfl, by omega, hide' ⟨⟨by simp, Or.inl ⟨rfl, rfl⟩⟩, ⟨by simp, Or.inl ⟨rfl, rfl⟩⟩, fun b e => by simp [Value.ownBlock] at e, Below.refl _ _⟩⟩
  case round =>
    obtain ⟨k, a1, c1, a2, c2, rfl, rfl, rfl, hk, H1⟩ := hrel
    by_cases d : (k : Int) < (m : Int)
    · obtain ⟨x, hx⟩ : ∃ x, prAt l k = x := ⟨_, rfl⟩
      have kl : k < l.length := by have := HM.out; omega
      have TK1 := hide' (show ((l.take (k + 1)).map fun y => Value.int .i64 (y.1 : Int)) = ((l.take k).map fun y => Value.int .i64 (y.1 : Int)) ++ [.int .i64 (x.1 : Int)] by rw [List.take_succ_eq_append_getElem kl, List.map_append, ← hx]; simp [prAt, List.getD, kl])
      have TK2 := hide' (show ((l.take (k + 1)).map fun y => Value.int .i64 (y.2 : Int)) = ((l.take k).map fun y => Value.int .i64 (y.2 : Int)) ++ [.int .i64 (x.2 : Int)] by rw [List.take_succ_eq_append_getElem kl, List.map_append, ← hx]; simp [prAt, List.getD, kl])
      have PW := HP.out.block H1.out.2.2.2.size (H1.out.2.2.2.block g LT.out)
      have e0 := PW.c0 k kl
      have e1 := PW.c1 k kl
      rw [hx] at e0 e1
      obtain ⟨pb, hpb⟩ : ∃ pb, wr.heap.size = pb := ⟨_, rfl⟩
      have wsz := H1.out.2.2.2.size
      obtain ⟨W, hW⟩ : ∃ W, wr.alloc (.cells #[.int .i64 (x.1 : Int), .int .i64 (x.2 : Int)] 127) = W := ⟨_, rfl⟩
      have QW := hide' (show TW w.heap.size pb #[.int .i64 (x.1 : Int), .int .i64 (x.2 : Int)] w W (.slice a1 k c1) k ((l.take k).map fun y => Value.int .i64 (y.1 : Int)) (.slice a2 k c2) k ((l.take k).map fun y => Value.int .i64 (y.2 : Int)) by
        rw [← hW, ← hpb]
        exact ⟨H1.out.1.alloc _, H1.out.2.1.alloc _, H1.out.2.2.1, Blk.new _ _ _, H1.out.2.2.2.alloc wsz _, by simp; omega⟩)
      have Q0 := hide' QW.out.drew
      have OB1 := hide' (show ∀ p, W.heap.size ≤ p → some p ≠ (Value.slice a1 k c1).ownBlock from fun p hp e => by have := row_lt QW.out.b1 p e.symm; omega)
      have OB2 := hide' (show ∀ p, W.heap.size ≤ p → some p ≠ (Value.slice a2 k c2).ownBlock from fun p hp e => by have := row_lt QW.out.b2 p e.symm; omega)
      have CKs := hide' (show ∀ X : World, Blk X pb #[.int .i64 (x.1 : Int), .int .i64 (x.2 : Int)] 127 → X.cell? ⟨pb, 0, none⟩ = some (.int .i64 (x.1 : Int)) ∧ X.cell? ⟨pb, 1, none⟩ = some (.int .i64 (x.2 : Int)) from fun X hb => ⟨hb.cell 0, hb.cell 1⟩)
      have q0 : W.cell? ⟨pb, 0, none⟩ = some (.int .i64 (x.1 : Int)) := QW.out.box.cell 0
      have q1 : W.cell? ⟨pb, 1, none⟩ = some (.int .i64 (x.2 : Int)) := QW.out.box.cell 1
      clear hx PW H1
      go_wp2
      clear hpb
      go_region_held3 (fun w' => w'.cell? ⟨pb, 0, none⟩ = some (.int .i64 (x.1 : Int)) ∧ w'.cell? ⟨pb, 1, none⟩ = some (.int .i64 (x.2 : Int))) (first | exact CKs.out _ Q0.out.box | exact CKs.out _ (Q0.out.alloc _).box | exact CKs.out _ ((Q0.out.alloc _).alloc _).box | exact CKs.out _ QF.out.box | exact CKs.out _ Q1.out.box | exact CKs.out _ (Q1.out.alloc _).box | exact CKs.out _ Q2.out.box | exact CKs.out _ (Q2.out.alloc _).box)
        (first
          | (refine step_append_lies _ (by rfl) _ _ _ (by rfl) w.heap.size 3 i0 _ 1 8 Tryd.underlying22 hi hz0 hz1 hz2 rfl (by omega) (.slice a1 k c1) k ((l.take k).map fun y => Value.int .i64 (y.1 : Int)) (by rfl) (by first | exact Q0.out.b1 | exact (Q0.out.alloc _).b1 | exact ((Q0.out.alloc _).alloc _).b1 | exact Q2.out.b1 | exact (Q2.out.alloc _).b1) _ _ _ [.int .i64 (x.1 : Int)] (by rfl) (by rfl) (by first | exact cell_one_new _ _ _ | exact news_blk (blk_new_at (by simp)) | exact news_blk ((Blk.new _ _ _).alloc _) | exact news_blk TM1.out) (by simp [Value.oneCell']) (by omega) (by unfold maxLen; omega) (by omega) (by first | exact Q0.out.sz | exact (Q0.out.alloc _).sz | exact ((Q0.out.alloc _).alloc _).sz | exact Q2.out.sz | exact (Q2.out.alloc _).sz) _ rfl ?_; intro g1 d1 y1 hown hgrow hat hlt; (first | (have QF := hide' (show TW w.heap.size pb #[.int .i64 (x.1 : Int), .int .i64 (x.2 : Int)] w y1 (.slice (some ⟨g1, 0, none⟩) (k + 1) d1) (k + 1) (((l.take k).map fun y => Value.int .i64 (y.1 : Int)) ++ [.int .i64 (x.1 : Int)]) (.slice (some ⟨g2, 0, none⟩) (k + 1) d2) (k + 1) (((l.take k).map fun y => Value.int .i64 (y.2 : Int)) ++ [.int .i64 (x.2 : Int)]) from by first | exact Q2.out.app1 hown hgrow hat | exact (Q2.out.alloc _).app1 hown hgrow hat)) | (have Q1 := hide' (show TW w.heap.size pb #[.int .i64 (x.1 : Int), .int .i64 (x.2 : Int)] w y1 (.slice (some ⟨g1, 0, none⟩) (k + 1) d1) (k + 1) (((l.take k).map fun y => Value.int .i64 (y.1 : Int)) ++ [.int .i64 (x.1 : Int)]) (.slice a2 k c2) k ((l.take k).map fun y => Value.int .i64 (y.2 : Int)) from by first | exact (Q0.out.alloc _).app1 hown hgrow hat | exact ((Q0.out.alloc _).alloc _).app1 hown hgrow hat))); (try (have TM2 := hide' (show Blk y1 W.heap.size #[.int .i64 (x.2 : Int)] 3 from (((Blk.new W.drew _ _).alloc (.cells #[.int .i64 (x.1 : Int)] 3)).of (hgrow.block _ (by simp; omega) (OB1.out _ (by simp))))))); (try (have TM2 := hide' (show Blk y1 (W.heap.size + 1) #[.int .i64 (x.2 : Int)] 3 from ((blk_new_at (w := W.drew.alloc (.cells #[.int .i64 (x.1 : Int)] 3)) (by simp)).of (hgrow.block _ (by simp) (OB1.out _ (by simp))))))); clear hown hgrow hat hlt)
          | (refine step_append_lies _ (by rfl) _ _ _ (by rfl) w.heap.size 3 i0 _ 1 8 Tryd.underlying22 hi hz0 hz1 hz2 rfl (by omega) (.slice a2 k c2) k ((l.take k).map fun y => Value.int .i64 (y.2 : Int)) (by rfl) (by first | exact Q0.out.b2 | exact (Q0.out.alloc _).b2 | exact ((Q0.out.alloc _).alloc _).b2 | exact Q1.out.b2 | exact (Q1.out.alloc _).b2) _ _ _ [.int .i64 (x.2 : Int)] (by rfl) (by rfl) (by first | exact cell_one_new _ _ _ | exact news_blk (blk_new_at (by simp)) | exact news_blk ((Blk.new _ _ _).alloc _) | exact news_blk TM2.out) (by simp [Value.oneCell']) (by omega) (by unfold maxLen; omega) (by omega) (by first | exact Q0.out.sz | exact (Q0.out.alloc _).sz | exact ((Q0.out.alloc _).alloc _).sz | exact Q1.out.sz | exact (Q1.out.alloc _).sz) _ rfl ?_; intro g2 d2 y2 hown hgrow hat hlt; (first | (have QF := hide' (show TW w.heap.size pb #[.int .i64 (x.1 : Int), .int .i64 (x.2 : Int)] w y2 (.slice (some ⟨g1, 0, none⟩) (k + 1) d1) (k + 1) (((l.take k).map fun y => Value.int .i64 (y.1 : Int)) ++ [.int .i64 (x.1 : Int)]) (.slice (some ⟨g2, 0, none⟩) (k + 1) d2) (k + 1) (((l.take k).map fun y => Value.int .i64 (y.2 : Int)) ++ [.int .i64 (x.2 : Int)]) from by first | exact Q1.out.app2 hown hgrow hat | exact (Q1.out.alloc _).app2 hown hgrow hat)) | (have Q2 := hide' (show TW w.heap.size pb #[.int .i64 (x.1 : Int), .int .i64 (x.2 : Int)] w y2 (.slice a1 k c1) k ((l.take k).map fun y => Value.int .i64 (y.1 : Int)) (.slice (some ⟨g2, 0, none⟩) (k + 1) d2) (k + 1) (((l.take k).map fun y => Value.int .i64 (y.2 : Int)) ++ [.int .i64 (x.2 : Int)]) from by first | exact (Q0.out.alloc _).app2 hown hgrow hat | exact ((Q0.out.alloc _).alloc _).app2 hown hgrow hat))); (try (have TM1 := hide' (show Blk y2 W.heap.size #[.int .i64 (x.1 : Int)] 3 from (((Blk.new W.drew _ _).alloc (.cells #[.int .i64 (x.2 : Int)] 3)).of (hgrow.block _ (by simp; omega) (OB2.out _ (by simp))))))); (try (have TM1 := hide' (show Blk y2 (W.heap.size + 1) #[.int .i64 (x.1 : Int)] 3 from ((blk_new_at (w := W.drew.alloc (.cells #[.int .i64 (x.2 : Int)] 3)) (by simp)).of (hgrow.block _ (by simp) (OB2.out _ (by simp))))))); clear hown hgrow hat hlt)
          | fail)
      all_goals
        go_wp2
        refine ⟨⟨k + 1, _, _, _, _, rfl, rfl, by go_num, by omega, hide' ⟨?_, ?_, QF.out.sep, QF.out.bl⟩⟩, by simp [intOf]; omega⟩
        · rw [TK1.out]; exact QF.out.b1
        · rw [TK2.out]; exact QF.out.b2
    · have E := hide' (show k = l.length by have := HM.out; omega)
      have F1 := hide' (show wr.ownsRow w.heap.size 3 1 (.slice a1 k c1) l.length (l.map fun y => .int .i64 (y.1 : Int)) by have := H1.out.1; rw [E.out, List.take_length] at this; rw [E.out]; exact this)
      have F2 := hide' (show wr.ownsRow w.heap.size 3 1 (.slice a2 k c2) l.length (l.map fun y => .int .i64 (y.2 : Int)) by have := H1.out.2.1; rw [E.out, List.take_length] at this; rw [E.out]; exact this)
      go_wp2
      go_ret2
      exact ⟨_, _, rfl, F1.out, F2.out, H1.out.2.2.2⟩
end Go.Proofs.YtjjdjdodhedihaaDoor

