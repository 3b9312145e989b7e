/-
  What the last text of this claim leans on, part 26: Ga6, Ga7.
-/
import Derived.Test.YtbkllhlapdmlfaaQb23
namespace Go.Proofs.Ytbkllhlapdmlfaa
open Go.RowKit
set_option linter.unusedVariables false
structure PG (w w1 wr : World) (K W H : Int) (n p q : Nat) (f : Nat → Nat) : Prop where
  keep : ∀ k, k < w1.heap.size → wr.heap[k]? = w1.heap[k]?
  pat : wr.heap[p]? = some (.cells #[.int .i64 K, .int .i64 W, .int .i64 H, .slice (some ⟨q, 0, none⟩) n n] 24 (0, 0))
  out : wr.heap[q]? = some (.cells (arrF n (fun k => .int .i64 (f k : Int))) 3 (0, 0))
  pl : w1.heap.size ≤ p
  ql : w1.heap.size ≤ q
  ne : p ≠ q
  below : Below w.heap.size w wr
theorem PG.set {w w1 wr : World} {K W H : Int} {n p q : Nat} {f : Nat → Nat} (h : PG w w1 wr K W H n p q f) (hs : w.heap.size ≤ w1.heap.size) (i v : Nat) : PG w w1 (wr.setCell ⟨q, i, none⟩ (.int .i64 (v : Int))) K W H n p q (fun k => if k = i then v else f k) :=
  ⟨fun k hk => (Below.heap_setCell _ _ _ _ (by have := h.ql; simp; omega)).trans (h.keep k hk), (Below.heap_setCell _ _ _ _ h.ne).trans h.pat, by
    rw [heap_setCell_same _ _ _ _ _ _ h.out, arrF_set]
    refine congrArg (fun z => some (Obj.cells z 3 (0, 0))) (arrF_ext fun k _ => ?_)
    by_cases e : k = i
    · rw [if_pos e, if_pos e]
    · rw [if_neg e, if_neg e], h.pl, h.ql, h.ne, h.below.setCell (by have := h.ql; simp; omega) _⟩
theorem PG.ext {w w1 wr : World} {K W H : Int} {n p q : Nat} {f f' : Nat → Nat} (h : PG w w1 wr K W H n p q f) (e : ∀ k, k < n → f k = f' k) : PG w w1 wr K W H n p q f' :=
  ⟨h.keep, h.pat, by rw [h.out]; exact congrArg (fun z => some (Obj.cells z 3 (0, 0))) (arrF_ext fun k hk => by rw [e k hk]), h.pl, h.ql, h.ne, h.below⟩
def GasOut (K W H : Int) (f : Nat → Nat) (n : Nat) (w : World) (e : Ending) (w' : World) : Prop := ∃ q, e = .returned (.agg #[.int .i64 K, .int .i64 W, .int .i64 H, .slice (some ⟨q, 0, none⟩) n n]) ∧ w.heap.size ≤ q ∧ ArgP w' ((List.range n).map fun i => (f i : Int)) (some ⟨q, 0, none⟩) n n ∧ Below w.heap.size w w'
set_option maxRecDepth 100000 in
set_option maxHeartbeats 6400000 in
theorem unpacked_any (K W H : Int) (a : Option Addr) (m c : Nat) (gc n : Nat) (f : Nat → Nat) (w : World) (hc : CU w gc n f) (hf : ∀ i, f i ≤ 63) (hn : n ≤ 10000) :
    Calls Try.prog 23 #[.agg #[.int .i64 K, .int .i64 W, .int .i64 H, .slice a m c], .slice (some ⟨gc, 0, none⟩) n n] w (GasOut K W H f n w) := by
  obtain ⟨w1, hw1⟩ : ∃ w1, (w.alloc (.cells #[.int .i64 K, .int .i64 W, .int .i64 H, .slice a m c] 24)).alloc (.cells #[.int .i64 0, .int .i64 0, .int .i64 0, .slice none 0 0] 24) = w1 := ⟨_, rfl⟩
  have BB : Below w.heap.size w w1 := by rw [← hw1]; exact ((Below.refl _ _).alloc (Nat.le_refl _) _).alloc (by simp) _
  have g0 : w1.heap[w.heap.size]? = some (.cells #[.int .i64 K, .int .i64 W, .int .i64 H, .slice a m c] 24 (0, 0)) := by rw [← hw1, Below.heap_alloc _ _ _ (by simp)]; exact heap_alloc_new _ _
  have g1 : w1.heap[w.heap.size + 1]? = some (.cells #[.int .i64 0, .int .i64 0, .int .i64 0, .slice none 0 0] 24 (0, 0)) := by rw [← hw1]; exact heap_atX _ _ _ (by simp)
  have c0 := cell_of_row w1 _ 0 _ _ _ g0
  have c1 := cell_of_row w1 _ 1 _ _ _ g0
  have c2 := cell_of_row w1 _ 2 _ _ _ g0
  simp at c0 c1 c2
  have s1 : w1.heap.size = w.heap.size + 1 + 1 := by rw [← hw1]; simp
  have hmk := run_make_row' (P := Try.prog) 22 3 (.int .i64 0) 8 Try.underlying22 info_int rfl .i64 .i64 n (by omega) (by omega)
  have G1 := hide' g1
  have BH := hide' BB
  have HF := hide' hf
  have HC := hide' (hc.block (BB.block gc hc.lt))
  have HL := hide' hc.lt
  clear g0 g1 BB hf hc
  go_enter Try.func23, Try.ntmps23
  go_wp2
  refine cut3P (P := fun p q V => Hid (PG w w1 V K W H n p q (fun _ => 0))) (Φ := ?PH) (fun CUT => ?mn) ?rs
  case mn =>
    go_region
    · obtain ⟨p, hp⟩ : ∃ p, w.heap.size + 1 + 1 + 1 = p := ⟨_, rfl⟩
      obtain ⟨q, hq⟩ : ∃ q, w.heap.size + 1 + 1 = q := ⟨_, rfl⟩
      rw [hp, hq]
      obtain ⟨V, hV⟩ : ∃ V, ((w1.alloc (.cells (madeCells #[.int .i64 0] n) 3)).alloc (.cells #[.int .i64 K, .int .i64 W, .int .i64 H, .slice (some ⟨q, 0, none⟩) n n] 24)).drew = V := ⟨_, rfl⟩
      rw [hV]
      have T8 := hide' (show PG w w1 V K W H n p q (fun _ => 0) from by
        rw [← hV]
        exact ⟨fun k hk => drew_keep ((Below.heap_alloc _ _ _ (by simp; omega)).trans (Below.heap_alloc _ _ _ (by omega))), drew_block (heap_atX _ _ _ (by simp; omega)), drew_block ((Below.heap_alloc _ _ _ (by simp; omega)).trans (by rw [made_arr]; exact heap_atX _ _ _ (by omega))), by omega, by omega, by omega, ((BH.out.alloc (by omega) _).alloc (by simp; omega) _).drew⟩)
      exact CUT _ _ _ T8
    · obtain ⟨q, hp⟩ : ∃ p, w.heap.size + 1 + 1 + 1 = p := ⟨_, rfl⟩
      obtain ⟨p, hq⟩ : ∃ q, w.heap.size + 1 + 1 = q := ⟨_, rfl⟩
      rw [hp, hq]
      obtain ⟨V, hV⟩ : ∃ V, ((w1.alloc (.cells #[.int .i64 K, .int .i64 W, .int .i64 H, .slice (some ⟨q, 0, none⟩) n n] 24)).alloc (.cells (madeCells #[.int .i64 0] n) 3)).drew = V := ⟨_, rfl⟩
      rw [hV]
      have T8 := hide' (show PG w w1 V K W H n p q (fun _ => 0) from by
        rw [← hV]
        exact ⟨fun k hk => drew_keep ((Below.heap_alloc _ _ _ (by simp; omega)).trans (Below.heap_alloc _ _ _ (by omega))), drew_block ((Below.heap_alloc _ _ _ (by simp; omega)).trans (heap_atX _ _ _ (by omega))), drew_block (by rw [made_arr]; exact heap_atX _ _ _ (by simp; omega)), by omega, by omega, by omega, ((BH.out.alloc (by omega) _).alloc (by simp; omega) _).drew⟩)
      exact CUT _ _ _ T8
  case rs =>
    intro p q V T8
    clear hmk hw1 c0 c1 c2
    have v3 := cell_of_row V _ 3 _ _ _ T8.out.pat
    simp at v3
    go_wp2
    clear v3
    go_loopw [20] (fun iv wr => ∃ (i : Nat), iv = .int .i64 (i : Int) ∧ i ≤ n ∧ Hid (PG w w1 wr K W H n p q (fun k => if k < i then f k else 0))) (fun iv _ => n - (intOf iv).toNat)
    case atStart => exact ⟨0, rfl, by omega, hide' (T8.out.ext (fun k _ => by simp))⟩
    case round =>
      obtain ⟨i, rfl, hi, H1⟩ := hrel
      obtain ⟨U, rfl⟩ : ∃ U, U = wr := ⟨_, rfl⟩
      by_cases d2 : (i : Int) < (n : Int)
      · have il : i < n := by omega
        have cc := (HC.out.block (H1.out.keep gc (by have := HL.out; omega))).cell il
        have q3 := cell_of_row U _ 3 _ _ _ H1.out.pat
        simp at q3
        have co : U.cell? ⟨q, i, none⟩ = some (.int .i64 0) := by rw [cell_of_row U _ _ _ _ _ H1.out.out, arrF_get _ (by omega), if_neg (by omega)]; rfl
        have fo := frozen_of_row U _ i _ _ H1.out.out
        have lo := lt_of_block H1.out.out
        have NX := hide' ((H1.out.set (by omega) i (f i)).ext (fun k _ => pre_next f i k))
        have x63 := HF.out i
        obtain ⟨x, hx⟩ : ∃ x, f i = x := ⟨_, rfl⟩
        rw [hx] at cc x63 NX
        clear hx
        go_wp2
        exact ⟨⟨i + 1, by go_num, by omega, NX⟩, by simp [intOf]; omega⟩
      · have ni : i = n := by omega
        have HE := hide' (H1.out.ext (f' := f) (fun k hk => if_pos (by omega)))
        have e1 := (HE.out.keep (w.heap.size + 1) (by omega)).trans G1.out
        have r0 := cell_of_row U _ 0 _ _ _ e1
        have r1 := cell_of_row U _ 1 _ _ _ e1
        have r2 := cell_of_row U _ 2 _ _ _ e1
        have r3 := cell_of_row U _ 3 _ _ _ e1
        have f0 := frozen_of_row U _ 0 _ _ e1
        have f1 := frozen_of_row U _ 1 _ _ e1
        have f2 := frozen_of_row U _ 2 _ _ e1
        have f3 := frozen_of_row U _ 3 _ _ e1
        have l1 := lt_of_block e1
        have k0 := cell_of_row U _ 0 _ _ _ HE.out.pat
        have k1 := cell_of_row U _ 1 _ _ _ HE.out.pat
        have k2 := cell_of_row U _ 2 _ _ _ HE.out.pat
        have k3 := cell_of_row U _ 3 _ _ _ HE.out.pat
        simp at r0 r1 r2 r3 k0 k1 k2 k3
        clear e1 ni
        go_wp2
        refine bodyPost_ret (v := .agg #[.int .i64 K, .int .i64 W, .int .i64 H, .slice (some ⟨q, 0, none⟩) n n]) (by simp [results, Try.results23, go_sem, r0, r1, r2, r3]) rfl ?_
        refine ⟨q, rfl, by have := HE.out.ql; omega, ⟨by simp, by unfold maxLen; omega, fun k hk => ⟨q, 0, rfl, ?_, ?_⟩⟩, (((HE.out.below.setCell (by simp) _).setCell (by simp) _).setCell (by simp) _).setCell (by simp) _⟩
        · simp only [World.size_setCell]; exact lt_of_block HE.out.out
        · have hk' : k < n := by simpa using hk
          have hb : ((((U.setCell ⟨w.heap.size + 1, 0, none⟩ (.int .i64 K)).setCell ⟨w.heap.size + 1, 1, none⟩ (.int .i64 W)).setCell ⟨w.heap.size + 1, 2, none⟩ (.int .i64 H)).setCell ⟨w.heap.size + 1, 3, none⟩ (.slice (some ⟨q, 0, none⟩) n n)).heap[q]? = some (.cells (arrF n (fun k => .int .i64 (f k : Int))) 3 (0, 0)) := by
            have := HE.out.ql
            rw [Below.heap_setCell _ _ _ _ (by simp; omega), Below.heap_setCell _ _ _ _ (by simp; omega), Below.heap_setCell _ _ _ _ (by simp; omega), Below.heap_setCell _ _ _ _ (by simp; omega)]
            exact HE.out.out
          rw [Nat.zero_add, cell_of_row _ _ _ _ _ _ hb, arrF_get _ hk']
          simp
end Go.Proofs.Ytbkllhlapdmlfaa

namespace Go.Proofs.Ytbkllhlapdmlfaa
open Go.RowKit
set_option linter.unusedVariables false
/-- A cell's number, each bit so many further. -/
def tnG (K b c : Nat) : Nat := c % 2 ^ (K - b) * 2 ^ b + c / 2 ^ (K - b)
theorem tn_43 : ∀ c : Fin 16, bits .and .u8 (bits .or .u8 ((c.val : Int) * 8) ((c.val : Int) / 2)) 15 = (tnG 4 3 c.val : Int) := by decide +kernel
set_option maxRecDepth 100000 in
theorem turned_43 (c : Nat) (w : World) (hc : c < 16) : Calls Try.prog 26 #[.int .u8 (c : Int), .int .i64 3, .int .i64 4] w fun e w' => e = .returned (.int .u8 (tnG 4 3 c : Int)) ∧ w' = w.drew := by
  have F := hide' (tn_43 ⟨c, hc⟩)
  go_enter Try.func26, Try.ntmps26
  go_wp2
  go_big_region
  go_wp2
  go_ret
  rw [show (tnG 4 3 c : Int) = _ from F.out.symm]
  exact ⟨rfl, rfl⟩
theorem tn_41 : ∀ c : Fin 16, bits .and .u8 (bits .or .u8 ((c.val : Int) * 2) ((c.val : Int) / 8)) 15 = (tnG 4 1 c.val : Int) := by decide +kernel
set_option maxRecDepth 100000 in
theorem turned_41 (c : Nat) (w : World) (hc : c < 16) : Calls Try.prog 26 #[.int .u8 (c : Int), .int .i64 1, .int .i64 4] w fun e w' => e = .returned (.int .u8 (tnG 4 1 c : Int)) ∧ w' = w.drew := by
  have F := hide' (tn_41 ⟨c, hc⟩)
  go_enter Try.func26, Try.ntmps26
  go_wp2
  go_big_region
  go_wp2
  go_ret
  rw [show (tnG 4 1 c : Int) = _ from F.out.symm]
  exact ⟨rfl, rfl⟩
theorem tn_42 : ∀ c : Fin 16, bits .and .u8 (bits .or .u8 ((c.val : Int) * 4) ((c.val : Int) / 4)) 15 = (tnG 4 2 c.val : Int) := by decide +kernel
set_option maxRecDepth 100000 in
theorem turned_42 (c : Nat) (w : World) (hc : c < 16) : Calls Try.prog 26 #[.int .u8 (c : Int), .int .i64 2, .int .i64 4] w fun e w' => e = .returned (.int .u8 (tnG 4 2 c : Int)) ∧ w' = w.drew := by
  have F := hide' (tn_42 ⟨c, hc⟩)
  go_enter Try.func26, Try.ntmps26
  go_wp2
  go_big_region
  go_wp2
  go_ret
  rw [show (tnG 4 2 c : Int) = _ from F.out.symm]
  exact ⟨rfl, rfl⟩
theorem tn_65 : ∀ c : Fin 64, bits .and .u8 (bits .or .u8 ((c.val : Int) * 32 % 256) ((c.val : Int) / 2)) 63 = (tnG 6 5 c.val : Int) := by decide +kernel
set_option maxRecDepth 100000 in
theorem turned_65 (c : Nat) (w : World) (hc : c < 64) : Calls Try.prog 26 #[.int .u8 (c : Int), .int .i64 5, .int .i64 6] w fun e w' => e = .returned (.int .u8 (tnG 6 5 c : Int)) ∧ w' = w.drew := by
  have F := hide' (tn_65 ⟨c, hc⟩)
  go_enter Try.func26, Try.ntmps26
  go_wp2
  go_big_region
  go_wp2
  go_ret
  rw [show (tnG 6 5 c : Int) = _ from F.out.symm]
  exact ⟨rfl, rfl⟩
theorem tn_61 : ∀ c : Fin 64, bits .and .u8 (bits .or .u8 ((c.val : Int) * 2) ((c.val : Int) / 32)) 63 = (tnG 6 1 c.val : Int) := by decide +kernel
set_option maxRecDepth 100000 in
theorem turned_61 (c : Nat) (w : World) (hc : c < 64) : Calls Try.prog 26 #[.int .u8 (c : Int), .int .i64 1, .int .i64 6] w fun e w' => e = .returned (.int .u8 (tnG 6 1 c : Int)) ∧ w' = w.drew := by
  have F := hide' (tn_61 ⟨c, hc⟩)
  go_enter Try.func26, Try.ntmps26
  go_wp2
  go_big_region
  go_wp2
  go_ret
  rw [show (tnG 6 1 c : Int) = _ from F.out.symm]
  exact ⟨rfl, rfl⟩
theorem tn_63 : ∀ c : Fin 64, bits .and .u8 (bits .or .u8 ((c.val : Int) * 8 % 256) ((c.val : Int) / 8)) 63 = (tnG 6 3 c.val : Int) := by decide +kernel
set_option maxRecDepth 100000 in
theorem turned_63 (c : Nat) (w : World) (hc : c < 64) : Calls Try.prog 26 #[.int .u8 (c : Int), .int .i64 3, .int .i64 6] w fun e w' => e = .returned (.int .u8 (tnG 6 3 c : Int)) ∧ w' = w.drew := by
  have F := hide' (tn_63 ⟨c, hc⟩)
  go_enter Try.func26, Try.ntmps26
  go_wp2
  go_big_region
  go_wp2
  go_ret
  rw [show (tnG 6 3 c : Int) = _ from F.out.symm]
  exact ⟨rfl, rfl⟩
end Go.Proofs.Ytbkllhlapdmlfaa

