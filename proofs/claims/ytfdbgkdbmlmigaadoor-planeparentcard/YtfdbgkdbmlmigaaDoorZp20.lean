/-
  What the last text of this claim leans on, part 20: Pq1, Gu1, Gt9, Gu2.
-/
import Derived.Test.YtfdbgkdbmlmigaaDoorZp19
import Derived.Test.YtfdbgkdbmlmigaaDoorZp8
namespace Go.Proofs.YtfdbgkdbmlmigaaDoor
open Go.RowKit
set_option linter.unusedVariables false
/-- What a parent must do. -/
def okC (born stay W : Nat) (xs : List Int) : (Nat → Nat) → Nat → Prop := okP born stay (W + 2) (fun i => xs.getD i 0)
def topC (W H : Nat) : Nat := (H + 2) * (W + 2)
/-- What Parent answers. -/
def PaOut (born stay W H : Nat) (xs : List Int) (w : World) (e : Ending) (w' : World) : Prop :=
  ((∃ rs ca cq, rs.length = H + 2 ∧ e = .returned (.tuple #[.agg #[.int .i64 ((W + 2 : Nat) : Int), .int .i64 ((H + 2 : Nat) : Int), .slice ca (topC W H) cq], .nilIface]) ∧ w'.ownsRow w.heap.size 3 1 (.slice ca (topC W H) cq) (topC W H) ((bitsL (W + 2) rs (topC W H)).map (Value.int .i64)) ∧ BestB (topC W H) (okC born stay W xs) (fun _ => 0) 0 (gR (W + 2) rs)) ∨
   (e = .returned (.tuple #[.agg #[.int .i64 0, .int .i64 0, .slice none 0 0], errOf 5]) ∧ NoneB (topC W H) (okC born stay W xs) (fun _ => 0) 0)) ∧ Below w.heap.size w w'
theorem own_weak {w : World} {base base' : Nat} {e : TypeId} {size n : Nat} {v : Value} {xs : List Value} (h : w.ownsRow base e size v n xs) (hb : base' ≤ base) : w.ownsRow base' e size v n xs := by
  refine ⟨h.1, ?_⟩
  rcases h.2 with h | ⟨g, cap, cur, e1, e2, e3⟩
  · exact Or.inl h
  · exact Or.inr ⟨g, cap, cur, e1, Nat.le_trans hb e2, e3⟩
theorem errOf_is5 {f : Nat} (h : f ≠ 0) : errOf f = .iface 45 (.int .i64 (f : Int)) := by unfold errOf; rw [if_neg h]
def mkC (o : Out) (born stay : Nat) (ta : Option Addr) (tn tc W H : Nat) (xs : List Int) (wa : Option Addr) (wc S0 : Nat) (V : World) : SeC :=
  { k := o.kind, st := o.states, ra := o.radius, born := born, stay := stay, ta := ta, tn := tn, tc := tc, s := o.turns, W2 := W + 2, H2 := H + 2, wa := wa, wn := H, wc := wc, wt := rowV W xs, pc := fun i => xs.getD i 0, sb := S0 + 3, mb := S0 + 2, Z := V.heap.size, B := S0, w0 := V }
theorem mkC_ok {o : Out} {born stay : Nat} {ta : Option Addr} {tn tc W H : Nat} {xs : List Int} {a : Option Addr} {n c : Nat} {wa : Option Addr} {wc : Nat} {w V : World} (h : NSt w V o.kind o.states o.radius born stay ta tn tc o.turns W H xs a n c H (.slice wa H wc)) (hb : born ≤ 511) (hs : stay ≤ 511) (W5 : W ≤ 5) (H5 : H ≤ 5) (hx : ∀ k, 0 ≤ xs.getD k 0 ∧ xs.getD k 0 ≤ 1) :
    SeOk (mkC o born stay ta tn tc W H xs wa wc w.heap.size V) ∧ FSt (mkC o born stay ta tn tc W H xs wa wc w.heap.size V) V 0 (.slice none 0 0) [] := by
  have sz := h.siz
  have bit : ∀ y x, x < W → (xs.getD (y * W + x) 0).toNat ≤ 1 := fun y x _ => by have := hx (y * W + x); omega
  have sm : ∀ y, rowV W xs y < 2 ^ W := fun y => valB_bound W (fun x hx => bit y x hx)
  have p5 : 2 ^ W ≤ 2 ^ 5 := Nat.pow_le_pow_right (by omega) W5
  refine ⟨⟨hb, hs, by show 2 ≤ W + 2; omega, by show W + 2 ≤ 7; omega, by show H + 2 ≤ 7; omega, by show w.heap.size + 3 < V.heap.size; omega, by show w.heap.size + 2 < V.heap.size; omega, by show w.heap.size + 3 ≠ w.heap.size + 2; omega, by show w.heap.size ≤ w.heap.size + 3; omega, by show w.heap.size ≤ w.heap.size + 2; omega, fun y hy => ?_, by show H + 2 ≤ H + 2; omega, fun y => by have := sm y; show rowV W xs y < 128; omega, fun y x hy hx' => ?_⟩, ⟨h.ser, World.ownsRow_nil _ _ _ _, ⟨.map [], ⟨#[], 0, h.map, ⟨by simp, MapKept.stamped_empty 0, by simp⟩, Nat.le_refl _, rfl⟩, Maps.isMap_empty, fun r a h _ _ _ q => by cases q⟩, fun j _ _ _ => rfl, Below.refl _ _, Nat.le_refl _⟩⟩
  · have hy' : y < H := by have : y + 2 < H + 2 := hy; omega
    rcases h.row.2 with ⟨e, h0⟩ | ⟨g, cap, cur, e, e2, e3, e4, e5, e6, e7⟩
    · omega
    · cases e
      refine ⟨g, rfl, lt_of_block e3, by show g ≠ w.heap.size + 3; omega, by show g ≠ w.heap.size + 2; omega, ?_⟩
      have e1 := congrArg (fun l => l[y]?) e7
      simp only [Nat.mul_one] at e1
      rw [List.getElem?_take_of_lt hy', Array.getElem?_toList] at e1
      show V.cell? ⟨g, y, none⟩ = some (.int .i64 (rowV W xs y : Int))
      rw [cell_of_row V _ y _ _ _ e3, e1]
      simp [hy']
  · have hx'' : x < W := hx'
    have := valB_bit (f := fun x => (xs.getD (y * W + x) 0).toNat) W x (fun j hj => bit y j hj) hx''
    show xs.getD (y * W + x) 0 = (bitN (rowV W xs y) (W + 2 - 3 - x) : Int)
    rw [show W + 2 - 3 - x = W - 1 - x by omega]
    unfold rowV
    rw [this]
    have := hx (y * W + x)
    omega
set_option maxRecDepth 100000 in
set_option maxHeartbeats 12800000 in
theorem planeParent_ok (o : Out) (ta : Option Addr) (tn tc : Nat) (W H : Nat) (xs : List Int) (a : Option Addr) (n c : Nat) (born stay : Nat) (w : World) (hR : ArgR w o ta tn tc) (hP : ArgP w xs a n c) (hcap : n ≤ c) (hcm : c ≤ maxLen) (hf : plaE o (W : Int) (H : Int) xs 0) (hb : o.born = (born : Int)) (hs : o.stay = (stay : Int)) (b5 : born ≤ 511) (s5 : stay ≤ 511) (hn : xs.length = W * H) (hx : ∀ k, 0 ≤ xs.getD k 0 ∧ xs.getD k 0 ≤ 1) (W5 : W ≤ 5) (H5 : H ≤ 5) :
    Calls Tryd.prog 6 #[.agg #[.int .i64 o.kind, .int .i64 o.born, .int .i64 o.stay, .int .i64 o.states, .int .i64 o.radius, .slice ta tn tc, .string o.turns], .agg #[.int .i64 (W : Int), .int .i64 (H : Int), .slice a n c]] w (PaOut born stay W H xs w) := by
  obtain ⟨w1, hw1⟩ : ∃ w1, ((w.alloc (.cells #[.int .i64 o.kind, .int .i64 (born : Int), .int .i64 (stay : Int), .int .i64 o.states, .int .i64 o.radius, .slice ta tn tc, .string o.turns] 24)).alloc (.cells #[.int .i64 (W : Int), .int .i64 (H : Int), .slice a n c] 26)).alloc (.cells #[.int .i64 0, .int .i64 0, .slice none 0 0] 26) = w1 := ⟨_, rfl⟩
  have B1 := hide' (show Below w.heap.size w w1 by rw [← hw1]; repeat (first | exact Below.refl _ _ | refine Below.alloc ?_ (by simp; try omega) _))
  have RR := hide' (show w1.heap[w.heap.size]? = some (.cells #[.int .i64 o.kind, .int .i64 (born : Int), .int .i64 (stay : Int), .int .i64 o.states, .int .i64 o.radius, .slice ta tn tc, .string o.turns] 24 (0, 0)) by rw [← hw1]; exact (heap_alloc_old _ _ (by simp; try omega)).trans ((heap_alloc_old (w.alloc _) _ (by simp)).trans (heap_alloc_new w _)))
  have RP := hide' (show w1.heap[w.heap.size + 1]? = some (.cells #[.int .i64 (W : Int), .int .i64 (H : Int), .slice a n c] 26 (0, 0)) by rw [← hw1]; exact (heap_alloc_old _ _ (by simp; try omega)).trans (heap_alloc2_new w _ _))
  have RZ := hide' (show w1.heap[w.heap.size + 2]? = some (.cells #[.int .i64 0, .int .i64 0, .slice none 0 0] 26 (0, 0)) by
    rw [← hw1]
    have := heap_alloc_new ((w.alloc (.cells #[.int .i64 o.kind, .int .i64 (born : Int), .int .i64 (stay : Int), .int .i64 o.states, .int .i64 o.radius, .slice ta tn tc, .string o.turns] 24)).alloc (.cells #[.int .i64 (W : Int), .int .i64 (H : Int), .slice a n c] 26)) (.cells #[.int .i64 0, .int .i64 0, .slice none 0 0] 26)
    simpa using this)
  have CK := hide' (planeCheck_any o ta tn tc (W : Int) (H : Int) xs a n c w1 (hR.below B1.out) (hP.below B1.out))
  have HPL := hide' (fun f (h : plaE o (W : Int) (H : Int) xs f) => plaE_only h hf)
  rw [hb, hs] at CK ⊢
  have NS := hide' (fun (V : World) (hV : Below w.heap.size w V) => newSearch_any o.kind o.states o.radius born stay ta tn tc o.turns W H xs a n c V (hP.below hV) hcap hcm hn hx W5 H5)
  have MK := hide' (fun (V V' : World) (wa : Option Addr) (wc : Nat) (h : NSt V V' o.kind o.states o.radius born stay ta tn tc o.turns W H xs a n c H (.slice wa H wc)) => mkC_ok h b5 s5 W5 H5 hx)
  have HW1 := hide' hw1
  have E5 := hide' (errOf_is5 (f := 5) (by omega))
  clear hR hP hcap hcm hf hb hs b5 s5 hn hx hw1
  have w5' : ¬ (5 : Int) < (W : Int) := by omega
  have h5' : ¬ (5 : Int) < (H : Int) := by omega
  go_enter Tryd.func6, Tryd.ntmps6
  go_upto_region 1 with fail
  rw [HW1.out]
  have r0 := cell_of_row w1 _ 0 _ _ _ RR.out
  have r1 := cell_of_row w1 _ 1 _ _ _ RR.out
  have r2 := cell_of_row w1 _ 2 _ _ _ RR.out
  have r3 := cell_of_row w1 _ 3 _ _ _ RR.out
  have r4 := cell_of_row w1 _ 4 _ _ _ RR.out
  have r5 := cell_of_row w1 _ 5 _ _ _ RR.out
  have r6 := cell_of_row w1 _ 6 _ _ _ RR.out
  have p0 := cell_of_row w1 _ 0 _ _ _ RP.out
  have p1 := cell_of_row w1 _ 1 _ _ _ RP.out
  have p2 := cell_of_row w1 _ 2 _ _ _ RP.out
  simp at r0 r1 r2 r3 r4 r5 r6 p0 p1 p2
  go_wp2_with fail
  refine CK.out.mono ?_
  rintro e w2 ⟨⟨f, hpf, rfl⟩, b2⟩
  obtain rfl := HPL.out f hpf
  rw [show errOf 0 = .nilIface from rfl]
  have B2 := hide' (B1.out.trans (b2.mono B1.out.size))
  have K2 := hide' (fun j (hj : j < w1.heap.size) => b2.block j hj)
  have S0 := cell_of_row w2 _ 0 _ _ _ ((K2.out _ (lt_of_block RR.out)).trans RR.out)
  have S1 := cell_of_row w2 _ 1 _ _ _ ((K2.out _ (lt_of_block RR.out)).trans RR.out)
  have S2 := cell_of_row w2 _ 2 _ _ _ ((K2.out _ (lt_of_block RR.out)).trans RR.out)
  have S3 := cell_of_row w2 _ 3 _ _ _ ((K2.out _ (lt_of_block RR.out)).trans RR.out)
  have S4 := cell_of_row w2 _ 4 _ _ _ ((K2.out _ (lt_of_block RR.out)).trans RR.out)
  have S5 := cell_of_row w2 _ 5 _ _ _ ((K2.out _ (lt_of_block RR.out)).trans RR.out)
  have S6 := cell_of_row w2 _ 6 _ _ _ ((K2.out _ (lt_of_block RR.out)).trans RR.out)
  have P0 := cell_of_row w2 _ 0 _ _ _ ((K2.out _ (lt_of_block RP.out)).trans RP.out)
  have P1 := cell_of_row w2 _ 1 _ _ _ ((K2.out _ (lt_of_block RP.out)).trans RP.out)
  have P2 := cell_of_row w2 _ 2 _ _ _ ((K2.out _ (lt_of_block RP.out)).trans RP.out)
  have Z2 := hide' ((K2.out _ (lt_of_block RZ.out)).trans RZ.out)
  simp at S0 S1 S2 S3 S4 S5 S6 P0 P1 P2
  clear r0 r1 r2 r3 r4 r5 r6 p0 p1 p2 hpf b2
  go_wp2_with fail
  refine (NS.out w2 B2.out).mono ?_
  rintro e w3 ⟨rfl, wv, hNS⟩
  obtain ⟨wa, wc, rfl⟩ := own_sl hNS.row
  obtain ⟨hC, hF⟩ := MK.out w2 w3 wa wc hNS
  have BN := hide' hNS.bel
  have FL := hide' (show Calls Tryd.prog 14 #[.pointer (some ⟨w2.heap.size + 3, 0, none⟩)] w3 (FillOut (mkC o born stay ta tn tc W H xs wa wc w2.heap.size w3) w3 0 (H + 2) (.slice none 0 0) []) from fill_any _ hC (H + 2) w3 0 _ [] (by show [].length + (H + 2) = H + 2; simp) hF (fun v hv => by cases hv) (by have := cF_le (H + 2) (by omega); omega))
  have HCC := hide' hC
  have Z3 := hide' ((BN.out.block _ (lt_of_block Z2.out)).trans Z2.out)
  have HSZ := hide' hNS.siz
  clear S0 S1 S2 S3 S4 S5 S6 P0 P1 P2 hNS hF hC
  obtain ⟨W2, hW2⟩ : ∃ W2, W + 2 = W2 := ⟨_, rfl⟩
  obtain ⟨H2, hH2⟩ : ∃ H2, H + 2 = H2 := ⟨_, rfl⟩
  have HWW := hide' hW2
  have HHH := hide' hH2
  obtain ⟨N, hN⟩ : ∃ N, topC W H = N := ⟨_, rfl⟩
  have HNN := hide' hN
  clear hW2 hH2 hN
  go_wp2_with fail
  refine FL.out.mono ?_
  rintro e w4 (⟨rv', rs', n', rfl, hF4, hl, hsm, hB⟩ | ⟨rv', n', rfl, hF4, -, -, hN⟩)
  · obtain ⟨ra', rq', rfl, -, -⟩ := hF4.slice
    have hl' : rs'.length = H + 2 := hl
    have PA := hide' (show Calls Tryd.prog 15 #[.pointer (some ⟨w2.heap.size + 3, 0, none⟩)] w4 (fun e w' => ∃ ca cq, e = .returned (.agg #[.int .i64 ((W + 2 : Nat) : Int), .int .i64 ((H + 2 : Nat) : Int), .slice ca (rs'.length * (W + 2)) cq]) ∧ w'.ownsRow (w4.heap.size + 2) 3 1 (.slice ca (rs'.length * (W + 2)) cq) (rs'.length * (W + 2)) ((bitsL (W + 2) rs' (rs'.length * (W + 2))).map (Value.int .i64)) ∧ Below w4.heap.size w4 w') from
      parent_any o.kind o.states o.radius born stay ta tn tc o.turns (W + 2) (H + 2) (.slice wa H wc) (.map (some (w2.heap.size + 2))) (w2.heap.size + 3) rs' ra' rs'.length rq' w4 hF4.ser hF4.rowL.1 rfl (by omega) (by omega) (by omega) (fun v hv => by
        have h1 : v < 2 ^ (W + 2) := hsm v hv
        have : 2 ^ (W + 2) ≤ 2 ^ 7 := Nat.pow_le_pow_right (by omega) (by omega)
        omega))
    rw [hl', show (H + 2) * (W + 2) = topC W H from rfl, HNN.out, HWW.out, HHH.out] at PA
    have BB := hide' (show BestB (topC W H) (okC born stay W xs) (fun _ => 0) 0 (gR (W + 2) rs') from by
      have h1 : BestB (topC W H) (okC born stay W xs) (gR (W + 2) []) 0 (gR (W + 2) rs') := by
        have h2 : BestB (topC W H) (okC born stay W xs) (gR (W + 2) []) (([] : List Nat).length * (W + 2)) (gR (W + 2) rs') := hB
        rw [show ([] : List Nat).length * (W + 2) = 0 by simp] at h2
        exact h2
      exact best_congr (fun i hi => by omega) h1)
    have B4 := hide' (show Below w2.heap.size w3 w4 from hF4.bel)
    have Z4 := hide' ((B4.out.block _ (lt_of_block Z2.out)).trans Z3.out)
    have HL := hide' hl'
    have S4 := hide' (show w3.heap.size ≤ w4.heap.size from hF4.siz)
    clear hF4 hl hsm hB hl'
    go_wp2_with fail
    refine PA.out.mono ?_
    rintro e w5 ⟨ca, cq, rfl, hO, b5⟩
    have Z5 := hide' ((b5.block _ (lt_of_block Z4.out)).trans Z4.out)
    have i0 := cell_of_row w5 _ 0 _ _ _ Z5.out
    have i1 := cell_of_row w5 _ 1 _ _ _ Z5.out
    have i2 := cell_of_row w5 _ 2 _ _ _ Z5.out
    simp at i0 i1 i2
    have j0 := frozen_of_row w5 _ 0 _ _ Z5.out
    have j1 := frozen_of_row w5 _ 1 _ _ Z5.out
    have j2 := frozen_of_row w5 _ 2 _ _ Z5.out
    have B5 := hide' (((B2.out.trans (BN.out.mono B2.out.size)).trans (B4.out.mono B2.out.size)).trans (b5.mono (Nat.le_trans B2.out.size (Nat.le_trans BN.out.size B4.out.size))))
    have OUT := hide' (fun (V : World) (hV : ∀ j, j ≠ w.heap.size + 2 → V.heap[j]? = w5.heap[j]?) => show V.ownsRow w.heap.size 3 1 (.slice ca N cq) N ((bitsL W2 rs' N).map (Value.int .i64)) from own_weak (own_keep hO (fun b e => hV b (fun q => by
      have h1 := (own_lt hO b e).1
      have h2 := lt_of_block Z4.out
      omega))) (by have := S4.out; have := B2.out.size; have := BN.out.size; omega))
    clear b5 hO
    go_wp2
    refine bodyPost_ret (v := .tuple #[.agg #[.int .i64 (W2 : Int), .int .i64 (H2 : Int), .slice ca N cq], .nilIface]) (by simp [results, Tryd.results6, go_sem, i0, i1, i2]) rfl ?_
    refine ⟨Or.inl ⟨rs', ca, cq, HL.out, ?_, ?_, BB.out⟩, ?_⟩
    · rw [HWW.out, HHH.out, HNN.out]
    · rw [HWW.out, HNN.out]
      exact OUT.out _ (fun j hj => by rw [Below.heap_setCell _ _ _ _ (by simpa using hj), Below.heap_setCell _ _ _ _ (by simpa using hj), Below.heap_setCell _ _ _ _ (by simpa using hj)])
    · repeat (first | exact B5.out | refine Below.setCell ?_ (by show w.heap.size ≤ w.heap.size + 2; omega) _)
  · have NN := hide' (show NoneB (topC W H) (okC born stay W xs) (fun _ => 0) 0 from by
      have h1 : NoneB (topC W H) (okC born stay W xs) (gR (W + 2) []) (([] : List Nat).length * (W + 2)) := hN
      rw [show ([] : List Nat).length * (W + 2) = 0 by simp] at h1
      exact none_congr (fun i hi => by omega) h1)
    have B4 := hide' (show Below w2.heap.size w3 w4 from hF4.bel)
    have Z4 := hide' ((B4.out.block _ (lt_of_block Z2.out)).trans Z3.out)
    have i0 := cell_of_row w4 _ 0 _ _ _ Z4.out
    have i1 := cell_of_row w4 _ 1 _ _ _ Z4.out
    have i2 := cell_of_row w4 _ 2 _ _ _ Z4.out
    simp at i0 i1 i2
    have j0 := frozen_of_row w4 _ 0 _ _ Z4.out
    have j1 := frozen_of_row w4 _ 1 _ _ Z4.out
    have j2 := frozen_of_row w4 _ 2 _ _ Z4.out
    have B5 := hide' ((B2.out.trans (BN.out.mono B2.out.size)).trans (B4.out.mono B2.out.size))
    clear hF4 hN
    go_wp2
    refine bodyPost_ret (v := .tuple #[.agg #[.int .i64 0, .int .i64 0, .slice none 0 0], .iface 45 (.int .i64 5)]) (by simp [results, Tryd.results6, go_sem, i0, i1, i2]) rfl ?_
    refine ⟨Or.inr ⟨by rw [E5.out]; rfl, NN.out⟩, ?_⟩
    repeat (first | exact B5.out | refine Below.setCell ?_ (by show w.heap.size ≤ w.heap.size + 2; omega) _)
end Go.Proofs.YtfdbgkdbmlmigaaDoor

namespace Go.Proofs.YtfdbgkdbmlmigaaDoor
open Go.RowKit
set_option linter.unusedVariables false
/-- What has come up is in its slot. -/
structure RP (B : Nat) (wc w0 : World) (a : Act) (w : World) (p b : Nat) (Z Zr : Array Value) (RV : Nat → Array Value) (tP : TypeId) (ob : Obj) (u d : Value) (l0 l1 l2 l3 l4 l5 l6 l7 l8 l9 : Bool) (q : Nat) : Prop where
  below : Below B wc w
  keep : ∀ k, k < w0.heap.size → k ≠ b → w.heap[k]? = w0.heap[k]?
  size : w0.heap.size ≤ w.heap.size
  rb : w.heap[b]? = some (.cells (if l6 then RV q else Zr) tP (0, 0))
  s6 : a.tmps[6]? = some (.pointer (some ⟨b, 0, none⟩))
  s11 : a.tmps[11]? = some (.pointer (some ⟨p, 0, none⟩))
  sz : a.tmps.size = 46
  df : a.defers = []
  d0 : l0 = true → a.tmps[40]? = some (.agg Z)
  d1 : l1 = true → a.tmps[41]? = some (.agg (RV q)) ∧ w0.heap.size ≤ q ∧ w.heap[q]? = some ob
  d2 : l2 = true → a.tmps[42]? = some (.pointer (some ⟨p, 206, none⟩))
  d3 : l3 = true → a.tmps[43]? = some u
  d4 : l4 = true → a.tmps[44]? = some (.pointer (some ⟨p, 207, none⟩))
  d5 : l5 = true → a.tmps[45]? = some d
  d7 : l7 = true → a.tmps[7]? = some u
  d8 : l8 = true → a.tmps[8]? = some d
  d9 : l9 = true → a.tmps[9]? = some .nilIface
  e6 : l6 = true → l1 = true
end Go.Proofs.YtfdbgkdbmlmigaaDoor

namespace Go.Proofs.YtfdbgkdbmlmigaaDoor
open Go.RowKit
set_option linter.unusedVariables false
end Go.Proofs.YtfdbgkdbmlmigaaDoor

namespace Go.Proofs.YtfdbgkdbmlmigaaDoor
open Go.RowKit
set_option linter.unusedVariables false
def TorBad (f : Nat) (w : World) (e : Ending) (w' : World) : Prop := e = .returned (.tuple #[.agg #[.int .i64 0, .int .i64 0, .slice none 0 0], errOf f]) ∧ Below w.heap.size w w'
/-- What lies there while the rings are gone round. -/
structure PY (w w2 wr : World) (W H : Nat) (n p q : Nat) (f : Nat → Value) : Prop where
  keep : ∀ k, k < w2.heap.size → wr.heap[k]? = w2.heap[k]?
  pat : wr.heap[p]? = some (.cells #[.int .i64 (W : Int), .int .i64 (H : Int), .slice (some ⟨q, 0, none⟩) n n] 26 (0, 0))
  out : wr.heap[q]? = some (.cells (arrF n f) 3 (0, 0))
  pl : w2.heap.size ≤ p
  ql : w2.heap.size ≤ q
  ne : p ≠ q
  below : Below w.heap.size w wr
theorem PY.set {w w2 wr : World} {W H n p q : Nat} {f : Nat → Value} (h : PY w w2 wr W H n p q f) (hb : w.heap.size ≤ w2.heap.size) (i : Nat) (v : Value) : PY w w2 (wr.setCell ⟨q, i, none⟩ v) W H n p q (fun k => if k = i then v else f k) :=
  ⟨fun k hk => (Below.heap_setCell _ _ _ _ (by have := h.ql; simp; omega)).trans (h.keep k hk), two_other h.pat _ _ _ h.ne, by rw [heap_setCell_same _ _ _ _ _ _ h.out, arrF_set], h.pl, h.ql, h.ne, h.below.setCell (by have := h.ql; simp; omega) _⟩
end Go.Proofs.YtfdbgkdbmlmigaaDoor

