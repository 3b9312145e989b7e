/-
  What the last text of this claim leans on, part 12: Gr5, Gr6.
-/
import Derived.Test.YtdbgdfodoceadaaDoorZa11
namespace Go.Proofs.YtdbgdfodoceadaaDoor
open Go.RowKit
set_option linter.unusedVariables false
/-- What lives, as it lies: the sheet's words, then its sides and where it is. -/
def grF (X : Nat → Nat) (W H r d : Int) (k : Nat) : Value := if k < 204 then uF X k else if k = 204 then .int .i64 W else if k = 205 then .int .i64 H else if k = 206 then .int .i64 r else .int .i64 d
def bxX (X : Nat → Nat) (F f H k : Nat) : Nat := if k / 2 < H then (if k % 2 = 0 then lft0 (X ((F + k / 2) * 2)) (X ((F + k / 2) * 2 + 1)) f else lft1 (X ((F + k / 2) * 2 + 1)) f) else 0
theorem zero_grown : Tryd.zeroCells89 = arrF 208 (grF (fun _ => 0) 0 0 0 0) := by kernel_rfl
theorem zero_sheet : Tryd.zeroCells87 = arrF 204 (uF fun _ => 0) := by kernel_rfl
theorem grF_all (X : Nat → Nat) (W H r d : Int) : (arrF 208 (grF X W H r d)).all (·.oneCell') = true := arrF_all _ _ (fun k _ => by
  unfold grF uF
  split
  · rfl
  · split
    · rfl
    · split
      · rfl
      · split <;> rfl)
set_option maxRecDepth 100000 in
set_option maxHeartbeats 12800000 in
theorem boxed_none (X : Nat → Nat) (R D : Int) (w : World) (hX : ∀ k, k < 204 → X k < 18446744073709551616) (hT : TzTab w) (h0 : endsF (orA X 0 102) (orA X 1 102) = endsE (orA X 0 102) (orA X 1 102)) (h1 : livF X 102 = livT X 102) :
    Calls Tryd.prog 80 #[.agg (arrF 204 (uF X)), .int .i64 R, .int .i64 D] w fun e w' => e = .returned (.agg Tryd.zeroCells89) ∧ Below w.heap.size w w' := by
  obtain ⟨w1, hw1⟩ : ∃ w1, (w.alloc (.cells (arrF 204 (uF X)) 87)).alloc (.cells Tryd.zeroCells89 89) = w1 := ⟨_, rfl⟩
  have BB := hide' (show Below w.heap.size w w1 by rw [← hw1]; exact ((Below.refl _ _).alloc (Nat.le_refl _) _).alloc (by simp) _)
  have g0 : w1.heap[w.heap.size]? = some (.cells (arrF 204 (uF X)) 87 (0, 0)) := by rw [← hw1, Below.heap_alloc _ _ _ (by simp)]; exact heap_alloc_new _ _
  have g1 : w1.heap[w.heap.size + 1]? = some (.cells Tryd.zeroCells89 89 (0, 0)) := by rw [← hw1]; exact heap_atX _ _ _ (by simp)
  have LV1 := hide' (living_any X w.heap.size w1 hX g0 (hT.below BB.out))
  have G1 := hide' g1
  rw [← h0, ← h1] at LV1
  obtain ⟨f, hf⟩ : ∃ f, endsF (orA X 0 102) (orA X 1 102) = f := ⟨_, rfl⟩
  obtain ⟨l, hl⟩ : ∃ l, livF X 102 = l := ⟨_, rfl⟩
  rw [hf, hl] at LV1
  have q := fun w => corner_eq (f : Int) (l : Int) (f : Int) (l : Int) w
  simp at q
  obtain ⟨A, hA⟩ : ∃ A, arrF 204 (uF X) = A := ⟨_, rfl⟩
  rw [hA] at hw1 ⊢
  clear hf hl h0 h1 hA g0 g1 hX hT
  go_enter Tryd.func80, Tryd.ntmps80
  go_wp2_with fail
  refine LV1.out.mono ?_
  rintro e w2 ⟨rfl, b2⟩
  obtain ⟨w3, hw3⟩ : ∃ w3, (w2.alloc (.cells #[.int .i64 (f : Int), .int .i64 (l : Int)] 189)).alloc (.cells #[.int .i64 (f : Int), .int .i64 (l : Int)] 189) = w3 := ⟨_, rfl⟩
  have C3 : Below w1.heap.size w1 w3 := by rw [← hw3]; exact (b2.alloc b2.size _).alloc (Nat.le_trans b2.size (by simp)) _
  have g3 := (C3.block _ (lt_of_block G1.out)).trans G1.out
  have B3 := hide' (BB.out.trans (C3.mono BB.out.size))
  have k0 : w3.heap[w2.heap.size]? = some (.cells #[.int .i64 (f : Int), .int .i64 (l : Int)] 189 (0, 0)) := by rw [← hw3, Below.heap_alloc _ _ _ (by simp)]; exact heap_alloc_new _ _
  have k1 : w3.heap[w2.heap.size + 1]? = some (.cells #[.int .i64 (f : Int), .int .i64 (l : Int)] 189 (0, 0)) := by rw [← hw3]; exact heap_atX _ _ _ (by simp)
  have m0 := cell_of_row w3 _ 0 _ _ _ k0
  have m1 := cell_of_row w3 _ 1 _ _ _ k0
  have m2 := cell_of_row w3 _ 0 _ _ _ k1
  have m3 := cell_of_row w3 _ 1 _ _ _ k1
  simp at m0 m1 m2 m3
  clear b2 C3 hw1 k0 k1
  go_wp2_with (first | (refine wpList_store_row rfl 89 _ _ rfl (w.heap.size + 1) Tryd.zeroCells89 rfl rfl 89 _ g3 (by kernel_rfl) rfl (by rw [zero_grown]; exact grF_all ..) ?_))
  refine bodyPost_ret (v := .agg Tryd.zeroCells89) (results_cell_row Tryd.results80 _ _ (w.heap.size + 1) 89 _ (0, 0) _ rfl (setRow_heap _ _ _ _ _ _ g3) Tryd.underlying89 rfl (by kernel_rfl)) rfl ?_
  exact ⟨rfl, below_setRow B3.out (by omega) _⟩

theorem grown_set (a b c d : Int) : (((Tryd.zeroCells89.setIfInBounds 204 (.int .i64 a)).setIfInBounds 205 (.int .i64 b)).setIfInBounds 206 (.int .i64 c)).setIfInBounds 207 (.int .i64 d) = arrF 208 (grF (fun _ => 0) a b c d) := by
  rw [zero_grown, arrF_set, arrF_set, arrF_set, arrF_set]
  refine arrF_ext fun k hk => ?_
  unfold grF
  by_cases h1 : k = 207
  · subst h1; rfl
  · by_cases h2 : k = 206
    · subst h2; rfl
    · by_cases h3 : k = 205
      · subst h3; rfl
      · by_cases h4 : k = 204
        · subst h4; rfl
        · rw [if_neg h1, if_neg h2, if_neg h3, if_neg h4]
          have h5 : k < 204 := by omega
          rw [if_pos h5, if_pos h5]
/-- What lies there while the rows are moved. -/
structure BX (w w4 wr : World) (p : Nat) (G : Nat → Value) : Prop where
  keep : ∀ k, k < w4.heap.size → k ≠ p → wr.heap[k]? = w4.heap[k]?
  out : wr.heap[p]? = some (.cells (arrF 208 G) 89 (0, 0))
  below : Below w.heap.size w wr
  size : w4.heap.size ≤ wr.heap.size
theorem BX.next {w w4 wr w' : World} {p : Nat} {G : Nat → Value} (h : BX w w4 wr p G) (b : Below wr.heap.size wr w') : BX w w4 w' p G :=
  ⟨fun k hk hn => (b.block k (Nat.lt_of_lt_of_le hk h.size)).trans (h.keep k hk hn), (b.block _ (lt_of_block h.out)).trans h.out, h.below.trans (b.mono h.below.size), Nat.le_trans h.size b.size⟩
theorem BX.set {w w4 wr : World} {p : Nat} {G : Nat → Value} (h : BX w w4 wr p G) (hp : w.heap.size ≤ p) (i : Nat) (v : Value) : BX w w4 (wr.setCell ⟨p, i, none⟩ v) p (fun k => if k = i then v else G k) :=
  ⟨fun k hk hn => (Below.heap_setCell _ _ _ _ hn).trans (h.keep k hk hn), by rw [heap_setCell_same _ _ _ _ _ _ h.out, arrF_set], h.below.setCell hp _, by rw [World.size_setCell]; exact h.size⟩
theorem BX.ext {w w4 wr : World} {p : Nat} {G G' : Nat → Value} (h : BX w w4 wr p G) (e : ∀ k, k < 208 → G k = G' k) : BX w w4 wr p G' := ⟨h.keep, by rw [← arrF_ext e]; exact h.out, h.below, h.size⟩
theorem bx_step (X : Nat → Nat) (F f y : Nat) (W H r d : Int) (hy : y < 102) (k : Nat) (hk : k < 208) :
    (fun k => if k = y * 2 + 1 then Value.int .u64 ((lft1 (X ((F + y) * 2 + 1)) f : Nat) : Int) else (fun k => if k = y * 2 then Value.int .u64 ((lft0 (X ((F + y) * 2)) (X ((F + y) * 2 + 1)) f : Nat) : Int) else grF (bxX X F f y) W H r d k) k) k = grF (bxX X F f (y + 1)) W H r d k := by
  dsimp only
  by_cases h1 : k = y * 2 + 1
  · subst h1
    rw [if_pos rfl]
    unfold grF uF bxX
    rw [if_pos (by omega), if_pos (by omega), if_neg (by omega), show (y * 2 + 1) / 2 = y by omega]
  · rw [if_neg h1]
    by_cases h2 : k = y * 2
    · subst h2
      rw [if_pos rfl]
      unfold grF uF bxX
      rw [if_pos (by omega), if_pos (by omega), if_pos (by omega), show (y * 2) / 2 = y by omega]
    · rw [if_neg h2]
      unfold grF
      by_cases h3 : k < 204
      · rw [if_pos h3, if_pos h3]
        unfold uF bxX
        by_cases h4 : k / 2 < y
        · have h5 : k / 2 < y + 1 := by omega
          rw [if_pos h4, if_pos h5]
        · have h5 : ¬ k / 2 < y + 1 := by omega
          rw [if_neg h4, if_neg h5]
      · rw [if_neg h3, if_neg h3]
theorem wpList_build_is {P : Program} {ops : Array Oper} {rest : List Oper} {o : Oper} {a : Act} {w : World} {Q : Exit → Act → World → Prop} (hg : o.guard = none) (t : TypeId) (parts : Array (Nat × Operand)) (ho : o.op = .build t parts)
    (cells : Array Value) (hf : P.built t (parts.map fun (i, x) => (i, a.eval x)).toList = some cells) (h : wpList P ops Q rest (a.put o.dst (.agg cells)) w) : wpList P ops Q (o :: rest) a w := by
  refine wpList_build hg t parts ho (by rw [hf]; rfl) ?_
  rw [hf]
  exact h
end Go.Proofs.YtdbgdfodoceadaaDoor

namespace Go.Proofs.YtdbgdfodoceadaaDoor
open Go.RowKit
set_option linter.unusedVariables false
theorem wrap_natP (n : Nat) (h : n ≤ 1000000) : IntKind.i64.wrap (n : Int) = (n : Int) := by simp [IntKind.wrap, IntKind.bits, IntKind.signed]; omega
set_option maxRecDepth 100000 in
set_option maxHeartbeats 12800000 in
theorem boxed_some (X : Nat → Nat) (F T f e : Nat) (R D : Int) (w : World) (hX : ∀ k, k < 204 → X k < 18446744073709551616) (hT : TzTab w) (h1 : endsF (orA X 0 102) (orA X 1 102) = f) (h2 : endsE (orA X 0 102) (orA X 1 102) = e) (h3 : livF X 102 = F) (h4 : livT X 102 = T) (fe : f < e) (e128 : e ≤ 128) (FT : F < T) (T102 : T ≤ 102) (R1 : -1000000000 ≤ R) (R2 : R ≤ 1000000000) (D1 : -1000000000 ≤ D) (D2 : D ≤ 1000000000) :
    Calls Tryd.prog 80 #[.agg (arrF 204 (uF X)), .int .i64 R, .int .i64 D] w fun en w' => en = .returned (.agg (arrF 208 (grF (bxX X F f (T - F)) ((e : Int) - (f : Int)) ((T : Int) - (F : Int)) (R + (f : Int)) (D + (F : Int))))) ∧ Below w.heap.size w w' := by
  obtain ⟨w1, hw1⟩ : ∃ w1, (w.alloc (.cells (arrF 204 (uF X)) 87)).alloc (.cells Tryd.zeroCells89 89) = w1 := ⟨_, rfl⟩
  have BB := hide' (show Below w.heap.size w w1 by rw [← hw1]; exact ((Below.refl _ _).alloc (Nat.le_refl _) _).alloc (by simp) _)
  have g0 : w1.heap[w.heap.size]? = some (.cells (arrF 204 (uF X)) 87 (0, 0)) := by rw [← hw1, Below.heap_alloc _ _ _ (by simp)]; exact heap_alloc_new _ _
  have g1 : w1.heap[w.heap.size + 1]? = some (.cells Tryd.zeroCells89 89 (0, 0)) := by rw [← hw1]; exact heap_atX _ _ _ (by simp)
  have LV1 := hide' (living_any X w.heap.size w1 hX g0 (hT.below BB.out))
  have G0 := hide' g0
  have G1 := hide' g1
  have HX := hide' hX
  rw [h1, h2, h3, h4] at LV1
  have q := fun w => corner_eq (f : Int) (F : Int) (e : Int) (T : Int) w
  have qb : ((f : Int) == (e : Int) && (F : Int) == (T : Int)) = false := by rw [Bool.and_eq_false_iff]; left; simp; omega
  rw [qb] at q
  obtain ⟨A, hA⟩ : ∃ A, arrF 204 (uF X) = A := ⟨_, rfl⟩
  have HA := hide' hA
  rw [hA] at hw1 ⊢
  obtain ⟨Hn, hHn⟩ : ∃ h : Nat, T - F = h := ⟨_, rfl⟩
  rw [hHn]
  have hs1 : (T : Int) - (F : Int) = (Hn : Int) := by omega
  have HL : F + Hn ≤ 102 := by omega
  rw [hs1]
  obtain ⟨Wn, hWn⟩ : ∃ h : Nat, (e : Int) - (f : Int) = (h : Int) := ⟨e - f, by omega⟩
  rw [hWn]
  have f128 : f < 128 := by omega
  clear h1 h2 h3 h4 hA g0 g1 hX hT hHn qb
  go_enter Tryd.func80, Tryd.ntmps80
  go_wp2_with fail
  refine LV1.out.mono ?_
  rintro e' w2 ⟨rfl, b2⟩
  obtain ⟨w3, hw3⟩ : ∃ w3, (w2.alloc (.cells #[.int .i64 (f : Int), .int .i64 (F : Int)] 189)).alloc (.cells #[.int .i64 (e : Int), .int .i64 (T : Int)] 189) = w3 := ⟨_, rfl⟩
  have C3 : Below w1.heap.size w1 w3 := by rw [← hw3]; exact (b2.alloc b2.size _).alloc (Nat.le_trans b2.size (by simp)) _
  have k0 : w3.heap[w2.heap.size]? = some (.cells #[.int .i64 (f : Int), .int .i64 (F : Int)] 189 (0, 0)) := by rw [← hw3, Below.heap_alloc _ _ _ (by simp)]; exact heap_alloc_new _ _
  have k1 : w3.heap[w2.heap.size + 1]? = some (.cells #[.int .i64 (e : Int), .int .i64 (T : Int)] 189 (0, 0)) := by rw [← hw3]; exact heap_atX _ _ _ (by simp)
  have m0 := cell_of_row w3 _ 0 _ _ _ k0
  have m1 := cell_of_row w3 _ 1 _ _ _ k0
  have m2 := cell_of_row w3 _ 0 _ _ _ k1
  have m3 := cell_of_row w3 _ 1 _ _ _ k1
  simp at m0 m1 m2 m3
  obtain ⟨p, hp⟩ : ∃ p, w3.heap.size = p := ⟨_, rfl⟩
  obtain ⟨w4, hw4⟩ : ∃ w4, (w3.alloc (.cells Tryd.zeroCells89 89)).setRow p (arrF 208 (grF (fun _ => 0) (Wn : Int) (Hn : Int) (R + (f : Int)) (D + (F : Int)))) = w4 := ⟨_, rfl⟩
  have hz : (w3.alloc (.cells Tryd.zeroCells89 89)).heap[p]? = some (.cells Tryd.zeroCells89 89 (0, 0)) := by rw [← hp]; exact heap_alloc_new _ _
  have s3 := C3.size
  have B4 : Below w1.heap.size w1 w4 := by rw [← hw4]; exact below_setRow (C3.alloc C3.size _) (by omega) _
  have S4 : w4.heap.size = p + 1 := by rw [← hw4, setRow_size, ← hp]; simp
  have p4 : w4.heap[p]? = some (.cells (arrF 208 (grF (fun _ => 0) (Wn : Int) (Hn : Int) (R + (f : Int)) (D + (F : Int)))) 89 (0, 0)) := by rw [← hw4]; exact setRow_heap _ _ _ _ _ _ hz
  have K4 := hide' (show w4.heap[w2.heap.size]? = some (.cells #[.int .i64 (f : Int), .int .i64 (F : Int)] 189 (0, 0)) by
    rw [← hw4, setRow_other _ _ _ _ (by have := lt_of_block k0; omega), Below.heap_alloc _ _ _ (lt_of_block k0)]; exact k0)
  have BW := hide' (BB.out.trans (B4.mono BB.out.size))
  have G04 := hide' ((B4.block _ (lt_of_block G0.out)).trans G0.out)
  have G14 := hide' ((B4.block _ (lt_of_block G1.out)).trans G1.out)
  have P4 := hide' p4
  have S4H := hide' S4
  have PL := hide' (show w.heap.size + 1 < p by have := lt_of_block G1.out; omega)
  have P2 := hide' (show w2.heap.size < p by rw [← hp]; exact lt_of_block k0)
  have X0 := hide' (show BX w w4 w4 p (grF (bxX X F f 0) (Wn : Int) (Hn : Int) (R + (f : Int)) (D + (F : Int))) from ⟨fun _ _ _ => rfl, by rw [arrF_ext (fun k _ => show grF (bxX X F f 0) (Wn : Int) (Hn : Int) (R + (f : Int)) (D + (F : Int)) k = grF (fun _ => 0) (Wn : Int) (Hn : Int) (R + (f : Int)) (D + (F : Int)) k by unfold grF uF bxX; simp)]; exact p4, BW.out, Nat.le_refl _⟩)
  have n4 := cell_of_row w4 p 205 _ _ _ p4
  rw [arrF_get _ (by omega)] at n4
  have n5 : w4.cell? ⟨p, 205, none⟩ = some (.int .i64 (Hn : Int)) := n4
  clear b2 C3 hw1 k0 k1 n4 p4 B4 S4 s3
  go_wp2_with (first
    | (refine wpList_build_is rfl 89 _ rfl ((((Tryd.zeroCells89.setIfInBounds 204 (.int .i64 (Wn : Int))).setIfInBounds 205 (.int .i64 (Hn : Int))).setIfInBounds 206 (.int .i64 (R + (f : Int)))).setIfInBounds 207 (.int .i64 (D + (F : Int)))) (by kernel_rfl) ?_; rw [grown_set])
    | (refine wpList_store_row rfl 89 _ _ rfl p (arrF 208 (grF (fun _ => 0) (Wn : Int) (Hn : Int) (R + (f : Int)) (D + (F : Int)))) rfl rfl 89 _ hz (by rw [arrF_size]; kernel_rfl) (by rw [zero_grown, arrF_size, arrF_size]) (grF_all ..) ?_; rw [hw4]))
  go_loopw [40] (fun iv wr => ∃ (y : Nat), iv = .int .i64 (y : Int) ∧ y ≤ Hn ∧ Hid (BX w w4 wr p (grF (bxX X F f y) (Wn : Int) (Hn : Int) (R + (f : Int)) (D + (F : Int))))) (fun iv _ => Hn - (intOf iv).toNat)
  case atStart => exact ⟨0, rfl, by omega, X0⟩
  case round =>
    obtain ⟨y, rfl, hy, HB⟩ := hrel
    by_cases d : (y : Int) < (Hn : Int)
    · obtain ⟨s, hs⟩ : ∃ s : Nat, F + y = s := ⟨_, rfl⟩
      have es : (F : Int) + (y : Int) = (s : Int) := by omega
      have sl : s < 102 := by omega
      have sli : (s : Int) < 102 := by omega
      have ew1 := wrap_natP s (by omega)
      have yli : (y : Int) < 102 := by omega
      obtain ⟨x0, hx0⟩ : ∃ x, X (s * 2) = x := ⟨_, rfl⟩
      obtain ⟨x1, hx1⟩ : ∃ x, X (s * 2 + 1) = x := ⟨_, rfl⟩
      have x0l : x0 < 18446744073709551616 := by rw [← hx0]; exact HX.out _ (by omega)
      have x1l : x1 < 18446744073709551616 := by rw [← hx1]; exact HX.out _ (by omega)
      have LC := hide' (fun w => left_any x0 x1 f w x0l x1l f128)
      obtain ⟨l0, hl0⟩ : ∃ x, lft0 x0 x1 f = x := ⟨_, rfl⟩
      obtain ⟨l1, hl1⟩ : ∃ x, lft1 x1 f = x := ⟨_, rfl⟩
      rw [hl0, hl1] at LC
      have uw : IntKind.u64.wrap (f : Int) = (f : Int) := by rw [IntKind.wrap_u64]; omega
      have SV := hide' (fun (V : World) (G : Nat → Value) (hV : BX w w4 V p G) => (show V.cell? ⟨w2.heap.size, 0, none⟩ = some (.int .i64 (f : Int)) ∧ V.cell? ⟨w2.heap.size, 1, none⟩ = some (.int .i64 (F : Int)) ∧ V.cell? ⟨w.heap.size, s * 2, none⟩ = some (.int .u64 (x0 : Int)) ∧ V.cell? ⟨w.heap.size, s * 2 + 1, none⟩ = some (.int .u64 (x1 : Int)) from by
        have e1 := (hV.keep _ (lt_of_block K4.out) (by have := P2.out; omega)).trans K4.out
        have e2 := (hV.keep _ (lt_of_block G04.out) (by have := PL.out; omega)).trans G04.out
        exact ⟨cell_of_row V _ 0 _ _ _ e1, cell_of_row V _ 1 _ _ _ e1, by rw [cell_of_row V _ _ _ _ _ e2, arrF_get _ (by omega), uF, hx0], by rw [cell_of_row V _ _ _ _ _ e2, arrF_get _ (by omega), uF, hx1]⟩))
      have NX := hide' (fun (V : World) (hV : BX w w4 V p (grF (bxX X F f y) (Wn : Int) (Hn : Int) (R + (f : Int)) (D + (F : Int)))) => show BX w w4 ((V.setCell ⟨p, y * 2, none⟩ (.int .u64 (l0 : Int))).setCell ⟨p, y * 2 + 1, none⟩ (.int .u64 (l1 : Int))) p (grF (bxX X F f (y + 1)) (Wn : Int) (Hn : Int) (R + (f : Int)) (D + (F : Int))) from
        BX.ext ((hV.set (by have := PL.out; omega) (y * 2) _).set (by have := PL.out; omega) (y * 2 + 1) _) (fun k hk => by
          rw [← bx_step X F f y _ _ _ _ (by omega) k hk, hs, hx0, hx1, hl0, hl1]))
      have CP := hide' (fun (V : World) (G : Nat → Value) (hV : BX w w4 V p G) => (show V.cell? ⟨p, y * 2, none⟩ = some (G (y * 2)) ∧ V.cell? ⟨p, y * 2 + 1, none⟩ = some (G (y * 2 + 1)) ∧ V.frozen? ⟨p, y * 2, none⟩ = false ∧ V.frozen? ⟨p, y * 2 + 1, none⟩ = false from
        ⟨by rw [cell_of_row V _ _ _ _ _ hV.out, arrF_get _ (by omega)], by rw [cell_of_row V _ _ _ _ _ hV.out, arrF_get _ (by omega)], frozen_of_row V _ _ _ _ hV.out, frozen_of_row V _ _ _ _ hV.out⟩))
      clear hs hx0 hx1 hl0 hl1 x0l x1l
      go_wp2
      go_region_held3 (fun V => V.cell? ⟨w2.heap.size, 0, none⟩ = some (.int .i64 (f : Int)) ∧ V.cell? ⟨w2.heap.size, 1, none⟩ = some (.int .i64 (F : Int)) ∧ V.cell? ⟨w.heap.size, s * 2, none⟩ = some (.int .u64 (x0 : Int)) ∧ V.cell? ⟨w.heap.size, s * 2 + 1, none⟩ = some (.int .u64 (x1 : Int))) (first | exact SV.out _ _ H2.out | exact SV.out _ _ H1.out | exact SV.out _ _ ⟨HB.out.keep, HB.out.out, ⟨HB.out.below.os, HB.out.below.tape, HB.out.below.output, HB.out.below.size, HB.out.below.block⟩, HB.out.size⟩ | fail)
        (first
          | (go_at_call 104; refine (LC.out _).mono ?_; rintro e w' ⟨rfl, hb1⟩; have H1 := hide' (BX.next HB.out (show Below wr.heap.size wr w' from ⟨hb1.os, hb1.tape, hb1.output, hb1.size, hb1.block⟩)); obtain ⟨cz0, cz1, fz0, fz1⟩ := CP.out w' _ H1.out; have H2 := hide' (NX.out w' H1.out); clear hb1)
          | fail)
      go_wp2
      exact ⟨⟨y + 1, by go_num, by omega, H2⟩, by simp [intOf]; omega⟩
    · have yH : y = Hn := by omega
      have HF : BX w w4 wr p (grF (bxX X F f Hn) (Wn : Int) (Hn : Int) (R + (f : Int)) (D + (F : Int))) := by have := HB.out; rw [yH] at this; exact this
      have gp := HF.out
      have gb := (HF.keep _ (lt_of_block G14.out) (by have := PL.out; omega)).trans G14.out
      obtain ⟨Z, hZ⟩ : ∃ Z, arrF 208 (grF (bxX X F f Hn) (Wn : Int) (Hn : Int) (R + (f : Int)) (D + (F : Int))) = Z := ⟨_, rfl⟩
      have zs : Z.size = 208 := by rw [← hZ, arrF_size]
      have za : Z.all (·.oneCell') = true := by rw [← hZ]; exact grF_all ..
      have HZ := hide' hZ
      rw [hZ] at gp
      have BF := hide' HF.below
      clear yH HF hZ
      go_wp2_with (first
        | (refine wpList_load_row rfl 89 _ rfl p rfl 89 Z (0, 0) _ gp Tryd.underlying89 rfl (by rw [zs]; kernel_rfl) ?_)
        | (refine wpList_store_row rfl 89 _ _ rfl (w.heap.size + 1) Z rfl rfl 89 _ gb (by rw [zs]; kernel_rfl) (by rw [zs, zero_grown, arrF_size]) za ?_))
      refine bodyPost_ret (v := .agg Z) (results_cell_row Tryd.results80 _ _ (w.heap.size + 1) 89 _ (0, 0) _ rfl (setRow_heap _ _ _ _ _ _ gb) Tryd.underlying89 rfl (by rw [zs]; kernel_rfl)) rfl ?_
      exact ⟨by rw [HZ.out], below_setRow BF.out (by omega) _⟩
end Go.Proofs.YtdbgdfodoceadaaDoor

