/-
  What the last text of this claim leans on, part 7: Gr4, Ha2, Ha3.
-/
import Derived.Test.YtemhcpldflcfbaaGreatDoorYf6
import Derived.Test.YtemhcpldflcfbaaGreatDoorYf3
import Derived.Deep.RegionHeld3
import Derived.Maps.OwnSet
import Derived.Maps.OwnOps
import Derived.WideKeyArgs
import Derived.DeepKeys4
import Derived.Deep.AppendLies
import Derived.Deep.CutRange
namespace Go.Proofs.YtemhcpldflcfbaaGreatDoor
open Go.RowKit
set_option linter.unusedVariables false
theorem heap_atX (w : World) (o : Obj) (k : Nat) (h : k = w.heap.size) : (w.alloc o).heap[k]? = some o := by subst h; exact heap_alloc_new w o
set_option maxRecDepth 100000 in
set_option maxHeartbeats 12800000 in
theorem living_any (X : Nat → Nat) (g : Nat) (w : World) (hX : ∀ k, k < 204 → X k < 18446744073709551616) (hg : w.heap[g]? = some (.cells (arrF 204 (uF X)) 108 (0, 0))) (hT : TzTab w) :
  Calls Tryz.prog 101 #[.pointer (some ⟨g, 0, none⟩)] w fun e w' => e = .returned (.tuple #[.agg #[.int .i64 ((endsF (orA X 0 102) (orA X 1 102) : Nat) : Int), .int .i64 ((livF X 102 : Nat) : Int)], .agg #[.int .i64 ((endsE (orA X 0 102) (orA X 1 102) : Nat) : Int), .int .i64 ((livT X 102 : Nat) : Int)]]) ∧ Below w.heap.size w w' := by
 obtain ⟨w1, hw1⟩ : ∃ w1, ((w.alloc (.cells #[.int .i64 0, .int .i64 0] 193)).alloc (.cells #[.int .i64 0, .int .i64 0] 193)).alloc (.cells #[.int .u64 0, .int .u64 0] 106) = w1 := ⟨_, rfl⟩
 have glt := lt_of_block hg
 have L0 := hide' (show LV w w1 X 0 from ⟨by rw [← hw1]; repeat (first | exact Below.refl _ _ | refine Below.alloc ?_ (by simp; try omega) _),
  by rw [← hw1, Below.heap_alloc _ _ _ (by simp; try omega), Below.heap_alloc _ _ _ (by simp; try omega)]; exact heap_atX _ _ _ (by simp),
  by rw [← hw1, Below.heap_alloc _ _ _ (by simp; try omega)]; exact heap_atX _ _ _ (by simp),
  by rw [← hw1]; exact heap_atX _ _ _ (by simp)⟩)
 obtain ⟨e0, he0⟩ : ∃ a, orA X 0 102 = a := ⟨_, rfl⟩
 obtain ⟨e1, he1⟩ : ∃ a, orA X 1 102 = a := ⟨_, rfl⟩
 have e0l : e0 < 18446744073709551616 := by rw [← he0]; exact orA_lt (n := 102) hX (by omega) 102 (by omega)
 have e1l : e1 < 18446744073709551616 := by rw [← he1]; exact orA_lt (n := 102) hX (by omega) 102 (by omega)
 have EN := hide' (fun (V : World) (hV : TzTab V) => ends_any e0 e1 V e0l e1l hV)
 obtain ⟨lf, hlf⟩ : ∃ a, livF X 102 = a := ⟨_, rfl⟩
 obtain ⟨lt, hlt⟩ : ∃ a, livT X 102 = a := ⟨_, rfl⟩
 rw [he0, he1, hlf, hlt]
 obtain ⟨ef, hef⟩ : ∃ a, endsF e0 e1 = a := ⟨_, rfl⟩
 obtain ⟨ee, hee⟩ : ∃ a, endsE e0 e1 = a := ⟨_, rfl⟩
 rw [hef, hee] at EN
 rw [hef, hee]
 have LF := hide' hlf
 have LT := hide' hlt
 have HE0 := hide' he0
 have HE1 := hide' he1
 clear hlf hlt he0 he1 hef hee e0l e1l
 have HG := hide' hg
 have GL := hide' glt
 have HX := hide' hX
 have HT := hide' hT
 clear hg hX hT glt
 go_enter Tryz.func101, Tryz.ntmps101
 go_wp2
 clear hw1
 go_loopw [9] (fun iv wr => ∃ (y : Nat), iv = .int .i64 (y : Int) ∧ y ≤ 102 ∧ Hid (LV w wr X y)) (fun iv _ => 102 - (intOf iv).toNat)
 case atStart => exact ⟨0, rfl, by omega, L0⟩
 case round =>
  obtain ⟨y, rfl, hy, H⟩ := hrel
  by_cases d : (y : Int) < 102
  ·have gb := (H.out.below.block g GL.out).trans HG.out
   have c0 : wr.cell? ⟨g, y * 2, none⟩ = some (.int .u64 ((X (y * 2) : Nat) : Int)) := by rw [cell_of_row wr g _ _ _ _ gb]; exact arrF_get _ (by omega)
   have c1 : wr.cell? ⟨g, y * 2 + 1, none⟩ = some (.int .u64 ((X (y * 2 + 1) : Nat) : Int)) := by rw [cell_of_row wr g _ _ _ _ gb]; exact arrF_get _ (by omega)
   obtain ⟨x0, hx0⟩ : ∃ x, X (y * 2) = x := ⟨_, rfl⟩
   obtain ⟨x1, hx1⟩ : ∃ x, X (y * 2 + 1) = x := ⟨_, rfl⟩
   rw [hx0] at c0
   rw [hx1] at c1
   have q0 : ∀ w, (Op.equalIn 10000 106 (.agg #[.int .u64 0, .int .u64 0]) (.agg #[.int .u64 0, .int .u64 0])).run Tryz.prog w = .ok true w := fun w => row_eq 0 0 0 0 w
   have q1 := fun w => row_eq (x0 : Int) (x1 : Int) 0 0 w
   obtain ⟨a0, ha0⟩ : ∃ a, orA X 0 y = a := ⟨_, rfl⟩
   obtain ⟨a1, ha1⟩ : ∃ a, orA X 1 y = a := ⟨_, rfl⟩
   have q2 := fun w => row_eq (a0 : Int) (a1 : Int) 0 0 w
   have x0l : x0 < 18446744073709551616 := by rw [← hx0]; exact HX.out _ (by omega)
   have x1l : x1 < 18446744073709551616 := by rw [← hx1]; exact HX.out _ (by omega)
   have a0l : a0 < 18446744073709551616 := by rw [← ha0]; exact orA_lt (n := 102) HX.out (by omega) y (by omega)
   have a1l : a1 < 18446744073709551616 := by rw [← ha1]; exact orA_lt (n := 102) HX.out (by omega) y (by omega)
   have o0 := u64_or_nat a0 x0 a0l x0l
   have o1 := u64_or_nat a1 x1 a1l x1l
   obtain ⟨r0, hr0⟩ : ∃ r, a0 ||| x0 = r := ⟨_, rfl⟩
   obtain ⟨r1, hr1⟩ : ∃ r, a1 ||| x1 = r := ⟨_, rfl⟩
   rw [hr0] at o0
   rw [hr1] at o1
   go_wp2
   go_region_held3 (fun V => V.cell? ⟨g, y * 2, none⟩ = some (.int .u64 (x0 : Int)) ∧ V.cell? ⟨g, y * 2 + 1, none⟩ = some (.int .u64 (x1 : Int))) (first | exact ⟨c0, c1⟩ | go_keep) (fail)
   obtain ⟨V, hV⟩ : ∃ V, (wr.alloc (.cells #[.int .u64 (x0 : Int), .int .u64 (x1 : Int)] 106)).drew = V := ⟨_, rfl⟩
   obtain ⟨p, hp⟩ : ∃ p, wr.heap.size = p := ⟨_, rfl⟩
   rw [hV, hp]
   have HL : LV w V X y := H.out.next (by rw [← hV]; exact ((Below.refl _ _).alloc (Nat.le_refl _) _).drew)
   have v0 : V.cell? ⟨p, 0, none⟩ = some (.int .u64 (x0 : Int)) := by rw [← hV, ← hp]; show (wr.alloc _).cell? _ = _; rw [World.cell?_alloc_at _ _ _ _ rfl]; rfl
   have v1 : V.cell? ⟨p, 1, none⟩ = some (.int .u64 (x1 : Int)) := by rw [← hV, ← hp]; show (wr.alloc _).cell? _ = _; rw [World.cell?_alloc_at _ _ _ _ rfl]; rfl
   have pne : w.heap.size + 1 + 1 < p := by rw [← hp]; exact lt_of_block H.out.b2
   have pn1 : ¬ w.heap.size + 1 + 1 = p := by omega
   have pn2 : ¬ p = w.heap.size + 1 + 1 := by omega
   have pn3 : ¬ p = w.heap.size + 1 := by omega
   have pn4 : ¬ p = w.heap.size := by omega
   have HLH := hide' HL
   have u0 := cell_of_row V _ 0 _ _ _ HL.b2
   have u1 := cell_of_row V _ 1 _ _ _ HL.b2
   have u2 := cell_of_row V _ 1 _ _ _ HL.b0
   have u3 := cell_of_row V _ 1 _ _ _ HL.b1
   have g0 := frozen_of_row V _ 0 _ _ HL.b2
   have g1 := frozen_of_row V _ 1 _ _ HL.b2
   have g2 := frozen_of_row V _ 1 _ _ HL.b0
   have g3 := frozen_of_row V _ 1 _ _ HL.b1
   rw [ha0, ha1] at u0 u1
   simp at u0 u1 u2 u3
   have EX0 := hide' hx0
   have EX1 := hide' hx1
   have EA0 := hide' ha0
   have EA1 := hide' ha1
   have ER0 := hide' hr0
   have ER1 := hide' hr1
   clear HL hx0 hx1 ha0 ha1 hr0 hr1 hV c0 c1 gb pne
   by_cases z : x0 = 0 ∧ x1 = 0
   ·obtain ⟨rfl, rfl⟩ := z
    have NX := hide' (HLH.out.zero EX0.out EX1.out)
    go_wp2
    exact ⟨⟨y + 1, by go_num, by omega, NX⟩, by simp [intOf]; omega⟩
   ·have zb : ((x0 : Int) == 0 && (x1 : Int) == 0) = false := by
     rw [Bool.and_eq_false_iff]
     by_cases t : x0 = 0
     ·right; simp; omega
     ·left; simp; omega
    have ZN := hide' (show ¬ (X (y * 2) = 0 ∧ X (y * 2 + 1) = 0) by rw [EX0.out, EX1.out]; exact z)
    clear z
    by_cases q : a0 = 0 ∧ a1 = 0
    ·have qb : ((a0 : Int) == 0 && (a1 : Int) == 0) = true := by simp [q.1, q.2]
     have NX := hide' (HLH.out.one ZN.out ⟨EA0.out.trans q.1, EA1.out.trans q.2⟩ ((y : Int) + 1) r0 r1 (by push_cast; rfl) (by rw [EA0.out, EX0.out, ER0.out]) (by rw [EA1.out, EX1.out, ER1.out]))
     clear q
     go_wp2
     exact ⟨⟨y + 1, by go_num, by omega, NX⟩, by simp [intOf]; omega⟩
    ·have qb : ((a0 : Int) == 0 && (a1 : Int) == 0) = false := by
      rw [Bool.and_eq_false_iff]
      by_cases t : a0 = 0
      ·right; simp; omega
      ·left; simp; omega
     have NX := hide' (HLH.out.two ZN.out (by rw [EA0.out, EA1.out]; exact q) ((y : Int) + 1) r0 r1 (by push_cast; rfl) (by rw [EA0.out, EX0.out, ER0.out]) (by rw [EA1.out, EX1.out, ER1.out]))
     clear q
     go_wp2
     exact ⟨⟨y + 1, by go_num, by omega, NX⟩, by simp [intOf]; omega⟩
  ·have y2 : y = 102 := by omega
   have HL := H.out
   rw [y2] at HL
   have T2 := hide' (HT.out.below HL.below)
   have u0 := cell_of_row wr _ 0 _ _ _ HL.b2
   have u1 := cell_of_row wr _ 1 _ _ _ HL.b2
   rw [HE0.out] at u0
   rw [HE1.out] at u1
   simp at u0 u1
   have HLH := hide' HL
   clear HL y2
   go_wp2_with fail
   refine (EN.out wr T2.out).mono ?_
   rintro e w2 ⟨rfl, b2⟩
   have HM := HLH.out.next b2
   have u2 := cell_of_row w2 _ 0 _ _ _ HM.b0
   have u3 := cell_of_row w2 _ 1 _ _ _ HM.b0
   have u4 := cell_of_row w2 _ 0 _ _ _ HM.b1
   have u5 := cell_of_row w2 _ 1 _ _ _ HM.b1
   have g2 := frozen_of_row w2 _ 0 _ _ HM.b0
   have g3 := frozen_of_row w2 _ 1 _ _ HM.b0
   have g4 := frozen_of_row w2 _ 0 _ _ HM.b1
   have g5 := frozen_of_row w2 _ 1 _ _ HM.b1
   rw [LF.out] at u3
   rw [LT.out] at u5
   simp at u2 u3 u4 u5
   have BW := hide' HM.below
   have hb0 := HM.b0
   have hb1 := HM.b1
   rw [LF.out] at hb0
   rw [LT.out] at hb1
   have BK := hide' (And.intro hb0 hb1)
   clear HM b2 hb0 hb1
   go_wp2
   go_region
   all_goals go_wp2
   obtain ⟨W, hW⟩ : ∃ W, ((((((w2.setCell ⟨w.heap.size, 0, none⟩ (.int .i64 (ef : Int))).setCell ⟨w.heap.size + 1, 0, none⟩ (.int .i64 (ee : Int))).setCell ⟨w.heap.size, 0, none⟩ (.int .i64 (ef : Int))).setCell ⟨w.heap.size, 1, none⟩ (.int .i64 (lf : Int))).setCell ⟨w.heap.size + 1, 0, none⟩ (.int .i64 (ee : Int))).setCell ⟨w.heap.size + 1, 1, none⟩ (.int .i64 (lt : Int))).drew = W := ⟨_, rfl⟩
   rw [hW]
   have k0 : W.heap[w.heap.size]? = some (.cells #[.int .i64 (ef : Int), .int .i64 (lf : Int)] 193 (0, 0)) := by
    rw [← hW]
    exact drew_block (two_other (two_other (two_set1 (two_set0 (two_other (two_set0 BK.out.1 _) _ _ _ (by omega)) _) _) _ _ _ (by omega)) _ _ _ (by omega))
   have k1 : W.heap[w.heap.size + 1]? = some (.cells #[.int .i64 (ee : Int), .int .i64 (lt : Int)] 193 (0, 0)) := by
    rw [← hW]
    exact drew_block (two_set1 (two_set0 (two_other (two_other (two_set0 (two_other BK.out.2 _ _ _ (by omega)) _) _ _ _ (by omega)) _ _ _ (by omega)) _) _)
   trace "A"
   have m0 := cell_of_row W _ 0 _ _ _ k0
   have m1 := cell_of_row W _ 1 _ _ _ k0
   have m2 := cell_of_row W _ 0 _ _ _ k1
   have m3 := cell_of_row W _ 1 _ _ _ k1
   simp at m0 m1 m2 m3
   trace "B"
   have BQ : Below w.heap.size w W := by
    rw [← hW]
    exact Below.drew ((((((BW.out.setCell (by simp) _).setCell (by simp) _).setCell (by simp) _).setCell (by simp) _).setCell (by simp) _).setCell (by simp) _)
   trace "C"
   refine bodyPost_ret (v := .tuple #[.agg #[.int .i64 (ef : Int), .int .i64 (lf : Int)], .agg #[.int .i64 (ee : Int), .int .i64 (lt : Int)]]) (by simp [results, Tryz.results101, go_sem, m0, m1, m2, m3]) rfl ?_
   exact ⟨rfl, BQ⟩
open Go.Maps (Keyed)
def sqC (q : Sq) : List Value := [.int .i32 (q.a : Int), .int .i32 (q.b : Int), .int .i32 (q.c : Int), .int .i32 (q.d : Int), .int .u64 (q.k : Int), .int .i64 q.l]
def flQ (qs : List Sq) : List Value := qs.flatMap sqC
theorem flQ_append (xs ys : List Sq) : flQ (xs ++ ys) = flQ xs ++ flQ ys := by unfold flQ; simp
theorem flQ_get : ∀ (ys : List Sq) (k : Nat) (i : Nat), k < ys.length → i < 6 → (flQ ys)[k * 6 + i]? = (sqC (sqA ys k))[i]?
 | [], k, i, hk, _ => absurd hk (by simp)
 | p :: r, 0, i, hk, hi => by
  show (sqC p ++ flQ r)[0 * 6 + i]? = _
  rw [Nat.zero_mul, Nat.zero_add, List.getElem?_append_left (by simpa [sqC] using hi)]
  rfl
 | p :: r, k + 1, i, hk, hi => by
  have ih := flQ_get r k i (by simpa using hk) hi
  show (sqC p ++ flQ r)[(k + 1) * 6 + i]? = _
  rw [List.getElem?_append_right (by simp [sqC]; omega), show (k + 1) * 6 + i - (sqC p).length = k * 6 + i by simp [sqC]; omega, ih]
  rfl
theorem one_flQ (ys : List Sq) : ∀ u ∈ flQ ys, u.oneCell' = true := fun u hu => by
 unfold flQ at hu
 obtain ⟨q, -, h⟩ := List.mem_flatMap.1 hu
 simp [sqC] at h
 rcases h with rfl | rfl | rfl | rfl | rfl | rfl <;> rfl
/-! Keys of the maps: eights by their cells, wholes by their parts. -/
theorem law8 : Keyed Tryz.prog 88 := Maps.int_keyed Tryz.underlying88
def k8 (k : Nat) : Lit := .int .u64 (k : Int)
theorem key8 {k : Nat} (h : k < 2 ^ 64) : keyOf Tryz.prog 88 (.int .u64 (k : Int)) = some (k8 k) := Maps.keyOf_int_mk Tryz.underlying88 (by simp [Lit.wf, IntKind.min, IntKind.max, IntKind.bits, IntKind.signed]; omega)
theorem k8_inj {k j : Nat} (h : k8 k = k8 j) : k = j := by
 unfold k8 at h
 injection h with _ h
 omega
theorem laidOutH : laidOutB Tryz.prog = true := by kernel_rfl
theorem typesH : Tryz.prog.types.size = 269 := by kernel_rfl
theorem rowH4 : (87 : TypeId) < Tryz.prog.types.size := of_decide_eq_true (by kernel_rfl)
theorem cellsH4 : Tryz.prog.cellsOf 87 = 4 := by kernel_rfl
theorem cellsHi : Tryz.prog.cellsOf 21 = 1 := by kernel_rfl
theorem deepH4 : Tryz.prog.keyType 87 = true := by kernel_rfl
theorem wideH4 : (match Tryz.prog.underlying 87 with | some (.array _ _) | some (.struct _) => true | _ => false) = true := by rw [Tryz.underlying87]
set_option maxRecDepth 100000 in
theorem law4 : Keyed Tryz.prog 87 := Keyed.of_law (deep_law_laid laidOutH (m := 4) (by omega) rowH4 (by kernel_rfl) wideH4)
theorem formedH4 {x y z t : Int} : (Value.agg #[.int .i32 x, .int .i32 y, .int .i32 z, .int .i32 t]).formed Tryz.prog 87 = true := by simp [Value.formed, Tryz.underlying87, cellsH4]
def k4 (x y z t : Nat) : Lit := .string (keyBytes [.int .i32 (x : Int), .int .i32 (y : Int), .int .i32 (z : Int), .int .i32 (t : Int)])
theorem wfH4 {x : Nat} (h : x ≤ 2000001) : (Lit.int .i32 (x : Int)).wf = true := by simp [Lit.wf, IntKind.min, IntKind.max, IntKind.bits, IntKind.signed]; omega
theorem key4 {x y z t : Nat} (hx : x ≤ 2000001) (hy : y ≤ 2000001) (hz : z ≤ 2000001) (ht : t ≤ 2000001) : keyOf Tryz.prog 87 (.agg #[.int .i32 (x : Int), .int .i32 (y : Int), .int .i32 (z : Int), .int .i32 (t : Int)]) = some (k4 x y z t) := by
 have h1 := wfH4 hx
 have h2 := wfH4 hy
 have h3 := wfH4 hz
 have h4 := wfH4 ht
 unfold keyOf k4
 rw [Tryz.underlying87]
 simp only [deepH4, formedH4, Bool.and_self, if_true]
 have h3 : Tryz.prog.keyLits (Tryz.prog.types.size + 1) 87 (Value.agg #[.int .i32 (x : Int), .int .i32 (y : Int), .int .i32 (z : Int), .int .i32 (t : Int)]).cells.toList = some [.int .i32 (x : Int), .int .i32 (y : Int), .int .i32 (z : Int), .int .i32 (t : Int)] := by
  obtain ⟨n, hn⟩ : ∃ n, Tryz.prog.types.size = n + 1 := ⟨269 - 1, by rw [typesH]⟩
  rw [hn]
  simp [Program.keyLits, Tryz.underlying87, Tryz.underlying21, Value.cells, cellsHi, cellsH4, h1, h2, h3, h4, show List.range 4 = [0, 1, 2, 3] from rfl]
 rw [h3]
 rfl
theorem k4_inj {x y z t x' y' z' t' : Nat} (hx : x ≤ 2000001) (hy : y ≤ 2000001) (hz : z ≤ 2000001) (ht : t ≤ 2000001) (hx' : x' ≤ 2000001) (hy' : y' ≤ 2000001) (hz' : z' ≤ 2000001) (ht' : t' ≤ 2000001) (h : k4 x y z t = k4 x' y' z' t') : x = x' ∧ y = y' ∧ z = z' ∧ t = t' := by
 have := law4.inj (key4 hx hy hz ht) ((key4 hx' hy' hz' ht').trans (by rw [h]))
 have h3 : (x : Int) = x' ∧ (y : Int) = y' ∧ (z : Int) = z' ∧ (t : Int) = t' := by simpa using this
 omega
def Kn8 (D : DataW Unit) (qs : List Sq) : Prop := ∀ k, k ≠ 0 → k < 2 ^ 64 → ∃ t, Nm8 qs k t ∧ Maps.has D (k8 k) = decide (t ≠ 0) ∧ D.atKey (k8 k) (.lit (.int .i32 0)) = .lit (.int .i32 (t : Int))
def Kn4 (D : DataW Unit) (qs : List Sq) : Prop := ∀ a b c d, ¬ (a = 0 ∧ b = 0 ∧ c = 0 ∧ d = 0) → a ≤ 2000001 → b ≤ 2000001 → c ≤ 2000001 → d ≤ 2000001 → ∃ t, Nm4 qs a b c d t ∧ Maps.has D (k4 a b c d) = decide (t ≠ 0) ∧ D.atKey (k4 a b c d) (.lit (.int .i32 0)) = .lit (.int .i32 (t : Int))
def mpE : Option (Nat × Nat) → Value
 | none => .map none
 | some p => .map (some p.1)
def mpW : Option (Nat × Nat) → Value
 | none => .map none
 | some p => .map (some p.2)
def mpB : Option (Nat × Nat) → Nat → Prop
 | none, _ => False
 | some p, k => k = p.1 ∨ k = p.2
def MpA (w : World) (B : Nat) (qs : List Sq) : Option (Nat × Nat) → Prop
 | none => True
 | some p => (B ≤ p.1 ∧ B ≤ p.2 ∧ p.1 ≠ p.2) ∧ (∃ D : DataW Unit, w.ownsMap Tryz.prog 88 (plainElem Tryz.prog 21) p.1 qs.length D ∧ Maps.IsMap D ∧ Kn8 D qs) ∧ (∃ D : DataW Unit, w.ownsMap Tryz.prog 87 (plainElem Tryz.prog 21) p.2 qs.length D ∧ Maps.IsMap D ∧ Kn4 D qs) ∧ UnQ qs
theorem own_keep {V V' : World} {k : TypeId} {R : Value → Option (DataW Unit × List MemPlace)} {b n : Nat} {D : DataW Unit} (h : V.ownsMap Tryz.prog k R b n D) (hb : V'.heap[b]? = V.heap[b]?) : V'.ownsMap Tryz.prog k R b n D := by
 obtain ⟨es, clock, h1, r⟩ := h
 exact ⟨es, clock, hb.trans h1, r⟩
theorem MpA.keep {w w' : World} {B : Nat} {qs : List Sq} {mp : Option (Nat × Nat)} (h : MpA w B qs mp) (hk : ∀ k, mpB mp k → w'.heap[k]? = w.heap[k]?) : MpA w' B qs mp := by
 cases mp with
 | none => exact h
 | some p =>
  obtain ⟨h0, ⟨D, h1, h2, h3⟩, ⟨E, g1, g2, g3⟩, u⟩ := h
  exact ⟨h0, ⟨D, own_keep h1 (hk _ (Or.inl rfl)), h2, h3⟩, ⟨E, own_keep g1 (hk _ (Or.inr rfl)), g2, g3⟩, u⟩
theorem MpA.weak {w : World} {B B' : Nat} {qs : List Sq} {mp : Option (Nat × Nat)} (h : MpA w B qs mp) (hb : B' ≤ B) : MpA w B' qs mp := by
 cases mp with
 | none => exact h
 | some p => exact ⟨⟨Nat.le_trans hb h.1.1, Nat.le_trans hb h.1.2.1, h.1.2.2⟩, h.2⟩
theorem MpA.isMap {w : World} {B : Nat} {qs : List Sq} {mp : Option (Nat × Nat)} (h : MpA w B qs mp) {k : Nat} (hk : mpB mp k) : ∃ es c, w.heap[k]? = some (.map es c) := by
 cases mp with
 | none => exact absurd hk id
 | some p =>
  obtain ⟨h0, ⟨D, ⟨es, c, h1, _⟩, _⟩, ⟨E, ⟨es', c', g1, _⟩, _⟩, u⟩ := h
  rcases hk with rfl | rfl
  ·exact ⟨_, _, h1⟩
  ·exact ⟨_, _, g1⟩
theorem MpA.ge {w : World} {B : Nat} {qs : List Sq} {mp : Option (Nat × Nat)} (h : MpA w B qs mp) {k : Nat} (hk : mpB mp k) : B ≤ k := by
 cases mp with
 | none => exact absurd hk id
 | some p =>
  rcases hk with rfl | rfl
  ·exact h.1.1
  ·exact h.1.2.1
theorem MpA.lt {w : World} {B : Nat} {qs : List Sq} {mp : Option (Nat × Nat)} (h : MpA w B qs mp) {k : Nat} (hk : mpB mp k) : k < w.heap.size := by
 obtain ⟨es, c, e⟩ := h.isMap hk
 exact lt_of_block e
structure StkA (w : World) (sb B g cap : Nat) (qs : List Sq) (mp : Option (Nat × Nat) := none) : Prop where
 blkM : w.heap[sb]? = some (.cells #[.slice (some ⟨g, 0, none⟩) qs.length cap, mpE mp, mpW mp] 86 (0, 0))
 row : w.ownsRow B 90 6 (.slice (some ⟨g, 0, none⟩) qs.length cap) qs.length (flQ qs)
 le : B ≤ sb
 st : StQ qs
 lv : LvQ qs
 map : MpA w B qs mp
theorem StkA.blk {w : World} {sb B g cap : Nat} {qs : List Sq} (h : StkA w sb B g cap qs) : w.heap[sb]? = some (.cells #[.slice (some ⟨g, 0, none⟩) qs.length cap, .map none, .map none] 86 (0, 0)) := h.blkM
theorem StkA.c0 {w : World} {sb B g cap : Nat} {qs : List Sq} {mp : Option (Nat × Nat)} (h : StkA w sb B g cap qs mp) : w.cell? ⟨sb, 0, none⟩ = some (.slice (some ⟨g, 0, none⟩) qs.length cap) := by
 have := cell_of_row w sb 0 _ _ _ h.blkM
 simpa using this
theorem StkA.rowB {w : World} {sb B g cap : Nat} {qs : List Sq} {mp : Option (Nat × Nat)} (h : StkA w sb B g cap qs mp) : B ≤ g ∧ qs.length ≤ cap ∧ ∃ cur : Array Value, w.heap[g]? = some (.cells cur 90 (0, 0)) ∧ cur.size = cap * 6 ∧ cur.toList.take (qs.length * 6) = flQ qs := by
 rcases h.row.2 with ⟨h1, _⟩ | ⟨g', cap', cur, e, hb, hh, hc, _, hs, ht⟩
 ·cases h1
 ·cases e
  exact ⟨hb, hc, cur, hh, hs, ht⟩
theorem StkA.ne {w : World} {sb B g cap : Nat} {qs : List Sq} {mp : Option (Nat × Nat)} (h : StkA w sb B g cap qs mp) : g ≠ sb := by
 obtain ⟨-, -, cur, e, -, -⟩ := h.rowB
 intro q
 subst q
 rw [h.blkM] at e
 injection e with e
 injection e with _ e
 cases e
theorem StkA.lt {w : World} {sb B g cap : Nat} {qs : List Sq} {mp : Option (Nat × Nat)} (h : StkA w sb B g cap qs mp) : sb < w.heap.size ∧ g < w.heap.size := by
 obtain ⟨-, -, cur, e, -, -⟩ := h.rowB
 exact ⟨lt_of_block h.blkM, lt_of_block e⟩
theorem StkA.nomap {w : World} {sb B g cap : Nat} {qs : List Sq} {mp : Option (Nat × Nat)} (h : StkA w sb B g cap qs mp) {q : Nat} {cs : Array Value} {ty : TypeId} {z : Nat × Nat} (hq : w.heap[q]? = some (.cells cs ty z)) : ¬ mpB mp q := fun e => by
 obtain ⟨es, c, e1⟩ := h.map.isMap e
 rw [hq] at e1
 cases e1
theorem StkA.maps_ne {w : World} {sb B g cap : Nat} {qs : List Sq} {mp : Option (Nat × Nat)} (h : StkA w sb B g cap qs mp) : ¬ mpB mp sb ∧ ¬ mpB mp g := by
 obtain ⟨-, -, cur, e, -, -⟩ := h.rowB
 exact ⟨h.nomap h.blkM, h.nomap e⟩
theorem StkA.at_ {w : World} {sb B g cap : Nat} {qs : List Sq} {mp : Option (Nat × Nat)} (h : StkA w sb B g cap qs mp) {t i : Nat} (ht : t < qs.length) (hi : i < 6) : w.cell? ⟨g, t * 6 + i, none⟩ = (sqC (sqA qs t))[i]? := by
 obtain ⟨-, hc, cur, e, hs, hk⟩ := h.rowB
 have lt : t * 6 + i < qs.length * 6 := by omega
 have := flQ_get qs t i ht hi
 rw [← hk, List.getElem?_take_of_lt lt] at this
 rw [← this, cell_of_row w g (t * 6 + i) cur _ _ e]
 simp
theorem StkA.cells {w : World} {sb B g cap : Nat} {qs : List Sq} {mp : Option (Nat × Nat)} (h : StkA w sb B g cap qs mp) {t : Nat} (ht : t < qs.length) : w.cell? ⟨g, t * 6, none⟩ = some (.int .i32 ((sqA qs t).a : Int)) ∧ w.cell? ⟨g, t * 6 + 1, none⟩ = some (.int .i32 ((sqA qs t).b : Int)) ∧ w.cell? ⟨g, t * 6 + 2, none⟩ = some (.int .i32 ((sqA qs t).c : Int)) ∧ w.cell? ⟨g, t * 6 + 3, none⟩ = some (.int .i32 ((sqA qs t).d : Int)) ∧ w.cell? ⟨g, t * 6 + 4, none⟩ = some (.int .u64 ((sqA qs t).k : Int)) ∧ w.cell? ⟨g, t * 6 + 5, none⟩ = some (.int .i64 (sqA qs t).l) :=
 ⟨h.at_ (i := 0) ht (by omega), h.at_ (i := 1) ht (by omega), h.at_ (i := 2) ht (by omega), h.at_ (i := 3) ht (by omega), h.at_ (i := 4) ht (by omega), h.at_ (i := 5) ht (by omega)⟩
theorem StkA.keepM {w w' : World} {sb B g cap : Nat} {qs : List Sq} {mp : Option (Nat × Nat)} (h : StkA w sb B g cap qs mp) (h1 : w'.heap[sb]? = w.heap[sb]?) (h2 : w'.heap[g]? = w.heap[g]?) (h3 : ∀ k, mpB mp k → w'.heap[k]? = w.heap[k]?) : StkA w' sb B g cap qs mp := by
 refine ⟨h1.trans h.blkM, ⟨h.row.1, ?_⟩, h.le, h.st, h.lv, h.map.keep h3⟩
 rcases h.row.2 with h3 | ⟨g', cap', cur, e, hb, hh, r⟩
 ·exact Or.inl h3
 ·cases e
  exact Or.inr ⟨g, cap, cur, rfl, hb, h2.trans hh, r⟩
theorem StkA.keep {w w' : World} {sb B g cap : Nat} {qs : List Sq} (h : StkA w sb B g cap qs) (h1 : w'.heap[sb]? = w.heap[sb]?) (h2 : w'.heap[g]? = w.heap[g]?) : StkA w' sb B g cap qs := h.keepM h1 h2 (fun k e => absurd e id)
theorem StkA.below {w w' : World} {sb B g cap : Nat} {qs : List Sq} {mp : Option (Nat × Nat)} (h : StkA w sb B g cap qs mp) (b : Below w.heap.size w w') : StkA w' sb B g cap qs mp := h.keepM (b.block _ h.lt.1) (b.block _ h.lt.2) (fun k e => b.block _ (h.map.lt e))
theorem StkA.alloc {w : World} {sb B g cap : Nat} {qs : List Sq} {mp : Option (Nat × Nat)} (h : StkA w sb B g cap qs mp) (o : Obj) : StkA (w.alloc o) sb B g cap qs mp := h.keepM (heap_alloc_old _ _ h.lt.1) (heap_alloc_old _ _ h.lt.2) (fun k e => heap_alloc_old _ _ (h.map.lt e))
structure KpS (sb g g' : Nat) (V V' : World) (mp : Option (Nat × Nat) := none) : Prop where
 os : V'.os = V.os
 tape : V'.tape = V.tape
 output : V'.output = V.output
 size : V.heap.size ≤ V'.heap.size
 keepM : ∀ k, k < V.heap.size → k ≠ sb → k ≠ g → ¬ mpB mp k → V'.heap[k]? = V.heap[k]?
 new : g' = g ∨ V.heap.size ≤ g'
theorem KpS.keep {sb g g' : Nat} {V V' : World} (h : KpS sb g g' V V') : ∀ k, k < V.heap.size → k ≠ sb → k ≠ g → V'.heap[k]? = V.heap[k]? := fun k h1 h2 h3 => h.keepM k h1 h2 h3 id
theorem KpS.refl (sb g : Nat) (V : World) {mp : Option (Nat × Nat)} : KpS sb g g V V mp := ⟨rfl, rfl, rfl, Nat.le_refl _, fun _ _ _ _ _ => rfl, Or.inl rfl⟩
theorem KpS.trans {sb g g' g'' : Nat} {V V' V'' : World} {mp : Option (Nat × Nat)} (h : KpS sb g g' V V' mp) (k : KpS sb g' g'' V' V'' mp) : KpS sb g g'' V V'' mp :=
 ⟨k.os.trans h.os, k.tape.trans h.tape, k.output.trans h.output, Nat.le_trans h.size k.size, fun i hi h1 h2 h3 => (k.keepM i (Nat.lt_of_lt_of_le hi h.size) h1 (by rcases h.new with e | e <;> omega) h3).trans (h.keepM i hi h1 h2 h3), by rcases h.new with e | e <;> rcases k.new with f | f <;> first | (left; omega) | (right; have := h.size; omega)⟩
theorem KpS.of_below {sb g : Nat} {V V' : World} {mp : Option (Nat × Nat)} (h : Below V.heap.size V V') : KpS sb g g V V' mp := ⟨h.os, h.tape, h.output, h.size, fun k hk _ _ _ => h.block k hk, Or.inl rfl⟩
theorem KpS.belowM {sb g g' B : Nat} {V V' : World} {mp : Option (Nat × Nat)} (h : KpS sb g g' V V' mp) (h1 : B ≤ sb) (h2 : B ≤ g) (h3 : B ≤ V.heap.size) (h4 : ∀ k, mpB mp k → B ≤ k) : Below B V V' := ⟨h.os, h.tape, h.output, h.size, fun k hk => h.keepM k (by omega) (by omega) (by omega) (fun e => by have := h4 k e; omega)⟩
theorem KpS.below {sb g g' B : Nat} {V V' : World} (h : KpS sb g g' V V') (h1 : B ≤ sb) (h2 : B ≤ g) (h3 : B ≤ V.heap.size) : Below B V V' := h.belowM h1 h2 h3 (fun k e => absurd e id)
theorem StkA.drewS {w : World} {sb B g cap : Nat} {qs : List Sq} {mp : Option (Nat × Nat)} (h : StkA w sb B g cap qs mp) : StkA w.drew sb B g cap qs mp := h.keepM rfl rfl (fun _ _ => rfl)
theorem KpS.drewL {sb g g' : Nat} {V V' : World} {mp : Option (Nat × Nat)} (h : KpS sb g g' V.drew V' mp) : KpS sb g g' V V' mp := ⟨h.os, h.tape, h.output, h.size, h.keepM, h.new⟩
theorem KpS.set {sb g g' q i : Nat} {V U : World} {mp : Option (Nat × Nat)} (h : KpS sb g g' V U mp) (hq : V.heap.size ≤ q) (v : Value) : KpS sb g g' V (U.setCell ⟨q, i, none⟩ v) mp :=
 ⟨h.os, h.tape, h.output, by rw [World.size_setCell]; exact h.size, fun k hk h1 h2 h3 => (Below.heap_setCell _ _ _ _ (by show k ≠ q; omega)).trans (h.keepM k hk h1 h2 h3), h.new⟩
theorem StkA.ne_four {w : World} {sb B g cap : Nat} {qs : List Sq} {mp : Option (Nat × Nat)} (h : StkA w sb B g cap qs mp) {q : Nat} {cs : Array Value} {ty : TypeId} {z : Nat × Nat} (hq : w.heap[q]? = some (.cells cs ty z)) (ht : ty ≠ 90) (hs : ty ≠ 86) : q ≠ sb ∧ q ≠ g := by
 obtain ⟨-, -, cur, e, -, -⟩ := h.rowB
 constructor
 ·intro c; subst c; rw [h.blkM] at hq; injection hq with hq; injection hq with _ hq; exact hs hq.symm
 ·intro c; subst c; rw [e] at hq; injection hq with hq; injection hq with _ hq; exact ht hq.symm
theorem StkA.setM {w : World} {sb B g cap : Nat} {qs : List Sq} {mp : Option (Nat × Nat)} (h : StkA w sb B g cap qs mp) {q i : Nat} (h1 : q ≠ sb) (h2 : q ≠ g) (h3 : ¬ mpB mp q) (v : Value) : StkA (w.setCell ⟨q, i, none⟩ v) sb B g cap qs mp :=
 h.keepM (Below.heap_setCell _ _ _ _ (fun e => h1 e.symm)) (Below.heap_setCell _ _ _ _ (fun e => h2 e.symm)) (fun k e => Below.heap_setCell _ _ _ _ (fun e2 => h3 (by rw [← show k = q from e2]; exact e)))
theorem StkA.set {w : World} {sb B g cap : Nat} {qs : List Sq} (h : StkA w sb B g cap qs) {q i : Nat} (h1 : q ≠ sb) (h2 : q ≠ g) (v : Value) : StkA (w.setCell ⟨q, i, none⟩ v) sb B g cap qs := h.setM h1 h2 id v
structure StkR (w : World) (sb B g cap : Nat) (qs : List Sq) (m1 m2 : Value) : Prop where
 blk : w.heap[sb]? = some (.cells #[.slice (some ⟨g, 0, none⟩) qs.length cap, m1, m2] 86 (0, 0))
 row : w.ownsRow B 90 6 (.slice (some ⟨g, 0, none⟩) qs.length cap) qs.length (flQ qs)
 le : B ≤ sb
 st : StQ qs
 lv : LvQ qs
theorem StkA.r {w : World} {sb B g cap : Nat} {qs : List Sq} {mp : Option (Nat × Nat)} (h : StkA w sb B g cap qs mp) : StkR w sb B g cap qs (mpE mp) (mpW mp) := ⟨h.blkM, h.row, h.le, h.st, h.lv⟩
theorem StkR.a {w : World} {sb B g cap : Nat} {qs : List Sq} {mp : Option (Nat × Nat)} (h : StkR w sb B g cap qs (mpE mp) (mpW mp)) (hm : MpA w B qs mp) : StkA w sb B g cap qs mp := ⟨h.blk, h.row, h.le, h.st, h.lv, hm⟩
theorem StkR.rowB {w : World} {sb B g cap : Nat} {qs : List Sq} {m1 m2 : Value} (h : StkR w sb B g cap qs m1 m2) : B ≤ g ∧ qs.length ≤ cap ∧ ∃ cur : Array Value, w.heap[g]? = some (.cells cur 90 (0, 0)) ∧ cur.size = cap * 6 ∧ cur.toList.take (qs.length * 6) = flQ qs := by
 rcases h.row.2 with ⟨h1, _⟩ | ⟨g', cap', cur, e, hb, hh, hc, _, hs, ht⟩
 ·cases h1
 ·cases e
  exact ⟨hb, hc, cur, hh, hs, ht⟩
theorem StkR.ne {w : World} {sb B g cap : Nat} {qs : List Sq} {m1 m2 : Value} (h : StkR w sb B g cap qs m1 m2) : g ≠ sb := by
 obtain ⟨-, -, cur, e, -, -⟩ := h.rowB
 intro q
 subst q
 rw [h.blk] at e
 injection e with e
 injection e with _ e
 cases e
theorem StkR.lt {w : World} {sb B g cap : Nat} {qs : List Sq} {m1 m2 : Value} (h : StkR w sb B g cap qs m1 m2) : sb < w.heap.size ∧ g < w.heap.size := by
 obtain ⟨-, -, cur, e, -, -⟩ := h.rowB
 exact ⟨lt_of_block h.blk, lt_of_block e⟩
theorem StkR.keep {w w' : World} {sb B g cap : Nat} {qs : List Sq} {m1 m2 : Value} (h : StkR w sb B g cap qs m1 m2) (h1 : w'.heap[sb]? = w.heap[sb]?) (h2 : w'.heap[g]? = w.heap[g]?) : StkR w' sb B g cap qs m1 m2 := by
 refine ⟨h1.trans h.blk, ⟨h.row.1, ?_⟩, h.le, h.st, h.lv⟩
 rcases h.row.2 with h3 | ⟨g', cap', cur, e, hb, hh, r⟩
 ·exact Or.inl h3
 ·cases e
  exact Or.inr ⟨g, cap, cur, rfl, hb, h2.trans hh, r⟩
theorem StkR.alloc {w : World} {sb B g cap : Nat} {qs : List Sq} {m1 m2 : Value} (h : StkR w sb B g cap qs m1 m2) (o : Obj) : StkR (w.alloc o) sb B g cap qs m1 m2 := h.keep (heap_alloc_old _ _ h.lt.1) (heap_alloc_old _ _ h.lt.2)
theorem KpS.more {sb g g' : Nat} {V V' : World} {mp : Option (Nat × Nat)} (h : KpS sb g g' V V') : KpS sb g g' V V' mp := ⟨h.os, h.tape, h.output, h.size, fun k h1 h2 h3 _ => h.keep k h1 h2 h3, h.new⟩
theorem info_sq : (Tryz.prog.info? 90).map (fun i => (i.zero, i.size, i.bytes)) = some (some (.agg #[.int .i32 0, .int .i32 0, .int .i32 0, .int .i32 0, .int .u64 0, .int .i64 0]), 6, 32) := by kernel_rfl
def bxQ (q : Sq) : Obj := .cells #[.int .i32 (q.a : Int), .int .i32 (q.b : Int), .int .i32 (q.c : Int), .int .i32 (q.d : Int), .int .u64 (q.k : Int), .int .i64 q.l] 90
theorem news_sq (w : World) (q : Sq) : ∀ j u, (flQ [q])[j]? = some u → (w.alloc (bxQ q)).cell? ((⟨w.heap.size, 0, none⟩ : Addr).add j) = some u := World.news_of_block (cs := #[.int .i32 (q.a : Int), .int .i32 (q.b : Int), .int .i32 (q.c : Int), .int .i32 (q.d : Int), .int .u64 (q.k : Int), .int .i64 q.l]) (heap_alloc_new w _)
def AddP (sb B g : Nat) (qs : List Sq) (q : Sq) (m1 m2 : Value) (w : World) (e : Ending) (w' : World) : Prop :=
 ∃ g' cap', e = .returned (.int .i32 (qs.length : Int)) ∧ StkR w' sb B g' cap' (qs ++ [q]) m1 m2 ∧ KpS sb g g' w w'
set_option maxRecDepth 100000 in
set_option maxHeartbeats 3200000 in
theorem add_stk (sb B g cap : Nat) (qs : List Sq) (q : Sq) (m1 m2 : Value) (w : World) (h : StkR w sb B g cap qs m1 m2) (hB : B ≤ w.heap.size) (hn : qs.length ≤ 2000000) (hql : q.l = lvS qs q) (hqa : q.a < qs.length) (hqb : q.b < qs.length) (hqc : q.c < qs.length) (hqd : q.d < qs.length) :
  Calls Tryz.prog 108 #[.pointer (some ⟨sb, 0, none⟩), .agg #[.int .i32 (q.a : Int), .int .i32 (q.b : Int), .int .i32 (q.c : Int), .int .i32 (q.d : Int), .int .u64 (q.k : Int), .int .i64 q.l]] w (AddP sb B g qs q m1 m2 w) := by
 obtain ⟨w1, hw1⟩ : ∃ w1, w.alloc (bxQ q) = w1 := ⟨_, rfl⟩
 have HK := hide' h
 have LV := hide' (h.lv.add hql hqa hqb hqc hqd)
 have H1 := hide' (show StkR w1 sb B g cap qs m1 m2 by rw [← hw1]; exact h.alloc _)
 have S1 := hide' (show w1.heap.size = w.heap.size + 1 by rw [← hw1]; simp)
 have X1 := hide' (show w1.heap[w.heap.size]? = some (.cells #[.int .i32 (q.a : Int), .int .i32 (q.b : Int), .int .i32 (q.c : Int), .int .i32 (q.d : Int), .int .u64 (q.k : Int), .int .i64 q.l] 90 (0, 0)) by rw [← hw1]; exact heap_alloc_new w _)
 have B1 := hide' (show Below w.heap.size w w1 by rw [← hw1]; exact (Below.refl _ _).alloc (Nat.le_refl _) _)
 have HW1 := hide' hw1
 obtain ⟨n, hnn⟩ : ∃ n, qs.length = n := ⟨_, rfl⟩
 have c0 := cell_of_row w1 sb 0 _ _ _ H1.out.blk
 have f0 := frozen_of_row w1 sb 0 _ _ H1.out.blk
 have x0 := cell_of_row w1 _ 0 _ _ _ X1.out
 have x1 := cell_of_row w1 _ 1 _ _ _ X1.out
 have x2 := cell_of_row w1 _ 2 _ _ _ X1.out
 have x3 := cell_of_row w1 _ 3 _ _ _ X1.out
 have x4 := cell_of_row w1 _ 4 _ _ _ X1.out
 have x5 := cell_of_row w1 _ 5 _ _ _ X1.out
 simp at c0 x0 x1 x2 x3 x4 x5
 rw [hnn] at c0 hn
 have OW := hide' (show w1.ownsRow B 90 6 (.slice (some ⟨g, 0, none⟩) n cap) n (flQ qs) by have := H1.out.row; rw [hnn] at this; exact this)
 have NE := hide' h.ne
 have lt1 : sb < w1.heap.size := H1.out.lt.1
 have d0 : ∀ o, (w1.alloc o).cell? ⟨sb, 0, none⟩ = some (.slice (some ⟨g, 0, none⟩) n cap) := fun o => (World.cell?_alloc_lt _ o ⟨sb, 0, none⟩ lt1).trans c0
 have PM := hide' (fun (o : Obj) (U : World) (hg : (w1.alloc o).drew.grownBy U (some g)) => show U.cell? ⟨sb, 0, none⟩ = some (.slice (some ⟨g, 0, none⟩) n cap) ∧ U.frozen? ⟨sb, 0, none⟩ = false from by
  have e := hg.block sb (by show sb < (w1.alloc o).heap.size; simp; omega) (by simp; exact fun e => NE.out e.symm)
  have e2 : U.heap[sb]? = w1.heap[sb]? := e.trans (heap_alloc_old w1 o lt1)
  exact ⟨(World.cell?_of_block (a := ⟨sb, 0, none⟩) e2).trans c0, (World.frozen?_of_block (a := ⟨sb, 0, none⟩) e2).trans f0⟩)
 have PE := hide' (fun (o : Obj) (U : World) (gg cap' : Nat) (hg : (w1.alloc o).drew.grownBy U (some g)) (ho : U.ownsRow B 90 6 (.slice (some ⟨gg, 0, none⟩) (n + 1) cap') (n + 1) (flQ qs ++ flQ [q])) (hat : some g = some gg ∨ gg = w1.heap.size + 1) => show StkR (U.setCell ⟨sb, 0, none⟩ (.slice (some ⟨gg, 0, none⟩) (n + 1) cap')) sb B gg cap' (qs ++ [q]) m1 m2 ∧ KpS sb g gg w (U.setCell ⟨sb, 0, none⟩ (.slice (some ⟨gg, 0, none⟩) (n + 1) cap')) from by
  have s1 := S1.out
  have e := hg.block sb (by show sb < (w1.alloc o).heap.size; simp; omega) (by simp; exact fun e => NE.out e.symm)
  have e2 : U.heap[sb]? = w1.heap[sb]? := e.trans (heap_alloc_old w1 o lt1)
  have ne : gg ≠ sb := by
   rcases hat with h | h
   ·injection h with h; rw [← h]; exact NE.out
   ·omega
  have ln : (qs ++ [q]).length = n + 1 := by simp [hnn]
  have sz : (w1.alloc o).drew.heap.size = w1.heap.size + 1 := by show (w1.alloc o).heap.size = _; simp
  have sg := hg.size
  refine ⟨⟨?_, ?_, HK.out.le, HK.out.st.app _, LV.out⟩, ⟨?_, ?_, ?_, ?_, fun k hk k1 k2 _ => ?_, ?_⟩⟩
  ·rw [ln]
   rw [heap_setCell_same _ _ _ _ _ _ (e2.trans H1.out.blk)]
   rfl
  ·rw [ln, flQ_append]
   refine ⟨ho.1, ?_⟩
   rcases ho.2 with ⟨h1, _⟩ | ⟨g', cap'', cur, e3, hb, hh, r⟩
   ·cases h1
   ·cases e3
    exact Or.inr ⟨_, _, cur, rfl, hb, (Below.heap_setCell _ _ _ _ ne).trans hh, r⟩
  ·exact hg.os.trans B1.out.os
  ·exact hg.tape.trans B1.out.tape
  ·exact hg.output.trans B1.out.output
  ·rw [World.size_setCell]; omega
  ·rw [Below.heap_setCell _ _ _ _ (by simpa using k1)]
   exact (hg.block k (by omega) (by simpa using k2)).trans ((heap_alloc_old w1 o (by omega)).trans (B1.out.block k hk))
  ·rcases hat with h | h
   ·injection h with h; exact Or.inl h.symm
   ·exact Or.inr (by omega))
 have t1 : IntKind.i32.wrap (n : Int) = (n : Int) := by simp [IntKind.wrap, IntKind.bits, IntKind.signed]; omega
 have hbw : B ≤ w1.heap.size := by have := S1.out; omega
 obtain ⟨i0, hi, hz0, hz1, hz2⟩ := info_parts info_sq
 clear h hw1 hql hqa hqb hqc hqd
 go_enter Tryz.func108, Tryz.ntmps108
 go_upto_region 1 with fail
 rw [show w.alloc (.cells #[.int .i32 (q.a : Int), .int .i32 (q.b : Int), .int .i32 (q.c : Int), .int .i32 (q.d : Int), .int .u64 (q.k : Int), .int .i64 q.l] 90) = w1 from HW1.out]
 go_region_law (first | (refine step_append_lies _ (by rfl) _ _ _ (by rfl) B 90 i0 _ 6 32 Tryz.underlying82 hi hz0 hz1 hz2 rfl (by omega) (.slice (some ⟨g, 0, none⟩) n cap) _ _ (by rfl) ((OW.out.alloc _).drew) ⟨w1.heap.size, 0, none⟩ 1 1 (flQ [q]) (by rfl) (by rfl) (news_sq w1 q) (one_flQ _) (by omega) (by unfold maxLen; omega) (by omega) (by simp; omega) (w1.heap.size + 1) (by simp) ?_; intro gg cap' U hown1 hgrow hat hlt; have y1 := (PM.out _ U hgrow).1; have y2 := (PM.out _ U hgrow).2) | (go_simp; go_wp2))
 all_goals
  go_wp2
  go_ret
  exact ⟨gg, cap', by rw [hnn]; rfl, PE.out _ U gg cap' hgrow hown1 hat⟩
end Go.Proofs.YtemhcpldflcfbaaGreatDoor
