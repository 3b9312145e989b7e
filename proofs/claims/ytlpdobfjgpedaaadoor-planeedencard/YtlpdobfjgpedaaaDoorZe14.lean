/-
  What the last text of this claim leans on, part 14: Gr3, Gr4, Bk2.
-/
import Derived.Test.YtlpdobfjgpedaaaDoorZe12
import Derived.Test.YtlpdobfjgpedaaaDoorZe13
import Derived.Test.YtlpdobfjgpedaaaDoorZe10
import Derived.Deep.RegionHeld3
namespace Go.Proofs.YtlpdobfjgpedaaaDoor
open Go.RowKit
set_option linter.unusedVariables false

/-- An array, told by a function. -/
def arrF (n : Nat) (f : Nat → Value) : Array Value := ((List.range n).map f).toArray
theorem arrF_size (n : Nat) (f : Nat → Value) : (arrF n f).size = n := by simp [arrF]
theorem arrF_get {n k : Nat} (f : Nat → Value) (h : k < n) : (arrF n f)[k]? = some (f k) := by simp [arrF, h]
theorem arrF_ext {n : Nat} {f g : Nat → Value} (h : ∀ k, k < n → f k = g k) : arrF n f = arrF n g := by
  unfold arrF
  congr 1
  apply List.map_congr_left
  intro k hk
  exact h k (List.mem_range.1 hk)
theorem arrF_set (n i : Nat) (f : Nat → Value) (v : Value) : (arrF n f).setIfInBounds i v = arrF n (fun k => if k = i then v else f k) := by
  apply Array.ext
  · simp [arrF]
  · intro k h1 h2
    simp only [arrF, List.getElem_toArray, List.getElem_map, List.getElem_range]
    by_cases q : k = i
    · simp [q]
    · simp [q, Ne.symm q]
theorem arrF_all (n : Nat) (f : Nat → Value) (h : ∀ k, k < n → (f k).oneCell' = true) : (arrF n f).all (·.oneCell') = true := by
  simp only [Array.all_eq_true]
  intro i hi
  have hi' : i < n := by rw [arrF_size] at hi; exact hi
  have := arrF_get f hi'
  rw [Array.getElem?_eq_some_iff] at this
  obtain ⟨_, e⟩ := this
  rw [e]; exact h i hi'
/-- A word of a sheet, all words being known. -/
def uF (X : Nat → Nat) (k : Nat) : Value := .int .u64 ((X k : Nat) : Int)
def orA (X : Nat → Nat) (h : Nat) : Nat → Nat
  | 0 => 0
  | y + 1 => orA X h y ||| X (y * 2 + h)
theorem orA_lt {X : Nat → Nat} {h n : Nat} (hX : ∀ k, k < n * 2 → X k < 18446744073709551616) (hh : h < 2) : ∀ y, y ≤ n → orA X h y < 18446744073709551616
  | 0, _ => by simp [orA]
  | y + 1, hy => Nat.or_lt_two_pow (n := 64) (orA_lt hX hh y (by omega)) (hX _ (by omega))
/-- The first row that has something, and behind the last. -/
def livF (X : Nat → Nat) : Nat → Nat
  | 0 => 0
  | y + 1 => if X (y * 2) = 0 ∧ X (y * 2 + 1) = 0 then livF X y else if orA X 0 y = 0 ∧ orA X 1 y = 0 then y else livF X y
def livT (X : Nat → Nat) : Nat → Nat
  | 0 => 0
  | y + 1 => if X (y * 2) = 0 ∧ X (y * 2 + 1) = 0 then livT X y else y + 1
/-- What lies there while the rows are looked through. -/
structure LV (w wr : World) (X : Nat → Nat) (y : Nat) : Prop where
  below : Below w.heap.size w wr
  b0 : wr.heap[w.heap.size]? = some (.cells #[.int .i64 0, .int .i64 ((livF X y : Nat) : Int)] 171 (0, 0))
  b1 : wr.heap[w.heap.size + 1]? = some (.cells #[.int .i64 0, .int .i64 ((livT X y : Nat) : Int)] 171 (0, 0))
  b2 : wr.heap[w.heap.size + 1 + 1]? = some (.cells #[.int .u64 ((orA X 0 y : Nat) : Int), .int .u64 ((orA X 1 y : Nat) : Int)] 109 (0, 0))
theorem LV.next {w wr w' : World} {X : Nat → Nat} {y : Nat} (h : LV w wr X y) (b : Below wr.heap.size wr w') : LV w w' X y :=
  ⟨h.below.trans (b.mono h.below.size), (b.block _ (lt_of_block h.b0)).trans h.b0, (b.block _ (lt_of_block h.b1)).trans h.b1, (b.block _ (lt_of_block h.b2)).trans h.b2⟩
theorem LV.zero {w wr : World} {X : Nat → Nat} {y : Nat} (h : LV w wr X y) (h0 : X (y * 2) = 0) (h1 : X (y * 2 + 1) = 0) : LV w wr X (y + 1) := by
  refine ⟨h.below, ?_, ?_, ?_⟩
  · rw [livF, if_pos ⟨h0, h1⟩]; exact h.b0
  · rw [livT, if_pos ⟨h0, h1⟩]; exact h.b1
  · rw [orA, orA, show y * 2 + 0 = y * 2 from rfl, h0, h1, Nat.or_zero, Nat.or_zero]; exact h.b2
theorem LV.two {w wr : World} {X : Nat → Nat} {y : Nat} (h : LV w wr X y) (h0 : ¬ (X (y * 2) = 0 ∧ X (y * 2 + 1) = 0)) (ha : ¬ (orA X 0 y = 0 ∧ orA X 1 y = 0)) (t : Int) (o0 o1 : Nat) (ht : t = ((y + 1 : Nat) : Int)) (e0 : o0 = orA X 0 y ||| X (y * 2)) (e1 : o1 = orA X 1 y ||| X (y * 2 + 1)) :
    LV w (((wr.setCell ⟨w.heap.size + 1, 1, none⟩ (.int .i64 t)).setCell ⟨w.heap.size + 1 + 1, 0, none⟩ (.int .u64 (o0 : Int))).setCell ⟨w.heap.size + 1 + 1, 1, none⟩ (.int .u64 (o1 : Int))) X (y + 1) := by
  subst ht e0 e1
  refine ⟨((h.below.setCell (by simp) _).setCell (by simp; omega) _).setCell (by simp; omega) _, ?_, ?_, ?_⟩
  · rw [Below.heap_setCell _ _ _ _ (by simp; omega), Below.heap_setCell _ _ _ _ (by simp; omega), Below.heap_setCell _ _ _ _ (by simp), livF, if_neg h0, if_neg ha]; exact h.b0
  · rw [Below.heap_setCell _ _ _ _ (by simp), Below.heap_setCell _ _ _ _ (by simp), heap_setCell_same _ _ _ _ _ _ h.b1, livT, if_neg h0]; rfl
  · have e1 := heap_setCell_same (wr.setCell ⟨w.heap.size + 1, 1, none⟩ (.int .i64 ((y + 1 : Nat) : Int))) (w.heap.size + 1 + 1) 0 _ _ (.int .u64 ((orA X 0 y ||| X (y * 2) : Nat) : Int)) ((Below.heap_setCell _ _ _ _ (by simp)).trans h.b2)
    rw [heap_setCell_same _ _ _ _ _ _ e1, orA, orA]; rfl
theorem LV.one {w wr : World} {X : Nat → Nat} {y : Nat} (h : LV w wr X y) (h0 : ¬ (X (y * 2) = 0 ∧ X (y * 2 + 1) = 0)) (ha : orA X 0 y = 0 ∧ orA X 1 y = 0) (t : Int) (o0 o1 : Nat) (ht : t = ((y + 1 : Nat) : Int)) (e0 : o0 = orA X 0 y ||| X (y * 2)) (e1 : o1 = orA X 1 y ||| X (y * 2 + 1)) :
    LV w ((((wr.setCell ⟨w.heap.size, 1, none⟩ (.int .i64 (y : Int))).setCell ⟨w.heap.size + 1, 1, none⟩ (.int .i64 t)).setCell ⟨w.heap.size + 1 + 1, 0, none⟩ (.int .u64 (o0 : Int))).setCell ⟨w.heap.size + 1 + 1, 1, none⟩ (.int .u64 (o1 : Int))) X (y + 1) := by
  subst ht e0 e1
  refine ⟨(((h.below.setCell (by simp) _).setCell (by simp) _).setCell (by simp; omega) _).setCell (by simp; omega) _, ?_, ?_, ?_⟩
  · rw [Below.heap_setCell _ _ _ _ (by simp; omega), Below.heap_setCell _ _ _ _ (by simp; omega), Below.heap_setCell _ _ _ _ (by simp), heap_setCell_same _ _ _ _ _ _ h.b0, livF, if_neg h0, if_pos ha]; rfl
  · have e1 := (Below.heap_setCell wr ⟨w.heap.size, 1, none⟩ (.int .i64 (y : Int)) (w.heap.size + 1) (by simp)).trans h.b1
    rw [Below.heap_setCell _ _ _ _ (by simp), Below.heap_setCell _ _ _ _ (by simp), heap_setCell_same _ _ _ _ _ _ e1, livT, if_neg h0]; rfl
  · have e0 := (Below.heap_setCell wr ⟨w.heap.size, 1, none⟩ (.int .i64 (y : Int)) (w.heap.size + 1 + 1) (by simp; omega)).trans h.b2
    have e1 := heap_setCell_same ((wr.setCell ⟨w.heap.size, 1, none⟩ (.int .i64 (y : Int))).setCell ⟨w.heap.size + 1, 1, none⟩ (.int .i64 ((y + 1 : Nat) : Int))) (w.heap.size + 1 + 1) 0 _ _ (.int .u64 ((orA X 0 y ||| X (y * 2) : Nat) : Int)) ((Below.heap_setCell _ _ _ _ (by simp)).trans e0)
    rw [heap_setCell_same _ _ _ _ _ _ e1, orA, orA]; rfl
theorem two_set0 {w : World} {g : Nat} {x y : Value} {t : TypeId} (h : w.heap[g]? = some (.cells #[x, y] t (0, 0))) (v : Value) : (w.setCell ⟨g, 0, none⟩ v).heap[g]? = some (.cells #[v, y] t (0, 0)) := by
  rw [heap_setCell_same _ _ _ _ _ _ h]; rfl
theorem two_set1 {w : World} {g : Nat} {x y : Value} {t : TypeId} (h : w.heap[g]? = some (.cells #[x, y] t (0, 0))) (v : Value) : (w.setCell ⟨g, 1, none⟩ v).heap[g]? = some (.cells #[x, v] t (0, 0)) := by
  rw [heap_setCell_same _ _ _ _ _ _ h]; rfl
theorem two_other {w : World} {g : Nat} {o : Obj} (h : w.heap[g]? = some o) (b i : Nat) (v : Value) (hn : g ≠ b) : (w.setCell ⟨b, i, none⟩ v).heap[g]? = some o := (Below.heap_setCell _ _ _ _ hn).trans h
theorem drew_block {w : World} {g : Nat} {o : Obj} (h : w.heap[g]? = some o) : w.drew.heap[g]? = some o := h
end Go.Proofs.YtlpdobfjgpedaaaDoor

namespace Go.Proofs.YtlpdobfjgpedaaaDoor
open Go.RowKit
set_option linter.unusedVariables false
theorem heap_atX (w : World) (o : Obj) (k : Nat) (h : k = w.heap.size) : (w.alloc o).heap[k]? = some o := by subst h; exact heap_alloc_new w o
set_option maxRecDepth 100000 in
set_option maxHeartbeats 12800000 in
theorem living_any (X : Nat → Nat) (g : Nat) (w : World) (hX : ∀ k, k < 204 → X k < 18446744073709551616) (hg : w.heap[g]? = some (.cells (arrF 204 (uF X)) 111 (0, 0))) (hT : TzTab w) :
    Calls Tryd.prog 84 #[.pointer (some ⟨g, 0, none⟩)] w fun e w' => e = .returned (.tuple #[.agg #[.int .i64 ((endsF (orA X 0 102) (orA X 1 102) : Nat) : Int), .int .i64 ((livF X 102 : Nat) : Int)], .agg #[.int .i64 ((endsE (orA X 0 102) (orA X 1 102) : Nat) : Int), .int .i64 ((livT X 102 : Nat) : Int)]]) ∧ Below w.heap.size w w' := by
  obtain ⟨w1, hw1⟩ : ∃ w1, ((w.alloc (.cells #[.int .i64 0, .int .i64 0] 171)).alloc (.cells #[.int .i64 0, .int .i64 0] 171)).alloc (.cells #[.int .u64 0, .int .u64 0] 109) = w1 := ⟨_, rfl⟩
  have glt := lt_of_block hg
  have L0 := hide' (show LV w w1 X 0 from ⟨by rw [← hw1]; repeat (first | exact Below.refl _ _ | refine Below.alloc ?_ (by simp; try omega) _),
    by rw [← hw1, Below.heap_alloc _ _ _ (by simp; try omega), Below.heap_alloc _ _ _ (by simp; try omega)]; exact heap_atX _ _ _ (by simp),
    by rw [← hw1, Below.heap_alloc _ _ _ (by simp; try omega)]; exact heap_atX _ _ _ (by simp),
    by rw [← hw1]; exact heap_atX _ _ _ (by simp)⟩)
  obtain ⟨e0, he0⟩ : ∃ a, orA X 0 102 = a := ⟨_, rfl⟩
  obtain ⟨e1, he1⟩ : ∃ a, orA X 1 102 = a := ⟨_, rfl⟩
  have e0l : e0 < 18446744073709551616 := by rw [← he0]; exact orA_lt (n := 102) hX (by omega) 102 (by omega)
  have e1l : e1 < 18446744073709551616 := by rw [← he1]; exact orA_lt (n := 102) hX (by omega) 102 (by omega)
  have EN := hide' (fun (V : World) (hV : TzTab V) => ends_any e0 e1 V e0l e1l hV)
  obtain ⟨lf, hlf⟩ : ∃ a, livF X 102 = a := ⟨_, rfl⟩
  obtain ⟨lt, hlt⟩ : ∃ a, livT X 102 = a := ⟨_, rfl⟩
  rw [he0, he1, hlf, hlt]
  obtain ⟨ef, hef⟩ : ∃ a, endsF e0 e1 = a := ⟨_, rfl⟩
  obtain ⟨ee, hee⟩ : ∃ a, endsE e0 e1 = a := ⟨_, rfl⟩
  rw [hef, hee] at EN
  rw [hef, hee]
  have LF := hide' hlf
  have LT := hide' hlt
  have HE0 := hide' he0
  have HE1 := hide' he1
  clear hlf hlt he0 he1 hef hee e0l e1l
  have HG := hide' hg
  have GL := hide' glt
  have HX := hide' hX
  have HT := hide' hT
  clear hg hX hT glt
  go_enter Tryd.func84, Tryd.ntmps84
  go_wp2
  clear hw1
  go_loopw [9] (fun iv wr => ∃ (y : Nat), iv = .int .i64 (y : Int) ∧ y ≤ 102 ∧ Hid (LV w wr X y)) (fun iv _ => 102 - (intOf iv).toNat)
  case atStart => exact ⟨0, rfl, by omega, L0⟩
  case round =>
    obtain ⟨y, rfl, hy, H⟩ := hrel
    by_cases d : (y : Int) < 102
    · have gb := (H.out.below.block g GL.out).trans HG.out
      have c0 : wr.cell? ⟨g, y * 2, none⟩ = some (.int .u64 ((X (y * 2) : Nat) : Int)) := by rw [cell_of_row wr g _ _ _ _ gb]; exact arrF_get _ (by omega)
      have c1 : wr.cell? ⟨g, y * 2 + 1, none⟩ = some (.int .u64 ((X (y * 2 + 1) : Nat) : Int)) := by rw [cell_of_row wr g _ _ _ _ gb]; exact arrF_get _ (by omega)
      obtain ⟨x0, hx0⟩ : ∃ x, X (y * 2) = x := ⟨_, rfl⟩
      obtain ⟨x1, hx1⟩ : ∃ x, X (y * 2 + 1) = x := ⟨_, rfl⟩
      rw [hx0] at c0
      rw [hx1] at c1
      have q0 : ∀ w, (Op.equalIn 10000 109 (.agg #[.int .u64 0, .int .u64 0]) (.agg #[.int .u64 0, .int .u64 0])).run Tryd.prog w = .ok true w := fun w => row_eq 0 0 0 0 w
      have q1 := fun w => row_eq (x0 : Int) (x1 : Int) 0 0 w
      obtain ⟨a0, ha0⟩ : ∃ a, orA X 0 y = a := ⟨_, rfl⟩
      obtain ⟨a1, ha1⟩ : ∃ a, orA X 1 y = a := ⟨_, rfl⟩
      have q2 := fun w => row_eq (a0 : Int) (a1 : Int) 0 0 w
      have x0l : x0 < 18446744073709551616 := by rw [← hx0]; exact HX.out _ (by omega)
      have x1l : x1 < 18446744073709551616 := by rw [← hx1]; exact HX.out _ (by omega)
      have a0l : a0 < 18446744073709551616 := by rw [← ha0]; exact orA_lt (n := 102) HX.out (by omega) y (by omega)
      have a1l : a1 < 18446744073709551616 := by rw [← ha1]; exact orA_lt (n := 102) HX.out (by omega) y (by omega)
      have o0 := u64_or_nat a0 x0 a0l x0l
      have o1 := u64_or_nat a1 x1 a1l x1l
      obtain ⟨r0, hr0⟩ : ∃ r, a0 ||| x0 = r := ⟨_, rfl⟩
      obtain ⟨r1, hr1⟩ : ∃ r, a1 ||| x1 = r := ⟨_, rfl⟩
      rw [hr0] at o0
      rw [hr1] at o1
      go_wp2
      go_region_held3 (fun V => V.cell? ⟨g, y * 2, none⟩ = some (.int .u64 (x0 : Int)) ∧ V.cell? ⟨g, y * 2 + 1, none⟩ = some (.int .u64 (x1 : Int))) (first | exact ⟨c0, c1⟩ | go_keep) (fail)
      obtain ⟨V, hV⟩ : ∃ V, (wr.alloc (.cells #[.int .u64 (x0 : Int), .int .u64 (x1 : Int)] 109)).drew = V := ⟨_, rfl⟩
      obtain ⟨p, hp⟩ : ∃ p, wr.heap.size = p := ⟨_, rfl⟩
      rw [hV, hp]
      have HL : LV w V X y := H.out.next (by rw [← hV]; exact ((Below.refl _ _).alloc (Nat.le_refl _) _).drew)
      have v0 : V.cell? ⟨p, 0, none⟩ = some (.int .u64 (x0 : Int)) := by rw [← hV, ← hp]; show (wr.alloc _).cell? _ = _; rw [World.cell?_alloc_at _ _ _ _ rfl]; rfl
      have v1 : V.cell? ⟨p, 1, none⟩ = some (.int .u64 (x1 : Int)) := by rw [← hV, ← hp]; show (wr.alloc _).cell? _ = _; rw [World.cell?_alloc_at _ _ _ _ rfl]; rfl
      have pne : w.heap.size + 1 + 1 < p := by rw [← hp]; exact lt_of_block H.out.b2
      have pn1 : ¬ w.heap.size + 1 + 1 = p := by omega
      have pn2 : ¬ p = w.heap.size + 1 + 1 := by omega
      have pn3 : ¬ p = w.heap.size + 1 := by omega
      have pn4 : ¬ p = w.heap.size := by omega
      have HLH := hide' HL
      have u0 := cell_of_row V _ 0 _ _ _ HL.b2
      have u1 := cell_of_row V _ 1 _ _ _ HL.b2
      have u2 := cell_of_row V _ 1 _ _ _ HL.b0
      have u3 := cell_of_row V _ 1 _ _ _ HL.b1
      have g0 := frozen_of_row V _ 0 _ _ HL.b2
      have g1 := frozen_of_row V _ 1 _ _ HL.b2
      have g2 := frozen_of_row V _ 1 _ _ HL.b0
      have g3 := frozen_of_row V _ 1 _ _ HL.b1
      rw [ha0, ha1] at u0 u1
      simp at u0 u1 u2 u3
      have EX0 := hide' hx0
      have EX1 := hide' hx1
      have EA0 := hide' ha0
      have EA1 := hide' ha1
      have ER0 := hide' hr0
      have ER1 := hide' hr1
      clear HL hx0 hx1 ha0 ha1 hr0 hr1 hV c0 c1 gb pne
      by_cases z : x0 = 0 ∧ x1 = 0
      · obtain ⟨rfl, rfl⟩ := z
        have NX := hide' (HLH.out.zero EX0.out EX1.out)
        go_wp2
        exact ⟨⟨y + 1, by go_num, by omega, NX⟩, by simp [intOf]; omega⟩
      · have zb : ((x0 : Int) == 0 && (x1 : Int) == 0) = false := by
          rw [Bool.and_eq_false_iff]
          by_cases t : x0 = 0
          · right; simp; omega
          · left; simp; omega
        have ZN := hide' (show ¬ (X (y * 2) = 0 ∧ X (y * 2 + 1) = 0) by rw [EX0.out, EX1.out]; exact z)
        clear z
        by_cases q : a0 = 0 ∧ a1 = 0
        · have qb : ((a0 : Int) == 0 && (a1 : Int) == 0) = true := by simp [q.1, q.2]
          have NX := hide' (HLH.out.one ZN.out ⟨EA0.out.trans q.1, EA1.out.trans q.2⟩ ((y : Int) + 1) r0 r1 (by push_cast; rfl) (by rw [EA0.out, EX0.out, ER0.out]) (by rw [EA1.out, EX1.out, ER1.out]))
          clear q
          go_wp2
          exact ⟨⟨y + 1, by go_num, by omega, NX⟩, by simp [intOf]; omega⟩
        · have qb : ((a0 : Int) == 0 && (a1 : Int) == 0) = false := by
            rw [Bool.and_eq_false_iff]
            by_cases t : a0 = 0
            · right; simp; omega
            · left; simp; omega
          have NX := hide' (HLH.out.two ZN.out (by rw [EA0.out, EA1.out]; exact q) ((y : Int) + 1) r0 r1 (by push_cast; rfl) (by rw [EA0.out, EX0.out, ER0.out]) (by rw [EA1.out, EX1.out, ER1.out]))
          clear q
          go_wp2
          exact ⟨⟨y + 1, by go_num, by omega, NX⟩, by simp [intOf]; omega⟩
    · have y2 : y = 102 := by omega
      have HL := H.out
      rw [y2] at HL
      have T2 := hide' (HT.out.below HL.below)
      have u0 := cell_of_row wr _ 0 _ _ _ HL.b2
      have u1 := cell_of_row wr _ 1 _ _ _ HL.b2
      rw [HE0.out] at u0
      rw [HE1.out] at u1
      simp at u0 u1
      have HLH := hide' HL
      clear HL y2
      go_wp2_with fail
      refine (EN.out wr T2.out).mono ?_
      rintro e w2 ⟨rfl, b2⟩
      have HM := HLH.out.next b2
      have u2 := cell_of_row w2 _ 0 _ _ _ HM.b0
      have u3 := cell_of_row w2 _ 1 _ _ _ HM.b0
      have u4 := cell_of_row w2 _ 0 _ _ _ HM.b1
      have u5 := cell_of_row w2 _ 1 _ _ _ HM.b1
      have g2 := frozen_of_row w2 _ 0 _ _ HM.b0
      have g3 := frozen_of_row w2 _ 1 _ _ HM.b0
      have g4 := frozen_of_row w2 _ 0 _ _ HM.b1
      have g5 := frozen_of_row w2 _ 1 _ _ HM.b1
      rw [LF.out] at u3
      rw [LT.out] at u5
      simp at u2 u3 u4 u5
      have BW := hide' HM.below
      have hb0 := HM.b0
      have hb1 := HM.b1
      rw [LF.out] at hb0
      rw [LT.out] at hb1
      have BK := hide' (And.intro hb0 hb1)
      clear HM b2 hb0 hb1
      go_wp2
      go_region
      all_goals go_wp2
      obtain ⟨W, hW⟩ : ∃ W, ((((((w2.setCell ⟨w.heap.size, 0, none⟩ (.int .i64 (ef : Int))).setCell ⟨w.heap.size + 1, 0, none⟩ (.int .i64 (ee : Int))).setCell ⟨w.heap.size, 0, none⟩ (.int .i64 (ef : Int))).setCell ⟨w.heap.size, 1, none⟩ (.int .i64 (lf : Int))).setCell ⟨w.heap.size + 1, 0, none⟩ (.int .i64 (ee : Int))).setCell ⟨w.heap.size + 1, 1, none⟩ (.int .i64 (lt : Int))).drew = W := ⟨_, rfl⟩
      rw [hW]
      have k0 : W.heap[w.heap.size]? = some (.cells #[.int .i64 (ef : Int), .int .i64 (lf : Int)] 171 (0, 0)) := by
        rw [← hW]
        exact drew_block (two_other (two_other (two_set1 (two_set0 (two_other (two_set0 BK.out.1 _) _ _ _ (by omega)) _) _) _ _ _ (by omega)) _ _ _ (by omega))
      have k1 : W.heap[w.heap.size + 1]? = some (.cells #[.int .i64 (ee : Int), .int .i64 (lt : Int)] 171 (0, 0)) := by
        rw [← hW]
        exact drew_block (two_set1 (two_set0 (two_other (two_other (two_set0 (two_other BK.out.2 _ _ _ (by omega)) _) _ _ _ (by omega)) _ _ _ (by omega)) _) _)
      trace "A"
      have m0 := cell_of_row W _ 0 _ _ _ k0
      have m1 := cell_of_row W _ 1 _ _ _ k0
      have m2 := cell_of_row W _ 0 _ _ _ k1
      have m3 := cell_of_row W _ 1 _ _ _ k1
      simp at m0 m1 m2 m3
      trace "B"
      have BQ : Below w.heap.size w W := by
        rw [← hW]
        exact Below.drew ((((((BW.out.setCell (by simp) _).setCell (by simp) _).setCell (by simp) _).setCell (by simp) _).setCell (by simp) _).setCell (by simp) _)
      trace "C"
      refine bodyPost_ret (v := .tuple #[.agg #[.int .i64 (ef : Int), .int .i64 (lf : Int)], .agg #[.int .i64 (ee : Int), .int .i64 (lt : Int)]]) (by simp [results, Tryd.results84, go_sem, m0, m1, m2, m3]) rfl ?_
      exact ⟨rfl, BQ⟩
end Go.Proofs.YtlpdobfjgpedaaaDoor

namespace Go.Proofs.YtlpdobfjgpedaaaDoor
open Go.RowKit
set_option linter.unusedVariables false
/-- What lies there while a block is written. -/
structure AX (w w4 wr : World) (B p : Nat) (T : TypeId) (n : Nat) (G : Nat → Value) : Prop where
  keep : ∀ k, k < B → k ≠ p → wr.heap[k]? = w4.heap[k]?
  out : wr.heap[p]? = some (.cells (arrF n G) T (0, 0))
  below : Below w.heap.size w wr
  size : B ≤ wr.heap.size
theorem AX.next {w w4 wr w' : World} {B p : Nat} {T : TypeId} {n : Nat} {G : Nat → Value} (h : AX w w4 wr B p T n G) (b : Below wr.heap.size wr w') : AX w w4 w' B p T n G :=
  ⟨fun k hk hn => (b.block k (Nat.lt_of_lt_of_le hk h.size)).trans (h.keep k hk hn), (b.block _ (lt_of_block h.out)).trans h.out, h.below.trans (b.mono h.below.size), Nat.le_trans h.size b.size⟩
theorem AX.set {w w4 wr : World} {B p : Nat} {T : TypeId} {n : Nat} {G : Nat → Value} (h : AX w w4 wr B p T n G) (hp : w.heap.size ≤ p) (i : Nat) (v : Value) : AX w w4 (wr.setCell ⟨p, i, none⟩ v) B p T n (fun k => if k = i then v else G k) :=
  ⟨fun k hk hn => (Below.heap_setCell _ _ _ _ hn).trans (h.keep k hk hn), by rw [heap_setCell_same _ _ _ _ _ _ h.out, arrF_set], h.below.setCell hp _, by rw [World.size_setCell]; exact h.size⟩
theorem AX.ext {w w4 wr : World} {B p : Nat} {T : TypeId} {n : Nat} {G G' : Nat → Value} (h : AX w w4 wr B p T n G) (e : ∀ k, k < n → G k = G' k) : AX w w4 wr B p T n G' := ⟨h.keep, by rw [← arrF_ext e]; exact h.out, h.below, h.size⟩
/-- A table of blocks as it lies. -/
structure TbB (w : World) (a : Option Addr) (tv : Nat → Nat) : Prop where
  lt : ∀ k, k < 16 → tv k < 16
  cells : ∃ g off, a = some ⟨g, off, none⟩ ∧ g < w.heap.size ∧ ∀ k, k < 16 → w.cell? ⟨g, off + k, none⟩ = some (.int .i64 (tv k : Int))
theorem TbB.below {w w' : World} {a : Option Addr} {tv : Nat → Nat} (h : TbB w a tv) (b : Below w.heap.size w w') : TbB w' a tv := by
  obtain ⟨g, off, e, hg, hc⟩ := h.cells
  exact ⟨h.lt, g, off, e, Nat.lt_of_lt_of_le hg b.size, fun k hk => (World.cell?_of_block (w := w) (a := ⟨g, off + k, none⟩) (b.block g hg)).trans (hc k hk)⟩
def dg (n k : Nat) : Nat := n / 2 ^ k % 2
theorem dg_0 (n : Nat) : dg n 0 = d0 n := by simp [dg, d0]
theorem dg_1 (n : Nat) : dg n 1 = d1 n := by simp [dg, d1]
theorem dg_2 (n : Nat) : dg n 2 = d2 n := by simp [dg, d2]
theorem dg_3 (n : Nat) (h : n < 16) : dg n 3 = d3 n := by simp [dg, d3]; omega
def bkG (tv : Nat → Nat) (k : Nat) : Value := .int .i64 ((dg (tv (k / 4)) (k % 4) : Nat) : Int)
def bkP (tv : Nat → Nat) (i k : Nat) : Value := if k / 4 < i then bkG tv k else .int .i64 0
theorem zero64 : (#[.int .i64 0, .int .i64 0, .int .i64 0, .int .i64 0, .int .i64 0, .int .i64 0, .int .i64 0, .int .i64 0, .int .i64 0, .int .i64 0, .int .i64 0, .int .i64 0, .int .i64 0, .int .i64 0, .int .i64 0, .int .i64 0, .int .i64 0, .int .i64 0, .int .i64 0, .int .i64 0, .int .i64 0, .int .i64 0, .int .i64 0, .int .i64 0, .int .i64 0, .int .i64 0, .int .i64 0, .int .i64 0, .int .i64 0, .int .i64 0, .int .i64 0, .int .i64 0, .int .i64 0, .int .i64 0, .int .i64 0, .int .i64 0, .int .i64 0, .int .i64 0, .int .i64 0, .int .i64 0, .int .i64 0, .int .i64 0, .int .i64 0, .int .i64 0, .int .i64 0, .int .i64 0, .int .i64 0, .int .i64 0, .int .i64 0, .int .i64 0, .int .i64 0, .int .i64 0, .int .i64 0, .int .i64 0, .int .i64 0, .int .i64 0, .int .i64 0, .int .i64 0, .int .i64 0, .int .i64 0, .int .i64 0, .int .i64 0, .int .i64 0, .int .i64 0] : Array Value) = arrF 64 (fun _ => .int .i64 0) := by kernel_rfl
theorem bk_step (tv : Nat → Nat) (i k : Nat) (hi : i < 16) (ht : tv i < 16) :
    (fun k => if k = i * 4 + 3 then Value.int .i64 (d3 (tv i) : Int) else (fun k => if k = i * 4 + 2 then Value.int .i64 (d2 (tv i) : Int) else (fun k => if k = i * 4 + 1 then Value.int .i64 (d1 (tv i) : Int) else (fun k => if k = i * 4 then Value.int .i64 (d0 (tv i) : Int) else bkP tv i k) k) k) k) k = bkP tv (i + 1) k := by
  dsimp only
  unfold bkP bkG
  by_cases h3 : k = i * 4 + 3
  · subst h3
    rw [if_pos rfl, if_pos (by omega), show (i * 4 + 3) / 4 = i by omega, show (i * 4 + 3) % 4 = 3 by omega, dg_3 _ ht]
  · rw [if_neg h3]
    by_cases h2 : k = i * 4 + 2
    · subst h2
      rw [if_pos rfl, if_pos (by omega), show (i * 4 + 2) / 4 = i by omega, show (i * 4 + 2) % 4 = 2 by omega, dg_2]
    · rw [if_neg h2]
      by_cases h1 : k = i * 4 + 1
      · subst h1
        rw [if_pos rfl, if_pos (by omega), show (i * 4 + 1) / 4 = i by omega, show (i * 4 + 1) % 4 = 1 by omega, dg_1]
      · rw [if_neg h1]
        by_cases h0 : k = i * 4
        · subst h0
          rw [if_pos rfl, if_pos (by omega), show (i * 4) / 4 = i by omega, show (i * 4) % 4 = 0 by omega, dg_0]
        · rw [if_neg h0]
          by_cases h : k / 4 < i
          · rw [if_pos h, if_pos (by omega)]
          · rw [if_neg h, if_neg (by omega)]
end Go.Proofs.YtlpdobfjgpedaaaDoor

