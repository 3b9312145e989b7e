/-
  What the last text of this claim leans on, part 6: Gr1, Gr2, Rv0, Gq5, Gr3, Gr4, Ha2.
-/
import Derived.Test.YtemhcpldflcfbaaGreatDoorZj5
import Derived.Test.YtemhcpldflcfbaaGreatDoorShelf
import Derived.Test.YtemhcpldflcfbaaGreatDoorZj1
import Derived.Test.YtemhcpldflcfbaaGreatDoorZj4
import Derived.Laws.Bits64b
import Derived.Lib.TrailingZeros
import Derived.Lib.BitFns
import Derived.ChangeKeysEq
import Derived.Deep.RegionHeld3
import Derived.Maps.OwnSet
import Derived.Maps.OwnOps
import Derived.WideKeyArgs
import Derived.DeepKeys4
namespace Go.Proofs.YtemhcpldflcfbaaGreatDoor
open Go.RowKit
set_option linter.unusedVariables false
def TzTab (w : World) : Prop := ∀ j, j < 64 → w.cell? ⟨1, j, none⟩ = some (.int .u8 (Lib.deBruijn64tab.getD j 0))
theorem tz_lt {w : World} (h : TzTab w) : 1 < w.heap.size := by
 rcases Nat.lt_or_ge 1 w.heap.size with k | k
 ·exact k
 ·have := h 0 (by omega); simp [World.cell?, Array.getElem?_eq_none k] at this
theorem TzTab.below {w w' : World} (h : TzTab w) (hb : Below w.heap.size w w') : TzTab w' := fun j hj => (World.cell?_of_block (w := w) (a := ⟨1, j, none⟩) (hb.block _ (tz_lt h))).trans (h j hj)
theorem tz_key' (x a : Nat) (hx : x < 18446744073709551616) (hx0 : x ≠ 0) (hlow : x &&& (18446744073709551616 - x) = a) :
  IntKind.u64.wrap (bits BinOp.and IntKind.u64 (x : Int) (IntKind.u64.wrap (-(x : Int))) * 285870213051353865) / 288230376151711744 = ((a * 285870213051353865 % 18446744073709551616 / 288230376151711744 : Nat) : Int) := by
 have e1 : IntKind.u64.wrap (-(x : Int)) = ((18446744073709551616 - x : Nat) : Int) := by rw [IntKind.wrap_u64]; omega
 rw [e1, bits_and_u64_nat x _ hx (by omega), hlow, IntKind.wrap_u64]
 omega
theorem ctz_low {x : Nat} (h0 : 0 < x) (h : x < 2 ^ 64) : x.testBit (Lib.ctz 64 x) = true ∧ ∀ j, j < Lib.ctz 64 x → x.testBit j = false := by
 obtain ⟨m, hm, _⟩ := Lib.ctzFrom_spec 64 x h0 h
 have hc : Lib.ctz 64 x = Lib.ctzFrom 64 x := by unfold Lib.ctz; rw [if_neg (by omega)]
 rw [hc]
 obtain ⟨k, hk⟩ : ∃ k, Lib.ctzFrom 64 x = k := ⟨_, rfl⟩
 rw [hk] at hm ⊢
 have e : x = 2 ^ k * (2 * m + 1) + 0 := by omega
 have hp : 0 < 2 ^ k := Nat.pow_pos (by omega)
 refine ⟨by rw [e, Nat.testBit_two_pow_mul_add _ hp]; simp, fun j hj => by rw [e, Nat.testBit_two_pow_mul_add _ hp, if_pos hj]; simp⟩
set_option maxRecDepth 100000 in
set_option maxHeartbeats 6400000 in
theorem tz64_any (x : Nat) (w : World) (hx0 : 0 < x) (hx : x < 18446744073709551616) (hT : TzTab w) :
  Calls Tryz.prog 70 #[.int .u64 (x : Int)] w fun e w' => e = .returned (.int .i64 ((Lib.ctz 64 x : Nat) : Int)) ∧ w' = w := by
 obtain ⟨hlow, hk⟩ := Lib.lowest_bit 64 x (by omega) hx
 obtain ⟨hi, htab⟩ := Lib.deBruijn64_at _ hk
 have hcell := hT _ hi
 rw [htab] at hcell
 have key := tz_key' x _ hx (by omega) hlow
 have xz : ((x : Int) == 0) = false := by rw [beq_eq_false_iff_ne]; omega
 obtain ⟨idx, hidx⟩ : ∃ idx, 2 ^ Lib.ctz 64 x * 285870213051353865 % 18446744073709551616 / 288230376151711744 = idx := ⟨_, rfl⟩
 rw [hidx] at hi hcell key
 obtain ⟨k, hkk⟩ : ∃ k, Lib.ctz 64 x = k := ⟨_, rfl⟩
 rw [hkk] at hcell hk ⊢
 clear hlow htab hidx hkk
 go_enter Tryz.func70, Tryz.ntmps70
 go_wp2_with (simp only [key])
 go_ret
 exact ⟨rfl, rfl⟩
set_option maxRecDepth 100000 in
set_option maxHeartbeats 6400000 in
theorem tz64_zero (w : World) :
  Calls Tryz.prog 70 #[.int .u64 0] w fun e w' => e = .returned (.int .i64 64) ∧ w' = w := by
 go_enter Tryz.func70, Tryz.ntmps70
 go_wp2
 go_ret
 exact ⟨rfl, rfl⟩
theorem bitLen_top : ∀ (n x : Nat), 0 < x → x < 2 ^ n → n ≤ 64 → 0 < Lib.bitLen x ∧ Lib.bitLen x ≤ n ∧ x.testBit (Lib.bitLen x - 1) = true ∧ ∀ j, Lib.bitLen x ≤ j → x.testBit j = false := by
 intro n
 induction n with
 | zero => intro x h0 h; simp at h; omega
 | succ n ih =>
  intro x h0 h hn
  have hb := Lib.bitLen_half x (by omega) (Nat.lt_of_lt_of_le h (Nat.pow_le_pow_right (by omega) hn))
  rcases Nat.eq_zero_or_pos (x / 2) with z | z
  ·have x1 : x = 1 := by omega
   subst x1
   have : Lib.bitLen 1 = 1 := by decide
   rw [this]
   refine ⟨by omega, by omega, by decide, fun j hj => ?_⟩
   obtain ⟨k, rfl⟩ : ∃ k, j = k + 1 := ⟨j - 1, by omega⟩
   rw [Nat.testBit_succ]; simp
  ·obtain ⟨i1, i2, i3, i4⟩ := ih (x / 2) z (by rw [Nat.pow_succ] at h; omega) (by omega)
   rw [hb]
   refine ⟨by omega, by omega, ?_, fun j hj => ?_⟩
   ·rw [show 1 + Lib.bitLen (x / 2) - 1 = (Lib.bitLen (x / 2) - 1) + 1 by omega, Nat.testBit_succ]; exact i3
   ·obtain ⟨k, rfl⟩ : ∃ k, j = k + 1 := ⟨j - 1, by omega⟩
    rw [Nat.testBit_succ]; exact i4 k (by omega)
theorem ctz_le {x : Nat} (h0 : 0 < x) (h : x < 2 ^ 64) : Lib.ctz 64 x < 64 := by
 rcases Nat.lt_or_ge (Lib.ctz 64 x) 64 with k | k
 ·exact k
 ·have := (ctz_low h0 h).1
  rw [test_hi h k] at this
  cases this
theorem eqItems_ints {P : Program} (w : World) (d : Nat) {e : TypeId} {k : IntKind} (he : P.underlying e = some (.int k)) (xs ys : Array Value) (f g : Nat → Int) :
  ∀ is : List Nat, (∀ i ∈ is, xs[i]? = some (.int k (f i)) ∧ ys[i]? = some (.int k (g i))) → (Op.eqItems (d + 1) e 1 xs ys is).run P w = .ok (is.all fun i => f i == g i) w
 | [], _ => by simp [Op.eqItems]
 | i :: is, h => by
  have h1 := h i (by simp)
  have px : (part e xs (i * 1)).run P w = .ok (.int k (f i)) w := by rw [Nat.mul_one]; simp [part, isAgg, run_underlying he, h1.1]
  have py : (part e ys (i * 1)).run P w = .ok (.int k (g i)) w := by rw [Nat.mul_one]; simp [part, isAgg, run_underlying he, h1.2]
  have ih := eqItems_ints w d he xs ys f g is (fun j hj => h j (by simp [hj]))
  simp only [Op.eqItems, Sem.run_bind, px, py, Result.andThen_ok, run_equalIn_int w d e k k _ _ he, List.all_cons]
  cases hb : (f i == g i)
  ·simp
  ·simpa using ih
theorem equal_ints {P : Program} (w : World) (d : Nat) {t e : TypeId} {n : Nat} {k : IntKind} {i : TypeInfo} (hu : P.underlying t = some (.array n e)) (hi : P.info? e = some i) (hc : P.cellsOf e = 1) (he : P.underlying e = some (.int k)) (xs ys : Array Value) (f g : Nat → Int)
  (h : ∀ j, j < n → xs[j]? = some (.int k (f j)) ∧ ys[j]? = some (.int k (g j))) : (Op.equalIn (d + 2) t (.agg xs) (.agg ys)).run P w = .ok ((List.range n).all fun j => f j == g j) w := by
 rw [run_equalIn_array w (d + 1) xs ys hu hi, hc]
 exact eqItems_ints w d he xs ys f g _ (fun j hj => h j (List.mem_range.1 hj))
def tzN (a : Nat) : Nat := if a = 0 then 64 else Lib.ctz 64 a
theorem tzN_any (a : Nat) (w : World) (ha : a < 18446744073709551616) (hT : TzTab w) : Calls Tryz.prog 70 #[.int .u64 (a : Int)] w fun e w' => e = .returned (.int .i64 ((tzN a : Nat) : Int)) ∧ w' = w := by
 rcases Nat.eq_zero_or_pos a with z | z
 ·subst z; exact tz64_zero w
 ·unfold tzN; rw [if_neg (by omega)]; exact tz64_any a w z ha hT
theorem len_any (a : Nat) (w : World) (ha : a < 18446744073709551616) : Calls Tryz.prog 127 #[.int .u64 (a : Int)] w fun e w' => e = .returned (.int .i64 ((Lib.bitLen a : Nat) : Int)) ∧ w' = w := by
 have := Tryz.bits_Len64 (a : Int) w (by omega) (by omega)
 rw [Int.toNat_natCast] at this
 exact this
theorem bitLen_le64 {a : Nat} (ha : a < 18446744073709551616) : Lib.bitLen a ≤ 64 := by
 rcases Nat.eq_zero_or_pos a with z | z
 ·subst z; decide
 ·exact (bitLen_top 64 a z ha (by omega)).2.1
theorem tzN_le {a : Nat} (ha : a < 18446744073709551616) : tzN a ≤ 64 := by
 unfold tzN; split
 ·omega
 ·exact Nat.le_of_lt (ctz_le (by omega) ha)
theorem count_set_lt : ∀ (l : List Bool) (i : Nat), l[i]? = some false → (l.set i true).count false + 1 = l.count false
 | [], i, h => by simp at h
 | x :: l, 0, h => by simp at h; subst h; simp
 | x :: l, i + 1, h => by
  have := count_set_lt l i (by simpa using h)
  simp only [List.set_cons_succ, List.count_cons]
  omega
theorem wpAny_inv {P : Program} {ops : Array Oper} {Q : Exit → Act → World → Prop} {md : Region.Mode} (J : Array Bool → Act → World → Prop)
  (hstep : ∀ listed a w, J listed a w → ∀ i ∈ Region.ready md ops listed, wpOp P ops Q i (J (listed.setIfInBounds i true)) a w)
  (hend : ∀ listed a w, J listed a w → Region.ready md ops listed = [] → Q .normal a w) :
  ∀ (fuel : Nat) (listed : Array Bool) (a : Act) (w : World), listed.toList.count false ≤ fuel → J listed a w → wpAny P md ops Q fuel listed a w := by
 have dec : ∀ (listed : Array Bool) (i : Nat), i ∈ Region.ready md ops listed → (listed.setIfInBounds i true).toList.count false + 1 = listed.toList.count false := fun listed i hi => by
  have h := (mem_ready.1 hi).1
  rw [Array.toList_setIfInBounds]
  apply count_set_lt
  cases hq : listed[i]? with
  | none => simp [Array.getD_eq_getD_getElem?, hq] at h
  | some b => simp [Array.getD_eq_getD_getElem?, hq] at h; subst h; simpa using hq
 intro fuel
 induction fuel with
 | zero =>
  intro listed a w hl hJ
  have hr : Region.ready md ops listed = [] := by
   cases hr : Region.ready md ops listed with
   | nil => rfl
   | cons i rs => have := dec listed i (by rw [hr]; simp); omega
  exact ⟨hr, hend _ _ _ hJ hr⟩
 | succ fuel ih =>
  intro listed a w hl hJ
  refine ⟨hend _ _ _ hJ, fun i hi => ?_⟩
  exact wpOp_mono (fun a' w' h => ih _ a' w' (by have := dec listed i hi; omega) h) (hstep _ _ _ hJ i hi)
theorem wpOp_of {P : Program} {ops : Array Oper} {Q : Exit → Act → World → Prop} {i : Nat} {o : Oper} {K : Act → World → Prop} {a : Act} {w : World} (ho : ops[i]? = some o) (hg : o.guard = none) (h : o.wp P a w K Q) : wpOp P ops Q i K a w := by
 unfold wpOp
 rw [ho]
 dsimp only
 rw [if_pos (by unfold Region.wanted; rw [hg])]
 exact Or.inl h
theorem ready_needs {ops : Array Oper} {listed : Array Bool} {i j : Nat} (hi : i ∈ Region.ready .any ops listed) (h : ((ops[i]?).map fun o => o.after.any fun e => Region.binds .any e && e.on == j).getD false = true) : listed.getD j false = true := by
 obtain ⟨_, o, ho, he⟩ := mem_ready.1 hi
 rw [ho] at h
 simp only [Option.map_some, Option.getD_some, Array.any_eq_true] at h
 obtain ⟨n, hn, h⟩ := h
 rw [Bool.and_eq_true, beq_iff_eq] at h
 rw [← h.2]
 exact he _ (Array.getElem_mem hn) h.1
theorem below_setRow {B : Nat} {a w : World} (h : Below B a w) {g : Nat} (hg : B ≤ g) (cs : Array Value) : Below B a (w.setRow g cs) :=
 ⟨h.os, h.tape, h.output, by rw [setRow_size]; exact h.size, fun k hk => (setRow_other w g k cs (by omega)).trans (h.block k hk)⟩
structure R3 (B : Nat) (w0 : World) (T : TypeId) (z r1 r2 r3 s1 s2 s3 : Array Value) (fr : Value → Value → Value → Value → Value → Value → Value → Value → Value → Act) (l0 l1 l2 l3 l4 l5 l6 l7 l8 l9 l10 l11 : Bool) (v1 u1 v2 u2 v3 u3 x1 x2 x3 : Value) (p1 p2 p3 : Nat) (a : Act) (w : World) : Prop where
 frame : a = fr v1 u1 v2 u2 v3 u3 x1 x2 x3
 below : Below B w0 w
 d1 : l0 = true → v1 = .agg r1
 d2 : l2 = true → v2 = .agg r2
 d3 : l4 = true → v3 = .agg r3
 c1 : l1 = true → u1 = .agg s1
 c2 : l3 = true → u2 = .agg s2
 c3 : l5 = true → u3 = .agg s3
 n1 : l6 = false → x1 = undef
 n2 : l7 = false → x2 = undef
 n3 : l8 = false → x3 = undef
 m1 : l6 = true → x1 = .pointer (some ⟨p1, 0, none⟩) ∧ B ≤ p1 ∧ w.heap[p1]? = some (.cells (if l9 then s1 else z) T (0, 0))
 m2 : l7 = true → x2 = .pointer (some ⟨p2, 0, none⟩) ∧ B ≤ p2 ∧ w.heap[p2]? = some (.cells (if l10 then s2 else z) T (0, 0))
 m3 : l8 = true → x3 = .pointer (some ⟨p3, 0, none⟩) ∧ B ≤ p3 ∧ w.heap[p3]? = some (.cells (if l11 then s3 else z) T (0, 0))
 n12 : l6 = true → l7 = true → p1 ≠ p2
 n13 : l6 = true → l8 = true → p1 ≠ p3
 n23 : l7 = true → l8 = true → p2 ≠ p3
 e1 : l9 = true → l6 = true
 e2 : l10 = true → l7 = true
 e3 : l11 = true → l8 = true
theorem lt_of_block {w : World} {p : Nat} {o : Obj} (h : w.heap[p]? = some o) : p < w.heap.size := (Array.getElem?_eq_some_iff.1 h).1
def arrF (n : Nat) (f : Nat → Value) : Array Value := ((List.range n).map f).toArray
theorem arrF_get {n k : Nat} (f : Nat → Value) (h : k < n) : (arrF n f)[k]? = some (f k) := by simp [arrF, h]
theorem arrF_ext {n : Nat} {f g : Nat → Value} (h : ∀ k, k < n → f k = g k) : arrF n f = arrF n g := by
 unfold arrF
 congr 1
 apply List.map_congr_left
 intro k hk
 exact h k (List.mem_range.1 hk)
theorem arrF_set (n i : Nat) (f : Nat → Value) (v : Value) : (arrF n f).setIfInBounds i v = arrF n (fun k => if k = i then v else f k) := by
 apply Array.ext
 ·simp [arrF]
 ·intro k h1 h2
  simp only [arrF, List.getElem_toArray, List.getElem_map, List.getElem_range]
  by_cases q : k = i
  ·simp [q]
  ·simp [q, Ne.symm q]
def uF (X : Nat → Nat) (k : Nat) : Value := .int .u64 ((X k : Nat) : Int)
def orA (X : Nat → Nat) (h : Nat) : Nat → Nat
 | 0 => 0
 | y + 1 => orA X h y ||| X (y * 2 + h)
def livF (X : Nat → Nat) : Nat → Nat
 | 0 => 0
 | y + 1 => if X (y * 2) = 0 ∧ X (y * 2 + 1) = 0 then livF X y else if orA X 0 y = 0 ∧ orA X 1 y = 0 then y else livF X y
def livT (X : Nat → Nat) : Nat → Nat
 | 0 => 0
 | y + 1 => if X (y * 2) = 0 ∧ X (y * 2 + 1) = 0 then livT X y else y + 1
structure LV (w wr : World) (X : Nat → Nat) (y : Nat) : Prop where
 below : Below w.heap.size w wr
 b0 : wr.heap[w.heap.size]? = some (.cells #[.int .i64 0, .int .i64 ((livF X y : Nat) : Int)] 193 (0, 0))
 b1 : wr.heap[w.heap.size + 1]? = some (.cells #[.int .i64 0, .int .i64 ((livT X y : Nat) : Int)] 193 (0, 0))
 b2 : wr.heap[w.heap.size + 1 + 1]? = some (.cells #[.int .u64 ((orA X 0 y : Nat) : Int), .int .u64 ((orA X 1 y : Nat) : Int)] 106 (0, 0))
theorem LV.next {w wr w' : World} {X : Nat → Nat} {y : Nat} (h : LV w wr X y) (b : Below wr.heap.size wr w') : LV w w' X y :=
 ⟨h.below.trans (b.mono h.below.size), (b.block _ (lt_of_block h.b0)).trans h.b0, (b.block _ (lt_of_block h.b1)).trans h.b1, (b.block _ (lt_of_block h.b2)).trans h.b2⟩
theorem LV.zero {w wr : World} {X : Nat → Nat} {y : Nat} (h : LV w wr X y) (h0 : X (y * 2) = 0) (h1 : X (y * 2 + 1) = 0) : LV w wr X (y + 1) := by
 refine ⟨h.below, ?_, ?_, ?_⟩
 ·rw [livF, if_pos ⟨h0, h1⟩]; exact h.b0
 ·rw [livT, if_pos ⟨h0, h1⟩]; exact h.b1
 ·rw [orA, orA, show y * 2 + 0 = y * 2 from rfl, h0, h1, Nat.or_zero, Nat.or_zero]; exact h.b2
theorem LV.two {w wr : World} {X : Nat → Nat} {y : Nat} (h : LV w wr X y) (h0 : ¬ (X (y * 2) = 0 ∧ X (y * 2 + 1) = 0)) (ha : ¬ (orA X 0 y = 0 ∧ orA X 1 y = 0)) (t : Int) (o0 o1 : Nat) (ht : t = ((y + 1 : Nat) : Int)) (e0 : o0 = orA X 0 y ||| X (y * 2)) (e1 : o1 = orA X 1 y ||| X (y * 2 + 1)) :
  LV w (((wr.setCell ⟨w.heap.size + 1, 1, none⟩ (.int .i64 t)).setCell ⟨w.heap.size + 1 + 1, 0, none⟩ (.int .u64 (o0 : Int))).setCell ⟨w.heap.size + 1 + 1, 1, none⟩ (.int .u64 (o1 : Int))) X (y + 1) := by
 subst ht e0 e1
 refine ⟨((h.below.setCell (by simp) _).setCell (by simp; omega) _).setCell (by simp; omega) _, ?_, ?_, ?_⟩
 ·rw [Below.heap_setCell _ _ _ _ (by simp; omega), Below.heap_setCell _ _ _ _ (by simp; omega), Below.heap_setCell _ _ _ _ (by simp), livF, if_neg h0, if_neg ha]; exact h.b0
 ·rw [Below.heap_setCell _ _ _ _ (by simp), Below.heap_setCell _ _ _ _ (by simp), heap_setCell_same _ _ _ _ _ _ h.b1, livT, if_neg h0]; rfl
 ·have e1 := heap_setCell_same (wr.setCell ⟨w.heap.size + 1, 1, none⟩ (.int .i64 ((y + 1 : Nat) : Int))) (w.heap.size + 1 + 1) 0 _ _ (.int .u64 ((orA X 0 y ||| X (y * 2) : Nat) : Int)) ((Below.heap_setCell _ _ _ _ (by simp)).trans h.b2)
  rw [heap_setCell_same _ _ _ _ _ _ e1, orA, orA]; rfl
theorem LV.one {w wr : World} {X : Nat → Nat} {y : Nat} (h : LV w wr X y) (h0 : ¬ (X (y * 2) = 0 ∧ X (y * 2 + 1) = 0)) (ha : orA X 0 y = 0 ∧ orA X 1 y = 0) (t : Int) (o0 o1 : Nat) (ht : t = ((y + 1 : Nat) : Int)) (e0 : o0 = orA X 0 y ||| X (y * 2)) (e1 : o1 = orA X 1 y ||| X (y * 2 + 1)) :
  LV w ((((wr.setCell ⟨w.heap.size, 1, none⟩ (.int .i64 (y : Int))).setCell ⟨w.heap.size + 1, 1, none⟩ (.int .i64 t)).setCell ⟨w.heap.size + 1 + 1, 0, none⟩ (.int .u64 (o0 : Int))).setCell ⟨w.heap.size + 1 + 1, 1, none⟩ (.int .u64 (o1 : Int))) X (y + 1) := by
 subst ht e0 e1
 refine ⟨(((h.below.setCell (by simp) _).setCell (by simp) _).setCell (by simp; omega) _).setCell (by simp; omega) _, ?_, ?_, ?_⟩
 ·rw [Below.heap_setCell _ _ _ _ (by simp; omega), Below.heap_setCell _ _ _ _ (by simp; omega), Below.heap_setCell _ _ _ _ (by simp), heap_setCell_same _ _ _ _ _ _ h.b0, livF, if_neg h0, if_pos ha]; rfl
 ·have e1 := (Below.heap_setCell wr ⟨w.heap.size, 1, none⟩ (.int .i64 (y : Int)) (w.heap.size + 1) (by simp)).trans h.b1
  rw [Below.heap_setCell _ _ _ _ (by simp), Below.heap_setCell _ _ _ _ (by simp), heap_setCell_same _ _ _ _ _ _ e1, livT, if_neg h0]; rfl
 ·have e0 := (Below.heap_setCell wr ⟨w.heap.size, 1, none⟩ (.int .i64 (y : Int)) (w.heap.size + 1 + 1) (by simp; omega)).trans h.b2
  have e1 := heap_setCell_same ((wr.setCell ⟨w.heap.size, 1, none⟩ (.int .i64 (y : Int))).setCell ⟨w.heap.size + 1, 1, none⟩ (.int .i64 ((y + 1 : Nat) : Int))) (w.heap.size + 1 + 1) 0 _ _ (.int .u64 ((orA X 0 y ||| X (y * 2) : Nat) : Int)) ((Below.heap_setCell _ _ _ _ (by simp)).trans e0)
  rw [heap_setCell_same _ _ _ _ _ _ e1, orA, orA]; rfl
theorem two_other {w : World} {g : Nat} {o : Obj} (h : w.heap[g]? = some o) (b i : Nat) (v : Value) (hn : g ≠ b) : (w.setCell ⟨b, i, none⟩ v).heap[g]? = some o := (Below.heap_setCell _ _ _ _ hn).trans h
theorem heap_atX (w : World) (o : Obj) (k : Nat) (h : k = w.heap.size) : (w.alloc o).heap[k]? = some o := by subst h; exact heap_alloc_new w o
open Go.Maps (Keyed)
def sqC (q : Sq) : List Value := [.int .i32 (q.a : Int), .int .i32 (q.b : Int), .int .i32 (q.c : Int), .int .i32 (q.d : Int), .int .u64 (q.k : Int), .int .i64 q.l]
def flQ (qs : List Sq) : List Value := qs.flatMap sqC
theorem flQ_append (xs ys : List Sq) : flQ (xs ++ ys) = flQ xs ++ flQ ys := by unfold flQ; simp
theorem flQ_get : ∀ (ys : List Sq) (k : Nat) (i : Nat), k < ys.length → i < 6 → (flQ ys)[k * 6 + i]? = (sqC (sqA ys k))[i]?
 | [], k, i, hk, _ => absurd hk (by simp)
 | p :: r, 0, i, hk, hi => by
  show (sqC p ++ flQ r)[0 * 6 + i]? = _
  rw [Nat.zero_mul, Nat.zero_add, List.getElem?_append_left (by simpa [sqC] using hi)]
  rfl
 | p :: r, k + 1, i, hk, hi => by
  have ih := flQ_get r k i (by simpa using hk) hi
  show (sqC p ++ flQ r)[(k + 1) * 6 + i]? = _
  rw [List.getElem?_append_right (by simp [sqC]; omega), show (k + 1) * 6 + i - (sqC p).length = k * 6 + i by simp [sqC]; omega, ih]
  rfl
theorem one_flQ (ys : List Sq) : ∀ u ∈ flQ ys, u.oneCell' = true := fun u hu => by
 unfold flQ at hu
 obtain ⟨q, -, h⟩ := List.mem_flatMap.1 hu
 simp [sqC] at h
 rcases h with rfl | rfl | rfl | rfl | rfl | rfl <;> rfl
/-! Keys of the maps: eights by their cells, wholes by their parts. -/
theorem law8 : Keyed Tryz.prog 88 := Maps.int_keyed Tryz.underlying88
def k8 (k : Nat) : Lit := .int .u64 (k : Int)
theorem key8 {k : Nat} (h : k < 2 ^ 64) : keyOf Tryz.prog 88 (.int .u64 (k : Int)) = some (k8 k) := Maps.keyOf_int_mk Tryz.underlying88 (by simp [Lit.wf, IntKind.min, IntKind.max, IntKind.bits, IntKind.signed]; omega)
theorem k8_inj {k j : Nat} (h : k8 k = k8 j) : k = j := by
 unfold k8 at h
 injection h with _ h
 omega
theorem laidOutH : laidOutB Tryz.prog = true := by kernel_rfl
theorem typesH : Tryz.prog.types.size = 269 := by kernel_rfl
theorem rowH4 : (87 : TypeId) < Tryz.prog.types.size := of_decide_eq_true (by kernel_rfl)
theorem cellsH4 : Tryz.prog.cellsOf 87 = 4 := by kernel_rfl
theorem cellsHi : Tryz.prog.cellsOf 21 = 1 := by kernel_rfl
theorem deepH4 : Tryz.prog.keyType 87 = true := by kernel_rfl
theorem wideH4 : (match Tryz.prog.underlying 87 with | some (.array _ _) | some (.struct _) => true | _ => false) = true := by rw [Tryz.underlying87]
set_option maxRecDepth 100000 in
theorem law4 : Keyed Tryz.prog 87 := Keyed.of_law (deep_law_laid laidOutH (m := 4) (by omega) rowH4 (by kernel_rfl) wideH4)
theorem formedH4 {x y z t : Int} : (Value.agg #[.int .i32 x, .int .i32 y, .int .i32 z, .int .i32 t]).formed Tryz.prog 87 = true := by simp [Value.formed, Tryz.underlying87, cellsH4]
def k4 (x y z t : Nat) : Lit := .string (keyBytes [.int .i32 (x : Int), .int .i32 (y : Int), .int .i32 (z : Int), .int .i32 (t : Int)])
theorem wfH4 {x : Nat} (h : x ≤ 2000001) : (Lit.int .i32 (x : Int)).wf = true := by simp [Lit.wf, IntKind.min, IntKind.max, IntKind.bits, IntKind.signed]; omega
theorem key4 {x y z t : Nat} (hx : x ≤ 2000001) (hy : y ≤ 2000001) (hz : z ≤ 2000001) (ht : t ≤ 2000001) : keyOf Tryz.prog 87 (.agg #[.int .i32 (x : Int), .int .i32 (y : Int), .int .i32 (z : Int), .int .i32 (t : Int)]) = some (k4 x y z t) := by
 have h1 := wfH4 hx
 have h2 := wfH4 hy
 have h3 := wfH4 hz
 have h4 := wfH4 ht
 unfold keyOf k4
 rw [Tryz.underlying87]
 simp only [deepH4, formedH4, Bool.and_self, if_true]
 have h3 : Tryz.prog.keyLits (Tryz.prog.types.size + 1) 87 (Value.agg #[.int .i32 (x : Int), .int .i32 (y : Int), .int .i32 (z : Int), .int .i32 (t : Int)]).cells.toList = some [.int .i32 (x : Int), .int .i32 (y : Int), .int .i32 (z : Int), .int .i32 (t : Int)] := by
  obtain ⟨n, hn⟩ : ∃ n, Tryz.prog.types.size = n + 1 := ⟨269 - 1, by rw [typesH]⟩
  rw [hn]
  simp [Program.keyLits, Tryz.underlying87, Tryz.underlying21, Value.cells, cellsHi, cellsH4, h1, h2, h3, h4, show List.range 4 = [0, 1, 2, 3] from rfl]
 rw [h3]
 rfl
theorem k4_inj {x y z t x' y' z' t' : Nat} (hx : x ≤ 2000001) (hy : y ≤ 2000001) (hz : z ≤ 2000001) (ht : t ≤ 2000001) (hx' : x' ≤ 2000001) (hy' : y' ≤ 2000001) (hz' : z' ≤ 2000001) (ht' : t' ≤ 2000001) (h : k4 x y z t = k4 x' y' z' t') : x = x' ∧ y = y' ∧ z = z' ∧ t = t' := by
 have := law4.inj (key4 hx hy hz ht) ((key4 hx' hy' hz' ht').trans (by rw [h]))
 have h3 : (x : Int) = x' ∧ (y : Int) = y' ∧ (z : Int) = z' ∧ (t : Int) = t' := by simpa using this
 omega
def Kn8 (D : DataW Unit) (qs : List Sq) : Prop := ∀ k, k ≠ 0 → k < 2 ^ 64 → ∃ t, Nm8 qs k t ∧ Maps.has D (k8 k) = decide (t ≠ 0) ∧ D.atKey (k8 k) (.lit (.int .i32 0)) = .lit (.int .i32 (t : Int))
def Kn4 (D : DataW Unit) (qs : List Sq) : Prop := ∀ a b c d, ¬ (a = 0 ∧ b = 0 ∧ c = 0 ∧ d = 0) → a ≤ 2000001 → b ≤ 2000001 → c ≤ 2000001 → d ≤ 2000001 → ∃ t, Nm4 qs a b c d t ∧ Maps.has D (k4 a b c d) = decide (t ≠ 0) ∧ D.atKey (k4 a b c d) (.lit (.int .i32 0)) = .lit (.int .i32 (t : Int))
def mpE : Option (Nat × Nat) → Value
 | none => .map none
 | some p => .map (some p.1)
def mpW : Option (Nat × Nat) → Value
 | none => .map none
 | some p => .map (some p.2)
def mpB : Option (Nat × Nat) → Nat → Prop
 | none, _ => False
 | some p, k => k = p.1 ∨ k = p.2
def MpA (w : World) (B : Nat) (qs : List Sq) : Option (Nat × Nat) → Prop
 | none => True
 | some p => (B ≤ p.1 ∧ B ≤ p.2 ∧ p.1 ≠ p.2) ∧ (∃ D : DataW Unit, w.ownsMap Tryz.prog 88 (plainElem Tryz.prog 21) p.1 qs.length D ∧ Maps.IsMap D ∧ Kn8 D qs) ∧ (∃ D : DataW Unit, w.ownsMap Tryz.prog 87 (plainElem Tryz.prog 21) p.2 qs.length D ∧ Maps.IsMap D ∧ Kn4 D qs) ∧ UnQ qs
theorem own_keep {V V' : World} {k : TypeId} {R : Value → Option (DataW Unit × List MemPlace)} {b n : Nat} {D : DataW Unit} (h : V.ownsMap Tryz.prog k R b n D) (hb : V'.heap[b]? = V.heap[b]?) : V'.ownsMap Tryz.prog k R b n D := by
 obtain ⟨es, clock, h1, r⟩ := h
 exact ⟨es, clock, hb.trans h1, r⟩
theorem MpA.keep {w w' : World} {B : Nat} {qs : List Sq} {mp : Option (Nat × Nat)} (h : MpA w B qs mp) (hk : ∀ k, mpB mp k → w'.heap[k]? = w.heap[k]?) : MpA w' B qs mp := by
 cases mp with
 | none => exact h
 | some p =>
  obtain ⟨h0, ⟨D, h1, h2, h3⟩, ⟨E, g1, g2, g3⟩, u⟩ := h
  exact ⟨h0, ⟨D, own_keep h1 (hk _ (Or.inl rfl)), h2, h3⟩, ⟨E, own_keep g1 (hk _ (Or.inr rfl)), g2, g3⟩, u⟩
theorem MpA.weak {w : World} {B B' : Nat} {qs : List Sq} {mp : Option (Nat × Nat)} (h : MpA w B qs mp) (hb : B' ≤ B) : MpA w B' qs mp := by
 cases mp with
 | none => exact h
 | some p => exact ⟨⟨Nat.le_trans hb h.1.1, Nat.le_trans hb h.1.2.1, h.1.2.2⟩, h.2⟩
theorem MpA.isMap {w : World} {B : Nat} {qs : List Sq} {mp : Option (Nat × Nat)} (h : MpA w B qs mp) {k : Nat} (hk : mpB mp k) : ∃ es c, w.heap[k]? = some (.map es c) := by
 cases mp with
 | none => exact absurd hk id
 | some p =>
  obtain ⟨h0, ⟨D, ⟨es, c, h1, _⟩, _⟩, ⟨E, ⟨es', c', g1, _⟩, _⟩, u⟩ := h
  rcases hk with rfl | rfl
  ·exact ⟨_, _, h1⟩
  ·exact ⟨_, _, g1⟩
theorem MpA.ge {w : World} {B : Nat} {qs : List Sq} {mp : Option (Nat × Nat)} (h : MpA w B qs mp) {k : Nat} (hk : mpB mp k) : B ≤ k := by
 cases mp with
 | none => exact absurd hk id
 | some p =>
  rcases hk with rfl | rfl
  ·exact h.1.1
  ·exact h.1.2.1
theorem MpA.lt {w : World} {B : Nat} {qs : List Sq} {mp : Option (Nat × Nat)} (h : MpA w B qs mp) {k : Nat} (hk : mpB mp k) : k < w.heap.size := by
 obtain ⟨es, c, e⟩ := h.isMap hk
 exact lt_of_block e
structure StkA (w : World) (sb B g cap : Nat) (qs : List Sq) (mp : Option (Nat × Nat) := none) : Prop where
 blkM : w.heap[sb]? = some (.cells #[.slice (some ⟨g, 0, none⟩) qs.length cap, mpE mp, mpW mp] 86 (0, 0))
 row : w.ownsRow B 90 6 (.slice (some ⟨g, 0, none⟩) qs.length cap) qs.length (flQ qs)
 le : B ≤ sb
 st : StQ qs
 lv : LvQ qs
 map : MpA w B qs mp
theorem StkA.blk {w : World} {sb B g cap : Nat} {qs : List Sq} (h : StkA w sb B g cap qs) : w.heap[sb]? = some (.cells #[.slice (some ⟨g, 0, none⟩) qs.length cap, .map none, .map none] 86 (0, 0)) := h.blkM
theorem StkA.c0 {w : World} {sb B g cap : Nat} {qs : List Sq} {mp : Option (Nat × Nat)} (h : StkA w sb B g cap qs mp) : w.cell? ⟨sb, 0, none⟩ = some (.slice (some ⟨g, 0, none⟩) qs.length cap) := by
 have := cell_of_row w sb 0 _ _ _ h.blkM
 simpa using this
theorem StkA.rowB {w : World} {sb B g cap : Nat} {qs : List Sq} {mp : Option (Nat × Nat)} (h : StkA w sb B g cap qs mp) : B ≤ g ∧ qs.length ≤ cap ∧ ∃ cur : Array Value, w.heap[g]? = some (.cells cur 90 (0, 0)) ∧ cur.size = cap * 6 ∧ cur.toList.take (qs.length * 6) = flQ qs := by
 rcases h.row.2 with ⟨h1, _⟩ | ⟨g', cap', cur, e, hb, hh, hc, _, hs, ht⟩
 ·cases h1
 ·cases e
  exact ⟨hb, hc, cur, hh, hs, ht⟩
theorem StkA.ne {w : World} {sb B g cap : Nat} {qs : List Sq} {mp : Option (Nat × Nat)} (h : StkA w sb B g cap qs mp) : g ≠ sb := by
 obtain ⟨-, -, cur, e, -, -⟩ := h.rowB
 intro q
 subst q
 rw [h.blkM] at e
 injection e with e
 injection e with _ e
 cases e
theorem StkA.lt {w : World} {sb B g cap : Nat} {qs : List Sq} {mp : Option (Nat × Nat)} (h : StkA w sb B g cap qs mp) : sb < w.heap.size ∧ g < w.heap.size := by
 obtain ⟨-, -, cur, e, -, -⟩ := h.rowB
 exact ⟨lt_of_block h.blkM, lt_of_block e⟩
theorem StkA.nomap {w : World} {sb B g cap : Nat} {qs : List Sq} {mp : Option (Nat × Nat)} (h : StkA w sb B g cap qs mp) {q : Nat} {cs : Array Value} {ty : TypeId} {z : Nat × Nat} (hq : w.heap[q]? = some (.cells cs ty z)) : ¬ mpB mp q := fun e => by
 obtain ⟨es, c, e1⟩ := h.map.isMap e
 rw [hq] at e1
 cases e1
theorem StkA.maps_ne {w : World} {sb B g cap : Nat} {qs : List Sq} {mp : Option (Nat × Nat)} (h : StkA w sb B g cap qs mp) : ¬ mpB mp sb ∧ ¬ mpB mp g := by
 obtain ⟨-, -, cur, e, -, -⟩ := h.rowB
 exact ⟨h.nomap h.blkM, h.nomap e⟩
theorem StkA.at_ {w : World} {sb B g cap : Nat} {qs : List Sq} {mp : Option (Nat × Nat)} (h : StkA w sb B g cap qs mp) {t i : Nat} (ht : t < qs.length) (hi : i < 6) : w.cell? ⟨g, t * 6 + i, none⟩ = (sqC (sqA qs t))[i]? := by
 obtain ⟨-, hc, cur, e, hs, hk⟩ := h.rowB
 have lt : t * 6 + i < qs.length * 6 := by omega
 have := flQ_get qs t i ht hi
 rw [← hk, List.getElem?_take_of_lt lt] at this
 rw [← this, cell_of_row w g (t * 6 + i) cur _ _ e]
 simp
theorem StkA.cells {w : World} {sb B g cap : Nat} {qs : List Sq} {mp : Option (Nat × Nat)} (h : StkA w sb B g cap qs mp) {t : Nat} (ht : t < qs.length) : w.cell? ⟨g, t * 6, none⟩ = some (.int .i32 ((sqA qs t).a : Int)) ∧ w.cell? ⟨g, t * 6 + 1, none⟩ = some (.int .i32 ((sqA qs t).b : Int)) ∧ w.cell? ⟨g, t * 6 + 2, none⟩ = some (.int .i32 ((sqA qs t).c : Int)) ∧ w.cell? ⟨g, t * 6 + 3, none⟩ = some (.int .i32 ((sqA qs t).d : Int)) ∧ w.cell? ⟨g, t * 6 + 4, none⟩ = some (.int .u64 ((sqA qs t).k : Int)) ∧ w.cell? ⟨g, t * 6 + 5, none⟩ = some (.int .i64 (sqA qs t).l) :=
 ⟨h.at_ (i := 0) ht (by omega), h.at_ (i := 1) ht (by omega), h.at_ (i := 2) ht (by omega), h.at_ (i := 3) ht (by omega), h.at_ (i := 4) ht (by omega), h.at_ (i := 5) ht (by omega)⟩
theorem StkA.keepM {w w' : World} {sb B g cap : Nat} {qs : List Sq} {mp : Option (Nat × Nat)} (h : StkA w sb B g cap qs mp) (h1 : w'.heap[sb]? = w.heap[sb]?) (h2 : w'.heap[g]? = w.heap[g]?) (h3 : ∀ k, mpB mp k → w'.heap[k]? = w.heap[k]?) : StkA w' sb B g cap qs mp := by
 refine ⟨h1.trans h.blkM, ⟨h.row.1, ?_⟩, h.le, h.st, h.lv, h.map.keep h3⟩
 rcases h.row.2 with h3 | ⟨g', cap', cur, e, hb, hh, r⟩
 ·exact Or.inl h3
 ·cases e
  exact Or.inr ⟨g, cap, cur, rfl, hb, h2.trans hh, r⟩
theorem StkA.keep {w w' : World} {sb B g cap : Nat} {qs : List Sq} (h : StkA w sb B g cap qs) (h1 : w'.heap[sb]? = w.heap[sb]?) (h2 : w'.heap[g]? = w.heap[g]?) : StkA w' sb B g cap qs := h.keepM h1 h2 (fun k e => absurd e id)
theorem StkA.below {w w' : World} {sb B g cap : Nat} {qs : List Sq} {mp : Option (Nat × Nat)} (h : StkA w sb B g cap qs mp) (b : Below w.heap.size w w') : StkA w' sb B g cap qs mp := h.keepM (b.block _ h.lt.1) (b.block _ h.lt.2) (fun k e => b.block _ (h.map.lt e))
theorem StkA.alloc {w : World} {sb B g cap : Nat} {qs : List Sq} {mp : Option (Nat × Nat)} (h : StkA w sb B g cap qs mp) (o : Obj) : StkA (w.alloc o) sb B g cap qs mp := h.keepM (heap_alloc_old _ _ h.lt.1) (heap_alloc_old _ _ h.lt.2) (fun k e => heap_alloc_old _ _ (h.map.lt e))
structure KpS (sb g g' : Nat) (V V' : World) (mp : Option (Nat × Nat) := none) : Prop where
 os : V'.os = V.os
 tape : V'.tape = V.tape
 output : V'.output = V.output
 size : V.heap.size ≤ V'.heap.size
 keepM : ∀ k, k < V.heap.size → k ≠ sb → k ≠ g → ¬ mpB mp k → V'.heap[k]? = V.heap[k]?
 new : g' = g ∨ V.heap.size ≤ g'
theorem KpS.keep {sb g g' : Nat} {V V' : World} (h : KpS sb g g' V V') : ∀ k, k < V.heap.size → k ≠ sb → k ≠ g → V'.heap[k]? = V.heap[k]? := fun k h1 h2 h3 => h.keepM k h1 h2 h3 id
theorem KpS.refl (sb g : Nat) (V : World) {mp : Option (Nat × Nat)} : KpS sb g g V V mp := ⟨rfl, rfl, rfl, Nat.le_refl _, fun _ _ _ _ _ => rfl, Or.inl rfl⟩
theorem KpS.trans {sb g g' g'' : Nat} {V V' V'' : World} {mp : Option (Nat × Nat)} (h : KpS sb g g' V V' mp) (k : KpS sb g' g'' V' V'' mp) : KpS sb g g'' V V'' mp :=
 ⟨k.os.trans h.os, k.tape.trans h.tape, k.output.trans h.output, Nat.le_trans h.size k.size, fun i hi h1 h2 h3 => (k.keepM i (Nat.lt_of_lt_of_le hi h.size) h1 (by rcases h.new with e | e <;> omega) h3).trans (h.keepM i hi h1 h2 h3), by rcases h.new with e | e <;> rcases k.new with f | f <;> first | (left; omega) | (right; have := h.size; omega)⟩
theorem KpS.of_below {sb g : Nat} {V V' : World} {mp : Option (Nat × Nat)} (h : Below V.heap.size V V') : KpS sb g g V V' mp := ⟨h.os, h.tape, h.output, h.size, fun k hk _ _ _ => h.block k hk, Or.inl rfl⟩
theorem KpS.belowM {sb g g' B : Nat} {V V' : World} {mp : Option (Nat × Nat)} (h : KpS sb g g' V V' mp) (h1 : B ≤ sb) (h2 : B ≤ g) (h3 : B ≤ V.heap.size) (h4 : ∀ k, mpB mp k → B ≤ k) : Below B V V' := ⟨h.os, h.tape, h.output, h.size, fun k hk => h.keepM k (by omega) (by omega) (by omega) (fun e => by have := h4 k e; omega)⟩
theorem KpS.below {sb g g' B : Nat} {V V' : World} (h : KpS sb g g' V V') (h1 : B ≤ sb) (h2 : B ≤ g) (h3 : B ≤ V.heap.size) : Below B V V' := h.belowM h1 h2 h3 (fun k e => absurd e id)
theorem StkA.drewS {w : World} {sb B g cap : Nat} {qs : List Sq} {mp : Option (Nat × Nat)} (h : StkA w sb B g cap qs mp) : StkA w.drew sb B g cap qs mp := h.keepM rfl rfl (fun _ _ => rfl)
theorem KpS.drewL {sb g g' : Nat} {V V' : World} {mp : Option (Nat × Nat)} (h : KpS sb g g' V.drew V' mp) : KpS sb g g' V V' mp := ⟨h.os, h.tape, h.output, h.size, h.keepM, h.new⟩
theorem KpS.set {sb g g' q i : Nat} {V U : World} {mp : Option (Nat × Nat)} (h : KpS sb g g' V U mp) (hq : V.heap.size ≤ q) (v : Value) : KpS sb g g' V (U.setCell ⟨q, i, none⟩ v) mp :=
 ⟨h.os, h.tape, h.output, by rw [World.size_setCell]; exact h.size, fun k hk h1 h2 h3 => (Below.heap_setCell _ _ _ _ (by show k ≠ q; omega)).trans (h.keepM k hk h1 h2 h3), h.new⟩
theorem StkA.ne_four {w : World} {sb B g cap : Nat} {qs : List Sq} {mp : Option (Nat × Nat)} (h : StkA w sb B g cap qs mp) {q : Nat} {cs : Array Value} {ty : TypeId} {z : Nat × Nat} (hq : w.heap[q]? = some (.cells cs ty z)) (ht : ty ≠ 90) (hs : ty ≠ 86) : q ≠ sb ∧ q ≠ g := by
 obtain ⟨-, -, cur, e, -, -⟩ := h.rowB
 constructor
 ·intro c; subst c; rw [h.blkM] at hq; injection hq with hq; injection hq with _ hq; exact hs hq.symm
 ·intro c; subst c; rw [e] at hq; injection hq with hq; injection hq with _ hq; exact ht hq.symm
theorem StkA.setM {w : World} {sb B g cap : Nat} {qs : List Sq} {mp : Option (Nat × Nat)} (h : StkA w sb B g cap qs mp) {q i : Nat} (h1 : q ≠ sb) (h2 : q ≠ g) (h3 : ¬ mpB mp q) (v : Value) : StkA (w.setCell ⟨q, i, none⟩ v) sb B g cap qs mp :=
 h.keepM (Below.heap_setCell _ _ _ _ (fun e => h1 e.symm)) (Below.heap_setCell _ _ _ _ (fun e => h2 e.symm)) (fun k e => Below.heap_setCell _ _ _ _ (fun e2 => h3 (by rw [← show k = q from e2]; exact e)))
theorem StkA.set {w : World} {sb B g cap : Nat} {qs : List Sq} (h : StkA w sb B g cap qs) {q i : Nat} (h1 : q ≠ sb) (h2 : q ≠ g) (v : Value) : StkA (w.setCell ⟨q, i, none⟩ v) sb B g cap qs := h.setM h1 h2 id v
structure StkR (w : World) (sb B g cap : Nat) (qs : List Sq) (m1 m2 : Value) : Prop where
 blk : w.heap[sb]? = some (.cells #[.slice (some ⟨g, 0, none⟩) qs.length cap, m1, m2] 86 (0, 0))
 row : w.ownsRow B 90 6 (.slice (some ⟨g, 0, none⟩) qs.length cap) qs.length (flQ qs)
 le : B ≤ sb
 st : StQ qs
 lv : LvQ qs
theorem StkA.r {w : World} {sb B g cap : Nat} {qs : List Sq} {mp : Option (Nat × Nat)} (h : StkA w sb B g cap qs mp) : StkR w sb B g cap qs (mpE mp) (mpW mp) := ⟨h.blkM, h.row, h.le, h.st, h.lv⟩
theorem StkR.a {w : World} {sb B g cap : Nat} {qs : List Sq} {mp : Option (Nat × Nat)} (h : StkR w sb B g cap qs (mpE mp) (mpW mp)) (hm : MpA w B qs mp) : StkA w sb B g cap qs mp := ⟨h.blk, h.row, h.le, h.st, h.lv, hm⟩
theorem StkR.rowB {w : World} {sb B g cap : Nat} {qs : List Sq} {m1 m2 : Value} (h : StkR w sb B g cap qs m1 m2) : B ≤ g ∧ qs.length ≤ cap ∧ ∃ cur : Array Value, w.heap[g]? = some (.cells cur 90 (0, 0)) ∧ cur.size = cap * 6 ∧ cur.toList.take (qs.length * 6) = flQ qs := by
 rcases h.row.2 with ⟨h1, _⟩ | ⟨g', cap', cur, e, hb, hh, hc, _, hs, ht⟩
 ·cases h1
 ·cases e
  exact ⟨hb, hc, cur, hh, hs, ht⟩
theorem StkR.ne {w : World} {sb B g cap : Nat} {qs : List Sq} {m1 m2 : Value} (h : StkR w sb B g cap qs m1 m2) : g ≠ sb := by
 obtain ⟨-, -, cur, e, -, -⟩ := h.rowB
 intro q
 subst q
 rw [h.blk] at e
 injection e with e
 injection e with _ e
 cases e
theorem StkR.lt {w : World} {sb B g cap : Nat} {qs : List Sq} {m1 m2 : Value} (h : StkR w sb B g cap qs m1 m2) : sb < w.heap.size ∧ g < w.heap.size := by
 obtain ⟨-, -, cur, e, -, -⟩ := h.rowB
 exact ⟨lt_of_block h.blk, lt_of_block e⟩
theorem StkR.keep {w w' : World} {sb B g cap : Nat} {qs : List Sq} {m1 m2 : Value} (h : StkR w sb B g cap qs m1 m2) (h1 : w'.heap[sb]? = w.heap[sb]?) (h2 : w'.heap[g]? = w.heap[g]?) : StkR w' sb B g cap qs m1 m2 := by
 refine ⟨h1.trans h.blk, ⟨h.row.1, ?_⟩, h.le, h.st, h.lv⟩
 rcases h.row.2 with h3 | ⟨g', cap', cur, e, hb, hh, r⟩
 ·exact Or.inl h3
 ·cases e
  exact Or.inr ⟨g, cap, cur, rfl, hb, h2.trans hh, r⟩
theorem StkR.alloc {w : World} {sb B g cap : Nat} {qs : List Sq} {m1 m2 : Value} (h : StkR w sb B g cap qs m1 m2) (o : Obj) : StkR (w.alloc o) sb B g cap qs m1 m2 := h.keep (heap_alloc_old _ _ h.lt.1) (heap_alloc_old _ _ h.lt.2)
theorem KpS.more {sb g g' : Nat} {V V' : World} {mp : Option (Nat × Nat)} (h : KpS sb g g' V V') : KpS sb g g' V V' mp := ⟨h.os, h.tape, h.output, h.size, fun k h1 h2 h3 _ => h.keep k h1 h2 h3, h.new⟩
end Go.Proofs.YtemhcpldflcfbaaGreatDoor
