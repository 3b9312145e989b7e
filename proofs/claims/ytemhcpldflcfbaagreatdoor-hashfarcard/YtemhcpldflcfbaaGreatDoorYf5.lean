/-
  What the last text of this claim leans on, part 5: Gr1, Gr2, Rv0.
-/
import Derived.Test.YtemhcpldflcfbaaGreatDoorYf4
import Derived.Test.YtemhcpldflcfbaaGreatDoorShelf
import Derived.Test.YtemhcpldflcfbaaGreatDoorYf1
import Derived.Laws.Bits64b
import Derived.Lib.TrailingZeros
import Derived.Lib.BitFns
import Derived.ChangeKeysEq
namespace Go.Proofs.YtemhcpldflcfbaaGreatDoor
open Go.RowKit
set_option linter.unusedVariables false
def TzTab (w : World) : Prop := ∀ j, j < 64 → w.cell? ⟨1, j, none⟩ = some (.int .u8 (Lib.deBruijn64tab.getD j 0))
theorem tz_lt {w : World} (h : TzTab w) : 1 < w.heap.size := by
 rcases Nat.lt_or_ge 1 w.heap.size with k | k
 ·exact k
 ·have := h 0 (by omega); simp [World.cell?, Array.getElem?_eq_none k] at this
theorem TzTab.below {w w' : World} (h : TzTab w) (hb : Below w.heap.size w w') : TzTab w' := fun j hj => (World.cell?_of_block (w := w) (a := ⟨1, j, none⟩) (hb.block _ (tz_lt h))).trans (h j hj)
theorem tz_key' (x a : Nat) (hx : x < 18446744073709551616) (hx0 : x ≠ 0) (hlow : x &&& (18446744073709551616 - x) = a) :
  IntKind.u64.wrap (bits BinOp.and IntKind.u64 (x : Int) (IntKind.u64.wrap (-(x : Int))) * 285870213051353865) / 288230376151711744 = ((a * 285870213051353865 % 18446744073709551616 / 288230376151711744 : Nat) : Int) := by
 have e1 : IntKind.u64.wrap (-(x : Int)) = ((18446744073709551616 - x : Nat) : Int) := by rw [IntKind.wrap_u64]; omega
 rw [e1, bits_and_u64_nat x _ hx (by omega), hlow, IntKind.wrap_u64]
 omega
theorem ctz_low {x : Nat} (h0 : 0 < x) (h : x < 2 ^ 64) : x.testBit (Lib.ctz 64 x) = true ∧ ∀ j, j < Lib.ctz 64 x → x.testBit j = false := by
 obtain ⟨m, hm, _⟩ := Lib.ctzFrom_spec 64 x h0 h
 have hc : Lib.ctz 64 x = Lib.ctzFrom 64 x := by unfold Lib.ctz; rw [if_neg (by omega)]
 rw [hc]
 obtain ⟨k, hk⟩ : ∃ k, Lib.ctzFrom 64 x = k := ⟨_, rfl⟩
 rw [hk] at hm ⊢
 have e : x = 2 ^ k * (2 * m + 1) + 0 := by omega
 have hp : 0 < 2 ^ k := Nat.pow_pos (by omega)
 refine ⟨by rw [e, Nat.testBit_two_pow_mul_add _ hp]; simp, fun j hj => by rw [e, Nat.testBit_two_pow_mul_add _ hp, if_pos hj]; simp⟩
set_option maxRecDepth 100000 in
set_option maxHeartbeats 6400000 in
theorem tz64_any (x : Nat) (w : World) (hx0 : 0 < x) (hx : x < 18446744073709551616) (hT : TzTab w) :
  Calls Tryz.prog 70 #[.int .u64 (x : Int)] w fun e w' => e = .returned (.int .i64 ((Lib.ctz 64 x : Nat) : Int)) ∧ w' = w := by
 obtain ⟨hlow, hk⟩ := Lib.lowest_bit 64 x (by omega) hx
 obtain ⟨hi, htab⟩ := Lib.deBruijn64_at _ hk
 have hcell := hT _ hi
 rw [htab] at hcell
 have key := tz_key' x _ hx (by omega) hlow
 have xz : ((x : Int) == 0) = false := by rw [beq_eq_false_iff_ne]; omega
 obtain ⟨idx, hidx⟩ : ∃ idx, 2 ^ Lib.ctz 64 x * 285870213051353865 % 18446744073709551616 / 288230376151711744 = idx := ⟨_, rfl⟩
 rw [hidx] at hi hcell key
 obtain ⟨k, hkk⟩ : ∃ k, Lib.ctz 64 x = k := ⟨_, rfl⟩
 rw [hkk] at hcell hk ⊢
 clear hlow htab hidx hkk
 go_enter Tryz.func70, Tryz.ntmps70
 go_wp2_with (simp only [key])
 go_ret
 exact ⟨rfl, rfl⟩
set_option maxRecDepth 100000 in
set_option maxHeartbeats 6400000 in
theorem tz64_zero (w : World) :
  Calls Tryz.prog 70 #[.int .u64 0] w fun e w' => e = .returned (.int .i64 64) ∧ w' = w := by
 go_enter Tryz.func70, Tryz.ntmps70
 go_wp2
 go_ret
 exact ⟨rfl, rfl⟩
theorem bitLen_top : ∀ (n x : Nat), 0 < x → x < 2 ^ n → n ≤ 64 → 0 < Lib.bitLen x ∧ Lib.bitLen x ≤ n ∧ x.testBit (Lib.bitLen x - 1) = true ∧ ∀ j, Lib.bitLen x ≤ j → x.testBit j = false := by
 intro n
 induction n with
 | zero => intro x h0 h; simp at h; omega
 | succ n ih =>
  intro x h0 h hn
  have hb := Lib.bitLen_half x (by omega) (Nat.lt_of_lt_of_le h (Nat.pow_le_pow_right (by omega) hn))
  rcases Nat.eq_zero_or_pos (x / 2) with z | z
  ·have x1 : x = 1 := by omega
   subst x1
   have : Lib.bitLen 1 = 1 := by decide
   rw [this]
   refine ⟨by omega, by omega, by decide, fun j hj => ?_⟩
   obtain ⟨k, rfl⟩ : ∃ k, j = k + 1 := ⟨j - 1, by omega⟩
   rw [Nat.testBit_succ]; simp
  ·obtain ⟨i1, i2, i3, i4⟩ := ih (x / 2) z (by rw [Nat.pow_succ] at h; omega) (by omega)
   rw [hb]
   refine ⟨by omega, by omega, ?_, fun j hj => ?_⟩
   ·rw [show 1 + Lib.bitLen (x / 2) - 1 = (Lib.bitLen (x / 2) - 1) + 1 by omega, Nat.testBit_succ]; exact i3
   ·obtain ⟨k, rfl⟩ : ∃ k, j = k + 1 := ⟨j - 1, by omega⟩
    rw [Nat.testBit_succ]; exact i4 k (by omega)
structure EndsP (R : Nat → Bool) (f e : Nat) : Prop where
 lt : f < e
 le : e ≤ 128
 first : R f = true
 ahead : ∀ x, x < f → R x = false
 last : R (e - 1) = true
 behind : ∀ x, e ≤ x → x < 128 → R x = false
def endsF (a b : Nat) : Nat := if a = 0 ∧ b = 0 then 0 else if a = 0 then 64 + Lib.ctz 64 b else Lib.ctz 64 a
def endsE (a b : Nat) : Nat := if a = 0 ∧ b = 0 then 0 else if b = 0 then Lib.bitLen a else 64 + Lib.bitLen b
theorem ctz_le {x : Nat} (h0 : 0 < x) (h : x < 2 ^ 64) : Lib.ctz 64 x < 64 := by
 rcases Nat.lt_or_ge (Lib.ctz 64 x) 64 with k | k
 ·exact k
 ·have := (ctz_low h0 h).1
  rw [test_hi h k] at this
  cases this
theorem ends_is {a b : Nat} (ha : a < 18446744073709551616) (hb : b < 18446744073709551616) (h : ¬ (a = 0 ∧ b = 0)) : EndsP (rb a b) (endsF a b) (endsE a b) := by
 unfold endsF endsE
 rw [if_neg h, if_neg h]
 have tb : 0 < b → _ := fun z => bitLen_top 64 b z hb (by omega)
 have ta : 0 < a → _ := fun z => bitLen_top 64 a z ha (by omega)
 have cb : 0 < b → _ := fun z => ctz_low z hb
 have ca : 0 < a → _ := fun z => ctz_low z ha
 have lb : 0 < b → _ := fun z => ctz_le z hb
 have la : 0 < a → _ := fun z => ctz_le z ha
 rcases Nat.eq_zero_or_pos a with a0 | a0
 ·have b0 : 0 < b := by omega
  obtain ⟨t1, t2, t3, t4⟩ := tb b0
  obtain ⟨c1, c2⟩ := cb b0
  have c3 := lb b0
  rw [if_pos a0, if_neg (by omega)]
  have top : Lib.ctz 64 b < Lib.bitLen b := by
   rcases Nat.lt_or_ge (Lib.ctz 64 b) (Lib.bitLen b) with k | k
   ·exact k
   ·rw [t4 _ k] at c1; cases c1
  refine ⟨by omega, by omega, ?_, ?_, ?_, ?_⟩
  ·unfold rb; rw [if_neg (by omega), show 64 + Lib.ctz 64 b - 64 = Lib.ctz 64 b by omega]; exact c1
  ·intro x hx; unfold rb; subst a0
   by_cases q : x < 64
   ·rw [if_pos q]; simp
   ·rw [if_neg q]; exact c2 _ (by omega)
  ·unfold rb; rw [if_neg (by omega), show 64 + Lib.bitLen b - 1 - 64 = Lib.bitLen b - 1 by omega]; exact t3
  ·intro x hx h2; unfold rb; rw [if_neg (by omega)]; exact t4 _ (by omega)
 ·obtain ⟨t1, t2, t3, t4⟩ := ta a0
  obtain ⟨c1, c2⟩ := ca a0
  have c3 := la a0
  rw [if_neg (by omega)]
  have top : Lib.ctz 64 a < Lib.bitLen a := by
   rcases Nat.lt_or_ge (Lib.ctz 64 a) (Lib.bitLen a) with k | k
   ·exact k
   ·rw [t4 _ k] at c1; cases c1
  rcases Nat.eq_zero_or_pos b with b0 | b0
  ·rw [if_pos b0]
   refine ⟨top, by omega, ?_, ?_, ?_, ?_⟩
   ·unfold rb; rw [if_pos c3]; exact c1
   ·intro x hx; unfold rb; rw [if_pos (by omega)]; exact c2 _ hx
   ·unfold rb; rw [if_pos (by omega)]; exact t3
   ·intro x hx h2; unfold rb; subst b0
    by_cases q : x < 64
    ·rw [if_pos q]; exact t4 _ hx
    ·rw [if_neg q]; simp
  ·obtain ⟨u1, u2, u3, u4⟩ := tb b0
   rw [if_neg (by omega)]
   refine ⟨by omega, by omega, ?_, ?_, ?_, ?_⟩
   ·unfold rb; rw [if_pos c3]; exact c1
   ·intro x hx; unfold rb; rw [if_pos (by omega)]; exact c2 _ hx
   ·unfold rb; rw [if_neg (by omega), show 64 + Lib.bitLen b - 1 - 64 = Lib.bitLen b - 1 by omega]; exact u3
   ·intro x hx h2; unfold rb; rw [if_neg (by omega)]; exact u4 _ (by omega)
theorem eqItems_ints {P : Program} (w : World) (d : Nat) {e : TypeId} {k : IntKind} (he : P.underlying e = some (.int k)) (xs ys : Array Value) (f g : Nat → Int) :
  ∀ is : List Nat, (∀ i ∈ is, xs[i]? = some (.int k (f i)) ∧ ys[i]? = some (.int k (g i))) → (Op.eqItems (d + 1) e 1 xs ys is).run P w = .ok (is.all fun i => f i == g i) w
 | [], _ => by simp [Op.eqItems]
 | i :: is, h => by
  have h1 := h i (by simp)
  have px : (part e xs (i * 1)).run P w = .ok (.int k (f i)) w := by rw [Nat.mul_one]; simp [part, isAgg, run_underlying he, h1.1]
  have py : (part e ys (i * 1)).run P w = .ok (.int k (g i)) w := by rw [Nat.mul_one]; simp [part, isAgg, run_underlying he, h1.2]
  have ih := eqItems_ints w d he xs ys f g is (fun j hj => h j (by simp [hj]))
  simp only [Op.eqItems, Sem.run_bind, px, py, Result.andThen_ok, run_equalIn_int w d e k k _ _ he, List.all_cons]
  cases hb : (f i == g i)
  ·simp
  ·simpa using ih
theorem equal_ints {P : Program} (w : World) (d : Nat) {t e : TypeId} {n : Nat} {k : IntKind} {i : TypeInfo} (hu : P.underlying t = some (.array n e)) (hi : P.info? e = some i) (hc : P.cellsOf e = 1) (he : P.underlying e = some (.int k)) (xs ys : Array Value) (f g : Nat → Int)
  (h : ∀ j, j < n → xs[j]? = some (.int k (f j)) ∧ ys[j]? = some (.int k (g j))) : (Op.equalIn (d + 2) t (.agg xs) (.agg ys)).run P w = .ok ((List.range n).all fun j => f j == g j) w := by
 rw [run_equalIn_array w (d + 1) xs ys hu hi, hc]
 exact eqItems_ints w d he xs ys f g _ (fun j hj => h j (List.mem_range.1 hj))
theorem eqItems_rows {P : Program} (w : World) (d : Nat) {e e2 : TypeId} {m : Nat} {k : IntKind} {i i2 : TypeInfo} (hu : P.underlying e = some (.array m e2)) (hi : P.info? e2 = some i2) (hs : P.info? e = some i) (hsz : i.size = m) (hc : P.cellsOf e2 = 1) (he : P.underlying e2 = some (.int k)) (xs ys : Array Value) (f g : Nat → Int) :
  ∀ is : List Nat, (∀ y ∈ is, ∀ j, j < m → xs[y * m + j]? = some (.int k (f (y * m + j))) ∧ ys[y * m + j]? = some (.int k (g (y * m + j)))) → (Op.eqItems (d + 2) e m xs ys is).run P w = .ok (is.all fun y => (List.range m).all fun j => f (y * m + j) == g (y * m + j)) w
 | [], _ => by simp [Op.eqItems]
 | y :: is, h => by
  have h1 := h y (by simp)
  have px : (part e xs (y * m)).run P w = .ok (.agg (xs.extract (y * m) (y * m + m))) w := by simp [part, isAgg, run_underlying hu, sizeOf, typeInfo, hs, hsz]
  have py : (part e ys (y * m)).run P w = .ok (.agg (ys.extract (y * m) (y * m + m))) w := by simp [part, isAgg, run_underlying hu, sizeOf, typeInfo, hs, hsz]
  have get : ∀ (zs : Array Value) (r : Nat → Int), (∀ j, j < m → zs[y * m + j]? = some (.int k (r (y * m + j)))) → ∀ j, j < m → (zs.extract (y * m) (y * m + m))[j]? = some (.int k (r (y * m + j))) := fun zs r hz j hj => by
   have hl : y * m + j < zs.size := (Array.getElem?_eq_some_iff.1 (hz j hj)).1
   rw [Array.getElem?_extract]
   have : j < min (y * m + m) zs.size - y * m := by omega
   rw [if_pos this]
   exact hz j hj
  have eq := equal_ints w d hu hi hc he (xs.extract (y * m) (y * m + m)) (ys.extract (y * m) (y * m + m)) (fun j => f (y * m + j)) (fun j => g (y * m + j)) (fun j hj => ⟨get xs f (fun j hj => (h1 j hj).1) j hj, get ys g (fun j hj => (h1 j hj).2) j hj⟩)
  have ih := eqItems_rows w d hu hi hs hsz hc he xs ys f g is (fun j hj => h j (by simp [hj]))
  simp only [Op.eqItems, Sem.run_bind, px, py, Result.andThen_ok, eq, List.all_cons]
  cases hb : ((List.range m).all fun j => f (y * m + j) == g (y * m + j))
  ·simp
  ·simpa using ih
theorem row_eq (a b c d : Int) (w : World) : (Op.equalIn 10000 106 (.agg #[.int .u64 a, .int .u64 b]) (.agg #[.int .u64 c, .int .u64 d])).run Tryz.prog w = .ok (a == c && b == d) w := by
 have := equal_ints (P := Tryz.prog) w 9998 (t := 106) (e := 88) (n := 2) (k := .u64) Tryz.underlying106 (i := (Tryz.prog.info? 88).getD default) (by kernel_rfl) (by kernel_rfl) Tryz.underlying88 #[.int .u64 a, .int .u64 b] #[.int .u64 c, .int .u64 d] (fun j => if j = 0 then a else b) (fun j => if j = 0 then c else d) (fun j hj => by
  have : j = 0 ∨ j = 1 := by omega
  rcases this with rfl | rfl <;> exact ⟨rfl, rfl⟩)
 rw [this]
 simp [List.range, List.range.loop]
theorem corner_eq (a b c d : Int) (w : World) : (Op.equalIn 10000 193 (.agg #[.int .i64 a, .int .i64 b]) (.agg #[.int .i64 c, .int .i64 d])).run Tryz.prog w = .ok (a == c && b == d) w := by
 have := equal_ints (P := Tryz.prog) w 9998 (t := 193) (e := 3) (n := 2) (k := .i64) Tryz.underlying193 (i := (Tryz.prog.info? 3).getD default) (by kernel_rfl) (by kernel_rfl) Tryz.underlying3 #[.int .i64 a, .int .i64 b] #[.int .i64 c, .int .i64 d] (fun j => if j = 0 then a else b) (fun j => if j = 0 then c else d) (fun j hj => by
  have : j = 0 ∨ j = 1 := by omega
  rcases this with rfl | rfl <;> exact ⟨rfl, rfl⟩)
 rw [this]
 simp [List.range, List.range.loop]
def tzN (a : Nat) : Nat := if a = 0 then 64 else Lib.ctz 64 a
theorem tzN_any (a : Nat) (w : World) (ha : a < 18446744073709551616) (hT : TzTab w) : Calls Tryz.prog 70 #[.int .u64 (a : Int)] w fun e w' => e = .returned (.int .i64 ((tzN a : Nat) : Int)) ∧ w' = w := by
 rcases Nat.eq_zero_or_pos a with z | z
 ·subst z; exact tz64_zero w
 ·unfold tzN; rw [if_neg (by omega)]; exact tz64_any a w z ha hT
theorem len_any (a : Nat) (w : World) (ha : a < 18446744073709551616) : Calls Tryz.prog 127 #[.int .u64 (a : Int)] w fun e w' => e = .returned (.int .i64 ((Lib.bitLen a : Nat) : Int)) ∧ w' = w := by
 have := Tryz.bits_Len64 (a : Int) w (by omega) (by omega)
 rw [Int.toNat_natCast] at this
 exact this
theorem bitLen_le64 {a : Nat} (ha : a < 18446744073709551616) : Lib.bitLen a ≤ 64 := by
 rcases Nat.eq_zero_or_pos a with z | z
 ·subst z; decide
 ·exact (bitLen_top 64 a z ha (by omega)).2.1
theorem tzN_le {a : Nat} (ha : a < 18446744073709551616) : tzN a ≤ 64 := by
 unfold tzN; split
 ·omega
 ·exact Nat.le_of_lt (ctz_le (by omega) ha)
set_option maxRecDepth 100000 in
set_option maxHeartbeats 6400000 in
theorem ends_any (a b : Nat) (w : World) (ha : a < 18446744073709551616) (hb : b < 18446744073709551616) (hT : TzTab w) :
  Calls Tryz.prog 128 #[.agg #[.int .u64 (a : Int), .int .u64 (b : Int)]] w fun e w' => e = .returned (.tuple #[.int .i64 ((endsF a b : Nat) : Int), .int .i64 ((endsE a b : Nat) : Int)]) ∧ Below w.heap.size w w' := by
 obtain ⟨w1, hw1⟩ : ∃ w1, w.alloc (.cells #[.int .u64 (a : Int), .int .u64 (b : Int)] 106) = w1 := ⟨_, rfl⟩
 have BB := hide' (show Below w.heap.size w w1 by rw [← hw1]; exact (Below.refl _ _).alloc (Nat.le_refl _) _)
 have y0 : w1.cell? ⟨w.heap.size, 0, none⟩ = some (.int .u64 (a : Int)) := by rw [← hw1, World.cell?_alloc_at _ _ _ _ rfl]; rfl
 have y1 : w1.cell? ⟨w.heap.size, 1, none⟩ = some (.int .u64 (b : Int)) := by rw [← hw1, World.cell?_alloc_at _ _ _ _ rfl]; rfl
 have T1 := hide' (hT.below BB.out)
 have q := fun w => row_eq (a : Int) (b : Int) 0 0 w
 have TA := hide' (fun (n : Nat) => tzN_any a (w1.drewN n) ha (T1.out))
 have TA1 := hide' (fun (n : Nat) => tzN_any b (w1.drewN n) hb (T1.out))
 have LA := hide' (fun w => len_any a w ha)
 have LB := hide' (fun w => len_any b w hb)
 have l1 := bitLen_le64 ha
 have l2 := bitLen_le64 hb
 have l3 := tzN_le ha
 have l4 := tzN_le hb
 have EF := hide' (rfl : endsF a b = endsF a b)
 have F1 : endsF a b = if a = 0 ∧ b = 0 then 0 else if a = 0 then 64 + tzN b else tzN a := by
  unfold endsF tzN
  by_cases a0 : a = 0 <;> by_cases b0 : b = 0 <;> simp [a0, b0]
 have F2 : endsE a b = if a = 0 ∧ b = 0 then 0 else if b = 0 then Lib.bitLen a else 64 + Lib.bitLen b := rfl
 rw [F1, F2]
 obtain ⟨ta, hta⟩ : ∃ x, tzN a = x := ⟨_, rfl⟩
 obtain ⟨tb, htb⟩ : ∃ x, tzN b = x := ⟨_, rfl⟩
 obtain ⟨la, hla⟩ : ∃ x, Lib.bitLen a = x := ⟨_, rfl⟩
 obtain ⟨lb, hlb⟩ : ∃ x, Lib.bitLen b = x := ⟨_, rfl⟩
 rw [hta, htb, hla, hlb]
 rw [hta] at TA l3
 rw [htb] at TA1 l4
 rw [hla] at LA l1
 rw [hlb] at LB l2
 clear hta htb hla hlb F1 F2 EF hT
 by_cases a0 : a = 0
 ·have d1 : ((a : Int) == 0) = true := by simp [a0]
  by_cases b0 : b = 0
  ·have d2 : ((b : Int) == 0) = true := by simp [b0]
   rw [if_pos ⟨a0, b0⟩, if_pos ⟨a0, b0⟩]
   clear a0 b0
   go_enter Tryz.func128, Tryz.ntmps128
   go_wp2
   go_ret2
   exact ⟨rfl, BB.out⟩
  ·have d2 : ((b : Int) == 0) = false := by simp [b0]
   have d3 : ((b : Int) != 0) = true := by simp [b0]
   have n1 : ¬ (a = 0 ∧ b = 0) := fun h => b0 h.2
   rw [if_neg n1, if_neg n1, if_pos a0, if_neg b0]
   clear n1
   clear a0 b0
   go_enter Tryz.func128, Tryz.ntmps128
   go_wp2
   go_quiet (first | (go_at_call 70; exact Calls.quiet_of_same (TA.out _)) | (go_at_call 127; exact Calls.quiet_of_same (LA.out _)))
   go_wp2_with fail
   refine (TA1.out _).mono ?_
   rintro e w' ⟨rfl, rfl⟩
   go_wp2_with fail
   refine (LB.out _).mono ?_
   rintro e w' ⟨rfl, rfl⟩
   go_wp2
   go_ret2
   exact ⟨by first | rfl | simp, below_drewN BB.out _⟩
 ·have d1 : ((a : Int) == 0) = false := by simp [a0]
  have n1 : ¬ (a = 0 ∧ b = 0) := fun h => a0 h.1
  rw [if_neg n1, if_neg n1, if_neg a0]
  clear n1
  by_cases b0 : b = 0
  ·have d2 : ((b : Int) != 0) = false := by simp [b0]
   rw [if_pos b0]
   clear a0 b0
   go_enter Tryz.func128, Tryz.ntmps128
   go_wp2
   go_quiet (first | (go_at_call 70; exact Calls.quiet_of_same (TA.out _)) | (go_at_call 127; exact Calls.quiet_of_same (LA.out _)))
   go_wp2
   go_ret2
   exact ⟨rfl, below_drewN BB.out _⟩
  ·have d2 : ((b : Int) != 0) = true := by simp [b0]
   rw [if_neg b0]
   clear a0 b0
   go_enter Tryz.func128, Tryz.ntmps128
   go_wp2
   go_quiet (first | (go_at_call 70; exact Calls.quiet_of_same (TA.out _)) | (go_at_call 127; exact Calls.quiet_of_same (LA.out _)))
   go_wp2_with fail
   refine (LB.out _).mono ?_
   rintro e w' ⟨rfl, rfl⟩
   go_wp2
   go_ret2
   exact ⟨by first | rfl | simp, below_drewN BB.out _⟩
theorem count_set_lt : ∀ (l : List Bool) (i : Nat), l[i]? = some false → (l.set i true).count false + 1 = l.count false
 | [], i, h => by simp at h
 | x :: l, 0, h => by simp at h; subst h; simp
 | x :: l, i + 1, h => by
  have := count_set_lt l i (by simpa using h)
  simp only [List.set_cons_succ, List.count_cons]
  omega
theorem wpAny_inv {P : Program} {ops : Array Oper} {Q : Exit → Act → World → Prop} {md : Region.Mode} (J : Array Bool → Act → World → Prop)
  (hstep : ∀ listed a w, J listed a w → ∀ i ∈ Region.ready md ops listed, wpOp P ops Q i (J (listed.setIfInBounds i true)) a w)
  (hend : ∀ listed a w, J listed a w → Region.ready md ops listed = [] → Q .normal a w) :
  ∀ (fuel : Nat) (listed : Array Bool) (a : Act) (w : World), listed.toList.count false ≤ fuel → J listed a w → wpAny P md ops Q fuel listed a w := by
 have dec : ∀ (listed : Array Bool) (i : Nat), i ∈ Region.ready md ops listed → (listed.setIfInBounds i true).toList.count false + 1 = listed.toList.count false := fun listed i hi => by
  have h := (mem_ready.1 hi).1
  rw [Array.toList_setIfInBounds]
  apply count_set_lt
  cases hq : listed[i]? with
  | none => simp [Array.getD_eq_getD_getElem?, hq] at h
  | some b => simp [Array.getD_eq_getD_getElem?, hq] at h; subst h; simpa using hq
 intro fuel
 induction fuel with
 | zero =>
  intro listed a w hl hJ
  have hr : Region.ready md ops listed = [] := by
   cases hr : Region.ready md ops listed with
   | nil => rfl
   | cons i rs => have := dec listed i (by rw [hr]; simp); omega
  exact ⟨hr, hend _ _ _ hJ hr⟩
 | succ fuel ih =>
  intro listed a w hl hJ
  refine ⟨hend _ _ _ hJ, fun i hi => ?_⟩
  exact wpOp_mono (fun a' w' h => ih _ a' w' (by have := dec listed i hi; omega) h) (hstep _ _ _ hJ i hi)
theorem wpOp_of {P : Program} {ops : Array Oper} {Q : Exit → Act → World → Prop} {i : Nat} {o : Oper} {K : Act → World → Prop} {a : Act} {w : World} (ho : ops[i]? = some o) (hg : o.guard = none) (h : o.wp P a w K Q) : wpOp P ops Q i K a w := by
 unfold wpOp
 rw [ho]
 dsimp only
 rw [if_pos (by unfold Region.wanted; rw [hg])]
 exact Or.inl h
theorem ready_needs {ops : Array Oper} {listed : Array Bool} {i j : Nat} (hi : i ∈ Region.ready .any ops listed) (h : ((ops[i]?).map fun o => o.after.any fun e => Region.binds .any e && e.on == j).getD false = true) : listed.getD j false = true := by
 obtain ⟨_, o, ho, he⟩ := mem_ready.1 hi
 rw [ho] at h
 simp only [Option.map_some, Option.getD_some, Array.any_eq_true] at h
 obtain ⟨n, hn, h⟩ := h
 rw [Bool.and_eq_true, beq_iff_eq] at h
 rw [← h.2]
 exact he _ (Array.getElem_mem hn) h.1
end Go.Proofs.YtemhcpldflcfbaaGreatDoor
