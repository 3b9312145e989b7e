/-
  What the last text of this claim leans on, part 5: Wr5, Ws0, Ws1, Ws2.
-/
import Derived.Test.YthmeapplnocfjaaDoorZp4
import Derived.Test.YthmeapplnocfjaaDoorZp2
import Derived.Laws.Bits64b
import Derived.Lib.TrailingZeros
import Derived.Deep.DeepCutAuto
import Derived.Laws.Rows
namespace Go.Proofs.YthmeapplnocfjaaDoor
set_option linter.unusedVariables false
set_option linter.unusedSimpArgs false
/-- The first tile that looks so. -/
theorem likeW (b : BdW) (r q : Nat) : ∀ k, ∃ j, j ≤ k ∧ inW b r q j = inW b r q k ∧ ∀ i, i < j → inW b r q i ≠ inW b r q j := fun k => by
  induction k using Nat.strongRecOn with
  | _ k ih =>
    by_cases h : ∃ i, i < k ∧ inW b r q i = inW b r q k
    · obtain ⟨i, hi, e⟩ := h
      obtain ⟨j, h1, h2, h3⟩ := ih i hi
      exact ⟨j, by omega, h2.trans e, h3⟩
    · exact ⟨k, Nat.le_refl _, rfl, fun i hi e => h ⟨i, hi, e⟩⟩
theorem canonW {xs : List TlT} {n W H : Nat} {ring : Bool} {b : BdW} (h : LaiW xs n W H ring b) (hW : 1 ≤ W) (hH : 1 ≤ H) {d : Nat → Nat} (hd : SolW n (W * H) (okW xs W H ring) d) : ∃ D : Nat → Nat → Nat, SolB b D ∧ ∀ r q, D r q ≤ d (r * W + q) ∧ inW b r q (D r q) = inW b r q (d (r * W + q)) ∧ ∀ i, i < D r q → inW b r q i ≠ inW b r q (D r q) := by
  let D : Nat → Nat → Nat := fun r q => Classical.choose (likeW b r q (d (r * W + q)))
  have hD : ∀ r q, D r q ≤ d (r * W + q) ∧ inW b r q (D r q) = inW b r q (d (r * W + q)) ∧ ∀ i, i < D r q → inW b r q i ≠ inW b r q (D r q) := fun r q => Classical.choose_spec (likeW b r q (d (r * W + q)))
  have F := (fit_iff h hW hH (fun i hi => (hd i hi).1)).2 (fun k hk => (hd k hk).2)
  refine ⟨D, ⟨fun r q hr hq => ?_, fun r q hr hq => ?_⟩, hD⟩
  · rw [h.eH] at hr
    rw [h.eW] at hq
    refine (h.em r q _ hr hq).2 ⟨?_, (hD r q).2.2⟩
    have pl : r * W + q < W * H := by
      have : (r + 1) * W ≤ H * W := Nat.mul_le_mul_right _ hr
      rw [Nat.succ_mul, Nat.mul_comm H W] at this
      omega
    have := (hd _ pl).1
    have := (hD r q).1
    omega
  · have f := F r q hr hq
    rw [(hD r q).2.1, (hD r _).2.1, (hD _ q).2.1]
    exact f
theorem none_of {xs : List TlT} {n W H : Nat} {ring : Bool} {b : BdW} (h : LaiW xs n W H ring b) (hW : 1 ≤ W) (hH : 1 ≤ H) (no : ¬ OpB b) : NoneW n (W * H) (okW xs W H ring) := fun d hd => by
  obtain ⟨D, hD, _⟩ := canonW h hW hH hd
  exact no ⟨D, hD⟩
theorem first_of {xs : List TlT} {n W H : Nat} {ring : Bool} {b : BdW} (h : LaiW xs n W H ring b) (hW : 1 ≤ W) (hH : 1 ≤ H) {c : Nat → Nat} (F : FilW b c (b.H * b.W)) : FirstW n (W * H) (okW xs W H ring) c := by
  have eN : b.H * b.W = W * H := by rw [h.eW, h.eH, Nat.mul_comm]
  have W0 : 0 < W := by omega
  have pq : ∀ i, i < W * H → i / W < H ∧ i % W < W ∧ i / W * W + i % W = i := fun i hi => ⟨Nat.div_lt_of_lt_mul hi, Nat.mod_lt _ W0, by rw [Nat.mul_comm]; exact Nat.div_add_mod i W⟩
  have my : ∀ i, i < W * H → layM b n (i / W) (i % W) (c i) := fun i hi => by
    obtain ⟨p1, p2, p3⟩ := pq i hi
    have := F.my (i / W) (i % W) (by rw [h.eW]; exact p2) (by rw [eN, h.eW, p3]; exact hi)
    rw [h.eW, p3] at this
    exact (h.em _ _ _ p1 p2).1 this
  have cn : ∀ i, i < W * H → c i < n := fun i hi => (my i hi).1
  have ft : FitB b (fun r q => c (r * W + q)) := by have := F.sol; rw [h.eW] at this; exact this
  refine ⟨fun i hi => ⟨cn i hi, (fit_iff h hW hH cn).1 ft i hi⟩, fun d hd => ?_⟩
  obtain ⟨D, hD, hl⟩ := canonW h hW hH hd
  -- the first place that differs
  have key : ∀ m, m ≤ W * H → (∀ i, i < m → d i = c i) ∨ ∃ j, j < m ∧ (∀ i, i < j → d i = c i) ∧ c j < d j := by
    intro m
    induction m with
    | zero => exact fun _ => Or.inl (fun i hi => by omega)
    | succ m ih =>
      intro hm
      rcases ih (by omega) with e | ⟨j, hj, e, l⟩
      · rcases Nat.lt_trichotomy (d m) (c m) with q | q | q
        · exfalso
          have same : ∀ i, i < m → D (i / W) (i % W) = c i := fun i hi => by
            obtain ⟨p1, p2, p3⟩ := pq i (by omega)
            obtain ⟨l1, l2, l3⟩ := hl (i / W) (i % W)
            rw [p3, e i hi] at l1 l2
            have mi := (my i (by omega)).2
            rcases Nat.lt_or_ge (D (i / W) (i % W)) (c i) with q | q
            · exact absurd l2 (mi _ q)
            · omega
          have lt := F.less D hD m (by rw [eN]; omega) (by rw [h.eW]; exact same)
          rw [h.eW] at lt
          obtain ⟨p1, p2, p3⟩ := pq m (by omega)
          have l1 := (hl (m / W) (m % W)).1
          rw [p3] at l1
          omega
        · refine Or.inl (fun i hi => ?_)
          by_cases im : i = m
          · rw [im, q]
          · exact e i (by omega)
        · exact Or.inr ⟨m, by omega, e, q⟩
      · exact Or.inr ⟨j, by omega, e, l⟩
  exact key _ (Nat.le_refl _)
end Go.Proofs.YthmeapplnocfjaaDoor

namespace Go.Proofs.YthmeapplnocfjaaDoor
open Go.RowKit
set_option linter.unusedVariables false
set_option linter.unusedSimpArgs false

/-- The library's table as it is laid. -/
def TzTab (w : World) : Prop := ∀ j, j < 64 → w.cell? ⟨2, j, none⟩ = some (.int .u8 (Lib.deBruijn64tab.getD j 0))
theorem tz_lt {w : World} (h : TzTab w) : 2 < w.heap.size := by
  rcases Nat.lt_or_ge 2 w.heap.size with k | k
  · exact k
  · have := h 0 (by omega); simp [World.cell?, Array.getElem?_eq_none k] at this
theorem TzTab.below {w w' : World} (h : TzTab w) (hb : Below w.heap.size w w') : TzTab w' := fun j hj => (World.cell?_of_block (w := w) (a := ⟨2, j, none⟩) (hb.block _ (tz_lt h))).trans (h j hj)
theorem tz_key' (x a : Nat) (hx : x < 18446744073709551616) (hx0 : x ≠ 0) (hlow : x &&& (18446744073709551616 - x) = a) :
    IntKind.u64.wrap (bits BinOp.and IntKind.u64 (x : Int) (IntKind.u64.wrap (-(x : Int))) * 285870213051353865) / 288230376151711744 = ((a * 285870213051353865 % 18446744073709551616 / 288230376151711744 : Nat) : Int) := by
  have e1 : IntKind.u64.wrap (-(x : Int)) = ((18446744073709551616 - x : Nat) : Int) := by rw [IntKind.wrap_u64]; omega
  rw [e1, bits_and_u64_nat x _ hx (by omega), hlow, IntKind.wrap_u64]
  omega
/-- The lowest bit, told by its number. -/
theorem ctz_low {x : Nat} (h0 : 0 < x) (h : x < 2 ^ 64) : x.testBit (Lib.ctz 64 x) = true ∧ ∀ j, j < Lib.ctz 64 x → x.testBit j = false := by
  obtain ⟨m, hm, _⟩ := Lib.ctzFrom_spec 64 x h0 h
  have hc : Lib.ctz 64 x = Lib.ctzFrom 64 x := by unfold Lib.ctz; rw [if_neg (by omega)]
  rw [hc]
  obtain ⟨k, hk⟩ : ∃ k, Lib.ctzFrom 64 x = k := ⟨_, rfl⟩
  rw [hk] at hm ⊢
  have e : x = 2 ^ k * (2 * m + 1) + 0 := by omega
  have hp : 0 < 2 ^ k := Nat.pow_pos (by omega)
  refine ⟨by rw [e, Nat.testBit_two_pow_mul_add _ hp]; simp, fun j hj => by rw [e, Nat.testBit_two_pow_mul_add _ hp, if_pos hj]; simp⟩

set_option maxRecDepth 100000 in
set_option maxHeartbeats 6400000 in
theorem tz64_any (x : Nat) (w : World) (hx0 : 0 < x) (hx : x < 18446744073709551616) (hT : TzTab w) :
    Calls Tryd.prog 50 #[.int .u64 (x : Int)] w fun e w' => e = .returned (.int .i64 ((Lib.ctz 64 x : Nat) : Int)) ∧ w' = w := by
  obtain ⟨hlow, hk⟩ := Lib.lowest_bit 64 x (by omega) hx
  obtain ⟨hi, htab⟩ := Lib.deBruijn64_at _ hk
  have hcell := hT _ hi
  rw [htab] at hcell
  have key := tz_key' x _ hx (by omega) hlow
  have xz : ((x : Int) == 0) = false := by rw [beq_eq_false_iff_ne]; omega
  obtain ⟨idx, hidx⟩ : ∃ idx, 2 ^ Lib.ctz 64 x * 285870213051353865 % 18446744073709551616 / 288230376151711744 = idx := ⟨_, rfl⟩
  rw [hidx] at hi hcell key
  obtain ⟨k, hkk⟩ : ∃ k, Lib.ctz 64 x = k := ⟨_, rfl⟩
  rw [hkk] at hcell hk ⊢
  clear hlow htab hidx hkk
  go_enter Tryd.func50, Tryd.ntmps50
  go_wp2_with (simp only [key])
  go_ret
  exact ⟨rfl, rfl⟩

set_option maxRecDepth 100000 in
set_option maxHeartbeats 6400000 in
theorem tz_any (x : Nat) (w : World) (hx0 : 0 < x) (hx : x < 18446744073709551616) (hT : TzTab w) :
    Calls Tryd.prog 41 #[.int .u64 (x : Int)] w fun e w' => e = .returned (.int .i64 ((Lib.ctz 64 x : Nat) : Int)) ∧ w' = w := by
  have C := hide' (tz64_any x w hx0 hx hT)
  go_enter Tryd.func41, Tryd.ntmps41
  go_wp2_with fail
  refine (show Calls Tryd.prog _ _ _ _ from C.out).mono ?_
  rintro e w' ⟨rfl, rfl⟩
  go_wp2
  go_ret
  exact ⟨rfl, rfl⟩

end Go.Proofs.YthmeapplnocfjaaDoor

namespace Go.Proofs.YthmeapplnocfjaaDoor
open Go.RowKit
set_option linter.unusedVariables false
set_option linter.unusedSimpArgs false
/-- An array told by a function. -/
def arV (n : Nat) (f : Nat → Value) : Array Value := ((List.range n).map f).toArray
theorem arV_get {n k : Nat} (f : Nat → Value) (h : k < n) : (arV n f)[k]? = some (f k) := by simp [arV, h]
theorem arV_size (n : Nat) (f : Nat → Value) : (arV n f).size = n := by simp [arV]
theorem arV_set (n i : Nat) (f : Nat → Value) (v : Value) : (arV n f).setIfInBounds i v = arV n (fun k => if k = i then v else f k) := by
  apply Array.ext
  · simp [arV]
  · intro k h1 h2
    simp only [arV, List.getElem_toArray, List.getElem_map, List.getElem_range]
    by_cases q : k = i
    · simp [q]
    · simp [q, Ne.symm q]
theorem arV_ext {n : Nat} {f g : Nat → Value} (h : ∀ k, k < n → f k = g k) : arV n f = arV n g := by
  unfold arV
  congr 1
  exact List.map_congr_left fun k hk => h k (List.mem_range.1 hk)
theorem arV_all {n : Nat} {f : Nat → Value} (h : ∀ k, k < n → (f k).oneCell' = true) : (arV n f).all (·.oneCell') = true := by
  rw [Array.all_eq_true]
  intro i hi
  have : i < n := by simpa [arV] using hi
  simpa [arV] using h i this
/-- A board's cells. -/
def bdV (b : BdW) (i : Nat) : Value :=
  if i < 64 then .int .i64 (tlC (b.t (i / 4)) (i % 4)) else if i = 64 then .int .i64 (b.W : Int) else if i = 65 then .int .i64 (b.H : Int) else if i = 66 then .bool b.ring else .int .u64 ((b.may ((i - 67) / 5) ((i - 67) % 5) : Nat) : Int)
def BrdA (V : World) (g : Nat) (b : BdW) : Prop := V.heap[g]? = some (.cells (arV 92 (bdV b)) 58 (0, 0))
theorem BrdA.cell {V : World} {g : Nat} {b : BdW} (h : BrdA V g b) {i : Nat} (hi : i < 92) : V.cell? ⟨g, i, none⟩ = some (bdV b i) := by rw [cell_of_row V _ _ _ _ _ h, arV_get _ hi]
theorem BrdA.wide {V : World} {g : Nat} {b : BdW} (h : BrdA V g b) : V.cell? ⟨g, 64, none⟩ = some (.int .i64 (b.W : Int)) := h.cell (by omega)
theorem BrdA.high {V : World} {g : Nat} {b : BdW} (h : BrdA V g b) : V.cell? ⟨g, 65, none⟩ = some (.int .i64 (b.H : Int)) := h.cell (by omega)
theorem BrdA.isRing {V : World} {g : Nat} {b : BdW} (h : BrdA V g b) : V.cell? ⟨g, 66, none⟩ = some (.bool b.ring) := h.cell (by omega)
theorem bdV_may (b : BdW) {r c : Nat} (hc : c < 5) : bdV b (67 + r * 5 + c) = .int .u64 ((b.may r c : Nat) : Int) := by
  unfold bdV
  rw [if_neg (by omega), if_neg (by omega), if_neg (by omega), if_neg (by omega), show (67 + r * 5 + c - 67) / 5 = r by omega, show (67 + r * 5 + c - 67) % 5 = c by omega]
theorem BrdA.may {V : World} {g : Nat} {b : BdW} (h : BrdA V g b) {r c : Nat} (hr : r < 5) (hc : c < 5) : V.cell? ⟨g, 67 + r * 5 + c, none⟩ = some (.int .u64 ((b.may r c : Nat) : Int)) := by
  rw [h.cell (by omega), bdV_may b hc]
theorem bdV_t (b : BdW) {k j : Nat} (hk : k < 16) (hj : j < 4) : bdV b (k * 4 + j) = .int .i64 (tlC (b.t k) j) := by
  unfold bdV
  rw [if_pos (by omega), show (k * 4 + j) / 4 = k by omega, show (k * 4 + j) % 4 = j by omega]
theorem BrdA.tile {V : World} {g : Nat} {b : BdW} (h : BrdA V g b) {k : Nat} (hk : k < 16) : V.cell? ⟨g, k * 4, none⟩ = some (.int .i64 (b.t k).u) ∧ V.cell? ⟨g, k * 4 + 1, none⟩ = some (.int .i64 (b.t k).r) ∧ V.cell? ⟨g, k * 4 + 2, none⟩ = some (.int .i64 (b.t k).d) ∧ V.cell? ⟨g, k * 4 + 3, none⟩ = some (.int .i64 (b.t k).l) :=
  ⟨by rw [h.cell (by omega)]; exact congrArg some (bdV_t b (j := 0) hk (by omega)), by rw [h.cell (by omega)]; exact congrArg some (bdV_t b (j := 1) hk (by omega)), by rw [h.cell (by omega)]; exact congrArg some (bdV_t b (j := 2) hk (by omega)), by rw [h.cell (by omega)]; exact congrArg some (bdV_t b (j := 3) hk (by omega))⟩
theorem BrdA.below {V V' : World} {g : Nat} {b : BdW} (h : BrdA V g b) (k : Below V.heap.size V V') : BrdA V' g b := (k.block g (lt_blockT h)).trans h
theorem BrdA.from {w V V' : World} {g : Nat} {b : BdW} (h : BrdA V g b) (hg : g < w.heap.size) (k : Below w.heap.size V V') : BrdA V' g b := (k.block g hg).trans h
/-- While a tile is looked at. -/
def InS (w wx : World) (t : TlT) : Prop := Below w.heap.size w wx ∧ wx.heap[w.heap.size]? = some (.cells #[.int .i64 0, .int .i64 0, .int .i64 0, .int .i64 0] 47 (0, 0)) ∧ wx.heap[w.heap.size + 1]? = some (.cells #[.int .i64 t.u, .int .i64 t.r, .int .i64 t.d, .int .i64 t.l] 47 (0, 0))
theorem InS.set {w wx : World} {t t' : TlT} {j : Nat} {v : Int} (h : InS w wx t) (e : (#[.int .i64 t.u, .int .i64 t.r, .int .i64 t.d, .int .i64 t.l] : Array Value).setIfInBounds j (.int .i64 v) = #[.int .i64 t'.u, .int .i64 t'.r, .int .i64 t'.d, .int .i64 t'.l]) : InS w (wx.setCell ⟨w.heap.size + 1, j, none⟩ (.int .i64 v)) t' := by
  refine ⟨h.1.setCell (by simp) _, ?_, ?_⟩
  · rw [heap_setCell_other _ _ _ _ (by simp)]
    exact h.2.1
  · rw [heap_setCell_same _ _ _ _ _ _ h.2.2, e]
end Go.Proofs.YthmeapplnocfjaaDoor

namespace Go.Proofs.YthmeapplnocfjaaDoor
open Go.RowKit
set_option linter.unusedVariables false
set_option linter.unusedSimpArgs false
set_option maxRecDepth 100000 in
set_option maxHeartbeats 12800000 in
theorem in_any (b : BdW) (g r c k : Nat) (w : World) (hB : BrdA w g b) (hb : BokW b) (hr : r < 5) (hc : c < 5) (hk : k < 16) :
    Calls Tryd.prog 28 #[.pointer (some ⟨g, 0, none⟩), .int .i64 (r : Int), .int .i64 (c : Int), .int .i64 (k : Int)] w fun e w' => e = .returned (.agg #[.int .i64 (inW b r c k).u, .int .i64 (inW b r c k).r, .int .i64 (inW b r c k).d, .int .i64 (inW b r c k).l]) ∧ Below w.heap.size w w' := by
  have gl := lt_blockT hB
  obtain ⟨t0, t1, t2, t3⟩ := hB.tile hk
  have W5 := hb.w5
  have W1 := hb.w1
  have H5 := hb.h5
  have H1 := hb.h1
  have HB := hide' (fun (V : World) (h : Below w.heap.size w V) => hB.below h)
  have IN := hide' (show inW b r c k = if b.ring = true then b.t k else ⟨if r = 0 then 0 else (b.t k).u, if c + 1 = b.W then 0 else (b.t k).r, if r + 1 = b.H then 0 else (b.t k).d, if c = 0 then 0 else (b.t k).l⟩ from rfl)
  obtain ⟨q, hq⟩ : ∃ q, inW b r c k = q := ⟨_, rfl⟩
  obtain ⟨t, ht⟩ : ∃ t, b.t k = t := ⟨_, rfl⟩
  rw [hq, ht] at IN
  rw [ht] at t0 t1 t2 t3
  rw [hq]
  clear hq ht hB hb
  have k0 : (0 : Int) ≤ (k : Int) := by omega
  have k16 : (k : Int) < 16 := by omega
  obtain ⟨w1, hw1⟩ : ∃ w1, w.alloc (.cells #[.int .i64 0, .int .i64 0, .int .i64 0, .int .i64 0] 47) = w1 := ⟨_, rfl⟩
  obtain ⟨w2, hw2⟩ : ∃ w2, w1.alloc (.cells #[.int .i64 t.u, .int .i64 t.r, .int .i64 t.d, .int .i64 t.l] 47) = w2 := ⟨_, rfl⟩
  have s1 : w1.heap.size = w.heap.size + 1 := by rw [← hw1]; simp
  have I2 := hide' (show InS w w2 t from ⟨by rw [← hw2, ← hw1]; exact ((Below.refl _ _).alloc (Nat.le_refl _) _).alloc (by simp) _, by
    rw [← hw2, heap_alloc_old _ _ (by omega), ← hw1]; exact heap_alloc_new _ _, by
    rw [← hw2, ← s1]; exact heap_alloc_new _ _⟩)
  have rc := (HB.out w2 I2.out.1).isRing
  have HW := hide' (And.intro hw1 hw2)
  clear hw1 hw2 s1
  go_enter Tryd.func28, Tryd.ntmps28
  go_upto_region 2 with fail
  rw [HW.out.1, HW.out.2]
  obtain ⟨rg, hrg⟩ : ∃ rg, b.ring = rg := ⟨_, rfl⟩
  rw [hrg] at IN rc
  clear hrg t0 t1 t2 t3
  cases rg with
  | true =>
    rw [if_pos rfl] at IN
    have I2' := I2.out
    rw [← IN.out] at I2'
    have z0 := cell_of_row w2 _ 0 _ _ _ I2'.2.2
    have z1 := cell_of_row w2 _ 1 _ _ _ I2'.2.2
    have z2 := cell_of_row w2 _ 2 _ _ _ I2'.2.2
    have z3 := cell_of_row w2 _ 3 _ _ _ I2'.2.2
    simp at z0 z1 z2 z3
    have gb := I2'.2.1
    obtain ⟨O, hO⟩ : ∃ O, (#[.int .i64 q.u, .int .i64 q.r, .int .i64 q.d, .int .i64 q.l] : Array Value) = O := ⟨_, rfl⟩
    have os : O.size = 4 := by rw [← hO]; rfl
    have ol : O.all (·.oneCell') = true := by rw [← hO]; simp [Value.oneCell']
    have BB := hide' I2'.1
    clear I2' I2 IN
    go_wp2_with (first
      | (refine wpList_store_row rfl 47 _ _ rfl w.heap.size O rfl (by first | rfl | (rw [← hO]; rfl)) 47 _ gb (by rw [os]; kernel_rfl) (by rw [os]; rfl) ol ?_))
    refine bodyPost_ret (v := .agg O) (results_cell_row Tryd.results28 _ _ w.heap.size 47 _ (0, 0) _ rfl (setRow_heap _ _ _ _ _ _ gb) Tryd.underlying47 rfl (by rw [os]; kernel_rfl)) rfl ?_
    exact ⟨by rw [← hO], belowW_set BB.out (by omega) _⟩
  | false =>
    rw [if_neg (by simp)] at IN
    obtain ⟨ux, hux⟩ : ∃ v, (if r = 0 then 0 else t.u) = v := ⟨_, rfl⟩
    obtain ⟨rx, hrx⟩ : ∃ v, (if c + 1 = b.W then 0 else t.r) = v := ⟨_, rfl⟩
    obtain ⟨dx, hdx⟩ : ∃ v, (if r + 1 = b.H then 0 else t.d) = v := ⟨_, rfl⟩
    obtain ⟨lx, hlx⟩ : ∃ v, (if c = 0 then 0 else t.l) = v := ⟨_, rfl⟩
    rw [hux, hrx, hdx, hlx] at IN
    have HU := hide' hux
    have HR := hide' hrx
    have HD := hide' hdx
    have HL := hide' hlx
    clear hux hrx hdx hlx
    have I2a := I2.out
    go_upto_if 22 with fail
    go_cut [] (fun wx => Hid (InS w wx ⟨ux, t.r, t.d, t.l⟩))
    case first =>
      by_cases x0 : (r : Int) = 0
      · have xb : ((r : Int) == 0) = true := by simp; omega
        have fz := frozen_of_row w2 _ 0 _ _ I2a.2.2
        have cz := cell_of_row w2 _ 0 _ _ _ I2a.2.2
        simp at cz
        have NX := hide' (show InS w (w2.setCell ⟨w.heap.size + 1, 0, none⟩ (.int .i64 0)) ⟨ux, t.r, t.d, t.l⟩ from I2.out.set (by rw [show ux = 0 by rw [← HU.out, if_pos (by omega)]]; rfl))
        clear x0 I2a
        go_wp2_with fail
        go_meet
        exact NX
      · have xb : ((r : Int) == 0) = false := by simp; omega
        have NX := hide' (show InS w w2 ⟨ux, t.r, t.d, t.l⟩ by rw [show ux = t.u by rw [← HU.out, if_neg (by omega)]]; exact I2.out)
        clear x0 I2a
        go_wp2_with fail
        go_meet
        exact NX
    case rest =>
    obtain ⟨w3, rfl⟩ : ∃ v, v = wc := ⟨_, rfl⟩
    have Iw3a := hcut.out
    have Iw3 := hide' hcut.out
    clear hcut
    obtain ⟨W', eW⟩ : ∃ v, b.W - 1 = v := ⟨_, rfl⟩
    have EW : (b.W : Int) - 1 = (W' : Int) := by omega
    have cw := (HB.out w3 Iw3a.1).wide
    go_upto_if 30 with fail
    go_cut [] (fun wx => Hid (InS w wx ⟨ux, rx, t.d, t.l⟩))
    case first =>
      by_cases x0 : (c : Int) = (W' : Int)
      · have xb : ((c : Int) == (W' : Int)) = true := by simp; omega
        have fz := frozen_of_row w3 _ 1 _ _ Iw3a.2.2
        have cz := cell_of_row w3 _ 1 _ _ _ Iw3a.2.2
        simp at cz
        have NX := hide' (show InS w (w3.setCell ⟨w.heap.size + 1, 1, none⟩ (.int .i64 0)) ⟨ux, rx, t.d, t.l⟩ from Iw3.out.set (by rw [show rx = 0 by rw [← HR.out, if_pos (by omega)]]; rfl))
        clear x0 Iw3a
        go_wp2_with fail
        go_meet
        exact NX
      · have xb : ((c : Int) == (W' : Int)) = false := by simp; omega
        have NX := hide' (show InS w w3 ⟨ux, rx, t.d, t.l⟩ by rw [show rx = t.r by rw [← HR.out, if_neg (by omega)]]; exact Iw3.out)
        clear x0 Iw3a
        go_wp2_with fail
        go_meet
        exact NX
    case rest =>
    obtain ⟨w4, rfl⟩ : ∃ v, v = wc := ⟨_, rfl⟩
    have Iw4a := hcut.out
    have Iw4 := hide' hcut.out
    clear hcut
    obtain ⟨H', eH⟩ : ∃ v, b.H - 1 = v := ⟨_, rfl⟩
    have EH : (b.H : Int) - 1 = (H' : Int) := by omega
    have ch := (HB.out w4 Iw4a.1).high
    go_upto_if 38 with fail
    go_cut [] (fun wx => Hid (InS w wx ⟨ux, rx, dx, t.l⟩))
    case first =>
      by_cases x0 : (r : Int) = (H' : Int)
      · have xb : ((r : Int) == (H' : Int)) = true := by simp; omega
        have fz := frozen_of_row w4 _ 2 _ _ Iw4a.2.2
        have cz := cell_of_row w4 _ 2 _ _ _ Iw4a.2.2
        simp at cz
        have NX := hide' (show InS w (w4.setCell ⟨w.heap.size + 1, 2, none⟩ (.int .i64 0)) ⟨ux, rx, dx, t.l⟩ from Iw4.out.set (by rw [show dx = 0 by rw [← HD.out, if_pos (by omega)]]; rfl))
        clear x0 Iw4a
        go_wp2_with fail
        go_meet
        exact NX
      · have xb : ((r : Int) == (H' : Int)) = false := by simp; omega
        have NX := hide' (show InS w w4 ⟨ux, rx, dx, t.l⟩ by rw [show dx = t.d by rw [← HD.out, if_neg (by omega)]]; exact Iw4.out)
        clear x0 Iw4a
        go_wp2_with fail
        go_meet
        exact NX
    case rest =>
    obtain ⟨w5, rfl⟩ : ∃ v, v = wc := ⟨_, rfl⟩
    have Iw5a := hcut.out
    have Iw5 := hide' hcut.out
    clear hcut
    go_upto_if 41 with fail
    go_cut [] (fun wx => Hid (InS w wx ⟨ux, rx, dx, lx⟩))
    case first =>
      by_cases x0 : (c : Int) = 0
      · have xb : ((c : Int) == 0) = true := by simp; omega
        have fz := frozen_of_row w5 _ 3 _ _ Iw5a.2.2
        have cz := cell_of_row w5 _ 3 _ _ _ Iw5a.2.2
        simp at cz
        have NX := hide' (show InS w (w5.setCell ⟨w.heap.size + 1, 3, none⟩ (.int .i64 0)) ⟨ux, rx, dx, lx⟩ from Iw5.out.set (by rw [show lx = 0 by rw [← HL.out, if_pos (by omega)]]; rfl))
        clear x0 Iw5a
        go_wp2_with fail
        go_meet
        exact NX
      · have xb : ((c : Int) == 0) = false := by simp; omega
        have NX := hide' (show InS w w5 ⟨ux, rx, dx, lx⟩ by rw [show lx = t.l by rw [← HL.out, if_neg (by omega)]]; exact Iw5.out)
        clear x0 Iw5a
        go_wp2_with fail
        go_meet
        exact NX
    case rest =>
    obtain ⟨w6, rfl⟩ : ∃ v, v = wc := ⟨_, rfl⟩
    have I6 := hcut.out
    clear hcut
    rw [← IN.out] at I6
    have z0 := cell_of_row w6 _ 0 _ _ _ I6.2.2
    have z1 := cell_of_row w6 _ 1 _ _ _ I6.2.2
    have z2 := cell_of_row w6 _ 2 _ _ _ I6.2.2
    have z3 := cell_of_row w6 _ 3 _ _ _ I6.2.2
    simp at z0 z1 z2 z3
    have gb := I6.2.1
    obtain ⟨O, hO⟩ : ∃ O, (#[.int .i64 q.u, .int .i64 q.r, .int .i64 q.d, .int .i64 q.l] : Array Value) = O := ⟨_, rfl⟩
    have os : O.size = 4 := by rw [← hO]; rfl
    have ol : O.all (·.oneCell') = true := by rw [← hO]; simp [Value.oneCell']
    have BB := hide' I6.1
    clear I6 IN
    go_wp2_with (first
      | (refine wpList_store_row rfl 47 _ _ rfl w.heap.size O rfl (by first | rfl | (rw [← hO]; rfl)) 47 _ gb (by rw [os]; kernel_rfl) (by rw [os]; rfl) ol ?_))
    refine bodyPost_ret (v := .agg O) (results_cell_row Tryd.results28 _ _ w.heap.size 47 _ (0, 0) _ rfl (setRow_heap _ _ _ _ _ _ gb) Tryd.underlying47 rfl (by rw [os]; kernel_rfl)) rfl ?_
    exact ⟨by rw [← hO], belowW_set BB.out (by omega) _⟩
end Go.Proofs.YthmeapplnocfjaaDoor

