/-
  What the last text of this claim leans on, part 25: Gd3, Oj2.
-/
import Derived.Test.YtjjdjdodhedihaaDoorJg2
import Derived.Test.YtjjdjdodhedihaaDoorJg1
import Derived.Test.YtjjdjdodhedihaaDoorJg8
import Derived.Laws.Bits64b
import Derived.Lib.TrailingZeros
namespace Go.Proofs.YtjjdjdodhedihaaDoor
set_option linter.unusedVariables false

/-- A number whose bits are the places to which a word leads. -/
def SetIs (S n : Nat) (T : List Int) (m : Nat) (w : List Int) : Prop := cellsOk S w ∧ m < 2 ^ n ∧ ∀ q, q < n → (m.testBit q = true ↔ 0 < act S n T w one1 q)
theorem SetIs.start (S n : Nat) (T : List Int) : SetIs S n T (2 ^ n - 1) [] := by
  refine ⟨cells_nil _, by have := Nat.pow_pos (a := 2) (n := n) (by omega); omega, fun q hq => ?_⟩
  rw [Nat.testBit_two_pow_sub_one]
  simp [hq, act, one1]
theorem stp_pos_iff {S n : Nat} {T : List Int} {a : Int} {v : Nat → Nat} {q : Nat} : 0 < stp S n T a v q ↔ ∃ j, j < n * S ∧ T.getD j 0 = a ∧ j % n = q ∧ 0 < v (j / S) := by
  constructor
  · intro h
    obtain ⟨j, hj, h1⟩ := sumN_pos _ h
    by_cases c : T.getD j 0 = a ∧ j % n = q
    · rw [if_pos c] at h1
      exact ⟨j, hj, c.1, c.2, h1⟩
    · rw [if_neg c] at h1
      omega
  · rintro ⟨j, hj, h1, h2, h3⟩
    have := sumN_term (f := fun j => if T.getD j 0 = a ∧ j % n = q then v (j / S) else 0) (n * S) j hj
    simp only [if_pos (And.intro h1 h2)] at this
    unfold stp
    omega
theorem SetIs.next {S n m : Nat} {T w : List Int} (hS : 0 < S) (h : SetIs S n T m w) {c : Nat} (hc : c < S) : SetIs S n T (follN S n T c m) (w ++ [(c : Int)]) := by
  refine ⟨cells_app h.1 (cells_one hc), follN_lt .., fun q hq => ?_⟩
  rw [act_append]
  show _ ↔ 0 < stp S n T (c : Int) (act S n T w one1) q
  rw [stp_pos_iff, follN, testBit_bitsN]
  simp only [hq, decide_true, Bool.true_and]
  rw [anyB_iff]
  constructor
  · rintro ⟨p, hp, h1, h2⟩
    obtain ⟨x, hx, h3, h4⟩ := leadB_iff.1 h2
    have e : (p * S + x) / S = p := by rw [Nat.mul_comm, Nat.mul_add_div hS, Nat.div_eq_of_lt hx, Nat.add_zero]
    have l : p * S + x < n * S := by
      have : (p + 1) * S ≤ n * S := Nat.mul_le_mul_right _ hp
      rw [Nat.add_mul] at this
      omega
    exact ⟨p * S + x, l, h3, h4, by rw [e]; exact (h.2.2 p hp).1 h1⟩
  · rintro ⟨j, hj, h1, h2, h3⟩
    have hd : j / S < n := Nat.div_lt_of_lt_mul (by rw [Nat.mul_comm]; exact hj)
    have d : j / S * S + j % S = j := by rw [Nat.mul_comm]; exact Nat.div_add_mod _ _
    exact ⟨j / S, hd, (h.2.2 _ hd).2 h3, leadB_iff.2 ⟨j % S, Nat.mod_lt _ hS, by rw [d]; exact h1, by rw [d]; exact h2⟩⟩
theorem SetIs.zero {S n : Nat} {T w : List Int} (h : SetIs S n T 0 w) : cntN S n T w = 0 := by
  unfold cntN
  rw [sumN_ext (g := fun _ => 0) n, sumN_zero]
  intro q hq
  rcases Nat.eq_zero_or_pos (act S n T w one1 q) with c | c
  · exact c
  · have := (h.2.2 q hq).2 c
    simp at this
theorem SetIs.pos {S n m : Nat} {T w : List Int} (h : SetIs S n T m w) (hm : m ≠ 0) : 0 < cntN S n T w := by
  obtain ⟨q, hq⟩ := Nat.exists_testBit_of_ne_zero hm
  have ql : q < n := by
    rcases Nat.lt_or_ge q n with c | c
    · exact c
    · rw [Nat.testBit_lt_two_pow (Nat.lt_of_lt_of_le h.2.1 (Nat.pow_le_pow_right (by omega) c))] at hq
      cases hq
  have := (h.2.2 q ql).1 hq
  have := sumN_term (f := act S n T w one1) n q ql
  unfold cntN
  omega
theorem runQ_sets {S n : Nat} {T : List Int} (hS : 0 < S) : ∀ t e, e ∈ runQ (follN S n T) S (2 ^ n - 1) t → SetIs S n T e.set e.wd
  | 0, e, h => by
    rw [List.mem_singleton.1 (show e ∈ [(⟨2 ^ n - 1, 0, 0, []⟩ : En)] from h)]
    exact SetIs.start S n T
  | t + 1, e, h => by
    have ih := runQ_sets (n := n) (T := T) hS t
    change e ∈ stepQ (follN S n T) S (runQ (follN S n T) S (2 ^ n - 1) t) t at h
    unfold stepQ at h
    split at h
    · exact ih e h
    · rename_i e' he'
      split at h
      · exact ih e h
      · rcases List.mem_append.1 h with h | h
        · exact ih e h
        · rw [List.mem_singleton.1 h]
          exact (ih e' (List.mem_of_getElem? he')).next hS (Nat.mod_lt _ hS)
theorem runQ_pre {f : Nat → Nat → Nat} {S q0 t i : Nat} {e : En} (h : (runQ f S q0 t)[i]? = some e) : ∀ d, (runQ f S q0 (t + d))[i]? = some e
  | 0 => h
  | d + 1 => by
    have ih := runQ_pre h d
    show (stepQ f S (runQ f S q0 (t + d)) (t + d))[i]? = some e
    unfold stepQ
    split
    · exact ih
    · split
      · exact ih
      · rw [List.getElem?_append_left (List.getElem?_eq_some_iff.1 ih).1]
        exact ih
/-- A search that has ended is closed. -/
theorem runQ_closed {f : Nat → Nat → Nat} {S q0 a : Nat} (hS : 0 < S) (hl : (runQ f S q0 (a * S)).length ≤ a) {e : En} (he : e ∈ runQ f S q0 (a * S)) {c : Nat} (hc : c < S) : ∃ e' ∈ runQ f S q0 (a * S), e'.set = f c e.set := by
  obtain ⟨i, hi, rfl⟩ := List.getElem_of_mem he
  have ia : i < a := by omega
  have hai : i * S + S ≤ a * S := by
    have : (i + 1) * S ≤ a * S := Nat.mul_le_mul_right _ ia
    rwa [Nat.add_mul, Nat.one_mul] at this
  have len : i < (runQ f S q0 (i * S)).length := by
    rcases Nat.lt_or_ge i (runQ f S q0 (i * S)).length with q | q
    · exact q
    · have := runQ_stop hS q (a * S - i * S)
      rw [show i * S + (a * S - i * S) = a * S by omega] at this
      rw [this] at hi
      omega
  have at0 : (runQ f S q0 (i * S))[i]? = some (runQ f S q0 (i * S))[i] := List.getElem?_eq_getElem len
  have atE := runQ_pre at0 (a * S - i * S)
  rw [show i * S + (a * S - i * S) = a * S by omega, List.getElem?_eq_getElem hi] at atE
  have atT := runQ_pre at0 c
  rw [← atE] at atT
  have td : (i * S + c) / S = i := by rw [Nat.mul_comm, Nat.mul_add_div hS, Nat.div_eq_of_lt hc, Nat.add_zero]
  have tm : (i * S + c) % S = c := by rw [Nat.mul_comm, Nat.mul_add_mod, Nat.mod_eq_of_lt hc]
  have : ∃ e' ∈ runQ f S q0 (i * S + c + 1), e'.set = f c (runQ f S q0 (a * S))[i].set := by
    show ∃ e' ∈ stepQ f S (runQ f S q0 (i * S + c)) (i * S + c), _
    unfold stepQ
    rw [td, tm, atT]
    simp only
    split
    · rename_i hm
      obtain ⟨e', h1, h2⟩ := List.mem_map.1 hm
      exact ⟨e', h1, h2⟩
    · exact ⟨_, List.mem_append_right _ (List.mem_singleton.2 rfl), rfl⟩
  obtain ⟨e', h1, h2⟩ := this
  refine ⟨e', ?_, h2⟩
  have := runQ_sub f S q0 (i * S + c + 1) (a * S - (i * S + c + 1)) e' h1
  rwa [show i * S + c + 1 + (a * S - (i * S + c + 1)) = a * S by omega] at this
theorem orphan_none {S n : Nat} {T : List Int} (hS : 0 < S) (h : OrphanIs (follN S n T) S (2 ^ n - 1) none) : ∀ w, cellsOk S w → 0 < cntN S n T w := by
  obtain ⟨a, hz, hl⟩ := h
  have go : ∀ (w w0 : List Int), cellsOk S w → (∃ e ∈ runQ (follN S n T) S (2 ^ n - 1) (a * S), SetIs S n T e.set w0) → ∃ e ∈ runQ (follN S n T) S (2 ^ n - 1) (a * S), SetIs S n T e.set (w0 ++ w) := fun w => by
    induction w with
    | nil => intro w0 _ h; rw [List.append_nil]; exact h
    | cons x w ih =>
      intro w0 hw ⟨e, he, hs⟩
      obtain ⟨c, hc, rfl, hw'⟩ := cells_letter hw
      obtain ⟨e', h1, h2⟩ := runQ_closed hS hl he hc
      have := ih (w0 ++ [(c : Int)]) hw' ⟨e', h1, by rw [h2]; exact hs.next hS hc⟩
      rwa [List.append_assoc] at this
  intro w hw
  have start : ∃ e ∈ runQ (follN S n T) S (2 ^ n - 1) (a * S), SetIs S n T e.set [] := ⟨⟨2 ^ n - 1, 0, 0, []⟩, by
    have := runQ_sub (follN S n T) S (2 ^ n - 1) 0 (a * S) ⟨2 ^ n - 1, 0, 0, []⟩ (by simp [runQ])
    rwa [Nat.zero_add] at this, SetIs.start S n T⟩
  obtain ⟨e, he, hs⟩ := go w [] hw start
  rw [List.nil_append] at hs
  exact hs.pos (hz e he)
theorem orphan_some {S n : Nat} {T wd : List Int} (hS : 0 < S) (h : OrphanIs (follN S n T) S (2 ^ n - 1) (some wd)) : cellsOk S wd ∧ cntN S n T wd = 0 := by
  obtain ⟨t, e, _, h2, h3, rfl⟩ := h
  have hs := (runQ_sets hS t e (List.mem_of_getElem? h2)).next hS (Nat.mod_lt t hS)
  rw [h3] at hs
  exact ⟨hs.1, hs.zero⟩
/-- The counts that are never above the bound are the counts, cut off there. -/
theorem satB_min (a b : Nat) : satB (min (a : Int) big) (min (b : Int) big) = min ((a + b : Nat) : Int) big := by
  unfold satB big
  split <;> omega
theorem cntS_is {S n : Nat} {T now : List Int} {s : Int} {v : Nat → Nat} (hn : 0 < n) (h : ∀ p, p < n → now.getD p 0 = min (v p : Int) big) : ∀ j, j ≤ n * S → ∀ q, q < n → (cntS S n T now s j).getD q 0 = min ((sumN (fun i => if T.getD i 0 = s ∧ i % n = q then v (i / S) else 0) j : Nat) : Int) big
  | 0, _, q, hq => by
    rw [cntS, sumN, List.getD_eq_getElem?_getD, List.getElem?_replicate, if_pos hq]
    decide
  | j + 1, hj, q, hq => by
    have ih := cntS_is (S := S) (T := T) (s := s) hn h j (by omega)
    have hd : j / S < n := Nat.div_lt_of_lt_mul (by rw [Nat.mul_comm]; omega)
    rw [cntS, sumN]
    by_cases c : T.getD j 0 = s
    · rw [if_pos c, getD_set, cntS_length]
      by_cases e : q = j % n
      · rw [if_pos ⟨e, Nat.mod_lt _ hn⟩, if_pos ⟨c, e.symm⟩, ih _ (Nat.mod_lt _ hn), h _ hd, satB_min, e]
      · rw [if_neg (fun k => e k.1), if_neg (fun k => e k.2.symm), ih q hq, Nat.add_zero]
    · rw [if_neg c, if_neg (fun k => c k.1), ih q hq, Nat.add_zero]
theorem cntL_is {S n : Nat} {T ws : List Int} (hn : 0 < n) : ∀ i, i ≤ ws.length → ∀ q, q < n → (cntL S n T ws i).getD q 0 = min ((act S n T (ws.take i) one1 q : Nat) : Int) big
  | 0, _, q, hq => by
    rw [cntL, List.getD_eq_getElem?_getD, List.getElem?_replicate, if_pos hq, List.take_zero]
    show (1 : Int) = min ((1 : Nat) : Int) big
    decide
  | i + 1, hi, q, hq => by
    have ih := cntL_is (S := S) (T := T) (ws := ws) hn i (by omega)
    have hl : i < ws.length := by omega
    rw [cntL, cntS_is hn ih (n * S) (Nat.le_refl _) q hq, List.take_succ_eq_append_getElem hl, act_append]
    have e : ws.getD i 0 = ws[i] := by simp [List.getD, hl]
    rw [e]
    rfl
theorem sumB_is {l : List Int} {v : Nat → Nat} {n : Nat} (h : ∀ p, p < n → l.getD p 0 = min (v p : Int) big) : ∀ i, i ≤ n → sumB l i = min ((sumN v i : Nat) : Int) big
  | 0, _ => by rw [sumB, sumN]; decide
  | i + 1, hi => by rw [sumB, sumN, sumB_is h i (by omega), h i (by omega), satB_min]
theorem parL_is {S n : Nat} {T ws : List Int} (hn : 0 < n) : parL S n T ws = min ((cntN S n T ws : Nat) : Int) big := by
  unfold parL cntN
  rw [sumB_is (cntL_is hn ws.length (Nat.le_refl _)) n (Nat.le_refl _), List.take_length]
end Go.Proofs.YtjjdjdodhedihaaDoor

namespace Go.Proofs.YtjjdjdodhedihaaDoor
open Go.RowKit
set_option linter.unusedVariables false

/-- The library's table as it is laid. -/
def TzTab (w : World) : Prop := ∀ j, j < 64 → w.cell? ⟨2, j, none⟩ = some (.int .u8 (Lib.deBruijn64tab.getD j 0))
theorem tz_lt {w : World} (h : TzTab w) : 2 < w.heap.size := by
  rcases Nat.lt_or_ge 2 w.heap.size with k | k
  · exact k
  · have := h 0 (by omega); simp [World.cell?, Array.getElem?_eq_none k] at this
theorem TzTab.below {w w' : World} (h : TzTab w) (hb : Below w.heap.size w w') : TzTab w' := fun j hj => (World.cell?_of_block (w := w) (a := ⟨2, j, none⟩) (hb.block _ (tz_lt h))).trans (h j hj)
theorem tz_key' (x a : Nat) (hx : x < 18446744073709551616) (hx0 : x ≠ 0) (hlow : x &&& (18446744073709551616 - x) = a) :
    IntKind.u64.wrap (bits BinOp.and IntKind.u64 (x : Int) (IntKind.u64.wrap (-(x : Int))) * 285870213051353865) / 288230376151711744 = ((a * 285870213051353865 % 18446744073709551616 / 288230376151711744 : Nat) : Int) := by
  have e1 : IntKind.u64.wrap (-(x : Int)) = ((18446744073709551616 - x : Nat) : Int) := by rw [IntKind.wrap_u64]; omega
  rw [e1, bits_and_u64_nat x _ hx (by omega), hlow, IntKind.wrap_u64]
  omega
theorem ofInt64_small {a : Nat} (ha : a < 9223372036854775808) : (BitVec.ofInt 64 (a : Int)).toNat = a := by
  rw [BitVec.ofInt_natCast, BitVec.toNat_ofNat]; exact Nat.mod_eq_of_lt (by omega)
theorem wrap_i64_small {a : Nat} (ha : a < 9223372036854775808) : IntKind.i64.wrap (a : Int) = (a : Int) := by
  simp [IntKind.wrap, IntKind.signed, IntKind.bits]
  omega
theorem or_i64 {a b : Nat} (ha : a < 65536) (hb : b < 65536) : bits .or .i64 (a : Int) (b : Int) = ((a ||| b : Nat) : Int) := by
  have hx : a ||| b < 2 ^ 16 := Nat.or_lt_two_pow (by omega) (by omega)
  show IntKind.i64.wrap ((BitVec.ofInt 64 (a : Int) ||| BitVec.ofInt 64 (b : Int)).toNat : Int) = _
  rw [BitVec.toNat_or, ofInt64_small (by omega), ofInt64_small (by omega), wrap_i64_small (by omega)]
theorem and_i64 {a : Nat} (h0 : 0 < a) (ha : a < 65536) : bits .and .i64 (a : Int) ((a : Int) - 1) = ((a &&& (a - 1) : Nat) : Int) := by
  have hx : a &&& (a - 1) < 2 ^ 16 := Nat.and_lt_two_pow _ (by omega)
  rw [show (a : Int) - 1 = ((a - 1 : Nat) : Int) by omega]
  show IntKind.i64.wrap ((BitVec.ofInt 64 (a : Int) &&& BitVec.ofInt 64 ((a - 1 : Nat) : Int)).toNat : Int) = _
  rw [BitVec.toNat_and, ofInt64_small (by omega), ofInt64_small (by omega), wrap_i64_small (by omega)]
/-- The lowest bit, told by its number. -/
theorem ctz_low {x : Nat} (h0 : 0 < x) (h : x < 2 ^ 64) : x.testBit (Lib.ctz 64 x) = true ∧ ∀ j, j < Lib.ctz 64 x → x.testBit j = false := by
  obtain ⟨m, hm, _⟩ := Lib.ctzFrom_spec 64 x h0 h
  have hc : Lib.ctz 64 x = Lib.ctzFrom 64 x := by unfold Lib.ctz; rw [if_neg (by omega)]
  rw [hc]
  obtain ⟨k, hk⟩ : ∃ k, Lib.ctzFrom 64 x = k := ⟨_, rfl⟩
  rw [hk] at hm ⊢
  have e : x = 2 ^ k * (2 * m + 1) + 0 := by omega
  have hp : 0 < 2 ^ k := Nat.pow_pos (by omega)
  refine ⟨by rw [e, Nat.testBit_two_pow_mul_add _ hp]; simp, fun j hj => by rw [e, Nat.testBit_two_pow_mul_add _ hp, if_pos hj]; simp⟩

set_option maxRecDepth 100000 in
set_option maxHeartbeats 6400000 in
theorem tz64_any (x : Nat) (w : World) (hx0 : 0 < x) (hx : x < 18446744073709551616) (hT : TzTab w) :
    Calls Tryd.prog 124 #[.int .u64 (x : Int)] w fun e w' => e = .returned (.int .i64 ((Lib.ctz 64 x : Nat) : Int)) ∧ w' = w := by
  obtain ⟨hlow, hk⟩ := Lib.lowest_bit 64 x (by omega) hx
  obtain ⟨hi, htab⟩ := Lib.deBruijn64_at _ hk
  have hcell := hT _ hi
  rw [htab] at hcell
  have key := tz_key' x _ hx (by omega) hlow
  have xz : ((x : Int) == 0) = false := by rw [beq_eq_false_iff_ne]; omega
  obtain ⟨idx, hidx⟩ : ∃ idx, 2 ^ Lib.ctz 64 x * 285870213051353865 % 18446744073709551616 / 288230376151711744 = idx := ⟨_, rfl⟩
  rw [hidx] at hi hcell key
  obtain ⟨k, hkk⟩ : ∃ k, Lib.ctz 64 x = k := ⟨_, rfl⟩
  rw [hkk] at hcell hk ⊢
  clear hlow htab hidx hkk
  go_enter Tryd.func124, Tryd.ntmps124
  go_wp2_with (simp only [key])
  go_ret
  exact ⟨rfl, rfl⟩

set_option maxRecDepth 100000 in
set_option maxHeartbeats 6400000 in
theorem tz_any (x : Nat) (w : World) (hx0 : 0 < x) (hx : x < 18446744073709551616) (hT : TzTab w) :
    Calls Tryd.prog 104 #[.int .u64 (x : Int)] w fun e w' => e = .returned (.int .i64 ((Lib.ctz 64 x : Nat) : Int)) ∧ w' = w := by
  have C := hide' (tz64_any x w hx0 hx hT)
  go_enter Tryd.func104, Tryd.ntmps104
  go_wp2_with fail
  refine (show Calls Tryd.prog _ _ _ _ from C.out).mono ?_
  rintro e w' ⟨rfl, rfl⟩
  go_wp2
  go_ret
  exact ⟨rfl, rfl⟩

set_option maxRecDepth 100000 in
set_option maxHeartbeats 6400000 in
theorem follow_any (S n c m : Nat) (T : List Int) (a : Option Addr) (k d : Nat) (w : World) (hm : m < 2 ^ n) (n16 : n ≤ 16) (hA : ArgP w ((List.range n).map fun p => ((leadN S n T c p : Nat) : Int)) a k d) (hT : TzTab w) :
    Calls Tryd.prog 75 #[.int .i64 (m : Int), .slice a k d] w fun e w' => e = .returned (.int .i64 ((follN S n T c m : Nat) : Int)) ∧ w' = w := by
  have kn : k = n := by rw [hA.len]; simp
  subst kn
  have p16 : 2 ^ k ≤ 65536 := Nat.le_trans (Nat.pow_le_pow_right (by omega) n16) (by decide)
  have HA := hide' hA
  have HT := hide' hT
  have ST := hide' (FollInv.start (S := S) (T := T) (c := c) hm)
  clear hA hT
  go_enter Tryd.func75, Tryd.ntmps75
  go_wp2
  go_loop [0, 5] (fun mv ov => ∃ cur out : Nat, mv = .int .i64 (cur : Int) ∧ ov = .int .i64 (out : Int) ∧ Hid (FollInv S k T c m cur out)) (fun mv _ => (intOf mv).toNat)
  case atStart => exact ⟨m, 0, rfl, rfl, ST.out⟩
  case round =>
    obtain ⟨cur, out, rfl, rfl, H⟩ := hrel
    have cl : cur < 65536 := Nat.lt_of_lt_of_le H.out.1 p16
    have ol : out < 65536 := Nat.lt_of_lt_of_le H.out.2.1 p16
    rcases Nat.eq_zero_or_pos cur with z | z
    · subst z
      have E := hide' H.out.fin
      go_wp2
      go_ret
      exact ⟨by rw [← E.out]; rfl, rfl⟩
    · have q1 : ((cur : Int) != 0) = true := by simp; omega
      obtain ⟨t1, t2⟩ := ctz_low z (by omega)
      have TZC := hide' (tz_any cur w z (by omega) HT.out)
      obtain ⟨b, hb⟩ : ∃ b, Lib.ctz 64 cur = b := ⟨_, rfl⟩
      rw [hb] at t1 t2 TZC
      obtain ⟨bn, NX, dec⟩ := H.out.step t1 t2
      obtain ⟨g, off, rfl, hc⟩ := HA.out.at (k := b) bn
      have e1 : ((List.range k).map fun p => ((leadN S k T c p : Nat) : Int)).getD b 0 = ((leadN S k T c b : Nat) : Int) := by simp [List.getD, bn]
      rw [e1] at hc
      have NXH := hide' NX
      have ll : leadN S k T c b < 65536 := Nat.lt_of_lt_of_le (leadN_lt ..) p16
      obtain ⟨l, hl⟩ : ∃ l, leadN S k T c b = l := ⟨_, rfl⟩
      rw [hl] at hc NXH ll
      clear t1 t2 hb e1 hl NX
      have uw : IntKind.u64.wrap (cur : Int) = (cur : Int) := by rw [IntKind.wrap_u64]; omega
      have o1 := or_i64 ol ll
      have a1 := and_i64 z cl
      go_wp2_with fail
      refine (show Calls Tryd.prog _ _ _ _ from TZC.out).mono ?_
      rintro e w' ⟨rfl, rfl⟩
      go_wp2
      refine ⟨⟨cur &&& (cur - 1), out ||| l, ?_, ?_, NXH.out⟩, ?_⟩
      · rfl
      · rfl
      · simp [intOf]; omega
end Go.Proofs.YtjjdjdodhedihaaDoor

