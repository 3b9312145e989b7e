/-
  What the last text of this claim leans on, part 6: Cd3, Cb1.
-/
import Derived.Test.YtcfoeadfhkojeaaGreatDoorZm5
import Derived.Test.YtcfoeadfhkojeaaGreatDoorZm1
namespace Go.Proofs.YtcfoeadfhkojeaaGreatDoor
open Go.RowKit
set_option linter.unusedVariables false
def isP (j : Nat) : Bool := decide (2 ≤ j) && (List.range j).all fun i => decide (i < 2) || decide (j % i ≠ 0)
def prL (k : Nat) : List Nat := (List.range k).filter isP
def primT : List Nat := [2, 3, 5, 7, 11, 13, 17, 19, 23, 29, 31, 37, 41, 43, 47, 53, 59, 61, 67, 71, 73, 79, 83, 89, 97, 101, 103, 107]
set_option maxRecDepth 100000 in
theorem prL_all : prL 108 = primT := by decide +kernel
theorem prL_succ (k : Nat) : prL (k + 1) = prL k ++ if isP k then [k] else [] := by
  unfold prL
  rw [List.range_succ, List.filter_append]
  congr 1
  cases h : isP k <;> simp [h]
theorem prL_prefix {k : Nat} : ∀ d, ∃ r, prL (k + d) = prL k ++ r
  | 0 => ⟨[], by simp⟩
  | d + 1 => by
    obtain ⟨r, hr⟩ := prL_prefix (k := k) d
    rw [show k + (d + 1) = (k + d) + 1 by omega, prL_succ, hr]
    exact ⟨r ++ if isP (k + d) then [k + d] else [], by rw [List.append_assoc]⟩
theorem prL_take {k : Nat} (h : k ≤ 108) : prL k = primT.take (prL k).length := by
  obtain ⟨r, hr⟩ := prL_prefix (k := k) (108 - k)
  rw [show k + (108 - k) = 108 by omega, prL_all] at hr
  rw [hr, List.take_left]
theorem prL_lt {k n : Nat} (h : (prL k).length < n) (hn : n ≤ 28) (hk : k ≤ 108) : k < 108 := by
  rcases Nat.lt_or_ge k 108 with q | q
  · exact q
  · obtain rfl : k = 108 := by omega
    rw [prL_all] at h
    have : primT.length = 28 := by decide
    omega
/-- Of the numbers below i none divides k, from 2 on. -/
def noneB (k i : Nat) : Bool := (List.range i).all fun j => decide (j < 2) || decide (k % j ≠ 0)
theorem noneB_succ (k i : Nat) (h : 2 ≤ i) : noneB k (i + 1) = (noneB k i && decide (k % i ≠ 0)) := by
  unfold noneB
  rw [List.range_succ, List.all_append]
  simp [show ¬ i < 2 by omega]
theorem noneB_two (k : Nat) : noneB k 2 = true := by unfold noneB; simp [List.range, List.range.loop]
theorem isP_none {k : Nat} (h : 2 ≤ k) : isP k = noneB k k := by unfold isP noneB; simp [h]
/-- The first so many, as numbers of Go. -/
def primI (n : Nat) : List Int := (primT.take n).map fun x : Nat => (x : Int)
theorem own_slice {w : World} {base : Nat} {e : TypeId} {size n : Nat} {v : Value} {xs : List Value} (h : w.ownsRow base e size v n xs) : ∃ a q, v = .slice a n q := by
  rcases h.2 with ⟨rfl, rfl⟩ | ⟨g, cap, cur, rfl, -⟩
  · exact ⟨none, 0, rfl⟩
  · exact ⟨_, cap, rfl⟩
theorem own_argN {w : World} {base : Nat} {a : Option Addr} {q : Nat} {xs : List Nat} (h : w.ownsRow base 3 1 (.slice a xs.length q) xs.length (xs.map fun x : Nat => Value.int .i64 (x : Int))) : ArgP w (xs.map fun x : Nat => (x : Int)) a xs.length q := by
  rcases h.2 with ⟨e, h0⟩ | ⟨g, cap, cur, e, hb, hg, hn, hm, hs, ht⟩
  · obtain rfl : xs = [] := List.eq_nil_of_length_eq_zero h0
    exact argP_nil _ _ _
  · cases e
    refine ⟨by simp, Nat.le_trans hn hm, fun k hk => ⟨g, 0, rfl, lt_of_block hg, ?_⟩⟩
    have hk' : k < xs.length := by simpa using hk
    have e1 := congrArg (fun l => l[k]?) ht
    simp only [Nat.mul_one] at e1
    rw [List.getElem?_take_of_lt hk', Array.getElem?_toList] at e1
    rw [Nat.zero_add, cell_of_row w _ k _ _ _ hg, e1]
    simp [hk']
theorem own_geN {w : World} {base : Nat} {e : TypeId} {size n : Nat} {v : Value} {xs : List Value} (h : w.ownsRow base e size v n xs) : ∀ b, v.ownBlock = some b → base ≤ b := fun b eb => by
  rcases h.2 with ⟨rfl, -⟩ | ⟨g, cap, cur, rfl, h1, -⟩
  · cases eb
  · cases eb; exact h1
set_option maxRecDepth 100000 in
set_option maxHeartbeats 6400000 in
theorem refPrimes_any (n : Nat) (n28 : n ≤ 28) (w : World) : Calls Tryz.prog 9 #[.int .i64 (n : Int)] w fun e w' => ∃ a q, e = .returned (.slice a n q) ∧ ArgP w' (primI n) a n q ∧ Below w.heap.size w w' := by
  obtain ⟨i0, hi0, hz⟩ := Option.map_eq_some_iff.1 info_intC
  simp only [Prod.mk.injEq] at hz
  obtain ⟨hz0, hz1, hz2⟩ := hz
  go_enter Tryz.func9, Tryz.ntmps9
  go_wp2
  go_loopw [3, 4] (fun lv kv wr => ∃ (k L : Nat) (a : Option Addr) (q : Nat), kv = .int .i64 (k : Int) ∧ lv = .slice a L q ∧ Hid ((prL k).length = L ∧ wr.ownsRow w.heap.size 3 1 (.slice a L q) L ((prL k).map fun x : Nat => Value.int .i64 (x : Int))) ∧ 2 ≤ k ∧ k ≤ 108 ∧ L ≤ n ∧ Hid (Below w.heap.size w wr)) (fun _ kv _ => 108 - (intOf kv).toNat)
  case atStart => exact ⟨2, 0, none, 0, rfl, rfl, hide' ⟨by decide, World.ownsRow_nil w w.heap.size 3 1⟩, by omega, by omega, by omega, hide' (Below.refl _ _)⟩
  case round =>
    obtain ⟨k, L, a, q, rfl, rfl, OW, k2, k8, Ln, BW⟩ := hrel
    by_cases dl : (L : Int) < (n : Int)
    · have k7 : k < 108 := prL_lt (n := n) (by rw [OW.out.1]; omega) n28 k8
      obtain ⟨V0, rfl⟩ : ∃ V0, V0 = wr := ⟨_, rfl⟩
      go_wp2
      go_loopw [5, 6] (fun pv iv wr => ∃ i : Nat, iv = .int .i64 (i : Int) ∧ 2 ≤ i ∧ i ≤ k ∧ pv = .bool (noneB k i) ∧ V0 = wr) (fun _ iv _ => k - (intOf iv).toNat)
      case atStart => exact ⟨2, rfl, by omega, by omega, by rw [noneB_two], rfl⟩
      case round =>
        obtain ⟨i, rfl, i2, ik, rfl, rfl⟩ := hrel
        by_cases di : (i : Int) < (k : Int)
        · have iz : ¬ i = 0 := by omega
          have NB := hide' (noneB_succ k i i2)
          obtain ⟨r, hr⟩ : ∃ r, k % i = r := ⟨_, rfl⟩
          rw [hr] at NB
          have qr : (k : Int) % (i : Int) = (r : Int) := by rw [← hr]; rfl
          obtain ⟨b, hb⟩ : ∃ b, noneB k i = b := ⟨_, rfl⟩
          rw [hb] at NB ⊢
          clear hr hb
          by_cases r0 : r = 0
          · subst r0
            have FN := hide' (show noneB k (i + 1) = false by rw [NB.out]; simp)
            go_wp2
            exact ⟨⟨i + 1, by go_num, by omega, by omega, by rw [FN.out], by simp⟩, by simp [intOf]; omega⟩
          · have rz : (r == 0) = false := by simpa using r0
            have FN := hide' (show noneB k (i + 1) = b by rw [NB.out]; simp [r0])
            go_wp2
            exact ⟨⟨i + 1, by go_num, by omega, by omega, by rw [FN.out], by simp⟩, by simp [intOf]; omega⟩
        · obtain rfl : i = k := by omega
          have IP := hide' (isP_none i2)
          have PS := hide' (prL_succ i)
          cases hb : noneB i i
          · have PE := hide' (show prL (i + 1) = prL i by rw [PS.out, IP.out, hb]; simp)
            clear hb
            go_wp2
            exact ⟨⟨i + 1, L, a, q, by go_num, rfl, hide' (by rw [PE.out]; exact OW.out), by omega, by omega, Ln, BW⟩, by simp [intOf]; omega⟩
          · have PE := hide' (show prL (i + 1) = prL i ++ [i] by rw [PS.out, IP.out, hb]; simp)
            clear hb
            have NW : ∀ j u, [Value.int .i64 (i : Int)][j]? = some u → (V0.alloc (.cells #[.int .i64 (i : Int)] 3)).cell? ((⟨V0.heap.size, 0, none⟩ : Addr).add j) = some u := fun j u hj => by
              have j0 : j = 0 := by
                rcases Nat.eq_zero_or_pos j with h | h
                · exact h
                · rw [List.getElem?_eq_none (by simp; omega)] at hj; cases hj
              subst j0
              simp at hj
              subst hj
              exact cell_of_row _ _ 0 _ _ _ (heap_alloc_new _ _)
            have z0 := BW.out.size
            go_wp2_with (at_builtin; go_loud (refine wpList_append_own _ rfl _ _ 23 rfl w.heap.size 3 i0 (.int .i64 0) 1 8 Tryz.underlying23 hi0 hz0 hz1 hz2 rfl (by decide) _ L _ rfl (OW.out.2.alloc _) ⟨V0.heap.size, 0, none⟩ 1 1 [Value.int .i64 (i : Int)] rfl rfl NW (fun u hu => by simp at hu; subst hu; rfl) (by unfold maxLen; omega) (by omega) (by simp; omega) ?_; intro v' w1 ho hg hn; go_frame))
            obtain ⟨a', q', rfl⟩ := own_slice ho
            refine ⟨⟨i + 1, L + 1, a', q', by go_num, rfl, hide' ⟨by rw [PE.out, List.length_append, OW.out.1]; rfl, by rw [PE.out, List.map_append]; exact ho⟩, by omega, by omega, by omega, hide' ((BW.out.alloc z0 _).grown hg (by simp; omega) (own_geN OW.out.2))⟩, by simp [intOf]; omega⟩
    · have E := hide' (show n = L by omega)
      have FIN := hide' (show ArgP wr (primI n) a n q from by
        unfold primI
        have h := prL_take k8
        rw [OW.out.1, ← E.out] at h
        have o := OW.out.2
        rw [← OW.out.1] at o
        have := own_argN o
        rw [OW.out.1, ← E.out, h] at this
        exact this)
      go_wp2
      go_ret
      exact ⟨a, q, by rw [E.out]; rfl, FIN.out, BW.out⟩
end Go.Proofs.YtcfoeadfhkojeaaGreatDoor

namespace Go.Proofs.YtcfoeadfhkojeaaGreatDoor
set_option linter.unusedVariables false
theorem dg_mul (q v1 v0 B : Nat) : q * (v1 * B + v0) = q * v1 * B + q * v0 := by rw [Nat.mul_add, ← Nat.mul_assoc]
theorem dg_low {u v1 v0 d B q r : Nat} (h : q * v1 + r = u) (h2 : q * v0 ≤ B * r + d) : q * (v1 * B + v0) ≤ u * B + d := by
  rw [dg_mul, ← h, Nat.add_mul, Nat.mul_comm r B]; omega
theorem dg_high {u v1 v0 d B q r : Nat} (h : q * v1 + r = u) (h2 : B * r + d < q * v0) : u * B + d < q * (v1 * B + v0) := by
  rw [dg_mul, ← h, Nat.add_mul, Nat.mul_comm r B]; omega
/-- While a digit is looked for: not below the true one. -/
structure Dg (u v1 v0 d B q r : Nat) : Prop where
  sum : q * v1 + r = u
  lt : r < B
  up : u * B + d < (q + 1) * (v1 * B + v0)
  le : q ≤ B + 1
theorem Dg.start {u v1 v0 d B : Nat} (hv : B ≤ 2 * v1) (h1 : v1 < B) (h0 : v0 < B) (hd : d < B) (hu : u < v1 * B + v0) : Dg u v1 v0 d B (u / v1) (u % v1) := by
  have v0' : 0 < v1 := by omega
  have hm := Nat.mod_lt u v0'
  have hs := Nat.div_add_mod u v1
  refine ⟨by rw [Nat.mul_comm]; exact hs, by omega, ?_, ?_⟩
  · have h2 : u + 1 ≤ (u / v1 + 1) * v1 := by rw [Nat.add_mul, Nat.one_mul, Nat.mul_comm]; omega
    have h3 : (u + 1) * B ≤ (u / v1 + 1) * v1 * B := Nat.mul_le_mul_right B h2
    rw [dg_mul]
    have h4 : (u + 1) * B = u * B + B := by rw [Nat.add_mul, Nat.one_mul]
    omega
  · have h2 : u < v1 * (B + 2) := by rw [Nat.mul_add]; omega
    have := Nat.div_lt_of_lt_mul h2
    omega
theorem Dg.next {u v1 v0 d B q r : Nat} (h : Dg u v1 v0 d B q r) (hd : d < B) (hu : u < v1 * B + v0) (t : B ≤ q ∨ B * r + d < q * v0) : 1 ≤ q ∧ (q - 1) * v1 + (r + v1) = u ∧ u * B + d < (q - 1 + 1) * (v1 * B + v0) ∧ q - 1 ≤ B := by
  have hlt : u * B + d < q * (v1 * B + v0) := by
    rcases t with t | t
    · have h1 : (u + 1) * B ≤ (v1 * B + v0) * B := Nat.mul_le_mul_right B hu
      have h2 : B * (v1 * B + v0) ≤ q * (v1 * B + v0) := Nat.mul_le_mul_right _ t
      rw [Nat.mul_comm B] at h2
      have h4 : (u + 1) * B = u * B + B := by rw [Nat.add_mul, Nat.one_mul]
      omega
    · exact dg_high h.sum t
  have q1 : 1 ≤ q := by
    rcases Nat.eq_zero_or_pos q with z | z
    · rw [z, Nat.zero_mul] at hlt; omega
    · exact z
  obtain ⟨p, rfl⟩ : ∃ p, q = p + 1 := ⟨q - 1, by omega⟩
  have hs := h.sum
  have := h.le
  rw [Nat.add_mul, Nat.one_mul] at hs
  simp only [Nat.add_sub_cancel]
  exact ⟨q1, by omega, hlt, by omega⟩
/-- The digit is found. -/
def DgIs (u v1 v0 d B q : Nat) : Prop := q * (v1 * B + v0) ≤ u * B + d ∧ u * B + d < (q + 1) * (v1 * B + v0) 
theorem Dg.fin {u v1 v0 d B q r : Nat} (h : Dg u v1 v0 d B q r) (t : q * v0 ≤ B * r + d) : DgIs u v1 v0 d B q := ⟨dg_low h.sum t, h.up⟩
theorem Dg.brk {u v1 v0 d B q r : Nat} (h0 : v0 < B) (h1 : q * v1 + r = u) (h2 : u * B + d < (q + 1) * (v1 * B + v0)) (hq : q ≤ B) (hr : B ≤ r) : DgIs u v1 v0 d B q := by
  refine ⟨dg_low h1 ?_, h2⟩
  have a : q * v0 ≤ B * B := Nat.mul_le_mul hq (Nat.le_of_lt h0)
  have b : B * B ≤ B * r := Nat.mul_le_mul_left B hr
  omega
theorem DgIs.lt {u v1 v0 d B q : Nat} (h : DgIs u v1 v0 d B q) (hd : d < B) (hu : u < v1 * B + v0) : q < B := by
  rcases Nat.lt_or_ge q B with k | k
  · exact k
  · have h1 : (u + 1) * B ≤ (v1 * B + v0) * B := Nat.mul_le_mul_right B hu
    have h2 : B * (v1 * B + v0) ≤ q * (v1 * B + v0) := Nat.mul_le_mul_right _ k
    rw [Nat.mul_comm B] at h2
    have h4 : (u + 1) * B = u * B + B := by rw [Nat.add_mul, Nat.one_mul]
    have := h.1
    omega
theorem DgIs.rem {u v1 v0 d B q : Nat} (h : DgIs u v1 v0 d B q) : u * B + d - q * (v1 * B + v0) < v1 * B + v0 := by
  have := h.1
  have h2 := h.2
  rw [Nat.add_mul, Nat.one_mul] at h2
  omega
/-- Two digits are a quotient. -/
theorem two_digits {N s y v1 v0 u d1 d0 B q1 q0 : Nat} (hY : y * 2 ^ s = v1 * B + v0) (hN : N * 2 ^ s = (u * B + d1) * B + d0) (h1 : DgIs u v1 v0 d1 B q1) (h0 : DgIs (u * B + d1 - q1 * (v1 * B + v0)) v1 v0 d0 B q0) (hy : 0 < y) :
    N / y = q1 * B + q0 ∧ N % y = ((u * B + d1 - q1 * (v1 * B + v0)) * B + d0 - q0 * (v1 * B + v0)) / 2 ^ s := by
  obtain ⟨a1, a2⟩ := h1
  obtain ⟨b1, b2⟩ := h0
  obtain ⟨x, hx⟩ : ∃ x, u * B + d1 = q1 * (v1 * B + v0) + x := ⟨u * B + d1 - q1 * (v1 * B + v0), by omega⟩
  rw [hx, Nat.add_sub_cancel_left] at b1 b2 ⊢
  obtain ⟨z, hz⟩ : ∃ z, x * B + d0 = q0 * (v1 * B + v0) + z := ⟨x * B + d0 - q0 * (v1 * B + v0), by omega⟩
  rw [hz, Nat.add_sub_cancel_left]
  rw [hz, Nat.add_mul, Nat.one_mul] at b2
  have zl : z < v1 * B + v0 := by omega
  rw [← hY] at *
  have p0 : 0 < 2 ^ s := Nat.pow_pos (by decide)
  have e : N * 2 ^ s = (q1 * B + q0) * y * 2 ^ s + z := by
    rw [hN, hx, Nat.add_mul, Nat.add_assoc, hz, ← Nat.add_assoc, Nat.mul_assoc (q1 * B + q0), Nat.add_mul (q1 * B)]
    rw [show q1 * (y * 2 ^ s) * B = q1 * B * (y * 2 ^ s) by rw [Nat.mul_assoc, Nat.mul_comm (y * 2 ^ s) B, ← Nat.mul_assoc]]
  have dv : 2 ^ s ∣ z := by
    have h1 : 2 ^ s ∣ N * 2 ^ s := ⟨N, Nat.mul_comm _ _⟩
    have h2 : 2 ^ s ∣ (q1 * B + q0) * y * 2 ^ s := ⟨(q1 * B + q0) * y, Nat.mul_comm _ _⟩
    rw [e] at h1
    exact (Nat.dvd_add_right h2).1 h1
  obtain ⟨t, rfl⟩ := dv
  rw [Nat.mul_div_cancel_left _ p0]
  have tl : t < y := by
    rw [Nat.mul_comm y] at zl
    exact Nat.lt_of_mul_lt_mul_left zl
  have e2 : N = y * (q1 * B + q0) + t := by
    have : N * 2 ^ s = (y * (q1 * B + q0) + t) * 2 ^ s := by rw [e, Nat.mul_comm (2 ^ s) t, Nat.mul_comm (q1 * B + q0) y, ← Nat.add_mul]
    exact Nat.eq_of_mul_eq_mul_right p0 this
  rw [e2]
  constructor
  · rw [Nat.mul_add_div hy, Nat.div_eq_of_lt tl]; rfl
  · rw [Nat.mul_add_mod, Nat.mod_eq_of_lt tl]
theorem wrapU (x : Nat) (h : x < 18446744073709551616) : IntKind.u64.wrap (x : Int) = (x : Int) := by simp [IntKind.wrap, IntKind.bits, IntKind.signed]; omega
theorem wrap_stage {P d Q x : Nat} (h : P + d = Q + x) (hx : x < 18446744073709551616) : ∃ a b c : Nat, IntKind.u64.wrap (P : Int) = (a : Int) ∧ IntKind.u64.wrap ((a : Int) + (d : Int)) = (b : Int) ∧ IntKind.u64.wrap (Q : Int) = (c : Int) ∧ IntKind.u64.wrap ((b : Int) - (c : Int)) = (x : Int) := by
  refine ⟨P % 18446744073709551616, (P % 18446744073709551616 + d) % 18446744073709551616, Q % 18446744073709551616, ?_, ?_, ?_, ?_⟩ <;> simp [IntKind.wrap, IntKind.bits, IntKind.signed] <;> omega
end Go.Proofs.YtcfoeadfhkojeaaGreatDoor

