/-
  What the last text of this claim leans on, part 4: Wa1, Ga1, Rk2, Rk3, Clone, Rk4.
-/
import Derived.Test.YtbkllhlapdmlfaaQb3
import Derived.Test.YtbkllhlapdmlfaaQb2
import Derived.Test.YtbkllhlapdmlfaaProg
import Derived.Lib.Strings
import Derived.Lib.Walk
import Derived.Lib.BufferWrite
import Derived.Lib.UnsafeStr
import Derived.Lib.Hide
import Derived.Laws.MakeOwn
import Derived.WalkKit
import Derived.Deep.RegionWith
namespace Go.Proofs.Ytbkllhlapdmlfaa
open Go.RowKit
set_option linter.unusedVariables false

/-- A pattern that came in, as a value: its cells anywhere. -/
structure ArgP (w : World) (xs : List Int) (a : Option Addr) (n c : Nat) : Prop where
  len : n = xs.length
  max : n ≤ maxLen
  cells : ∀ k (h : k < xs.length), ∃ g off, a = some ⟨g, off, none⟩ ∧ g < w.heap.size ∧ w.cell? ⟨g, off + k, none⟩ = some (.int .i64 xs[k])
theorem ArgP.below {w w' : World} {xs : List Int} {a : Option Addr} {n c : Nat} (h : ArgP w xs a n c) (hb : Below w.heap.size w w') : ArgP w' xs a n c :=
  ⟨h.len, h.max, fun k hk => by
    obtain ⟨g, off, e, hg, hc⟩ := h.cells k hk
    exact ⟨g, off, e, Nat.lt_of_lt_of_le hg hb.size, (World.cell?_of_block (w := w) (a := ⟨g, off + k, none⟩) (hb.block g hg)).trans hc⟩⟩
theorem ArgP.alloc {w : World} {xs : List Int} {a : Option Addr} {n c : Nat} (h : ArgP w xs a n c) (x : Obj) : ArgP (w.alloc x) xs a n c :=
  h.below ((Below.refl _ _).alloc (Nat.le_refl _) _)

def cellB (x : Int) : Bool := decide (x = 0) || decide (x = 1)
def shapeF (W H : Int) (xs : List Int) : Nat :=
  if sideB W && sideB H then (if (xs.length : Int) = W * H then (if xs.all cellB then 0 else 1) else 3) else 1

def errOf (f : Nat) : Value := if f = 0 then .nilIface else .iface 74 (.int .i64 (f : Int))

theorem side_nat {W : Int} (h : sideB W = true) : ∃ n : Nat, W = (n : Int) ∧ n ≤ 100 := by
  unfold sideB at h
  simp at h
  exact ⟨W.toNat, by omega, by omega⟩
theorem side_no {W : Int} (h : sideB W = false) : W < 0 ∨ 100 < W := by
  unfold sideB at h
  simp at h
  omega
theorem all_bad {xs : List Int} {k : Nat} (hk : k < xs.length) (h : cellB xs[k] = false) : xs.all cellB = false := by
  cases q : xs.all cellB with
  | false => rfl
  | true => rw [List.all_eq_true.1 q _ (List.getElem_mem hk)] at h; cases h
theorem all_ok {xs : List Int} (h : ∀ k (hk : k < xs.length), cellB xs[k] = true) : xs.all cellB = true := by
  rw [List.all_eq_true]
  intro x hx
  obtain ⟨k, hk, rfl⟩ := List.getElem_of_mem hx
  exact h k hk
theorem cellB_iff (x : Int) : cellB x = true ↔ x = 0 ∨ x = 1 := by simp [cellB]

end Go.Proofs.Ytbkllhlapdmlfaa

namespace Go.Proofs.Ytbkllhlapdmlfaa
open Go.RowKit
set_option linter.unusedVariables false
def sideG (x : Int) : Bool := decide (1 ≤ x) && decide (x ≤ 100)
def limG (K : Int) : Int := if K = 4 then 16 else 64
def cellG (K x : Int) : Bool := decide (0 ≤ x) && decide (x < limG K)
/-- What is wrong with a gas. -/
def gasE (K W H : Int) (xs : List Int) : Nat :=
  if K = 4 ∨ K = 6 then (if sideG W && sideG H then (if K = 6 ∧ H % 2 ≠ 0 then 3 else if (xs.length : Int) = W * H then (if xs.all (cellG K) then 0 else 1) else 3) else 1) else 1
theorem sideG_nat {W : Int} (h : sideG W = true) : ∃ n : Nat, W = (n : Int) ∧ 1 ≤ n ∧ n ≤ 100 := by
  unfold sideG at h
  simp at h
  exact ⟨W.toNat, by omega, by omega, by omega⟩
theorem allG_bad {K : Int} {xs : List Int} {k : Nat} (hk : k < xs.length) (h : cellG K xs[k] = false) : xs.all (cellG K) = false := by
  cases q : xs.all (cellG K) with
  | false => rfl
  | true => rw [List.all_eq_true.1 q _ (List.getElem_mem hk)] at h; cases h
theorem allG_ok {K : Int} {xs : List Int} (h : ∀ k (hk : k < xs.length), cellG K xs[k] = true) : xs.all (cellG K) = true := by
  rw [List.all_eq_true]
  intro x hx
  obtain ⟨k, hk, rfl⟩ := List.getElem_of_mem hx
  exact h k hk
theorem gisSide (x : Int) (w : World) : Calls Try.prog 33 #[.int .i64 x] w fun e w' => e = .returned (.bool (sideG x)) ∧ w' = w := by
  by_cases h1 : 1 ≤ x
  · by_cases h2 : x ≤ 100
    · have F := hide' (show sideG x = true by unfold sideG; simp; omega)
      go_enter Try.func33, Try.ntmps33
      go_wp2
      go_ret
      rw [F.out]
      exact ⟨rfl, rfl⟩
    · have F := hide' (show sideG x = false by unfold sideG; simp; omega)
      go_enter Try.func33, Try.ntmps33
      go_wp2
      go_ret
      rw [F.out]
      exact ⟨rfl, rfl⟩
  · have F := hide' (show sideG x = false by unfold sideG; simp; omega)
    go_enter Try.func33, Try.ntmps33
    go_wp2
    go_ret
    rw [F.out]
    exact ⟨rfl, rfl⟩
set_option maxRecDepth 100000 in
set_option maxHeartbeats 3200000 in
theorem Check_G4 (W H : Int) (xs : List Int) (a : Option Addr) (n c : Nat) (w : World) (hP : ArgP w xs a n c) :
    Calls Try.prog 15 #[.agg #[.int .i64 4, .int .i64 W, .int .i64 H, .slice a n c]] w fun e w' => e = .returned (errOf (gasE 4 W H xs)) ∧ Below w.heap.size w w' := by
  have HP := hide' (hP.alloc (.cells #[.int .i64 4, .int .i64 W, .int .i64 H, .slice a n c] 24))
  have hlen := hP.len
  have HL := hide' hlen
  have hmax := hP.max
  unfold maxLen at hmax
  clear hP hlen
  cases s1 : sideG W with
  | false =>
    have F := hide' (show errOf (gasE 4 W H xs) = .iface 74 (.int .i64 1) by unfold gasE; rw [if_pos (by omega), s1]; rfl)
    go_enter Try.func15, Try.ntmps15
    go_wp2_with fail
    refine (gisSide _ _).mono ?_
    rw [s1]
    rintro e w1 ⟨rfl, rfl⟩
    go_wp2
    go_ret
    rw [F.out]
    exact ⟨rfl, (Below.refl _ _).alloc (Nat.le_refl _) _⟩
  | true =>
    cases s2 : sideG H with
    | false =>
      have F := hide' (show errOf (gasE 4 W H xs) = .iface 74 (.int .i64 1) by unfold gasE; rw [if_pos (by omega), s1, s2]; rfl)
      go_enter Try.func15, Try.ntmps15
      go_wp2_with fail
      refine (gisSide _ _).mono ?_
      rw [s1]
      rintro e w1 ⟨rfl, rfl⟩
      go_wp2_with fail
      refine (gisSide _ _).mono ?_
      rw [s2]
      rintro e w1 ⟨rfl, rfl⟩
      go_wp2
      go_ret
      rw [F.out]
      exact ⟨rfl, (Below.refl _ _).alloc (Nat.le_refl _) _⟩
    | true =>
      obtain ⟨Wn, rfl, lW0, lW⟩ := sideG_nat s1
      obtain ⟨Hn, rfl, lH0, lH⟩ := sideG_nat s2
      obtain ⟨N, hN⟩ : ∃ N, Wn * Hn = N := ⟨_, rfl⟩
      have hNi : (Wn : Int) * (Hn : Int) = (N : Int) := by rw [← hN]; simp
      have hN4 : N ≤ 10000 := by rw [← hN]; exact Nat.mul_le_mul lW lH
      by_cases q : n = N
      · have m1 : ((n : Int) != (N : Int)) = false := by simp; omega
        have FO := hide' (fun (h : xs.all (cellG 4) = true) => show errOf (gasE 4 Wn Hn xs) = .nilIface by unfold gasE; rw [if_pos (by omega), s1, s2, if_pos (show (true && true) = true from rfl), if_neg (by omega), if_pos (by rw [hNi, ← HL.out, q]), if_pos h]; rfl)
        have FN := hide' (fun (h : xs.all (cellG 4) = false) => show errOf (gasE 4 Wn Hn xs) = .iface 74 (.int .i64 1) by unfold gasE; rw [if_pos (by omega), s1, s2, if_pos (show (true && true) = true from rfl), if_neg (by omega), if_pos (by rw [hNi, ← HL.out, q]), if_neg (by rw [h]; simp)]; rfl)
        clear q hN
        go_enter Try.func15, Try.ntmps15
        go_wp2_with fail
        refine (gisSide _ _).mono ?_
        rw [s1]
        rintro e w1 ⟨rfl, rfl⟩
        go_wp2_with fail
        refine (gisSide _ _).mono ?_
        rw [s2]
        rintro e w1 ⟨rfl, rfl⟩
        go_wp2
        go_loop [48] (fun kv => ∃ k : Nat, kv = .int .i64 (k : Int) ∧ k ≤ n ∧ ∀ j (h : j < xs.length), j < k → cellG 4 xs[j] = true) (fun kv => n - (intOf kv).toNat)
        case atStart => exact ⟨0, rfl, by omega, fun j h hj => by omega⟩
        case round =>
          obtain ⟨k, rfl, hk, hall⟩ := hrel
          have HA := hide' hall
          clear hall
          by_cases d : (k : Int) < (n : Int)
          · have hkl : k < xs.length := by have := HL.out; omega
            obtain ⟨g, off, rfl, hg, hc⟩ := HP.out.cells k hkl
            obtain ⟨x, hx⟩ : ∃ x, xs[k] = x := ⟨_, rfl⟩
            rw [hx] at hc
            have HX := hide' hx
            clear hx
            by_cases x0 : x < 0
            · have X := hide' (show cellG 4 x = false by unfold cellG; simp; omega)
              go_wp2
              go_ret
              rw [FN.out (allG_bad hkl (by rw [HX.out]; exact X.out))]
              exact ⟨rfl, (Below.refl _ _).alloc (Nat.le_refl _) _⟩
            · by_cases x1 : 16 ≤ x
              · have X := hide' (show cellG 4 x = false by unfold cellG limG; simp; omega)
                go_wp2
                go_ret
                rw [FN.out (allG_bad hkl (by rw [HX.out]; exact X.out))]
                exact ⟨rfl, (Below.refl _ _).alloc (Nat.le_refl _) _⟩
              · have X := hide' (show cellG 4 x = true by unfold cellG limG; simp; omega)
                go_wp2
                refine ⟨⟨k + 1, by go_num, by omega, fun j h hj => ?_⟩, by simp [intOf]; omega⟩
                by_cases e : j = k
                · subst e; rw [HX.out]; exact X.out
                · exact HA.out j h (by omega)
          · have HA2 := hide' (allG_ok (fun j h => HA.out j h (by have := HL.out; omega)))
            go_wp2
            go_ret
            rw [FO.out HA2.out]
            exact ⟨rfl, (Below.refl _ _).alloc (Nat.le_refl _) _⟩
      · have m1 : ((n : Int) != (N : Int)) = true := by simp; omega
        have F := hide' (show errOf (gasE 4 Wn Hn xs) = .iface 74 (.int .i64 3) by unfold gasE; rw [if_pos (by omega), s1, s2, if_pos (show (true && true) = true from rfl), if_neg (by omega), if_neg (by rw [hNi, ← HL.out]; omega)]; rfl)
        clear q hN
        go_enter Try.func15, Try.ntmps15
        go_wp2_with fail
        refine (gisSide _ _).mono ?_
        rw [s1]
        rintro e w1 ⟨rfl, rfl⟩
        go_wp2_with fail
        refine (gisSide _ _).mono ?_
        rw [s2]
        rintro e w1 ⟨rfl, rfl⟩
        go_wp2
        go_ret
        rw [F.out]
        exact ⟨rfl, (Below.refl _ _).alloc (Nat.le_refl _) _⟩
set_option maxRecDepth 100000 in
set_option maxHeartbeats 3200000 in
theorem Check_G6 (W H : Int) (xs : List Int) (a : Option Addr) (n c : Nat) (w : World) (hP : ArgP w xs a n c) :
    Calls Try.prog 15 #[.agg #[.int .i64 6, .int .i64 W, .int .i64 H, .slice a n c]] w fun e w' => e = .returned (errOf (gasE 6 W H xs)) ∧ Below w.heap.size w w' := by
  have HP := hide' (hP.alloc (.cells #[.int .i64 6, .int .i64 W, .int .i64 H, .slice a n c] 24))
  have hlen := hP.len
  have HL := hide' hlen
  have hmax := hP.max
  unfold maxLen at hmax
  clear hP hlen
  cases s1 : sideG W with
  | false =>
    have F := hide' (show errOf (gasE 6 W H xs) = .iface 74 (.int .i64 1) by unfold gasE; rw [if_pos (by omega), s1]; rfl)
    go_enter Try.func15, Try.ntmps15
    go_wp2_with fail
    refine (gisSide _ _).mono ?_
    rw [s1]
    rintro e w1 ⟨rfl, rfl⟩
    go_wp2
    go_ret
    rw [F.out]
    exact ⟨rfl, (Below.refl _ _).alloc (Nat.le_refl _) _⟩
  | true =>
    cases s2 : sideG H with
    | false =>
      have F := hide' (show errOf (gasE 6 W H xs) = .iface 74 (.int .i64 1) by unfold gasE; rw [if_pos (by omega), s1, s2]; rfl)
      go_enter Try.func15, Try.ntmps15
      go_wp2_with fail
      refine (gisSide _ _).mono ?_
      rw [s1]
      rintro e w1 ⟨rfl, rfl⟩
      go_wp2_with fail
      refine (gisSide _ _).mono ?_
      rw [s2]
      rintro e w1 ⟨rfl, rfl⟩
      go_wp2
      go_ret
      rw [F.out]
      exact ⟨rfl, (Below.refl _ _).alloc (Nat.le_refl _) _⟩
    | true =>
      obtain ⟨Wn, rfl, lW0, lW⟩ := sideG_nat s1
      obtain ⟨Hn, rfl, lH0, lH⟩ := sideG_nat s2
      obtain ⟨N, hN⟩ : ∃ N, Wn * Hn = N := ⟨_, rfl⟩
      have hNi : (Wn : Int) * (Hn : Int) = (N : Int) := by rw [← hN]; simp
      have hN4 : N ≤ 10000 := by rw [← hN]; exact Nat.mul_le_mul lW lH
      by_cases o : (Hn : Int) % 2 = 0
      · have ot : ((Hn : Int)).tmod 2 = 0 := by rw [Int.tmod_eq_emod_of_nonneg (by omega)]; exact o
        by_cases q : n = N
        · have m1 : ((n : Int) != (N : Int)) = false := by simp; omega
          have FO := hide' (fun (h : xs.all (cellG 6) = true) => show errOf (gasE 6 Wn Hn xs) = .nilIface by unfold gasE; rw [if_pos (by omega), s1, s2, if_pos (show (true && true) = true from rfl), if_neg (by omega), if_pos (by rw [hNi, ← HL.out, q]), if_pos h]; rfl)
          have FN := hide' (fun (h : xs.all (cellG 6) = false) => show errOf (gasE 6 Wn Hn xs) = .iface 74 (.int .i64 1) by unfold gasE; rw [if_pos (by omega), s1, s2, if_pos (show (true && true) = true from rfl), if_neg (by omega), if_pos (by rw [hNi, ← HL.out, q]), if_neg (by rw [h]; simp)]; rfl)
          clear q hN
          go_enter Try.func15, Try.ntmps15
          go_wp2_with fail
          refine (gisSide _ _).mono ?_
          rw [s1]
          rintro e w1 ⟨rfl, rfl⟩
          go_wp2_with fail
          refine (gisSide _ _).mono ?_
          rw [s2]
          rintro e w1 ⟨rfl, rfl⟩
          go_wp2
          go_loop [48] (fun kv => ∃ k : Nat, kv = .int .i64 (k : Int) ∧ k ≤ n ∧ ∀ j (h : j < xs.length), j < k → cellG 6 xs[j] = true) (fun kv => n - (intOf kv).toNat)
          case atStart => exact ⟨0, rfl, by omega, fun j h hj => by omega⟩
          case round =>
            obtain ⟨k, rfl, hk, hall⟩ := hrel
            have HA := hide' hall
            clear hall
            by_cases d : (k : Int) < (n : Int)
            · have hkl : k < xs.length := by have := HL.out; omega
              obtain ⟨g, off, rfl, hg, hc⟩ := HP.out.cells k hkl
              obtain ⟨x, hx⟩ : ∃ x, xs[k] = x := ⟨_, rfl⟩
              rw [hx] at hc
              have HX := hide' hx
              clear hx
              by_cases x0 : x < 0
              · have X := hide' (show cellG 6 x = false by unfold cellG; simp; omega)
                go_wp2
                go_ret
                rw [FN.out (allG_bad hkl (by rw [HX.out]; exact X.out))]
                exact ⟨rfl, (Below.refl _ _).alloc (Nat.le_refl _) _⟩
              · by_cases x1 : 64 ≤ x
                · have X := hide' (show cellG 6 x = false by unfold cellG limG; simp; omega)
                  go_wp2
                  go_ret
                  rw [FN.out (allG_bad hkl (by rw [HX.out]; exact X.out))]
                  exact ⟨rfl, (Below.refl _ _).alloc (Nat.le_refl _) _⟩
                · have X := hide' (show cellG 6 x = true by unfold cellG limG; simp; omega)
                  go_wp2
                  refine ⟨⟨k + 1, by go_num, by omega, fun j h hj => ?_⟩, by simp [intOf]; omega⟩
                  by_cases e : j = k
                  · subst e; rw [HX.out]; exact X.out
                  · exact HA.out j h (by omega)
            · have HA2 := hide' (allG_ok (fun j h => HA.out j h (by have := HL.out; omega)))
              go_wp2
              go_ret
              rw [FO.out HA2.out]
              exact ⟨rfl, (Below.refl _ _).alloc (Nat.le_refl _) _⟩
        · have m1 : ((n : Int) != (N : Int)) = true := by simp; omega
          have F := hide' (show errOf (gasE 6 Wn Hn xs) = .iface 74 (.int .i64 3) by unfold gasE; rw [if_pos (by omega), s1, s2, if_pos (show (true && true) = true from rfl), if_neg (by omega), if_neg (by rw [hNi, ← HL.out]; omega)]; rfl)
          clear q hN
          go_enter Try.func15, Try.ntmps15
          go_wp2_with fail
          refine (gisSide _ _).mono ?_
          rw [s1]
          rintro e w1 ⟨rfl, rfl⟩
          go_wp2_with fail
          refine (gisSide _ _).mono ?_
          rw [s2]
          rintro e w1 ⟨rfl, rfl⟩
          go_wp2
          go_ret
          rw [F.out]
          exact ⟨rfl, (Below.refl _ _).alloc (Nat.le_refl _) _⟩
      · have o1 : (Hn : Int) % 2 = 1 := by omega
        have ot : ((Hn : Int)).tmod 2 = 1 := by rw [Int.tmod_eq_emod_of_nonneg (by omega)]; exact o1
        have F := hide' (show errOf (gasE 6 Wn Hn xs) = .iface 74 (.int .i64 3) by unfold gasE; rw [if_pos (by omega), s1, s2, if_pos (show (true && true) = true from rfl), if_pos (by omega)]; rfl)
        clear hN o
        go_enter Try.func15, Try.ntmps15
        go_wp2_with fail
        refine (gisSide _ _).mono ?_
        rw [s1]
        rintro e w1 ⟨rfl, rfl⟩
        go_wp2_with fail
        refine (gisSide _ _).mono ?_
        rw [s2]
        rintro e w1 ⟨rfl, rfl⟩
        go_wp2
        go_ret
        rw [F.out]
        exact ⟨rfl, (Below.refl _ _).alloc (Nat.le_refl _) _⟩
set_option maxRecDepth 100000 in
theorem Check_G (K W H : Int) (xs : List Int) (a : Option Addr) (n c : Nat) (w : World) (hP : ArgP w xs a n c) :
    Calls Try.prog 15 #[.agg #[.int .i64 K, .int .i64 W, .int .i64 H, .slice a n c]] w fun e w' => e = .returned (errOf (gasE K W H xs)) ∧ Below w.heap.size w w' := by
  by_cases k4 : K = 4
  · subst k4; exact Check_G4 W H xs a n c w hP
  · by_cases k6 : K = 6
    · subst k6; exact Check_G6 W H xs a n c w hP
    · have F := hide' (show errOf (gasE K W H xs) = .iface 74 (.int .i64 1) by unfold gasE; rw [if_neg (by omega)]; rfl)
      have m4 : (K != 4) = true := by simp [k4]
      have m6 : (K != 6) = true := by simp [k6]
      clear hP
      go_enter Try.func15, Try.ntmps15
      go_wp2
      go_ret
      rw [F.out]
      exact ⟨rfl, (Below.refl _ _).alloc (Nat.le_refl _) _⟩
end Go.Proofs.Ytbkllhlapdmlfaa

namespace Go.Proofs.Ytbkllhlapdmlfaa
open Go.RowKit

theorem num_le (s : ByteArray) (i least most : Nat) (h : numOk s i least most = true) : (num s i).1 ≤ most ∧ least ≤ (num s i).1 := by
  simp [numOk] at h
  omega

theorem i64_and_nat (a b : Nat) (ha : a < 4294967296) (hb : b < 4294967296) : bits .and .i64 (a : Int) (b : Int) = ((a &&& b : Nat) : Int) := by
  have hx : a &&& b < 2 ^ 32 := Nat.and_lt_two_pow _ (by omega)
  show IntKind.i64.wrap ((BitVec.ofInt 64 (a : Int) &&& BitVec.ofInt 64 (b : Int)).toNat : Int) = _
  rw [BitVec.toNat_and, ofInt_u64 a (by omega), ofInt_u64 b (by omega)]
  simp [IntKind.wrap, IntKind.bits, IntKind.signed]
  omega

theorem and_bit (n k : Nat) (hn : n ≤ 255) : bits BinOp.and IntKind.i64 ((n : Int) / 2 ^ k) 1 = bitOf n k := by
  rw [show ((n : Int) / 2 ^ k) = ((n / 2 ^ k : Nat) : Int) by simp]
  have hl : n / 2 ^ k ≤ n := Nat.div_le_self _ _
  have := i64_and_nat (n / 2 ^ k) 1 (by omega) (by omega)
  simp only [Nat.and_one_is_mod] at this
  exact this

end Go.Proofs.Ytbkllhlapdmlfaa

namespace Go.Proofs.Ytbkllhlapdmlfaa
open Go.RowKit
set_option linter.unusedVariables false

/-- What a text of tabled comes to, in one of six ways. -/
theorem tabled_ways (s : ByteArray) :
    (inR s 1 32 32 = false ∧ tabledS s = .inr 1) ∨
    (inR s 1 32 32 = true ∧ numOk s 2 2 4 = false ∧ tabledS s = .inr 2) ∨
    (inR s 1 32 32 = true ∧ numOk s 2 2 4 = true ∧ inR s (num s 2).2 32 32 = false ∧ tabledS s = .inr (num s 2).2) ∨
    (inR s 1 32 32 = true ∧ numOk s 2 2 4 = true ∧ inR s (num s 2).2 32 32 = true ∧ numOk s ((num s 2).2 + 1) 0 2 = false ∧ tabledS s = .inr ((num s 2).2 + 1)) ∨
    (inR s 1 32 32 = true ∧ numOk s 2 2 4 = true ∧ inR s (num s 2).2 32 32 = true ∧ numOk s ((num s 2).2 + 1) 0 2 = true ∧ inR s (num s ((num s 2).2 + 1)).2 32 32 = false ∧ tabledS s = .inr (num s ((num s 2).2 + 1)).2) ∨
    (inR s 1 32 32 = true ∧ numOk s 2 2 4 = true ∧ inR s (num s 2).2 32 32 = true ∧ numOk s ((num s 2).2 + 1) 0 2 = true ∧ inR s (num s ((num s 2).2 + 1)).2 32 32 = true ∧
      tabledS s = tabEnd s (num s 2).1 (num s ((num s 2).2 + 1)).1 (num s ((num s 2).2 + 1)).2) := by
  unfold tabledS
  cases hA : inR s 1 32 32
  · simp
  cases hB : numOk s 2 2 4
  · simp
  cases hC : inR s (num s 2).2 32 32
  · simp
  cases hD : numOk s ((num s 2).2 + 1) 0 2
  · simp
  cases hE : inR s (num s ((num s 2).2 + 1)).2 32 32
  · simp
  · simp

/-- What a call on the reader comes to: the rule, and how far; or the fault's place, by a panic. -/
def Reads (x : (Out × Nat) ⊕ Nat) (b : Nat) (s : ByteArray) (w : World) (e : Ending) (w' : World) : Prop :=
  match x with
  | .inr a => e = .panicked oops ∧ At b s a w' ∧ Rd b w w'
  | .inl (o, p) => ∃ v, e = .returned (o.val v) ∧ Tab w' v o.table ∧ Fresh w v ∧ At b s p w' ∧ Rd b w w' ∧ p ≤ s.size

theorem Reads.bad {b : Nat} {s : ByteArray} {w w' : World} {a : Nat} (ha : At b s a w') (hr : Rd b w w') : Reads (.inr a) b s w (.panicked oops) w' := ⟨rfl, ha, hr⟩

theorem tabF_step {s : ByteArray} {hi : Int} {N k i : Nat} (hk : k < N) (h : inR s i 48 hi = true) : tabF s hi (N - k) i + k = tabF s hi (N - (k + 1)) (i + 1) + (k + 1) := by
  rw [show N - k = (N - (k + 1)) + 1 by omega]
  simp [tabF, h]; omega
theorem tabF_stop {s : ByteArray} {hi : Int} {N k i : Nat} (h : inR s i 48 hi = false) : tabF s hi (N - k) i + k = k := by
  cases N - k <;> simp [tabF, h]

end Go.Proofs.Ytbkllhlapdmlfaa

namespace Go.Proofs.Ytbkllhlapdmlfaa
open Go.RowKit

theorem info_u8 : (Try.prog.info? 5).map (fun i => (i.zero, i.size, i.bytes)) = some (some (.int .u8 0), 1, 1) := by kernel_rfl

end Go.Proofs.Ytbkllhlapdmlfaa

namespace Go.Proofs.Ytbkllhlapdmlfaa
open Go.RowKit
set_option linter.unusedVariables false

theorem isTurn_any (c : Int) (w : World) :
    Calls Try.prog 69 #[.int .u8 c] w fun e w' => e = .returned (.bool (c == 76 || c == 82)) ∧ w' = w := by
  cases h1 : (c == 76)
  · cases h2 : (c == 82)
    · go_enter Try.func69, Try.ntmps69
      go_wp2
      go_ret
      exact ⟨rfl, rfl⟩
    · go_enter Try.func69, Try.ntmps69
      go_wp2
      go_ret
      exact ⟨rfl, rfl⟩
  · go_enter Try.func69, Try.ntmps69
    go_wp2
    go_ret
    exact ⟨rfl, rfl⟩

theorem isTurn_yes (c : Int) (w : World) (h : c = 76 ∨ c = 82) :
    Calls Try.prog 69 #[.int .u8 c] w fun e w' => e = .returned (.bool true) ∧ w' = w := by
  refine (isTurn_any c w).mono fun e w' ⟨he, hw⟩ => ⟨?_, hw⟩
  rw [he, show (c == 76 || c == 82) = true by simp; omega]
theorem isTurn_no (c : Int) (w : World) (h : ¬ (c = 76 ∨ c = 82)) :
    Calls Try.prog 69 #[.int .u8 c] w fun e w' => e = .returned (.bool false) ∧ w' = w := by
  refine (isTurn_any c w).mono fun e w' ⟨he, hw⟩ => ⟨?_, hw⟩
  rw [he, show (c == 76 || c == 82) = false by simp; omega]

theorem turnF_step {s : ByteArray} {i : Nat} (h2 : i < 28) (hi : i < s.size) (h : bt s i = 76 ∨ bt s i = 82) : turnF s (28 - i) i = turnF s (28 - (i + 1)) (i + 1) := by
  rw [show 28 - i = (28 - (i + 1)) + 1 by omega]
  simp only [turnF]
  rw [if_pos ⟨hi, h⟩]
theorem turnF_stop {s : ByteArray} {i : Nat} (h : ¬ (i < 28 ∧ i < s.size ∧ (bt s i = 76 ∨ bt s i = 82))) : turnF s (28 - i) i = i := by
  by_cases h2 : i < 28
  · rw [show 28 - i = (28 - (i + 1)) + 1 by omega]
    simp only [turnF]
    rw [if_neg (by omega)]
  · rw [show 28 - i = 0 by omega]; rfl

theorem Rd.of_below {b : Nat} {w w' : World} (h : Below w.heap.size w w') : Rd b w w' := ⟨h.os, h.tape, h.output, h.size, fun k hk _ => h.block k hk⟩
theorem At.below {b : Nat} {s : ByteArray} {i : Nat} {w w' : World} (h : At b s i w) (hb : Below w.heap.size w w') : At b s i w' := by
  have e := hb.block b h.lt
  exact ⟨(World.cell?_of_block (w := w) (a := ⟨b, 0, none⟩) e).trans h.txt, (World.cell?_of_block (w := w) (a := ⟨b, 1, none⟩) e).trans h.pos,
    (World.frozen?_of_block (w := w) (a := ⟨b, 0, none⟩) e).trans h.fz0, (World.frozen?_of_block (w := w) (a := ⟨b, 1, none⟩) e).trans h.fz1⟩
theorem At.drew {b : Nat} {s : ByteArray} {i : Nat} {w : World} (h : At b s i w) : At b s i w.drew := ⟨h.txt, h.pos, h.fz0, h.fz1⟩
theorem extract_size (s : ByteArray) (a b : Nat) (h : b ≤ s.size) : (s.extract a b).size ≤ b - a := by simp [ByteArray.size_extract]; omega

end Go.Proofs.Ytbkllhlapdmlfaa

