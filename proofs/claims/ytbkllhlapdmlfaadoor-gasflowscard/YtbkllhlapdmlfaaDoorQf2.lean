/-
  What the last text of this claim leans on, part 2: Ga1, Rk2, Rk3, Clone, Rk4, Pr1, Pr2, Pr3, Pr4, Ref3, Rk5, Rk6, Parse.
-/
import Derived.Test.YtbkllhlapdmlfaaDoorQf1
import Derived.Test.YtbkllhlapdmlfaaDoorProg
import Derived.Lib.Strings
import Derived.Lib.Walk
import Derived.Lib.BufferWrite
import Derived.Lib.UnsafeStr
import Derived.Lib.Hide
import Derived.Laws.MakeOwn
import Derived.WalkKit
import Derived.Deep.RegionWith
import Derived.Defers
import Derived.Recover
namespace Go.Proofs.YtbkllhlapdmlfaaDoor
open Go.RowKit
set_option linter.unusedVariables false
def sideG (x : Int) : Bool := decide (1 ≤ x) && decide (x ≤ 100)
def limG (K : Int) : Int := if K = 4 then 16 else 64
def cellG (K x : Int) : Bool := decide (0 ≤ x) && decide (x < limG K)
/-- What is wrong with a gas. -/
def gasE (K W H : Int) (xs : List Int) : Nat :=
  if K = 4 ∨ K = 6 then (if sideG W && sideG H then (if K = 6 ∧ H % 2 ≠ 0 then 3 else if (xs.length : Int) = W * H then (if xs.all (cellG K) then 0 else 1) else 3) else 1) else 1
theorem sideG_nat {W : Int} (h : sideG W = true) : ∃ n : Nat, W = (n : Int) ∧ 1 ≤ n ∧ n ≤ 100 := by
  unfold sideG at h
  simp at h
  exact ⟨W.toNat, by omega, by omega, by omega⟩
theorem allG_bad {K : Int} {xs : List Int} {k : Nat} (hk : k < xs.length) (h : cellG K xs[k] = false) : xs.all (cellG K) = false := by
  cases q : xs.all (cellG K) with
  | false => rfl
  | true => rw [List.all_eq_true.1 q _ (List.getElem_mem hk)] at h; cases h
theorem allG_ok {K : Int} {xs : List Int} (h : ∀ k (hk : k < xs.length), cellG K xs[k] = true) : xs.all (cellG K) = true := by
  rw [List.all_eq_true]
  intro x hx
  obtain ⟨k, hk, rfl⟩ := List.getElem_of_mem hx
  exact h k hk
theorem gisSide (x : Int) (w : World) : Calls Tryd.prog 60 #[.int .i64 x] w fun e w' => e = .returned (.bool (sideG x)) ∧ w' = w := by
  by_cases h1 : 1 ≤ x
  · by_cases h2 : x ≤ 100
    · have F := hide' (show sideG x = true by unfold sideG; simp; omega)
      go_enter Tryd.func60, Tryd.ntmps60
      go_wp2
      go_ret
      rw [F.out]
      exact ⟨rfl, rfl⟩
    · have F := hide' (show sideG x = false by unfold sideG; simp; omega)
      go_enter Tryd.func60, Tryd.ntmps60
      go_wp2
      go_ret
      rw [F.out]
      exact ⟨rfl, rfl⟩
  · have F := hide' (show sideG x = false by unfold sideG; simp; omega)
    go_enter Tryd.func60, Tryd.ntmps60
    go_wp2
    go_ret
    rw [F.out]
    exact ⟨rfl, rfl⟩
set_option maxRecDepth 100000 in
set_option maxHeartbeats 3200000 in
theorem Check_G4 (W H : Int) (xs : List Int) (a : Option Addr) (n c : Nat) (w : World) (hP : ArgP w xs a n c) :
    Calls Tryd.prog 23 #[.agg #[.int .i64 4, .int .i64 W, .int .i64 H, .slice a n c]] w fun e w' => e = .returned (errOf (gasE 4 W H xs)) ∧ Below w.heap.size w w' := by
  have HP := hide' (hP.alloc (.cells #[.int .i64 4, .int .i64 W, .int .i64 H, .slice a n c] 49))
  have hlen := hP.len
  have HL := hide' hlen
  have hmax := hP.max
  unfold maxLen at hmax
  clear hP hlen
  cases s1 : sideG W with
  | false =>
    have F := hide' (show errOf (gasE 4 W H xs) = .iface 83 (.int .i64 1) by unfold gasE; rw [if_pos (by omega), s1]; rfl)
    go_enter Tryd.func23, Tryd.ntmps23
    go_wp2_with fail
    refine (gisSide _ _).mono ?_
    rw [s1]
    rintro e w1 ⟨rfl, rfl⟩
    go_wp2
    go_ret
    rw [F.out]
    exact ⟨rfl, (Below.refl _ _).alloc (Nat.le_refl _) _⟩
  | true =>
    cases s2 : sideG H with
    | false =>
      have F := hide' (show errOf (gasE 4 W H xs) = .iface 83 (.int .i64 1) by unfold gasE; rw [if_pos (by omega), s1, s2]; rfl)
      go_enter Tryd.func23, Tryd.ntmps23
      go_wp2_with fail
      refine (gisSide _ _).mono ?_
      rw [s1]
      rintro e w1 ⟨rfl, rfl⟩
      go_wp2_with fail
      refine (gisSide _ _).mono ?_
      rw [s2]
      rintro e w1 ⟨rfl, rfl⟩
      go_wp2
      go_ret
      rw [F.out]
      exact ⟨rfl, (Below.refl _ _).alloc (Nat.le_refl _) _⟩
    | true =>
      obtain ⟨Wn, rfl, lW0, lW⟩ := sideG_nat s1
      obtain ⟨Hn, rfl, lH0, lH⟩ := sideG_nat s2
      obtain ⟨N, hN⟩ : ∃ N, Wn * Hn = N := ⟨_, rfl⟩
      have hNi : (Wn : Int) * (Hn : Int) = (N : Int) := by rw [← hN]; simp
      have hN4 : N ≤ 10000 := by rw [← hN]; exact Nat.mul_le_mul lW lH
      by_cases q : n = N
      · have m1 : ((n : Int) != (N : Int)) = false := by simp; omega
        have FO := hide' (fun (h : xs.all (cellG 4) = true) => show errOf (gasE 4 Wn Hn xs) = .nilIface by unfold gasE; rw [if_pos (by omega), s1, s2, if_pos (show (true && true) = true from rfl), if_neg (by omega), if_pos (by rw [hNi, ← HL.out, q]), if_pos h]; rfl)
        have FN := hide' (fun (h : xs.all (cellG 4) = false) => show errOf (gasE 4 Wn Hn xs) = .iface 83 (.int .i64 1) by unfold gasE; rw [if_pos (by omega), s1, s2, if_pos (show (true && true) = true from rfl), if_neg (by omega), if_pos (by rw [hNi, ← HL.out, q]), if_neg (by rw [h]; simp)]; rfl)
        clear q hN
        go_enter Tryd.func23, Tryd.ntmps23
        go_wp2_with fail
        refine (gisSide _ _).mono ?_
        rw [s1]
        rintro e w1 ⟨rfl, rfl⟩
        go_wp2_with fail
        refine (gisSide _ _).mono ?_
        rw [s2]
        rintro e w1 ⟨rfl, rfl⟩
        go_wp2
        go_loop [48] (fun kv => ∃ k : Nat, kv = .int .i64 (k : Int) ∧ k ≤ n ∧ ∀ j (h : j < xs.length), j < k → cellG 4 xs[j] = true) (fun kv => n - (intOf kv).toNat)
        case atStart => exact ⟨0, rfl, by omega, fun j h hj => by omega⟩
        case round =>
          obtain ⟨k, rfl, hk, hall⟩ := hrel
          have HA := hide' hall
          clear hall
          by_cases d : (k : Int) < (n : Int)
          · have hkl : k < xs.length := by have := HL.out; omega
            obtain ⟨g, off, rfl, hg, hc⟩ := HP.out.cells k hkl
            obtain ⟨x, hx⟩ : ∃ x, xs[k] = x := ⟨_, rfl⟩
            rw [hx] at hc
            have HX := hide' hx
            clear hx
            by_cases x0 : x < 0
            · have X := hide' (show cellG 4 x = false by unfold cellG; simp; omega)
              go_wp2
              go_ret
              rw [FN.out (allG_bad hkl (by rw [HX.out]; exact X.out))]
              exact ⟨rfl, (Below.refl _ _).alloc (Nat.le_refl _) _⟩
            · by_cases x1 : 16 ≤ x
              · have X := hide' (show cellG 4 x = false by unfold cellG limG; simp; omega)
                go_wp2
                go_ret
                rw [FN.out (allG_bad hkl (by rw [HX.out]; exact X.out))]
                exact ⟨rfl, (Below.refl _ _).alloc (Nat.le_refl _) _⟩
              · have X := hide' (show cellG 4 x = true by unfold cellG limG; simp; omega)
                go_wp2
                refine ⟨⟨k + 1, by go_num, by omega, fun j h hj => ?_⟩, by simp [intOf]; omega⟩
                by_cases e : j = k
                · subst e; rw [HX.out]; exact X.out
                · exact HA.out j h (by omega)
          · have HA2 := hide' (allG_ok (fun j h => HA.out j h (by have := HL.out; omega)))
            go_wp2
            go_ret
            rw [FO.out HA2.out]
            exact ⟨rfl, (Below.refl _ _).alloc (Nat.le_refl _) _⟩
      · have m1 : ((n : Int) != (N : Int)) = true := by simp; omega
        have F := hide' (show errOf (gasE 4 Wn Hn xs) = .iface 83 (.int .i64 3) by unfold gasE; rw [if_pos (by omega), s1, s2, if_pos (show (true && true) = true from rfl), if_neg (by omega), if_neg (by rw [hNi, ← HL.out]; omega)]; rfl)
        clear q hN
        go_enter Tryd.func23, Tryd.ntmps23
        go_wp2_with fail
        refine (gisSide _ _).mono ?_
        rw [s1]
        rintro e w1 ⟨rfl, rfl⟩
        go_wp2_with fail
        refine (gisSide _ _).mono ?_
        rw [s2]
        rintro e w1 ⟨rfl, rfl⟩
        go_wp2
        go_ret
        rw [F.out]
        exact ⟨rfl, (Below.refl _ _).alloc (Nat.le_refl _) _⟩
set_option maxRecDepth 100000 in
set_option maxHeartbeats 3200000 in
theorem Check_G6 (W H : Int) (xs : List Int) (a : Option Addr) (n c : Nat) (w : World) (hP : ArgP w xs a n c) :
    Calls Tryd.prog 23 #[.agg #[.int .i64 6, .int .i64 W, .int .i64 H, .slice a n c]] w fun e w' => e = .returned (errOf (gasE 6 W H xs)) ∧ Below w.heap.size w w' := by
  have HP := hide' (hP.alloc (.cells #[.int .i64 6, .int .i64 W, .int .i64 H, .slice a n c] 49))
  have hlen := hP.len
  have HL := hide' hlen
  have hmax := hP.max
  unfold maxLen at hmax
  clear hP hlen
  cases s1 : sideG W with
  | false =>
    have F := hide' (show errOf (gasE 6 W H xs) = .iface 83 (.int .i64 1) by unfold gasE; rw [if_pos (by omega), s1]; rfl)
    go_enter Tryd.func23, Tryd.ntmps23
    go_wp2_with fail
    refine (gisSide _ _).mono ?_
    rw [s1]
    rintro e w1 ⟨rfl, rfl⟩
    go_wp2
    go_ret
    rw [F.out]
    exact ⟨rfl, (Below.refl _ _).alloc (Nat.le_refl _) _⟩
  | true =>
    cases s2 : sideG H with
    | false =>
      have F := hide' (show errOf (gasE 6 W H xs) = .iface 83 (.int .i64 1) by unfold gasE; rw [if_pos (by omega), s1, s2]; rfl)
      go_enter Tryd.func23, Tryd.ntmps23
      go_wp2_with fail
      refine (gisSide _ _).mono ?_
      rw [s1]
      rintro e w1 ⟨rfl, rfl⟩
      go_wp2_with fail
      refine (gisSide _ _).mono ?_
      rw [s2]
      rintro e w1 ⟨rfl, rfl⟩
      go_wp2
      go_ret
      rw [F.out]
      exact ⟨rfl, (Below.refl _ _).alloc (Nat.le_refl _) _⟩
    | true =>
      obtain ⟨Wn, rfl, lW0, lW⟩ := sideG_nat s1
      obtain ⟨Hn, rfl, lH0, lH⟩ := sideG_nat s2
      obtain ⟨N, hN⟩ : ∃ N, Wn * Hn = N := ⟨_, rfl⟩
      have hNi : (Wn : Int) * (Hn : Int) = (N : Int) := by rw [← hN]; simp
      have hN4 : N ≤ 10000 := by rw [← hN]; exact Nat.mul_le_mul lW lH
      by_cases o : (Hn : Int) % 2 = 0
      · have ot : ((Hn : Int)).tmod 2 = 0 := by rw [Int.tmod_eq_emod_of_nonneg (by omega)]; exact o
        by_cases q : n = N
        · have m1 : ((n : Int) != (N : Int)) = false := by simp; omega
          have FO := hide' (fun (h : xs.all (cellG 6) = true) => show errOf (gasE 6 Wn Hn xs) = .nilIface by unfold gasE; rw [if_pos (by omega), s1, s2, if_pos (show (true && true) = true from rfl), if_neg (by omega), if_pos (by rw [hNi, ← HL.out, q]), if_pos h]; rfl)
          have FN := hide' (fun (h : xs.all (cellG 6) = false) => show errOf (gasE 6 Wn Hn xs) = .iface 83 (.int .i64 1) by unfold gasE; rw [if_pos (by omega), s1, s2, if_pos (show (true && true) = true from rfl), if_neg (by omega), if_pos (by rw [hNi, ← HL.out, q]), if_neg (by rw [h]; simp)]; rfl)
          clear q hN
          go_enter Tryd.func23, Tryd.ntmps23
          go_wp2_with fail
          refine (gisSide _ _).mono ?_
          rw [s1]
          rintro e w1 ⟨rfl, rfl⟩
          go_wp2_with fail
          refine (gisSide _ _).mono ?_
          rw [s2]
          rintro e w1 ⟨rfl, rfl⟩
          go_wp2
          go_loop [48] (fun kv => ∃ k : Nat, kv = .int .i64 (k : Int) ∧ k ≤ n ∧ ∀ j (h : j < xs.length), j < k → cellG 6 xs[j] = true) (fun kv => n - (intOf kv).toNat)
          case atStart => exact ⟨0, rfl, by omega, fun j h hj => by omega⟩
          case round =>
            obtain ⟨k, rfl, hk, hall⟩ := hrel
            have HA := hide' hall
            clear hall
            by_cases d : (k : Int) < (n : Int)
            · have hkl : k < xs.length := by have := HL.out; omega
              obtain ⟨g, off, rfl, hg, hc⟩ := HP.out.cells k hkl
              obtain ⟨x, hx⟩ : ∃ x, xs[k] = x := ⟨_, rfl⟩
              rw [hx] at hc
              have HX := hide' hx
              clear hx
              by_cases x0 : x < 0
              · have X := hide' (show cellG 6 x = false by unfold cellG; simp; omega)
                go_wp2
                go_ret
                rw [FN.out (allG_bad hkl (by rw [HX.out]; exact X.out))]
                exact ⟨rfl, (Below.refl _ _).alloc (Nat.le_refl _) _⟩
              · by_cases x1 : 64 ≤ x
                · have X := hide' (show cellG 6 x = false by unfold cellG limG; simp; omega)
                  go_wp2
                  go_ret
                  rw [FN.out (allG_bad hkl (by rw [HX.out]; exact X.out))]
                  exact ⟨rfl, (Below.refl _ _).alloc (Nat.le_refl _) _⟩
                · have X := hide' (show cellG 6 x = true by unfold cellG limG; simp; omega)
                  go_wp2
                  refine ⟨⟨k + 1, by go_num, by omega, fun j h hj => ?_⟩, by simp [intOf]; omega⟩
                  by_cases e : j = k
                  · subst e; rw [HX.out]; exact X.out
                  · exact HA.out j h (by omega)
            · have HA2 := hide' (allG_ok (fun j h => HA.out j h (by have := HL.out; omega)))
              go_wp2
              go_ret
              rw [FO.out HA2.out]
              exact ⟨rfl, (Below.refl _ _).alloc (Nat.le_refl _) _⟩
        · have m1 : ((n : Int) != (N : Int)) = true := by simp; omega
          have F := hide' (show errOf (gasE 6 Wn Hn xs) = .iface 83 (.int .i64 3) by unfold gasE; rw [if_pos (by omega), s1, s2, if_pos (show (true && true) = true from rfl), if_neg (by omega), if_neg (by rw [hNi, ← HL.out]; omega)]; rfl)
          clear q hN
          go_enter Tryd.func23, Tryd.ntmps23
          go_wp2_with fail
          refine (gisSide _ _).mono ?_
          rw [s1]
          rintro e w1 ⟨rfl, rfl⟩
          go_wp2_with fail
          refine (gisSide _ _).mono ?_
          rw [s2]
          rintro e w1 ⟨rfl, rfl⟩
          go_wp2
          go_ret
          rw [F.out]
          exact ⟨rfl, (Below.refl _ _).alloc (Nat.le_refl _) _⟩
      · have o1 : (Hn : Int) % 2 = 1 := by omega
        have ot : ((Hn : Int)).tmod 2 = 1 := by rw [Int.tmod_eq_emod_of_nonneg (by omega)]; exact o1
        have F := hide' (show errOf (gasE 6 Wn Hn xs) = .iface 83 (.int .i64 3) by unfold gasE; rw [if_pos (by omega), s1, s2, if_pos (show (true && true) = true from rfl), if_pos (by omega)]; rfl)
        clear hN o
        go_enter Tryd.func23, Tryd.ntmps23
        go_wp2_with fail
        refine (gisSide _ _).mono ?_
        rw [s1]
        rintro e w1 ⟨rfl, rfl⟩
        go_wp2_with fail
        refine (gisSide _ _).mono ?_
        rw [s2]
        rintro e w1 ⟨rfl, rfl⟩
        go_wp2
        go_ret
        rw [F.out]
        exact ⟨rfl, (Below.refl _ _).alloc (Nat.le_refl _) _⟩
set_option maxRecDepth 100000 in
theorem Check_G (K W H : Int) (xs : List Int) (a : Option Addr) (n c : Nat) (w : World) (hP : ArgP w xs a n c) :
    Calls Tryd.prog 23 #[.agg #[.int .i64 K, .int .i64 W, .int .i64 H, .slice a n c]] w fun e w' => e = .returned (errOf (gasE K W H xs)) ∧ Below w.heap.size w w' := by
  by_cases k4 : K = 4
  · subst k4; exact Check_G4 W H xs a n c w hP
  · by_cases k6 : K = 6
    · subst k6; exact Check_G6 W H xs a n c w hP
    · have F := hide' (show errOf (gasE K W H xs) = .iface 83 (.int .i64 1) by unfold gasE; rw [if_neg (by omega)]; rfl)
      have m4 : (K != 4) = true := by simp [k4]
      have m6 : (K != 6) = true := by simp [k6]
      clear hP
      go_enter Tryd.func23, Tryd.ntmps23
      go_wp2
      go_ret
      rw [F.out]
      exact ⟨rfl, (Below.refl _ _).alloc (Nat.le_refl _) _⟩
end Go.Proofs.YtbkllhlapdmlfaaDoor

namespace Go.Proofs.YtbkllhlapdmlfaaDoor
open Go.RowKit

end Go.Proofs.YtbkllhlapdmlfaaDoor

namespace Go.Proofs.YtbkllhlapdmlfaaDoor
open Go.RowKit
set_option linter.unusedVariables false

end Go.Proofs.YtbkllhlapdmlfaaDoor

namespace Go.Proofs.YtbkllhlapdmlfaaDoor
open Go.RowKit

end Go.Proofs.YtbkllhlapdmlfaaDoor

namespace Go.Proofs.YtbkllhlapdmlfaaDoor
open Go.RowKit
set_option linter.unusedVariables false

theorem At.below {b : Nat} {s : ByteArray} {i : Nat} {w w' : World} (h : At b s i w) (hb : Below w.heap.size w w') : At b s i w' := by
  have e := hb.block b h.lt
  exact ⟨(World.cell?_of_block (w := w) (a := ⟨b, 0, none⟩) e).trans h.txt, (World.cell?_of_block (w := w) (a := ⟨b, 1, none⟩) e).trans h.pos,
    (World.frozen?_of_block (w := w) (a := ⟨b, 0, none⟩) e).trans h.fz0, (World.frozen?_of_block (w := w) (a := ⟨b, 1, none⟩) e).trans h.fz1⟩
theorem At.drew {b : Nat} {s : ByteArray} {i : Nat} {w : World} (h : At b s i w) : At b s i w.drew := ⟨h.txt, h.pos, h.fz0, h.fz1⟩
end Go.Proofs.YtbkllhlapdmlfaaDoor

namespace Go.Proofs.YtbkllhlapdmlfaaDoor
open Go.RowKit
set_option linter.unusedVariables false

/-- A rule that came in, as a value: its table at v. -/
structure ArgR (w : World) (o : Out) (a : Option Addr) (n c : Nat) : Prop where
  len : n = o.table.length
  max : n ≤ maxLen
  tmax : o.turns.size ≤ maxLen
  cells : ∀ k (h : k < o.table.length), ∃ g off, a = some ⟨g, off, none⟩ ∧ g < w.heap.size ∧ w.cell? ⟨g, off + k, none⟩ = some (.int .i64 o.table[k])
  rmax : o.radius ≤ 9223372036854775807

theorem ArgR.below {w w' : World} {o : Out} {a : Option Addr} {n c : Nat} (h : ArgR w o a n c) (hb : Below w.heap.size w w') : ArgR w' o a n c :=
  ⟨h.len, h.max, h.tmax, fun k hk => by
    obtain ⟨g, off, e, hg, hc⟩ := h.cells k hk
    exact ⟨g, off, e, Nat.lt_of_lt_of_le hg hb.size, (World.cell?_of_block (w := w) (a := ⟨g, off + k, none⟩) (hb.block g hg)).trans hc⟩, h.rmax⟩
theorem ArgR.alloc {w : World} {o : Out} {a : Option Addr} {n c : Nat} (h : ArgR w o a n c) (x : Obj) : ArgR (w.alloc x) o a n c :=
  h.below ((Below.refl _ _).alloc (Nat.le_refl _) _)

end Go.Proofs.YtbkllhlapdmlfaaDoor

namespace Go.Proofs.YtbkllhlapdmlfaaDoor
open Go.RowKit
set_option linter.unusedVariables false

end Go.Proofs.YtbkllhlapdmlfaaDoor

namespace Go.Proofs.YtbkllhlapdmlfaaDoor
open Go.RowKit
set_option linter.unusedVariables false

end Go.Proofs.YtbkllhlapdmlfaaDoor

namespace Go.Proofs.YtbkllhlapdmlfaaDoor
open Go.RowKit
set_option linter.unusedVariables false

end Go.Proofs.YtbkllhlapdmlfaaDoor

namespace Go.Proofs.YtbkllhlapdmlfaaDoor
open Go.RowKit
set_option linter.unusedVariables false

end Go.Proofs.YtbkllhlapdmlfaaDoor

namespace Go.Proofs.YtbkllhlapdmlfaaDoor
open Go.RowKit
set_option linter.unusedVariables false

theorem Fresh.old {w w' : World} {v : Value} (h : Fresh w' v) (hs : w.heap.size ≤ w'.heap.size) : Fresh w v := fun g k c q => Nat.le_trans hs (h g k c q)

end Go.Proofs.YtbkllhlapdmlfaaDoor

namespace Go.Proofs.YtbkllhlapdmlfaaDoor
open Go.RowKit
set_option linter.unusedVariables false

theorem Tab.alloc {w : World} {v : Value} {xs : List Int} (h : Tab w v xs) (o : Obj) : Tab (w.alloc o) v xs := by
  rcases h with h | ⟨g, cap, hv, hg, hc⟩
  · exact Or.inl h
  · have e : (w.alloc o).heap[g]? = w.heap[g]? := Below.heap_alloc _ _ _ hg
    exact Or.inr ⟨g, cap, hv, by rw [World.size_alloc]; omega, fun k hk => (World.cell?_of_block (w := w) (a := ⟨g, k, none⟩) e).trans (hc k hk)⟩
theorem Tab.drewN {w : World} {v : Value} {xs : List Int} (h : Tab w v xs) (n : Nat) : Tab (w.drewN n) v xs := h

end Go.Proofs.YtbkllhlapdmlfaaDoor

namespace Go.Proofs.YtbkllhlapdmlfaaDoor
open Go.RowKit
set_option linter.unusedVariables false

/-- The seven cells of a rule at g. -/
def setRule (w : World) (g : Nat) (v0 v1 v2 v3 v4 v5 v6 : Value) : World :=
  ((((((w.setCell ⟨g, 0, none⟩ v0).setCell ⟨g, 1, none⟩ v1).setCell ⟨g, 2, none⟩ v2).setCell ⟨g, 3, none⟩ v3).setCell ⟨g, 4, none⟩ v4).setCell ⟨g, 5, none⟩ v5).setCell ⟨g, 6, none⟩ v6

/-- The seven cells of a rule at g: they are there. -/
structure Seven (w : World) (g : Nat) (v0 v1 v2 v3 v4 v5 v6 : Value) : Prop where
  c0 : w.cell? ⟨g, 0, none⟩ = some v0
  c1 : w.cell? ⟨g, 1, none⟩ = some v1
  c2 : w.cell? ⟨g, 2, none⟩ = some v2
  c3 : w.cell? ⟨g, 3, none⟩ = some v3
  c4 : w.cell? ⟨g, 4, none⟩ = some v4
  c5 : w.cell? ⟨g, 5, none⟩ = some v5
  c6 : w.cell? ⟨g, 6, none⟩ = some v6
theorem Seven.set {w : World} {g : Nat} {u0 u1 u2 u3 u4 u5 u6 v0 v1 v2 v3 v4 v5 v6 : Value} (h : Seven w g u0 u1 u2 u3 u4 u5 u6) : Seven (setRule w g v0 v1 v2 v3 v4 v5 v6) g v0 v1 v2 v3 v4 v5 v6 := by
  obtain ⟨c0, c1, c2, c3, c4, c5, c6⟩ := h
  unfold setRule
  constructor <;> simp [go_sem, c0, c1, c2, c3, c4, c5, c6]
theorem Seven.other {w : World} {g : Nat} {v0 v1 v2 v3 v4 v5 v6 : Value} (h : Seven w g v0 v1 v2 v3 v4 v5 v6) {p : Addr} (hp : p.block ≠ g) (u : Value) : Seven (w.setCell p u) g v0 v1 v2 v3 v4 v5 v6 := by
  have e : (w.setCell p u).heap[g]? = w.heap[g]? := Below.heap_setCell _ _ _ _ (fun q => hp q.symm)
  obtain ⟨c0, c1, c2, c3, c4, c5, c6⟩ := h
  exact ⟨(World.cell?_of_block (w := w) (a := ⟨g, 0, none⟩) e).trans c0, (World.cell?_of_block (w := w) (a := ⟨g, 1, none⟩) e).trans c1, (World.cell?_of_block (w := w) (a := ⟨g, 2, none⟩) e).trans c2, (World.cell?_of_block (w := w) (a := ⟨g, 3, none⟩) e).trans c3, (World.cell?_of_block (w := w) (a := ⟨g, 4, none⟩) e).trans c4, (World.cell?_of_block (w := w) (a := ⟨g, 5, none⟩) e).trans c5, (World.cell?_of_block (w := w) (a := ⟨g, 6, none⟩) e).trans c6⟩
theorem Tab.block {w w' : World} {v : Value} {xs : List Int} (h : Tab w v xs) (hs : w'.heap.size = w.heap.size) (hb : ∀ g k c, v = .slice (some ⟨g, 0, none⟩) k c → w'.heap[g]? = w.heap[g]?) : Tab w' v xs := by
  rcases h with h | ⟨g, cap, hv, hg, hc⟩
  · exact Or.inl h
  · exact Or.inr ⟨g, cap, hv, by rw [hs]; exact hg, fun k hk => (World.cell?_of_block (w := w) (a := ⟨g, k, none⟩) (hb g _ _ hv)).trans (hc k hk)⟩

end Go.Proofs.YtbkllhlapdmlfaaDoor

