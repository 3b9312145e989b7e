/-
  What the last text of this claim leans on, part 9: Wa1, Wa2, Wb1.
-/
import Derived.Test.YtjngjnkecnnmeaaDoorJw7
namespace Go.Proofs.YtjngjnkecnnmeaaDoor
open Go.RowKit
set_option linter.unusedVariables false

/-- A pattern that came in, as a value: its cells anywhere. -/
structure ArgP (w : World) (xs : List Int) (a : Option Addr) (n c : Nat) : Prop where
  len : n = xs.length
  max : n ≤ maxLen
  cells : ∀ k (h : k < xs.length), ∃ g off, a = some ⟨g, off, none⟩ ∧ g < w.heap.size ∧ w.cell? ⟨g, off + k, none⟩ = some (.int .i64 xs[k])
theorem ArgP.below {w w' : World} {xs : List Int} {a : Option Addr} {n c : Nat} (h : ArgP w xs a n c) (hb : Below w.heap.size w w') : ArgP w' xs a n c :=
  ⟨h.len, h.max, fun k hk => by
    obtain ⟨g, off, e, hg, hc⟩ := h.cells k hk
    exact ⟨g, off, e, Nat.lt_of_lt_of_le hg hb.size, (World.cell?_of_block (w := w) (a := ⟨g, off + k, none⟩) (hb.block g hg)).trans hc⟩⟩
theorem ArgP.alloc {w : World} {xs : List Int} {a : Option Addr} {n c : Nat} (h : ArgP w xs a n c) (x : Obj) : ArgP (w.alloc x) xs a n c :=
  h.below ((Below.refl _ _).alloc (Nat.le_refl _) _)

def cellB (x : Int) : Bool := decide (x = 0) || decide (x = 1)
def shapeF (W H : Int) (xs : List Int) : Nat :=
  if sideB W && sideB H then (if (xs.length : Int) = W * H then (if xs.all cellB then 0 else 1) else 3) else 1

def errOf (f : Nat) : Value := if f = 0 then .nilIface else .iface 87 (.int .i64 (f : Int))

theorem side_nat {W : Int} (h : sideB W = true) : ∃ n : Nat, W = (n : Int) ∧ n ≤ 100 := by
  unfold sideB at h
  simp at h
  exact ⟨W.toNat, by omega, by omega⟩
theorem side_no {W : Int} (h : sideB W = false) : W < 0 ∨ 100 < W := by
  unfold sideB at h
  simp at h
  omega
theorem all_bad {xs : List Int} {k : Nat} (hk : k < xs.length) (h : cellB xs[k] = false) : xs.all cellB = false := by
  cases q : xs.all cellB with
  | false => rfl
  | true => rw [List.all_eq_true.1 q _ (List.getElem_mem hk)] at h; cases h
theorem all_ok {xs : List Int} (h : ∀ k (hk : k < xs.length), cellB xs[k] = true) : xs.all cellB = true := by
  rw [List.all_eq_true]
  intro x hx
  obtain ⟨k, hk, rfl⟩ := List.getElem_of_mem hx
  exact h k hk
theorem cellB_iff (x : Int) : cellB x = true ↔ x = 0 ∨ x = 1 := by simp [cellB]

set_option maxHeartbeats 1600000 in
theorem Check_P (W H : Int) (xs : List Int) (a : Option Addr) (n c : Nat) (w : World) (hP : ArgP w xs a n c) :
    Calls Tryd.prog 27 #[.agg #[.int .i64 W, .int .i64 H, .slice a n c]] w fun e w' => e = .returned (errOf (shapeF W H xs)) ∧ Below w.heap.size w w' := by
  have HP := hide' (hP.alloc (.cells #[.int .i64 W, .int .i64 H, .slice a n c] 51))
  have hlen := hP.len
  have hmax := hP.max
  have HL := hide' hlen
  unfold maxLen at hmax
  clear hP hlen
  cases s1 : sideB W with
  | false =>
    have F := hide' (show errOf (shapeF W H xs) = .iface 87 (.int .i64 1) by unfold shapeF; rw [s1]; rfl)
    go_enter Tryd.func27, Tryd.ntmps27
    go_wp2_with fail
    refine (pisSide W _).mono ?_
    rw [s1]
    rintro e w1 ⟨rfl, rfl⟩
    go_wp2
    go_ret
    rw [F.out]
    exact ⟨rfl, (Below.refl _ _).alloc (Nat.le_refl _) _⟩
  | true =>
    cases s2 : sideB H with
    | false =>
      have F := hide' (show errOf (shapeF W H xs) = .iface 87 (.int .i64 1) by unfold shapeF; rw [s1, s2]; rfl)
      go_enter Tryd.func27, Tryd.ntmps27
      go_wp2_with fail
      refine (pisSide W _).mono ?_
      rw [s1]
      rintro e w1 ⟨rfl, rfl⟩
      go_wp2_with fail
      refine (pisSide H _).mono ?_
      rw [s2]
      rintro e w1 ⟨rfl, rfl⟩
      go_wp2
      go_ret
      rw [F.out]
      exact ⟨rfl, (Below.refl _ _).alloc (Nat.le_refl _) _⟩
    | true =>
      obtain ⟨Wn, rfl, lW⟩ := side_nat s1
      obtain ⟨Hn, rfl, lH⟩ := side_nat s2
      obtain ⟨N, hN⟩ : ∃ N, Wn * Hn = N := ⟨_, rfl⟩
      have hNi : (Wn : Int) * (Hn : Int) = (N : Int) := by rw [← hN]; simp
      have hN4 : N ≤ 10000 := by rw [← hN]; exact Nat.mul_le_mul lW lH
      by_cases q : n = N
      · have m1 : ((n : Int) != (N : Int)) = false := by simp; omega
        have FO := hide' (fun (h : xs.all cellB = true) => show errOf (shapeF Wn Hn xs) = .nilIface by unfold shapeF; rw [s1, s2, if_pos (show (true && true) = true from rfl), if_pos (by rw [hNi, ← HL.out, q]), if_pos h]; rfl)
        have FN := hide' (fun (h : xs.all cellB = false) => show errOf (shapeF Wn Hn xs) = .iface 87 (.int .i64 1) by unfold shapeF; rw [s1, s2, if_pos (show (true && true) = true from rfl), if_pos (by rw [hNi, ← HL.out, q]), if_neg (by rw [h]; simp)]; rfl)
        clear q hN
        go_enter Tryd.func27, Tryd.ntmps27
        go_wp2_with fail
        refine (pisSide _ _).mono ?_
        rw [s1]
        rintro e w1 ⟨rfl, rfl⟩
        go_wp2_with fail
        refine (pisSide _ _).mono ?_
        rw [s2]
        rintro e w1 ⟨rfl, rfl⟩
        go_wp2
        go_loop [29] (fun kv => ∃ k : Nat, kv = .int .i64 (k : Int) ∧ k ≤ n ∧ ∀ j (h : j < xs.length), j < k → cellB xs[j] = true) (fun kv => n - (intOf kv).toNat)
        case atStart => exact ⟨0, rfl, by omega, fun j h hj => by omega⟩
        case round =>
          obtain ⟨k, rfl, hk, hall⟩ := hrel
          have HA := hide' hall
          clear hall
          by_cases d : (k : Int) < (n : Int)
          · have hkl : k < xs.length := by have := HL.out; omega
            obtain ⟨g, off, rfl, hg, hc⟩ := HP.out.cells k hkl
            obtain ⟨x, hx⟩ : ∃ x, xs[k] = x := ⟨_, rfl⟩
            rw [hx] at hc
            have HX := hide' hx
            clear hx
            by_cases x0 : x = 0
            · have m2 : (x != 0) = false := by simp [x0]
              have X := hide' x0
              clear x0
              go_wp2
              refine ⟨⟨k + 1, by go_num, by omega, fun j h hj => ?_⟩, by simp [intOf]; omega⟩
              by_cases e : j = k
              · subst e; rw [HX.out, X.out]; rfl
              · exact HA.out j h (by omega)
            · have m2 : (x != 0) = true := by simp [x0]
              by_cases x1 : x = 1
              · have m3 : (x != 1) = false := by simp [x1]
                have X := hide' x1
                clear x0 x1
                go_wp2
                refine ⟨⟨k + 1, by go_num, by omega, fun j h hj => ?_⟩, by simp [intOf]; omega⟩
                by_cases e : j = k
                · subst e; rw [HX.out, X.out]; rfl
                · exact HA.out j h (by omega)
              · have m3 : (x != 1) = true := by simp [x1]
                have X := hide' (show cellB x = false by unfold cellB; simp [x0, x1])
                clear x0 x1
                go_wp2
                go_ret
                rw [FN.out (all_bad hkl (by rw [HX.out]; exact X.out))]
                exact ⟨rfl, (Below.refl _ _).alloc (Nat.le_refl _) _⟩
          · go_wp2
            go_ret
            rw [FO.out (all_ok fun j hj => HA.out j hj (by have := HL.out; omega))]
            exact ⟨rfl, (Below.refl _ _).alloc (Nat.le_refl _) _⟩
      · have m1 : ((n : Int) != (N : Int)) = true := by simp; omega
        have F := hide' (show errOf (shapeF Wn Hn xs) = .iface 87 (.int .i64 3) by unfold shapeF; rw [s1, s2, if_pos (show (true && true) = true from rfl), if_neg (by rw [hNi, ← HL.out]; omega)]; rfl)
        clear q hN
        go_enter Tryd.func27, Tryd.ntmps27
        go_wp2_with fail
        refine (pisSide _ _).mono ?_
        rw [s1]
        rintro e w1 ⟨rfl, rfl⟩
        go_wp2_with fail
        refine (pisSide _ _).mono ?_
        rw [s2]
        rintro e w1 ⟨rfl, rfl⟩
        go_wp2
        go_ret
        rw [F.out]
        exact ⟨rfl, (Below.refl _ _).alloc (Nat.le_refl _) _⟩
end Go.Proofs.YtjngjnkecnnmeaaDoor

namespace Go.Proofs.YtjngjnkecnnmeaaDoor
open Go.RowKit
set_option linter.unusedVariables false

set_option maxHeartbeats 1600000 in
theorem Shape_P (W H : Int) (xs : List Int) (a : Option Addr) (n c : Nat) (w : World) (hP : ArgP w xs a n c) :
    Calls Tryd.prog 26 #[.agg #[.int .i64 W, .int .i64 H, .slice a n c]] w fun e w' => e = .returned (.int .i64 ((shapeF W H xs : Nat) : Int)) ∧ Below w.heap.size w w' := by
  have HP := hide' (hP.alloc (.cells #[.int .i64 W, .int .i64 H, .slice a n c] 51))
  have hlen := hP.len
  have hmax := hP.max
  have HL := hide' hlen
  unfold maxLen at hmax
  clear hP hlen
  cases s1 : sideB W with
  | false =>
    have F := hide' (show shapeF W H xs = 1 by unfold shapeF; rw [s1]; rfl)
    rcases side_no s1 with h | h
    · clear s1
      go_enter Tryd.func26, Tryd.ntmps26
      go_wp2
      go_ret
      rw [F.out]
      exact ⟨rfl, (Below.refl _ _).alloc (Nat.le_refl _) _⟩
    · have h' : ¬ W < 0 := by omega
      clear s1
      go_enter Tryd.func26, Tryd.ntmps26
      go_wp2
      go_ret
      rw [F.out]
      exact ⟨rfl, (Below.refl _ _).alloc (Nat.le_refl _) _⟩
  | true =>
    cases s2 : sideB H with
    | false =>
      have F := hide' (show shapeF W H xs = 1 by unfold shapeF; rw [s1, s2]; rfl)
      obtain ⟨Wn, rfl, lW⟩ := side_nat s1
      have h1 : ¬ (Wn : Int) < 0 := by omega
      have h2 : ¬ 100 < (Wn : Int) := by omega
      rcases side_no s2 with h | h
      · clear s1 s2
        go_enter Tryd.func26, Tryd.ntmps26
        go_wp2
        go_ret
        rw [F.out]
        exact ⟨rfl, (Below.refl _ _).alloc (Nat.le_refl _) _⟩
      · have h' : ¬ H < 0 := by omega
        clear s1 s2
        go_enter Tryd.func26, Tryd.ntmps26
        go_wp2
        go_ret
        rw [F.out]
        exact ⟨rfl, (Below.refl _ _).alloc (Nat.le_refl _) _⟩
    | true =>
      obtain ⟨Wn, rfl, lW⟩ := side_nat s1
      obtain ⟨Hn, rfl, lH⟩ := side_nat s2
      have h1 : ¬ (Wn : Int) < 0 := by omega
      have h2 : ¬ 100 < (Wn : Int) := by omega
      have h3 : ¬ (Hn : Int) < 0 := by omega
      have h4 : ¬ 100 < (Hn : Int) := by omega
      obtain ⟨N, hN⟩ : ∃ N, Wn * Hn = N := ⟨_, rfl⟩
      have hNi : (Wn : Int) * (Hn : Int) = (N : Int) := by rw [← hN]; simp
      have hN4 : N ≤ 10000 := by rw [← hN]; exact Nat.mul_le_mul lW lH
      by_cases q : n = N
      · have m1 : ((n : Int) != (N : Int)) = false := by simp; omega
        have FO := hide' (fun (h : xs.all cellB = true) => show shapeF Wn Hn xs = 0 by unfold shapeF; rw [s1, s2, if_pos (show (true && true) = true from rfl), if_pos (by rw [hNi, ← HL.out, q]), if_pos h])
        have FN := hide' (fun (h : xs.all cellB = false) => show shapeF Wn Hn xs = 1 by unfold shapeF; rw [s1, s2, if_pos (show (true && true) = true from rfl), if_pos (by rw [hNi, ← HL.out, q]), if_neg (by rw [h]; simp)])
        clear q hN s1 s2
        go_enter Tryd.func26, Tryd.ntmps26
        go_wp2
        go_loop [3] (fun kv => ∃ k : Nat, kv = .int .i64 (k : Int) ∧ k ≤ n ∧ ∀ j (h : j < xs.length), j < k → cellB xs[j] = true) (fun kv => n - (intOf kv).toNat)
        case atStart => exact ⟨0, rfl, by omega, fun j h hj => by omega⟩
        case round =>
          obtain ⟨k, rfl, hk, hall⟩ := hrel
          have HA := hide' hall
          clear hall
          by_cases d : (k : Int) < (n : Int)
          · have hkl : k < xs.length := by have := HL.out; omega
            obtain ⟨g, off, rfl, hg, hc⟩ := HP.out.cells k hkl
            obtain ⟨x, hx⟩ : ∃ x, xs[k] = x := ⟨_, rfl⟩
            rw [hx] at hc
            have HX := hide' hx
            clear hx
            by_cases x0 : x < 0
            · have X := hide' (show cellB x = false by unfold cellB; simp; omega)
              go_wp2
              go_ret
              rw [FN.out (all_bad hkl (by rw [HX.out]; exact X.out))]
              exact ⟨rfl, (Below.refl _ _).alloc (Nat.le_refl _) _⟩
            · by_cases x1 : 1 < x
              · have X := hide' (show cellB x = false by unfold cellB; simp; omega)
                go_wp2
                go_ret
                rw [FN.out (all_bad hkl (by rw [HX.out]; exact X.out))]
                exact ⟨rfl, (Below.refl _ _).alloc (Nat.le_refl _) _⟩
              · have X := hide' (show cellB x = true by rw [cellB_iff]; omega)
                go_wp2
                refine ⟨⟨k + 1, by go_num, by omega, fun j h hj => ?_⟩, by simp [intOf]; omega⟩
                by_cases e : j = k
                · subst e; rw [HX.out]; exact X.out
                · exact HA.out j h (by omega)
          · go_wp2
            go_ret
            rw [FO.out (all_ok fun j hj => HA.out j hj (by have := HL.out; omega))]
            exact ⟨rfl, (Below.refl _ _).alloc (Nat.le_refl _) _⟩
      · have m1 : ((n : Int) != (N : Int)) = true := by simp; omega
        have F := hide' (show shapeF Wn Hn xs = 3 by unfold shapeF; rw [s1, s2, if_pos (show (true && true) = true from rfl), if_neg (by rw [hNi, ← HL.out]; omega)])
        clear q hN s1 s2
        go_enter Tryd.func26, Tryd.ntmps26
        go_wp2
        go_ret
        rw [F.out]
        exact ⟨rfl, (Below.refl _ _).alloc (Nat.le_refl _) _⟩
end Go.Proofs.YtjngjnkecnnmeaaDoor

namespace Go.Proofs.YtjngjnkecnnmeaaDoor
open Go.RowKit
set_option linter.unusedVariables false

/-- Where a cell goes when its pattern is mirrored; turned by a quarter. -/
def mirI (W H i : Nat) : Nat := i / W * W + (W - 1 - i % W)
def qtrI (W H i : Nat) : Nat := i % W * H + (H - 1 - i / W)
/-- The pattern mirrored; turned by a quarter (as wide as it was high). -/
def mirP (W H : Nat) (xs : List Int) : List Int := (List.range (W * H)).map fun q => xs.getD (q / W * W + (W - 1 - q % W)) 0
def qtrP (W H : Nat) (xs : List Int) : List Int := (List.range (H * W)).map fun q => xs.getD ((H - 1 - q % H) * W + q / H) 0
theorem mirP_length (W H : Nat) (xs : List Int) : (mirP W H xs).length = W * H := by simp [mirP]
theorem qtrP_length (W H : Nat) (xs : List Int) : (qtrP W H xs).length = H * W := by simp [qtrP]

theorem divmod_mk (W y x : Nat) (hx : x < W) : (y * W + x) / W = y ∧ (y * W + x) % W = x := by
  constructor
  · rw [Nat.mul_comm, Nat.mul_add_div (by omega), Nat.div_eq_of_lt hx]; omega
  · rw [Nat.mul_comm, Nat.mul_add_mod, Nat.mod_eq_of_lt hx]
theorem split_lt {W H i : Nat} (hi : i < W * H) : ∃ x y, x < W ∧ y < H ∧ i % W = x ∧ i / W = y ∧ y * W + x = i := by
  have hW : 0 < W := by
    rcases Nat.eq_zero_or_pos W with h | h
    · rw [h, Nat.zero_mul] at hi; omega
    · exact h
  refine ⟨i % W, i / W, Nat.mod_lt _ hW, ?_, rfl, rfl, ?_⟩
  · rw [Nat.div_lt_iff_lt_mul hW, Nat.mul_comm]; exact hi
  · rw [Nat.mul_comm]; exact Nat.div_add_mod i W
theorem mk_lt {W H x y : Nat} (hx : x < W) (hy : y < H) : y * W + x < W * H := by
  have := Nat.mul_le_mul_right W (show y + 1 ≤ H by omega)
  rw [Nat.add_mul, Nat.mul_comm H W] at this
  omega
theorem mirI_lt {W H i : Nat} (hi : i < W * H) : mirI W H i < W * H := by
  obtain ⟨x, y, h1, h2, h3, h4, h5⟩ := split_lt hi
  unfold mirI
  rw [h3, h4]
  exact mk_lt (by omega) h2
theorem mirI_mirI {W H i : Nat} (hi : i < W * H) : mirI W H (mirI W H i) = i := by
  obtain ⟨x, y, h1, h2, h3, h4, h5⟩ := split_lt hi
  obtain ⟨d, m⟩ := divmod_mk W y (W - 1 - x) (by omega)
  unfold mirI
  rw [h3, h4, d, m]
  omega
theorem qtrI_lt {W H i : Nat} (hi : i < W * H) : qtrI W H i < H * W := by
  obtain ⟨x, y, h1, h2, h3, h4, h5⟩ := split_lt hi
  unfold qtrI
  rw [h3, h4]
  exact mk_lt (by omega) h1
/-- The way back from a quarter. -/
def qtrJ (W H q : Nat) : Nat := (H - 1 - q % H) * W + q / H
theorem qtrJ_qtrI {W H i : Nat} (hi : i < W * H) : qtrJ W H (qtrI W H i) = i := by
  obtain ⟨x, y, h1, h2, h3, h4, h5⟩ := split_lt hi
  obtain ⟨d, m⟩ := divmod_mk H x (H - 1 - y) (by omega)
  unfold qtrJ qtrI
  rw [h3, h4, d, m, show H - 1 - (H - 1 - y) = y by omega]
  exact h5
theorem qtrJ_lt {W H q : Nat} (hq : q < H * W) : qtrJ W H q < W * H := by
  obtain ⟨x, y, h1, h2, h3, h4, h5⟩ := split_lt hq
  unfold qtrJ
  rw [h3, h4]
  exact mk_lt h2 (by omega)
theorem qtrI_qtrJ {W H q : Nat} (hq : q < H * W) : qtrI W H (qtrJ W H q) = q := by
  obtain ⟨x, y, h1, h2, h3, h4, h5⟩ := split_lt hq
  obtain ⟨d, m⟩ := divmod_mk W (H - 1 - x) y h2
  unfold qtrI qtrJ
  rw [h3, h4, d, m, show H - 1 - (H - 1 - x) = x by omega]
  exact h5

/-- At block g a list of n ints of the call's own; what stands at f i, for i below k, is xs' i-th. -/
structure ScJ (w0 w : World) (g n k : Nat) (f : Nat → Nat) (xs : List Int) : Prop where
  below : Below w0.heap.size w0 w
  ge : w0.heap.size ≤ g
  lt : g < w.heap.size
  cells : ∀ j, j < n → ∃ v, w.cell? ⟨g, j, none⟩ = some v ∧ (∀ i, i < k → f i = j → v = .int .i64 (xs.getD i 0))
  fz : ∀ j, w.frozen? ⟨g, j, none⟩ = false
theorem ScJ.step {w0 w : World} {g n k : Nat} {f : Nat → Nat} {xs : List Int} (h : ScJ w0 w g n k f xs) (hk : f k < n) (hinj : ∀ i, i < k → f i ≠ f k) {x : Int} (hx : xs.getD k 0 = x) : ScJ w0 (w.setCell ⟨g, f k, none⟩ (.int .i64 x)) g n (k + 1) f xs := by
  refine ⟨h.below.setCell h.ge _, h.ge, by rw [World.size_setCell]; exact h.lt, fun j hj => ?_, fun j => by rw [World.frozen?_setCell]; exact h.fz j⟩
  by_cases e : j = f k
  · subst e
    obtain ⟨v, hv, -⟩ := h.cells _ hj
    refine ⟨_, World.cell?_setCell_same _ _ _ hv, fun i hi he => ?_⟩
    by_cases q : i = k
    · subst q; rw [hx]
    · exact absurd he (hinj i (by omega))
  · obtain ⟨v, hv, hv'⟩ := h.cells j hj
    refine ⟨v, ?_, fun i hi he => hv' i (by have : i ≠ k := fun q => e (by rw [← he, q]); omega) he⟩
    exact (World.cell?_setCell_other _ ⟨g, f k, none⟩ ⟨g, j, none⟩ _ (fun q => e (congrArg Addr.off q).symm)).trans hv
theorem ScJ.drewN {w0 w : World} {g n k : Nat} {f : Nat → Nat} {xs : List Int} (h : ScJ w0 w g n k f xs) (m : Nat) : ScJ w0 (w.drewN m) g n k f xs :=
  ⟨h.below.trans ⟨rfl, rfl, rfl, Nat.le_refl _, fun _ _ => rfl⟩, h.ge, h.lt, h.cells, h.fz⟩
theorem ScJ.start {w0 w : World} {g n : Nat} (f : Nat → Nat) (xs ys : List Int) (hb : Below w0.heap.size w0 w) (hg : w0.heap.size ≤ g) (hc : Cel w g ys) (hn : ys.length = n) : ScJ w0 w g n 0 f xs :=
  ⟨hb, hg, hc.lt, fun j hj => ⟨_, hc.cells j (by omega), fun i hi => by omega⟩, hc.fz⟩
theorem ScJ.cel {w0 w : World} {g n : Nat} {f fi : Nat → Nat} {xs : List Int} (h : ScJ w0 w g n n f xs) (h1 : ∀ j, j < n → fi j < n) (h2 : ∀ j, j < n → f (fi j) = j) : Cel w g ((List.range n).map fun j => xs.getD (fi j) 0) := by
  refine ⟨h.lt, fun k hk => ?_, h.fz⟩
  simp only [List.length_map, List.length_range] at hk
  obtain ⟨v, hv, hv'⟩ := h.cells k hk
  rw [hv, hv' (fi k) (h1 k hk) (h2 k hk)]
  simp [List.getD, hk]
end Go.Proofs.YtjngjnkecnnmeaaDoor

