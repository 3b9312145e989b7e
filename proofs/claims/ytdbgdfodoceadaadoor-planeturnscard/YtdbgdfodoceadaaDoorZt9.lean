/-
  What the last text of this claim leans on, part 9: Pa6, Al1, Wa1, Gp2.
-/
import Derived.Test.YtdbgdfodoceadaaDoorZt2
import Derived.Test.YtdbgdfodoceadaaDoorZt8
import Derived.Test.YtdbgdfodoceadaaDoorZt4
namespace Go.Proofs.YtdbgdfodoceadaaDoor
open Go.RowKit
set_option linter.unusedVariables false

def sideB (n : Int) : Bool := decide (0 ≤ n) && decide (n ≤ 100)
theorem pisSide (n : Int) (w : World) :
    Calls Tryd.prog 86 #[.int .i64 n] w fun e w' => e = .returned (.bool (sideB n)) ∧ w' = w := by
  by_cases h1 : 0 ≤ n
  · by_cases h2 : n ≤ 100
    · rw [show sideB n = true by unfold sideB; simp; omega]
      go_enter Tryd.func86, Tryd.ntmps86
      go_wp2
      go_ret
      exact ⟨rfl, rfl⟩
    · rw [show sideB n = false by unfold sideB; simp; omega]
      go_enter Tryd.func86, Tryd.ntmps86
      go_wp2
      go_ret
      exact ⟨rfl, rfl⟩
  · rw [show sideB n = false by unfold sideB; simp; omega]
    go_enter Tryd.func86, Tryd.ntmps86
    go_wp2
    go_ret
    exact ⟨rfl, rfl⟩

/-- At block g these ints, writable. -/
structure Cel (w : World) (g : Nat) (xs : List Int) : Prop where
  lt : g < w.heap.size
  cells : ∀ k, k < xs.length → w.cell? ⟨g, k, none⟩ = some (.int .i64 (xs.getD k 0))
  fz : ∀ k, w.frozen? ⟨g, k, none⟩ = false
theorem Cel.block {w w' : World} {g : Nat} {xs : List Int} (h : Cel w g xs) (hs : w.heap.size ≤ w'.heap.size) (e : w'.heap[g]? = w.heap[g]?) : Cel w' g xs :=
  ⟨Nat.lt_of_lt_of_le h.lt hs, fun k hk => (World.cell?_of_block (w := w) (a := ⟨g, k, none⟩) e).trans (h.cells k hk), fun k => (World.frozen?_of_block (w := w) (a := ⟨g, k, none⟩) e).trans (h.fz k)⟩
theorem Cel.rd {w w' : World} {g b : Nat} {xs : List Int} (h : Cel w g xs) (hr : Rd b w w') (hb : g ≠ b) : Cel w' g xs := h.block hr.size (hr.block g h.lt hb)
theorem Cel.below {w w' : World} {g : Nat} {xs : List Int} (h : Cel w g xs) (hb : Below w.heap.size w w') : Cel w' g xs := h.block hb.size (hb.block g h.lt)
theorem Cel.set {w : World} {g : Nat} {xs : List Int} (h : Cel w g xs) (p : Nat) (x : Int) (hp : p < xs.length) : Cel (w.setCell ⟨g, p, none⟩ (.int .i64 x)) g (xs.set p x) := by
  refine ⟨by rw [World.size_setCell]; exact h.lt, fun k hk => ?_, fun k => by rw [World.frozen?_setCell]; exact h.fz k⟩
  rw [List.length_set] at hk
  by_cases e : k = p
  · subst e
    rw [show (xs.set k x).getD k 0 = x by simp [List.getD, hk]]
    exact World.cell?_setCell_same (w := w) (a := ⟨g, k, none⟩) (v := _) (h := h.cells k hk)
  · rw [show (xs.set p x).getD k 0 = xs.getD k 0 by simp [List.getD, Ne.symm e]]
    exact (World.cell?_setCell_other (w := w) (a := ⟨g, p, none⟩) (b := ⟨g, k, none⟩) (v := _) (h := fun q => e (congrArg Addr.off q).symm)).trans (h.cells k hk)

set_option maxHeartbeats 800000 in
theorem pblank (W H : Nat) (w : World) (hW : W ≤ 100) (hH : H ≤ 100) :
    Calls Tryd.prog 108 #[.int .i64 (W : Int), .int .i64 (H : Int)] w fun e w' => ∃ g, e = .returned (.agg #[.int .i64 (W : Int), .int .i64 (H : Int), .slice (some ⟨g, 0, none⟩) (W * H) (W * H)]) ∧ w.heap.size ≤ g ∧ Cel w' g (List.replicate (W * H) 0) ∧ Below w.heap.size w w' := by
  have hn : W * H ≤ 10000 := Nat.mul_le_mul hW hH
  have hc : (W : Int) * (H : Int) = ((W * H : Nat) : Int) := by simp
  have hmk := run_make_row' (P := Tryd.prog) 22 3 (.int .i64 0) 8 Tryd.underlying22 info_int rfl .i64 .i64 (W * H) (by omega) (by omega)
  obtain ⟨N, hN⟩ : ∃ N, W * H = N := ⟨_, rfl⟩
  rw [hN] at hn hc hmk ⊢
  clear hN
  go_enter Tryd.func108, Tryd.ntmps108
  go_wp2
  refine bodyPost_ret (v := .agg #[.int .i64 (W : Int), .int .i64 (H : Int), .slice (some ⟨w.heap.size + 1, 0, none⟩) N N]) (by simp [results, Tryd.results108, go_sem]) rfl ?_
  refine ⟨w.heap.size + 1, rfl, by omega, ⟨by simp, fun k hk => ?_, fun k => ?_⟩, ((Below.refl _ _).alloc (Nat.le_refl _) _).alloc (by simp) _⟩
  · rw [World.cell?_alloc_at _ _ _ _ (by simp)]
    rw [List.length_replicate] at hk
    rw [show (List.replicate N (0 : Int)).getD k 0 = 0 by simp [List.getD, hk]]
    rw [← Array.getElem?_toList, toList_madeCells_one]
    simp [hk]
  · simp
end Go.Proofs.YtdbgdfodoceadaaDoor

namespace Go.Proofs.YtdbgdfodoceadaaDoor
open Go.RowKit
set_option linter.unusedVariables false

theorem Cel.tab {w : World} {g n : Nat} {xs : List Int} (h : Cel w g xs) (hn : xs.length = n) : Tab w (.slice (some ⟨g, 0, none⟩) n n) xs := by
  subst hn
  exact Or.inr ⟨g, xs.length, rfl, h.lt, fun k hk => by rw [h.cells k hk]; simp [List.getD, hk]⟩

end Go.Proofs.YtdbgdfodoceadaaDoor

namespace Go.Proofs.YtdbgdfodoceadaaDoor
open Go.RowKit
set_option linter.unusedVariables false

/-- A pattern that came in, as a value: its cells anywhere. -/
structure ArgP (w : World) (xs : List Int) (a : Option Addr) (n c : Nat) : Prop where
  len : n = xs.length
  max : n ≤ maxLen
  cells : ∀ k (h : k < xs.length), ∃ g off, a = some ⟨g, off, none⟩ ∧ g < w.heap.size ∧ w.cell? ⟨g, off + k, none⟩ = some (.int .i64 xs[k])
theorem ArgP.below {w w' : World} {xs : List Int} {a : Option Addr} {n c : Nat} (h : ArgP w xs a n c) (hb : Below w.heap.size w w') : ArgP w' xs a n c :=
  ⟨h.len, h.max, fun k hk => by
    obtain ⟨g, off, e, hg, hc⟩ := h.cells k hk
    exact ⟨g, off, e, Nat.lt_of_lt_of_le hg hb.size, (World.cell?_of_block (w := w) (a := ⟨g, off + k, none⟩) (hb.block g hg)).trans hc⟩⟩
theorem ArgP.alloc {w : World} {xs : List Int} {a : Option Addr} {n c : Nat} (h : ArgP w xs a n c) (x : Obj) : ArgP (w.alloc x) xs a n c :=
  h.below ((Below.refl _ _).alloc (Nat.le_refl _) _)

def cellB (x : Int) : Bool := decide (x = 0) || decide (x = 1)
def shapeF (W H : Int) (xs : List Int) : Nat :=
  if sideB W && sideB H then (if (xs.length : Int) = W * H then (if xs.all cellB then 0 else 1) else 3) else 1

def errOf (f : Nat) : Value := if f = 0 then .nilIface else .iface 77 (.int .i64 (f : Int))

theorem side_nat {W : Int} (h : sideB W = true) : ∃ n : Nat, W = (n : Int) ∧ n ≤ 100 := by
  unfold sideB at h
  simp at h
  exact ⟨W.toNat, by omega, by omega⟩
theorem all_bad {xs : List Int} {k : Nat} (hk : k < xs.length) (h : cellB xs[k] = false) : xs.all cellB = false := by
  cases q : xs.all cellB with
  | false => rfl
  | true => rw [List.all_eq_true.1 q _ (List.getElem_mem hk)] at h; cases h
theorem all_ok {xs : List Int} (h : ∀ k (hk : k < xs.length), cellB xs[k] = true) : xs.all cellB = true := by
  rw [List.all_eq_true]
  intro x hx
  obtain ⟨k, hk, rfl⟩ := List.getElem_of_mem hx
  exact h k hk
set_option maxHeartbeats 1600000 in
theorem Check_P (W H : Int) (xs : List Int) (a : Option Addr) (n c : Nat) (w : World) (hP : ArgP w xs a n c) :
    Calls Tryd.prog 58 #[.agg #[.int .i64 W, .int .i64 H, .slice a n c]] w fun e w' => e = .returned (errOf (shapeF W H xs)) ∧ Below w.heap.size w w' := by
  have HP := hide' (hP.alloc (.cells #[.int .i64 W, .int .i64 H, .slice a n c] 26))
  have hlen := hP.len
  have hmax := hP.max
  have HL := hide' hlen
  unfold maxLen at hmax
  clear hP hlen
  cases s1 : sideB W with
  | false =>
    have F := hide' (show errOf (shapeF W H xs) = .iface 77 (.int .i64 1) by unfold shapeF; rw [s1]; rfl)
    go_enter Tryd.func58, Tryd.ntmps58
    go_wp2_with fail
    refine (pisSide W _).mono ?_
    rw [s1]
    rintro e w1 ⟨rfl, rfl⟩
    go_wp2
    go_ret
    rw [F.out]
    exact ⟨rfl, (Below.refl _ _).alloc (Nat.le_refl _) _⟩
  | true =>
    cases s2 : sideB H with
    | false =>
      have F := hide' (show errOf (shapeF W H xs) = .iface 77 (.int .i64 1) by unfold shapeF; rw [s1, s2]; rfl)
      go_enter Tryd.func58, Tryd.ntmps58
      go_wp2_with fail
      refine (pisSide W _).mono ?_
      rw [s1]
      rintro e w1 ⟨rfl, rfl⟩
      go_wp2_with fail
      refine (pisSide H _).mono ?_
      rw [s2]
      rintro e w1 ⟨rfl, rfl⟩
      go_wp2
      go_ret
      rw [F.out]
      exact ⟨rfl, (Below.refl _ _).alloc (Nat.le_refl _) _⟩
    | true =>
      obtain ⟨Wn, rfl, lW⟩ := side_nat s1
      obtain ⟨Hn, rfl, lH⟩ := side_nat s2
      obtain ⟨N, hN⟩ : ∃ N, Wn * Hn = N := ⟨_, rfl⟩
      have hNi : (Wn : Int) * (Hn : Int) = (N : Int) := by rw [← hN]; simp
      have hN4 : N ≤ 10000 := by rw [← hN]; exact Nat.mul_le_mul lW lH
      by_cases q : n = N
      · have m1 : ((n : Int) != (N : Int)) = false := by simp; omega
        have FO := hide' (fun (h : xs.all cellB = true) => show errOf (shapeF Wn Hn xs) = .nilIface by unfold shapeF; rw [s1, s2, if_pos (show (true && true) = true from rfl), if_pos (by rw [hNi, ← HL.out, q]), if_pos h]; rfl)
        have FN := hide' (fun (h : xs.all cellB = false) => show errOf (shapeF Wn Hn xs) = .iface 77 (.int .i64 1) by unfold shapeF; rw [s1, s2, if_pos (show (true && true) = true from rfl), if_pos (by rw [hNi, ← HL.out, q]), if_neg (by rw [h]; simp)]; rfl)
        clear q hN
        go_enter Tryd.func58, Tryd.ntmps58
        go_wp2_with fail
        refine (pisSide _ _).mono ?_
        rw [s1]
        rintro e w1 ⟨rfl, rfl⟩
        go_wp2_with fail
        refine (pisSide _ _).mono ?_
        rw [s2]
        rintro e w1 ⟨rfl, rfl⟩
        go_wp2
        go_loop [29] (fun kv => ∃ k : Nat, kv = .int .i64 (k : Int) ∧ k ≤ n ∧ ∀ j (h : j < xs.length), j < k → cellB xs[j] = true) (fun kv => n - (intOf kv).toNat)
        case atStart => exact ⟨0, rfl, by omega, fun j h hj => by omega⟩
        case round =>
          obtain ⟨k, rfl, hk, hall⟩ := hrel
          have HA := hide' hall
          clear hall
          by_cases d : (k : Int) < (n : Int)
          · have hkl : k < xs.length := by have := HL.out; omega
            obtain ⟨g, off, rfl, hg, hc⟩ := HP.out.cells k hkl
            obtain ⟨x, hx⟩ : ∃ x, xs[k] = x := ⟨_, rfl⟩
            rw [hx] at hc
            have HX := hide' hx
            clear hx
            by_cases x0 : x = 0
            · have m2 : (x != 0) = false := by simp [x0]
              have X := hide' x0
              clear x0
              go_wp2
              refine ⟨⟨k + 1, by go_num, by omega, fun j h hj => ?_⟩, by simp [intOf]; omega⟩
              by_cases e : j = k
              · subst e; rw [HX.out, X.out]; rfl
              · exact HA.out j h (by omega)
            · have m2 : (x != 0) = true := by simp [x0]
              by_cases x1 : x = 1
              · have m3 : (x != 1) = false := by simp [x1]
                have X := hide' x1
                clear x0 x1
                go_wp2
                refine ⟨⟨k + 1, by go_num, by omega, fun j h hj => ?_⟩, by simp [intOf]; omega⟩
                by_cases e : j = k
                · subst e; rw [HX.out, X.out]; rfl
                · exact HA.out j h (by omega)
              · have m3 : (x != 1) = true := by simp [x1]
                have X := hide' (show cellB x = false by unfold cellB; simp [x0, x1])
                clear x0 x1
                go_wp2
                go_ret
                rw [FN.out (all_bad hkl (by rw [HX.out]; exact X.out))]
                exact ⟨rfl, (Below.refl _ _).alloc (Nat.le_refl _) _⟩
          · go_wp2
            go_ret
            rw [FO.out (all_ok fun j hj => HA.out j hj (by have := HL.out; omega))]
            exact ⟨rfl, (Below.refl _ _).alloc (Nat.le_refl _) _⟩
      · have m1 : ((n : Int) != (N : Int)) = true := by simp; omega
        have F := hide' (show errOf (shapeF Wn Hn xs) = .iface 77 (.int .i64 3) by unfold shapeF; rw [s1, s2, if_pos (show (true && true) = true from rfl), if_neg (by rw [hNi, ← HL.out]; omega)]; rfl)
        clear q hN
        go_enter Tryd.func58, Tryd.ntmps58
        go_wp2_with fail
        refine (pisSide _ _).mono ?_
        rw [s1]
        rintro e w1 ⟨rfl, rfl⟩
        go_wp2_with fail
        refine (pisSide _ _).mono ?_
        rw [s2]
        rintro e w1 ⟨rfl, rfl⟩
        go_wp2
        go_ret
        rw [F.out]
        exact ⟨rfl, (Below.refl _ _).alloc (Nat.le_refl _) _⟩
end Go.Proofs.YtdbgdfodoceadaaDoor

namespace Go.Proofs.YtdbgdfodoceadaaDoor
open Go.RowKit
set_option linter.unusedVariables false

theorem ArgP.atP {w : World} {xs : List Int} {a : Option Addr} {n c : Nat} (h : ArgP w xs a n c) {k : Nat} (hk : k < n) : ∃ g off, a = some ⟨g, off, none⟩ ∧ w.cell? ⟨g, off + k, none⟩ = some (.int .i64 (xs.getD k 0)) := by
  have hl := h.len
  obtain ⟨g, off, e, hg, hc⟩ := h.cells k (by omega)
  exact ⟨g, off, e, by rw [hc]; simp [List.getD, show k < xs.length by omega]⟩
def sumG (f : Nat → Int) : Nat → Int
  | 0 => 0
  | m + 1 => sumG f m + f m
/-- A cell of a torus, so far down and right from the one that is ahead of both. -/
def torC (W H : Nat) (xs : List Int) (x y i j : Nat) : Int := xs.getD ((y + (H - 1 + i)) % H * W + (x + (W - 1 + j)) % W) 0
def torS (W H : Nat) (xs : List Int) (x y t : Nat) : Int := sumG (fun s => torC W H xs x y (s / 3) (s % 3)) t - xs.getD (y * W + x) 0
theorem torI {W H x y i j : Nat} (hW : 0 < W) (hH : 0 < H) : (y + (H - 1 + i)) % H * W + (x + (W - 1 + j)) % W < W * H := by
  have a : (y + (H - 1 + i)) % H < H := Nat.mod_lt _ hH
  have b : (x + (W - 1 + j)) % W < W := Nat.mod_lt _ hW
  have : ((y + (H - 1 + i)) % H + 1) * W ≤ H * W := Nat.mul_le_mul_right _ a
  rw [Nat.add_mul, Nat.mul_comm H W] at this
  omega
theorem torS_bound {W H : Nat} {xs : List Int} (hx : ∀ k, 0 ≤ xs.getD k 0 ∧ xs.getD k 0 ≤ 1) (x y : Nat) : ∀ t, -1 ≤ torS W H xs x y t ∧ torS W H xs x y t ≤ (t : Int) := fun t => by
  have s : 0 ≤ sumG (fun s => torC W H xs x y (s / 3) (s % 3)) t ∧ sumG (fun s => torC W H xs x y (s / 3) (s % 3)) t ≤ (t : Int) := by
    induction t with
    | zero => exact ⟨Int.le_refl _, Int.le_refl _⟩
    | succ t ih =>
      have := hx ((y + (H - 1 + t / 3)) % H * W + (x + (W - 1 + t % 3)) % W)
      rw [sumG]
      unfold torC at *
      push_cast
      omega
  have := hx (y * W + x)
  unfold torS
  omega
theorem torS_next (W H : Nat) (xs : List Int) (x y i j : Nat) (hj : j < 3) : torS W H xs x y (i * 3 + (j + 1)) = torS W H xs x y (i * 3 + j) + torC W H xs x y i j := by
  unfold torS
  rw [← Nat.add_assoc, sumG, show (i * 3 + j) / 3 = i by omega, show (i * 3 + j) % 3 = j by omega]
  omega

set_option maxRecDepth 100000 in
set_option maxHeartbeats 6400000 in
theorem around_any (W H x y : Nat) (xs : List Int) (a : Option Addr) (n c : Nat) (w : World) (hP : ArgP w xs a n c) (hn : xs.length = W * H) (hx : ∀ k, 0 ≤ xs.getD k 0 ∧ xs.getD k 0 ≤ 1) (hW : W ≤ 100) (hH : H ≤ 100) (xl : x < W) (yl : y < H) :
    Calls Tryd.prog 42 #[.agg #[.int .i64 (W : Int), .int .i64 (H : Int), .slice a n c], .int .i64 (x : Int), .int .i64 (y : Int)] w fun e w' => e = .returned (.int .i64 (torS W H xs x y 9)) ∧ Below w.heap.size w w' := by
  obtain ⟨w1, hw1⟩ : ∃ w1, w.alloc (.cells #[.int .i64 (W : Int), .int .i64 (H : Int), .slice a n c] 26) = w1 := ⟨_, rfl⟩
  have BB := hide' (show Below w.heap.size w w1 by rw [← hw1]; exact (Below.refl _ _).alloc (Nat.le_refl _) _)
  have p0 : w1.cell? ⟨w.heap.size, 0, none⟩ = some (.int .i64 (W : Int)) := by rw [← hw1, World.cell?_alloc_at _ _ _ _ rfl]; rfl
  have p1 : w1.cell? ⟨w.heap.size, 1, none⟩ = some (.int .i64 (H : Int)) := by rw [← hw1, World.cell?_alloc_at _ _ _ _ rfl]; rfl
  have p2 : w1.cell? ⟨w.heap.size, 2, none⟩ = some (.slice a n c) := by rw [← hw1, World.cell?_alloc_at _ _ _ _ rfl]; rfl
  have AP := hide' (hP.below BB.out)
  obtain ⟨res, hres⟩ : ∃ res, torS W H xs x y 9 = res := ⟨_, rfl⟩
  have RES := hide' hres
  rw [hres]
  clear hres
  have NL := hide' (show n = W * H by rw [hP.len]; exact hn)
  have WH : W * H ≤ 10000 := Nat.mul_le_mul hW hH
  have n4 : n ≤ 10000 := by rw [NL.out]; exact WH
  have HX := hide' hx
  have BD := hide' (fun t => torS_bound (W := W) (H := H) hx x y t)
  have S0 := hide' (show torS W H xs x y 0 = - xs.getD (y * W + x) 0 by unfold torS; rw [sumG]; omega)
  have ql : y * W + x < n := by
    have : (y + 1) * W ≤ H * W := Nat.mul_le_mul_right _ yl
    rw [Nat.add_mul, Nat.mul_comm H W] at this
    rw [NL.out]
    omega
  obtain ⟨q0, hq0⟩ : ∃ q0, y * W + x = q0 := ⟨_, rfl⟩
  rw [hq0] at ql S0
  obtain ⟨gq, oq, rfl, hq⟩ := AP.out.atP (k := q0) ql
  obtain ⟨v, hv⟩ : ∃ v, xs.getD q0 0 = v := ⟨_, rfl⟩
  have vb := hx q0
  rw [hv] at hq S0 vb
  obtain ⟨m, hm⟩ : ∃ m : Nat, (y : Int) * (W : Int) = (m : Int) := ⟨y * W, by simp⟩
  have mq : (m : Int) + (x : Int) = (q0 : Int) := by
    have : ((y * W : Nat) : Int) = (m : Int) := by rw [← hm]; simp
    omega
  clear hq0
  have nW : ¬ (W : Int) = 0 := by omega
  have nH : ¬ (H : Int) = 0 := by omega
  clear hP hn hx hv WH
  go_enter Tryd.func42, Tryd.ntmps42
  go_wp2
  clear hq mq
  go_loopw [7, 8] (fun cv dv wr => ∃ (i q : Nat) (u : Int), dv = .int .i64 ((H : Int) - 1 + (i : Int)) ∧ cv = .int .i64 u ∧ i ≤ 3 ∧ wr = w1.drewN q ∧ -1 ≤ u ∧ u ≤ 9 ∧ Hid (u = torS W H xs x y (i * 3))) (fun _ dv _ => ((H : Int) + 2 - intOf dv).toNat)
  case atStart => exact ⟨0, 0, -v, by go_num, rfl, by omega, rfl, by omega, by omega, hide' (by rw [Nat.zero_mul, S0.out])⟩
  case round =>
    obtain ⟨i, q, u, rfl, rfl, hi, rfl, ub1, ub2, HU⟩ := hrel
    by_cases d : (H : Int) - 1 + (i : Int) ≤ (H : Int) + 1
    · go_wp2
      go_loopw [7, 9] (fun cv rv wr => ∃ (j q : Nat) (u : Int), rv = .int .i64 ((W : Int) - 1 + (j : Int)) ∧ cv = .int .i64 u ∧ j ≤ 3 ∧ wr = w1.drewN q ∧ -1 ≤ u ∧ u ≤ 9 ∧ Hid (u = torS W H xs x y (i * 3 + j))) (fun _ rv _ => ((W : Int) + 2 - intOf rv).toNat)
      case atStart => exact ⟨0, q, u, by go_num, rfl, by omega, rfl, ub1, ub2, HU⟩
      case round =>
        obtain ⟨j, q, u, rfl, rfl, hj, rfl, vb1, vb2, HV⟩ := hrel
        by_cases dj : (W : Int) - 1 + (j : Int) ≤ (W : Int) + 1
        · obtain ⟨r, hr⟩ : ∃ r, (y + (H - 1 + i)) % H = r := ⟨_, rfl⟩
          obtain ⟨s, hs⟩ : ∃ s, (x + (W - 1 + j)) % W = s := ⟨_, rfl⟩
          have rl : r < H := by rw [← hr]; exact Nat.mod_lt _ (by omega)
          have sl : s < W := by rw [← hs]; exact Nat.mod_lt _ (by omega)
          have e1 : ((y : Int) + ((H : Int) - 1 + (i : Int))).tmod (H : Int) = (r : Int) := by
            rw [show (y : Int) + ((H : Int) - 1 + (i : Int)) = ((y + (H - 1 + i) : Nat) : Int) by push_cast; omega, Int.tmod_eq_emod_of_nonneg (by omega), ← hr, Int.natCast_emod]
          have e2 : ((x : Int) + ((W : Int) - 1 + (j : Int))).tmod (W : Int) = (s : Int) := by
            rw [show (x : Int) + ((W : Int) - 1 + (j : Int)) = ((x + (W - 1 + j) : Nat) : Int) by push_cast; omega, Int.tmod_eq_emod_of_nonneg (by omega), ← hs, Int.natCast_emod]
          obtain ⟨b, hb⟩ : ∃ b : Nat, (r : Int) * (W : Int) = (b : Int) := ⟨r * W, by simp⟩
          have il := torI (W := W) (H := H) (x := x) (y := y) (i := i) (j := j) (by omega) (by omega)
          rw [hr, hs] at il
          obtain ⟨t, ht⟩ : ∃ t, r * W + s = t := ⟨_, rfl⟩
          have bs : (b : Int) + (s : Int) = (t : Int) := by
            have : ((r * W : Nat) : Int) = (b : Int) := by rw [← hb]; simp
            omega
          rw [ht] at il
          have bl : t < n := by rw [NL.out]; exact il
          obtain ⟨g3, o3, e3, hc⟩ := AP.out.atP (k := t) bl
          injection e3 with e3
          injection e3 with e31 e32 e33
          subst e31
          subst e32
          obtain ⟨z, hz⟩ : ∃ z, xs.getD t 0 = z := ⟨_, rfl⟩
          have zb := HX.out t
          rw [hz] at hc zb
          have NS := hide' (show u + z = torS W H xs x y (i * 3 + (j + 1)) by rw [torS_next _ _ _ _ _ _ _ (by omega), ← HV.out, torC, hr, hs, ht, hz])
          have nb := BD.out (i * 3 + (j + 1))
          rw [← NS.out] at nb
          have nb2 : u + z ≤ 9 := by have := nb.2; push_cast at this; omega
          have b4 : b ≤ 10000 := by omega
          clear hr hs hz ht il
          go_wp2
          go_quiet (fail)
          go_wp2
          exact ⟨⟨j + 1, q + nq, u + z, by go_num, rfl, by omega, rfl, nb.1, nb2, NS⟩, by simp [intOf]; omega⟩
        · have j3 : j = 3 := by omega
          have NU := hide' (show u = torS W H xs x y ((i + 1) * 3) by rw [HV.out, j3]; congr 1; omega)
          clear j3
          go_wp2
          exact ⟨⟨i + 1, q, u, by go_num, rfl, by omega, rfl, vb1, vb2, NU⟩, by simp [intOf]; omega⟩
    · have i3 : i = 3 := by omega
      have FU : u = res := by rw [HU.out, i3]; exact RES.out
      clear i3
      subst FU
      go_wp2
      go_ret
      exact ⟨rfl, below_drewN BB.out _⟩
end Go.Proofs.YtdbgdfodoceadaaDoor

