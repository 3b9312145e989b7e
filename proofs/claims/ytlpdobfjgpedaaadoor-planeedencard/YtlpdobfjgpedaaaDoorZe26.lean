/-
  What the last text of this claim leans on, part 26: Gp2.
-/
import Derived.Test.YtlpdobfjgpedaaaDoorZe7
import Derived.Test.YtlpdobfjgpedaaaDoorZe10
namespace Go.Proofs.YtlpdobfjgpedaaaDoor
open Go.RowKit
set_option linter.unusedVariables false

theorem ArgP.atP {w : World} {xs : List Int} {a : Option Addr} {n c : Nat} (h : ArgP w xs a n c) {k : Nat} (hk : k < n) : ∃ g off, a = some ⟨g, off, none⟩ ∧ w.cell? ⟨g, off + k, none⟩ = some (.int .i64 (xs.getD k 0)) := by
  have hl := h.len
  obtain ⟨g, off, e, hg, hc⟩ := h.cells k (by omega)
  exact ⟨g, off, e, by rw [hc]; simp [List.getD, show k < xs.length by omega]⟩
def sumG (f : Nat → Int) : Nat → Int
  | 0 => 0
  | m + 1 => sumG f m + f m
theorem sumG_ext {f g : Nat → Int} : ∀ m, (∀ i, i < m → f i = g i) → sumG f m = sumG g m
  | 0, _ => rfl
  | m + 1, h => by rw [sumG, sumG, sumG_ext m (fun i hi => h i (by omega)), h m (by omega)]
/-- A cell of a torus, so far down and right from the one that is ahead of both. -/
def torC (W H : Nat) (xs : List Int) (x y i j : Nat) : Int := xs.getD ((y + (H - 1 + i)) % H * W + (x + (W - 1 + j)) % W) 0
def torS (W H : Nat) (xs : List Int) (x y t : Nat) : Int := sumG (fun s => torC W H xs x y (s / 3) (s % 3)) t - xs.getD (y * W + x) 0
theorem torI {W H x y i j : Nat} (hW : 0 < W) (hH : 0 < H) : (y + (H - 1 + i)) % H * W + (x + (W - 1 + j)) % W < W * H := by
  have a : (y + (H - 1 + i)) % H < H := Nat.mod_lt _ hH
  have b : (x + (W - 1 + j)) % W < W := Nat.mod_lt _ hW
  have : ((y + (H - 1 + i)) % H + 1) * W ≤ H * W := Nat.mul_le_mul_right _ a
  rw [Nat.add_mul, Nat.mul_comm H W] at this
  omega
theorem torS_bound {W H : Nat} {xs : List Int} (hx : ∀ k, 0 ≤ xs.getD k 0 ∧ xs.getD k 0 ≤ 1) (x y : Nat) : ∀ t, -1 ≤ torS W H xs x y t ∧ torS W H xs x y t ≤ (t : Int) := fun t => by
  have s : 0 ≤ sumG (fun s => torC W H xs x y (s / 3) (s % 3)) t ∧ sumG (fun s => torC W H xs x y (s / 3) (s % 3)) t ≤ (t : Int) := by
    induction t with
    | zero => exact ⟨Int.le_refl _, Int.le_refl _⟩
    | succ t ih =>
      have := hx ((y + (H - 1 + t / 3)) % H * W + (x + (W - 1 + t % 3)) % W)
      rw [sumG]
      unfold torC at *
      push_cast
      omega
  have := hx (y * W + x)
  unfold torS
  omega
theorem torS_next (W H : Nat) (xs : List Int) (x y i j : Nat) (hj : j < 3) : torS W H xs x y (i * 3 + (j + 1)) = torS W H xs x y (i * 3 + j) + torC W H xs x y i j := by
  unfold torS
  rw [← Nat.add_assoc, sumG, show (i * 3 + j) / 3 = i by omega, show (i * 3 + j) % 3 = j by omega]
  omega

set_option maxRecDepth 100000 in
set_option maxHeartbeats 6400000 in
theorem around_any (W H x y : Nat) (xs : List Int) (a : Option Addr) (n c : Nat) (w : World) (hP : ArgP w xs a n c) (hn : xs.length = W * H) (hx : ∀ k, 0 ≤ xs.getD k 0 ∧ xs.getD k 0 ≤ 1) (hW : W ≤ 100) (hH : H ≤ 100) (xl : x < W) (yl : y < H) :
    Calls Tryd.prog 30 #[.agg #[.int .i64 (W : Int), .int .i64 (H : Int), .slice a n c], .int .i64 (x : Int), .int .i64 (y : Int)] w fun e w' => e = .returned (.int .i64 (torS W H xs x y 9)) ∧ Below w.heap.size w w' := by
  obtain ⟨w1, hw1⟩ : ∃ w1, w.alloc (.cells #[.int .i64 (W : Int), .int .i64 (H : Int), .slice a n c] 26) = w1 := ⟨_, rfl⟩
  have BB := hide' (show Below w.heap.size w w1 by rw [← hw1]; exact (Below.refl _ _).alloc (Nat.le_refl _) _)
  have p0 : w1.cell? ⟨w.heap.size, 0, none⟩ = some (.int .i64 (W : Int)) := by rw [← hw1, World.cell?_alloc_at _ _ _ _ rfl]; rfl
  have p1 : w1.cell? ⟨w.heap.size, 1, none⟩ = some (.int .i64 (H : Int)) := by rw [← hw1, World.cell?_alloc_at _ _ _ _ rfl]; rfl
  have p2 : w1.cell? ⟨w.heap.size, 2, none⟩ = some (.slice a n c) := by rw [← hw1, World.cell?_alloc_at _ _ _ _ rfl]; rfl
  have AP := hide' (hP.below BB.out)
  obtain ⟨res, hres⟩ : ∃ res, torS W H xs x y 9 = res := ⟨_, rfl⟩
  have RES := hide' hres
  rw [hres]
  clear hres
  have NL := hide' (show n = W * H by rw [hP.len]; exact hn)
  have WH : W * H ≤ 10000 := Nat.mul_le_mul hW hH
  have n4 : n ≤ 10000 := by rw [NL.out]; exact WH
  have HX := hide' hx
  have BD := hide' (fun t => torS_bound (W := W) (H := H) hx x y t)
  have S0 := hide' (show torS W H xs x y 0 = - xs.getD (y * W + x) 0 by unfold torS; rw [sumG]; omega)
  have ql : y * W + x < n := by
    have : (y + 1) * W ≤ H * W := Nat.mul_le_mul_right _ yl
    rw [Nat.add_mul, Nat.mul_comm H W] at this
    rw [NL.out]
    omega
  obtain ⟨q0, hq0⟩ : ∃ q0, y * W + x = q0 := ⟨_, rfl⟩
  rw [hq0] at ql S0
  obtain ⟨gq, oq, rfl, hq⟩ := AP.out.atP (k := q0) ql
  obtain ⟨v, hv⟩ : ∃ v, xs.getD q0 0 = v := ⟨_, rfl⟩
  have vb := hx q0
  rw [hv] at hq S0 vb
  obtain ⟨m, hm⟩ : ∃ m : Nat, (y : Int) * (W : Int) = (m : Int) := ⟨y * W, by simp⟩
  have mq : (m : Int) + (x : Int) = (q0 : Int) := by
    have : ((y * W : Nat) : Int) = (m : Int) := by rw [← hm]; simp
    omega
  clear hq0
  have nW : ¬ (W : Int) = 0 := by omega
  have nH : ¬ (H : Int) = 0 := by omega
  clear hP hn hx hv WH
  go_enter Tryd.func30, Tryd.ntmps30
  go_wp2
  clear hq mq
  go_loopw [7, 8] (fun cv dv wr => ∃ (i q : Nat) (u : Int), dv = .int .i64 ((H : Int) - 1 + (i : Int)) ∧ cv = .int .i64 u ∧ i ≤ 3 ∧ wr = w1.drewN q ∧ -1 ≤ u ∧ u ≤ 9 ∧ Hid (u = torS W H xs x y (i * 3))) (fun _ dv _ => ((H : Int) + 2 - intOf dv).toNat)
  case atStart => exact ⟨0, 0, -v, by go_num, rfl, by omega, rfl, by omega, by omega, hide' (by rw [Nat.zero_mul, S0.out])⟩
  case round =>
    obtain ⟨i, q, u, rfl, rfl, hi, rfl, ub1, ub2, HU⟩ := hrel
    by_cases d : (H : Int) - 1 + (i : Int) ≤ (H : Int) + 1
    · go_wp2
      go_loopw [7, 9] (fun cv rv wr => ∃ (j q : Nat) (u : Int), rv = .int .i64 ((W : Int) - 1 + (j : Int)) ∧ cv = .int .i64 u ∧ j ≤ 3 ∧ wr = w1.drewN q ∧ -1 ≤ u ∧ u ≤ 9 ∧ Hid (u = torS W H xs x y (i * 3 + j))) (fun _ rv _ => ((W : Int) + 2 - intOf rv).toNat)
      case atStart => exact ⟨0, q, u, by go_num, rfl, by omega, rfl, ub1, ub2, HU⟩
      case round =>
        obtain ⟨j, q, u, rfl, rfl, hj, rfl, vb1, vb2, HV⟩ := hrel
        by_cases dj : (W : Int) - 1 + (j : Int) ≤ (W : Int) + 1
        · obtain ⟨r, hr⟩ : ∃ r, (y + (H - 1 + i)) % H = r := ⟨_, rfl⟩
          obtain ⟨s, hs⟩ : ∃ s, (x + (W - 1 + j)) % W = s := ⟨_, rfl⟩
          have rl : r < H := by rw [← hr]; exact Nat.mod_lt _ (by omega)
          have sl : s < W := by rw [← hs]; exact Nat.mod_lt _ (by omega)
          have e1 : ((y : Int) + ((H : Int) - 1 + (i : Int))).tmod (H : Int) = (r : Int) := by
            rw [show (y : Int) + ((H : Int) - 1 + (i : Int)) = ((y + (H - 1 + i) : Nat) : Int) by push_cast; omega, Int.tmod_eq_emod_of_nonneg (by omega), ← hr, Int.natCast_emod]
          have e2 : ((x : Int) + ((W : Int) - 1 + (j : Int))).tmod (W : Int) = (s : Int) := by
            rw [show (x : Int) + ((W : Int) - 1 + (j : Int)) = ((x + (W - 1 + j) : Nat) : Int) by push_cast; omega, Int.tmod_eq_emod_of_nonneg (by omega), ← hs, Int.natCast_emod]
          obtain ⟨b, hb⟩ : ∃ b : Nat, (r : Int) * (W : Int) = (b : Int) := ⟨r * W, by simp⟩
          have il := torI (W := W) (H := H) (x := x) (y := y) (i := i) (j := j) (by omega) (by omega)
          rw [hr, hs] at il
          obtain ⟨t, ht⟩ : ∃ t, r * W + s = t := ⟨_, rfl⟩
          have bs : (b : Int) + (s : Int) = (t : Int) := by
            have : ((r * W : Nat) : Int) = (b : Int) := by rw [← hb]; simp
            omega
          rw [ht] at il
          have bl : t < n := by rw [NL.out]; exact il
          obtain ⟨g3, o3, e3, hc⟩ := AP.out.atP (k := t) bl
          injection e3 with e3
          injection e3 with e31 e32 e33
          subst e31
          subst e32
          obtain ⟨z, hz⟩ : ∃ z, xs.getD t 0 = z := ⟨_, rfl⟩
          have zb := HX.out t
          rw [hz] at hc zb
          have NS := hide' (show u + z = torS W H xs x y (i * 3 + (j + 1)) by rw [torS_next _ _ _ _ _ _ _ (by omega), ← HV.out, torC, hr, hs, ht, hz])
          have nb := BD.out (i * 3 + (j + 1))
          rw [← NS.out] at nb
          have nb2 : u + z ≤ 9 := by have := nb.2; push_cast at this; omega
          have b4 : b ≤ 10000 := by omega
          clear hr hs hz ht il
          go_wp2
          go_quiet (fail)
          go_wp2
          exact ⟨⟨j + 1, q + nq, u + z, by go_num, rfl, by omega, rfl, nb.1, nb2, NS⟩, by simp [intOf]; omega⟩
        · have j3 : j = 3 := by omega
          have NU := hide' (show u = torS W H xs x y ((i + 1) * 3) by rw [HV.out, j3]; congr 1; omega)
          clear j3
          go_wp2
          exact ⟨⟨i + 1, q, u, by go_num, rfl, by omega, rfl, vb1, vb2, NU⟩, by simp [intOf]; omega⟩
    · have i3 : i = 3 := by omega
      have FU : u = res := by rw [HU.out, i3]; exact RES.out
      clear i3
      subst FU
      go_wp2
      go_ret
      exact ⟨rfl, below_drewN BB.out _⟩
end Go.Proofs.YtlpdobfjgpedaaaDoor

