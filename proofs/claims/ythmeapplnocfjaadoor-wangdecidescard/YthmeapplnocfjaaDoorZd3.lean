/-
  What the last text of this claim leans on, part 3: Wq3.
-/
import Derived.Test.YthmeapplnocfjaaDoorZd2
import Derived.Deep.DeepCutAuto
namespace Go.Proofs.YthmeapplnocfjaaDoor
open Go.RowKit
set_option linter.unusedVariables false
set_option linter.unusedSimpArgs false
/-- Numbers as they are read. -/
def CelW (V : World) (a : Option Addr) (m : Nat) (c : Nat → Nat) : Prop := ∃ g off, a = some ⟨g, off, none⟩ ∧ g < V.heap.size ∧ ∀ i, i < m → V.cell? ⟨g, off + i, none⟩ = some (.int .i64 ((c i : Nat) : Int))
theorem CelW.below {w V : World} {a : Option Addr} {m : Nat} {c : Nat → Nat} (h : CelW w a m c) (b : Below w.heap.size w V) : CelW V a m c := by
  obtain ⟨g, off, e, hg, hc⟩ := h
  exact ⟨g, off, e, Nat.lt_of_lt_of_le hg b.size, fun i hi => (b.cell hg).trans (hc i hi)⟩
/-- A place fits to those ahead of it, and to those with which it closes a ring. -/
def okW (xs : List TlT) (W H : Nat) (ring : Bool) (k : Nat) (c : Nat → Nat) : Prop :=
  (0 < k % W → (xs.getD (c (k - 1)) tlz).r = (xs.getD (c k) tlz).l) ∧ (0 < k / W → (xs.getD (c (k - W)) tlz).d = (xs.getD (c k) tlz).u) ∧
  (ring = true → k % W + 1 = W → (xs.getD (c k) tlz).r = (xs.getD (c (k - k % W)) tlz).l) ∧ (ring = true → k / W + 1 = H → (xs.getD (c k) tlz).d = (xs.getD (c (k % W)) tlz).u)
theorem okW_loc (xs : List TlT) (W H : Nat) (ring : Bool) : LocW (okW xs W H ring) := fun k c d e h => by
  have m := Nat.mod_le k W
  unfold okW at h ⊢
  rw [← e k (Nat.le_refl _), ← e (k - 1) (by omega), ← e (k - W) (by omega), ← e (k - k % W) (by omega), ← e (k % W) m]
  exact h
/-- An answer that says whether. -/
def BoW (p : Prop) (e : Ending) : Prop := ∃ z : Bool, e = .returned (.bool z) ∧ (z = true ↔ p)
theorem ArgT.at4 {w : World} {xs : List TlT} {g off n c z : Nat} (h : ArgT w xs (some ⟨g, off, none⟩) n c) (hz : z < xs.length) : g < w.heap.size ∧ w.cell? ⟨g, off + z * 4, none⟩ = some (.int .i64 (xs.getD z tlz).u) ∧ w.cell? ⟨g, off + z * 4 + 1, none⟩ = some (.int .i64 (xs.getD z tlz).r) ∧ w.cell? ⟨g, off + z * 4 + 2, none⟩ = some (.int .i64 (xs.getD z tlz).d) ∧ w.cell? ⟨g, off + z * 4 + 3, none⟩ = some (.int .i64 (xs.getD z tlz).l) := by
  obtain ⟨g', off', e, hg, h0, h1, h2, h3⟩ := h.cells z hz
  cases e
  exact ⟨hg, h0, h1, h2, h3⟩
/-- What lies there while it is looked: the tile itself. -/
def FtS (w wx : World) (t : TlT) : Prop := Below w.heap.size w wx ∧ wx.heap[w.heap.size]? = some (.cells #[.int .i64 t.u, .int .i64 t.r, .int .i64 t.d, .int .i64 t.l] 47 (0, 0))
theorem FtS.keep {w wx V : World} {t : TlT} (h : FtS w wx t) (b : Below wx.heap.size wx V) : FtS w V t := ⟨h.1.trans (b.mono h.1.size), (b.block _ (lt_blockT h.2)).trans h.2⟩
theorem FtS.at4 {w wx : World} {t : TlT} (h : FtS w wx t) : wx.cell? ⟨w.heap.size, 0, none⟩ = some (.int .i64 t.u) ∧ wx.cell? ⟨w.heap.size, 1, none⟩ = some (.int .i64 t.r) ∧ wx.cell? ⟨w.heap.size, 2, none⟩ = some (.int .i64 t.d) ∧ wx.cell? ⟨w.heap.size, 3, none⟩ = some (.int .i64 t.l) :=
  ⟨by rw [cell_of_row wx _ _ _ _ _ h.2]; rfl, by rw [cell_of_row wx _ _ _ _ _ h.2]; rfl, by rw [cell_of_row wx _ _ _ _ _ h.2]; rfl, by rw [cell_of_row wx _ _ _ _ _ h.2]; rfl⟩
set_option maxRecDepth 100000 in
set_option maxHeartbeats 51200000 in
theorem refFits1_any (xs : List TlT) (ta : Option Addr) (n tc W H : Nat) (a : Option Addr) (m cc k : Nat) (ring : Bool) (c : Nat → Nat) (w : World) (hA : ArgT w xs ta n tc) (hC : CelW w a m c) (hk : k < m) (hm : m ≤ 25) (hn : n ≤ 16) (hW1 : 1 ≤ W) (hW : W ≤ 5) (hH1 : 1 ≤ H) (hH : H ≤ 5) (hc : ∀ i, i ≤ k → c i < n) :
    Calls Tryd.prog 22 #[.slice ta n tc, .int .i64 (W : Int), .int .i64 (H : Int), .slice a m cc, .int .i64 (k : Int), .bool ring] w fun e w' => BoW (okW xs W H ring k c) e ∧ Below w.heap.size w w' := by
  have KL := hA.len
  obtain ⟨tg, toff, rfl, tgl, -⟩ := hA.cells (c k) (by rw [← KL]; exact hc k (Nat.le_refl _))
  obtain ⟨cg, coff, rfl, cgl, hcc⟩ := hC
  -- a place's tile, in whatever world
  have TT := hide' (fun (i : Nat) (hi : i ≤ k) (V : World) (h : Below w.heap.size w V) => (hA.below h).at4 (z := c i) (by rw [← KL]; exact hc i hi))
  have CC := hide' (fun (i : Nat) (hi : i ≤ k) (V : World) (h : Below w.heap.size w V) => show V.cell? ⟨cg, coff + i, none⟩ = some (.int .i64 ((c i : Nat) : Int)) from (h.cell cgl).trans (hcc i (by omega)))
  have LL := hide' hc
  have OK := hide' (show okW xs W H ring k c ↔ ((0 < k % W → (xs.getD (c (k - 1)) tlz).r = (xs.getD (c k) tlz).l) ∧ (0 < k / W → (xs.getD (c (k - W)) tlz).d = (xs.getD (c k) tlz).u) ∧ (ring = true → k % W + 1 = W → (xs.getD (c k) tlz).r = (xs.getD (c (k - k % W)) tlz).l) ∧ (ring = true → k / W + 1 = H → (xs.getD (c k) tlz).d = (xs.getD (c (k % W)) tlz).u)) from Iff.rfl)
  have ml := Nat.mod_le k W
  have dm := Nat.div_add_mod k W
  obtain ⟨x, hx⟩ : ∃ x, k % W = x := ⟨_, rfl⟩
  obtain ⟨y, hy⟩ : ∃ y, k / W = y := ⟨_, rfl⟩
  have xW : x < W := by rw [← hx]; exact Nat.mod_lt _ (by omega)
  have KW := hide' (show 0 < y → W ≤ k from fun h => by rw [hx, hy] at dm; have : W * 1 ≤ W * y := Nat.mul_le_mul_left _ h; omega)
  have rx : ((k : Nat) : Int).tmod (W : Int) = (x : Int) := by rw [← hx]; exact (Int.ofNat_tmod k W).symm
  have qy : ((k : Nat) : Int).tdiv (W : Int) = (y : Int) := by rw [← hy]; exact (Int.ofNat_tdiv k W).symm
  have yk : y ≤ k := by rw [← hy]; exact Nat.div_le_self _ _
  rw [hx, hy] at OK
  rw [hx] at ml
  obtain ⟨p, hp⟩ : ∃ p : Prop, okW xs W H ring k c = p := ⟨_, rfl⟩
  rw [hp] at OK ⊢
  clear hcc hc hA hx hy dm KL hp
  have W0 : ((W : Int) == 0) = false := by simp; omega
  have k0 : (0 : Int) ≤ (k : Int) := by omega
  have km : (k : Int) < (m : Int) := by omega
  have C0 := CC.out k (Nat.le_refl _) w (Below.refl _ _)
  obtain ⟨-, a0, a1, a2, a3⟩ := TT.out k (Nat.le_refl _) w (Below.refl _ _)
  have z0n := LL.out k (Nat.le_refl _)
  obtain ⟨t0, h0⟩ : ∃ t, xs.getD (c k) tlz = t := ⟨_, rfl⟩
  rw [h0] at a0 a1 a2 a3 OK
  obtain ⟨z0, e0⟩ : ∃ z, c k = z := ⟨_, rfl⟩
  rw [e0] at C0 a0 a1 a2 a3 z0n
  clear h0 e0
  have z00 : (0 : Int) ≤ (z0 : Int) := by omega
  have z0i : (z0 : Int) < (n : Int) := by omega
  obtain ⟨w1, hw1⟩ : ∃ w1, w.alloc (.cells #[.int .i64 t0.u, .int .i64 t0.r, .int .i64 t0.d, .int .i64 t0.l] 47) = w1 := ⟨_, rfl⟩
  have F0 := hide' (show FtS w w1 t0 by rw [← hw1]; exact ⟨(Below.refl _ _).alloc (Nat.le_refl _) _, heap_alloc_new _ _⟩)
  go_enter Tryd.func22, Tryd.ntmps22
  go_upto_if 34 with fail
  try rw [hw1]
  clear hw1 C0 a0 a1 a2 a3 z0n z0i z00 W0 rx qy
  go_cut [] (fun wx => Hid ((0 < x → (xs.getD (c (k - 1)) tlz).r = t0.l) ∧ FtS w wx t0))
  case first =>
    by_cases x0 : (0 : Int) < (x : Int)
    · have cc := CC.out (k - 1) (by omega) _ F0.out.1
      obtain ⟨-, b0, b1, b2, b3⟩ := TT.out (k - 1) (by omega) _ F0.out.1
      have zn := LL.out (k - 1) (by omega)
      obtain ⟨t1, h1⟩ : ∃ t, xs.getD (c (k - 1)) tlz = t := ⟨_, rfl⟩
      rw [h1] at b0 b1 b2 b3 OK
      obtain ⟨z1, e1⟩ : ∃ z, c (k - 1) = z := ⟨_, rfl⟩
      rw [e1] at cc b0 b1 b2 b3 zn
      have z10 : (0 : Int) ≤ (z1 : Int) := by omega
      have z1n : (z1 : Int) < (n : Int) := by omega
      have HL1 := hide' h1
      have gl := lt_blockT F0.out.2
      have tgw := Nat.lt_of_lt_of_le tgl F0.out.1.size
      have q1 : ¬ tg = w1.heap.size := by omega
      have q2 : ¬ cg = w1.heap.size := by have := Nat.lt_of_lt_of_le cgl F0.out.1.size; omega
      have q3 : ¬ w.heap.size = w1.heap.size := by omega
      have q4 : ¬ w1.heap.size = w.heap.size := by omega
      clear h1 e1 gl tgw zn
      obtain ⟨k1, ek⟩ : ∃ v, k - 1 = v := ⟨_, rfl⟩
      rw [ek] at cc
      have i1 : (k : Int) - 1 = (k1 : Int) := by omega
      have i10 : (0 : Int) ≤ (k1 : Int) := by omega
      have i1m : (k1 : Int) < (m : Int) := by omega
      clear ek
      have XC := hide' x0
      obtain ⟨V, hV⟩ : ∃ V, w1.alloc (.cells #[.int .i64 t1.u, .int .i64 t1.r, .int .i64 t1.d, .int .i64 t1.l] 47) = V := ⟨_, rfl⟩
      have FV := hide' (F0.out.keep (V := V) (by rw [← hV]; exact (Below.refl _ _).alloc (Nat.le_refl _) _))
      obtain ⟨s0, s1, s2, s3⟩ := FV.out.at4
      have GV : V.heap[w1.heap.size]? = some (.cells #[.int .i64 t1.u, .int .i64 t1.r, .int .i64 t1.d, .int .i64 t1.l] 47 (0, 0)) := by rw [← hV]; exact heap_alloc_new _ _
      have y0 : V.cell? ⟨w1.heap.size, 0, none⟩ = some (.int .i64 t1.u) := by rw [cell_of_row V _ _ _ _ _ GV]; rfl
      have y1 : V.cell? ⟨w1.heap.size, 1, none⟩ = some (.int .i64 t1.r) := by rw [cell_of_row V _ _ _ _ _ GV]; rfl
      have y2 : V.cell? ⟨w1.heap.size, 2, none⟩ = some (.int .i64 t1.d) := by rw [cell_of_row V _ _ _ _ _ GV]; rfl
      have y3 : V.cell? ⟨w1.heap.size, 3, none⟩ = some (.int .i64 t1.l) := by rw [cell_of_row V _ _ _ _ _ GV]; rfl
      clear GV
      by_cases v1 : t1.r = t0.l
      · have vb : (t1.r == t0.l) = true := by simp [v1]
        have vn : (t1.r != t0.l) = false := by simp [v1]
        have VH := hide' v1
        clear v1
        go_wp2_with fail
        go_meet
        exact hide' ⟨fun _ => by rw [HL1.out]; exact VH.out, by first | (rw [hV]; exact FV.out) | exact FV.out⟩
      · have vb : (t1.r == t0.l) = false := by simp [v1]
        have vn : (t1.r != t0.l) = true := by simp [v1]
        have VH := hide' v1
        clear v1
        go_wp2
        go_ret
        exact ⟨⟨false, rfl, ⟨fun h => (by cases h), fun h => absurd ((OK.out.1 h).1 (by have := XC.out; omega)) VH.out⟩⟩, by first | (rw [hV]; exact FV.out.1) | exact FV.out.1⟩
    · go_wp2_with fail
      go_meet
      exact hide' ⟨fun h => absurd h (by omega), F0.out⟩
  case rest =>
  have P1 := hide' hcut.out.1
  have F1 := hide' hcut.out.2
  clear hcut F0
  obtain ⟨w2, rfl⟩ : ∃ v, v = wc := ⟨_, rfl⟩
  go_upto_if 49 with fail
  go_cut [] (fun wx => Hid ((0 < y → (xs.getD (c (k - W)) tlz).d = t0.u) ∧ FtS w wx t0))
  case first =>
    by_cases x0 : (0 : Int) < (y : Int)
    · have kw := KW.out (by omega)
      have cc := CC.out (k - W) (by omega) _ F1.out.1
      obtain ⟨-, b0, b1, b2, b3⟩ := TT.out (k - W) (by omega) _ F1.out.1
      have zn := LL.out (k - W) (by omega)
      obtain ⟨t1, h1⟩ : ∃ t, xs.getD (c (k - W)) tlz = t := ⟨_, rfl⟩
      rw [h1] at b0 b1 b2 b3 OK
      obtain ⟨z1, e1⟩ : ∃ z, c (k - W) = z := ⟨_, rfl⟩
      rw [e1] at cc b0 b1 b2 b3 zn
      have z10 : (0 : Int) ≤ (z1 : Int) := by omega
      have z1n : (z1 : Int) < (n : Int) := by omega
      have HL1 := hide' h1
      have gl := lt_blockT F1.out.2
      have tgw := Nat.lt_of_lt_of_le tgl F1.out.1.size
      have q1 : ¬ tg = w2.heap.size := by omega
      have q2 : ¬ cg = w2.heap.size := by have := Nat.lt_of_lt_of_le cgl F1.out.1.size; omega
      have q3 : ¬ w.heap.size = w2.heap.size := by omega
      have q4 : ¬ w2.heap.size = w.heap.size := by omega
      clear h1 e1 gl tgw zn
      obtain ⟨k1, ek⟩ : ∃ v, k - W = v := ⟨_, rfl⟩
      rw [ek] at cc
      have i1 : (k : Int) - (W : Int) = (k1 : Int) := by omega
      have i10 : (0 : Int) ≤ (k1 : Int) := by omega
      have i1m : (k1 : Int) < (m : Int) := by omega
      clear ek
      have XC := hide' x0
      obtain ⟨V, hV⟩ : ∃ V, w2.alloc (.cells #[.int .i64 t1.u, .int .i64 t1.r, .int .i64 t1.d, .int .i64 t1.l] 47) = V := ⟨_, rfl⟩
      have FV := hide' (F1.out.keep (V := V) (by rw [← hV]; exact (Below.refl _ _).alloc (Nat.le_refl _) _))
      obtain ⟨s0, s1, s2, s3⟩ := FV.out.at4
      have GV : V.heap[w2.heap.size]? = some (.cells #[.int .i64 t1.u, .int .i64 t1.r, .int .i64 t1.d, .int .i64 t1.l] 47 (0, 0)) := by rw [← hV]; exact heap_alloc_new _ _
      have y0 : V.cell? ⟨w2.heap.size, 0, none⟩ = some (.int .i64 t1.u) := by rw [cell_of_row V _ _ _ _ _ GV]; rfl
      have y1 : V.cell? ⟨w2.heap.size, 1, none⟩ = some (.int .i64 t1.r) := by rw [cell_of_row V _ _ _ _ _ GV]; rfl
      have y2 : V.cell? ⟨w2.heap.size, 2, none⟩ = some (.int .i64 t1.d) := by rw [cell_of_row V _ _ _ _ _ GV]; rfl
      have y3 : V.cell? ⟨w2.heap.size, 3, none⟩ = some (.int .i64 t1.l) := by rw [cell_of_row V _ _ _ _ _ GV]; rfl
      clear GV
      by_cases v1 : t1.d = t0.u
      · have vb : (t1.d == t0.u) = true := by simp [v1]
        have vn : (t1.d != t0.u) = false := by simp [v1]
        have VH := hide' v1
        clear v1
        go_wp2_with fail
        go_meet
        exact hide' ⟨fun _ => by rw [HL1.out]; exact VH.out, by first | (rw [hV]; exact FV.out) | exact FV.out⟩
      · have vb : (t1.d == t0.u) = false := by simp [v1]
        have vn : (t1.d != t0.u) = true := by simp [v1]
        have VH := hide' v1
        clear v1
        go_wp2
        go_ret
        exact ⟨⟨false, rfl, ⟨fun h => (by cases h), fun h => absurd ((OK.out.1 h).2.1 (by have := XC.out; omega)) VH.out⟩⟩, by first | (rw [hV]; exact FV.out.1) | exact FV.out.1⟩
    · go_wp2_with fail
      go_meet
      exact hide' ⟨fun h => absurd h (by omega), F1.out⟩
  case rest =>
  have P2 := hide' hcut.out.1
  have F2 := hide' hcut.out.2
  clear hcut F1
  obtain ⟨w3, rfl⟩ : ∃ v, v = wc := ⟨_, rfl⟩
  obtain ⟨W', eW⟩ : ∃ v, W - 1 = v := ⟨_, rfl⟩
  have EW : (W : Int) - 1 = (W' : Int) := by omega
  go_upto_region 12 with fail
  go_cut [70] (fun s wx => s = .bool (decide (ring = true ∧ x + 1 = W)) ∧ Hid (FtS w wx t0))
  case first =>
    cases ring with
    | false =>
      go_wp2_with fail
      go_meet
      exact ⟨by simp, F2⟩
    | true =>
      by_cases xb : (x : Int) = (W' : Int)
      · have db : decide (true = true ∧ x + 1 = W) = true := decide_eq_true ⟨rfl, by omega⟩
        have xe : ((x : Int) == (W' : Int)) = true := by simp; omega
        clear xb
        go_wp2_with fail
        go_meet
        exact ⟨by rw [db], F2⟩
      · have db : decide (true = true ∧ x + 1 = W) = false := decide_eq_false (by omega)
        have xe : ((x : Int) == (W' : Int)) = false := by simp; omega
        clear xb
        go_wp2_with fail
        go_meet
        exact ⟨by rw [db], F2⟩
  case rest =>
  obtain ⟨hs, F30⟩ := hcut
  subst hs
  clear F2 EW
  obtain ⟨w30, rfl⟩ : ∃ v, v = wc := ⟨_, rfl⟩
  go_upto_if 70 with fail
  go_cut [] (fun wx => Hid ((ring = true → x + 1 = W → t0.r = (xs.getD (c (k - x)) tlz).l) ∧ FtS w wx t0))
  case first =>
    by_cases x0 : ring = true ∧ x + 1 = W
    · have db : decide (ring = true ∧ x + 1 = W) = true := decide_eq_true x0
      rw [db]
      have cc := CC.out (k - x) (by omega) _ F30.out.1
      obtain ⟨-, b0, b1, b2, b3⟩ := TT.out (k - x) (by omega) _ F30.out.1
      have zn := LL.out (k - x) (by omega)
      obtain ⟨t1, h1⟩ : ∃ t, xs.getD (c (k - x)) tlz = t := ⟨_, rfl⟩
      rw [h1] at b0 b1 b2 b3 OK
      obtain ⟨z1, e1⟩ : ∃ z, c (k - x) = z := ⟨_, rfl⟩
      rw [e1] at cc b0 b1 b2 b3 zn
      have z10 : (0 : Int) ≤ (z1 : Int) := by omega
      have z1n : (z1 : Int) < (n : Int) := by omega
      have HL1 := hide' h1
      have gl := lt_blockT F30.out.2
      have tgw := Nat.lt_of_lt_of_le tgl F30.out.1.size
      have q1 : ¬ tg = w30.heap.size := by omega
      have q2 : ¬ cg = w30.heap.size := by have := Nat.lt_of_lt_of_le cgl F30.out.1.size; omega
      have q3 : ¬ w.heap.size = w30.heap.size := by omega
      have q4 : ¬ w30.heap.size = w.heap.size := by omega
      clear h1 e1 gl tgw zn
      obtain ⟨k1, ek⟩ : ∃ v, k - x = v := ⟨_, rfl⟩
      rw [ek] at cc
      have i1 : (k : Int) - (x : Int) = (k1 : Int) := by omega
      have i10 : (0 : Int) ≤ (k1 : Int) := by omega
      have i1m : (k1 : Int) < (m : Int) := by omega
      clear ek
      have XC := hide' x0
      obtain ⟨V, hV⟩ : ∃ V, w30.alloc (.cells #[.int .i64 t1.u, .int .i64 t1.r, .int .i64 t1.d, .int .i64 t1.l] 47) = V := ⟨_, rfl⟩
      have FV := hide' (F30.out.keep (V := V) (by rw [← hV]; exact (Below.refl _ _).alloc (Nat.le_refl _) _))
      obtain ⟨s0, s1, s2, s3⟩ := FV.out.at4
      have GV : V.heap[w30.heap.size]? = some (.cells #[.int .i64 t1.u, .int .i64 t1.r, .int .i64 t1.d, .int .i64 t1.l] 47 (0, 0)) := by rw [← hV]; exact heap_alloc_new _ _
      have y0 : V.cell? ⟨w30.heap.size, 0, none⟩ = some (.int .i64 t1.u) := by rw [cell_of_row V _ _ _ _ _ GV]; rfl
      have y1 : V.cell? ⟨w30.heap.size, 1, none⟩ = some (.int .i64 t1.r) := by rw [cell_of_row V _ _ _ _ _ GV]; rfl
      have y2 : V.cell? ⟨w30.heap.size, 2, none⟩ = some (.int .i64 t1.d) := by rw [cell_of_row V _ _ _ _ _ GV]; rfl
      have y3 : V.cell? ⟨w30.heap.size, 3, none⟩ = some (.int .i64 t1.l) := by rw [cell_of_row V _ _ _ _ _ GV]; rfl
      clear GV
      by_cases v1 : t0.r = t1.l
      · have vb : (t0.r == t1.l) = true := by simp [v1]
        have vn : (t0.r != t1.l) = false := by simp [v1]
        have VH := hide' v1
        clear v1
        go_wp2_with fail
        go_meet
        exact hide' ⟨fun _ _ => by rw [HL1.out]; exact VH.out, by first | (rw [hV]; exact FV.out) | exact FV.out⟩
      · have vb : (t0.r == t1.l) = false := by simp [v1]
        have vn : (t0.r != t1.l) = true := by simp [v1]
        have VH := hide' v1
        clear v1
        go_wp2
        go_ret
        exact ⟨⟨false, rfl, ⟨fun h => (by cases h), fun h => absurd ((OK.out.1 h).2.2.1 XC.out.1 XC.out.2) VH.out⟩⟩, by first | (rw [hV]; exact FV.out.1) | exact FV.out.1⟩
    · have db : decide (ring = true ∧ x + 1 = W) = false := decide_eq_false x0
      rw [db]
      go_wp2_with fail
      go_meet
      exact hide' ⟨fun h h2 => absurd ⟨h, h2⟩ x0, F30.out⟩
  case rest =>
  have P3 := hide' hcut.out.1
  have F3 := hide' hcut.out.2
  clear hcut F30
  obtain ⟨w4, rfl⟩ : ∃ v, v = wc := ⟨_, rfl⟩
  obtain ⟨H', eH⟩ : ∃ v, H - 1 = v := ⟨_, rfl⟩
  have EH : (H : Int) - 1 = (H' : Int) := by omega
  go_upto_region 16 with fail
  go_cut [91] (fun s wx => s = .bool (decide (ring = true ∧ y + 1 = H)) ∧ Hid (FtS w wx t0))
  case first =>
    cases ring with
    | false =>
      go_wp2_with fail
      go_meet
      exact ⟨by simp, F3⟩
    | true =>
      by_cases xb : (y : Int) = (H' : Int)
      · have db : decide (true = true ∧ y + 1 = H) = true := decide_eq_true ⟨rfl, by omega⟩
        have xe : ((y : Int) == (H' : Int)) = true := by simp; omega
        clear xb
        go_wp2_with fail
        go_meet
        exact ⟨by rw [db], F3⟩
      · have db : decide (true = true ∧ y + 1 = H) = false := decide_eq_false (by omega)
        have xe : ((y : Int) == (H' : Int)) = false := by simp; omega
        clear xb
        go_wp2_with fail
        go_meet
        exact ⟨by rw [db], F3⟩
  case rest =>
  obtain ⟨hs, F40⟩ := hcut
  subst hs
  clear F3 EH
  obtain ⟨w40, rfl⟩ : ∃ v, v = wc := ⟨_, rfl⟩
  go_upto_if 91 with fail
  go_cut [] (fun wx => Hid ((ring = true → y + 1 = H → t0.d = (xs.getD (c x) tlz).u) ∧ FtS w wx t0))
  case first =>
    by_cases x0 : ring = true ∧ y + 1 = H
    · have db : decide (ring = true ∧ y + 1 = H) = true := decide_eq_true x0
      rw [db]
      have cc := CC.out (x) (by omega) _ F40.out.1
      obtain ⟨-, b0, b1, b2, b3⟩ := TT.out (x) (by omega) _ F40.out.1
      have zn := LL.out (x) (by omega)
      obtain ⟨t1, h1⟩ : ∃ t, xs.getD (c (x)) tlz = t := ⟨_, rfl⟩
      rw [h1] at b0 b1 b2 b3 OK
      obtain ⟨z1, e1⟩ : ∃ z, c (x) = z := ⟨_, rfl⟩
      rw [e1] at cc b0 b1 b2 b3 zn
      have z10 : (0 : Int) ≤ (z1 : Int) := by omega
      have z1n : (z1 : Int) < (n : Int) := by omega
      have HL1 := hide' h1
      have gl := lt_blockT F40.out.2
      have tgw := Nat.lt_of_lt_of_le tgl F40.out.1.size
      have q1 : ¬ tg = w40.heap.size := by omega
      have q2 : ¬ cg = w40.heap.size := by have := Nat.lt_of_lt_of_le cgl F40.out.1.size; omega
      have q3 : ¬ w.heap.size = w40.heap.size := by omega
      have q4 : ¬ w40.heap.size = w.heap.size := by omega
      clear h1 e1 gl tgw zn
      have i10 : (0 : Int) ≤ (x : Int) := by omega
      have i1m : (x : Int) < (m : Int) := by omega
      have XC := hide' x0
      obtain ⟨V, hV⟩ : ∃ V, w40.alloc (.cells #[.int .i64 t1.u, .int .i64 t1.r, .int .i64 t1.d, .int .i64 t1.l] 47) = V := ⟨_, rfl⟩
      have FV := hide' (F40.out.keep (V := V) (by rw [← hV]; exact (Below.refl _ _).alloc (Nat.le_refl _) _))
      obtain ⟨s0, s1, s2, s3⟩ := FV.out.at4
      have GV : V.heap[w40.heap.size]? = some (.cells #[.int .i64 t1.u, .int .i64 t1.r, .int .i64 t1.d, .int .i64 t1.l] 47 (0, 0)) := by rw [← hV]; exact heap_alloc_new _ _
      have y0 : V.cell? ⟨w40.heap.size, 0, none⟩ = some (.int .i64 t1.u) := by rw [cell_of_row V _ _ _ _ _ GV]; rfl
      have y1 : V.cell? ⟨w40.heap.size, 1, none⟩ = some (.int .i64 t1.r) := by rw [cell_of_row V _ _ _ _ _ GV]; rfl
      have y2 : V.cell? ⟨w40.heap.size, 2, none⟩ = some (.int .i64 t1.d) := by rw [cell_of_row V _ _ _ _ _ GV]; rfl
      have y3 : V.cell? ⟨w40.heap.size, 3, none⟩ = some (.int .i64 t1.l) := by rw [cell_of_row V _ _ _ _ _ GV]; rfl
      clear GV
      by_cases v1 : t0.d = t1.u
      · have vb : (t0.d == t1.u) = true := by simp [v1]
        have vn : (t0.d != t1.u) = false := by simp [v1]
        have VH := hide' v1
        clear v1
        go_wp2_with fail
        go_meet
        exact hide' ⟨fun _ _ => by rw [HL1.out]; exact VH.out, by first | (rw [hV]; exact FV.out) | exact FV.out⟩
      · have vb : (t0.d == t1.u) = false := by simp [v1]
        have vn : (t0.d != t1.u) = true := by simp [v1]
        have VH := hide' v1
        clear v1
        go_wp2
        go_ret
        exact ⟨⟨false, rfl, ⟨fun h => (by cases h), fun h => absurd ((OK.out.1 h).2.2.2 XC.out.1 XC.out.2) VH.out⟩⟩, by first | (rw [hV]; exact FV.out.1) | exact FV.out.1⟩
    · have db : decide (ring = true ∧ y + 1 = H) = false := decide_eq_false x0
      rw [db]
      go_wp2_with fail
      go_meet
      exact hide' ⟨fun h h2 => absurd ⟨h, h2⟩ x0, F40.out⟩
  case rest =>
  have P4 := hide' hcut.out.1
  have F4 := hide' hcut.out.2
  clear hcut F40
  obtain ⟨w5, rfl⟩ : ∃ v, v = wc := ⟨_, rfl⟩
  go_wp2
  go_ret
  exact ⟨⟨true, rfl, ⟨fun _ => OK.out.2 ⟨P1.out, P2.out, P3.out, P4.out⟩, fun _ => rfl⟩⟩, F4.out.1⟩
end Go.Proofs.YthmeapplnocfjaaDoor

