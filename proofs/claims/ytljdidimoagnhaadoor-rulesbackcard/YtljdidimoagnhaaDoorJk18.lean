/-
  What the last text of this claim leans on, part 18: Pa8, Jumps, Pa9, Pa10.
-/
import Derived.Test.YtljdidimoagnhaaDoorJk17
import Derived.Scope
import Derived.WalkMore
namespace Go.Proofs.YtljdidimoagnhaaDoor
open Go.RowKit
set_option linter.unusedVariables false

theorem prows (b : Nat) (s : ByteArray) (r : Rv) (w : World) (j y n H : Nat) (h : RAt b s r w) (hi : r.i < s.size) (hs : s.size ≤ 40000) (hj : r.bg = (j : Int)) (hy : r.dn = (y : Int)) (hn : r.tm = (n : Int)) (hH : r.hi = (H : Int)) (ly : y ≤ 100) (ln : n < 1000000) :
    Calls Tryd.prog 109 #[.pointer (some ⟨b, 0, none⟩)] w fun e w' => (H ≤ y + n ∧ e = .returned (.bool false) ∧ RAt b s { r with i := j, fl := 1 } w' ∧ Rd b w w') ∨ (¬ H ≤ y + n ∧ e = .returned (.bool true) ∧ RAt b s { r with i := r.i + 1, rt := 0, dn := ((y + n : Nat) : Int) } w' ∧ Rd b w w') := by
  have A := hide' h
  obtain ⟨c0, c1, c2, c3, c4, c5, c6, c7, c8, c9, f1, f2, f3, f4, f5, f6, f7, f8, f9⟩ := h.ten
  rw [hH] at c4
  rw [hy] at c7
  rw [hj] at c8
  rw [hn] at c9
  clear h hj hy hn hH
  by_cases q : H ≤ y + n
  · have n1 : (H : Int) ≤ (y : Int) + (n : Int) := by omega
    go_enter Tryd.func109, Tryd.ntmps109
    go_wp2
    go_quiet (fail)
    go_wp2_with fail
    refine (pfail b s _ j _ _ _ rfl (A.out.drewN _)).mono ?_
    rintro e w1 ⟨rfl, a1, r1⟩
    have A1 := hide' a1
    have R1 := hide' r1
    clear a1 r1
    go_wp2
    go_ret
    exact Or.inl ⟨q, rfl, A1.out, ((Rd.refl _ _).drewN _).trans R1.out⟩
  · have n1 : ¬ (H : Int) ≤ (y : Int) + (n : Int) := by omega
    go_enter Tryd.func109, Tryd.ntmps109
    go_wp2
    go_quiet (fail)
    go_wp2
    go_region
    go_wp2
    go_ret
    right
    refine ⟨q, rfl, ?_, (((((Rd.refl _ _).drewN _).set _ _).drewN _).set _ _).set _ _⟩
    rw [show (y : Int) + (n : Int) = ((y + n : Nat) : Int) by omega, show (r.i : Int) + 1 = ((r.i + 1 : Nat) : Int) by omega]
    exact ((((A.out.drewN _).set_rt 0).drewN _).set_dn ((y + n : Nat) : Int)).set_i (r.i + 1)

theorem pend (b : Nat) (s : ByteArray) (r : Rv) (w : World) (j : Nat) (h : RAt b s r w) (hi : r.i < s.size) (hs : s.size ≤ 40000) (hj : r.bg = (j : Int)) :
    Calls Tryd.prog 110 #[.pointer (some ⟨b, 0, none⟩)] w fun e w' => (r.i ≠ j ∧ e = .returned (.bool false) ∧ RAt b s { r with i := r.i, fl := 2 } w' ∧ Rd b w w') ∨ (r.i = j ∧ e = .returned (.bool true) ∧ RAt b s { r with i := r.i + 1 } w' ∧ Rd b w w') := by
  have A := hide' h
  obtain ⟨c0, c1, c2, c3, c4, c5, c6, c7, c8, c9, f1, f2, f3, f4, f5, f6, f7, f8, f9⟩ := h.ten
  rw [hj] at c8
  clear h hj
  by_cases q : r.i = j
  · have n1 : ((r.i : Int) == (j : Int)) = true := by simp; omega
    have n2 : ((r.i : Int) != (j : Int)) = false := by simp; omega
    have Q := hide' q
    clear q
    go_enter Tryd.func110, Tryd.ntmps110
    go_wp2
    go_quiet (fail)
    go_wp2
    go_ret
    right
    refine ⟨Q.out, rfl, ?_, ((Rd.refl _ _).drewN _).set _ _⟩
    rw [show (r.i : Int) + 1 = ((r.i + 1 : Nat) : Int) by omega]
    exact (A.out.drewN _).set_i (r.i + 1)
  · have n1 : ((r.i : Int) == (j : Int)) = false := by simp; omega
    have n2 : ((r.i : Int) != (j : Int)) = true := by simp; omega
    have Q := hide' q
    clear q
    go_enter Tryd.func110, Tryd.ntmps110
    go_wp2
    go_quiet (fail)
    go_wp2_with fail
    refine (pfail b s _ r.i _ _ _ rfl (A.out.drewN _)).mono ?_
    rintro e w1 ⟨rfl, a1, r1⟩
    have A1 := hide' a1
    have R1 := hide' r1
    clear a1 r1
    go_wp2
    go_ret
    exact Or.inl ⟨Q.out, rfl, A1.out, ((Rd.refl _ _).drewN _).trans R1.out⟩

set_option maxHeartbeats 1600000 in
theorem pcells (b g : Nat) (s : ByteArray) (r : Rv) (xs : List Int) (w : World) (B j x y n W H : Nat) (c : Int) (h : RAt b s r w) (hC : Cel w g xs) (hi : r.i < s.size) (hs : s.size ≤ 40000) (hj : r.bg = (j : Int)) (hx : r.rt = (x : Int)) (hy : r.dn = (y : Int)) (hn : r.tm = (n : Int)) (hW : r.wd = (W : Int)) (hH : r.hi = (H : Int))
    (hc : r.cs = .slice (some ⟨g, 0, none⟩) (W * H) (W * H)) (hl : xs.length = W * H) (hgb : g ≠ b) (hBb : B ≤ b) (hBg : B ≤ g) (lx : x ≤ W) (ly : y ≤ H) (lW : W ≤ 100) (lH : H ≤ 100) (ln : n < 1000000) :
    Calls Tryd.prog 108 #[.pointer (some ⟨b, 0, none⟩), .int .i64 c] w fun e w' => ((H ≤ y ∨ W < x + n) ∧ e = .returned (.bool false) ∧ RAt b s { r with i := j, fl := 1 } w' ∧ Rd b w w') ∨ (¬ (H ≤ y ∨ W < x + n) ∧ e = .returned (.bool true) ∧ RAt b s { r with i := r.i + 1, rt := ((x + n : Nat) : Int) } w' ∧ Cel w' g (setRun xs (y * W + x) n c) ∧ Below B w w') := by
  have A := hide' h
  have C := hide' hC
  obtain ⟨c0, c1, c2, c3, c4, c5, c6, c7, c8, c9, f1, f2, f3, f4, f5, f6, f7, f8, f9⟩ := h.ten
  rw [hW] at c3
  rw [hH] at c4
  rw [hc] at c5
  rw [hx] at c6
  rw [hy] at c7
  rw [hj] at c8
  rw [hn] at c9
  have RX := hide' hx
  have RC := hide' hc
  have RW := hide' hW
  have RY := hide' hy
  have HL := hide' hl
  clear h hC hj hx hy hn hW hH hc hl
  by_cases q : y = H
  · have n1 : ((y : Int) == (H : Int)) = true := by simp; omega
    have Q := hide' q
    clear q
    go_enter Tryd.func108, Tryd.ntmps108
    go_wp2
    go_quiet (fail)
    go_wp2_with fail
    refine (pfail b s _ j _ _ _ rfl (A.out.drewN _)).mono ?_
    rintro e w1 ⟨rfl, a1, r1⟩
    have A1 := hide' a1
    have R1 := hide' r1
    clear a1 r1
    go_wp2
    go_ret
    exact Or.inl ⟨Or.inl (by have := Q.out; omega), rfl, A1.out, ((Rd.refl _ _).drewN _).trans R1.out⟩
  · have n1 : ((y : Int) == (H : Int)) = false := by simp; omega
    by_cases q2 : W < x + n
    · have n2 : (W : Int) < (x : Int) + (n : Int) := by omega
      go_enter Tryd.func108, Tryd.ntmps108
      go_wp2
      go_quiet (fail)
      go_wp2_with fail
      refine (pfail b s _ j _ _ _ rfl (A.out.drewN _)).mono ?_
      rintro e w1 ⟨rfl, a1, r1⟩
      have A1 := hide' a1
      have R1 := hide' r1
      clear a1 r1
      go_wp2
      go_ret
      exact Or.inl ⟨Or.inr q2, rfl, A1.out, ((Rd.refl _ _).drewN _).trans R1.out⟩
    · have n2 : ¬ (W : Int) < (x : Int) + (n : Int) := by omega
      go_enter Tryd.func108, Tryd.ntmps108
      go_wp2
      go_quiet (fail)
      go_wp2
      obtain ⟨P, hP⟩ : ∃ P, y * W = P := ⟨_, rfl⟩
      obtain ⟨N, hN⟩ : ∃ N, W * H = N := ⟨_, rfl⟩
      have hPN : P + W ≤ N := by
        rw [← hP, ← hN, Nat.mul_comm W H]
        have := Nat.mul_le_mul_right W (show y + 1 ≤ H by omega)
        rw [Nat.add_mul] at this
        omega
      have hN4 : N ≤ 10000 := by rw [← hN]; exact Nat.mul_le_mul lW lH
      have hPi : (y : Int) * (W : Int) = (P : Int) := by rw [← hP]; simp
      have HL' := hide' (show xs.length = N by rw [← hN]; exact HL.out)
      rw [hN] at c5
      have HP := hide' hP
      have HN := hide' hN
      clear hP hN
      go_loopw [42] (fun kv wr => ∃ k R : Nat, kv = .int .i64 (k : Int) ∧ k ≤ n ∧ R = x + k ∧ RAt b s { r with rt := (R : Int) } wr ∧ Cel wr g (setRun xs (P + x) k c) ∧ Below B w wr) (fun kv _ => n - (intOf kv).toNat)
      case atStart => exact ⟨0, x, rfl, by omega, rfl, by rw [← RX.out]; exact A.out.drewN _, C.out.block (Nat.le_refl _) rfl, ⟨rfl, rfl, rfl, Nat.le_refl _, fun _ _ => rfl⟩⟩
      case round =>
        obtain ⟨k, R, rfl, hk, hR, a1, C1, b1⟩ := hrel
        have HRk := hide' hR
        have lR : x ≤ R := by omega
        have lR' : k < n → R < W := by omega
        clear hR
        have A1 := hide' a1
        have CC := hide' C1
        have BB := hide' b1
        have d1 := a1.ten.c1
        have d3 := a1.ten.c3
        have d5 := a1.ten.c5
        have d6 := a1.ten.c6
        have d7 := a1.ten.c7
        have df1 := a1.ten.f1
        have df6 := a1.ten.f6
        dsimp only at d1 d3 d5 d6 d7
        clear a1 C1 b1
        have e5 := RC.out
        rw [HN.out] at e5
        rw [RW.out] at d3
        rw [e5] at d5
        rw [RY.out] at d7
        clear e5
        by_cases d : k < n
        · have n3 : (k : Int) < (n : Int) := by omega
          have hpl : P + R < (setRun xs (P + x) k c).length := by rw [setRun_length, HL'.out]; have := lR' d; omega
          have hv := CC.out.cells (P + R) hpl
          have hf := CC.out.fz (P + R)
          have HPL := hide' hpl
          have hlt : P + R < N := by have := lR' d; omega
          have hlt2 : R < 100 := by have := lR' d; omega
          clear lR'
          clear hpl c0 c1 c2 c3 c4 c5 c6 c7 c8 c9 f1 f2 f3 f4 f5 f6 f7 f8 f9
          go_wp2
          go_region
          have A2 := hide' ((A1.out.setOther (p := ⟨g, P + R, none⟩) hgb.symm (.int .i64 c)).block (w' := (wr.setCell ⟨g, P + R, none⟩ (.int .i64 c)).drew) rfl)
          have e6 := A2.out.ten.c6
          have ef6 := A2.out.ten.f6
          dsimp only at e6
          clear d1 d3 d5 d6 d7 df1 df6 hv hf
          go_wp2
          refine ⟨⟨k + 1, R + 1, by go_num, by omega, by rw [HRk.out]; omega, by rw [show (R : Int) + 1 = ((R + 1 : Nat) : Int) by omega]; exact A2.out.set_rt ((R + 1 : Nat) : Int), ?_, ?_⟩, by simp [intOf]; omega⟩
          · have c2 := CC.out.set (P + R) c HPL.out
            have c3 := c2.block (w' := ((wr.setCell ⟨g, P + R, none⟩ (.int .i64 c)).drew).setCell ⟨b, 6, none⟩ (.int .i64 ((R : Int) + 1))) (by simp [World.setCell, World.drew]) (Below.heap_setCell _ _ _ _ hgb)
            rw [setRun, show P + x + k = P + R by rw [HRk.out]; omega]
            exact c3
          · exact ((BB.out.setCell (p := ⟨g, P + R, none⟩) hBg _).setCell (p := ⟨b, 6, none⟩) hBb _).trans ⟨rfl, rfl, rfl, Nat.le_refl _, fun _ _ => rfl⟩
        · have n3 : ¬ (k : Int) < (n : Int) := by omega
          have K := hide' (show k = n by omega)
          clear c0 c1 c2 c3 c4 c5 c6 c7 c8 c9 f1 f2 f3 f4 f5 f6 f7 f8 f9
          go_wp2
          go_ret
          right
          refine ⟨by omega, rfl, ?_, ?_, BB.out.setCell hBb _⟩
          · have := HRk.out
            rw [K.out] at this
            rw [show (r.i : Int) + 1 = ((r.i + 1 : Nat) : Int) by omega, show (x : Int) + (n : Int) = (R : Int) by omega]
            exact A1.out.set_i (r.i + 1)
          · have c3 := CC.out.block (w' := wr.setCell ⟨b, 1, none⟩ (.int .i64 ((r.i : Int) + 1))) (by simp [World.setCell]) (Below.heap_setCell _ _ _ _ hgb)
            rw [HP.out, ← K.out]
            exact c3
end Go.Proofs.YtljdidimoagnhaaDoor

namespace Go.Proofs.YtljdidimoagnhaaDoor
open Go

/-- As Q; by a goto to label l: J l. -/
def jumps (J : Nat → Act → World → Prop) (Q : Exit → Act → World → Prop) : Exit → Act → World → Prop
  | .goto l, a, w => J l a w
  | e, a, w => Q e a w

section
variable {P : Program} {a : Act} {w : World} {Q : Exit → Act → World → Prop}

theorem wp_scope_labels {c : Code} (J : Nat → Act → World → Prop) (μ : Nat → Act → World → Nat)
    (first : c.wp P (jumps J Q) a w)
    (pass : ∀ l a w, J l a w → ∃ rest, findLabel c l = some rest ∧ rest.wp P (jumps (fun l' a' w' => J l' a' w' ∧ μ l' a' w' < μ l a w) Q) a w) : (Code.scope c).wp P Q a w := by
  intro b k cs
  have key : ∀ n l a w, μ l a w = n → J l a w → ∃ rest, findLabel c l = some rest ∧ ∃ e a' w', Q e a' w' ∧ Arrives P (lone (b.at a (.code rest :: .inScope c :: k)) cs w) b k cs e a' w' := by
    intro n
    induction n using Nat.strongRecOn with
    | _ n ih =>
      intro l a w hn hJ
      obtain ⟨rest, hf, hp⟩ := pass l a w hJ
      refine ⟨rest, hf, ?_⟩
      obtain ⟨e, a₁, w₁, hq, harr⟩ := hp b (.inScope c :: k) cs
      cases e with
      | normal => exact ⟨.normal, a₁, w₁, hq, Steps.trans harr (.one step_inScope)⟩
      | exit id => exact ⟨.exit id, a₁, w₁, hq, fun k' hk => harr k' (by simp [exitTo, hk])⟩
      | goto l' =>
        obtain ⟨hJ', hlt⟩ := hq
        obtain ⟨rest', hf', e₂, a₂, w₂, hq₂, harr₂⟩ := ih _ (by omega) l' a₁ w₁ rfl hJ'
        have hg : gotoIn l' (.inScope c :: k) = some (.code rest' :: .inScope c :: k) := by simp [gotoIn, hf']
        exact ⟨e₂, a₂, w₂, hq₂, .of_steps (harr _ hg) harr₂⟩
      | ret => exact ⟨_, a₁, w₁, hq, harr⟩
      | panic ch => exact ⟨_, a₁, w₁, hq, harr⟩
      | outgrown => exact ⟨_, a₁, w₁, hq, harr⟩
  obtain ⟨e, a₁, w₁, hq, harr⟩ := first b (.inScope c :: k) cs
  cases e with
  | normal => exact ⟨.normal, a₁, w₁, hq, .head step_scope (Steps.trans harr (.one step_inScope))⟩
  | exit id => exact ⟨.exit id, a₁, w₁, hq, fun k' hk => .head step_scope (harr k' (by simp [exitTo, hk]))⟩
  | goto l' =>
    obtain ⟨rest', hf', e₂, a₂, w₂, hq₂, harr₂⟩ := key _ l' a₁ w₁ rfl hq
    have hg : gotoIn l' (.inScope c :: k) = some (.code rest' :: .inScope c :: k) := by simp [gotoIn, hf']
    exact ⟨e₂, a₂, w₂, hq₂, .of_steps (.head step_scope (harr _ hg)) harr₂⟩
  | ret => exact ⟨_, a₁, w₁, hq, .of_steps (.one step_scope) harr⟩
  | panic ch => exact ⟨_, a₁, w₁, hq, .of_steps (.one step_scope) harr⟩
  | outgrown => exact ⟨_, a₁, w₁, hq, .of_steps (.one step_scope) harr⟩
end
end Go.Proofs.YtljdidimoagnhaaDoor

namespace Go.Proofs.YtljdidimoagnhaaDoor
open Go.RowKit
set_option linter.unusedVariables false

/-- The frame at a jump: the text, where the result and the reader lie. -/
def RunFrame (s : ByteArray) (R b : Nat) (a' : Act) : Prop := ∃ u6 u7 u8 u9 u10 u11 u12 u13 u14 u15 u16 u17 u18 u19 u20 u21 u22 u23 u24 u25 u26 u27 u28 u29 u30 u31 u32 u33 u34 u35 u36 u37 u38 u39 u40 u41 u42 u43 u44 u45 u46 u47 u48 u49 : Value, a' = { tmps := #[.string s, undef, .pointer (some ⟨R, 0, none⟩), .int .i64 0, .nilIface, .pointer (some ⟨b, 0, none⟩), u6, u7, u8, u9, u10, u11, u12, u13, u14, u15, u16, u17, u18, u19, u20, u21, u22, u23, u24, u25, u26, u27, u28, u29, u30, u31, u32, u33, u34, u35, u36, u37, u38, u39, u40, u41, u42, u43, u44, u45, u46, u47, u48, u49], defers := [] }

/-- The result's block. -/
structure ResB (R : Nat) (w : World) : Prop where
  c0 : w.cell? ⟨R, 0, none⟩ = some (.int .i64 0)
  c1 : w.cell? ⟨R, 1, none⟩ = some (.int .i64 0)
  c2 : w.cell? ⟨R, 2, none⟩ = some (.slice none 0 0)
  f0 : w.frozen? ⟨R, 0, none⟩ = false
  f1 : w.frozen? ⟨R, 1, none⟩ = false
  f2 : w.frozen? ⟨R, 2, none⟩ = false
theorem ResB.block {R : Nat} {w w' : World} (h : ResB R w) (e : w'.heap[R]? = w.heap[R]?) : ResB R w' :=
  ⟨(World.cell?_of_block (w := w) (a := ⟨R, 0, none⟩) e).trans h.c0, (World.cell?_of_block (w := w) (a := ⟨R, 1, none⟩) e).trans h.c1, (World.cell?_of_block (w := w) (a := ⟨R, 2, none⟩) e).trans h.c2,
   (World.frozen?_of_block (w := w) (a := ⟨R, 0, none⟩) e).trans h.f0, (World.frozen?_of_block (w := w) (a := ⟨R, 1, none⟩) e).trans h.f1, (World.frozen?_of_block (w := w) (a := ⟨R, 2, none⟩) e).trans h.f2⟩
def resW (w : World) : World := w.alloc (.cells #[.int .i64 0, .int .i64 0, .slice none 0 0] 51)
theorem resW_size (w : World) : (resW w).heap.size = w.heap.size + 1 := by simp [resW]
theorem resW_res (w : World) : ResB w.heap.size (resW w) := by
  unfold resW
  exact ⟨cell_new_at _ _ _ _, cell_new_at _ _ _ _, cell_new_at _ _ _ _, by simp, by simp, by simp⟩
theorem ResB.below {w w' : World} {R : Nat} (h : ResB R w) (hR : R < w.heap.size) (hb : Below (R + 1) w w') : ResB R w' := h.block (hb.block R (by omega))

def fin2 (W H : Nat) : List Int ⊕ (Nat × Nat) → (Nat × Nat × List Int) ⊕ (Nat × Nat)
  | .inl xs => .inl (W, H, xs)
  | .inr e => .inr e
def fin3 (s : ByteArray) (W H i : Nat) (xs : List Int) : (Nat × Nat × List Int) ⊕ (Nat × Nat) :=
  if sk s i = s.size then .inl (W, H, xs) else .inr (sk s i, 2)

structure JWrong (s : ByteArray) (w0 w' : World) : Prop where
  at_ : ∃ r f : Nat, ∃ v : Rv, RAt (w0.heap.size + 1) s v w' ∧ v.i = r ∧ v.fl = (f : Int) ∧ runsS s = .inr (r, f)
  below : Below (w0.heap.size + 1) (resW w0) w'
structure JCells (s : ByteArray) (w0 w' : World) (v : Rv) (W H g : Nat) (xs : List Int) : Prop where
  rat : RAt (w0.heap.size + 1) s v w'
  wd : v.wd = (W : Int)
  hi : v.hi = (H : Int)
  cs : v.cs = .slice (some ⟨g, 0, none⟩) (W * H) (W * H)
  cel : Cel w' g xs
  len : xs.length = W * H
  gb : w0.heap.size + 1 < g
  lw : W ≤ 100
  lh : H ≤ 100
  li : v.i ≤ s.size
  below : Below (w0.heap.size + 1) (resW w0) w'
def JRun (s : ByteArray) (w0 w' : World) : Prop := ∃ (v : Rv) (W H g x y : Nat) (xs : List Int), JCells s w0 w' v W H g xs ∧ v.rt = (x : Int) ∧ v.dn = (y : Int) ∧ x ≤ W ∧ y ≤ H ∧ fin2 W H (tagsF s W H (s.size + 1 - v.i) v.i x y xs) = runsS s
def JRest (s : ByteArray) (w0 w' : World) : Prop := ∃ (v : Rv) (W H g : Nat) (xs : List Int), JCells s w0 w' v W H g xs ∧ fin3 s W H v.i xs = runsS s

def JAll (s : ByteArray) (w0 : World) (l : Nat) (a' : Act) (w' : World) : Prop :=
  RunFrame s w0.heap.size (w0.heap.size + 1) a' ∧ ((l = 0 ∧ JWrong s w0 w') ∨ (l = 1 ∧ JRun s w0 w') ∨ (l = 2 ∧ JRest s w0 w'))
def mAll (s : ByteArray) (w0 : World) (l : Nat) (_ : Act) (w' : World) : Nat := match l with | 0 => 0 | 2 => 1 | _ => 2 + (s.size - posOf (w0.heap.size + 1) w')

theorem JCells.rd {s : ByteArray} {w0 w' w'' : World} {v v' : Rv} {W H g : Nat} {xs : List Int} (h : JCells s w0 w' v W H g xs) (ha : RAt (w0.heap.size + 1) s v' w'') (hr : Rd (w0.heap.size + 1) w' w'') (h1 : v'.wd = v.wd) (h2 : v'.hi = v.hi) (h3 : v'.cs = v.cs) (h4 : v'.i ≤ s.size) : JCells s w0 w'' v' W H g xs :=
  ⟨ha, h1.trans h.wd, h2.trans h.hi, h3.trans h.cs, h.cel.rd hr (by have := h.gb; omega), h.len, h.gb, h.lw, h.lh, h4, h.below.trans (hr.below (Nat.le_refl _) (by have := h.below.size; rw [resW_size] at this; omega))⟩

def RunsPost (s : ByteArray) (w : World) (e : Ending) (w' : World) : Prop :=
  Below w.heap.size w w' ∧
  ((∃ W H xs g, runsS s = .inl (W, H, xs) ∧ e = .returned (.tuple #[.agg #[.int .i64 (W : Int), .int .i64 (H : Int), .slice (some ⟨g, 0, none⟩) (W * H) (W * H)], .int .i64 0, .nilIface]) ∧ Cel w' g xs ∧ xs.length = W * H ∧ W ≤ 100 ∧ H ≤ 100) ∨
   (∃ a f : Nat, runsS s = .inr (a, f) ∧ e = .returned (.tuple #[.agg #[.int .i64 0, .int .i64 0, .slice none 0 0], .int .i64 (a : Int), .iface 97 (.int .i64 (f : Int))])))

end Go.Proofs.YtljdidimoagnhaaDoor

namespace Go.Proofs.YtljdidimoagnhaaDoor
open Go.RowKit
set_option linter.unusedVariables false

theorem tag1_bad {s : ByteArray} {W H j x y : Nat} {xs : List Int} (h : tagBad s j = true) : tag1 s W H j x y xs = .bad j 2 := by
  unfold tag1; rw [if_pos h]
theorem tag1_none {s : ByteArray} {W H j x y : Nat} {xs : List Int} (h : tagBad s j = false) (h1 : ¬ bt s (tagK s j) = 98) (h2 : ¬ bt s (tagK s j) = 111) (h3 : ¬ bt s (tagK s j) = 36) (h4 : ¬ bt s (tagK s j) = 33) : tag1 s W H j x y xs = .bad (tagK s j) 2 := by
  unfold tag1
  rw [if_neg (by rw [h]; simp)]
  split
  · rfl
  · simp [h1, h2]
theorem tag1_cells_bad {s : ByteArray} {W H j x y : Nat} {xs : List Int} (h : tagBad s j = false) (hk : tagK s j < s.size) (h1 : bt s (tagK s j) = 98 ∨ bt s (tagK s j) = 111) (h2 : H ≤ y ∨ W < x + tagN s j) : tag1 s W H j x y xs = .bad j 1 := by
  unfold tag1
  rw [if_neg (by rw [h]; simp), if_neg (by omega), if_pos h1, if_pos h2]
theorem tag1_cells_on {s : ByteArray} {W H j x y : Nat} {xs : List Int} (c : Int) (h : tagBad s j = false) (hk : tagK s j < s.size) (h1 : bt s (tagK s j) = 98 ∨ bt s (tagK s j) = 111) (hc : (if bt s (tagK s j) = 111 then (1 : Int) else 0) = c) (h2 : ¬ (H ≤ y ∨ W < x + tagN s j)) : tag1 s W H j x y xs = .on (tagK s j + 1) (x + tagN s j) y (setRun xs (y * W + x) (tagN s j) c) := by
  unfold tag1
  rw [if_neg (by rw [h]; simp), if_neg (by omega), if_pos h1, if_neg h2, hc]
theorem tag1_rows_bad {s : ByteArray} {W H j x y : Nat} {xs : List Int} (h : tagBad s j = false) (hk : tagK s j < s.size) (h1 : bt s (tagK s j) = 36) (h2 : H ≤ y + tagN s j) : tag1 s W H j x y xs = .bad j 1 := by
  unfold tag1
  rw [if_neg (by rw [h]; simp), if_neg (by omega), if_neg (by omega), if_pos h1, if_pos h2]
theorem tag1_rows_on {s : ByteArray} {W H j x y : Nat} {xs : List Int} (h : tagBad s j = false) (hk : tagK s j < s.size) (h1 : bt s (tagK s j) = 36) (h2 : ¬ H ≤ y + tagN s j) : tag1 s W H j x y xs = .on (tagK s j + 1) 0 (y + tagN s j) xs := by
  unfold tag1
  rw [if_neg (by rw [h]; simp), if_neg (by omega), if_neg (by omega), if_pos h1, if_neg h2]
theorem tag1_end_bad {s : ByteArray} {W H j x y : Nat} {xs : List Int} (h : tagBad s j = false) (hk : tagK s j < s.size) (h1 : bt s (tagK s j) = 33) (h2 : tagK s j ≠ j) : tag1 s W H j x y xs = .bad (tagK s j) 2 := by
  unfold tag1
  rw [if_neg (by rw [h]; simp), if_neg (by omega), if_neg (by omega), if_neg (by omega), if_pos h1, if_pos (fun e => h2 e.symm)]
theorem tag1_end {s : ByteArray} {W H j x y : Nat} {xs : List Int} (h : tagBad s j = false) (hk : tagK s j < s.size) (h1 : bt s (tagK s j) = 33) (h2 : tagK s j = j) : tag1 s W H j x y xs = if sk s (tagK s j + 1) = s.size then .done xs else .bad (sk s (tagK s j + 1)) 2 := by
  unfold tag1
  rw [if_neg (by rw [h]; simp), if_neg (by omega), if_neg (by omega), if_neg (by omega), if_pos h1, if_neg (fun e => e h2.symm)]
theorem tag1_on {s : ByteArray} {W H j x y i' x' y' : Nat} {xs xs' : List Int} (h : tag1 s W H j x y xs = .on i' x' y' xs') : j < i' ∧ i' ≤ s.size := by
  have hk := tagK_ge s j
  unfold tag1 at h
  split at h
  · cases h
  split at h
  · cases h
  split at h
  · split at h
    · cases h
    · simp only [Sum.inl.injEq, Prod.mk.injEq] at h; omega
  split at h
  · split at h
    · cases h
    · simp only [Sum.inl.injEq, Prod.mk.injEq] at h; omega
  split at h
  · split at h
    · cases h
    · split at h <;> cases h
  · cases h

theorem tagsF_fuel (s : ByteArray) (W H : Nat) : ∀ f f' i x y xs, i ≤ s.size → s.size + 1 - i ≤ f → s.size + 1 - i ≤ f' → tagsF s W H f i x y xs = tagsF s W H f' i x y xs := by
  intro f
  induction f with
  | zero => intro f' i x y xs h1 h2; omega
  | succ f ih =>
    intro f' i x y xs h1 h2 h3
    obtain ⟨f'', rfl⟩ : ∃ f'', f' = f'' + 1 := ⟨f' - 1, by omega⟩
    simp only [tagsF]
    cases ht : tag1 s W H (sk s i) x y xs with
    | inl q =>
      obtain ⟨i', x', y', xs'⟩ := q
      have := tag1_on ht
      have := sk_ge s i
      exact ih f'' i' x' y' xs' (by omega) (by omega) (by omega)
    | inr q => cases q <;> rfl
theorem tagsF_bad {s : ByteArray} {W H i x y a e : Nat} {xs : List Int} (hi : i ≤ s.size) (h : tag1 s W H (sk s i) x y xs = .bad a e) : tagsF s W H (s.size + 1 - i) i x y xs = .inr (a, e) := by
  rw [show s.size + 1 - i = (s.size - i) + 1 by omega, tagsF, h]
theorem tagsF_done {s : ByteArray} {W H i x y : Nat} {xs ys : List Int} (hi : i ≤ s.size) (h : tag1 s W H (sk s i) x y xs = .done ys) : tagsF s W H (s.size + 1 - i) i x y xs = .inl ys := by
  rw [show s.size + 1 - i = (s.size - i) + 1 by omega, tagsF, h]
theorem tagsF_on {s : ByteArray} {W H i x y i' x' y' : Nat} {xs xs' : List Int} (hi : i ≤ s.size) (h : tag1 s W H (sk s i) x y xs = .on i' x' y' xs') : tagsF s W H (s.size + 1 - i) i x y xs = tagsF s W H (s.size + 1 - i') i' x' y' xs' := by
  rw [show s.size + 1 - i = (s.size - i) + 1 by omega, tagsF, h]
  have := tag1_on h
  have := sk_ge s i
  exact tagsF_fuel s W H _ _ _ _ _ _ (by omega) (by omega) (by omega)
theorem fin_end {s : ByteArray} {W H i x y : Nat} {xs : List Int} (hi : i ≤ s.size) (h : tag1 s W H (sk s i) x y xs = if sk s (tagK s (sk s i) + 1) = s.size then .done xs else .bad (sk s (tagK s (sk s i) + 1)) 2) :
    fin2 W H (tagsF s W H (s.size + 1 - i) i x y xs) = fin3 s W H (tagK s (sk s i) + 1) xs := by
  unfold fin3
  split
  · rename_i q
    rw [if_pos q] at h
    rw [tagsF_done hi h]; rfl
  · rename_i q
    rw [if_neg q] at h
    rw [tagsF_bad hi h]; rfl
theorem tagN_lt {s : ByteArray} {j : Nat} (h : tagBad s j = false) : tagN s j < 1000000 := by
  unfold tagN
  split
  · rename_i hd
    unfold tagBad at h
    rw [hd] at h
    simp at h
    exact num_bound s j (numSix_true.1 h.1).2.2
  · omega

theorem JWrong.mk' {s : ByteArray} {w0 w' w'' : World} {v v' : Rv} {W H g : Nat} {xs : List Int} (h : JCells s w0 w' v W H g xs) (ha : RAt (w0.heap.size + 1) s v' w'') (hr : Rd (w0.heap.size + 1) w' w'') (r f : Nat) (h1 : v'.i = r) (h2 : v'.fl = (f : Int)) (h3 : runsS s = .inr (r, f)) : JWrong s w0 w'' :=
  ⟨⟨r, f, v', ha, h1, h2, h3⟩, h.below.trans (hr.below (Nat.le_refl _) (by have := h.below.size; rw [resW_size] at this; omega))⟩
theorem JCells.cells {s : ByteArray} {w0 w' w'' : World} {v v' : Rv} {W H g : Nat} {xs xs' : List Int} (h : JCells s w0 w' v W H g xs) (ha : RAt (w0.heap.size + 1) s v' w'') (hb : Below (w0.heap.size + 1) w' w'') (hC : Cel w'' g xs') (hl : xs'.length = xs.length) (h1 : v'.wd = v.wd) (h2 : v'.hi = v.hi) (h3 : v'.cs = v.cs) (h4 : v'.i ≤ s.size) : JCells s w0 w'' v' W H g xs' :=
  ⟨ha, h1.trans h.wd, h2.trans h.hi, h3.trans h.cs, hC, hl.trans h.len, h.gb, h.lw, h.lh, h4, h.below.trans hb⟩
end Go.Proofs.YtljdidimoagnhaaDoor

