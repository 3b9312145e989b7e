/-
  What the last text of this claim leans on, part 46: Sc1.
-/
import Derived.Test.YtdhbdkkchobinaaJz43
import Derived.Test.YtdhbdkkchobinaaJz45
namespace Go.Proofs.Ytdhbdkkchobinaa
open Go.RowKit
set_option linter.unusedVariables false

theorem same_line : LineOk 2 0 [0, 1] := ⟨by omega, by omega, by omega, by simp, by simp, fun x hx => by simp at hx; omega⟩
theorem other_wts : wtE 2 [0, 1] = 0 := by decide
theorem fact_not : ¬ KeepsP 2 1 [1, 0] [0, 1] := by
  rintro ⟨h, q⟩
  have := q 0 (by simp)
  simp [chg] at this
theorem fact_yes : KeepsP 2 1 [0, 1] [0, 1] := ⟨fun _ => 0, fun w hw => by
  have : w = 0 ∨ w = 1 := by simp at hw; omega
  rcases this with rfl | rfl <;> simp [chg]⟩
theorem keeps_not (g g' : Nat) (W : World) (hA : ArgP W [1, 0] (some ⟨g, 0, none⟩) 2 2) (hB : ArgP W [0, 1] (some ⟨g', 0, none⟩) 2 2) :
    Calls Try.prog 17 #[.agg #[.int .i64 2, .int .i64 0, .int .i64 0, .int .i64 2, .int .i64 0, .slice (some ⟨g, 0, none⟩) 2 2, .string ⟨#[]⟩], .slice (some ⟨g', 0, none⟩) 2 2] W fun e w' => e = .returned (.tuple #[.bool false, .nilIface]) ∧ Below W.heap.size W w' := by
  refine (keepsT_line 2 0 1 [1, 0] [0, 1] (some ⟨g, 0, none⟩) 2 2 (some ⟨g', 0, none⟩) 2 W fact_line hA hB rfl).mono ?_
  rintro e w' (⟨h, _⟩ | ⟨_, ⟨b, rfl, hb⟩, bw⟩)
  · exact absurd other_wts h
  · cases b
    · exact ⟨rfl, bw⟩
    · exact absurd (hb.1 rfl) fact_not
theorem keeps_yes2 (g g' : Nat) (W : World) (hA : ArgP W [0, 1] (some ⟨g, 0, none⟩) 2 2) (hB : ArgP W [0, 1] (some ⟨g', 0, none⟩) 2 2) :
    Calls Try.prog 17 #[.agg #[.int .i64 2, .int .i64 0, .int .i64 0, .int .i64 2, .int .i64 0, .slice (some ⟨g, 0, none⟩) 2 2, .string ⟨#[]⟩], .slice (some ⟨g', 0, none⟩) 2 2] W fun e w' => e = .returned (.tuple #[.bool true, .nilIface]) ∧ Below W.heap.size W w' := by
  refine (keepsT_line 2 0 1 [0, 1] [0, 1] (some ⟨g, 0, none⟩) 2 2 (some ⟨g', 0, none⟩) 2 W same_line hA hB rfl).mono ?_
  rintro e w' (⟨h, _⟩ | ⟨_, ⟨b, rfl, hb⟩, bw⟩)
  · exact absurd other_wts h
  · cases b
    · exact absurd (hb.2 fact_yes) (by simp)
    · exact ⟨rfl, bw⟩
theorem two_arg (w : World) (x y : Int) (t : TypeId) : ArgP (w.alloc (.cells #[.int .i64 x, .int .i64 y] t)) [x, y] (some ⟨w.heap.size, 0, none⟩) 2 2 := by
  refine ⟨rfl, by unfold maxLen; omega, fun k hk => ⟨w.heap.size, 0, rfl, by simp, ?_⟩⟩
  rw [World.cell?_alloc_at _ _ _ _ rfl]
  have : k = 0 ∨ k = 1 := by simp at hk; omega
  rcases this with rfl | rfl <;> rfl

set_option maxRecDepth 100000 in
set_option maxHeartbeats 6400000 in
theorem weight_any (S : Nat) (xs wt : List Int) (a b : Option Addr) (n c m d : Nat) (w : World) (hA : ArgP w xs a n c) (hB : ArgP w wt b m d) (hx : cellsOk S xs) (hS : m = S) (s4 : S ≤ 4) (hn : n ≤ 1000) (hw : Wts wt) :
    Calls Try.prog 18 #[.slice a n c, .slice b m d] w fun e w' => e = .returned (.int .i64 (weighF xs wt n)) ∧ Below w.heap.size w w' := by
  have HA := hide' hA
  have HB := hide' hB
  have HX := hide' hx
  have HW := hide' hw
  have LX := hide' hA.len
  have LB := hide' (fun k => weighF_bound (xs := xs) (M := 1000) (by omega) hw k)
  clear hA hB hx hw
  go_enter Try.func18, Try.ntmps18
  go_wp2
  go_loop [5, 6] (fun nv iv => ∃ i : Nat, iv = .int .i64 (i : Int) ∧ i ≤ n ∧ nv = .int .i64 (weighF xs wt i)) (fun _ iv => n - (intOf iv).toNat)
  case atStart => exact ⟨0, rfl, by omega, rfl⟩
  case round =>
    obtain ⟨i, rfl, hi, rfl⟩ := hrel
    by_cases di : (i : Int) < (n : Int)
    · obtain ⟨ga, oa, rfl, hc⟩ := HA.out.at (k := i) (by omega)
      have hk := cellsOk_at HX.out (show i < xs.length by have := LX.out; omega)
      obtain ⟨z, hz⟩ : ∃ z : Nat, xs.getD i 0 = (z : Int) := ⟨(xs.getD i 0).toNat, by omega⟩
      rw [hz] at hc hk
      obtain ⟨gb, ob, rfl, hd⟩ := HB.out.at (k := z) (by omega)
      have bz := HW.out z
      have b0 := LB.out i
      have NX := hide' (show weighF xs wt (i + 1) = weighF xs wt i + wt.getD z 0 by unfold weighF; rw [sumF, hz, Int.toNat_natCast])
      obtain ⟨v, hv⟩ : ∃ v, wt.getD z 0 = v := ⟨_, rfl⟩
      obtain ⟨u, hu⟩ : ∃ u, weighF xs wt i = u := ⟨_, rfl⟩
      rw [hv] at hd bz NX
      rw [hu] at b0 NX ⊢
      clear hz hv hu
      go_wp2
      refine ⟨⟨i + 1, by go_num, by omega, ?_⟩, by simp [intOf]; omega⟩
      rw [NX.out]
    · go_wp2
      go_ret
      exact ⟨by rw [show n = i by omega]; rfl, Below.refl _ _⟩

/-- sums.Keeps and line.Step at a rule of a line. -/
def KeepsAny (S R : Nat) (T wt : List Int) (w : World) (e : Ending) (w' : World) : Prop :=
  ((wtE S wt = 0 ∧ ∃ b : Bool, e = .returned (.tuple #[.bool b, .nilIface]) ∧ (b = true → KeepsP S (S ^ (2 * R)) T wt)) ∨ ∃ k : Int, e = .returned (.tuple #[.bool false, .iface 23 (.int .i64 k)])) ∧ Below w.heap.size w w'
theorem keeps_whole (S R : Nat) (T wt : List Int) (ta : Option Addr) (tn tc : Nat) (wa : Option Addr) (wc : Nat) (w : World) (hL : LineOk S R T) (hT : ArgP w T ta tn tc) (hA : ArgP w wt wa wt.length wc) :
    Calls Try.prog 17 #[.agg #[.int .i64 2, .int .i64 0, .int .i64 0, .int .i64 (S : Int), .int .i64 (R : Int), .slice ta tn tc, .string ⟨#[]⟩], .slice wa wt.length wc] w (KeepsAny S R T wt w) := by
  refine (keepsT_line S R (S ^ (2 * R)) T wt ta tn tc wa wc w hL hT hA rfl).mono ?_
  rintro e w' (⟨_, rfl, b⟩ | ⟨h, ⟨b, rfl, hb⟩, bw⟩)
  · exact ⟨Or.inr ⟨_, rfl⟩, b⟩
  · exact ⟨Or.inl ⟨h, b, rfl, hb.1⟩, bw⟩
def StepAny (S R : Nat) (T ws : List Int) (w : World) (e : Ending) (w' : World) : Prop :=
  ((wordE S ws = 0 ∧ ∃ a c, e = .returned (.tuple #[.slice a (stepL S R T ws).length c, .nilIface]) ∧ ArgP w' (stepL S R T ws) a (stepL S R T ws).length c) ∨ ∃ k : Int, e = .returned (.tuple #[.slice none 0 0, .iface 23 (.int .i64 k)])) ∧ Below w.heap.size w w'
theorem step_whole (S R : Nat) (T ws : List Int) (ta : Option Addr) (tn tc : Nat) (wa : Option Addr) (wc : Nat) (w : World) (hL : LineOk S R T) (hT : ArgP w T ta tn tc) (hA : ArgP w ws wa ws.length wc) :
    Calls Try.prog 9 #[.agg #[.int .i64 2, .int .i64 0, .int .i64 0, .int .i64 (S : Int), .int .i64 (R : Int), .slice ta tn tc, .string ⟨#[]⟩], .slice wa ws.length wc] w (StepAny S R T ws w) := by
  by_cases he : wordE S ws = 0
  · refine (step_well S R T ta tn tc ws wa wc w hL hT hA he).mono ?_
    rintro e w' ⟨a, c, rfl, h, b⟩
    exact ⟨Or.inl ⟨he, a, c, rfl, h⟩, b⟩
  · refine (lineStep_word S R T ta tn tc ws wa wc w hL hT hA he).mono ?_
    rintro e w' ⟨rfl, b⟩
    exact ⟨Or.inr ⟨_, rfl⟩, b⟩

set_option maxRecDepth 100000 in
set_option maxHeartbeats 6400000 in
theorem law_keeps_off (o : Out) (ta : Option Addr) (tn tc : Nat) (v v' : Value) (w : World) (hR : ArgR w o ta tn tc) (h : ¬ (Good o ∧ o.kind = 2)) :
    Calls Try.prog 7 #[.agg #[.int .i64 o.kind, .int .i64 o.born, .int .i64 o.stay, .int .i64 o.states, .int .i64 o.radius, .slice ta tn tc, .string o.turns], v, v'] w fun e w' => e = .returned (.bool true) ∧ Below w.heap.size w w' := by
  obtain ⟨w1, hw1⟩ : ∃ w1, w.alloc (.cells #[.int .i64 o.kind, .int .i64 o.born, .int .i64 o.stay, .int .i64 o.states, .int .i64 o.radius, .slice ta tn tc, .string o.turns] 28) = w1 := ⟨_, rfl⟩
  have BB := hide' (show Below w.heap.size w w1 by rw [← hw1]; exact (Below.refl _ _).alloc (Nat.le_refl _) _)
  have RX := hide' (show RBo w.heap.size o (.slice ta tn tc) w1 by rw [← hw1]; exact RBo.new w o _ _)
  have AT := hide' (show ArgR w1 o ta tn tc by rw [← hw1]; exact hR.alloc _)
  have HH := hide' h
  clear hR h
  obtain ⟨v0, hv0⟩ : ∃ v0, w1.alloc (.cells #[.int .i64 1, .int .i64 0] 3) = v0 := ⟨_, rfl⟩
  obtain ⟨u0, hu0⟩ : ∃ u0, v0.alloc (.cells #[.int .i64 0, .int .i64 1] 3) = u0 := ⟨_, rfl⟩
  have zv0 : v0.heap.size = w1.heap.size + 1 := by rw [← hv0]; simp
  have P0 : Below w1.heap.size w1 v0 := by rw [← hv0]; exact (Below.refl _ _).alloc (Nat.le_refl _) _
  have Q0 : Below v0.heap.size v0 u0 := by rw [← hu0]; exact (Below.refl _ _).alloc (Nat.le_refl _) _
  have FO0 := hide' (keeps_not w1.heap.size v0.heap.size u0 ((show ArgP v0 [1, 0] (some ⟨w1.heap.size, 0, none⟩) 2 2 by rw [← hv0]; exact two_arg _ _ _ _).below Q0) (by rw [← hu0]; exact two_arg _ _ _ _))
  rw [zv0] at FO0
  have D0 := hide' (P0.trans (Q0.mono P0.size))
  clear P0 Q0
  obtain ⟨x0, x1, x2, x3, x4, x5, x6⟩ := RX.out.next D0.out
  go_enter Try.func7, Try.ntmps7
  go_wp2_with fail
  refine (show Calls Try.prog _ _ _ _ from FO0.out).mono ?_
  rintro e w3 ⟨rfl, b⟩
  have C1 := hide' (D0.out.trans (b.mono D0.out.size))
  clear b x0 x1 x2 x3 x4 x5 x6 FO0 D0 hv0 hu0 zv0 hw1
  obtain ⟨v1, hv1⟩ : ∃ v1, w3.alloc (.cells #[.int .i64 0, .int .i64 1] 3) = v1 := ⟨_, rfl⟩
  obtain ⟨u1, hu1⟩ : ∃ u1, v1.alloc (.cells #[.int .i64 0, .int .i64 1] 3) = u1 := ⟨_, rfl⟩
  have zv1 : v1.heap.size = w3.heap.size + 1 := by rw [← hv1]; simp
  have P1 : Below w3.heap.size w3 v1 := by rw [← hv1]; exact (Below.refl _ _).alloc (Nat.le_refl _) _
  have Q1 : Below v1.heap.size v1 u1 := by rw [← hu1]; exact (Below.refl _ _).alloc (Nat.le_refl _) _
  have FO1 := hide' (keeps_yes2 w3.heap.size v1.heap.size u1 ((show ArgP v1 [0, 1] (some ⟨w3.heap.size, 0, none⟩) 2 2 by rw [← hv1]; exact two_arg _ _ _ _).below Q1) (by rw [← hu1]; exact two_arg _ _ _ _))
  rw [zv1] at FO1
  have D1 := hide' (P1.trans (Q1.mono P1.size))
  clear P1 Q1
  obtain ⟨x0, x1, x2, x3, x4, x5, x6⟩ := RX.out.next (C1.out.trans (D1.out.mono C1.out.size))
  go_wp2_with fail
  refine (show Calls Try.prog _ _ _ _ from FO1.out).mono ?_
  rintro e w4 ⟨rfl, b⟩
  have C2 := hide' (C1.out.trans ((D1.out.trans (b.mono D1.out.size)).mono C1.out.size))
  clear b x0 x1 x2 x3 x4 x5 x6 FO1 D1 hv1 hu1 zv1 C1
  obtain ⟨x0, x1, x2, x3, x4, x5, x6⟩ := RX.out.next C2.out
  go_wp2_with fail
  refine (keepsT_off o ta tn tc v _ (AT.out.below C2.out) HH.out).mono ?_
  unfold KeepsErr
  rintro e w5 ⟨rfl, b⟩
  have C3 := hide' (C2.out.trans (b.mono C2.out.size))
  clear b x0 x1 x2 x3 x4 x5 x6 C2
  obtain ⟨x0, x1, x2, x3, x4, x5, x6⟩ := RX.out.next C3.out
  go_wp2_with fail
  refine (lineStep_off o ta tn tc v' _ (AT.out.below C3.out) HH.out).mono ?_
  unfold ListErr
  rintro e w6 ⟨rfl, b⟩
  have C4 := hide' (C3.out.trans (b.mono C3.out.size))
  clear b x0 x1 x2 x3 x4 x5 x6 C3
  go_wp2
  go_ret
  exact ⟨rfl, BB.out.trans (C4.out.mono BB.out.size)⟩

set_option maxRecDepth 100000 in
set_option maxHeartbeats 6400000 in
theorem law_keeps_ok (S R : Nat) (T : List Int) (ta : Option Addr) (tn tc : Nat) (wt : List Int) (ka : Option Addr) (kc : Nat) (ws : List Int) (wa : Option Addr) (wc : Nat) (w : World) (hL : LineOk S R T) (hT : ArgP w T ta tn tc) (hK : ArgP w wt ka wt.length kc) (hW : ArgP w ws wa ws.length wc) :
    Calls Try.prog 7 #[.agg #[.int .i64 2, .int .i64 0, .int .i64 0, .int .i64 (S : Int), .int .i64 (R : Int), .slice ta tn tc, .string ⟨#[]⟩], .slice ka wt.length kc, .slice wa ws.length wc] w fun e w' => e = .returned (.bool true) ∧ Below w.heap.size w w' := by
  obtain ⟨w1, hw1⟩ : ∃ w1, w.alloc (.cells #[.int .i64 2, .int .i64 0, .int .i64 0, .int .i64 (S : Int), .int .i64 (R : Int), .slice ta tn tc, .string ⟨#[]⟩] 28) = w1 := ⟨_, rfl⟩
  have BB := hide' (show Below w.heap.size w w1 by rw [← hw1]; exact (Below.refl _ _).alloc (Nat.le_refl _) _)
  have RX := hide' (show RB w.heap.size S R (.slice ta tn tc) w1 by rw [← hw1]; exact RB.new w S R _ _)
  have AT := hide' (hT.below BB.out)
  have AK := hide' (hK.below BB.out)
  have AW := hide' (hW.below BB.out)
  have s2 := hL.s2
  have s4 := hL.s4
  have KA := hide' (fun (W : World) (h : ArgP W T ta tn tc) (h2 : ArgP W wt ka wt.length kc) => keeps_whole S R T wt ta tn tc ka kc W hL h h2)
  have SA := hide' (fun (W : World) (h : ArgP W T ta tn tc) (h2 : ArgP W ws wa ws.length wc) => step_whole S R T ws ta tn tc wa wc W hL h h2)
  have WF := hide' (fun (hk : KeepsP S (S ^ (2 * R)) T wt) (hx : cellsOk S ws) => kept (by omega) hL.len hx hk)
  have SO := hide' (fun (hx : cellsOk S ws) => stepL_ok (S := (S : Int)) (R := R) (T := T) (xs := ws) (by omega) hL.lenI hL.ok hx)
  have SL := hide' (show (stepL S R T ws).length = ws.length from stepL_length ..)
  clear hT hL hW hK
  obtain ⟨lk, hlk⟩ : ∃ lk, wt.length = lk := ⟨_, rfl⟩
  obtain ⟨lw, hlw⟩ : ∃ lw, ws.length = lw := ⟨_, rfl⟩
  have HLK := hide' hlk
  have HLW := hide' hlw
  rw [hlk] at KA AK ⊢
  rw [hlw] at SA AW WF SL ⊢
  clear hlk hlw
  obtain ⟨v0, hv0⟩ : ∃ v0, w1.alloc (.cells #[.int .i64 1, .int .i64 0] 3) = v0 := ⟨_, rfl⟩
  obtain ⟨u0, hu0⟩ : ∃ u0, v0.alloc (.cells #[.int .i64 0, .int .i64 1] 3) = u0 := ⟨_, rfl⟩
  have zv0 : v0.heap.size = w1.heap.size + 1 := by rw [← hv0]; simp
  have P0 : Below w1.heap.size w1 v0 := by rw [← hv0]; exact (Below.refl _ _).alloc (Nat.le_refl _) _
  have Q0 : Below v0.heap.size v0 u0 := by rw [← hu0]; exact (Below.refl _ _).alloc (Nat.le_refl _) _
  have FO0 := hide' (keeps_not w1.heap.size v0.heap.size u0 ((show ArgP v0 [1, 0] (some ⟨w1.heap.size, 0, none⟩) 2 2 by rw [← hv0]; exact two_arg _ _ _ _).below Q0) (by rw [← hu0]; exact two_arg _ _ _ _))
  rw [zv0] at FO0
  have D0 := hide' (P0.trans (Q0.mono P0.size))
  clear P0 Q0
  obtain ⟨x0, x1, x2, x3, x4, x5, x6⟩ := RX.out.next D0.out
  go_enter Try.func7, Try.ntmps7
  go_wp2_with fail
  refine (show Calls Try.prog _ _ _ _ from FO0.out).mono ?_
  rintro e w3 ⟨rfl, b⟩
  have C1 := hide' (D0.out.trans (b.mono D0.out.size))
  clear b x0 x1 x2 x3 x4 x5 x6 FO0 D0 hv0 hu0 zv0 hw1
  obtain ⟨v1, hv1⟩ : ∃ v1, w3.alloc (.cells #[.int .i64 0, .int .i64 1] 3) = v1 := ⟨_, rfl⟩
  obtain ⟨u1, hu1⟩ : ∃ u1, v1.alloc (.cells #[.int .i64 0, .int .i64 1] 3) = u1 := ⟨_, rfl⟩
  have zv1 : v1.heap.size = w3.heap.size + 1 := by rw [← hv1]; simp
  have P1 : Below w3.heap.size w3 v1 := by rw [← hv1]; exact (Below.refl _ _).alloc (Nat.le_refl _) _
  have Q1 : Below v1.heap.size v1 u1 := by rw [← hu1]; exact (Below.refl _ _).alloc (Nat.le_refl _) _
  have FO1 := hide' (keeps_yes2 w3.heap.size v1.heap.size u1 ((show ArgP v1 [0, 1] (some ⟨w3.heap.size, 0, none⟩) 2 2 by rw [← hv1]; exact two_arg _ _ _ _).below Q1) (by rw [← hu1]; exact two_arg _ _ _ _))
  rw [zv1] at FO1
  have D1 := hide' (P1.trans (Q1.mono P1.size))
  clear P1 Q1
  obtain ⟨x0, x1, x2, x3, x4, x5, x6⟩ := RX.out.next (C1.out.trans (D1.out.mono C1.out.size))
  go_wp2_with fail
  refine (show Calls Try.prog _ _ _ _ from FO1.out).mono ?_
  rintro e w4 ⟨rfl, b⟩
  have C2 := hide' (C1.out.trans ((D1.out.trans (b.mono D1.out.size)).mono C1.out.size))
  clear b x0 x1 x2 x3 x4 x5 x6 FO1 D1 hv1 hu1 zv1 C1
  obtain ⟨x0, x1, x2, x3, x4, x5, x6⟩ := RX.out.next C2.out
  go_wp2_with fail
  refine (KA.out _ (AT.out.below C2.out) (AK.out.below C2.out)).mono ?_
  unfold KeepsAny
  rintro e w5 ⟨hk, b⟩
  have C3 := hide' (C2.out.trans (b.mono C2.out.size))
  clear b x0 x1 x2 x3 x4 x5 x6 C2
  obtain ⟨x0, x1, x2, x3, x4, x5, x6⟩ := RX.out.next C3.out
  have SX := hide' (SA.out _ (AT.out.below C3.out) (AW.out.below C3.out))
  unfold StepAny at SX
  rw [SL.out] at SX
  rcases hk with ⟨h0, k, rfl, hk⟩ | ⟨k, rfl⟩
  · have HK := hide' hk
    have H0 := hide' (wtE_wts h0)
    clear hk h0
    go_wp2_with fail
    refine (show Calls Try.prog _ _ _ _ from SX.out).mono ?_
    rintro e w6 ⟨hs, b⟩
    have C4 := hide' (C3.out.trans (b.mono C3.out.size))
    clear b x0 x1 x2 x3 x4 x5 x6 C3 SX
    rcases hs with ⟨he, a, c, rfl, ha⟩ | ⟨f, rfl⟩
    · cases k
      · clear he ha
        go_wp2
        go_ret
        exact ⟨rfl, BB.out.trans (C4.out.mono BB.out.size)⟩
      · have HA := hide' ha
        have HP := hide' (HK.out rfl)
        have HC := hide' (wordE_zero he)
        have EQ := hide' (WF.out HP.out HC.out.2)
        obtain ⟨xs, hxs⟩ : ∃ xs, stepL S R T ws = xs := ⟨_, rfl⟩
        have SO1 := hide' (SO.out HC.out.2)
        rw [hxs] at HA EQ SO1
        clear ha he hxs
        have LWS : lw ≤ 1000 := by rw [← HLW.out]; exact HC.out.1
        have W1 := hide' (fun (W : World) (h : ArgP W ws wa lw wc) (h2 : ArgP W wt ka lk kc) => weight_any S ws wt wa ka lw wc lk kc W h h2 HC.out.2 (by rw [← HLK.out]; exact H0.out.1) s4 LWS H0.out.2)
        have W2 := hide' (fun (W : World) (h : ArgP W xs a lw c) (h2 : ArgP W wt ka lk kc) => weight_any S xs wt a ka lw c lk kc W h h2 SO1.out (by rw [← HLK.out]; exact H0.out.1) s4 LWS H0.out.2)
        rw [EQ.out] at W2
        obtain ⟨v, hv⟩ : ∃ v, weighF ws wt lw = v := ⟨_, rfl⟩
        rw [hv] at W1 W2
        go_wp2_with fail
        refine (W1.out _ (AW.out.below C4.out) (AK.out.below C4.out)).mono ?_
        rintro e w7 ⟨rfl, b⟩
        have C5 := hide' (C4.out.trans (b.mono C4.out.size))
        have HA7 := hide' (HA.out.below b)
        clear b
        go_wp2_with fail
        refine (W2.out _ HA7.out (AK.out.below C5.out)).mono ?_
        rintro e w8 ⟨rfl, b⟩
        have C6 := hide' (C5.out.trans (b.mono C5.out.size))
        have vv : (v == v) = true := by simp
        clear b
        go_wp2
        go_ret
        exact ⟨rfl, BB.out.trans (C6.out.mono BB.out.size)⟩
    · cases k
      · go_wp2
        go_ret
        exact ⟨rfl, BB.out.trans (C4.out.mono BB.out.size)⟩
      · go_wp2
        go_ret
        exact ⟨rfl, BB.out.trans (C4.out.mono BB.out.size)⟩
  · go_wp2_with fail
    refine (show Calls Try.prog _ _ _ _ from SX.out).mono ?_
    rintro e w6 ⟨hs, b⟩
    have C4 := hide' (C3.out.trans (b.mono C3.out.size))
    clear b x0 x1 x2 x3 x4 x5 x6 C3 SX
    rcases hs with ⟨he, a, c, rfl, ha⟩ | ⟨f, rfl⟩
    · clear he ha
      go_wp2
      go_ret
      exact ⟨rfl, BB.out.trans (C4.out.mono BB.out.size)⟩
    · skip
      go_wp2
      go_ret
      exact ⟨rfl, BB.out.trans (C4.out.mono BB.out.size)⟩

/-- At every rule, weights and word. -/
theorem law_keeps_all (o : Out) (ta : Option Addr) (tn tc : Nat) (wt : List Int) (ka : Option Addr) (kc : Nat) (ws : List Int) (wa : Option Addr) (wc : Nat) (w : World) (hR : ArgR w o ta tn tc) (hK : ArgP w wt ka wt.length kc) (hW : ArgP w ws wa ws.length wc) :
    Calls Try.prog 7 #[.agg #[.int .i64 o.kind, .int .i64 o.born, .int .i64 o.stay, .int .i64 o.states, .int .i64 o.radius, .slice ta tn tc, .string o.turns], .slice ka wt.length kc, .slice wa ws.length wc] w fun e w' => e = .returned (.bool true) ∧ Below w.heap.size w w' := by
  by_cases h : Good o ∧ o.kind = 2
  · obtain ⟨S, R, e, hL⟩ := good_line o h.1 h.2
    have hT : ArgP w o.table ta tn tc := ⟨hR.len, hR.max, hR.cells⟩
    obtain ⟨T, hTe⟩ : ∃ T, o.table = T := ⟨_, rfl⟩
    rw [hTe] at e hL hT
    subst e
    exact law_keeps_ok S R T ta tn tc wt ka kc ws wa wc w hL hT hK hW
  · exact law_keeps_off o ta tn tc _ _ w hR h
end Go.Proofs.Ytdhbdkkchobinaa

