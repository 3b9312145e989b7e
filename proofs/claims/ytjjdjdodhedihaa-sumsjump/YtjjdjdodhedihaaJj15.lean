/-
  What the last text of this claim leans on, part 15: Sg3.
-/
import Derived.Test.YtjjdjdodhedihaaJj14
namespace Go.Proofs.Ytjjdjdodhedihaa
open Go.RowKit
set_option linter.unusedVariables false

def JumpL (S R : Nat) (T ws : List Int) (L : Nat) (k : Int) (w : World) (e : Ending) (w' : World) : Prop :=
  ((wordE S ws = 0 ∧ LinP S R T ∧ 0 ≤ k ∧ k ≤ 1000000000000000000 ∧ ∃ a c, e = .returned (.tuple #[.slice a L c, .nilIface]) ∧ ArgP w' (runL S R T k.toNat ws) a L c) ∨ (¬ (wordE S ws = 0 ∧ LinP S R T ∧ 0 ≤ k ∧ k ≤ 1000000000000000000) ∧ ∃ f : Int, e = .returned (.tuple #[.slice none 0 0, .iface 33 (.int .i64 f)]))) ∧ Below w.heap.size w w'
theorem jump_len (S R : Nat) (T ws : List Int) (L : Nat) (k : Int) (ta : Option Addr) (tn tc : Nat) (wa : Option Addr) (wc : Nat) (w : World) (hL : LineOk S R T) (hl : ws.length = L) (hT : ArgP w T ta tn tc) (hA : ArgP w ws wa L wc) :
    Calls Try.prog 4 #[.agg #[.int .i64 2, .int .i64 0, .int .i64 0, .int .i64 (S : Int), .int .i64 (R : Int), .slice ta tn tc, .string ⟨#[]⟩], .slice wa L wc, .int .i64 k] w (JumpL S R T ws L k w) := by
  subst hl
  exact jump_whole S R T ws k ta tn tc wa wc w hL hT hA
theorem run_len (S R : Nat) (T ws : List Int) (L n : Nat) (ta : Option Addr) (tn tc : Nat) (wa : Option Addr) (wc : Nat) (w : World) (hL : LineOk S R T) (hl : ws.length = L) (hT : ArgP w T ta tn tc) (hA : ArgP w ws wa L wc) (he : wordE S ws = 0) (hn : n ≤ 100000) :
    Calls Try.prog 5 #[.agg #[.int .i64 2, .int .i64 0, .int .i64 0, .int .i64 (S : Int), .int .i64 (R : Int), .slice ta tn tc, .string ⟨#[]⟩], .slice wa L wc, .int .i64 (n : Int)] w fun e w' => ∃ a c, e = .returned (.tuple #[.slice a L c, .nilIface]) ∧ ArgP w' (runL S R T n ws) a L c ∧ Below w.heap.size w w' := by
  subst hl
  refine (lineRun_ok S R T ta tn tc ws wa wc n w hL hT hA he hn).mono ?_
  rintro e w' ⟨v, rfl, ht, _, b⟩
  obtain ⟨a, c, rfl, h⟩ := ht.argI (by rw [runL_length]; have := (wordE_zero he).1; unfold maxLen; omega)
  rw [runL_length] at h ⊢
  exact ⟨a, c, rfl, h, b⟩

theorem sumW_take {S : Int} {xs ys : List Int} {i : Nat} (h : i < xs.length) : ((sumW S xs ys).take (i + 1)).map (fun x => Value.int .i64 x) = ((sumW S xs ys).take i).map (fun x => Value.int .i64 x) ++ [.int .i64 ((xs.getD i 0 + ys.getD i 0) % S)] := by
  rw [List.take_add_one, List.map_append, ← sumW_at (ys := ys) (S := S) h, List.getD_eq_getElem?_getD, List.getElem?_eq_getElem (by rw [sumW_length]; exact h)]
  rfl
theorem cut3 {A B C : Type} {P Φ : A → B → C → Prop} {G : Prop} (h : (∀ a b c, P a b c → Φ a b c) → G) (k : ∀ a b c, P a b c → Φ a b c) : G := h k
theorem wrapsmallK (z : Int) (h1 : -100000 ≤ z) (h2 : z ≤ 100000) : IntKind.i64.wrap z = z := by
  simp [IntKind.wrap, IntKind.bits, IntKind.signed]; omega
theorem row_list {W : World} {B0 n : Nat} {v : Value} {xs : List Int} (h : W.ownsRow B0 3 1 v n (xs.map fun x => Value.int .i64 x)) (hn : xs.length = n) (hm : n ≤ maxLen) : ∃ a c, v = .slice a n c ∧ ArgP W xs a n c := by
  subst hn
  rcases Nat.eq_zero_or_pos xs.length with h0 | h0
  · rcases h.2 with ⟨rfl, _⟩ | ⟨g, cap, cur, rfl, _⟩
    · exact ⟨none, 0, by rw [h0], rfl, hm, fun k hk => absurd hk (by omega)⟩
    · exact ⟨some ⟨g, 0, none⟩, cap, rfl, rfl, hm, fun k hk => absurd hk (by omega)⟩
  · obtain ⟨g, cap, e, h⟩ := owns_arg h h0 hm
    exact ⟨_, _, e, h⟩
theorem cell_two {W : World} {xs ys : List Int} {g f g' f' n c n' c' : Nat} (h : ArgP W xs (some ⟨g, f, none⟩) n c) (h' : ArgP W ys (some ⟨g', f', none⟩) n' c') {k : Nat} (hk : k < n ∧ k < n') : W.cell? ⟨g, f + k, none⟩ = some (.int .i64 (xs.getD k 0)) ∧ W.cell? ⟨g', f' + k, none⟩ = some (.int .i64 (ys.getD k 0)) := by
  obtain ⟨_, _, e, a⟩ := h.at hk.1
  obtain ⟨_, _, e', a'⟩ := h'.at hk.2
  cases e
  cases e'
  exact ⟨a, a'⟩
/-- Two rows of numbers that lie apart. -/
structure TV (base : Nat) (w X : World) (v1 : Value) (n1 : Nat) (x1 : List Value) (v2 : Value) (n2 : Nat) (x2 : List Value) : Prop where
  b1 : X.ownsRow base 3 1 v1 n1 x1
  b2 : X.ownsRow base 3 1 v2 n2 x2
  sep : ∀ b, v1.ownBlock = some b → v2.ownBlock ≠ some b
  bl : Below base w X
  sz : base ≤ X.heap.size
theorem TV.start (w : World) (xs ys : List Int) : TV w.heap.size w w (.slice none 0 0) 0 ((xs.take 0).map fun x => Value.int .i64 x) (.slice none 0 0) 0 ((ys.take 0).map fun x => Value.int .i64 x) :=
  ⟨⟨by simp, Or.inl ⟨rfl, by simp⟩⟩, ⟨by simp, Or.inl ⟨rfl, by simp⟩⟩, fun b h => by simp [Value.ownBlock] at h, Below.refl _ _, Nat.le_refl _⟩
theorem TV.alloc {base : Nat} {w X : World} {v1 v2 : Value} {n1 n2 : Nat} {x1 x2 : List Value} (h : TV base w X v1 n1 x1 v2 n2 x2) (o : Obj) : TV base w (X.alloc o) v1 n1 x1 v2 n2 x2 :=
  ⟨h.b1.alloc o, h.b2.alloc o, h.sep, h.bl.alloc h.sz o, by simp; have := h.sz; omega⟩
theorem TV.swap {base : Nat} {w X : World} {v1 v2 : Value} {n1 n2 : Nat} {x1 x2 : List Value} (h : TV base w X v1 n1 x1 v2 n2 x2) : TV base w X v2 n2 x2 v1 n1 x1 :=
  ⟨h.b2, h.b1, fun b e1 e2 => h.sep b e2 e1, h.bl, h.sz⟩
theorem TV.app1 {base : Nat} {w X Y : World} {v1 v2 : Value} {n1 n2 : Nat} {x1 x2 : List Value} (h : TV base w X v1 n1 x1 v2 n2 x2) {g m d : Nat} {y1 : List Value} (hown : Y.ownsRow base 3 1 (.slice (some ⟨g, 0, none⟩) m d) m y1) (hg : X.grownBy Y v1.ownBlock) (hat : v1.ownBlock = some g ∨ g = X.heap.size) : TV base w Y (.slice (some ⟨g, 0, none⟩) m d) m y1 v2 n2 x2 := by
  refine ⟨hown, h.b2.kept hg ?_, fun b e1 e2 => ?_, ?_, Nat.le_trans h.sz hg.size⟩
  · rcases Classical.em (v2.ownBlock = none) with q | q
    · exact Or.inl q
    · right
      intro e
      cases hb : v1.ownBlock with
      | none => rw [hb] at e; exact q e
      | some b => exact h.sep b hb (by rw [e]; exact hb)
  · obtain rfl : g = b := by simpa [Value.ownBlock] using e1
    rcases hat with hat | hat
    · exact h.sep _ hat e2
    · have := row_lt h.b2 _ e2
      omega
  · refine ⟨hg.os.trans h.bl.os, hg.tape.trans h.bl.tape, hg.output.trans h.bl.output, Nat.le_trans h.bl.size hg.size, fun k hk => ?_⟩
    refine (hg.block k (by have := h.sz; omega) (fun e => ?_)).trans (h.bl.block k hk)
    have := row_base h.b1 k e.symm
    omega
theorem TV.app2 {base : Nat} {w X Y : World} {v1 v2 : Value} {n1 n2 : Nat} {x1 x2 : List Value} (h : TV base w X v1 n1 x1 v2 n2 x2) {g m d : Nat} {y2 : List Value} (hown : Y.ownsRow base 3 1 (.slice (some ⟨g, 0, none⟩) m d) m y2) (hg : X.grownBy Y v2.ownBlock) (hat : v2.ownBlock = some g ∨ g = X.heap.size) : TV base w Y v1 n1 x1 (.slice (some ⟨g, 0, none⟩) m d) m y2 :=
  (h.swap.app1 hown hg hat).swap

set_option maxRecDepth 100000 in
set_option maxHeartbeats 100000000 in
theorem law_jump_ok (S R : Nat) (T : List Int) (ta : Option Addr) (tn tc : Nat) (ws : List Int) (wa : Option Addr) (wc : Nat) (os : List Int) (oa : Option Addr) (oc : Nat) (n m : Int) (w : World) (hL : LineOk S R T) (hT : ArgP w T ta tn tc) (hW : ArgP w ws wa ws.length wc) (hO : ArgP w os oa os.length oc) :
    Calls Try.prog 3 #[.agg #[.int .i64 2, .int .i64 0, .int .i64 0, .int .i64 (S : Int), .int .i64 (R : Int), .slice ta tn tc, .string ⟨#[]⟩], .slice wa ws.length wc, .slice oa os.length oc, .int .i64 n, .int .i64 m] w fun e w' => e = .returned (.bool true) ∧ Below w.heap.size w w' := by
  obtain ⟨w1, hw1⟩ : ∃ w1, w.alloc (.cells #[.int .i64 2, .int .i64 0, .int .i64 0, .int .i64 (S : Int), .int .i64 (R : Int), .slice ta tn tc, .string ⟨#[]⟩] 24) = w1 := ⟨_, rfl⟩
  have BB := hide' (show Below w.heap.size w w1 by rw [← hw1]; exact (Below.refl _ _).alloc (Nat.le_refl _) _)
  have RX := hide' (show RB w.heap.size S R (.slice ta tn tc) w1 by rw [← hw1]; exact RB.new w S R _ _)
  have AT := hide' (hT.below BB.out)
  have AW := hide' (hW.below BB.out)
  have AO := hide' (hO.below BB.out)
  have s2 := hL.s2
  have s4 := hL.s4
  obtain ⟨lw, hlw⟩ : ∃ lw, ws.length = lw := ⟨_, rfl⟩
  obtain ⟨lo, hlo⟩ : ∃ lo, os.length = lo := ⟨_, rfl⟩
  have HLW := hide' hlw
  have HLO := hide' hlo
  have HL := hide' hL
  rw [hlw] at AW ⊢
  rw [hlo] at AO ⊢
  have JS := hide' (fun (W : World) (k : Int) (h : ArgP W T ta tn tc) (h2 : ArgP W ws wa lw wc) => jump_len S R T ws lw k ta tn tc wa wc W hL hlw h h2)
  have JO := hide' (fun (W : World) (h : ArgP W T ta tn tc) (h2 : ArgP W os oa lo oc) => jump_len S R T os lo n ta tn tc oa oc W hL hlo h h2)
  have JM := hide' (fun (W : World) (xa : Option Addr) (xc : Nat) (h : ArgP W T ta tn tc) (h2 : ArgP W (runL S R T n.toNat ws) xa lw xc) => jump_len S R T (runL S R T n.toNat ws) lw m ta tn tc xa xc W hL (by rw [runL_length]; exact hlw) h h2)
  have RN := hide' (fun (W : World) (h : ArgP W T ta tn tc) (h2 : ArgP W ws wa lw wc) (he : wordE S ws = 0) (n0 : 0 ≤ n) (n3 : n ≤ 300) => show Calls Try.prog 5 #[.agg #[.int .i64 2, .int .i64 0, .int .i64 0, .int .i64 (S : Int), .int .i64 (R : Int), .slice ta tn tc, .string ⟨#[]⟩], .slice wa lw wc, .int .i64 n] W _ from (show ((n.toNat : Nat) : Int) = n by omega) ▸ run_len S R T ws lw n.toNat ta tn tc wa wc W hL hlw h h2 he (by omega))
  have ADD := hide' (fun (n0 : 0 ≤ n) (m : Int) (m0 : 0 ≤ m) => show runL S R T (n + m).toNat ws = runL S R T m.toNat (runL S R T n.toNat ws) by rw [show (n + m).toNat = n.toNat + m.toNat by omega]; exact runL_adds _ _ _ _ _ _)
  have RO := hide' (fun (xs : List Int) (k : Nat) (h : cellsOk S xs) => runL_ok (S := (S : Int)) (R := R) (T := T) (xs := xs) (by omega) hL.lenI hL.ok h k)
  obtain ⟨i0, hi0, hz0, hz1, hz2⟩ := info_parts info_int
  clear hT hL hW hO hlw hlo
  obtain ⟨v0, hv0⟩ : ∃ v0, w1.alloc (.cells #[.int .i64 0, .int .i64 1] 3) = v0 := ⟨_, rfl⟩
  obtain ⟨u0, hu0⟩ : ∃ u0, v0.alloc (.cells #[.int .i64 1, .int .i64 0] 3) = u0 := ⟨_, rfl⟩
  have zv0 : v0.heap.size = w1.heap.size + 1 := by rw [← hv0]; simp
  have P0 : Below w1.heap.size w1 v0 := by rw [← hv0]; exact (Below.refl _ _).alloc (Nat.le_refl _) _
  have Q0 : Below v0.heap.size v0 u0 := by rw [← hu0]; exact (Below.refl _ _).alloc (Nat.le_refl _) _
  have FO0 := hide' (jump_fact w1.heap.size v0.heap.size u0 ((show ArgP v0 [0, 1] (some ⟨w1.heap.size, 0, none⟩) 2 2 by rw [← hv0]; exact two_arg _ _ _ _).below Q0) (by rw [← hu0]; exact two_arg _ _ _ _))
  rw [zv0] at FO0
  have D0 := hide' (P0.trans (Q0.mono P0.size))
  clear P0 Q0
  obtain ⟨x0, x1, x2, x3, x4, x5, x6⟩ := RX.out.next D0.out
  go_enter Try.func3, Try.ntmps3
  go_wp2_with fail
  refine (show Calls Try.prog _ _ _ _ from FO0.out).mono ?_
  rintro e w3 ⟨g0, c0, rfl, k0, k1, b⟩
  have C1 := hide' (D0.out.trans (b.mono D0.out.size))
  clear b x0 x1 x2 x3 x4 x5 x6 FO0 D0 hv0 hu0 zv0 hw1
  obtain ⟨x0, x1, x2, x3, x4, x5, x6⟩ := RX.out.next C1.out
  go_wp2_with fail
  refine (JS.out _ n (AT.out.below C1.out) (AW.out.below C1.out)).mono ?_
  unfold JumpL
  rintro e w4 ⟨h, b⟩
  have C2 := hide' (C1.out.trans (b.mono C1.out.size))
  clear b x0 x1 x2 x3 x4 x5 x6 C1 k0 k1
  obtain ⟨x0, x1, x2, x3, x4, x5, x6⟩ := RX.out.next C2.out
  rcases h with ⟨he, hlin, n0, n1, xa, xc, rfl, hx⟩ | ⟨_, f, rfl⟩
  · have HE := hide' he
    have HLP := hide' hlin
    have HX := hide' hx
    clear he hlin hx
    by_cases n3 : n ≤ 300
    · go_wp2_with fail
      refine (RN.out _ (AT.out.below C2.out) (AW.out.below C2.out) HE.out n0 n3).mono ?_
      rintro e wR ⟨ra, rc, rfl, hr, b⟩
      have C3 := hide' (C2.out.trans (b.mono C2.out.size))
      have HX3 := hide' (HX.out.below b)
      have HR := hide' hr
      clear b hr x0 x1 x2 x3 x4 x5 x6 HX
      obtain ⟨x0, x1, x2, x3, x4, x5, x6⟩ := RX.out.next C3.out
      go_wp2_with fail
      refine (IntsEq _ _ _ _ _ _ _ _ HX3.out HR.out).mono ?_
      rintro e wQ ⟨rfl, b⟩
      have C4 := hide' (C3.out.trans (b.mono C3.out.size))
      have HX4 := hide' (HX3.out.below b)
      clear b x0 x1 x2 x3 x4 x5 x6 HX3 HR C3 RN
      obtain ⟨x0, x1, x2, x3, x4, x5, x6⟩ := RX.out.next C4.out
      go_wp2_with fail
      refine (JM.out _ xa xc (AT.out.below C4.out) HX4.out).mono ?_
      unfold JumpL
      rintro e wM ⟨h, b⟩
      have CM := hide' (C4.out.trans (b.mono C4.out.size))
      have HXM := hide' (HX4.out.below b)
      clear b x0 x1 x2 x3 x4 x5 x6
      obtain ⟨x0, x1, x2, x3, x4, x5, x6⟩ := RX.out.next CM.out
      rcases h with ⟨_, _, m0, m1, ya, yc, rfl, hy⟩ | ⟨_, f, rfl⟩
      · have HY := hide' hy
        clear hy
        by_cases nm : n ≤ 1000000000000000000 - m
        · go_wp2_with fail
          refine (JS.out _ (n + m) (AT.out.below CM.out) (AW.out.below CM.out)).mono ?_
          unfold JumpL
          rintro e wS ⟨h, b⟩
          have CS := hide' (CM.out.trans (b.mono CM.out.size))
          have HXS := hide' (HXM.out.below b)
          have HYS := hide' (HY.out.below b)
          clear b x0 x1 x2 x3 x4 x5 x6
          obtain ⟨x0, x1, x2, x3, x4, x5, x6⟩ := RX.out.next CS.out
          rcases h with ⟨_, _, _, _, za, zc, rfl, hz⟩ | ⟨q, _⟩
          · rw [ADD.out n0 m m0] at hz
            have HZ := hide' hz
            clear hz
            go_wp2_with fail
            refine (IntsEq _ _ _ _ _ _ _ _ HYS.out HZ.out).mono ?_
            rintro e wI ⟨rfl, b⟩
            have CI := hide' (CS.out.trans (b.mono CS.out.size))
            have HXI := hide' (HXS.out.below b)
            clear b x0 x1 x2 x3 x4 x5 x6 CS HXS HYS HZ CM HXM HY
            obtain ⟨x0, x1, x2, x3, x4, x5, x6⟩ := RX.out.next CI.out
            go_wp2_with fail
            refine (JO.out _ (AT.out.below CI.out) (AO.out.below CI.out)).mono ?_
            unfold JumpL
            rintro e wT ⟨h, b⟩
            have CT := hide' (CI.out.trans (b.mono CI.out.size))
            have HXT := hide' (HXI.out.below b)
            clear b x0 x1 x2 x3 x4 x5 x6
            obtain ⟨x0, x1, x2, x3, x4, x5, x6⟩ := RX.out.next CT.out
            rcases h with ⟨he', _, _, _, oa', oc', rfl, ho⟩ | ⟨_, f, rfl⟩
            · have HO := hide' ho
              have HEO := hide' he'
              clear ho he'
              by_cases el : lo = lw
              · subst el
                have AX := hide' (fun (W : World) (hb : Below wT.heap.size wT W) => (⟨(AW.out.below CT.out).below hb, (AO.out.below CT.out).below hb, HXT.out.below hb, HO.out.below hb⟩ : ArgP W ws wa lo wc ∧ ArgP W os oa lo oc ∧ ArgP W (runL S R T n.toNat ws) xa lo xc ∧ ArgP W (runL S R T n.toNat os) oa' lo oc'))
                have RT := hide' (fun (W : World) (hb : Below wT.heap.size wT W) => RX.out.next (CT.out.trans (hb.mono CT.out.size)))
                have WO := hide' (wordE_zero HE.out)
                have OO := hide' (wordE_zero HEO.out)
                have XO := hide' (RO.out ws n.toNat WO.out.2)
                have YO := hide' (RO.out os n.toNat OO.out.2)
                have XL := hide' (show (runL S R T n.toNat ws).length = lo by rw [runL_length]; exact HLW.out)
                have YL := hide' (show (runL S R T n.toNat os).length = lo by rw [runL_length]; exact HLO.out)
                have BO := hide' (show runL S R T n.toNat (sumW S ws os) = sumW S (runL S R T n.toNat ws) (runL S R T n.toNat os) from run_both HL.out WO.out.2 OO.out.2 HLP.out (by rw [HLO.out, HLW.out]) n.toNat)
                have l1 : lo ≤ 1000 := by rw [← HLO.out]; exact OO.out.1
                obtain ⟨X', hX'⟩ : ∃ X', runL S R T n.toNat ws = X' := ⟨_, rfl⟩
                obtain ⟨Y', hY'⟩ : ∃ Y', runL S R T n.toNat os = Y' := ⟨_, rfl⟩
                rw [hX', hY'] at AX BO
                rw [hX'] at XO XL
                rw [hY'] at YO YL
                have PN := hide' (fun (xs ys : List Int) (i : Nat) (h : i < xs.length) => sumW_take (S := (S : Int)) (xs := xs) (ys := ys) h)
                have T0 := hide' (TV.start wT (sumW S ws os) (sumW S X' Y'))
                clear HXT HO hX' hY'
                go_wp2
                go_loopw [24, 25, 26] (fun b' m' iv wr => ∃ (i : Nat) (bv mv : Value), bv = b' ∧ mv = m' ∧ iv = .int .i64 (i : Int) ∧ i ≤ lo ∧ Hid (TV wT.heap.size wT wr bv i ((sumW S ws os).take i |>.map fun x => Value.int .i64 x) mv i ((sumW S X' Y').take i |>.map fun x => Value.int .i64 x))) (fun _ _ iv _ => lo - (intOf iv).toNat)
                case atStart => exact ⟨0, _, _, rfl, rfl, rfl, by omega, T0⟩
                case round =>
                  obtain ⟨i, bv, mv, rfl, rfl, rfl, hi, H⟩ := hrel
                  clear x0 x1 x2 x3 x4 x5 x6
                  by_cases d : (i : Int) < (lo : Int)
                  · obtain ⟨A1, A2, A3, A4⟩ := AX.out _ H.out.bl
                    obtain ⟨ga, fa, ea, ka⟩ := A1.at (k := i) (by omega)
                    obtain ⟨gb, fb, eb, kb⟩ := A2.at (k := i) (by omega)
                    obtain ⟨gc, fc, ec, kc⟩ := A3.at (k := i) (by omega)
                    obtain ⟨gd, fd, ed, kd⟩ := A4.at (k := i) (by omega)
                    subst ea eb ec ed
                    obtain ⟨x0, x1, x2, x3, x4, x5, x6⟩ := RT.out _ H.out.bl
                    have u1 := cellsOk_at WO.out.2 (k := i) (by rw [HLW.out]; omega)
                    have u2 := cellsOk_at OO.out.2 (k := i) (by rw [HLO.out]; omega)
                    have u3 := cellsOk_at XO.out (k := i) (by rw [XL.out]; omega)
                    have u4 := cellsOk_at YO.out (k := i) (by rw [YL.out]; omega)
                    have PA := hide' (PN.out ws os i (by rw [HLW.out]; omega))
                    have PB := hide' (PN.out X' Y' i (by rw [XL.out]; omega))
                    have K4 := hide' (fun (W : World) (hb : Below wT.heap.size wT W) => cell_two (AX.out W hb).2.2.1 (AX.out W hb).2.2.2 (k := i) (by omega))
                    obtain ⟨a1, e1⟩ : ∃ a1, ws.getD i 0 = a1 := ⟨_, rfl⟩
                    obtain ⟨a2, e2⟩ : ∃ a2, os.getD i 0 = a2 := ⟨_, rfl⟩
                    obtain ⟨b1, e3⟩ : ∃ b1, X'.getD i 0 = b1 := ⟨_, rfl⟩
                    obtain ⟨b2, e4⟩ : ∃ b2, Y'.getD i 0 = b2 := ⟨_, rfl⟩
                    rw [e1] at ka u1 PA
                    rw [e2] at kb u2 PA
                    rw [e3] at kc u3 PB K4
                    rw [e4] at kd u4 PB K4
                    have TM1 : (a1 + a2).tmod (S : Int) = (a1 + a2) % (S : Int) := Int.tmod_eq_emod_of_nonneg (by omega)
                    have TM2 : (b1 + b2).tmod (S : Int) = (b1 + b2) % (S : Int) := Int.tmod_eq_emod_of_nonneg (by omega)
                    have hsz := H.out.sz
                    have sn : ¬ S = 0 := by omega
                    have WR1 : IntKind.i64.wrap (a1 + a2) = a1 + a2 := wrapsmallK _ (by omega) (by omega)
                    have WR2 : IntKind.i64.wrap (b1 + b2) = b1 + b2 := wrapsmallK _ (by omega) (by omega)
                    clear e1 e2 e3 e4 A1 A2 A3 A4 kc kd
                    go_wp2
                    refine cut3 (P := fun gg cap w8 => Hid (TV wT.heap.size wT w8 (.slice (some ⟨gg, 0, none⟩) (i + 1) cap) (i + 1) (((sumW S ws os).take i |>.map fun x => Value.int .i64 x) ++ [.int .i64 ((a1 + a2) % (S : Int))]) mv i ((sumW S X' Y').take i |>.map fun x => Value.int .i64 x))) (Φ := ?PH1) (fun CUT => ?mn1) ?rs1
                    case mn1 =>
                      go_region_law (refine step_append_lies _ (by rfl) _ _ _ (by rfl) wT.heap.size 3 i0 _ 1 8 Try.underlying22 hi0 hz0 hz1 hz2 rfl (by omega) bv i _ (by rfl) ((H.out.b1.alloc _).drew) ⟨wr.heap.size, 0, none⟩ 1 1 [.int .i64 ((a1 + a2) % (S : Int))] (by rfl) (by rfl) (World.news_of_block (cs := #[.int .i64 ((a1 + a2) % (S : Int))]) (t := 3) (fr := (0, 0)) (heap_alloc_new wr _)) (by simp [Value.oneCell']) (by omega) (by unfold maxLen; omega) (by omega) (by simp; omega) (wr.heap.size + 1) (by simp) ?_; intro gg cap w8 hown hgrow hat hlt; have T8 := hide' ((H.out.alloc _).app1 hown (grownBy_drew hgrow) (by simpa using hat)); clear hown hgrow hat hlt)
                      all_goals exact CUT _ _ _ T8
                    case rs1 =>
                      intro gg cap w8 T8
                      clear x0 x1 x2 x3 x4 x5 x6 ka kb
                      obtain ⟨x0, x1, x2, x3, x4, x5, x6⟩ := RT.out _ T8.out.bl
                      obtain ⟨kc, kd⟩ := K4.out _ T8.out.bl
                      have hsz8 := T8.out.sz
                      go_wp2
                      go_region_law (refine step_append_lies _ (by rfl) _ _ _ (by rfl) wT.heap.size 3 i0 _ 1 8 Try.underlying22 hi0 hz0 hz1 hz2 rfl (by omega) mv i _ (by rfl) ((T8.out.b2.alloc _).drew) ⟨w8.heap.size, 0, none⟩ 1 1 [.int .i64 ((b1 + b2) % (S : Int))] (by rfl) (by rfl) (World.news_of_block (cs := #[.int .i64 ((b1 + b2) % (S : Int))]) (t := 3) (fr := (0, 0)) (heap_alloc_new w8 _)) (by simp [Value.oneCell']) (by omega) (by unfold maxLen; omega) (by omega) (by simp; omega) (w8.heap.size + 1) (by simp) ?_; intro g9 cap9 w9 hown hgrow hat hlt; have T9 := hide' ((T8.out.alloc _).app2 hown (grownBy_drew hgrow) (by simpa using hat)); clear hown hgrow hat hlt)
                      all_goals
                        go_wp2
                        exact ⟨⟨i + 1, _, _, rfl, rfl, by go_num, by omega, hide' (by rw [PA.out, PB.out]; exact T9.out)⟩, by simp [intOf]; omega⟩
                  · have TF := hide' (show TV wT.heap.size wT wr bv lo ((sumW S ws os).map fun x => Value.int .i64 x) mv lo ((sumW S X' Y').map fun x => Value.int .i64 x) by
                      have h := H.out
                      rw [show i = lo by omega, List.take_of_length_le (by rw [sumW_length, HLW.out]; omega), List.take_of_length_le (by rw [sumW_length, XL.out]; omega)] at h
                      exact h)
                    obtain ⟨pa, pc, rfl, hpa⟩ := row_list TF.out.b1 (by rw [sumW_length, HLW.out]) (by unfold maxLen; omega)
                    obtain ⟨qa, qc, rfl, hqa⟩ := row_list TF.out.b2 (by rw [sumW_length, XL.out]) (by unfold maxLen; omega)
                    have PA := hide' hpa
                    have QA := hide' hqa
                    have CF := hide' (CT.out.trans (TF.out.bl.mono CT.out.size))
                    have JB := hide' (jump_len S R T (sumW S ws os) lo n ta tn tc pa pc wr HL.out (by rw [sumW_length, HLW.out]) (AT.out.below CF.out) PA.out)
                    obtain ⟨x0, x1, x2, x3, x4, x5, x6⟩ := RX.out.next CF.out
                    clear hpa hqa H TF
                    go_wp2_with fail
                    refine (show Calls Try.prog _ _ _ _ from JB.out).mono ?_
                    unfold JumpL
                    rintro e wJ ⟨h, b⟩
                    have CJ := hide' (CF.out.trans (b.mono CF.out.size))
                    have QJ := hide' (QA.out.below b)
                    clear b x0 x1 x2 x3 x4 x5 x6 JB PA QA
                    rcases h with ⟨_, _, _, _, va, vc, rfl, hv⟩ | ⟨q, _⟩
                    · rw [BO.out] at hv
                      have HV := hide' hv
                      clear hv
                      go_wp2_with fail
                      refine (IntsEq _ _ _ _ _ _ _ _ HV.out QJ.out).mono ?_
                      rintro e wK ⟨rfl, b⟩
                      have CK := hide' (CJ.out.trans (b.mono CJ.out.size))
                      clear b
                      go_wp2
                      go_ret
                      exact ⟨rfl, BB.out.trans (CK.out.mono BB.out.size)⟩
                    · exact absurd ⟨wordE_ok (by rw [sumW_length, HLW.out]; omega) (sumW_ok (by omega) _ _), HLP.out, n0, n1⟩ q
              · have el1 : ((lo : Int) != (lw : Int)) = true := by simp; omega
                go_wp2
                go_ret
                exact ⟨rfl, BB.out.trans (CT.out.mono BB.out.size)⟩
            · go_wp2
              go_ret
              exact ⟨rfl, BB.out.trans (CT.out.mono BB.out.size)⟩
          · exact absurd ⟨HE.out, HLP.out, by omega, by omega⟩ q
        · clear HY
          obtain ⟨x0, x1, x2, x3, x4, x5, x6⟩ := RX.out.next CM.out
          go_wp2_with fail
          refine (JO.out _ (AT.out.below CM.out) (AO.out.below CM.out)).mono ?_
          unfold JumpL
          rintro e wT ⟨h, b⟩
          have CT := hide' (CM.out.trans (b.mono CM.out.size))
          have HXT := hide' (HXM.out.below b)
          clear b x0 x1 x2 x3 x4 x5 x6
          obtain ⟨x0, x1, x2, x3, x4, x5, x6⟩ := RX.out.next CT.out
          rcases h with ⟨he', _, _, _, oa', oc', rfl, ho⟩ | ⟨_, f, rfl⟩
          · have HO := hide' ho
            have HEO := hide' he'
            clear ho he'
            by_cases el : lo = lw
            · subst el
              have AX := hide' (fun (W : World) (hb : Below wT.heap.size wT W) => (⟨(AW.out.below CT.out).below hb, (AO.out.below CT.out).below hb, HXT.out.below hb, HO.out.below hb⟩ : ArgP W ws wa lo wc ∧ ArgP W os oa lo oc ∧ ArgP W (runL S R T n.toNat ws) xa lo xc ∧ ArgP W (runL S R T n.toNat os) oa' lo oc'))
              have RT := hide' (fun (W : World) (hb : Below wT.heap.size wT W) => RX.out.next (CT.out.trans (hb.mono CT.out.size)))
              have WO := hide' (wordE_zero HE.out)
              have OO := hide' (wordE_zero HEO.out)
              have XO := hide' (RO.out ws n.toNat WO.out.2)
              have YO := hide' (RO.out os n.toNat OO.out.2)
              have XL := hide' (show (runL S R T n.toNat ws).length = lo by rw [runL_length]; exact HLW.out)
              have YL := hide' (show (runL S R T n.toNat os).length = lo by rw [runL_length]; exact HLO.out)
              have BO := hide' (show runL S R T n.toNat (sumW S ws os) = sumW S (runL S R T n.toNat ws) (runL S R T n.toNat os) from run_both HL.out WO.out.2 OO.out.2 HLP.out (by rw [HLO.out, HLW.out]) n.toNat)
              have l1 : lo ≤ 1000 := by rw [← HLO.out]; exact OO.out.1
              obtain ⟨X', hX'⟩ : ∃ X', runL S R T n.toNat ws = X' := ⟨_, rfl⟩
              obtain ⟨Y', hY'⟩ : ∃ Y', runL S R T n.toNat os = Y' := ⟨_, rfl⟩
              rw [hX', hY'] at AX BO
              rw [hX'] at XO XL
              rw [hY'] at YO YL
              have PN := hide' (fun (xs ys : List Int) (i : Nat) (h : i < xs.length) => sumW_take (S := (S : Int)) (xs := xs) (ys := ys) h)
              have T0 := hide' (TV.start wT (sumW S ws os) (sumW S X' Y'))
              clear HXT HO hX' hY'
              go_wp2
              go_loopw [24, 25, 26] (fun b' m' iv wr => ∃ (i : Nat) (bv mv : Value), bv = b' ∧ mv = m' ∧ iv = .int .i64 (i : Int) ∧ i ≤ lo ∧ Hid (TV wT.heap.size wT wr bv i ((sumW S ws os).take i |>.map fun x => Value.int .i64 x) mv i ((sumW S X' Y').take i |>.map fun x => Value.int .i64 x))) (fun _ _ iv _ => lo - (intOf iv).toNat)
              case atStart => exact ⟨0, _, _, rfl, rfl, rfl, by omega, T0⟩
              case round =>
                obtain ⟨i, bv, mv, rfl, rfl, rfl, hi, H⟩ := hrel
                clear x0 x1 x2 x3 x4 x5 x6
                by_cases d : (i : Int) < (lo : Int)
                · obtain ⟨A1, A2, A3, A4⟩ := AX.out _ H.out.bl
                  obtain ⟨ga, fa, ea, ka⟩ := A1.at (k := i) (by omega)
                  obtain ⟨gb, fb, eb, kb⟩ := A2.at (k := i) (by omega)
                  obtain ⟨gc, fc, ec, kc⟩ := A3.at (k := i) (by omega)
                  obtain ⟨gd, fd, ed, kd⟩ := A4.at (k := i) (by omega)
                  subst ea eb ec ed
                  obtain ⟨x0, x1, x2, x3, x4, x5, x6⟩ := RT.out _ H.out.bl
                  have u1 := cellsOk_at WO.out.2 (k := i) (by rw [HLW.out]; omega)
                  have u2 := cellsOk_at OO.out.2 (k := i) (by rw [HLO.out]; omega)
                  have u3 := cellsOk_at XO.out (k := i) (by rw [XL.out]; omega)
                  have u4 := cellsOk_at YO.out (k := i) (by rw [YL.out]; omega)
                  have PA := hide' (PN.out ws os i (by rw [HLW.out]; omega))
                  have PB := hide' (PN.out X' Y' i (by rw [XL.out]; omega))
                  have K4 := hide' (fun (W : World) (hb : Below wT.heap.size wT W) => cell_two (AX.out W hb).2.2.1 (AX.out W hb).2.2.2 (k := i) (by omega))
                  obtain ⟨a1, e1⟩ : ∃ a1, ws.getD i 0 = a1 := ⟨_, rfl⟩
                  obtain ⟨a2, e2⟩ : ∃ a2, os.getD i 0 = a2 := ⟨_, rfl⟩
                  obtain ⟨b1, e3⟩ : ∃ b1, X'.getD i 0 = b1 := ⟨_, rfl⟩
                  obtain ⟨b2, e4⟩ : ∃ b2, Y'.getD i 0 = b2 := ⟨_, rfl⟩
                  rw [e1] at ka u1 PA
                  rw [e2] at kb u2 PA
                  rw [e3] at kc u3 PB K4
                  rw [e4] at kd u4 PB K4
                  have TM1 : (a1 + a2).tmod (S : Int) = (a1 + a2) % (S : Int) := Int.tmod_eq_emod_of_nonneg (by omega)
                  have TM2 : (b1 + b2).tmod (S : Int) = (b1 + b2) % (S : Int) := Int.tmod_eq_emod_of_nonneg (by omega)
                  have hsz := H.out.sz
                  have sn : ¬ S = 0 := by omega
                  have WR1 : IntKind.i64.wrap (a1 + a2) = a1 + a2 := wrapsmallK _ (by omega) (by omega)
                  have WR2 : IntKind.i64.wrap (b1 + b2) = b1 + b2 := wrapsmallK _ (by omega) (by omega)
                  clear e1 e2 e3 e4 A1 A2 A3 A4 kc kd
                  go_wp2
                  refine cut3 (P := fun gg cap w8 => Hid (TV wT.heap.size wT w8 (.slice (some ⟨gg, 0, none⟩) (i + 1) cap) (i + 1) (((sumW S ws os).take i |>.map fun x => Value.int .i64 x) ++ [.int .i64 ((a1 + a2) % (S : Int))]) mv i ((sumW S X' Y').take i |>.map fun x => Value.int .i64 x))) (Φ := ?PH2) (fun CUT => ?mn2) ?rs2
                  case mn2 =>
                    go_region_law (refine step_append_lies _ (by rfl) _ _ _ (by rfl) wT.heap.size 3 i0 _ 1 8 Try.underlying22 hi0 hz0 hz1 hz2 rfl (by omega) bv i _ (by rfl) ((H.out.b1.alloc _).drew) ⟨wr.heap.size, 0, none⟩ 1 1 [.int .i64 ((a1 + a2) % (S : Int))] (by rfl) (by rfl) (World.news_of_block (cs := #[.int .i64 ((a1 + a2) % (S : Int))]) (t := 3) (fr := (0, 0)) (heap_alloc_new wr _)) (by simp [Value.oneCell']) (by omega) (by unfold maxLen; omega) (by omega) (by simp; omega) (wr.heap.size + 1) (by simp) ?_; intro gg cap w8 hown hgrow hat hlt; have T8 := hide' ((H.out.alloc _).app1 hown (grownBy_drew hgrow) (by simpa using hat)); clear hown hgrow hat hlt)
                    all_goals exact CUT _ _ _ T8
                  case rs2 =>
                    intro gg cap w8 T8
                    clear x0 x1 x2 x3 x4 x5 x6 ka kb
                    obtain ⟨x0, x1, x2, x3, x4, x5, x6⟩ := RT.out _ T8.out.bl
                    obtain ⟨kc, kd⟩ := K4.out _ T8.out.bl
                    have hsz8 := T8.out.sz
                    go_wp2
                    go_region_law (refine step_append_lies _ (by rfl) _ _ _ (by rfl) wT.heap.size 3 i0 _ 1 8 Try.underlying22 hi0 hz0 hz1 hz2 rfl (by omega) mv i _ (by rfl) ((T8.out.b2.alloc _).drew) ⟨w8.heap.size, 0, none⟩ 1 1 [.int .i64 ((b1 + b2) % (S : Int))] (by rfl) (by rfl) (World.news_of_block (cs := #[.int .i64 ((b1 + b2) % (S : Int))]) (t := 3) (fr := (0, 0)) (heap_alloc_new w8 _)) (by simp [Value.oneCell']) (by omega) (by unfold maxLen; omega) (by omega) (by simp; omega) (w8.heap.size + 1) (by simp) ?_; intro g9 cap9 w9 hown hgrow hat hlt; have T9 := hide' ((T8.out.alloc _).app2 hown (grownBy_drew hgrow) (by simpa using hat)); clear hown hgrow hat hlt)
                    all_goals
                      go_wp2
                      exact ⟨⟨i + 1, _, _, rfl, rfl, by go_num, by omega, hide' (by rw [PA.out, PB.out]; exact T9.out)⟩, by simp [intOf]; omega⟩
                · have TF := hide' (show TV wT.heap.size wT wr bv lo ((sumW S ws os).map fun x => Value.int .i64 x) mv lo ((sumW S X' Y').map fun x => Value.int .i64 x) by
                    have h := H.out
                    rw [show i = lo by omega, List.take_of_length_le (by rw [sumW_length, HLW.out]; omega), List.take_of_length_le (by rw [sumW_length, XL.out]; omega)] at h
                    exact h)
                  obtain ⟨pa, pc, rfl, hpa⟩ := row_list TF.out.b1 (by rw [sumW_length, HLW.out]) (by unfold maxLen; omega)
                  obtain ⟨qa, qc, rfl, hqa⟩ := row_list TF.out.b2 (by rw [sumW_length, XL.out]) (by unfold maxLen; omega)
                  have PA := hide' hpa
                  have QA := hide' hqa
                  have CF := hide' (CT.out.trans (TF.out.bl.mono CT.out.size))
                  have JB := hide' (jump_len S R T (sumW S ws os) lo n ta tn tc pa pc wr HL.out (by rw [sumW_length, HLW.out]) (AT.out.below CF.out) PA.out)
                  obtain ⟨x0, x1, x2, x3, x4, x5, x6⟩ := RX.out.next CF.out
                  clear hpa hqa H TF
                  go_wp2_with fail
                  refine (show Calls Try.prog _ _ _ _ from JB.out).mono ?_
                  unfold JumpL
                  rintro e wJ ⟨h, b⟩
                  have CJ := hide' (CF.out.trans (b.mono CF.out.size))
                  have QJ := hide' (QA.out.below b)
                  clear b x0 x1 x2 x3 x4 x5 x6 JB PA QA
                  rcases h with ⟨_, _, _, _, va, vc, rfl, hv⟩ | ⟨q, _⟩
                  · rw [BO.out] at hv
                    have HV := hide' hv
                    clear hv
                    go_wp2_with fail
                    refine (IntsEq _ _ _ _ _ _ _ _ HV.out QJ.out).mono ?_
                    rintro e wK ⟨rfl, b⟩
                    have CK := hide' (CJ.out.trans (b.mono CJ.out.size))
                    clear b
                    go_wp2
                    go_ret
                    exact ⟨rfl, BB.out.trans (CK.out.mono BB.out.size)⟩
                  · exact absurd ⟨wordE_ok (by rw [sumW_length, HLW.out]; omega) (sumW_ok (by omega) _ _), HLP.out, n0, n1⟩ q
            · have el1 : ((lo : Int) != (lw : Int)) = true := by simp; omega
              go_wp2
              go_ret
              exact ⟨rfl, BB.out.trans (CT.out.mono BB.out.size)⟩
          · go_wp2
            go_ret
            exact ⟨rfl, BB.out.trans (CT.out.mono BB.out.size)⟩
      · obtain ⟨x0, x1, x2, x3, x4, x5, x6⟩ := RX.out.next CM.out
        go_wp2_with fail
        refine (JO.out _ (AT.out.below CM.out) (AO.out.below CM.out)).mono ?_
        unfold JumpL
        rintro e wT ⟨h, b⟩
        have CT := hide' (CM.out.trans (b.mono CM.out.size))
        have HXT := hide' (HXM.out.below b)
        clear b x0 x1 x2 x3 x4 x5 x6
        obtain ⟨x0, x1, x2, x3, x4, x5, x6⟩ := RX.out.next CT.out
        rcases h with ⟨he', _, _, _, oa', oc', rfl, ho⟩ | ⟨_, f, rfl⟩
        · have HO := hide' ho
          have HEO := hide' he'
          clear ho he'
          by_cases el : lo = lw
          · subst el
            have AX := hide' (fun (W : World) (hb : Below wT.heap.size wT W) => (⟨(AW.out.below CT.out).below hb, (AO.out.below CT.out).below hb, HXT.out.below hb, HO.out.below hb⟩ : ArgP W ws wa lo wc ∧ ArgP W os oa lo oc ∧ ArgP W (runL S R T n.toNat ws) xa lo xc ∧ ArgP W (runL S R T n.toNat os) oa' lo oc'))
            have RT := hide' (fun (W : World) (hb : Below wT.heap.size wT W) => RX.out.next (CT.out.trans (hb.mono CT.out.size)))
            have WO := hide' (wordE_zero HE.out)
            have OO := hide' (wordE_zero HEO.out)
            have XO := hide' (RO.out ws n.toNat WO.out.2)
            have YO := hide' (RO.out os n.toNat OO.out.2)
            have XL := hide' (show (runL S R T n.toNat ws).length = lo by rw [runL_length]; exact HLW.out)
            have YL := hide' (show (runL S R T n.toNat os).length = lo by rw [runL_length]; exact HLO.out)
            have BO := hide' (show runL S R T n.toNat (sumW S ws os) = sumW S (runL S R T n.toNat ws) (runL S R T n.toNat os) from run_both HL.out WO.out.2 OO.out.2 HLP.out (by rw [HLO.out, HLW.out]) n.toNat)
            have l1 : lo ≤ 1000 := by rw [← HLO.out]; exact OO.out.1
            obtain ⟨X', hX'⟩ : ∃ X', runL S R T n.toNat ws = X' := ⟨_, rfl⟩
            obtain ⟨Y', hY'⟩ : ∃ Y', runL S R T n.toNat os = Y' := ⟨_, rfl⟩
            rw [hX', hY'] at AX BO
            rw [hX'] at XO XL
            rw [hY'] at YO YL
            have PN := hide' (fun (xs ys : List Int) (i : Nat) (h : i < xs.length) => sumW_take (S := (S : Int)) (xs := xs) (ys := ys) h)
            have T0 := hide' (TV.start wT (sumW S ws os) (sumW S X' Y'))
            clear HXT HO hX' hY'
            go_wp2
            go_loopw [24, 25, 26] (fun b' m' iv wr => ∃ (i : Nat) (bv mv : Value), bv = b' ∧ mv = m' ∧ iv = .int .i64 (i : Int) ∧ i ≤ lo ∧ Hid (TV wT.heap.size wT wr bv i ((sumW S ws os).take i |>.map fun x => Value.int .i64 x) mv i ((sumW S X' Y').take i |>.map fun x => Value.int .i64 x))) (fun _ _ iv _ => lo - (intOf iv).toNat)
            case atStart => exact ⟨0, _, _, rfl, rfl, rfl, by omega, T0⟩
            case round =>
              obtain ⟨i, bv, mv, rfl, rfl, rfl, hi, H⟩ := hrel
              clear x0 x1 x2 x3 x4 x5 x6
              by_cases d : (i : Int) < (lo : Int)
              · obtain ⟨A1, A2, A3, A4⟩ := AX.out _ H.out.bl
                obtain ⟨ga, fa, ea, ka⟩ := A1.at (k := i) (by omega)
                obtain ⟨gb, fb, eb, kb⟩ := A2.at (k := i) (by omega)
                obtain ⟨gc, fc, ec, kc⟩ := A3.at (k := i) (by omega)
                obtain ⟨gd, fd, ed, kd⟩ := A4.at (k := i) (by omega)
                subst ea eb ec ed
                obtain ⟨x0, x1, x2, x3, x4, x5, x6⟩ := RT.out _ H.out.bl
                have u1 := cellsOk_at WO.out.2 (k := i) (by rw [HLW.out]; omega)
                have u2 := cellsOk_at OO.out.2 (k := i) (by rw [HLO.out]; omega)
                have u3 := cellsOk_at XO.out (k := i) (by rw [XL.out]; omega)
                have u4 := cellsOk_at YO.out (k := i) (by rw [YL.out]; omega)
                have PA := hide' (PN.out ws os i (by rw [HLW.out]; omega))
                have PB := hide' (PN.out X' Y' i (by rw [XL.out]; omega))
                have K4 := hide' (fun (W : World) (hb : Below wT.heap.size wT W) => cell_two (AX.out W hb).2.2.1 (AX.out W hb).2.2.2 (k := i) (by omega))
                obtain ⟨a1, e1⟩ : ∃ a1, ws.getD i 0 = a1 := ⟨_, rfl⟩
                obtain ⟨a2, e2⟩ : ∃ a2, os.getD i 0 = a2 := ⟨_, rfl⟩
                obtain ⟨b1, e3⟩ : ∃ b1, X'.getD i 0 = b1 := ⟨_, rfl⟩
                obtain ⟨b2, e4⟩ : ∃ b2, Y'.getD i 0 = b2 := ⟨_, rfl⟩
                rw [e1] at ka u1 PA
                rw [e2] at kb u2 PA
                rw [e3] at kc u3 PB K4
                rw [e4] at kd u4 PB K4
                have TM1 : (a1 + a2).tmod (S : Int) = (a1 + a2) % (S : Int) := Int.tmod_eq_emod_of_nonneg (by omega)
                have TM2 : (b1 + b2).tmod (S : Int) = (b1 + b2) % (S : Int) := Int.tmod_eq_emod_of_nonneg (by omega)
                have hsz := H.out.sz
                have sn : ¬ S = 0 := by omega
                have WR1 : IntKind.i64.wrap (a1 + a2) = a1 + a2 := wrapsmallK _ (by omega) (by omega)
                have WR2 : IntKind.i64.wrap (b1 + b2) = b1 + b2 := wrapsmallK _ (by omega) (by omega)
                clear e1 e2 e3 e4 A1 A2 A3 A4 kc kd
                go_wp2
                refine cut3 (P := fun gg cap w8 => Hid (TV wT.heap.size wT w8 (.slice (some ⟨gg, 0, none⟩) (i + 1) cap) (i + 1) (((sumW S ws os).take i |>.map fun x => Value.int .i64 x) ++ [.int .i64 ((a1 + a2) % (S : Int))]) mv i ((sumW S X' Y').take i |>.map fun x => Value.int .i64 x))) (Φ := ?PH3) (fun CUT => ?mn3) ?rs3
                case mn3 =>
                  go_region_law (refine step_append_lies _ (by rfl) _ _ _ (by rfl) wT.heap.size 3 i0 _ 1 8 Try.underlying22 hi0 hz0 hz1 hz2 rfl (by omega) bv i _ (by rfl) ((H.out.b1.alloc _).drew) ⟨wr.heap.size, 0, none⟩ 1 1 [.int .i64 ((a1 + a2) % (S : Int))] (by rfl) (by rfl) (World.news_of_block (cs := #[.int .i64 ((a1 + a2) % (S : Int))]) (t := 3) (fr := (0, 0)) (heap_alloc_new wr _)) (by simp [Value.oneCell']) (by omega) (by unfold maxLen; omega) (by omega) (by simp; omega) (wr.heap.size + 1) (by simp) ?_; intro gg cap w8 hown hgrow hat hlt; have T8 := hide' ((H.out.alloc _).app1 hown (grownBy_drew hgrow) (by simpa using hat)); clear hown hgrow hat hlt)
                  all_goals exact CUT _ _ _ T8
                case rs3 =>
                  intro gg cap w8 T8
                  clear x0 x1 x2 x3 x4 x5 x6 ka kb
                  obtain ⟨x0, x1, x2, x3, x4, x5, x6⟩ := RT.out _ T8.out.bl
                  obtain ⟨kc, kd⟩ := K4.out _ T8.out.bl
                  have hsz8 := T8.out.sz
                  go_wp2
                  go_region_law (refine step_append_lies _ (by rfl) _ _ _ (by rfl) wT.heap.size 3 i0 _ 1 8 Try.underlying22 hi0 hz0 hz1 hz2 rfl (by omega) mv i _ (by rfl) ((T8.out.b2.alloc _).drew) ⟨w8.heap.size, 0, none⟩ 1 1 [.int .i64 ((b1 + b2) % (S : Int))] (by rfl) (by rfl) (World.news_of_block (cs := #[.int .i64 ((b1 + b2) % (S : Int))]) (t := 3) (fr := (0, 0)) (heap_alloc_new w8 _)) (by simp [Value.oneCell']) (by omega) (by unfold maxLen; omega) (by omega) (by simp; omega) (w8.heap.size + 1) (by simp) ?_; intro g9 cap9 w9 hown hgrow hat hlt; have T9 := hide' ((T8.out.alloc _).app2 hown (grownBy_drew hgrow) (by simpa using hat)); clear hown hgrow hat hlt)
                  all_goals
                    go_wp2
                    exact ⟨⟨i + 1, _, _, rfl, rfl, by go_num, by omega, hide' (by rw [PA.out, PB.out]; exact T9.out)⟩, by simp [intOf]; omega⟩
              · have TF := hide' (show TV wT.heap.size wT wr bv lo ((sumW S ws os).map fun x => Value.int .i64 x) mv lo ((sumW S X' Y').map fun x => Value.int .i64 x) by
                  have h := H.out
                  rw [show i = lo by omega, List.take_of_length_le (by rw [sumW_length, HLW.out]; omega), List.take_of_length_le (by rw [sumW_length, XL.out]; omega)] at h
                  exact h)
                obtain ⟨pa, pc, rfl, hpa⟩ := row_list TF.out.b1 (by rw [sumW_length, HLW.out]) (by unfold maxLen; omega)
                obtain ⟨qa, qc, rfl, hqa⟩ := row_list TF.out.b2 (by rw [sumW_length, XL.out]) (by unfold maxLen; omega)
                have PA := hide' hpa
                have QA := hide' hqa
                have CF := hide' (CT.out.trans (TF.out.bl.mono CT.out.size))
                have JB := hide' (jump_len S R T (sumW S ws os) lo n ta tn tc pa pc wr HL.out (by rw [sumW_length, HLW.out]) (AT.out.below CF.out) PA.out)
                obtain ⟨x0, x1, x2, x3, x4, x5, x6⟩ := RX.out.next CF.out
                clear hpa hqa H TF
                go_wp2_with fail
                refine (show Calls Try.prog _ _ _ _ from JB.out).mono ?_
                unfold JumpL
                rintro e wJ ⟨h, b⟩
                have CJ := hide' (CF.out.trans (b.mono CF.out.size))
                have QJ := hide' (QA.out.below b)
                clear b x0 x1 x2 x3 x4 x5 x6 JB PA QA
                rcases h with ⟨_, _, _, _, va, vc, rfl, hv⟩ | ⟨q, _⟩
                · rw [BO.out] at hv
                  have HV := hide' hv
                  clear hv
                  go_wp2_with fail
                  refine (IntsEq _ _ _ _ _ _ _ _ HV.out QJ.out).mono ?_
                  rintro e wK ⟨rfl, b⟩
                  have CK := hide' (CJ.out.trans (b.mono CJ.out.size))
                  clear b
                  go_wp2
                  go_ret
                  exact ⟨rfl, BB.out.trans (CK.out.mono BB.out.size)⟩
                · exact absurd ⟨wordE_ok (by rw [sumW_length, HLW.out]; omega) (sumW_ok (by omega) _ _), HLP.out, n0, n1⟩ q
          · have el1 : ((lo : Int) != (lw : Int)) = true := by simp; omega
            go_wp2
            go_ret
            exact ⟨rfl, BB.out.trans (CT.out.mono BB.out.size)⟩
        · go_wp2
          go_ret
          exact ⟨rfl, BB.out.trans (CT.out.mono BB.out.size)⟩
    · clear RN
      obtain ⟨x0, x1, x2, x3, x4, x5, x6⟩ := RX.out.next C2.out
      go_wp2_with fail
      refine (JM.out _ xa xc (AT.out.below C2.out) HX.out).mono ?_
      unfold JumpL
      rintro e wM ⟨h, b⟩
      have CM := hide' (C2.out.trans (b.mono C2.out.size))
      have HXM := hide' (HX.out.below b)
      clear b x0 x1 x2 x3 x4 x5 x6
      obtain ⟨x0, x1, x2, x3, x4, x5, x6⟩ := RX.out.next CM.out
      rcases h with ⟨_, _, m0, m1, ya, yc, rfl, hy⟩ | ⟨_, f, rfl⟩
      · have HY := hide' hy
        clear hy
        by_cases nm : n ≤ 1000000000000000000 - m
        · go_wp2_with fail
          refine (JS.out _ (n + m) (AT.out.below CM.out) (AW.out.below CM.out)).mono ?_
          unfold JumpL
          rintro e wS ⟨h, b⟩
          have CS := hide' (CM.out.trans (b.mono CM.out.size))
          have HXS := hide' (HXM.out.below b)
          have HYS := hide' (HY.out.below b)
          clear b x0 x1 x2 x3 x4 x5 x6
          obtain ⟨x0, x1, x2, x3, x4, x5, x6⟩ := RX.out.next CS.out
          rcases h with ⟨_, _, _, _, za, zc, rfl, hz⟩ | ⟨q, _⟩
          · rw [ADD.out n0 m m0] at hz
            have HZ := hide' hz
            clear hz
            go_wp2_with fail
            refine (IntsEq _ _ _ _ _ _ _ _ HYS.out HZ.out).mono ?_
            rintro e wI ⟨rfl, b⟩
            have CI := hide' (CS.out.trans (b.mono CS.out.size))
            have HXI := hide' (HXS.out.below b)
            clear b x0 x1 x2 x3 x4 x5 x6 CS HXS HYS HZ CM HXM HY
            obtain ⟨x0, x1, x2, x3, x4, x5, x6⟩ := RX.out.next CI.out
            go_wp2_with fail
            refine (JO.out _ (AT.out.below CI.out) (AO.out.below CI.out)).mono ?_
            unfold JumpL
            rintro e wT ⟨h, b⟩
            have CT := hide' (CI.out.trans (b.mono CI.out.size))
            have HXT := hide' (HXI.out.below b)
            clear b x0 x1 x2 x3 x4 x5 x6
            obtain ⟨x0, x1, x2, x3, x4, x5, x6⟩ := RX.out.next CT.out
            rcases h with ⟨he', _, _, _, oa', oc', rfl, ho⟩ | ⟨_, f, rfl⟩
            · have HO := hide' ho
              have HEO := hide' he'
              clear ho he'
              by_cases el : lo = lw
              · subst el
                have AX := hide' (fun (W : World) (hb : Below wT.heap.size wT W) => (⟨(AW.out.below CT.out).below hb, (AO.out.below CT.out).below hb, HXT.out.below hb, HO.out.below hb⟩ : ArgP W ws wa lo wc ∧ ArgP W os oa lo oc ∧ ArgP W (runL S R T n.toNat ws) xa lo xc ∧ ArgP W (runL S R T n.toNat os) oa' lo oc'))
                have RT := hide' (fun (W : World) (hb : Below wT.heap.size wT W) => RX.out.next (CT.out.trans (hb.mono CT.out.size)))
                have WO := hide' (wordE_zero HE.out)
                have OO := hide' (wordE_zero HEO.out)
                have XO := hide' (RO.out ws n.toNat WO.out.2)
                have YO := hide' (RO.out os n.toNat OO.out.2)
                have XL := hide' (show (runL S R T n.toNat ws).length = lo by rw [runL_length]; exact HLW.out)
                have YL := hide' (show (runL S R T n.toNat os).length = lo by rw [runL_length]; exact HLO.out)
                have BO := hide' (show runL S R T n.toNat (sumW S ws os) = sumW S (runL S R T n.toNat ws) (runL S R T n.toNat os) from run_both HL.out WO.out.2 OO.out.2 HLP.out (by rw [HLO.out, HLW.out]) n.toNat)
                have l1 : lo ≤ 1000 := by rw [← HLO.out]; exact OO.out.1
                obtain ⟨X', hX'⟩ : ∃ X', runL S R T n.toNat ws = X' := ⟨_, rfl⟩
                obtain ⟨Y', hY'⟩ : ∃ Y', runL S R T n.toNat os = Y' := ⟨_, rfl⟩
                rw [hX', hY'] at AX BO
                rw [hX'] at XO XL
                rw [hY'] at YO YL
                have PN := hide' (fun (xs ys : List Int) (i : Nat) (h : i < xs.length) => sumW_take (S := (S : Int)) (xs := xs) (ys := ys) h)
                have T0 := hide' (TV.start wT (sumW S ws os) (sumW S X' Y'))
                clear HXT HO hX' hY'
                go_wp2
                go_loopw [24, 25, 26] (fun b' m' iv wr => ∃ (i : Nat) (bv mv : Value), bv = b' ∧ mv = m' ∧ iv = .int .i64 (i : Int) ∧ i ≤ lo ∧ Hid (TV wT.heap.size wT wr bv i ((sumW S ws os).take i |>.map fun x => Value.int .i64 x) mv i ((sumW S X' Y').take i |>.map fun x => Value.int .i64 x))) (fun _ _ iv _ => lo - (intOf iv).toNat)
                case atStart => exact ⟨0, _, _, rfl, rfl, rfl, by omega, T0⟩
                case round =>
                  obtain ⟨i, bv, mv, rfl, rfl, rfl, hi, H⟩ := hrel
                  clear x0 x1 x2 x3 x4 x5 x6
                  by_cases d : (i : Int) < (lo : Int)
                  · obtain ⟨A1, A2, A3, A4⟩ := AX.out _ H.out.bl
                    obtain ⟨ga, fa, ea, ka⟩ := A1.at (k := i) (by omega)
                    obtain ⟨gb, fb, eb, kb⟩ := A2.at (k := i) (by omega)
                    obtain ⟨gc, fc, ec, kc⟩ := A3.at (k := i) (by omega)
                    obtain ⟨gd, fd, ed, kd⟩ := A4.at (k := i) (by omega)
                    subst ea eb ec ed
                    obtain ⟨x0, x1, x2, x3, x4, x5, x6⟩ := RT.out _ H.out.bl
                    have u1 := cellsOk_at WO.out.2 (k := i) (by rw [HLW.out]; omega)
                    have u2 := cellsOk_at OO.out.2 (k := i) (by rw [HLO.out]; omega)
                    have u3 := cellsOk_at XO.out (k := i) (by rw [XL.out]; omega)
                    have u4 := cellsOk_at YO.out (k := i) (by rw [YL.out]; omega)
                    have PA := hide' (PN.out ws os i (by rw [HLW.out]; omega))
                    have PB := hide' (PN.out X' Y' i (by rw [XL.out]; omega))
                    have K4 := hide' (fun (W : World) (hb : Below wT.heap.size wT W) => cell_two (AX.out W hb).2.2.1 (AX.out W hb).2.2.2 (k := i) (by omega))
                    obtain ⟨a1, e1⟩ : ∃ a1, ws.getD i 0 = a1 := ⟨_, rfl⟩
                    obtain ⟨a2, e2⟩ : ∃ a2, os.getD i 0 = a2 := ⟨_, rfl⟩
                    obtain ⟨b1, e3⟩ : ∃ b1, X'.getD i 0 = b1 := ⟨_, rfl⟩
                    obtain ⟨b2, e4⟩ : ∃ b2, Y'.getD i 0 = b2 := ⟨_, rfl⟩
                    rw [e1] at ka u1 PA
                    rw [e2] at kb u2 PA
                    rw [e3] at kc u3 PB K4
                    rw [e4] at kd u4 PB K4
                    have TM1 : (a1 + a2).tmod (S : Int) = (a1 + a2) % (S : Int) := Int.tmod_eq_emod_of_nonneg (by omega)
                    have TM2 : (b1 + b2).tmod (S : Int) = (b1 + b2) % (S : Int) := Int.tmod_eq_emod_of_nonneg (by omega)
                    have hsz := H.out.sz
                    have sn : ¬ S = 0 := by omega
                    have WR1 : IntKind.i64.wrap (a1 + a2) = a1 + a2 := wrapsmallK _ (by omega) (by omega)
                    have WR2 : IntKind.i64.wrap (b1 + b2) = b1 + b2 := wrapsmallK _ (by omega) (by omega)
                    clear e1 e2 e3 e4 A1 A2 A3 A4 kc kd
                    go_wp2
                    refine cut3 (P := fun gg cap w8 => Hid (TV wT.heap.size wT w8 (.slice (some ⟨gg, 0, none⟩) (i + 1) cap) (i + 1) (((sumW S ws os).take i |>.map fun x => Value.int .i64 x) ++ [.int .i64 ((a1 + a2) % (S : Int))]) mv i ((sumW S X' Y').take i |>.map fun x => Value.int .i64 x))) (Φ := ?PH4) (fun CUT => ?mn4) ?rs4
                    case mn4 =>
                      go_region_law (refine step_append_lies _ (by rfl) _ _ _ (by rfl) wT.heap.size 3 i0 _ 1 8 Try.underlying22 hi0 hz0 hz1 hz2 rfl (by omega) bv i _ (by rfl) ((H.out.b1.alloc _).drew) ⟨wr.heap.size, 0, none⟩ 1 1 [.int .i64 ((a1 + a2) % (S : Int))] (by rfl) (by rfl) (World.news_of_block (cs := #[.int .i64 ((a1 + a2) % (S : Int))]) (t := 3) (fr := (0, 0)) (heap_alloc_new wr _)) (by simp [Value.oneCell']) (by omega) (by unfold maxLen; omega) (by omega) (by simp; omega) (wr.heap.size + 1) (by simp) ?_; intro gg cap w8 hown hgrow hat hlt; have T8 := hide' ((H.out.alloc _).app1 hown (grownBy_drew hgrow) (by simpa using hat)); clear hown hgrow hat hlt)
                      all_goals exact CUT _ _ _ T8
                    case rs4 =>
                      intro gg cap w8 T8
                      clear x0 x1 x2 x3 x4 x5 x6 ka kb
                      obtain ⟨x0, x1, x2, x3, x4, x5, x6⟩ := RT.out _ T8.out.bl
                      obtain ⟨kc, kd⟩ := K4.out _ T8.out.bl
                      have hsz8 := T8.out.sz
                      go_wp2
                      go_region_law (refine step_append_lies _ (by rfl) _ _ _ (by rfl) wT.heap.size 3 i0 _ 1 8 Try.underlying22 hi0 hz0 hz1 hz2 rfl (by omega) mv i _ (by rfl) ((T8.out.b2.alloc _).drew) ⟨w8.heap.size, 0, none⟩ 1 1 [.int .i64 ((b1 + b2) % (S : Int))] (by rfl) (by rfl) (World.news_of_block (cs := #[.int .i64 ((b1 + b2) % (S : Int))]) (t := 3) (fr := (0, 0)) (heap_alloc_new w8 _)) (by simp [Value.oneCell']) (by omega) (by unfold maxLen; omega) (by omega) (by simp; omega) (w8.heap.size + 1) (by simp) ?_; intro g9 cap9 w9 hown hgrow hat hlt; have T9 := hide' ((T8.out.alloc _).app2 hown (grownBy_drew hgrow) (by simpa using hat)); clear hown hgrow hat hlt)
                      all_goals
                        go_wp2
                        exact ⟨⟨i + 1, _, _, rfl, rfl, by go_num, by omega, hide' (by rw [PA.out, PB.out]; exact T9.out)⟩, by simp [intOf]; omega⟩
                  · have TF := hide' (show TV wT.heap.size wT wr bv lo ((sumW S ws os).map fun x => Value.int .i64 x) mv lo ((sumW S X' Y').map fun x => Value.int .i64 x) by
                      have h := H.out
                      rw [show i = lo by omega, List.take_of_length_le (by rw [sumW_length, HLW.out]; omega), List.take_of_length_le (by rw [sumW_length, XL.out]; omega)] at h
                      exact h)
                    obtain ⟨pa, pc, rfl, hpa⟩ := row_list TF.out.b1 (by rw [sumW_length, HLW.out]) (by unfold maxLen; omega)
                    obtain ⟨qa, qc, rfl, hqa⟩ := row_list TF.out.b2 (by rw [sumW_length, XL.out]) (by unfold maxLen; omega)
                    have PA := hide' hpa
                    have QA := hide' hqa
                    have CF := hide' (CT.out.trans (TF.out.bl.mono CT.out.size))
                    have JB := hide' (jump_len S R T (sumW S ws os) lo n ta tn tc pa pc wr HL.out (by rw [sumW_length, HLW.out]) (AT.out.below CF.out) PA.out)
                    obtain ⟨x0, x1, x2, x3, x4, x5, x6⟩ := RX.out.next CF.out
                    clear hpa hqa H TF
                    go_wp2_with fail
                    refine (show Calls Try.prog _ _ _ _ from JB.out).mono ?_
                    unfold JumpL
                    rintro e wJ ⟨h, b⟩
                    have CJ := hide' (CF.out.trans (b.mono CF.out.size))
                    have QJ := hide' (QA.out.below b)
                    clear b x0 x1 x2 x3 x4 x5 x6 JB PA QA
                    rcases h with ⟨_, _, _, _, va, vc, rfl, hv⟩ | ⟨q, _⟩
                    · rw [BO.out] at hv
                      have HV := hide' hv
                      clear hv
                      go_wp2_with fail
                      refine (IntsEq _ _ _ _ _ _ _ _ HV.out QJ.out).mono ?_
                      rintro e wK ⟨rfl, b⟩
                      have CK := hide' (CJ.out.trans (b.mono CJ.out.size))
                      clear b
                      go_wp2
                      go_ret
                      exact ⟨rfl, BB.out.trans (CK.out.mono BB.out.size)⟩
                    · exact absurd ⟨wordE_ok (by rw [sumW_length, HLW.out]; omega) (sumW_ok (by omega) _ _), HLP.out, n0, n1⟩ q
              · have el1 : ((lo : Int) != (lw : Int)) = true := by simp; omega
                go_wp2
                go_ret
                exact ⟨rfl, BB.out.trans (CT.out.mono BB.out.size)⟩
            · go_wp2
              go_ret
              exact ⟨rfl, BB.out.trans (CT.out.mono BB.out.size)⟩
          · exact absurd ⟨HE.out, HLP.out, by omega, by omega⟩ q
        · clear HY
          obtain ⟨x0, x1, x2, x3, x4, x5, x6⟩ := RX.out.next CM.out
          go_wp2_with fail
          refine (JO.out _ (AT.out.below CM.out) (AO.out.below CM.out)).mono ?_
          unfold JumpL
          rintro e wT ⟨h, b⟩
          have CT := hide' (CM.out.trans (b.mono CM.out.size))
          have HXT := hide' (HXM.out.below b)
          clear b x0 x1 x2 x3 x4 x5 x6
          obtain ⟨x0, x1, x2, x3, x4, x5, x6⟩ := RX.out.next CT.out
          rcases h with ⟨he', _, _, _, oa', oc', rfl, ho⟩ | ⟨_, f, rfl⟩
          · have HO := hide' ho
            have HEO := hide' he'
            clear ho he'
            by_cases el : lo = lw
            · subst el
              have AX := hide' (fun (W : World) (hb : Below wT.heap.size wT W) => (⟨(AW.out.below CT.out).below hb, (AO.out.below CT.out).below hb, HXT.out.below hb, HO.out.below hb⟩ : ArgP W ws wa lo wc ∧ ArgP W os oa lo oc ∧ ArgP W (runL S R T n.toNat ws) xa lo xc ∧ ArgP W (runL S R T n.toNat os) oa' lo oc'))
              have RT := hide' (fun (W : World) (hb : Below wT.heap.size wT W) => RX.out.next (CT.out.trans (hb.mono CT.out.size)))
              have WO := hide' (wordE_zero HE.out)
              have OO := hide' (wordE_zero HEO.out)
              have XO := hide' (RO.out ws n.toNat WO.out.2)
              have YO := hide' (RO.out os n.toNat OO.out.2)
              have XL := hide' (show (runL S R T n.toNat ws).length = lo by rw [runL_length]; exact HLW.out)
              have YL := hide' (show (runL S R T n.toNat os).length = lo by rw [runL_length]; exact HLO.out)
              have BO := hide' (show runL S R T n.toNat (sumW S ws os) = sumW S (runL S R T n.toNat ws) (runL S R T n.toNat os) from run_both HL.out WO.out.2 OO.out.2 HLP.out (by rw [HLO.out, HLW.out]) n.toNat)
              have l1 : lo ≤ 1000 := by rw [← HLO.out]; exact OO.out.1
              obtain ⟨X', hX'⟩ : ∃ X', runL S R T n.toNat ws = X' := ⟨_, rfl⟩
              obtain ⟨Y', hY'⟩ : ∃ Y', runL S R T n.toNat os = Y' := ⟨_, rfl⟩
              rw [hX', hY'] at AX BO
              rw [hX'] at XO XL
              rw [hY'] at YO YL
              have PN := hide' (fun (xs ys : List Int) (i : Nat) (h : i < xs.length) => sumW_take (S := (S : Int)) (xs := xs) (ys := ys) h)
              have T0 := hide' (TV.start wT (sumW S ws os) (sumW S X' Y'))
              clear HXT HO hX' hY'
              go_wp2
              go_loopw [24, 25, 26] (fun b' m' iv wr => ∃ (i : Nat) (bv mv : Value), bv = b' ∧ mv = m' ∧ iv = .int .i64 (i : Int) ∧ i ≤ lo ∧ Hid (TV wT.heap.size wT wr bv i ((sumW S ws os).take i |>.map fun x => Value.int .i64 x) mv i ((sumW S X' Y').take i |>.map fun x => Value.int .i64 x))) (fun _ _ iv _ => lo - (intOf iv).toNat)
              case atStart => exact ⟨0, _, _, rfl, rfl, rfl, by omega, T0⟩
              case round =>
                obtain ⟨i, bv, mv, rfl, rfl, rfl, hi, H⟩ := hrel
                clear x0 x1 x2 x3 x4 x5 x6
                by_cases d : (i : Int) < (lo : Int)
                · obtain ⟨A1, A2, A3, A4⟩ := AX.out _ H.out.bl
                  obtain ⟨ga, fa, ea, ka⟩ := A1.at (k := i) (by omega)
                  obtain ⟨gb, fb, eb, kb⟩ := A2.at (k := i) (by omega)
                  obtain ⟨gc, fc, ec, kc⟩ := A3.at (k := i) (by omega)
                  obtain ⟨gd, fd, ed, kd⟩ := A4.at (k := i) (by omega)
                  subst ea eb ec ed
                  obtain ⟨x0, x1, x2, x3, x4, x5, x6⟩ := RT.out _ H.out.bl
                  have u1 := cellsOk_at WO.out.2 (k := i) (by rw [HLW.out]; omega)
                  have u2 := cellsOk_at OO.out.2 (k := i) (by rw [HLO.out]; omega)
                  have u3 := cellsOk_at XO.out (k := i) (by rw [XL.out]; omega)
                  have u4 := cellsOk_at YO.out (k := i) (by rw [YL.out]; omega)
                  have PA := hide' (PN.out ws os i (by rw [HLW.out]; omega))
                  have PB := hide' (PN.out X' Y' i (by rw [XL.out]; omega))
                  have K4 := hide' (fun (W : World) (hb : Below wT.heap.size wT W) => cell_two (AX.out W hb).2.2.1 (AX.out W hb).2.2.2 (k := i) (by omega))
                  obtain ⟨a1, e1⟩ : ∃ a1, ws.getD i 0 = a1 := ⟨_, rfl⟩
                  obtain ⟨a2, e2⟩ : ∃ a2, os.getD i 0 = a2 := ⟨_, rfl⟩
                  obtain ⟨b1, e3⟩ : ∃ b1, X'.getD i 0 = b1 := ⟨_, rfl⟩
                  obtain ⟨b2, e4⟩ : ∃ b2, Y'.getD i 0 = b2 := ⟨_, rfl⟩
                  rw [e1] at ka u1 PA
                  rw [e2] at kb u2 PA
                  rw [e3] at kc u3 PB K4
                  rw [e4] at kd u4 PB K4
                  have TM1 : (a1 + a2).tmod (S : Int) = (a1 + a2) % (S : Int) := Int.tmod_eq_emod_of_nonneg (by omega)
                  have TM2 : (b1 + b2).tmod (S : Int) = (b1 + b2) % (S : Int) := Int.tmod_eq_emod_of_nonneg (by omega)
                  have hsz := H.out.sz
                  have sn : ¬ S = 0 := by omega
                  have WR1 : IntKind.i64.wrap (a1 + a2) = a1 + a2 := wrapsmallK _ (by omega) (by omega)
                  have WR2 : IntKind.i64.wrap (b1 + b2) = b1 + b2 := wrapsmallK _ (by omega) (by omega)
                  clear e1 e2 e3 e4 A1 A2 A3 A4 kc kd
                  go_wp2
                  refine cut3 (P := fun gg cap w8 => Hid (TV wT.heap.size wT w8 (.slice (some ⟨gg, 0, none⟩) (i + 1) cap) (i + 1) (((sumW S ws os).take i |>.map fun x => Value.int .i64 x) ++ [.int .i64 ((a1 + a2) % (S : Int))]) mv i ((sumW S X' Y').take i |>.map fun x => Value.int .i64 x))) (Φ := ?PH5) (fun CUT => ?mn5) ?rs5
                  case mn5 =>
                    go_region_law (refine step_append_lies _ (by rfl) _ _ _ (by rfl) wT.heap.size 3 i0 _ 1 8 Try.underlying22 hi0 hz0 hz1 hz2 rfl (by omega) bv i _ (by rfl) ((H.out.b1.alloc _).drew) ⟨wr.heap.size, 0, none⟩ 1 1 [.int .i64 ((a1 + a2) % (S : Int))] (by rfl) (by rfl) (World.news_of_block (cs := #[.int .i64 ((a1 + a2) % (S : Int))]) (t := 3) (fr := (0, 0)) (heap_alloc_new wr _)) (by simp [Value.oneCell']) (by omega) (by unfold maxLen; omega) (by omega) (by simp; omega) (wr.heap.size + 1) (by simp) ?_; intro gg cap w8 hown hgrow hat hlt; have T8 := hide' ((H.out.alloc _).app1 hown (grownBy_drew hgrow) (by simpa using hat)); clear hown hgrow hat hlt)
                    all_goals exact CUT _ _ _ T8
                  case rs5 =>
                    intro gg cap w8 T8
                    clear x0 x1 x2 x3 x4 x5 x6 ka kb
                    obtain ⟨x0, x1, x2, x3, x4, x5, x6⟩ := RT.out _ T8.out.bl
                    obtain ⟨kc, kd⟩ := K4.out _ T8.out.bl
                    have hsz8 := T8.out.sz
                    go_wp2
                    go_region_law (refine step_append_lies _ (by rfl) _ _ _ (by rfl) wT.heap.size 3 i0 _ 1 8 Try.underlying22 hi0 hz0 hz1 hz2 rfl (by omega) mv i _ (by rfl) ((T8.out.b2.alloc _).drew) ⟨w8.heap.size, 0, none⟩ 1 1 [.int .i64 ((b1 + b2) % (S : Int))] (by rfl) (by rfl) (World.news_of_block (cs := #[.int .i64 ((b1 + b2) % (S : Int))]) (t := 3) (fr := (0, 0)) (heap_alloc_new w8 _)) (by simp [Value.oneCell']) (by omega) (by unfold maxLen; omega) (by omega) (by simp; omega) (w8.heap.size + 1) (by simp) ?_; intro g9 cap9 w9 hown hgrow hat hlt; have T9 := hide' ((T8.out.alloc _).app2 hown (grownBy_drew hgrow) (by simpa using hat)); clear hown hgrow hat hlt)
                    all_goals
                      go_wp2
                      exact ⟨⟨i + 1, _, _, rfl, rfl, by go_num, by omega, hide' (by rw [PA.out, PB.out]; exact T9.out)⟩, by simp [intOf]; omega⟩
                · have TF := hide' (show TV wT.heap.size wT wr bv lo ((sumW S ws os).map fun x => Value.int .i64 x) mv lo ((sumW S X' Y').map fun x => Value.int .i64 x) by
                    have h := H.out
                    rw [show i = lo by omega, List.take_of_length_le (by rw [sumW_length, HLW.out]; omega), List.take_of_length_le (by rw [sumW_length, XL.out]; omega)] at h
                    exact h)
                  obtain ⟨pa, pc, rfl, hpa⟩ := row_list TF.out.b1 (by rw [sumW_length, HLW.out]) (by unfold maxLen; omega)
                  obtain ⟨qa, qc, rfl, hqa⟩ := row_list TF.out.b2 (by rw [sumW_length, XL.out]) (by unfold maxLen; omega)
                  have PA := hide' hpa
                  have QA := hide' hqa
                  have CF := hide' (CT.out.trans (TF.out.bl.mono CT.out.size))
                  have JB := hide' (jump_len S R T (sumW S ws os) lo n ta tn tc pa pc wr HL.out (by rw [sumW_length, HLW.out]) (AT.out.below CF.out) PA.out)
                  obtain ⟨x0, x1, x2, x3, x4, x5, x6⟩ := RX.out.next CF.out
                  clear hpa hqa H TF
                  go_wp2_with fail
                  refine (show Calls Try.prog _ _ _ _ from JB.out).mono ?_
                  unfold JumpL
                  rintro e wJ ⟨h, b⟩
                  have CJ := hide' (CF.out.trans (b.mono CF.out.size))
                  have QJ := hide' (QA.out.below b)
                  clear b x0 x1 x2 x3 x4 x5 x6 JB PA QA
                  rcases h with ⟨_, _, _, _, va, vc, rfl, hv⟩ | ⟨q, _⟩
                  · rw [BO.out] at hv
                    have HV := hide' hv
                    clear hv
                    go_wp2_with fail
                    refine (IntsEq _ _ _ _ _ _ _ _ HV.out QJ.out).mono ?_
                    rintro e wK ⟨rfl, b⟩
                    have CK := hide' (CJ.out.trans (b.mono CJ.out.size))
                    clear b
                    go_wp2
                    go_ret
                    exact ⟨rfl, BB.out.trans (CK.out.mono BB.out.size)⟩
                  · exact absurd ⟨wordE_ok (by rw [sumW_length, HLW.out]; omega) (sumW_ok (by omega) _ _), HLP.out, n0, n1⟩ q
            · have el1 : ((lo : Int) != (lw : Int)) = true := by simp; omega
              go_wp2
              go_ret
              exact ⟨rfl, BB.out.trans (CT.out.mono BB.out.size)⟩
          · go_wp2
            go_ret
            exact ⟨rfl, BB.out.trans (CT.out.mono BB.out.size)⟩
      · obtain ⟨x0, x1, x2, x3, x4, x5, x6⟩ := RX.out.next CM.out
        go_wp2_with fail
        refine (JO.out _ (AT.out.below CM.out) (AO.out.below CM.out)).mono ?_
        unfold JumpL
        rintro e wT ⟨h, b⟩
        have CT := hide' (CM.out.trans (b.mono CM.out.size))
        have HXT := hide' (HXM.out.below b)
        clear b x0 x1 x2 x3 x4 x5 x6
        obtain ⟨x0, x1, x2, x3, x4, x5, x6⟩ := RX.out.next CT.out
        rcases h with ⟨he', _, _, _, oa', oc', rfl, ho⟩ | ⟨_, f, rfl⟩
        · have HO := hide' ho
          have HEO := hide' he'
          clear ho he'
          by_cases el : lo = lw
          · subst el
            have AX := hide' (fun (W : World) (hb : Below wT.heap.size wT W) => (⟨(AW.out.below CT.out).below hb, (AO.out.below CT.out).below hb, HXT.out.below hb, HO.out.below hb⟩ : ArgP W ws wa lo wc ∧ ArgP W os oa lo oc ∧ ArgP W (runL S R T n.toNat ws) xa lo xc ∧ ArgP W (runL S R T n.toNat os) oa' lo oc'))
            have RT := hide' (fun (W : World) (hb : Below wT.heap.size wT W) => RX.out.next (CT.out.trans (hb.mono CT.out.size)))
            have WO := hide' (wordE_zero HE.out)
            have OO := hide' (wordE_zero HEO.out)
            have XO := hide' (RO.out ws n.toNat WO.out.2)
            have YO := hide' (RO.out os n.toNat OO.out.2)
            have XL := hide' (show (runL S R T n.toNat ws).length = lo by rw [runL_length]; exact HLW.out)
            have YL := hide' (show (runL S R T n.toNat os).length = lo by rw [runL_length]; exact HLO.out)
            have BO := hide' (show runL S R T n.toNat (sumW S ws os) = sumW S (runL S R T n.toNat ws) (runL S R T n.toNat os) from run_both HL.out WO.out.2 OO.out.2 HLP.out (by rw [HLO.out, HLW.out]) n.toNat)
            have l1 : lo ≤ 1000 := by rw [← HLO.out]; exact OO.out.1
            obtain ⟨X', hX'⟩ : ∃ X', runL S R T n.toNat ws = X' := ⟨_, rfl⟩
            obtain ⟨Y', hY'⟩ : ∃ Y', runL S R T n.toNat os = Y' := ⟨_, rfl⟩
            rw [hX', hY'] at AX BO
            rw [hX'] at XO XL
            rw [hY'] at YO YL
            have PN := hide' (fun (xs ys : List Int) (i : Nat) (h : i < xs.length) => sumW_take (S := (S : Int)) (xs := xs) (ys := ys) h)
            have T0 := hide' (TV.start wT (sumW S ws os) (sumW S X' Y'))
            clear HXT HO hX' hY'
            go_wp2
            go_loopw [24, 25, 26] (fun b' m' iv wr => ∃ (i : Nat) (bv mv : Value), bv = b' ∧ mv = m' ∧ iv = .int .i64 (i : Int) ∧ i ≤ lo ∧ Hid (TV wT.heap.size wT wr bv i ((sumW S ws os).take i |>.map fun x => Value.int .i64 x) mv i ((sumW S X' Y').take i |>.map fun x => Value.int .i64 x))) (fun _ _ iv _ => lo - (intOf iv).toNat)
            case atStart => exact ⟨0, _, _, rfl, rfl, rfl, by omega, T0⟩
            case round =>
              obtain ⟨i, bv, mv, rfl, rfl, rfl, hi, H⟩ := hrel
              clear x0 x1 x2 x3 x4 x5 x6
              by_cases d : (i : Int) < (lo : Int)
              · obtain ⟨A1, A2, A3, A4⟩ := AX.out _ H.out.bl
                obtain ⟨ga, fa, ea, ka⟩ := A1.at (k := i) (by omega)
                obtain ⟨gb, fb, eb, kb⟩ := A2.at (k := i) (by omega)
                obtain ⟨gc, fc, ec, kc⟩ := A3.at (k := i) (by omega)
                obtain ⟨gd, fd, ed, kd⟩ := A4.at (k := i) (by omega)
                subst ea eb ec ed
                obtain ⟨x0, x1, x2, x3, x4, x5, x6⟩ := RT.out _ H.out.bl
                have u1 := cellsOk_at WO.out.2 (k := i) (by rw [HLW.out]; omega)
                have u2 := cellsOk_at OO.out.2 (k := i) (by rw [HLO.out]; omega)
                have u3 := cellsOk_at XO.out (k := i) (by rw [XL.out]; omega)
                have u4 := cellsOk_at YO.out (k := i) (by rw [YL.out]; omega)
                have PA := hide' (PN.out ws os i (by rw [HLW.out]; omega))
                have PB := hide' (PN.out X' Y' i (by rw [XL.out]; omega))
                have K4 := hide' (fun (W : World) (hb : Below wT.heap.size wT W) => cell_two (AX.out W hb).2.2.1 (AX.out W hb).2.2.2 (k := i) (by omega))
                obtain ⟨a1, e1⟩ : ∃ a1, ws.getD i 0 = a1 := ⟨_, rfl⟩
                obtain ⟨a2, e2⟩ : ∃ a2, os.getD i 0 = a2 := ⟨_, rfl⟩
                obtain ⟨b1, e3⟩ : ∃ b1, X'.getD i 0 = b1 := ⟨_, rfl⟩
                obtain ⟨b2, e4⟩ : ∃ b2, Y'.getD i 0 = b2 := ⟨_, rfl⟩
                rw [e1] at ka u1 PA
                rw [e2] at kb u2 PA
                rw [e3] at kc u3 PB K4
                rw [e4] at kd u4 PB K4
                have TM1 : (a1 + a2).tmod (S : Int) = (a1 + a2) % (S : Int) := Int.tmod_eq_emod_of_nonneg (by omega)
                have TM2 : (b1 + b2).tmod (S : Int) = (b1 + b2) % (S : Int) := Int.tmod_eq_emod_of_nonneg (by omega)
                have hsz := H.out.sz
                have sn : ¬ S = 0 := by omega
                have WR1 : IntKind.i64.wrap (a1 + a2) = a1 + a2 := wrapsmallK _ (by omega) (by omega)
                have WR2 : IntKind.i64.wrap (b1 + b2) = b1 + b2 := wrapsmallK _ (by omega) (by omega)
                clear e1 e2 e3 e4 A1 A2 A3 A4 kc kd
                go_wp2
                refine cut3 (P := fun gg cap w8 => Hid (TV wT.heap.size wT w8 (.slice (some ⟨gg, 0, none⟩) (i + 1) cap) (i + 1) (((sumW S ws os).take i |>.map fun x => Value.int .i64 x) ++ [.int .i64 ((a1 + a2) % (S : Int))]) mv i ((sumW S X' Y').take i |>.map fun x => Value.int .i64 x))) (Φ := ?PH6) (fun CUT => ?mn6) ?rs6
                case mn6 =>
                  go_region_law (refine step_append_lies _ (by rfl) _ _ _ (by rfl) wT.heap.size 3 i0 _ 1 8 Try.underlying22 hi0 hz0 hz1 hz2 rfl (by omega) bv i _ (by rfl) ((H.out.b1.alloc _).drew) ⟨wr.heap.size, 0, none⟩ 1 1 [.int .i64 ((a1 + a2) % (S : Int))] (by rfl) (by rfl) (World.news_of_block (cs := #[.int .i64 ((a1 + a2) % (S : Int))]) (t := 3) (fr := (0, 0)) (heap_alloc_new wr _)) (by simp [Value.oneCell']) (by omega) (by unfold maxLen; omega) (by omega) (by simp; omega) (wr.heap.size + 1) (by simp) ?_; intro gg cap w8 hown hgrow hat hlt; have T8 := hide' ((H.out.alloc _).app1 hown (grownBy_drew hgrow) (by simpa using hat)); clear hown hgrow hat hlt)
                  all_goals exact CUT _ _ _ T8
                case rs6 =>
                  intro gg cap w8 T8
                  clear x0 x1 x2 x3 x4 x5 x6 ka kb
                  obtain ⟨x0, x1, x2, x3, x4, x5, x6⟩ := RT.out _ T8.out.bl
                  obtain ⟨kc, kd⟩ := K4.out _ T8.out.bl
                  have hsz8 := T8.out.sz
                  go_wp2
                  go_region_law (refine step_append_lies _ (by rfl) _ _ _ (by rfl) wT.heap.size 3 i0 _ 1 8 Try.underlying22 hi0 hz0 hz1 hz2 rfl (by omega) mv i _ (by rfl) ((T8.out.b2.alloc _).drew) ⟨w8.heap.size, 0, none⟩ 1 1 [.int .i64 ((b1 + b2) % (S : Int))] (by rfl) (by rfl) (World.news_of_block (cs := #[.int .i64 ((b1 + b2) % (S : Int))]) (t := 3) (fr := (0, 0)) (heap_alloc_new w8 _)) (by simp [Value.oneCell']) (by omega) (by unfold maxLen; omega) (by omega) (by simp; omega) (w8.heap.size + 1) (by simp) ?_; intro g9 cap9 w9 hown hgrow hat hlt; have T9 := hide' ((T8.out.alloc _).app2 hown (grownBy_drew hgrow) (by simpa using hat)); clear hown hgrow hat hlt)
                  all_goals
                    go_wp2
                    exact ⟨⟨i + 1, _, _, rfl, rfl, by go_num, by omega, hide' (by rw [PA.out, PB.out]; exact T9.out)⟩, by simp [intOf]; omega⟩
              · have TF := hide' (show TV wT.heap.size wT wr bv lo ((sumW S ws os).map fun x => Value.int .i64 x) mv lo ((sumW S X' Y').map fun x => Value.int .i64 x) by
                  have h := H.out
                  rw [show i = lo by omega, List.take_of_length_le (by rw [sumW_length, HLW.out]; omega), List.take_of_length_le (by rw [sumW_length, XL.out]; omega)] at h
                  exact h)
                obtain ⟨pa, pc, rfl, hpa⟩ := row_list TF.out.b1 (by rw [sumW_length, HLW.out]) (by unfold maxLen; omega)
                obtain ⟨qa, qc, rfl, hqa⟩ := row_list TF.out.b2 (by rw [sumW_length, XL.out]) (by unfold maxLen; omega)
                have PA := hide' hpa
                have QA := hide' hqa
                have CF := hide' (CT.out.trans (TF.out.bl.mono CT.out.size))
                have JB := hide' (jump_len S R T (sumW S ws os) lo n ta tn tc pa pc wr HL.out (by rw [sumW_length, HLW.out]) (AT.out.below CF.out) PA.out)
                obtain ⟨x0, x1, x2, x3, x4, x5, x6⟩ := RX.out.next CF.out
                clear hpa hqa H TF
                go_wp2_with fail
                refine (show Calls Try.prog _ _ _ _ from JB.out).mono ?_
                unfold JumpL
                rintro e wJ ⟨h, b⟩
                have CJ := hide' (CF.out.trans (b.mono CF.out.size))
                have QJ := hide' (QA.out.below b)
                clear b x0 x1 x2 x3 x4 x5 x6 JB PA QA
                rcases h with ⟨_, _, _, _, va, vc, rfl, hv⟩ | ⟨q, _⟩
                · rw [BO.out] at hv
                  have HV := hide' hv
                  clear hv
                  go_wp2_with fail
                  refine (IntsEq _ _ _ _ _ _ _ _ HV.out QJ.out).mono ?_
                  rintro e wK ⟨rfl, b⟩
                  have CK := hide' (CJ.out.trans (b.mono CJ.out.size))
                  clear b
                  go_wp2
                  go_ret
                  exact ⟨rfl, BB.out.trans (CK.out.mono BB.out.size)⟩
                · exact absurd ⟨wordE_ok (by rw [sumW_length, HLW.out]; omega) (sumW_ok (by omega) _ _), HLP.out, n0, n1⟩ q
          · have el1 : ((lo : Int) != (lw : Int)) = true := by simp; omega
            go_wp2
            go_ret
            exact ⟨rfl, BB.out.trans (CT.out.mono BB.out.size)⟩
        · go_wp2
          go_ret
          exact ⟨rfl, BB.out.trans (CT.out.mono BB.out.size)⟩
  · go_wp2
    go_ret
    exact ⟨rfl, BB.out.trans (C2.out.mono BB.out.size)⟩
end Go.Proofs.Ytjjdjdodhedihaa

