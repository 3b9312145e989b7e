/-
  What the last text of this claim leans on, part 19: Kab, Kac, Kd2.
-/
import Derived.Test.YtpajdmhgonmgoaaDoorYt18
import Derived.Test.YtpajdmhgonmgoaaDoorYt15
namespace Go.Proofs.YtpajdmhgonmgoaaDoor
open Go.Conc Go.ConcN
open Go.ConcR (KK wgBlock WgAt stA smA rd wr Payload DC0 Bk ofEvent_loc_mark)
set_option linter.unusedVariables false
section
variable [Payload] {s : Site} {w w' : World} {t₀ : Trace} {gs : Array Goroutine} {t : Trace} {j : Nat} {D : Nat → Wk} {q : Nat → Nat} {cl : Bool} {its buf : List Nat} {f : Addr → Int} {sl : Option (Nat × Nat)}
  {tag : CTag} {f0 d0 : Nat} {a : Goroutine} {st sm : Int}
theorem w1StepC (ok : s.Ok) (ha : gs[0]? = some a) (hj : j = s.n) (h2 : cl = true) (h3 : its = []) (x : Goes s.P true s.R0 s.D0 s.AtW1 f0 a w) (C : s.Crw t₀ gs w t j D q cl its buf f) (hwg : WgAt s.ty s.Wg w st sm) (hmode : Go.ConcN.Mode j (fun k => (D k).pr) .w1 st sm) (hd0 : Deaf t 0 = 1) :
    ∃ m₁ ops μ', runT s.P (crowd gs w sl) 0 = (.next m₁, ops) ∧ Lt2 μ' (s.Phi j D cl its buf .w1, s.Ful f0 j D q) ∧ s.Inv t₀ μ' m₁ (t ++ ops) := by
  rcases Goes.cases x with hstop | ⟨m', rfl, hstep⟩
  · obtain ⟨_, hall⟩ := hstop w C.fix
    obtain ⟨ho, rfl, rfl, _⟩ := hmode.open_inv trivial
    have hV := Vc_le j (fun k => (D k).pr)
    have hn2 := ok.n2
    obtain ⟨a', hgo, hz, hnz⟩ := hall (Vc j (fun k => (D k).pr)) (by omega) (by simpa [pend] using hwg)
    by_cases hv : Vc j (fun k => (D k).pr) = 0
    · obtain ⟨m₂, hk⟩ := hz hv
      refine zeroBook ok ha C hd0 hgo (.refl s.Wg w) hwg bk_rd (tag' := .ke) ⟨hj, h2, h3, rfl, hk⟩ rfl ?_ (.inl (by simp only [phiS, phi]; omega))
      have e : ((Vc j (fun k => (D k).pr) + pend .w1 : Nat) : Int) * KK = 0 := by rw [hv]; simp [pend]
      rw [e]
      exact .fin trivial (allQuit_of ho hv)
    · obtain ⟨m₂, hk⟩ := hnz hv
      exact zeroBook ok ha C hd0 hgo (.refl s.Wg w) hwg bk_rd (tag' := .w2 (Vc j (fun k => (D k).pr))) ⟨hj, h2, h3, rfl, hk⟩ rfl (hmode.reopen trivial trivial rfl (fun vs e => by cases e; omega)) (.inl (by simp only [phiS, phi]; omega))
  · obtain ⟨a', w', es, hgo, hD, hg'⟩ := hstep w C.fix
    exact zeroSilent ok ha C hwg hmode hd0 hgo hD ⟨hj, h2, h3, rfl, goes_0 hg'⟩ (by omega)
/-- THE STARTER WAITS. -/
theorem waitStep (ok : s.Ok) (ha : gs[0]? = some a) (hsp : s.SPos cl its tag j f0 d0 a w) (hcl : cl = true) (hr : a.status = .running) (C : s.Crw t₀ gs w t j D q cl its buf f) (hwg : WgAt s.ty s.Wg w st sm) (hmode : Go.ConcN.Mode j (fun k => (D k).pr) tag st sm) (hd0 : Deaf t 0 = d0) :
    (∃ m₁ ops μ', runT s.P (crowd gs w sl) 0 = (.next m₁, ops) ∧ Lt2 μ' (s.Phi j D cl its buf tag, s.Ful f0 j D q) ∧ s.Inv t₀ μ' m₁ (t ++ ops)) ∨ (tag = .acq ∧ d0 = 0 ∧ j = s.n ∧ its = [] ∧ s.AtAcq a w) := by
  cases tag with
  | sp r k => have := hsp.1; rw [hcl] at this; cases this
  | kd =>
    obtain ⟨h1, rfl, h3⟩ := hsp
    rcases h3 with ⟨e, _⟩ | ⟨h2, h3, x⟩
    · rw [hcl] at e; cases e
    · rcases Goes.cases x with hstop | ⟨m', rfl, hstep⟩
      · obtain ⟨_, a', hgo, m₂, hk⟩ := hstop w C.fix
        have hV := Vc_le j (fun k => (D k).pr)
        subst h2
        exact .inl (zeroBook ok ha C hd0 hgo (.refl s.Wg w) hwg bk_dis (tag' := .anch) ⟨h1, rfl, h3, rfl, hk⟩ rfl (hmode.reopen trivial trivial rfl (fun vs e => by cases e)) (.inl (by simp only [phiS, phi]; simp; omega)))
      · obtain ⟨a', w', es, hgo, hD, hg'⟩ := hstep w C.fix
        exact .inl (zeroSilent ok ha C hwg hmode hd0 hgo hD ⟨h1, rfl, .inr ⟨h2, h3, goes_0 hg'⟩⟩ (by omega))
  | anch =>
    obtain ⟨h1, h2, h3, rfl, x⟩ := hsp
    rcases Goes.cases x with hstop | ⟨m', rfl, hstep⟩
    · obtain ⟨m, hm⟩ := ok.anch a w (hstop w C.fix)
      obtain ⟨m₁, ops, μ', e1, e2, e3⟩ := w1StepC (sl := sl) ok ha h1 h2 h3 hm C hwg (hmode.reopen trivial trivial rfl (fun vs e => by cases e)) hd0
      refine .inl ⟨m₁, ops, μ', e1, lt2_trans e2 (Prod.Lex.left _ _ ?_), e3⟩
      unfold Site.Phi
      simp only [phiS, phi]
      omega
    · obtain ⟨a', w', es, hgo, hD, hg'⟩ := hstep w C.fix
      exact .inl (zeroSilent ok ha C hwg hmode hd0 hgo hD ⟨h1, h2, h3, rfl, goes_0 hg'⟩ (by omega))
  | w1 =>
    obtain ⟨h1, h2, h3, rfl, x⟩ := hsp
    exact .inl (w1StepC ok ha h1 h2 h3 x C hwg hmode hd0)
  | w2 vs =>
    obtain ⟨h1, h2, h3, rfl, x⟩ := hsp
    rcases Goes.cases x with hstop | ⟨m', rfl, hstep⟩
    · obtain ⟨_, hall⟩ := hstop w C.fix
      obtain ⟨ho, rfl, rfl, hw2⟩ := hmode.open_inv trivial
      obtain ⟨hv1, hv2⟩ := hw2 vs rfl
      have hV := Vc_le j (fun k => (D k).pr)
      have hn2 := ok.n2
      obtain ⟨hhit, hmiss⟩ := hall (Vc j (fun k => (D k).pr)) (by omega) (by simpa [pend] using hwg)
      by_cases hv : Vc j (fun k => (D k).pr) = vs
      · obtain ⟨a', hgo, m₂, hk⟩ := hhit hv
        exact .inl (zeroBook ok ha C hd0 hgo (aside_setCell w (stA s.Wg) _) (hwg.setSt _) bk_rw (tag' := .w3) (f' := m₂ + 1) ⟨h1, h2, h3, rfl, m₂, rfl, goes_0 hk⟩ (by simp [deafBehind, rd, wr]) (.reg trivial ho (by omega)) (.inl (by simp only [phiS, phi]; omega)))
      · obtain ⟨a', hgo, m₂, hk⟩ := hmiss hv
        exact .inl (zeroBook ok ha C hd0 hgo (.refl s.Wg w) hwg bk_rd (tag' := .anch) ⟨h1, h2, h3, rfl, hk⟩ rfl (hmode.reopen trivial trivial rfl (fun vs e => by cases e)) (.inl (by simp only [phiS, phi]; omega)))
    · obtain ⟨a', w', es, hgo, hD, hg'⟩ := hstep w C.fix
      exact .inl (zeroSilent ok ha C hwg hmode hd0 hgo hD ⟨h1, h2, h3, rfl, goes_0 hg'⟩ (by omega))
  | w3 =>
    obtain ⟨h1, h2, h3, rfl, m, rfl, x⟩ := hsp
    rcases Goes.cases x with hstop | ⟨m', rfl, hstep⟩
    · have h4 := hstop w C.fix
      obtain ⟨_, hoff, hblk, hgo⟩ := h4
      have blocks : sm = 0 → (∃ m₁ ops μ', runT s.P (crowd gs w sl) 0 = (.next m₁, ops) ∧ Lt2 μ' (s.Phi j D cl its buf .w3, s.Ful (m + 1) j D q) ∧ s.Inv t₀ μ' m₁ (t ++ ops)) := fun e => by
        subst e
        have hb := hblk ⟨st, hwg⟩
        exact zeroGo ok ha C hd0 hb C.fix rfl (fun _ _ => rfl) (fun op hop => by simp [ofEvents_none] at hop) (fun e he => by simp at he) (fun e he => by simp at he) (tag' := .blk) (f' := 0) ⟨h1, h2, h3, rfl, rfl, a, rfl, fun w₁ hw₁ => hstop w₁ hw₁⟩ rfl hwg (by
          cases hmode with
          | opn h _ _ => exact h.elim
          | reg _ ho hv => exact .reg trivial ho hv
          | last L _ hL h3 h4 => exact .last L trivial hL h3 h4
          | fin h _ => exact h.elim) (.inr ⟨rfl, by omega⟩)
      cases hmode with
      | opn h _ _ => exact h.elim
      | reg _ ho hv => exact .inl (blocks rfl)
      | last L _ hL h3 h4 => exact .inl (blocks rfl)
      | fin h _ => exact h.elim
      | sema hq =>
        obtain ⟨a', hgo, m₂, hk⟩ := hgo hwg
        refine .inl (zeroBook ok ha C hd0 hgo (aside_setCell w (smA s.Wg) _) (hwg.setSm 0) (es := semEvents (smA s.Wg)) ?_ (tag' := .w4) ⟨h1, h2, h3, rfl, goes_0 hk⟩ (by simp [deafBehind, semEvents]) (.fin trivial hq) (.inl (by simp only [phiS, phi]; omega)))
        intro e he
        simp [semEvents] at he
        rcases he with rfl | rfl | rfl | rfl
        · exact .inl rfl
        · exact bk_cell _ _ rfl
        · exact bk_cell _ _ rfl
        · exact .inr (.inl rfl)
    · obtain ⟨a', w', es, hgo, hD, hg'⟩ := hstep w C.fix
      exact .inl (zeroSilent ok ha C hwg hmode hd0 hgo hD ⟨h1, h2, h3, rfl, m', rfl, goes_0 hg'⟩ (by omega))
  | blk =>
    obtain ⟨_, _, _, _, _, g0, rfl, _⟩ := hsp
    simp at hr
  | w4 =>
    obtain ⟨h1, h2, h3, rfl, x⟩ := hsp
    rcases Goes.cases x with hstop | ⟨m', rfl, hstep⟩
    · obtain ⟨_, hx⟩ := hstop w C.fix
      obtain ⟨hq, rfl, rfl⟩ := hmode.fin_inv trivial
      obtain ⟨a', hgo, m₂, hk⟩ := hx hwg
      exact .inl (zeroBook ok ha C hd0 hgo (.refl s.Wg w) hwg bk_rd (tag' := .ke) ⟨h1, h2, h3, rfl, hk⟩ rfl (.fin trivial hq) (.inl (by simp only [phiS, phi]; omega)))
    · obtain ⟨a', w', es, hgo, hD, hg'⟩ := hstep w C.fix
      exact .inl (zeroSilent ok ha C hwg hmode hd0 hgo hD ⟨h1, h2, h3, rfl, goes_0 hg'⟩ (by omega))
  | ke =>
    obtain ⟨h1, h2, h3, rfl, x⟩ := hsp
    rcases Goes.cases x with hstop | ⟨m', rfl, hstep⟩
    · obtain ⟨_, a', hgo, m₂, hk⟩ := hstop w C.fix
      obtain ⟨hq, rfl, rfl⟩ := hmode.fin_inv trivial
      exact .inl (zeroBook ok ha C hd0 hgo (.refl s.Wg w) hwg bk_ena (tag' := .acq) ⟨h1, h2, h3, rfl, hk⟩ rfl (.fin trivial hq) (.inl (by simp only [phiS, phi]; omega)))
    · obtain ⟨a', w', es, hgo, hD, hg'⟩ := hstep w C.fix
      exact .inl (zeroSilent ok ha C hwg hmode hd0 hgo hD ⟨h1, h2, h3, rfl, goes_0 hg'⟩ (by omega))
  | acq =>
    obtain ⟨h1, h2, h3, rfl, x⟩ := hsp
    rcases Goes.cases x with hstop | ⟨m', rfl, hstep⟩
    · exact .inr ⟨rfl, rfl, h1, h3, hstop w C.fix⟩
    · obtain ⟨a', w', es, hgo, hD, hg'⟩ := hstep w C.fix
      exact .inl (zeroSilent ok ha C hwg hmode hd0 hgo hD ⟨h1, h2, h3, rfl, goes_0 hg'⟩ (by omega))
  | ret => exact hsp.elim
end
end Go.Proofs.YtpajdmhgonmgoaaDoor

namespace Go.Proofs.YtpajdmhgonmgoaaDoor
open Go.Conc Go.ConcN
open Go.ConcR (KK wgBlock WgAt stA smA rd wr Payload DC0 Bk ofEvent_loc_mark)
set_option linter.unusedVariables false
theorem sumTo_down {q : Nat → Nat} {i k : Nat} (hq : q i = k + 1) : ∀ {L : Nat}, i < L → sumTo L (upd q i k) + 1 = sumTo L q := fun {L} hi => by
  have : sumTo L (upd q i k) + (k + 1) = sumTo L q + k := by
    have := sumTo_upd q k id hi
    simpa [hq] using this
  omega
section
variable [Payload] {s : Site} {w w' : World} {t₀ : Trace} {gs : Array Goroutine} {t : Trace} {j : Nat} {D : Nat → Wk} {q : Nat → Nat} {cl : Bool} {its buf : List Nat} {f : Addr → Int} {sl : Option (Nat × Nat)}
  {tag : CTag} {f0 d0 : Nat} {a : Goroutine} {st sm : Int}
theorem Site.Crw.at (C : s.Crw t₀ gs w t j D q cl its buf f) (ok : s.Ok) (d : Nat) : s.Crw t₀ gs (w.at d) t j D q cl its buf f :=
  ⟨C.size, C.jn, C.old, fun k hk => let ⟨y, hy, py⟩ := C.wk k hk; ⟨y, hy, py.next ok C.fix (C.fix.at ok d)⟩, C.fix.at ok d, C.chan, C.vals, C.gi, C.room, C.dry, C.nopark, C.parkd, C.tr⟩
/-- The crew is joined. -/
def Site.Done (s : Site) (m : Machine) (t : Trace) : Prop :=
  ∃ (gs : Array Goroutine) (w : World) (sl : Option (Nat × Nat)) (a : Goroutine) (q : Nat → Nat) (f : Addr → Int), m = crowd gs w sl ∧ gs.size = s.L + s.n ∧ gs[0]? = some a ∧ a.status = .running ∧ s.Fin a w ∧ Leavers s.P t gs q ∧ Past s.Sh s.B t ∧ s.Fix w ∧
    (∀ a, s.IsAt a → w.cell? a = some (.int .i64 (f a))) ∧ s.GI f [] [] (fun _ => (none, [])) ∧ WgAt s.ty s.Wg w 0 0
/-- THE LAST STEP. -/
theorem finStep (ok : s.Ok) {Shun : Loc → Prop} {B₀ : Nat} (P0 : Past Shun B₀ t₀) (hS : ∀ l, Shun l → s.Sh l) (ha : gs[0]? = some a) (hat : s.AtAcq a w) (hj : j = s.n) (hi : its = []) (C : s.Crw t₀ gs w t j D q cl its buf f) (hwg : WgAt s.ty s.Wg w st sm) (hmode : Go.ConcN.Mode j (fun k => (D k).pr) .acq st sm) (hd0 : Deaf t 0 = 0) :
    ∃ m₁ ops, runT s.P (crowd gs w sl) 0 = (.next m₁, ops) ∧ s.Done m₁ (t ++ ops) := by
  have L0 := ok.L0
  have n1 := ok.n1
  subst hj hi
  obtain ⟨_, a', hgo, har, hfin⟩ := hat
  obtain ⟨hq, rfl, rfl⟩ := hmode.fin_inv trivial
  have stg : ∀ k, k < s.n → (D k).stage = 1 := fun k hk => by
    have : min (D k).stage 7 = 1 := hq k hk
    omega
  obtain ⟨rfl, _⟩ := C.dry 0 (by omega) (by rw [stg 0 (by omega)]; omega)
  have hrun := runT_crowd_go (P := s.P) (sl := sl) (i := 0) ha (by simpa using hgo)
  have hg0 : ∀ op ∈ MemOp.ofEvents 0 a.frame.fn a.frame.place #[Go.ConcR.mk (.acquire (stA s.Wg))], op.g = 0 := fun op hop => by obtain ⟨e, _, rfl⟩ := Go.Conc.mem_ofEvents hop; rfl
  have eo : MemOp.ofEvents 0 a.frame.fn a.frame.place #[Go.ConcR.mk (.acquire (stA s.Wg))] = #[{ g := 0, fn := a.frame.fn, pos := a.frame.place, act := .mark (.acquire (stA s.Wg)) }] := by rw [ofEvents_eq]; simp [Go.ConcR.ofEvent_mk]
  have C' := C.step0 ok (a := a) (a' := a') (w' := w) (es := #[Go.ConcR.mk (.acquire (stA s.Wg))]) (fn := a.frame.fn) (pos := a.frame.place) C.fix rfl (fun _ _ => rfl) (okT_none (by intro e he; simp at he; subst he; rfl)) (by intro e he; simp at he; subst he; simp [Go.ConcR.mk]) (by intro e he; simp at he; subst he; exact ok.lww)
  have hy : (t ++ MemOp.ofEvents 0 a.frame.fn a.frame.place #[Go.ConcR.mk (.acquire (stA s.Wg))])[t.size]? = some { g := 0, fn := a.frame.fn, pos := a.frame.place, act := .mark (.acquire (stA s.Wg)) } := by rw [eo]; simp
  have hdl : Deaf (t ++ MemOp.ofEvents 0 a.frame.fn a.frame.place #[Go.ConcR.mk (.acquire (stA s.Wg))]) 0 = 0 := by rw [Deaf_own, hd0]; rfl
  have hacq : AcqK s.Sh (stA s.Wg) s.L s.n (t ++ MemOp.ofEvents 0 a.frame.fn a.frame.place #[Go.ConcR.mk (.acquire (stA s.Wg))]) := by
    refine ⟨t.size, by rw [act?_of hy], by simp [Trace.g?, hy], ⟨0, by simp [Trace.g?, hy], by rw [deaf_old (Nat.le_refl _)]; exact hd0⟩, fun k hk => ?_⟩
    obtain ⟨r, hr⟩ := C.tr.rel k hk (by rw [stg k hk]; omega)
    exact ⟨r, hr.appOther hg0 (by omega), lt_of_act? hr.rel.act⟩
  refine ⟨_, _, hrun, _, w, sl, a', (fun i => if i < s.L then q i else (D (i - s.L)).fuel), f, rfl, by simp [C.size], get_map_set_same _ _ _ (by rw [C.size]; omega), har, hfin w C.fix, ⟨fun i g hi hg => ?_, fun i hi => ?_⟩, past_of_crew C'.tr.tj P0 hS C'.tr.ext hacq C'.tr.norel hdl C'.tr.low, C.fix, C.vals, ?_, hwg⟩
  · by_cases hl : i < s.L
    · simp only [if_pos hl]
      exact C'.old i g hi hl hg
    · simp only [if_neg hl]
      have his : i < s.L + s.n := by have := (Array.getElem?_eq_some_iff.1 hg).1; simp [C.size] at this; exact this
      obtain ⟨y, hy', py⟩ := C'.wk (i - s.L) (by omega)
      rw [show s.L + (i - s.L) = i by omega] at hy'
      obtain rfl : y = g := by rw [hy'] at hg; exact Option.some.inj hg
      have e1 := stg (i - s.L) (by omega)
      rw [wpos_q (.inl (by omega))] at py
      have hdw := C'.tr.deafW (i - s.L) (by omega)
      rw [show s.L + (i - s.L) = i by omega] at hdw
      rw [hdw]
      unfold Site.WQ at py
      rw [e1] at py
      generalize (D (i - s.L)).fuel = m at py ⊢
      generalize (D (i - s.L)).deaf = dd at py ⊢
      cases py with
      | quit h => exact h
  · exact C'.tr.above i (by simp [C.size] at hi; exact hi)
  · have : ghD D s.n = fun _ => (none, []) := by
      funext k
      unfold ghD
      by_cases c : k < s.n
      · rw [if_pos c, gh_low (by rw [stg k c]; omega)]
      · rw [if_neg c]
    rw [← this]; exact C.gi
/-- A LEAVER's STEP. -/
theorem leaverStep (ok : s.Ok) (ha : gs[0]? = some a) (hsp : s.SPos cl its tag j f0 d0 a w) (C : s.Crw t₀ gs w t j D q cl its buf f) (hwg : WgAt s.ty s.Wg w st sm) (hmode : Go.ConcN.Mode j (fun k => (D k).pr) tag st sm) (hd0 : Deaf t 0 = d0) {i : Nat} (h0 : 0 < i) (hi : i < s.L) {g : Goroutine} (hg : gs[i]? = some g) (hr : g.status = .running) :
    ∃ m₁ ops μ', runT s.P (crowd gs w sl) i = (.next m₁, ops) ∧ Lt2 μ' (s.Phi j D cl its buf tag, s.Ful f0 j D q) ∧ s.Inv t₀ μ' m₁ (t ++ ops) := by
  have hq := C.old i g h0 hi hg
  cases hqi : q i with
  | zero => rw [hqi] at hq; rw [hq.1] at hr; cases hr
  | succ k =>
    rw [hqi] at hq
    rcases hq with ⟨hf, _⟩ | ⟨_, g', es, hm, hstp, hq'⟩
    · rw [hf] at hr; cases hr
    have i0 : (i == 0) = false := by simp; omega
    have hrun := runT_crowd_go (P := s.P) (sl := sl) (i := i) hg (by rw [i0]; exact hstp w)
    have hg0 : ∀ op ∈ MemOp.ofEvents i g.frame.fn g.frame.place es, op.g = i := fun op hop => by obtain ⟨e, _, rfl⟩ := Go.Conc.mem_ofEvents hop; rfl
    obtain ⟨tag', f', hsp', hf', htag, hwk⟩ := hsp.wokenBy (w' := w) ok C.fix g g'
    have hsum := sumTo_down hqi hi
    refine ⟨_, _, (s.Phi j D cl its buf tag', s.Ful f' j D (upd q i k)), hrun, ?_, _, w, sl, j, D, upd q i k, cl, its, buf, f, tag', f', d0, woken s.P g g' w a, st, sm, rfl, by rw [get_map_set _ _ _ _ (by omega), ha]; rfl, hsp',
      ⟨by simp [C.size], C.jn, fun x y hx0 hx hy => ?_, fun x hx => ?_, C.fix, C.chan, C.vals, C.gi, C.room, C.dry, C.nopark, C.parkd, C.tr.mute h0 hi hm⟩, hwg, hmode.retag htag, by rw [Deaf_other t (g' := i) (by omega) _ hg0]; exact hd0, rfl⟩
    · unfold Site.Phi Site.Ful
      rw [phiS_retag _ _ _ htag]
      exact Prod.Lex.right _ (by omega)
    · by_cases e : x = i
      · subst e
        rw [get_map_set_same _ _ _ (by rw [C.size]; omega)] at hy
        rw [← Option.some.inj hy, upd_same, Deaf_own]
        exact hq'
      · rw [get_map_set _ _ _ _ (by omega)] at hy
        obtain ⟨z, hz, rfl⟩ := Option.map_eq_some_iff.1 hy
        have hqz := C.old x z hx0 hx hz
        rw [woken_quitsD hqz, upd_ne q k e, Deaf_other t (g' := i) (by omega) _ hg0]
        exact hqz
    · obtain ⟨y, hy, py⟩ := C.wk x hx
      refine ⟨y, ?_, py⟩
      rw [get_map_set _ _ _ _ (by omega), hy, Option.map_some, py.woken ok C.fix]
      intro e12
      exact C.open12 hx e12
/-- WHOEVER IS PICKED. -/
theorem crewStep (ok : s.Ok) {Shun : Loc → Prop} {B₀ : Nat} (P0 : Past Shun B₀ t₀) (hS : ∀ l, Shun l → s.Sh l) (μ : Nat × Nat) (m : Machine) (t : Trace) (h : s.Inv t₀ μ m t) :
    ∃ m₁ ops, stepT s.P m = (.next m₁, ops) ∧ (s.Done m₁ (t ++ ops) ∨ ∃ μ', Lt2 μ' μ ∧ s.Inv t₀ μ' m₁ (t ++ ops)) := by
  obtain ⟨gs, w, sl, j, D, q, cl, its, buf, f, tag, f0, d0, a, st, sm, rfl, ha, hsp, C, hwg, hmode, hd0, rfl⟩ := h
  have L0 := ok.L0
  have posOf : ∀ i g, gs[i]? = some g → s.L ≤ i → i - s.L < j ∧ s.WPos (D (i - s.L)) g w := fun i g hg hl => by
    have hs : i < s.L + j := by have := (Array.getElem?_eq_some_iff.1 hg).1; rw [C.size] at this; exact this
    obtain ⟨y, hy, py⟩ := C.wk (i - s.L) (by omega)
    rw [show s.L + (i - s.L) = i by omega] at hy
    obtain rfl : y = g := by rw [hy] at hg; exact Option.some.inj hg
    exact ⟨by omega, py⟩
  have haw : ∀ g ∈ gs, awake g := by
    intro g hg
    obtain ⟨i, hi, rfl⟩ := Array.mem_iff_getElem.1 hg
    have hgi : gs[i]? = some gs[i] := Array.getElem?_eq_getElem hi
    rcases Nat.eq_zero_or_pos i with rfl | hp
    · have e : gs[0] = a := by rw [hgi] at ha; exact Option.some.inj ha
      rw [e]
      rcases hsp.status ok C.fix with ⟨h, _⟩ | ⟨h, _⟩
      · exact awake_of (.inl h)
      · exact awake_of (.inr (.inl h))
    · by_cases hl : i < s.L
      · exact awake_of ((C.old i _ hp hl hgi).status.elim .inl (fun x => .inr (.inr x)))
      · obtain ⟨_, py⟩ := posOf i _ hgi (by omega)
        rcases py.status ok C.fix with ⟨_, g0, _, e⟩ | ⟨_, h⟩
        · rw [e]; exact awake_of (.inr (.inl rfl))
        · exact awake_of (h.elim .inl (fun x => .inr (.inr x.1)))
  have some1 : ∃ (i : Nat) (g : Goroutine), gs[i]? = some g ∧ g.status = .running := by
    rcases hsp.status ok C.fix with ⟨h, _⟩ | ⟨h, rfl, _⟩
    · exact ⟨0, a, ha, h⟩
    · have hcl : cl = true := hsp.2.1
      have : ∃ i, i < j ∧ (D i).stage ≠ 1 := by
        cases hmode with
        | opn h _ _ => exact h.elim
        | reg _ ho hv =>
          have hV : ¬ (∀ i, i < j → cnt (D i).pr = 0) := fun hall => by
            have : Vc j (fun k => (D k).pr) = 0 := by
              unfold Vc
              rw [sumTo_congr (g := fun _ => 0) (fun k hk => hall k hk)]
              have := sumTo_le (f := fun _ => 0) (c := 0) (j := j) (fun _ _ => Nat.le_refl _)
              omega
            omega
          apply Classical.byContradiction
          intro hn
          refine hV (fun i hi => ?_)
          have h1 : (D i).stage = 1 := Classical.byContradiction (fun x => hn ⟨i, hi, x⟩)
          simp [cnt, Wk.pr, h1]
        | last L _ hL h3 _ =>
          refine ⟨L, hL, fun e => ?_⟩
          simp only [Wk.pr, e] at h3
          omega
        | fin h _ => exact h.elim
      obtain ⟨i, hi, h1⟩ := this
      obtain ⟨y, hy, py⟩ := C.wk i hi
      rcases py.status ok C.fix with ⟨e12, _⟩ | ⟨_, h | ⟨_, e⟩⟩
      · exact absurd e12 (C.nopark hcl i hi)
      · exact ⟨_, y, hy, h⟩
      · exact absurd e h1
  obtain ⟨i, g, d, sl', hg, hr, hst⟩ := crowd_pick (P := s.P) (w := w) (sl := sl) haw some1
  rw [hst]
  have C' := C.at ok d
  have hsp' : s.SPos cl its tag j f0 d0 a (w.at d) := hsp.any
  have hwg' : WgAt s.ty s.Wg (w.at d) st sm := hwg
  have next : (∃ m₁ ops μ', runT s.P (crowd gs (w.at d) sl') i = (.next m₁, ops) ∧ Lt2 μ' (s.Phi j D cl its buf tag, s.Ful f0 j D q) ∧ s.Inv t₀ μ' m₁ (t ++ ops)) → ∃ m₁ ops, runT s.P (crowd gs (w.at d) sl') i = (.next m₁, ops) ∧ (s.Done m₁ (t ++ ops) ∨ ∃ μ', Lt2 μ' (s.Phi j D cl its buf tag, s.Ful f0 j D q) ∧ s.Inv t₀ μ' m₁ (t ++ ops)) :=
    fun ⟨m₁, ops, μ', e1, e2, e3⟩ => ⟨m₁, ops, e1, .inr ⟨μ', e2, e3⟩⟩
  rcases Nat.eq_zero_or_pos i with rfl | hp
  · obtain rfl : g = a := by rw [ha] at hg; exact (Option.some.inj hg).symm
    cases cl with
    | true =>
      rcases waitStep (sl := sl') ok ha hsp' rfl hr C' hwg' hmode hd0 with h | ⟨rfl, rfl, hj, hi, hat⟩
      · exact next h
      · obtain ⟨m₁, ops, e1, e2⟩ := finStep (sl := sl') ok P0 hS ha hat hj hi C' hwg' hmode hd0
        exact ⟨m₁, ops, e1, .inl e2⟩
    | false =>
      cases tag with
      | sp r k =>
        rcases startStep (sl := sl') ok ha hsp' C' hwg' hmode hd0 with h | ⟨rfl, rfl, hat⟩
        · exact next h
        · exact next (spawnStep ok ha hsp' hat C' hwg' hmode hd0)
      | kd =>
        obtain ⟨h1, rfl, h3⟩ := hsp'
        rcases h3 with ⟨_, x⟩ | ⟨e, _⟩
        · rcases Goes.cases x with hstop | ⟨m', rfl, hstep⟩
          · have hat := hstop (w.at d) C'.fix
            cases its with
            | nil => exact next (closeStep ok ha hat rfl h1 C' hwg' hmode hd0)
            | cons p its => exact next (sendStep ok ha hat rfl h1 C' hwg' hmode hd0)
          · obtain ⟨a', w', es, hgo, hD, hg'⟩ := hstep (w.at d) C'.fix
            exact next (zeroSilent ok ha C' hwg' hmode hd0 hgo hD ⟨h1, rfl, .inl ⟨rfl, goes_0 hg'⟩⟩ (by omega))
        · cases e
      | anch => have := hsp'.2.1; cases this
      | w1 => have := hsp'.2.1; cases this
      | w2 vs => have := hsp'.2.1; cases this
      | w3 => have := hsp'.2.1; cases this
      | blk => have := hsp'.2.1; cases this
      | w4 => have := hsp'.2.1; cases this
      | ke => have := hsp'.2.1; cases this
      | acq => have := hsp'.2.1; cases this
      | ret => exact hsp'.elim
  · by_cases hl : i < s.L
    · exact next (leaverStep ok ha hsp' C' hwg' hmode hd0 hp hl hg hr)
    · obtain ⟨hk, py⟩ := posOf i g hg (by omega)
      have hg' : gs[s.L + (i - s.L)]? = some g := by rw [show s.L + (i - s.L) = i by omega]; exact hg
      have e : s.L + (i - s.L) = i := by omega
      by_cases h7 : (D (i - s.L)).stage ≤ 7
      · have := doneStep (sl := sl') ok ha hsp' C' hwg' hmode hd0 hk hg' hr h7
        rw [e] at this
        exact next this
      · have h913 : (D (i - s.L)).stage = 9 ∨ (D (i - s.L)).stage = 10 ∨ (D (i - s.L)).stage = 11 ∨ (D (i - s.L)).stage = 12 ∨ (D (i - s.L)).stage = 13 := by
          rcases wpos_all (D (i - s.L)) with q | q | q | q | q | q | q
          · omega
          · omega
          · omega
          · omega
          · omega
          · omega
          · exfalso
            rw [wpos_q q] at py
            unfold Site.WQ at py
            generalize (D (i - s.L)).stage = sg at py h7
            generalize (D (i - s.L)).fuel = m at py
            generalize (D (i - s.L)).deaf = dd at py
            cases py <;> omega
        have := rangeStep (sl := sl') ok ha hsp' C' hwg' hmode hd0 hk hg' hr h913
        rw [e] at this
        exact next this
/-- ████ ON WHATEVER TAPE THE CREW IS JOINED. ████ -/
theorem crew_joins (ok : s.Ok) {Shun : Loc → Prop} {B₀ : Nat} (P0 : Past Shun B₀ t₀) (hS : ∀ l, Shun l → s.Sh l) : ∀ (μ : Nat × Nat) (m : Machine) (t : Trace), s.Inv t₀ μ m t → ∃ N m' t', runNT s.P N m t = (.next m', t') ∧ s.Done m' t' := by
  intro μ
  induction μ using (Prod.lex Nat.lt_wfRel Nat.lt_wfRel).wf.induction with
  | _ μ ih =>
    intro m t h
    obtain ⟨m₁, ops, hst, hD | ⟨μ', hlt, hI⟩⟩ := crewStep ok P0 hS μ m t h
    · exact ⟨1, m₁, t ++ ops, by simp [runNT, hst], hD⟩
    · obtain ⟨N, m', t', h1, h2⟩ := ih μ' hlt m₁ (t ++ ops) hI
      exact ⟨N + 1, m', t', by rw [runNT_succ_next hst]; exact h1, h2⟩
end
end Go.Proofs.YtpajdmhgonmgoaaDoor

namespace Go.Proofs.YtpajdmhgonmgoaaDoor
open Go.RowKit
set_option linter.unusedVariables false
open Go.Conc Go.ConcN Go.RowKit
open Go.ConcR (KK wgBlock WgAt stA smA rd wr Payload DC0)
set_option linter.unusedSimpArgs false
theorem runNT_then {P : Program} {N : Nat} {m m1 : Machine} {t t1 : Trace} (h : runNT P N m t = (.next m1, t1)) (M : Nat) : runNT P (N + M) m t = runNT P M m1 t1 := by rw [runNT_add, h]
/-- Goroutine 0 stands at g; the others are leaving. -/
def Bes (P : Program) (Shun : Loc → Prop) (B : Nat) (g : Goroutine) (w : World) (m : Machine) (t : Trace) : Prop :=
  ∃ (gs : Array Goroutine) (sl : Option (Nat × Nat)) (q : Nat → Nat), m = crowd gs w sl ∧ gs[0]? = some g ∧ Leavers P t gs q ∧ Past Shun B t
theorem Bes.mono {P : Program} {Shun : Loc → Prop} {B B' : Nat} {g : Goroutine} {w : World} {m : Machine} {t : Trace} (h : Bes P Shun B g w m t) (hB : B ≤ B') : Bes P Shun B' g w m t := by
  obtain ⟨gs, sl, q, h1, h2, h3, h4⟩ := h
  exact ⟨gs, sl, q, h1, h2, h3, h4.mono hB⟩
/-- Its walk, carried out. -/
theorem bes_walk {P : Program} {Shun : Loc → Prop} {B n : Nat} {S : Goroutine → World → Prop} {F : World → Prop} {g : Goroutine} {w : World} {m : Machine} {t : Trace} (hG : Gp P (EvL Shun B) S n g F) (hF : F w) (h : Bes P Shun B g w m t) :
    ∃ N m' t' g' w', runNT P N m t = (.next m', t') ∧ S g' w' ∧ Bes P Shun B g' w' m' t' := by
  obtain ⟨gs, sl, q, rfl, h2, h3, h4⟩ := h
  obtain ⟨N, gs', a', w', sl', t', q', r1, r2, r3, r4, r5, r6⟩ := walk_beside (D := fun _ _ es => ∀ e ∈ es, EvL Shun B e) (fun _ _ _ h => h) _ n gs g w sl t q (Nat.le_refl _) h2 h3 h4 (hG w hF)
  exact ⟨N, _, t', a', w', r1, r4, gs', sl', q', rfl, r3, r5, r6⟩
/-- Its last walk. -/
theorem bes_ends {P : Program} {Shun : Loc → Prop} {B n : Nat} {Post : Value → World → Prop} {F : World → Prop} {g : Goroutine} {w : World} {m : Machine} {t : Trace} (hG : Gp P (EvL Shun B) (AtEnd P Shun B Post) n g F) (hF : F w) (h : Bes P Shun B g w m t) :
    ∃ N last o w' t', runNT P (N + 1) m t = (.ended o w', t') ∧ runN P N m = .next last ∧ step P last = .ended o w' ∧ Go.Conc.Good P Post last o w' t' := by
  obtain ⟨gs, sl, q, rfl, h2, h3, h4⟩ := h
  exact beside_ends (D := fun _ _ es => ∀ e ∈ es, EvL Shun B e) (fun _ _ _ h => h) h2 h3 h4 (hG w hF)
/-- THE CREW, from where its starter begins to where it is joined. -/
theorem crew_run [Payload] {s : Site} (ok : s.Ok) (n1 : 1 ≤ s.n) {Shun : Loc → Prop} {B : Nat} (hS : ∀ l, Shun l → s.Sh l) (hB : B ≤ s.B) (hrel : s.Wg ≥ B) {gs : Array Goroutine} {sl : Option (Nat × Nat)} {q : Nat → Nat} {g : Goroutine} {w : World} {t : Trace}
    (h0 : gs[0]? = some g) (hL : Leavers s.P t gs q) (hP : Past Shun B t) (eL : s.L = gs.size) (hg : s.Spawns s.n g w) (hF : s.Fix w) {f : Addr → Int} (hv : ∀ a, s.IsAt a → w.cell? a = some (.int .i64 (f a)))
    (hch : ∃ sn rc, w.heap[s.ch]? = some (.chan s.cap #[] false sn rc false)) (hgi : s.GI f [] s.items (fun _ => (none, []))) (hroom : s.items.length ≤ s.cap) (hwg : WgAt s.ty s.Wg w 0 0) :
    ∃ N m' t', runNT s.P N (crowd gs w sl) t = (.next m', t') ∧ s.Done m' t' := by
  obtain ⟨r, hr⟩ : ∃ r, s.n = r + 1 := ⟨s.n - 1, by omega⟩
  rw [hr] at hg
  obtain ⟨m, hg⟩ := hg
  have ej : s.n - (r + 1) = 0 := by omega
  rw [ej] at hg
  obtain ⟨D, hD⟩ : ∃ D : Nat → Wk, D = fun _ => ⟨0, 0, 0, 0, []⟩ := ⟨_, rfl⟩
  have no : ∀ {i : Nat}, ¬ i < 0 := fun {i} => Nat.not_lt_zero i
  refine crew_joins ok hP hS _ (crowd gs w sl) t ⟨gs, w, sl, 0, D, q, false, s.items, [], f, .sp r 5, m, 0, g, 0, 0, rfl, h0, ⟨rfl, rfl, by omega, ej.symm, Or.inl ⟨rfl, rfl, hg⟩⟩, ?_, hwg, ?_, hP.hears, rfl⟩
  · refine ⟨by rw [eL]; rfl, Nat.zero_le _, fun i y hi _ hy => hL.old i y hi hy, fun i hi => (no hi).elim, hF, hch, hv, ?_, by simpa using hroom, fun i hi => (no hi).elim, (fun h => by cases h), fun i hi => (no hi).elim, ?_⟩
    · have : ghD D 0 = fun _ => (none, []) := by
        funext i
        simp [ghD]
      rw [this]; exact hgi
    · refine ⟨fun k hk => hL.above k (by rw [← eL]; simpa using hk), TJ.start hP hS ok.shr, Ext.refl _ _ _, ?_, fun i hi => (no hi).elim, fun i hi => (no hi).elim, fun op hop => MemAct.low_mono hB (hP.seen op hop)⟩
      intro i hi
      unfold Trace.act? at hi
      obtain ⟨op, ho, he⟩ := Option.map_eq_some_iff.1 hi
      have h1 := hP.seen op (Array.mem_of_getElem? ho)
      rw [he] at h1
      have h2 : s.Wg < B := h1
      omega
  · have := Mode.opn (j := 0) (D := fun k => (D k).pr) (tag := .sp r 5) trivial (fun i hi => (no hi).elim) (fun vs h => by cases h)
    simpa [Vc, sumTo, pend] using this
end Go.Proofs.YtpajdmhgonmgoaaDoor

