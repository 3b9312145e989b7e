/-
  What the last text of this claim leans on, part 20: Ka9.
-/
import Derived.Test.YtpajdmhgonmgoaaDoorYs19
namespace Go.Proofs.YtpajdmhgonmgoaaDoor
open Go.Conc Go.ConcN
open Go.ConcR (KK wgBlock WgAt stA smA rd wr Payload DC0 Bk ofEvent_loc_mark)
set_option linter.unusedVariables false
theorem vc_all {j : Nat} {D : Nat → WD} (h : ∀ i, i < j → 5 ≤ (D i).stage) : Vc j D = j := by
  unfold Vc
  induction j with
  | zero => rfl
  | succ j ih =>
    rw [sumTo, ih (fun i hi => h i (by omega))]
    have : cnt (D j) = 1 := by unfold cnt; rw [if_pos (h j (by omega))]
    omega
theorem bk_dis {Wg : Nat} : ∀ e ∈ #[Go.ConcR.mk .disable], Bk Wg e := by intro e he; simp at he; subst he; exact .inl rfl
theorem bk_ena {Wg : Nat} : ∀ e ∈ #[Go.ConcR.mk .enable], Bk Wg e := by intro e he; simp at he; subst he; exact .inr (.inl rfl)
theorem bk_rd {Wg : Nat} : ∀ e ∈ #[rd (stA Wg)], Bk Wg e := by intro e he; simp at he; subst he; exact bk_cell _ _ rfl
theorem bk_rw {Wg : Nat} : ∀ e ∈ #[rd (stA Wg), wr (stA Wg)], Bk Wg e := by intro e he; simp at he; rcases he with rfl | rfl <;> exact bk_cell _ _ rfl
section
variable [Payload] {s : Site} {w w' : World} {t₀ : Trace} {gs : Array Goroutine} {t : Trace} {j : Nat} {D : Nat → Wk} {q : Nat → Nat} {cl : Bool} {its buf : List Nat} {f : Addr → Int} {sl : Option (Nat × Nat)}
  {tag : CTag} {f0 d0 : Nat} {a : Goroutine} {st sm : Int}
/-- The starter's own step, the channel as it was. -/
theorem Site.Crw.step0 (ok : s.Ok) (C : s.Crw t₀ gs w t j D q cl its buf f) {a' : Goroutine} {es : Array Event} {fn : FuncId} {pos : String}
    (hx : s.Fix w') (hch : w'.heap[s.ch]? = w.heap[s.ch]?) (hv : ∀ a, s.IsAt a → w'.cell? a = w.cell? a)
    (hok : ∀ op ∈ MemOp.ofEvents 0 fn pos es, OkT s.Sh s.Rd 0 op) (hnr : ∀ e ∈ es, e.loc ≠ .mark (.release (stA s.Wg))) (hlow : ∀ e ∈ es, (MemAct.ofEvent e).low s.B) :
    s.Crw t₀ ((gs.map (woken s.P a a' w')).setIfInBounds 0 a') w' (t ++ MemOp.ofEvents 0 fn pos es) j D q cl its buf f := by
  have hg0 : ∀ op ∈ MemOp.ofEvents 0 fn pos es, op.g = 0 := fun op hop => by obtain ⟨e, _, rfl⟩ := Go.Conc.mem_ofEvents hop; rfl
  have L0 := ok.L0
  obtain ⟨sn, rc, hc⟩ := C.chan
  refine ⟨by simp [C.size], C.jn, fun k y h0 hk hy => ?_, fun k hk => ?_, hx, ⟨sn, rc, hch.trans hc⟩, fun b hb => (hv b hb).trans (C.vals b hb), C.gi, C.room, C.dry, C.nopark, C.parkd, C.tr.zero ok.shr L0 hok hnr hlow⟩
  · rw [get_map_set _ _ _ _ (by omega)] at hy
    obtain ⟨z, hz, rfl⟩ := Option.map_eq_some_iff.1 hy
    have hq := C.old k z h0 hk hz
    rw [woken_quitsD hq, Deaf_other t (g' := 0) (by omega) _ hg0]
    exact hq
  · obtain ⟨y, hy, py⟩ := C.wk k hk
    refine ⟨y, ?_, py.next ok C.fix hx⟩
    rw [get_map_set _ _ _ _ (by omega), hy, Option.map_some, py.woken ok C.fix]
    intro e12
    obtain ⟨b, sn', rc', hb⟩ := C.open12 hk e12
    exact ⟨b, sn', rc', hch.trans hb⟩
/-- WHATEVER STEP OF ITS OWN THE STARTER TAKES, the channel as it was. -/
theorem zeroGo (ok : s.Ok) (ha : gs[0]? = some a) (C : s.Crw t₀ gs w t j D q cl its buf f) (hd0 : Deaf t 0 = d0) {a' : Goroutine} {es : Array Event} {tag' : CTag} {f' d' : Nat} {st' sm' : Int} (hgo : stepG s.P true a w = .go a' w' es)
    (hx : s.Fix w') (hch : w'.heap[s.ch]? = w.heap[s.ch]?) (hv : ∀ a, s.IsAt a → w'.cell? a = w.cell? a)
    (hok : ∀ op ∈ MemOp.ofEvents 0 a.frame.fn a.frame.place es, OkT s.Sh s.Rd 0 op) (hnr : ∀ e ∈ es, e.loc ≠ .mark (.release (stA s.Wg))) (hlow : ∀ e ∈ es, (MemAct.ofEvent e).low s.B)
    (hsp' : s.SPos cl its tag' j f' d' a' w') (hdf : deafBehind d0 es = d') (hwg' : WgAt s.ty s.Wg w' st' sm') (hmode' : Go.ConcN.Mode j (fun k => (D k).pr) tag' st' sm')
    (hlt : phiS s.n (Vc j (fun k => (D k).pr)) cl tag' < phiS s.n (Vc j (fun k => (D k).pr)) cl tag ∨ (phiS s.n (Vc j (fun k => (D k).pr)) cl tag' = phiS s.n (Vc j (fun k => (D k).pr)) cl tag ∧ f' < f0)) :
    ∃ m₁ ops μ', runT s.P (crowd gs w sl) 0 = (.next m₁, ops) ∧ Lt2 μ' (s.Phi j D cl its buf tag, s.Ful f0 j D q) ∧ s.Inv t₀ μ' m₁ (t ++ ops) := by
  have hrun := runT_crowd_go (P := s.P) (sl := sl) (i := 0) ha (by simpa using hgo)
  have L0 := ok.L0
  refine ⟨_, _, (s.Phi j D cl its buf tag', s.Ful f' j D q), hrun, ?_, _, w', sl, j, D, q, cl, its, buf, f, tag', f', d', a', st', sm', rfl, get_map_set_same _ _ _ (by rw [C.size]; omega), hsp', C.step0 ok hx hch hv hok hnr hlow, hwg', hmode', ?_, rfl⟩
  · unfold Site.Phi Site.Ful
    rcases hlt with h | ⟨h1, h2⟩
    · exact Prod.Lex.left _ _ (by omega)
    · rw [h1]; exact Prod.Lex.right _ (by omega)
  · rw [Deaf_own, hd0]; exact hdf
/-- A silent step of the starter's. -/
theorem zeroSilent (ok : s.Ok) (ha : gs[0]? = some a) (C : s.Crw t₀ gs w t j D q cl its buf f) (hwg : WgAt s.ty s.Wg w st sm) (hmode : Go.ConcN.Mode j (fun k => (D k).pr) tag st sm) (hd0 : Deaf t 0 = d0) {a' : Goroutine} {es : Array Event} {f' : Nat} (hgo : stepG s.P true a w = .go a' w' es) (hD : s.D0 w w' es) (hsp' : s.SPos cl its tag j f' d0 a' w') (hf : f' < f0) :
    ∃ m₁ ops μ', runT s.P (crowd gs w sl) 0 = (.next m₁, ops) ∧ Lt2 μ' (s.Phi j D cl its buf tag, s.Ful f0 j D q) ∧ s.Inv t₀ μ' m₁ (t ++ ops) := by
  obtain ⟨⟨d, rfl⟩, hev⟩ := hD
  refine zeroGo ok ha C hd0 hgo (C.fix.at ok d) rfl (fun _ _ => rfl) (fun op hop => ?_) (fun e he => ?_) (fun e he => ?_) hsp' (deafBehind_idle (fun e he => ?_) _) hwg hmode (.inr ⟨rfl, hf⟩)
  · obtain ⟨e, he, rfl⟩ := Go.Conc.mem_ofEvents hop
    refine ⟨rfl, fun x hx => ?_⟩
    rcases hev e he with ⟨b, rfl, hb⟩ | rfl | rfl
    · simp only [ofEvent_cell0, MemAct.touch?, Option.some.injEq] at hx
      subst hx
      exact .inr (.inl ⟨⟨b, rfl, hb⟩, rfl⟩)
    · simp only [Go.ConcR.mk, MemAct.ofEvent, MemAct.touch?, Option.some.injEq] at hx
      subst hx
      exact .inl ⟨ok.shw _ rfl, .inr ⟨rfl, rfl⟩⟩
    · simp only [Go.ConcR.mk, MemAct.ofEvent, MemAct.touch?, Option.some.injEq] at hx
      subst hx
      exact .inl ⟨ok.shw _ rfl, .inr ⟨rfl, rfl⟩⟩
  · rcases hev e he with ⟨b, rfl, hb⟩ | rfl | rfl <;> simp [Go.ConcR.mk]
  · rcases hev e he with ⟨b, rfl, hb⟩ | rfl | rfl
    · rw [ofEvent_cell0]; exact ok.lwr b hb
    · exact ok.lww
    · exact ok.lww
  · rcases hev e he with ⟨b, rfl, hb⟩ | rfl | rfl <;> exact ⟨by simp [Go.ConcR.mk], by simp [Go.ConcR.mk]⟩
/-- The library's bookkeeping: at most the group's block turns. -/
theorem zeroBook (ok : s.Ok) (ha : gs[0]? = some a) (C : s.Crw t₀ gs w t j D q cl its buf f) (hd0 : Deaf t 0 = d0) {a' : Goroutine} {es : Array Event} {tag' : CTag} {f' d' : Nat} {st' sm' : Int} (hgo : stepG s.P true a w = .go a' w' es) (hAs : Aside s.Wg w w') (hwg' : WgAt s.ty s.Wg w' st' sm') (hbk : ∀ e ∈ es, Bk s.Wg e)
    (hsp' : s.SPos cl its tag' j f' d' a' w') (hdf : deafBehind d0 es = d') (hmode' : Go.ConcN.Mode j (fun k => (D k).pr) tag' st' sm')
    (hlt : phiS s.n (Vc j (fun k => (D k).pr)) cl tag' < phiS s.n (Vc j (fun k => (D k).pr)) cl tag ∨ (phiS s.n (Vc j (fun k => (D k).pr)) cl tag' = phiS s.n (Vc j (fun k => (D k).pr)) cl tag ∧ f' < f0)) :
    ∃ m₁ ops μ', runT s.P (crowd gs w sl) 0 = (.next m₁, ops) ∧ Lt2 μ' (s.Phi j D cl its buf tag, s.Ful f0 j D q) ∧ s.Inv t₀ μ' m₁ (t ++ ops) := by
  have cc : ∀ x : Addr, x.block ≠ s.Wg → w'.cell? x = w.cell? x := fun x hx => by simp [World.cell?, hAs.block _ hx]
  exact zeroGo ok ha C hd0 hgo (C.fix.wgSet ok hAs ⟨_, _, hwg'⟩) (hAs.block _ (Ne.symm ok.wh)) (fun b hb => cc b (ok.atw b hb).1) (okT_bk ok hbk) (norel_of_Bk hbk) (fun e he => bk_low ok (hbk e he)) hsp' hdf hwg' hmode' hlt
/-- While the channel is open all that are started are counted. -/
theorem Site.Crw.allIn (C : s.Crw t₀ gs w t j D q cl its buf f) (h : cl = false) : Vc j (fun k => (D k).pr) = j := by
  refine vc_all (fun i hi => ?_)
  show 5 ≤ min (D i).stage 7
  rcases Nat.lt_or_ge 7 (D i).stage with h7 | h7
  · omega
  · have := (C.dry i hi h7).2
    rw [h] at this; cases this
/-- THE STARTER WHILE IT STARTS, up to the go statement. -/
theorem startStep (ok : s.Ok) (ha : gs[0]? = some a) {r k : Nat} (hsp : s.SPos cl its (.sp r k) j f0 d0 a w) (C : s.Crw t₀ gs w t j D q cl its buf f) (hwg : WgAt s.ty s.Wg w st sm) (hmode : Go.ConcN.Mode j (fun k => (D k).pr) (.sp r k) st sm) (hd0 : Deaf t 0 = d0) :
    (∃ m₁ ops μ', runT s.P (crowd gs w sl) 0 = (.next m₁, ops) ∧ Lt2 μ' (s.Phi j D cl its buf (.sp r k), s.Ful f0 j D q) ∧ s.Inv t₀ μ' m₁ (t ++ ops)) ∨ (k = 2 ∧ d0 = 0 ∧ s.AtGo j (s.Spawns r) a w) := by
  obtain ⟨h1, h2, h3, h4, h5⟩ := hsp
  obtain ⟨ho, rfl, rfl, _⟩ := hmode.open_inv trivial
  have hV := C.allIn h1
  rcases h5 with ⟨rfl, rfl, x⟩ | ⟨rfl, rfl, x⟩ | ⟨rfl, rfl, x⟩ | ⟨rfl, rfl, x⟩
  · rcases Goes.cases x with hstop | ⟨m', rfl, hstep⟩
    · obtain ⟨_, a', hgo, m₂, hk⟩ := hstop w C.fix
      exact .inl (zeroBook ok ha C hd0 hgo (.refl s.Wg w) hwg bk_dis (tag' := .sp r 4) ⟨h1, h2, h3, h4, .inr (.inl ⟨rfl, rfl, hk⟩)⟩ rfl (hmode.reopen trivial trivial rfl (fun vs e => by cases e)) (.inl (by simp only [phiS]; omega)))
    · obtain ⟨a', w', es, hgo, hD, hg'⟩ := hstep w C.fix
      exact .inl (zeroSilent ok ha C hwg hmode hd0 hgo hD ⟨h1, h2, h3, h4, .inl ⟨rfl, rfl, goes_0 hg'⟩⟩ (by omega))
  · rcases Goes.cases x with hstop | ⟨m', rfl, hstep⟩
    · obtain ⟨_, hall⟩ := hstop w C.fix
      have e0 : ((Vc j (fun k => (D k).pr) + pend (.sp r 4) : Nat) : Int) * KK = (j : Int) * KK := by rw [hV]; simp [pend]
      obtain ⟨a', hgo, m₂, hk⟩ := hall (by rw [← e0]; exact hwg)
      refine .inl (zeroBook ok ha C hd0 hgo (aside_setCell w (stA s.Wg) _) (hwg.setSt _) bk_rw (tag' := .sp r 3) ⟨h1, h2, h3, h4, .inr (.inr (.inl ⟨rfl, rfl, goes_0 hk⟩))⟩ (by simp [deafBehind, rd, wr]) ?_ (.inl (by simp only [phiS]; omega)))
      have e1 : (((j + 1 : Nat) : Int)) * KK = ((Vc j (fun k => (D k).pr) + pend (.sp r 3) : Nat) : Int) * KK := by rw [hV]; simp [pend]
      rw [e1]
      exact .opn trivial ho (fun vs e => by cases e)
    · obtain ⟨a', w', es, hgo, hD, hg'⟩ := hstep w C.fix
      exact .inl (zeroSilent ok ha C hwg hmode hd0 hgo hD ⟨h1, h2, h3, h4, .inr (.inl ⟨rfl, rfl, goes_0 hg'⟩)⟩ (by omega))
  · rcases Goes.cases x with hstop | ⟨m', rfl, hstep⟩
    · obtain ⟨_, a', hgo, m₂, hk⟩ := hstop w C.fix
      exact .inl (zeroBook ok ha C hd0 hgo (.refl s.Wg w) hwg bk_ena (tag' := .sp r 2) ⟨h1, h2, h3, h4, .inr (.inr (.inr ⟨rfl, rfl, hk⟩))⟩ rfl (hmode.reopen trivial trivial rfl (fun vs e => by cases e)) (.inl (by simp only [phiS]; omega)))
    · obtain ⟨a', w', es, hgo, hD, hg'⟩ := hstep w C.fix
      exact .inl (zeroSilent ok ha C hwg hmode hd0 hgo hD ⟨h1, h2, h3, h4, .inr (.inr (.inl ⟨rfl, rfl, goes_0 hg'⟩))⟩ (by omega))
  · rcases Goes.cases x with hstop | ⟨m', rfl, hstep⟩
    · exact .inr ⟨rfl, rfl, hstop w C.fix⟩
    · obtain ⟨a', w', es, hgo, hD, hg'⟩ := hstep w C.fix
      exact .inl (zeroSilent ok ha C hwg hmode hd0 hgo hD ⟨h1, h2, h3, h4, .inr (.inr (.inr ⟨rfl, rfl, goes_0 hg'⟩))⟩ (by omega))
/-- THE go STATEMENT. -/
theorem spawnStep (ok : s.Ok) (ha : gs[0]? = some a) {r : Nat} (hsp : s.SPos cl its (.sp r 2) j f0 d0 a w) (hgo : s.AtGo j (s.Spawns r) a w) (C : s.Crw t₀ gs w t j D q cl its buf f) (hwg : WgAt s.ty s.Wg w st sm) (hmode : Go.ConcN.Mode j (fun k => (D k).pr) (.sp r 2) st sm) (hd0 : Deaf t 0 = 0) :
    ∃ m₁ ops μ', runT s.P (crowd gs w sl) 0 = (.next m₁, ops) ∧ Lt2 μ' (s.Phi j D cl its buf (.sp r 2), s.Ful f0 j D q) ∧ s.Inv t₀ μ' m₁ (t ++ ops) := by
  obtain ⟨h1, h2, h3, h4, _⟩ := hsp
  obtain ⟨ho, rfl, rfl, _⟩ := hmode.open_inv trivial
  have hV := C.allIn h1
  have L0 := ok.L0
  obtain ⟨_, a', child, hst, hcr, ⟨mc, hc⟩, hnext⟩ := hgo
  have hrun := runT_crowd_spawn (P := s.P) (sl := sl) (i := 0) ha (by simpa using hst)
  rw [ofEvents_none, C.size] at hrun
  have eu : ((#[] : Array MemOp).push { g := 0, fn := a.frame.fn, pos := a.frame.place, act := .go (s.L + j) } |>.push { g := s.L + j, fn := child.frame.fn, pos := a.frame.place, act := .start }) = #[{ g := 0, fn := a.frame.fn, pos := a.frame.place, act := .go (s.L + j) }, { g := s.L + j, fn := child.frame.fn, pos := a.frame.place, act := .start }] := rfl
  rw [eu] at hrun
  have hst2 : ∀ op ∈ (#[{ g := 0, fn := a.frame.fn, pos := a.frame.place, act := .go (s.L + j) }, { g := s.L + j, fn := child.frame.fn, pos := a.frame.place, act := .start }] : Array MemOp), op.act ≠ .mark .disable ∧ op.act ≠ .mark .enable := by
    intro op hop
    simp only [List.mem_toArray, List.mem_cons, List.not_mem_nil, or_false] at hop
    rcases hop with rfl | rfl <;> exact ⟨by simp, by simp⟩
  have hdd : ∀ k, Deaf (t ++ #[{ g := 0, fn := a.frame.fn, pos := a.frame.place, act := .go (s.L + j) }, { g := s.L + j, fn := child.frame.fn, pos := a.frame.place, act := .start }]) k = Deaf t k := fun k => Deaf_still t k _ hst2
  have C' : s.Crw t₀ ((gs.setIfInBounds 0 a').push child) w (t ++ #[{ g := 0, fn := a.frame.fn, pos := a.frame.place, act := .go (s.L + j) }, { g := s.L + j, fn := child.frame.fn, pos := a.frame.place, act := .start }]) (j + 1) (upd D j ⟨11, mc, 0, 0, []⟩) q cl its buf f := by
    refine ⟨by simp [C.size]; omega, by omega, fun k y h0 hk hy => ?_, fun k hk => ?_, C.fix, C.chan, C.vals, ?_, C.room, fun k hk h7 => ?_, fun e k hk => ?_, fun k hk h12 => ?_, C.tr.fork ⟨rfl, rfl⟩ ⟨rfl, rfl⟩ hd0 rfl (by show 7 ≤ 11; omega)⟩
    · rw [Array.getElem?_push_lt (by simp [C.size]; omega), ← Array.getElem?_eq_getElem, Array.getElem?_setIfInBounds_ne (by omega)] at hy
      rw [hdd]
      exact C.old k y h0 hk hy
    · by_cases e : k = j
      · subst e
        refine ⟨child, ?_, by rw [upd_same, wpos_11 rfl]; exact ⟨rfl, goes_w hc⟩⟩
        rw [show s.L + k = (gs.setIfInBounds 0 a').size by simp [C.size], Array.getElem?_push_size]
      · obtain ⟨y, hy, py⟩ := C.wk k (by omega)
        refine ⟨y, ?_, by rw [upd_ne D _ e]; exact py⟩
        rw [Array.getElem?_push_lt (by simp [C.size]; omega), ← Array.getElem?_eq_getElem, Array.getElem?_setIfInBounds_ne (by omega)]
        exact hy
    · have : ghD (upd D j ⟨11, mc, 0, 0, []⟩) (j + 1) = ghD D j := by
        funext k
        unfold ghD
        by_cases e : k = j
        · subst e; rw [if_pos (by omega), upd_same, if_neg (by omega)]; rfl
        · rw [upd_ne D _ e]
          by_cases c : k < j
          · rw [if_pos (by omega), if_pos c]
          · rw [if_neg (by omega), if_neg c]
      rw [this]; exact C.gi
    · by_cases e : k = j
      · subst e; rw [upd_same] at h7; exact absurd h7 (by show ¬ 11 ≤ 7; omega)
      · rw [upd_ne D _ e] at h7; exact C.dry k (by omega) h7
    · by_cases e' : k = j
      · subst e'; rw [upd_same]; show (11 : Nat) ≠ 12; omega
      · rw [upd_ne D _ e']; exact C.nopark e k (by omega)
    · by_cases e' : k = j
      · subst e'; rw [upd_same] at h12; exact absurd h12 (by show (11 : Nat) ≠ 12; omega)
      · rw [upd_ne D _ e'] at h12; exact C.parkd k (by omega) h12
  have eV : Vc (j + 1) (fun k => (upd D j ⟨11, mc, 0, 0, []⟩ k).pr) = j + 1 := C'.allIn h1
  have hmode' : ∀ tag' : CTag, isOpen tag' → pend tag' = 0 → (∀ vs, tag' ≠ .w2 vs) → Go.ConcN.Mode (j + 1) (fun k => (upd D j ⟨11, mc, 0, 0, []⟩ k).pr) tag' (((Vc j (fun k => (D k).pr) + pend (.sp r 2) : Nat) : Int) * KK) 0 := fun tag' ht hp hw => by
    have e : ((Vc j (fun k => (D k).pr) + pend (.sp r 2) : Nat) : Int) * KK = ((Vc (j + 1) (fun k => (upd D j ⟨11, mc, 0, 0, []⟩ k).pr) + pend tag' : Nat) : Int) * KK := by rw [eV, hV, hp]; simp [pend]
    rw [e]
    refine .opn ht (fun k hk => .inl ?_) (fun vs ev => absurd ev (hw vs))
    show min _ 7 = 7
    by_cases e : k = j
    · subst e; rw [upd_same]; rfl
    · rw [upd_ne D _ e]
      have := ho k (by omega)
      have h7 : 7 < (D k).stage := by
        rcases Nat.lt_or_ge 7 (D k).stage with h | h
        · exact h
        · have := (C.dry k (by omega) h).2
          rw [h1] at this; cases this
      omega
  have swt : sumTo (j + 1) (fun k => (upd D j ⟨11, mc, 0, 0, []⟩ k).wt) = sumTo j (fun k => (D k).wt) + 9 := by
    rw [sumTo, upd_same, sumTo_upd_out D _ Wk.wt (Nat.le_refl _)]
    rfl
  have g0 : ((gs.setIfInBounds 0 a').push child)[0]? = some a' := by
    rw [Array.getElem?_push_lt (by simp [C.size]; omega), ← Array.getElem?_eq_getElem, Array.getElem?_setIfInBounds_self_of_lt (by rw [C.size]; omega)]
  cases r with
  | zero =>
    obtain ⟨m, hm⟩ := hnext
    refine ⟨_, _, (s.Phi (j + 1) (upd D j ⟨11, mc, 0, 0, []⟩) cl its buf .kd, s.Ful m (j + 1) (upd D j ⟨11, mc, 0, 0, []⟩) q), hrun, Prod.Lex.left _ _ ?_, _, w, sl, j + 1, _, q, cl, its, buf, f, .kd, m, 0, a', _, 0, rfl, g0, ⟨by omega, rfl, .inl ⟨h1, by rw [h2]; exact hm⟩⟩, C', hwg, hmode' .kd trivial rfl (fun vs e => by cases e), by rw [hdd]; exact hd0, rfl⟩
    unfold Site.Phi
    rw [swt, h1]
    simp only [phiS]
    simp
    omega
  | succ r =>
    obtain ⟨m, hm⟩ := hnext
    refine ⟨_, _, (s.Phi (j + 1) (upd D j ⟨11, mc, 0, 0, []⟩) cl its buf (.sp r 5), s.Ful m (j + 1) (upd D j ⟨11, mc, 0, 0, []⟩) q), hrun, Prod.Lex.left _ _ ?_, _, w, sl, j + 1, _, q, cl, its, buf, f, .sp r 5, m, 0, a', _, 0, rfl, g0, ⟨h1, h2, by omega, by omega, .inl ⟨rfl, rfl, ?_⟩⟩, C', hwg, hmode' (.sp r 5) trivial rfl (fun vs e => by cases e), by rw [hdd]; exact hd0, rfl⟩
    · unfold Site.Phi
      rw [swt]
      simp only [phiS]
      omega
    · rw [show j + 1 = s.n - (r + 1) by omega]; exact hm
end
end Go.Proofs.YtpajdmhgonmgoaaDoor

