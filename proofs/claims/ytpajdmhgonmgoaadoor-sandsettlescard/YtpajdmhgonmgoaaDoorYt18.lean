/-
  What the last text of this claim leans on, part 18: Ka9, Kaa.
-/
import Derived.Test.YtpajdmhgonmgoaaDoorYt17
namespace Go.Proofs.YtpajdmhgonmgoaaDoor
open Go.Conc Go.ConcN
open Go.ConcR (KK wgBlock WgAt stA smA rd wr Payload DC0 Bk ofEvent_loc_mark)
set_option linter.unusedVariables false
theorem vc_all {j : Nat} {D : Nat → WD} (h : ∀ i, i < j → 5 ≤ (D i).stage) : Vc j D = j := by
  unfold Vc
  induction j with
  | zero => rfl
  | succ j ih =>
    rw [sumTo, ih (fun i hi => h i (by omega))]
    have : cnt (D j) = 1 := by unfold cnt; rw [if_pos (h j (by omega))]
    omega
theorem bk_dis {Wg : Nat} : ∀ e ∈ #[Go.ConcR.mk .disable], Bk Wg e := by intro e he; simp at he; subst he; exact .inl rfl
theorem bk_ena {Wg : Nat} : ∀ e ∈ #[Go.ConcR.mk .enable], Bk Wg e := by intro e he; simp at he; subst he; exact .inr (.inl rfl)
theorem bk_rd {Wg : Nat} : ∀ e ∈ #[rd (stA Wg)], Bk Wg e := by intro e he; simp at he; subst he; exact bk_cell _ _ rfl
theorem bk_rw {Wg : Nat} : ∀ e ∈ #[rd (stA Wg), wr (stA Wg)], Bk Wg e := by intro e he; simp at he; rcases he with rfl | rfl <;> exact bk_cell _ _ rfl
section
variable [Payload] {s : Site} {w w' : World} {t₀ : Trace} {gs : Array Goroutine} {t : Trace} {j : Nat} {D : Nat → Wk} {q : Nat → Nat} {cl : Bool} {its buf : List Nat} {f : Addr → Int} {sl : Option (Nat × Nat)}
  {tag : CTag} {f0 d0 : Nat} {a : Goroutine} {st sm : Int}
/-- The starter's own step, the channel as it was. -/
theorem Site.Crw.step0 (ok : s.Ok) (C : s.Crw t₀ gs w t j D q cl its buf f) {a' : Goroutine} {es : Array Event} {fn : FuncId} {pos : String}
    (hx : s.Fix w') (hch : w'.heap[s.ch]? = w.heap[s.ch]?) (hv : ∀ a, s.IsAt a → w'.cell? a = w.cell? a)
    (hok : ∀ op ∈ MemOp.ofEvents 0 fn pos es, OkT s.Sh s.Rd 0 op) (hnr : ∀ e ∈ es, e.loc ≠ .mark (.release (stA s.Wg))) (hlow : ∀ e ∈ es, (MemAct.ofEvent e).low s.B) :
    s.Crw t₀ ((gs.map (woken s.P a a' w')).setIfInBounds 0 a') w' (t ++ MemOp.ofEvents 0 fn pos es) j D q cl its buf f := by
  have hg0 : ∀ op ∈ MemOp.ofEvents 0 fn pos es, op.g = 0 := fun op hop => by obtain ⟨e, _, rfl⟩ := Go.Conc.mem_ofEvents hop; rfl
  have L0 := ok.L0
  obtain ⟨sn, rc, hc⟩ := C.chan
  refine ⟨by simp [C.size], C.jn, fun k y h0 hk hy => ?_, fun k hk => ?_, hx, ⟨sn, rc, hch.trans hc⟩, fun b hb => (hv b hb).trans (C.vals b hb), C.gi, C.room, C.dry, C.nopark, C.parkd, C.tr.zero ok.shr L0 hok hnr hlow⟩
  · rw [get_map_set _ _ _ _ (by omega)] at hy
    obtain ⟨z, hz, rfl⟩ := Option.map_eq_some_iff.1 hy
    have hq := C.old k z h0 hk hz
    rw [woken_quitsD hq, Deaf_other t (g' := 0) (by omega) _ hg0]
    exact hq
  · obtain ⟨y, hy, py⟩ := C.wk k hk
    refine ⟨y, ?_, py.next ok C.fix hx⟩
    rw [get_map_set _ _ _ _ (by omega), hy, Option.map_some, py.woken ok C.fix]
    intro e12
    obtain ⟨b, sn', rc', hb⟩ := C.open12 hk e12
    exact ⟨b, sn', rc', hch.trans hb⟩
/-- WHATEVER STEP OF ITS OWN THE STARTER TAKES, the channel as it was. -/
theorem zeroGo (ok : s.Ok) (ha : gs[0]? = some a) (C : s.Crw t₀ gs w t j D q cl its buf f) (hd0 : Deaf t 0 = d0) {a' : Goroutine} {es : Array Event} {tag' : CTag} {f' d' : Nat} {st' sm' : Int} (hgo : stepG s.P true a w = .go a' w' es)
    (hx : s.Fix w') (hch : w'.heap[s.ch]? = w.heap[s.ch]?) (hv : ∀ a, s.IsAt a → w'.cell? a = w.cell? a)
    (hok : ∀ op ∈ MemOp.ofEvents 0 a.frame.fn a.frame.place es, OkT s.Sh s.Rd 0 op) (hnr : ∀ e ∈ es, e.loc ≠ .mark (.release (stA s.Wg))) (hlow : ∀ e ∈ es, (MemAct.ofEvent e).low s.B)
    (hsp' : s.SPos cl its tag' j f' d' a' w') (hdf : deafBehind d0 es = d') (hwg' : WgAt s.ty s.Wg w' st' sm') (hmode' : Go.ConcN.Mode j (fun k => (D k).pr) tag' st' sm')
    (hlt : phiS s.n (Vc j (fun k => (D k).pr)) cl tag' < phiS s.n (Vc j (fun k => (D k).pr)) cl tag ∨ (phiS s.n (Vc j (fun k => (D k).pr)) cl tag' = phiS s.n (Vc j (fun k => (D k).pr)) cl tag ∧ f' < f0)) :
    ∃ m₁ ops μ', runT s.P (crowd gs w sl) 0 = (.next m₁, ops) ∧ Lt2 μ' (s.Phi j D cl its buf tag, s.Ful f0 j D q) ∧ s.Inv t₀ μ' m₁ (t ++ ops) := by
  have hrun := runT_crowd_go (P := s.P) (sl := sl) (i := 0) ha (by simpa using hgo)
  have L0 := ok.L0
  refine ⟨_, _, (s.Phi j D cl its buf tag', s.Ful f' j D q), hrun, ?_, _, w', sl, j, D, q, cl, its, buf, f, tag', f', d', a', st', sm', rfl, get_map_set_same _ _ _ (by rw [C.size]; omega), hsp', C.step0 ok hx hch hv hok hnr hlow, hwg', hmode', ?_, rfl⟩
  · unfold Site.Phi Site.Ful
    rcases hlt with h | ⟨h1, h2⟩
    · exact Prod.Lex.left _ _ (by omega)
    · rw [h1]; exact Prod.Lex.right _ (by omega)
  · rw [Deaf_own, hd0]; exact hdf
/-- A silent step of the starter's. -/
theorem zeroSilent (ok : s.Ok) (ha : gs[0]? = some a) (C : s.Crw t₀ gs w t j D q cl its buf f) (hwg : WgAt s.ty s.Wg w st sm) (hmode : Go.ConcN.Mode j (fun k => (D k).pr) tag st sm) (hd0 : Deaf t 0 = d0) {a' : Goroutine} {es : Array Event} {f' : Nat} (hgo : stepG s.P true a w = .go a' w' es) (hD : s.D0 w w' es) (hsp' : s.SPos cl its tag j f' d0 a' w') (hf : f' < f0) :
    ∃ m₁ ops μ', runT s.P (crowd gs w sl) 0 = (.next m₁, ops) ∧ Lt2 μ' (s.Phi j D cl its buf tag, s.Ful f0 j D q) ∧ s.Inv t₀ μ' m₁ (t ++ ops) := by
  obtain ⟨⟨d, rfl⟩, hev⟩ := hD
  refine zeroGo ok ha C hd0 hgo (C.fix.at ok d) rfl (fun _ _ => rfl) (fun op hop => ?_) (fun e he => ?_) (fun e he => ?_) hsp' (deafBehind_idle (fun e he => ?_) _) hwg hmode (.inr ⟨rfl, hf⟩)
  · obtain ⟨e, he, rfl⟩ := Go.Conc.mem_ofEvents hop
    refine ⟨rfl, fun x hx => ?_⟩
    rcases hev e he with ⟨b, rfl, hb⟩ | rfl | rfl
    · simp only [ofEvent_cell0, MemAct.touch?, Option.some.injEq] at hx
      subst hx
      exact .inr (.inl ⟨⟨b, rfl, hb⟩, rfl⟩)
    · simp only [Go.ConcR.mk, MemAct.ofEvent, MemAct.touch?, Option.some.injEq] at hx
      subst hx
      exact .inl ⟨ok.shw _ rfl, .inr ⟨rfl, rfl⟩⟩
    · simp only [Go.ConcR.mk, MemAct.ofEvent, MemAct.touch?, Option.some.injEq] at hx
      subst hx
      exact .inl ⟨ok.shw _ rfl, .inr ⟨rfl, rfl⟩⟩
  · rcases hev e he with ⟨b, rfl, hb⟩ | rfl | rfl <;> simp [Go.ConcR.mk]
  · rcases hev e he with ⟨b, rfl, hb⟩ | rfl | rfl
    · rw [ofEvent_cell0]; exact ok.lwr b hb
    · exact ok.lww
    · exact ok.lww
  · rcases hev e he with ⟨b, rfl, hb⟩ | rfl | rfl <;> exact ⟨by simp [Go.ConcR.mk], by simp [Go.ConcR.mk]⟩
/-- The library's bookkeeping: at most the group's block turns. -/
theorem zeroBook (ok : s.Ok) (ha : gs[0]? = some a) (C : s.Crw t₀ gs w t j D q cl its buf f) (hd0 : Deaf t 0 = d0) {a' : Goroutine} {es : Array Event} {tag' : CTag} {f' d' : Nat} {st' sm' : Int} (hgo : stepG s.P true a w = .go a' w' es) (hAs : Aside s.Wg w w') (hwg' : WgAt s.ty s.Wg w' st' sm') (hbk : ∀ e ∈ es, Bk s.Wg e)
    (hsp' : s.SPos cl its tag' j f' d' a' w') (hdf : deafBehind d0 es = d') (hmode' : Go.ConcN.Mode j (fun k => (D k).pr) tag' st' sm')
    (hlt : phiS s.n (Vc j (fun k => (D k).pr)) cl tag' < phiS s.n (Vc j (fun k => (D k).pr)) cl tag ∨ (phiS s.n (Vc j (fun k => (D k).pr)) cl tag' = phiS s.n (Vc j (fun k => (D k).pr)) cl tag ∧ f' < f0)) :
    ∃ m₁ ops μ', runT s.P (crowd gs w sl) 0 = (.next m₁, ops) ∧ Lt2 μ' (s.Phi j D cl its buf tag, s.Ful f0 j D q) ∧ s.Inv t₀ μ' m₁ (t ++ ops) := by
  have cc : ∀ x : Addr, x.block ≠ s.Wg → w'.cell? x = w.cell? x := fun x hx => by simp [World.cell?, hAs.block _ hx]
  exact zeroGo ok ha C hd0 hgo (C.fix.wgSet ok hAs ⟨_, _, hwg'⟩) (hAs.block _ (Ne.symm ok.wh)) (fun b hb => cc b (ok.atw b hb).1) (okT_bk ok hbk) (norel_of_Bk hbk) (fun e he => bk_low ok (hbk e he)) hsp' hdf hwg' hmode' hlt
/-- While the channel is open all that are started are counted. -/
theorem Site.Crw.allIn (C : s.Crw t₀ gs w t j D q cl its buf f) (h : cl = false) : Vc j (fun k => (D k).pr) = j := by
  refine vc_all (fun i hi => ?_)
  show 5 ≤ min (D i).stage 7
  rcases Nat.lt_or_ge 7 (D i).stage with h7 | h7
  · omega
  · have := (C.dry i hi h7).2
    rw [h] at this; cases this
/-- THE STARTER WHILE IT STARTS, up to the go statement. -/
theorem startStep (ok : s.Ok) (ha : gs[0]? = some a) {r k : Nat} (hsp : s.SPos cl its (.sp r k) j f0 d0 a w) (C : s.Crw t₀ gs w t j D q cl its buf f) (hwg : WgAt s.ty s.Wg w st sm) (hmode : Go.ConcN.Mode j (fun k => (D k).pr) (.sp r k) st sm) (hd0 : Deaf t 0 = d0) :
    (∃ m₁ ops μ', runT s.P (crowd gs w sl) 0 = (.next m₁, ops) ∧ Lt2 μ' (s.Phi j D cl its buf (.sp r k), s.Ful f0 j D q) ∧ s.Inv t₀ μ' m₁ (t ++ ops)) ∨ (k = 2 ∧ d0 = 0 ∧ s.AtGo j (s.Spawns r) a w) := by
  obtain ⟨h1, h2, h3, h4, h5⟩ := hsp
  obtain ⟨ho, rfl, rfl, _⟩ := hmode.open_inv trivial
  have hV := C.allIn h1
  rcases h5 with ⟨rfl, rfl, x⟩ | ⟨rfl, rfl, x⟩ | ⟨rfl, rfl, x⟩ | ⟨rfl, rfl, x⟩
  · rcases Goes.cases x with hstop | ⟨m', rfl, hstep⟩
    · obtain ⟨_, a', hgo, m₂, hk⟩ := hstop w C.fix
      exact .inl (zeroBook ok ha C hd0 hgo (.refl s.Wg w) hwg bk_dis (tag' := .sp r 4) ⟨h1, h2, h3, h4, .inr (.inl ⟨rfl, rfl, hk⟩)⟩ rfl (hmode.reopen trivial trivial rfl (fun vs e => by cases e)) (.inl (by simp only [phiS]; omega)))
    · obtain ⟨a', w', es, hgo, hD, hg'⟩ := hstep w C.fix
      exact .inl (zeroSilent ok ha C hwg hmode hd0 hgo hD ⟨h1, h2, h3, h4, .inl ⟨rfl, rfl, goes_0 hg'⟩⟩ (by omega))
  · rcases Goes.cases x with hstop | ⟨m', rfl, hstep⟩
    · obtain ⟨_, hall⟩ := hstop w C.fix
      have e0 : ((Vc j (fun k => (D k).pr) + pend (.sp r 4) : Nat) : Int) * KK = (j : Int) * KK := by rw [hV]; simp [pend]
      obtain ⟨a', hgo, m₂, hk⟩ := hall (by rw [← e0]; exact hwg)
      refine .inl (zeroBook ok ha C hd0 hgo (aside_setCell w (stA s.Wg) _) (hwg.setSt _) bk_rw (tag' := .sp r 3) ⟨h1, h2, h3, h4, .inr (.inr (.inl ⟨rfl, rfl, goes_0 hk⟩))⟩ (by simp [deafBehind, rd, wr]) ?_ (.inl (by simp only [phiS]; omega)))
      have e1 : (((j + 1 : Nat) : Int)) * KK = ((Vc j (fun k => (D k).pr) + pend (.sp r 3) : Nat) : Int) * KK := by rw [hV]; simp [pend]
      rw [e1]
      exact .opn trivial ho (fun vs e => by cases e)
    · obtain ⟨a', w', es, hgo, hD, hg'⟩ := hstep w C.fix
      exact .inl (zeroSilent ok ha C hwg hmode hd0 hgo hD ⟨h1, h2, h3, h4, .inr (.inl ⟨rfl, rfl, goes_0 hg'⟩)⟩ (by omega))
  · rcases Goes.cases x with hstop | ⟨m', rfl, hstep⟩
    · obtain ⟨_, a', hgo, m₂, hk⟩ := hstop w C.fix
      exact .inl (zeroBook ok ha C hd0 hgo (.refl s.Wg w) hwg bk_ena (tag' := .sp r 2) ⟨h1, h2, h3, h4, .inr (.inr (.inr ⟨rfl, rfl, hk⟩))⟩ rfl (hmode.reopen trivial trivial rfl (fun vs e => by cases e)) (.inl (by simp only [phiS]; omega)))
    · obtain ⟨a', w', es, hgo, hD, hg'⟩ := hstep w C.fix
      exact .inl (zeroSilent ok ha C hwg hmode hd0 hgo hD ⟨h1, h2, h3, h4, .inr (.inr (.inl ⟨rfl, rfl, goes_0 hg'⟩))⟩ (by omega))
  · rcases Goes.cases x with hstop | ⟨m', rfl, hstep⟩
    · exact .inr ⟨rfl, rfl, hstop w C.fix⟩
    · obtain ⟨a', w', es, hgo, hD, hg'⟩ := hstep w C.fix
      exact .inl (zeroSilent ok ha C hwg hmode hd0 hgo hD ⟨h1, h2, h3, h4, .inr (.inr (.inr ⟨rfl, rfl, goes_0 hg'⟩))⟩ (by omega))
/-- THE go STATEMENT. -/
theorem spawnStep (ok : s.Ok) (ha : gs[0]? = some a) {r : Nat} (hsp : s.SPos cl its (.sp r 2) j f0 d0 a w) (hgo : s.AtGo j (s.Spawns r) a w) (C : s.Crw t₀ gs w t j D q cl its buf f) (hwg : WgAt s.ty s.Wg w st sm) (hmode : Go.ConcN.Mode j (fun k => (D k).pr) (.sp r 2) st sm) (hd0 : Deaf t 0 = 0) :
    ∃ m₁ ops μ', runT s.P (crowd gs w sl) 0 = (.next m₁, ops) ∧ Lt2 μ' (s.Phi j D cl its buf (.sp r 2), s.Ful f0 j D q) ∧ s.Inv t₀ μ' m₁ (t ++ ops) := by
  obtain ⟨h1, h2, h3, h4, _⟩ := hsp
  obtain ⟨ho, rfl, rfl, _⟩ := hmode.open_inv trivial
  have hV := C.allIn h1
  have L0 := ok.L0
  obtain ⟨_, a', child, hst, hcr, ⟨mc, hc⟩, hnext⟩ := hgo
  have hrun := runT_crowd_spawn (P := s.P) (sl := sl) (i := 0) ha (by simpa using hst)
  rw [ofEvents_none, C.size] at hrun
  have eu : ((#[] : Array MemOp).push { g := 0, fn := a.frame.fn, pos := a.frame.place, act := .go (s.L + j) } |>.push { g := s.L + j, fn := child.frame.fn, pos := a.frame.place, act := .start }) = #[{ g := 0, fn := a.frame.fn, pos := a.frame.place, act := .go (s.L + j) }, { g := s.L + j, fn := child.frame.fn, pos := a.frame.place, act := .start }] := rfl
  rw [eu] at hrun
  have hst2 : ∀ op ∈ (#[{ g := 0, fn := a.frame.fn, pos := a.frame.place, act := .go (s.L + j) }, { g := s.L + j, fn := child.frame.fn, pos := a.frame.place, act := .start }] : Array MemOp), op.act ≠ .mark .disable ∧ op.act ≠ .mark .enable := by
    intro op hop
    simp only [List.mem_toArray, List.mem_cons, List.not_mem_nil, or_false] at hop
    rcases hop with rfl | rfl <;> exact ⟨by simp, by simp⟩
  have hdd : ∀ k, Deaf (t ++ #[{ g := 0, fn := a.frame.fn, pos := a.frame.place, act := .go (s.L + j) }, { g := s.L + j, fn := child.frame.fn, pos := a.frame.place, act := .start }]) k = Deaf t k := fun k => Deaf_still t k _ hst2
  have C' : s.Crw t₀ ((gs.setIfInBounds 0 a').push child) w (t ++ #[{ g := 0, fn := a.frame.fn, pos := a.frame.place, act := .go (s.L + j) }, { g := s.L + j, fn := child.frame.fn, pos := a.frame.place, act := .start }]) (j + 1) (upd D j ⟨11, mc, 0, 0, []⟩) q cl its buf f := by
    refine ⟨by simp [C.size]; omega, by omega, fun k y h0 hk hy => ?_, fun k hk => ?_, C.fix, C.chan, C.vals, ?_, C.room, fun k hk h7 => ?_, fun e k hk => ?_, fun k hk h12 => ?_, C.tr.fork ⟨rfl, rfl⟩ ⟨rfl, rfl⟩ hd0 rfl (by show 7 ≤ 11; omega)⟩
    · rw [Array.getElem?_push_lt (by simp [C.size]; omega), ← Array.getElem?_eq_getElem, Array.getElem?_setIfInBounds_ne (by omega)] at hy
      rw [hdd]
      exact C.old k y h0 hk hy
    · by_cases e : k = j
      · subst e
        refine ⟨child, ?_, by rw [upd_same, wpos_11 rfl]; exact ⟨rfl, goes_w hc⟩⟩
        rw [show s.L + k = (gs.setIfInBounds 0 a').size by simp [C.size], Array.getElem?_push_size]
      · obtain ⟨y, hy, py⟩ := C.wk k (by omega)
        refine ⟨y, ?_, by rw [upd_ne D _ e]; exact py⟩
        rw [Array.getElem?_push_lt (by simp [C.size]; omega), ← Array.getElem?_eq_getElem, Array.getElem?_setIfInBounds_ne (by omega)]
        exact hy
    · have : ghD (upd D j ⟨11, mc, 0, 0, []⟩) (j + 1) = ghD D j := by
        funext k
        unfold ghD
        by_cases e : k = j
        · subst e; rw [if_pos (by omega), upd_same, if_neg (by omega)]; rfl
        · rw [upd_ne D _ e]
          by_cases c : k < j
          · rw [if_pos (by omega), if_pos c]
          · rw [if_neg (by omega), if_neg c]
      rw [this]; exact C.gi
    · by_cases e : k = j
      · subst e; rw [upd_same] at h7; exact absurd h7 (by show ¬ 11 ≤ 7; omega)
      · rw [upd_ne D _ e] at h7; exact C.dry k (by omega) h7
    · by_cases e' : k = j
      · subst e'; rw [upd_same]; show (11 : Nat) ≠ 12; omega
      · rw [upd_ne D _ e']; exact C.nopark e k (by omega)
    · by_cases e' : k = j
      · subst e'; rw [upd_same] at h12; exact absurd h12 (by show (11 : Nat) ≠ 12; omega)
      · rw [upd_ne D _ e'] at h12; exact C.parkd k (by omega) h12
  have eV : Vc (j + 1) (fun k => (upd D j ⟨11, mc, 0, 0, []⟩ k).pr) = j + 1 := C'.allIn h1
  have hmode' : ∀ tag' : CTag, isOpen tag' → pend tag' = 0 → (∀ vs, tag' ≠ .w2 vs) → Go.ConcN.Mode (j + 1) (fun k => (upd D j ⟨11, mc, 0, 0, []⟩ k).pr) tag' (((Vc j (fun k => (D k).pr) + pend (.sp r 2) : Nat) : Int) * KK) 0 := fun tag' ht hp hw => by
    have e : ((Vc j (fun k => (D k).pr) + pend (.sp r 2) : Nat) : Int) * KK = ((Vc (j + 1) (fun k => (upd D j ⟨11, mc, 0, 0, []⟩ k).pr) + pend tag' : Nat) : Int) * KK := by rw [eV, hV, hp]; simp [pend]
    rw [e]
    refine .opn ht (fun k hk => .inl ?_) (fun vs ev => absurd ev (hw vs))
    show min _ 7 = 7
    by_cases e : k = j
    · subst e; rw [upd_same]; rfl
    · rw [upd_ne D _ e]
      have := ho k (by omega)
      have h7 : 7 < (D k).stage := by
        rcases Nat.lt_or_ge 7 (D k).stage with h | h
        · exact h
        · have := (C.dry k (by omega) h).2
          rw [h1] at this; cases this
      omega
  have swt : sumTo (j + 1) (fun k => (upd D j ⟨11, mc, 0, 0, []⟩ k).wt) = sumTo j (fun k => (D k).wt) + 9 := by
    rw [sumTo, upd_same, sumTo_upd_out D _ Wk.wt (Nat.le_refl _)]
    rfl
  have g0 : ((gs.setIfInBounds 0 a').push child)[0]? = some a' := by
    rw [Array.getElem?_push_lt (by simp [C.size]; omega), ← Array.getElem?_eq_getElem, Array.getElem?_setIfInBounds_self_of_lt (by rw [C.size]; omega)]
  cases r with
  | zero =>
    obtain ⟨m, hm⟩ := hnext
    refine ⟨_, _, (s.Phi (j + 1) (upd D j ⟨11, mc, 0, 0, []⟩) cl its buf .kd, s.Ful m (j + 1) (upd D j ⟨11, mc, 0, 0, []⟩) q), hrun, Prod.Lex.left _ _ ?_, _, w, sl, j + 1, _, q, cl, its, buf, f, .kd, m, 0, a', _, 0, rfl, g0, ⟨by omega, rfl, .inl ⟨h1, by rw [h2]; exact hm⟩⟩, C', hwg, hmode' .kd trivial rfl (fun vs e => by cases e), by rw [hdd]; exact hd0, rfl⟩
    unfold Site.Phi
    rw [swt, h1]
    simp only [phiS]
    simp
    omega
  | succ r =>
    obtain ⟨m, hm⟩ := hnext
    refine ⟨_, _, (s.Phi (j + 1) (upd D j ⟨11, mc, 0, 0, []⟩) cl its buf (.sp r 5), s.Ful m (j + 1) (upd D j ⟨11, mc, 0, 0, []⟩) q), hrun, Prod.Lex.left _ _ ?_, _, w, sl, j + 1, _, q, cl, its, buf, f, .sp r 5, m, 0, a', _, 0, rfl, g0, ⟨h1, h2, by omega, by omega, .inl ⟨rfl, rfl, ?_⟩⟩, C', hwg, hmode' (.sp r 5) trivial rfl (fun vs e => by cases e), by rw [hdd]; exact hd0, rfl⟩
    · unfold Site.Phi
      rw [swt]
      simp only [phiS]
      omega
    · rw [show j + 1 = s.n - (r + 1) by omega]; exact hm
end
end Go.Proofs.YtpajdmhgonmgoaaDoor

namespace Go.Proofs.YtpajdmhgonmgoaaDoor
open Go.Conc Go.ConcN
open Go.ConcR (KK wgBlock WgAt stA smA rd wr Payload DC0 Bk ofEvent_loc_mark)
set_option linter.unusedVariables false
theorem map_push (l : List Nat) (p : Nat) : (l.map vI).toArray.push (vI p) = ((l ++ [p]).map vI).toArray := by simp
/-- Who is parked is let run. -/
def wakeD (D : Nat → Wk) : Nat → Wk := fun k => if (D k).stage = 12 then ⟨13, (D k).fuel, (D k).deaf, (D k).item, (D k).adds⟩ else D k
theorem wakeD_stage (D : Nat → Wk) (k : Nat) : min (wakeD D k).stage 7 = min (D k).stage 7 := by
  unfold wakeD
  by_cases e : (D k).stage = 12
  · rw [if_pos e]; simp only; omega
  · rw [if_neg e]
theorem wakeD_gh (D : Nat → Wk) (k : Nat) : (wakeD D k).gh = (D k).gh := by
  unfold wakeD
  by_cases e : (D k).stage = 12
  · rw [if_pos e]; simp [Wk.gh, e]
  · rw [if_neg e]
theorem wakeD_wt (D : Nat → Wk) (k : Nat) : (wakeD D k).wt ≤ (D k).wt + 1 := by
  unfold wakeD
  by_cases e : (D k).stage = 12
  · rw [if_pos e]; simp [Wk.wt, e]
  · rw [if_neg e]; omega
theorem sumTo_le1 {f g : Nat → Nat} : ∀ {j : Nat}, (∀ i, i < j → f i ≤ g i + 1) → sumTo j f ≤ sumTo j g + j
  | 0, _ => by simp [sumTo]
  | j + 1, h => by
    have := sumTo_le1 (f := f) (g := g) (j := j) (fun i hi => h i (by omega))
    have := h j (by omega)
    simp only [sumTo]
    omega
section
variable [Payload] {s : Site} {w w' : World} {t₀ : Trace} {gs : Array Goroutine} {t : Trace} {j : Nat} {D : Nat → Wk} {q : Nat → Nat} {cl : Bool} {its buf : List Nat} {f : Addr → Int} {sl : Option (Nat × Nat)}
  {tag : CTag} {f0 d0 : Nat} {a : Goroutine} {st sm : Int}
/-- THE STARTER SENDS. -/
theorem sendStep (ok : s.Ok) (ha : gs[0]? = some a) {p : Nat} {its : List Nat} (hat : s.AtSends (p :: its) a w) (hcl : cl = false) (hj : j = s.n) (C : s.Crw t₀ gs w t j D q cl (p :: its) buf f) (hwg : WgAt s.ty s.Wg w st sm) (hmode : Go.ConcN.Mode j (fun k => (D k).pr) .kd st sm) (hd0 : Deaf t 0 = 0) :
    ∃ m₁ ops μ', runT s.P (crowd gs w sl) 0 = (.next m₁, ops) ∧ Lt2 μ' (s.Phi j D cl (p :: its) buf .kd, s.Ful f0 j D q) ∧ s.Inv t₀ μ' m₁ (t ++ ops) := by
  have L0 := ok.L0
  have lh := ok.lwh
  obtain ⟨_, u, hc, m, hk⟩ := hat
  have hc1 : stepG s.P (0 == 0) a w = .comm a #[scase s.ch (vI p) u] true .send w #[] := by simpa using hc
  obtain ⟨sn, rc, hch⟩ := C.chan
  subst hcl
  have hroom : (buf.map vI).toArray.size < s.cap := by have := C.room; simp at this ⊢; omega
  have parts : ∀ x k, (x, k) ∈ partners (gs.setIfInBounds 0 ph) s.ch false → k = 0 ∧ x ≠ 0 ∧ s.L ≤ x ∧ x < s.L + j ∧ (D (x - s.L)).stage = 12 ∧ ∃ g0, s.Loop g0 ∧ gs[x]? = some (parked g0 #[rcase s.ch s.z] (.recv true)) := by
    intro x k hm
    obtain ⟨g, hg, hk⟩ := mem_partners.1 hm
    by_cases e : 0 = x
    · subst e
      rw [Array.getElem?_setIfInBounds_self_of_lt (by rw [C.size]; omega)] at hg
      rw [← Option.some.inj hg, offersAt_ph] at hk
      cases hk
    rw [Array.getElem?_setIfInBounds_ne e] at hg
    by_cases hl : x < s.L
    · rcases (C.old x g (by omega) hl hg).status with h | h
      · rw [offersAt_of_not_blocked (by rw [h]; simp)] at hk; cases hk
      · rw [offersAt_of_not_blocked (by rw [h]; simp)] at hk; cases hk
    · have hms : x < s.L + j := by have := (Array.getElem?_eq_some_iff.1 hg).1; rw [C.size] at this; exact this
      obtain ⟨z, hz, pz⟩ := C.wk (x - s.L) (by omega)
      rw [show s.L + (x - s.L) = x by omega] at hz
      obtain rfl : z = g := by rw [hz] at hg; exact Option.some.inj hg
      rcases pz.status ok C.fix with ⟨e12, g0, hl0, rfl⟩ | ⟨_, h⟩
      · rw [offersAt_parked_recv, if_pos rfl] at hk
        simp at hk
        exact ⟨hk, by omega, by omega, hms, e12, g0, hl0, hg⟩
      · rw [offersAt_of_not_blocked (fun e => by rcases h with h | ⟨h, _⟩ <;> rw [h] at e <;> cases e)] at hk
        cases hk
  by_cases hp : partners (gs.setIfInBounds 0 ph) s.ch false = []
  · have hrun := crowd_send_room (sl := sl) ha hc1 hch hroom hp
    rw [map_push] at hrun
    have hu : ∀ op ∈ (MemOp.ofEvents 0 a.frame.fn a.frame.place #[] ++ #[{ g := 0, fn := a.frame.fn, pos := a.frame.place, act := .send s.ch sn }, { g := 0, fn := a.frame.fn, pos := a.frame.place, act := .sendDone s.ch sn }] : Trace), Hush (stA s.Wg) s.B op := by
      intro op hop
      simp [ofEvents_none] at hop
      rcases hop with rfl | rfl
      · exact ⟨rfl, by simp, by simp, by simp, lh⟩
      · exact ⟨rfl, by simp, by simp, by simp, lh⟩
    have hdd : ∀ k, Deaf (t ++ _) k = Deaf t k := fun k => Deaf_still t k _ (fun op hop => ⟨(hu op hop).dis, (hu op hop).ena⟩)
    have fx := C.fix.chanSet ok ((buf ++ [p]).map vI).toArray false (sn + 1) rc
    refine ⟨_, _, (s.Phi j D false its (buf ++ [p]) .kd, s.Ful m j D q), hrun, Prod.Lex.left _ _ ?_, _, _, sl, j, D, q, false, its, buf ++ [p], f, .kd, m, 0, _, st, sm, rfl, by rw [Array.getElem?_setIfInBounds_self_of_lt (by rw [C.size]; omega)], ⟨hj, rfl, .inl ⟨rfl, goes_0 hk⟩⟩,
      ⟨by simp [C.size], C.jn, fun k y h0 hk' hy => ?_, fun k hk' => ?_, fx, ⟨sn + 1, rc, heap_setChan_self w hch _ _ _ _ _ _⟩, fun b hb => ?_, ok.send f p buf its _ C.gi, ?_, fun k hk' h7 => ?_, fun e => (by cases e), fun k hk' h12 => ?_, C.tr.hush hu⟩, hwg.of_block (heap_setChan_ne w _ _ _ _ _ _ (fun e => ok.wh e.symm)), hmode, by rw [hdd]; exact hd0, rfl⟩
    · unfold Site.Phi
      simp only [List.length_append, List.length_cons, List.length_nil]
      omega
    · rw [Array.getElem?_setIfInBounds_ne (by omega)] at hy
      rw [hdd]; exact C.old k y h0 hk' hy
    · obtain ⟨y, hy, py⟩ := C.wk k hk'
      exact ⟨y, by rw [Array.getElem?_setIfInBounds_ne (by omega)]; exact hy, py.next ok C.fix fx⟩
    · rw [setChan_cell w _ _ _ _ _ (ok.atw b hb).2]; exact C.vals b hb
    · have := C.room
      simp only [List.length_append, List.length_cons, List.length_nil] at this ⊢
      omega
    · have := (C.dry k hk' h7).2; cases this
    · obtain ⟨y, hy, py⟩ := C.wk k hk'
      rcases py.status ok C.fix with ⟨_, g0, _, rfl⟩ | ⟨h, _⟩
      · have : (s.L + k, 0) ∈ partners (gs.setIfInBounds 0 ph) s.ch false := mem_partners.2 ⟨_, by rw [Array.getElem?_setIfInBounds_ne (by omega)]; exact hy, by rw [offersAt_parked_recv, if_pos rfl]; simp⟩
        rw [hp] at this
        cases this
      · exact absurd h12 h
  · obtain ⟨x, gj, zj, shj, d, hx0, hgx, hrun⟩ := crowd_send_meets_some (sl := sl) ha hc1 hch hp (fun x k hm => let ⟨h1, h2, _, _, _, g0, _, h5⟩ := parts x k hm; ⟨h1, h2, g0, s.z, .recv true, h5⟩)
    have hbl : gs[x]? = some (parked gj #[rcase s.ch zj] shj) := hgx
    have hxs : x < gs.size := (Array.getElem?_eq_some_iff.1 hgx).1
    rw [C.size] at hxs
    have hxL : s.L ≤ x := by
      rcases Nat.lt_or_ge x s.L with h | h
      · have := (C.old x _ (by omega) h hgx).status
        simp [parked] at this
      · exact h
    obtain ⟨i, rfl⟩ : ∃ i, x = s.L + i := ⟨x - s.L, by omega⟩
    have hi : i < j := by omega
    obtain ⟨z, hz, pz⟩ := C.wk i hi
    obtain rfl : z = parked gj #[rcase s.ch zj] shj := by rw [hgx] at hz; exact (Option.some.inj hz).symm
    obtain ⟨e12, g0, hl0, eg⟩ : (D i).stage = 12 ∧ ∃ g0, s.Loop g0 ∧ parked gj #[rcase s.ch zj] shj = parked g0 #[rcase s.ch s.z] (.recv true) := by
      rcases pz.status ok C.fix with h | ⟨_, h⟩
      · exact h
      · simp [parked] at h
    have eo : some ((#[rcase s.ch zj] : Array CommCase), shj) = some (#[rcase s.ch s.z], .recv true) := congrArg Goroutine.offers eg
    simp only [Option.some.injEq, Prod.mk.injEq] at eo
    obtain ⟨eo1, rfl⟩ := eo
    have ez : zj = s.z := by
      have := congrArg (fun c : Array CommCase => (c[0]?).map (·.zero)) eo1
      simpa [rcase] using this
    subst ez
    have ef : ∀ v, gj.finishComm s.P #[rcase s.ch s.z] (.recv true) 0 v true = g0.finishComm s.P #[rcase s.ch s.z] (.recv true) 0 v true := fun v => by
      rw [← finishComm_parked s.P gj #[rcase s.ch s.z] #[rcase s.ch s.z] (.recv true) (.recv true), eg, finishComm_parked]
    have hbe : buf = [] := C.parkd i hi e12
    subst hbe
    have hgk : ghD D j i = (none, []) := by rw [ghD_at D hi]; simp [Wk.gh, e12]
    have gg := ok.give f p its (ghD D j) i C.gi hgk
    have hpz := pz
    rw [wpos_12 e12] at hpz
    obtain ⟨mi, hmi⟩ := ok.item g0 i p f [] its _ w hl0 gg (by rw [upd_same])
    have hu : ∀ op ∈ (MemOp.ofEvents 0 a.frame.fn a.frame.place #[] ++ #[{ g := 0, fn := a.frame.fn, pos := a.frame.place, act := .send s.ch sn }, { g := s.L + i, fn := gj.frame.fn, pos := gj.frame.place, act := .recv s.ch rc s.cap }, { g := 0, fn := a.frame.fn, pos := a.frame.place, act := .sendDone s.ch sn }, { g := s.L + i, fn := gj.frame.fn, pos := gj.frame.place, act := .recvDone s.ch rc }] : Trace), Hush (stA s.Wg) s.B op := by
      intro op hop
      simp [ofEvents_none] at hop
      rcases hop with rfl | rfl | rfl | rfl
      · exact ⟨rfl, by simp, by simp, by simp, lh⟩
      · exact ⟨rfl, by simp, by simp, by simp, lh⟩
      · exact ⟨rfl, by simp, by simp, by simp, lh⟩
      · exact ⟨rfl, by simp, by simp, by simp, lh⟩
    have hdd : ∀ k, Deaf (t ++ _) k = Deaf t k := fun k => Deaf_still t k _ (fun op hop => ⟨(hu op hop).dis, (hu op hop).ena⟩)
    have fx := (C.fix.at ok d).chanSet ok (([] : List Nat).map vI).toArray false (sn + 1) (rc + 1)
    have hch' : (w.at d).heap[s.ch]? = some (.chan s.cap (([] : List Nat).map vI).toArray false sn rc false) := hch
    refine ⟨_, _, (s.Phi j (upd D i ⟨10, mi, 0, p, []⟩) false its [] .kd, s.Ful m j (upd D i ⟨10, mi, 0, p, []⟩) q), hrun, Prod.Lex.left _ _ ?_, _, _, sl, j, upd D i ⟨10, mi, 0, p, []⟩, q, false, its, [], f, .kd, m, 0, _, st, sm, rfl, by rw [Array.getElem?_setIfInBounds_self_of_lt (by simp [C.size]; omega)], ⟨hj, rfl, .inl ⟨rfl, goes_0 hk⟩⟩,
      ⟨by simp [C.size], C.jn, fun k y h0 hk' hy => ?_, fun k hk' => ?_, fx, ⟨sn + 1, rc + 1, heap_setChan_self _ hch' _ _ _ _ _ _⟩, fun b hb => ?_, by rw [ghD_upd D hi]; exact gg, ?_, fun k hk' h7 => ?_, fun e => (by cases e), fun _ _ _ => rfl, (C.tr.hush hu).data (fun _ => hpz.1.symm) (fun _ h => by simp at h)⟩, hwg.of_block (heap_setChan_ne (w.at d) _ _ _ _ _ _ (fun e => ok.wh e.symm)), ?_, by rw [hdd]; exact hd0, rfl⟩
    · unfold Site.Phi
      have e2 := sumTo_upd D (⟨10, mi, 0, p, []⟩ : Wk) Wk.wt hi
      have w10 : (⟨10, mi, 0, p, []⟩ : Wk).wt = 24 := rfl
      have w12 : (D i).wt = 8 := by simp [Wk.wt, e12]
      have ev : (Vc j fun k => (upd D i ⟨10, mi, 0, p, []⟩ k).pr) = Vc j fun k => (D k).pr := sumTo_congr fun k hk => by
        show cnt (upd D i ⟨10, mi, 0, p, []⟩ k).pr = cnt (D k).pr
        by_cases e : k = i
        · subst e; rw [upd_same]; exact pr_stage (by rw [e12]; rfl)
        · rw [upd_ne _ _ e]
      rw [ev]
      simp only [List.length_cons, List.length_nil]
      omega
    · rw [Array.getElem?_setIfInBounds_ne (by omega), Array.getElem?_setIfInBounds_ne (by omega)] at hy
      rw [hdd]; exact C.old k y h0 hk' hy
    · rw [Array.getElem?_setIfInBounds_ne (by omega)]
      by_cases e : k = i
      · subst e
        refine ⟨_, by rw [Array.getElem?_setIfInBounds_self_of_lt (by rw [C.size]; omega)], ?_⟩
        rw [upd_same, wpos_10 rfl]
        exact ⟨rfl, by rw [ef]; exact goes_w hmi⟩
      · obtain ⟨y, hy, py⟩ := C.wk k hk'
        exact ⟨y, by rw [Array.getElem?_setIfInBounds_ne (by omega)]; exact hy, by rw [upd_ne D _ e]; exact py.next ok C.fix fx⟩
    · rw [setChan_cell _ _ _ _ _ _ (ok.atw b hb).2]; exact C.vals b hb
    · have := C.room
      simp only [List.length_cons, List.length_nil] at this ⊢
      omega
    · by_cases e : k = i
      · subst e; rw [upd_same] at h7; exact absurd h7 (by show ¬ 10 ≤ 7; omega)
      · rw [upd_ne D _ e] at h7
        have := (C.dry k hk' h7).2; cases this
    · rw [pr_upd]; exact mode_same hmode (by rw [e12]; rfl)
/-- THE STARTER CLOSES THE CHANNEL. -/
theorem closeStep (ok : s.Ok) (ha : gs[0]? = some a) (hat : s.AtSends [] a w) (hcl : cl = false) (hj : j = s.n) (C : s.Crw t₀ gs w t j D q cl [] buf f) (hwg : WgAt s.ty s.Wg w st sm) (hmode : Go.ConcN.Mode j (fun k => (D k).pr) .kd st sm) (hd0 : Deaf t 0 = 0) :
    ∃ m₁ ops μ', runT s.P (crowd gs w sl) 0 = (.next m₁, ops) ∧ Lt2 μ' (s.Phi j D cl [] buf .kd, s.Ful f0 j D q) ∧ s.Inv t₀ μ' m₁ (t ++ ops) := by
  have L0 := ok.L0
  have lh := ok.lwh
  obtain ⟨hrn, hmw, a', har, hgo, m, hk⟩ := hat
  obtain ⟨sn, rc, hch⟩ := C.chan
  subst hcl
  have hgo := hgo _ sn rc hch
  have hrun := runT_crowd_go (P := s.P) (sl := sl) (i := 0) ha (by simpa using hgo)
  have fx := C.fix.chanSet ok (buf.map vI).toArray true sn rc
  have hg0 : ∀ op ∈ MemOp.ofEvents 0 a.frame.fn a.frame.place (closeEvents s.ch), op.g = 0 := fun op hop => by obtain ⟨e, _, rfl⟩ := Go.Conc.mem_ofEvents hop; rfl
  have hce : ∀ e ∈ closeEvents s.ch, e = ⟨.obj s.ch, false, true⟩ ∨ e = ⟨.obj s.ch, true, true⟩ := by intro e he; simpa [closeEvents] using he
  have hok : ∀ op ∈ MemOp.ofEvents 0 a.frame.fn a.frame.place (closeEvents s.ch), OkT s.Sh s.Rd 0 op := by
    intro op hop
    obtain ⟨e, he, rfl⟩ := Go.Conc.mem_ofEvents hop
    refine ⟨rfl, fun x hx => ?_⟩
    rcases hce e he with rfl | rfl
    · simp only [MemAct.ofEvent, MemAct.touch?, Option.some.injEq] at hx
      subst hx
      exact .inl ⟨ok.shc, .inl rfl⟩
    · simp [MemAct.ofEvent, MemAct.touch?] at hx
  have T0 := C.tr.zero ok.shr L0 hok (fun e he => by rcases hce e he with rfl | rfl <;> simp) (fun e he => by rcases hce e he with rfl | rfl <;> exact lh)
  have T1 : s.Tr t₀ (t ++ MemOp.ofEvents 0 a.frame.fn a.frame.place (closeEvents s.ch)) j (wakeD D) := by
    refine ⟨T0.above, T0.tj, T0.ext, T0.norel, fun k hk => ?_, fun k hk hs => ?_, T0.low⟩
    · rw [T0.deafW k hk]; unfold wakeD; split <;> rfl
    · have := wakeD_stage D k
      exact T0.rel k hk (by omega)
  have hw : ∀ o, woken s.P a a' (w.setChan s.ch s.cap (buf.map vI).toArray true sn rc false) o = o.again (w.setChan s.ch s.cap (buf.map vI).toArray true sn rc false) := fun o => by
    unfold Go.Conc.woken
    rw [if_pos]
    simp [hmw, har]
  have hch2 := heap_setChan_self w hch s.cap (buf.map vI).toArray true sn rc false
  refine ⟨_, _, (s.Phi j (wakeD D) true [] buf .kd, s.Ful m j (wakeD D) q), hrun, Prod.Lex.left _ _ ?_, _, _, sl, j, wakeD D, q, true, [], buf, f, .kd, m, 0, a', st, sm, rfl, get_map_set_same _ _ _ (by rw [C.size]; omega), ⟨hj, rfl, .inr ⟨rfl, rfl, goes_0 hk⟩⟩,
    ⟨by simp [C.size], C.jn, fun k y h0 hk' hy => ?_, fun k hk' => ?_, fx, ⟨sn, rc, hch2⟩, fun b hb => ?_, ?_, C.room, fun k hk' h7 => ?_, fun _ k hk' => ?_, fun k hk' h12 => ?_, T1⟩, hwg.of_block (heap_setChan_ne w _ _ _ _ _ _ (fun e => ok.wh e.symm)), ?_, ?_, rfl⟩
  · unfold Site.Phi
    have hs := sumTo_le1 (f := fun k => (wakeD D k).wt) (g := fun k => (D k).wt) (j := j) (fun k _ => wakeD_wt D k)
    simp only [phiS]
    simp
    omega
  · rw [get_map_set _ _ _ _ (by omega)] at hy
    obtain ⟨z, hz, rfl⟩ := Option.map_eq_some_iff.1 hy
    have hq := C.old k z h0 hk' hz
    rw [woken_quitsD hq, Deaf_other t (g' := 0) (by omega) _ hg0]
    exact hq
  · obtain ⟨y, hy, py⟩ := C.wk k hk'
    rw [get_map_set _ _ _ _ (by omega), hy, Option.map_some]
    refine ⟨_, rfl, ?_⟩
    rcases py.status ok C.fix with ⟨e12, g0, hl0, rfl⟩ | ⟨h12, h⟩
    · rw [hw, again_recv_closed hch2]
      have : (wakeD D k).stage = 13 := by unfold wakeD; rw [if_pos e12]
      rw [wpos_13 this]
      refine ⟨?_, g0, hl0, rfl⟩
      rw [wpos_12 e12] at py
      unfold wakeD; rw [if_pos e12]; exact py.1
    · rw [py.woken ok C.fix a a' (fun e => absurd e h12)]
      have : wakeD D k = D k := by unfold wakeD; rw [if_neg h12]
      rw [this]
      exact py.next ok C.fix fx
  · rw [setChan_cell w _ _ _ _ _ (ok.atw b hb).2]; exact C.vals b hb
  · have : ghD (wakeD D) j = ghD D j := by
      funext k
      unfold ghD
      by_cases c : k < j
      · rw [if_pos c, if_pos c, wakeD_gh]
      · rw [if_neg c, if_neg c]
    rw [this]; exact C.gi
  · unfold wakeD at h7
    by_cases e : (D k).stage = 12
    · rw [if_pos e] at h7; simp at h7
    · rw [if_neg e] at h7
      have := (C.dry k hk' h7).2
      cases this
  · unfold wakeD
    by_cases e : (D k).stage = 12
    · rw [if_pos e]; show (13 : Nat) ≠ 12; omega
    · rw [if_neg e]; exact e
  · unfold wakeD at h12
    by_cases e : (D k).stage = 12
    · rw [if_pos e] at h12; simp at h12
    · rw [if_neg e] at h12; exact absurd h12 e
  · exact Go.ConcN.Mode.congr (D := fun k => (D k).pr) (D' := fun k => (wakeD D k).pr) (fun k _ => wakeD_stage D k) hmode
  · rw [Deaf_own, hd0]; simp [deafBehind, closeEvents]
end
end Go.Proofs.YtpajdmhgonmgoaaDoor

