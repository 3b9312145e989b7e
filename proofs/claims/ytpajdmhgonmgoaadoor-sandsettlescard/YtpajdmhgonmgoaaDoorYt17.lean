/-
  What the last text of this claim leans on, part 17: Ka7, Ka8.
-/
import Derived.Test.YtpajdmhgonmgoaaDoorYt16
namespace Go.Proofs.YtpajdmhgonmgoaaDoor
open Go.Conc Go.ConcN
open Go.ConcR (KK wgBlock WgAt stA smA rd wr Payload DC0)
set_option linter.unusedVariables false
theorem upd_id {α : Type} (h : Nat → α) (i : Nat) : upd h i (h i) = h := by
  funext k
  by_cases e : k = i
  · subst e; rw [upd_same]
  · rw [upd_ne _ _ e]
theorem okT_reads {s : Site} {g : Nat} {fn : FuncId} {pos : String} {es : Array Event} (h : ∀ e ∈ es, ∃ a, e = ⟨.cell a, false, false⟩ ∧ s.RdC a) : ∀ op ∈ MemOp.ofEvents g fn pos es, OkT s.Sh s.Rd g op := by
  intro op hop
  obtain ⟨e, he, rfl⟩ := Go.Conc.mem_ofEvents hop
  obtain ⟨a, rfl, ha⟩ := h e he
  refine ⟨rfl, fun x hx => ?_⟩
  simp only [ofEvent_cell0, MemAct.touch?, Option.some.injEq] at hx
  subst hx
  exact .inr (.inl ⟨⟨a, rfl, ha⟩, rfl⟩)
theorem okT_atoms {s : Site} {g : Nat} {fn : FuncId} {pos : String} {es : Array Event} (h : ∀ e ∈ es, ∃ a wr, e = ⟨.cell a, wr, true⟩ ∧ s.Sh (.cell a)) : ∀ op ∈ MemOp.ofEvents g fn pos es, OkT s.Sh s.Rd g op := by
  intro op hop
  obtain ⟨e, he, rfl⟩ := Go.Conc.mem_ofEvents hop
  obtain ⟨a, wr, rfl, ha⟩ := h e he
  refine ⟨rfl, fun x hx => ?_⟩
  simp only [ofEvent_cell0, MemAct.touch?, Option.some.injEq] at hx
  subst hx
  exact .inl ⟨ha, .inl rfl⟩
section
variable [Payload] {s : Site} {w w' : World} {t₀ : Trace} {gs : Array Goroutine} {t : Trace} {j : Nat} {D : Nat → Wk} {q : Nat → Nat} {cl : Bool} {its buf : List Nat} {f : Addr → Int} {i : Nat} {g : Goroutine} {sl : Option (Nat × Nat)}
  {tag : CTag} {f0 d0 : Nat} {a : Goroutine} {st sm : Int}
/-- A worker's silent step. -/
theorem silentW (ok : s.Ok) (ha : gs[0]? = some a) (hsp : s.SPos cl its tag j f0 d0 a w) (C : s.Crw t₀ gs w t j D q cl its buf f) (hwg : WgAt s.ty s.Wg w st sm) (hmode : Go.ConcN.Mode j (fun k => (D k).pr) tag st sm) (hd0 : Deaf t 0 = d0) (hi : i < j)
    (hg : gs[s.L + i]? = some g) {g' : Goroutine} {d m : Nat} {es : Array Event} (hgo : stepG s.P false g w = .go g' (w.at d) es) (hev : ∀ e ∈ es, ∃ a, e = ⟨.cell a, false, false⟩ ∧ s.RdC a) (h8 : 9 ≤ (D i).stage) (h12 : (D i).stage ≠ 12) (hm : m + 1 = (D i).fuel)
    (hp : s.WPos ⟨(D i).stage, m, (D i).deaf, (D i).item, (D i).adds⟩ g' (w.at d)) :
    ∃ m₁ ops μ', runT s.P (crowd gs w sl) (s.L + i) = (.next m₁, ops) ∧ Lt2 μ' (s.Phi j D cl its buf tag, s.Ful f0 j D q) ∧ s.Inv t₀ μ' m₁ (t ++ ops) := by
  have FD := C.fix
  refine workerGo ok ha hsp C hd0 hi hg hgo ⟨(D i).stage, m, (D i).deaf, (D i).item, (D i).adds⟩ f (C.fix.at ok d) rfl C.vals hp ?_ (fun h => ?_) h12 (okT_reads hev) (fun e he => ?_) (deafBehind_idle (fun e he => ?_) _) (fun h => ?_) (fun e he => ?_) hwg (fun tag' ht _ => (mode_same (i := i) (x := ⟨(D i).stage, m, (D i).deaf, (D i).item, (D i).adds⟩) hmode rfl).retag ht) (.inr ⟨rfl, rfl, hm⟩)
  · have e : (⟨(D i).stage, m, (D i).deaf, (D i).item, (D i).adds⟩ : Wk).gh = ghD D j i := by rw [ghD_at D hi]; rfl
    rw [e, upd_id]
    exact C.gi
  · simp at h; omega
  · obtain ⟨a, rfl, _⟩ := hev e he; simp
  · obtain ⟨a, rfl, _⟩ := hev e he; exact ⟨by simp, by simp⟩
  · simp at h; omega
  · obtain ⟨a, rfl, ha⟩ := hev e he; rw [ofEvent_cell0]; exact ok.lwr a ha
/-- WHATEVER STEP IT TAKES. -/
theorem rangeStep (ok : s.Ok) (ha : gs[0]? = some a) (hsp : s.SPos cl its tag j f0 d0 a w) (C : s.Crw t₀ gs w t j D q cl its buf f) (hwg : WgAt s.ty s.Wg w st sm) (hmode : Go.ConcN.Mode j (fun k => (D k).pr) tag st sm) (hd0 : Deaf t 0 = d0) (hi : i < j)
    (hg : gs[s.L + i]? = some g) (hr : g.status = .running) (h8 : (D i).stage = 9 ∨ (D i).stage = 10 ∨ (D i).stage = 11 ∨ (D i).stage = 12 ∨ (D i).stage = 13) :
    ∃ m₁ ops μ', runT s.P (crowd gs w sl) (s.L + i) = (.next m₁, ops) ∧ Lt2 μ' (s.Phi j D cl its buf tag, s.Ful f0 j D q) ∧ s.Inv t₀ μ' m₁ (t ++ ops) := by
  obtain ⟨g1, hg1, hp⟩ := C.wk i hi
  obtain rfl : g = g1 := by rw [hg] at hg1; exact Option.some.inj hg1
  have FD := C.fix
  rcases h8 with e | e | e | e | e
  · rw [wpos_9 e] at hp
    obtain ⟨hd, hG⟩ := hp
    rcases Goes.cases hG with hstop | ⟨m', em, hstep⟩
    · have hs := hstop w FD
      cases hadds : (D i).adds with
      | nil =>
        rw [hadds] at hs
        exact loopStep ok ha hsp C hwg hmode hd0 hi hg hs (ok.comm g w hs) (by omega) (by simp [Wk.gh, e, hadds]) (by simp [Wk.wt, e, hadds]) hd
      | cons ad ls =>
        obtain ⟨α, δ⟩ := ad
        rw [hadds] at hs
        obtain ⟨_, hall⟩ := hs
        have hgk : ghD D j i = (none, (α, δ) :: ls) := by rw [ghD_at D hi]; simp [Wk.gh, e, hadds]
        obtain ⟨hA, hF, hG'⟩ := ok.add f α δ ls buf its (ghD D j) i C.gi hgk
        obtain ⟨g', hgo, m, hk⟩ := hall (f α) (C.vals α hA) hF
        have nb := ok.atw α hA
        refine workerGo ok ha hsp C hd0 hi hg hgo ⟨9, m, 0, 0, ls⟩ (fun x => if x = α then f α + δ else f x) (C.fix.set ok hA _) (heap_setCell_other _ _ _ _ (fun q => nb.2 q.symm)) (fun b hb => ?_) ?_ hG' (fun h => by simp at h) (by simp)
          (okT_atoms (fun x hx => ?_)) (fun x hx => ?_) ?_ (fun h => by simp at h) (fun x hx => ?_) (hwg.of_block (heap_setCell_other _ _ _ _ (fun q => nb.1 q.symm))) (fun tag' ht _ => (mode_same hmode (by simp; omega)).retag ht) (.inl ⟨?_, ?_⟩)
        · by_cases q : b = α
          · subst q; rw [if_pos rfl]; exact World.cell?_setCell_same _ _ _ (C.vals b hA)
          · rw [if_neg q, World.cell?_setCell_other _ _ _ _ (fun z => q z.symm)]; exact C.vals b hb
        · rw [wpos_9 rfl]; exact ⟨rfl, goes_w hk⟩
        · simp at hx
          rcases hx with rfl | rfl
          · exact ⟨α, false, rfl, ok.sha α hA⟩
          · exact ⟨α, true, rfl, ok.sha α hA⟩
        · simp at hx; rcases hx with rfl | rfl <;> simp [rd, wr]
        · rw [hd]; rfl
        · simp at hx
          rcases hx with rfl | rfl
          · exact ok.lwa α hA
          · exact ok.lwa α hA
        · simp [Wk.wt, e, hadds]
        · exact Nat.le_of_eq (pr_stage (by simp; omega))
    · obtain ⟨g', w', es, hgo, ⟨⟨d, rfl⟩, hev⟩, hg'⟩ := hstep w FD
      exact silentW ok ha hsp C hwg hmode hd0 hi hg hgo hev (by omega) (by omega) (m := m') (by omega) (by rw [wpos_9 (show (⟨(D i).stage, m', (D i).deaf, (D i).item, (D i).adds⟩ : Wk).stage = 9 from e)]; exact ⟨hd, goes_w hg'⟩)
  · rw [wpos_10 e] at hp
    obtain ⟨hd, hG⟩ := hp
    rcases Goes.cases hG with hstop | ⟨m', em, hstep⟩
    · obtain ⟨_, hall⟩ := hstop w FD
      have hgk : ghD D j i = (some (D i).item, []) := by rw [ghD_at D hi]; simp [Wk.gh, e]
      obtain ⟨hA, hV, hL, hG'⟩ := ok.load f (D i).item buf its (ghD D j) i C.gi hgk
      obtain ⟨g', hgo, m, hk⟩ := hall _ (C.vals _ hA) hV
      refine workerGo ok ha hsp C hd0 hi hg hgo ⟨9, m, 0, 0, s.plan (D i).item (f (s.cpA (D i).item))⟩ f C.fix rfl C.vals ?_ hG' (fun h => by simp at h) (by simp)
        (okT_atoms (fun x hx => ?_)) (fun x hx => ?_) ?_ (fun h => by simp at h) (fun x hx => ?_) hwg (fun tag' ht _ => (mode_same hmode (by simp; omega)).retag ht) (.inl ⟨?_, ?_⟩)
      · rw [wpos_9 rfl]; exact ⟨rfl, goes_w hk⟩
      · simp at hx; subst hx; exact ⟨_, false, rfl, ok.sha _ hA⟩
      · simp at hx; subst hx; simp [rd]
      · rw [hd]; rfl
      · simp at hx; subst hx; exact ok.lwa _ hA
      · have : (D i).wt = 24 := by simp [Wk.wt, e]
        rw [this]
        show 9 + (s.plan (D i).item (f (s.cpA (D i).item))).length < 24
        omega
      · exact Nat.le_of_eq (pr_stage (by simp; omega))
    · obtain ⟨g', w', es, hgo, ⟨⟨d, rfl⟩, hev⟩, hg'⟩ := hstep w FD
      exact silentW ok ha hsp C hwg hmode hd0 hi hg hgo hev (by omega) (by omega) (m := m') (by omega) (by rw [wpos_10 (show (⟨(D i).stage, m', (D i).deaf, (D i).item, (D i).adds⟩ : Wk).stage = 10 from e)]; exact ⟨hd, goes_w hg'⟩)
  · rw [wpos_11 e] at hp
    obtain ⟨hd, hG⟩ := hp
    rcases Goes.cases hG with hstop | ⟨m', em, hstep⟩
    · have hs := hstop w FD
      exact loopStep ok ha hsp C hwg hmode hd0 hi hg hs (ok.comm g w hs) (by omega) (by simp [Wk.gh, e]) (by simp [Wk.wt, e]) hd
    · obtain ⟨g', w', es, hgo, ⟨⟨d, rfl⟩, hev⟩, hg'⟩ := hstep w FD
      exact silentW ok ha hsp C hwg hmode hd0 hi hg hgo hev (by omega) (by omega) (m := m') (by omega) (by rw [wpos_11 (show (⟨(D i).stage, m', (D i).deaf, (D i).item, (D i).adds⟩ : Wk).stage = 11 from e)]; exact ⟨hd, goes_w hg'⟩)
  · rw [wpos_12 e] at hp
    obtain ⟨_, g0, _, rfl⟩ := hp
    simp [parked] at hr
  · rw [wpos_13 e] at hp
    obtain ⟨hd, g0, hl, rfl⟩ := hp
    refine loopStep ok ha hsp C hwg hmode hd0 hi hg hl ?_ (by omega) (by simp [Wk.gh, e]) (by simp [Wk.wt, e]) hd
    exact (stepG_same rfl rfl rfl w).trans (ok.comm g0 w hl)
end
end Go.Proofs.YtpajdmhgonmgoaaDoor

namespace Go.Proofs.YtpajdmhgonmgoaaDoor
open Go.Conc Go.ConcN
open Go.ConcR (KK wgBlock WgAt stA smA rd wr Payload DC0 Bk bk_of_mute ofEvent_loc_mark)
set_option linter.unusedVariables false
theorem okT_none {s : Site} {g : Nat} {fn : FuncId} {pos : String} {es : Array Event} (h : ∀ e ∈ es, (MemAct.ofEvent e).touch? = none) : ∀ op ∈ MemOp.ofEvents g fn pos es, OkT s.Sh s.Rd g op := by
  intro op hop
  obtain ⟨e, he, rfl⟩ := Go.Conc.mem_ofEvents hop
  exact ⟨rfl, fun x hx => by rw [h e he] at hx; cases hx⟩
theorem gh_low {d : Wk} (h : d.stage ≤ 7) : d.gh = (none, []) := by
  unfold Wk.gh
  rw [if_neg (by omega), if_neg (by omega)]
theorem wt_low {d : Wk} (h : d.stage ≤ 7) : d.wt = d.stage := by unfold Wk.wt; rw [if_pos h]
section
variable [Payload] {s : Site} {w w' : World} {t₀ : Trace} {gs : Array Goroutine} {t : Trace} {j : Nat} {D : Nat → Wk} {q : Nat → Nat} {cl : Bool} {its buf : List Nat} {f : Addr → Int} {i : Nat} {g : Goroutine} {sl : Option (Nat × Nat)}
  {tag : CTag} {f0 d0 : Nat} {a : Goroutine} {st sm : Int}
theorem bk_low (ok : s.Ok) {e : Event} (h : Bk s.Wg e) : (MemAct.ofEvent e).low s.B := by
  rcases h with h1 | h1 | ⟨a, wr, rfl, ha⟩
  · rw [ofEvent_loc_mark h1]; trivial
  · rw [ofEvent_loc_mark h1]; trivial
  · show a.block < s.B
    rw [ha]; exact ok.lww
theorem bk_touch (ok : s.Ok) {e : Event} (h : Bk s.Wg e) {x : Touch} (hx : (MemAct.ofEvent e).touch? = some x) : s.Sh x.loc ∧ x.kind = .atomic := by
  rcases h with h1 | h1 | ⟨a, wr, rfl, ha⟩
  · rw [ofEvent_loc_mark h1] at hx; cases hx
  · rw [ofEvent_loc_mark h1] at hx; cases hx
  · simp only [ofEvent_cell0, MemAct.touch?, Option.some.injEq] at hx
    subst hx
    exact ⟨ok.shw a ha, rfl⟩
theorem okT_bk (ok : s.Ok) {g : Nat} {fn : FuncId} {pos : String} {es : Array Event} (h : ∀ e ∈ es, Bk s.Wg e) : ∀ op ∈ MemOp.ofEvents g fn pos es, OkT s.Sh s.Rd g op := by
  intro op hop
  obtain ⟨e, he, rfl⟩ := Go.Conc.mem_ofEvents hop
  exact ⟨rfl, fun x hx => let ⟨h1, h2⟩ := bk_touch ok (h e he) hx; .inl ⟨h1, .inl h2⟩⟩
theorem Site.Crw.giLow (C : s.Crw t₀ gs w t j D q cl its buf f) (hi : i < j) (h : (D i).stage ≤ 7) {x : Wk} (hx : x.stage ≤ 7) : s.GI f buf its (upd (ghD D j) i x.gh) := by
  rw [gh_low hx]
  have e : (none, []) = ghD D j i := by rw [ghD_at D hi, gh_low h]
  rw [e, upd_id]
  exact C.gi
/-- WHATEVER STEP A WORKER TAKES THAT IS DONE. -/
theorem doneStep (ok : s.Ok) (ha : gs[0]? = some a) (hsp : s.SPos cl its tag j f0 d0 a w) (C : s.Crw t₀ gs w t j D q cl its buf f) (hwg : WgAt s.ty s.Wg w st sm) (hmode : Go.ConcN.Mode j (fun k => (D k).pr) tag st sm) (hd0 : Deaf t 0 = d0) (hi : i < j)
    (hg : gs[s.L + i]? = some g) (hrun : g.status = .running) (h7 : (D i).stage ≤ 7) :
    ∃ m₁ ops μ', runT s.P (crowd gs w sl) (s.L + i) = (.next m₁, ops) ∧ Lt2 μ' (s.Phi j D cl its buf tag, s.Ful f0 j D q) ∧ s.Inv t₀ μ' m₁ (t ++ ops) := by
  obtain ⟨g1, hg1, hs⟩ := C.wk i hi
  obtain rfl : g = g1 := by rw [hg] at hg1; exact Option.some.inj hg1
  have hst' : (D i).pr.stage = (D i).stage := by show min _ _ = _; omega
  have gl : ∀ {x : Wk}, x.stage ≤ 7 → s.GI f buf its (upd (ghD D j) i x.gh) := fun hx => C.giLow hi h7 hx
  have hdry := C.dry i hi h7
  have hdk : Deaf t (s.L + i) = (D i).deaf := C.tr.deafW i hi
  have hVj := Vc_le j (fun k => (D k).pr)
  have hwtD := wt_low h7
  by_cases e7 : (D i).stage = 7
  · rw [wpos_7 e7] at hs
    obtain ⟨hd, hG⟩ := hs
    rcases Goes.cases hG with hstop | ⟨m', em, hstep⟩
    · obtain ⟨_, g', hgo, m₂, hk⟩ := hstop w C.fix
      refine workerGo ok ha hsp C hd0 hi hg hgo ⟨6, m₂, 0, 0, []⟩ f C.fix rfl C.vals ?_ (gl (by show 6 ≤ 7; omega)) (fun _ => hdry) (by show (6 : Nat) ≠ 12; omega)
        (okT_none (by intro e he; simp at he; subst he; rfl)) (by intro e he; simp at he; subst he; simp [Go.ConcR.mk]) (by rw [hd]; rfl) (fun _ => ⟨t.size, RelK.new (by rw [hdk, hd]) _ _⟩) (by intro e he; simp at he; subst he; exact ok.lww) hwg (fun tag' ht _ => (hmode.counted hi (by rw [hst']; omega) (.inl rfl) _ _).retag ht) (.inl ⟨?_, ?_⟩)
      · rw [wpos_q (by simp)]; exact hk
      · rw [hwtD, e7]; simp [Wk.wt]
      · simp [cnt, Wk.pr, e7]
    · obtain ⟨g', w', es, hgo, ⟨⟨d, rfl⟩, hev⟩, hg'⟩ := hstep w C.fix
      refine workerGo ok ha hsp C hd0 hi hg hgo ⟨7, m', 0, 0, []⟩ f (C.fix.at ok d) rfl C.vals ?_ (gl (by show 7 ≤ 7; omega)) (fun _ => hdry) (by show (7 : Nat) ≠ 12; omega)
        (okT_reads hev) (fun e he => ?_) (by rw [hd]; exact deafBehind_idle (fun e he => by obtain ⟨a, rfl, _⟩ := hev e he; exact ⟨by simp, by simp⟩) _) (fun h => absurd h (by show ¬ 7 ≤ 6; omega)) (fun e he => ?_) hwg (fun tag' ht _ => (mode_same (i := i) (x := ⟨7, m', 0, 0, []⟩) hmode (by rw [e7])).retag ht) (.inr ⟨?_, ?_, ?_⟩)
      · rw [wpos_7 rfl]; exact ⟨rfl, goes_w hg'⟩
      · obtain ⟨a, rfl, _⟩ := hev e he; simp
      · obtain ⟨a, rfl, ha⟩ := hev e he; rw [ofEvent_cell0]; exact ok.lwr a ha
      · rw [hwtD, e7]; simp [Wk.wt]
      · exact pr_stage (by rw [e7])
      · rw [em]
  replace h7 : (D i).stage ≤ 6 := by omega
  rw [wpos_q (.inl h7)] at hs
  unfold Site.WQ at hs
  generalize hstg : (D i).stage = sg at hs h7 hst' hwtD
  generalize hfu : (D i).fuel = m at hs
  generalize hde : (D i).deaf = dd at hs hdk
  have bookG : ∀ {g' : Goroutine} {w' : World} {es : Array Event} {s' m' dd' : Nat} {st' sm' : Int}, stepG s.P false g w = .go g' w' es → Aside s.Wg w w' → WgAt s.ty s.Wg w' st' sm' → (∀ e ∈ es, Bk s.Wg e) →
      (∀ jx e, es[jx]? = some e → (MemAct.ofEvent e).touch? = none ∨ 0 < deafBehind dd (es.extract 0 jx)) → s.WQ s' m' dd' g' w' → deafBehind dd es = dd' → s' ≤ 6 →
      (∀ tag', (tag' = tag ∨ (tag = .blk ∧ tag' = .w3)) → (mayWake s.P g = true → g'.status = .running → tag' ≠ .blk) → Go.ConcN.Mode j (upd (fun k => (D k).pr) i ⟨s', m', dd'⟩) tag' st' sm') → ((s' < sg ∧ cnt ⟨s', m', dd'⟩ ≤ cnt (D i).pr) ∨ (s' = sg ∧ m' + 1 = m)) →
      ∃ m₁ ops μ', runT s.P (crowd gs w sl) (s.L + i) = (.next m₁, ops) ∧ Lt2 μ' (s.Phi j D cl its buf tag, s.Ful f0 j D q) ∧ s.Inv t₀ μ' m₁ (t ++ ops) := by
    intro g' w' es s' m' dd' st' sm' hgo hAs hwg' hbk hd hs' hdd h7' hmode' hlt
    have cc : ∀ x : Addr, x.block ≠ s.Wg → w'.cell? x = w.cell? x := fun x hx => by simp [World.cell?, hAs.block _ hx]
    have epr : (⟨s', m', dd', 0, []⟩ : Wk).pr = ⟨s', m', dd'⟩ := by show (⟨min s' 7, m', dd'⟩ : WD) = _; rw [Nat.min_eq_left (by omega)]
    refine workerGo ok ha hsp C hd0 hi hg hgo ⟨s', m', dd', 0, []⟩ f (C.fix.wgSet ok hAs ⟨_, _, hwg'⟩) (hAs.block _ (Ne.symm ok.wh)) (fun b hb => by rw [cc b (ok.atw b hb).1]; exact C.vals b hb) ?_ (gl (by show s' ≤ 7; omega)) (fun _ => hdry) (by show s' ≠ 12; omega)
      (okT_bk ok hbk) (norel_of_Bk hbk) (by rw [hde]; exact hdd) (fun _ => ?_) (fun e he => bk_low ok (hbk e he)) hwg' (by rw [epr]; exact hmode') ?_
    · rw [wpos_q (.inl h7')]
      exact hs'
    · obtain ⟨r, hr⟩ := C.tr.rel i hi (by omega)
      exact ⟨r, hr.appOwn (hr.rel.book hdk _ _ hbk hd) (fun op hop x hx => by obtain ⟨e, he, rfl⟩ := Go.Conc.mem_ofEvents hop; exact bk_touch ok (hbk e he) hx)⟩
    · rw [wt_low (d := ⟨s', m', dd', 0, []⟩) (by show s' ≤ 7; omega), hwtD, epr]
      rcases hlt with ⟨h1, h2⟩ | ⟨h1, h2⟩
      · exact .inl ⟨h1, h2⟩
      · refine .inr ⟨h1, ?_, by rw [hfu]; exact h2⟩
        unfold cnt
        rw [show (D i).pr.stage = s' by rw [hst', h1]]
  have book : ∀ {g' : Goroutine} {w' : World} {es : Array Event} {s' m' dd' : Nat} {st' sm' : Int}, stepG s.P false g w = .go g' w' es → Aside s.Wg w w' → WgAt s.ty s.Wg w' st' sm' → (∀ e ∈ es, Bk s.Wg e) →
      (∀ jx e, es[jx]? = some e → (MemAct.ofEvent e).touch? = none ∨ 0 < deafBehind dd (es.extract 0 jx)) → s.WQ s' m' dd' g' w' → deafBehind dd es = dd' → s' ≤ 6 →
      Go.ConcN.Mode j (upd (fun k => (D k).pr) i ⟨s', m', dd'⟩) tag st' sm' → ((s' < sg ∧ cnt ⟨s', m', dd'⟩ ≤ cnt (D i).pr) ∨ (s' = sg ∧ m' + 1 = m)) →
      ∃ m₁ ops μ', runT s.P (crowd gs w sl) (s.L + i) = (.next m₁, ops) ∧ Lt2 μ' (s.Phi j D cl its buf tag, s.Ful f0 j D q) ∧ s.Inv t₀ μ' m₁ (t ++ ops) :=
    fun hgo hAs hwg' hbk hd hs' hdd h7' hmode' hlt => bookG hgo hAs hwg' hbk hd hs' hdd h7' (fun _ ht _ => hmode'.retag ht) hlt
  have idle : ∀ {g' : Goroutine} {m' : Nat}, stepG s.P false g w = .go g' w #[] → s.WQ sg m' dd g' w → m' + 1 = m →
      ∃ m₁ ops μ', runT s.P (crowd gs w sl) (s.L + i) = (.next m₁, ops) ∧ Lt2 μ' (s.Phi j D cl its buf tag, s.Ful f0 j D q) ∧ s.Inv t₀ μ' m₁ (t ++ ops) := by
    intro g' m' hgo hs' hm
    exact book hgo (.refl s.Wg w) hwg (by simp) (by simp) hs' rfl h7 (by have := hmode.same (i := i) m' dd; rwa [hst'] at this) (.inr ⟨rfl, hm⟩)
  have cn : cnt (D i).pr = if 5 ≤ sg then 1 else 0 := by unfold cnt; simp only [hst']
  cases hs with
  | r0 h => omega
  | k1 h =>
    rcases Goes.cases h with hstop | ⟨m', rfl, hstep⟩
    · obtain ⟨_, g', hgo, m₂, hk⟩ := hstop w (RW.refl w)
      exact book hgo (.refl s.Wg w) hwg (by intro e he; simp at he; subst he; exact .inl rfl) (by intro jx e he; exact .inl (by have := Array.mem_of_getElem? he; simp at this; subst this; rfl)) (.d1 hk) rfl (by omega)
        (hmode.counted hi (by omega) (.inr rfl) _ _) (.inl ⟨by omega, by rw [cn]; simp [cnt]⟩)
    · obtain ⟨g', w', es, hgo, ⟨rfl, rfl⟩, hg'⟩ := hstep w (RW.refl w)
      exact idle hgo (.k1 hg') rfl
  | d1 h =>
    rcases Goes.cases h with hstop | ⟨m', rfl, hstep⟩
    · obtain ⟨_, hall⟩ := hstop w (RW.refl w)
      have hc1 : cnt (D i).pr = 1 := by rw [cn]; simp
      have hV1 : 1 ≤ Vc j (fun k => (D k).pr) := by have := le_sumTo (f := fun x => cnt (D x).pr) hi; simp only [Vc]; omega
      have hVu : ∀ q, Vc j (upd (fun k => (D k).pr) i ⟨1, q, 1⟩) + 1 = Vc j (fun k => (D k).pr) := fun q => by
        have := Vc_upd (fun k => (D k).pr) (⟨1, q, 1⟩ : WD) hi
        have c0 : cnt (⟨1, q, 1⟩ : WD) = 0 := rfl
        simp only [hc1, c0] at this
        omega
      have bk2 : ∀ e ∈ #[rd (stA s.Wg), wr (stA s.Wg)], Bk s.Wg e := by intro e he; simp at he; rcases he with rfl | rfl <;> exact bk_cell _ _ rfl
      have df2 : ∀ jx e, (#[rd (stA s.Wg), wr (stA s.Wg)] : Array Event)[jx]? = some e → (MemAct.ofEvent e).touch? = none ∨ 0 < deafBehind 1 ((#[rd (stA s.Wg), wr (stA s.Wg)] : Array Event).extract 0 jx) := by
        intro jx e he
        match jx, he with
        | 0, _ => exact .inr (by simp [deafBehind])
        | 1, _ => exact .inr (by simp [deafBehind, rd])
        | jx + 2, he => simp at he
      have opq : ∀ q, OpenSt j (fun k => (D k).pr) → OpenSt j (upd (fun k => (D k).pr) i ⟨1, q, 1⟩) := fun q h a ha => by
        by_cases e : a = i
        · subst e; rw [upd_same]; simp
        · rw [upd_ne _ _ e]; exact h a ha
      have hjn := C.jn
      have hn2 := ok.n2
      have hpd : pend tag ≤ 1 := by cases tag <;> simp [pend]; split <;> omega
      cases hmode with
      | opn h1 h2 h3 =>
        obtain ⟨v, hv⟩ : ∃ v, Vc j (fun k => (D k).pr) + pend tag = v + 1 := ⟨Vc j (fun k => (D k).pr) + pend tag - 1, by omega⟩
        rw [hv] at hwg
        have hw1 : WgAt s.ty s.Wg w (((v : Nat) + 1) * KK + ((0 : Nat) : Int)) 0 := by simpa using hwg
        obtain ⟨g', hgo, _, hq⟩ := hall v 0 (by omega) (by omega) hw1
        obtain ⟨p, hq⟩ := hq (by omega)
        have hv' := hVu p
        refine book hgo (aside_setCell w (stA s.Wg) _) (hwg.setSt _) bk2 df2 (.quit hq) rfl (by omega) ?_ (.inl ⟨by omega, by simp [cnt]⟩)
        have e : ((v : Nat) : Int) * KK + ((0 : Nat) : Int) = ((Vc j (upd (fun k => (D k).pr) i ⟨1, p, 1⟩) + pend tag : Nat) : Int) * KK := by
          rw [show Vc j (upd (fun k => (D k).pr) i ⟨1, p, 1⟩) + pend tag = v by omega]; simp
        rw [e]
        exact .opn h1 (opq p h2) (fun vs ev => by have := h3 vs ev; omega)
      | reg h1 h2 h3 =>
        obtain ⟨v, hv⟩ : ∃ v, Vc j (fun k => (D k).pr) = v + 1 := ⟨Vc j (fun k => (D k).pr) - 1, by omega⟩
        rw [hv] at hwg
        have hw1 : WgAt s.ty s.Wg w (((v : Nat) + 1) * KK + ((1 : Nat) : Int)) 0 := by simpa using hwg
        obtain ⟨g', hgo, hl, hq⟩ := hall v 1 (by omega) (by omega) hw1
        by_cases hv0 : v = 0
        · subst hv0
          obtain ⟨m₂, hk⟩ := hl ⟨rfl, rfl⟩
          refine book hgo (aside_setCell w (stA s.Wg) _) (hwg.setSt _) bk2 df2 (.d2 hk) rfl (by omega) ?_ (.inl ⟨by omega, by simp [cnt]⟩)
          have hoth : ∀ a, a < j → a ≠ i → (D a).pr.stage = 1 := fun a ha e => by
            have c0 : cnt (D a).pr = 0 := others_uncounted (D := fun k => (D k).pr) hi hv hc1 a ha e
            have h2a : (D a).pr.stage = 7 ∨ (D a).pr.stage = 6 ∨ (D a).pr.stage = 5 ∨ (D a).pr.stage = 1 := h2 a ha
            simp only [cnt] at c0
            split at c0 <;> omega
          have := Go.ConcN.Mode.last (j := j) (D := upd (fun k => (D k).pr) i ⟨4, m₂, 1⟩) (tag := tag) i h1 hi (by rw [upd_same]; simp) (fun a ha e => by rw [upd_ne _ _ e]; exact hoth a ha e)
          rw [upd_same] at this
          simpa using this
        · obtain ⟨p, hq⟩ := hq (by omega)
          have hv' := hVu p
          refine book hgo (aside_setCell w (stA s.Wg) _) (hwg.setSt _) bk2 df2 (.quit hq) rfl (by omega) ?_ (.inl ⟨by omega, by simp [cnt]⟩)
          have e : ((v : Nat) : Int) * KK + ((1 : Nat) : Int) = ((Vc j (upd (fun k => (D k).pr) i ⟨1, p, 1⟩) : Nat) : Int) * KK + 1 := by
            rw [show Vc j (upd (fun k => (D k).pr) i ⟨1, p, 1⟩) = v by omega]; simp
          rw [e]
          exact .reg h1 (opq p h2) (by omega)
      | last L _ h2 h3 h4 =>
        by_cases e : i = L
        · subst e; simp only [hst'] at h3; omega
        · have := h4 i hi e; simp only [hst'] at this; omega
      | sema h2 => have := h2 i hi; simp only [hst'] at this; omega
      | fin _ h2 => have := h2 i hi; simp only [hst'] at this; omega
    · obtain ⟨g', w', es, hgo, ⟨rfl, rfl⟩, hg'⟩ := hstep w (RW.refl w)
      exact idle hgo (.d1 hg') rfl
  | d2 h =>
    rcases Goes.cases h with hstop | ⟨m', rfl, hstep⟩
    · obtain ⟨_, hx⟩ := hstop w (RW.refl w)
      obtain ⟨hW3, hoth, rfl, rfl⟩ := hmode.isLast hi (show (D i).pr.stage = 4 ∨ (D i).pr.stage = 3 ∨ (D i).pr.stage = 2 by omega)
      simp only [hst'] at hwg
      obtain ⟨g', hgo, m₂, hk⟩ := hx (by simpa using hwg)
      refine book hgo (.refl s.Wg w) hwg (by intro e he; simp at he; subst he; exact bk_cell _ _ rfl) (by intro jx e he; match jx, he with | 0, _ => exact .inr (by simp [deafBehind]) | jx + 1, he => simp at he) (.d3 hk) rfl (by omega) ?_ (.inl ⟨by omega, by simp [cnt]⟩)
      have := Go.ConcN.Mode.last (j := j) (D := upd (fun k => (D k).pr) i ⟨3, m₂, 1⟩) (tag := tag) i hW3 hi (by rw [upd_same]; simp) (fun a ha e => by rw [upd_ne _ _ e]; exact hoth a ha e)
      rw [upd_same] at this
      simpa using this
    · obtain ⟨g', w', es, hgo, ⟨rfl, rfl⟩, hg'⟩ := hstep w (RW.refl w)
      exact idle hgo (.d2 hg') rfl
  | d3 h =>
    rcases Goes.cases h with hstop | ⟨m', rfl, hstep⟩
    · obtain ⟨_, hx⟩ := hstop w (RW.refl w)
      obtain ⟨hW3, hoth, rfl, rfl⟩ := hmode.isLast hi (show (D i).pr.stage = 4 ∨ (D i).pr.stage = 3 ∨ (D i).pr.stage = 2 by omega)
      simp only [hst'] at hwg
      obtain ⟨g', hgo, m₂, hk⟩ := hx (by simpa using hwg)
      refine book hgo (aside_setCell w (stA s.Wg) _) (hwg.setSt 0) (by intro e he; simp at he; subst he; exact bk_cell _ _ rfl) (by intro jx e he; match jx, he with | 0, _ => exact .inr (by simp [deafBehind]) | jx + 1, he => simp at he) (.d4 hk) rfl (by omega) ?_ (.inl ⟨by omega, by simp [cnt]⟩)
      have := Go.ConcN.Mode.last (j := j) (D := upd (fun k => (D k).pr) i ⟨2, m₂, 1⟩) (tag := tag) i hW3 hi (by rw [upd_same]; simp) (fun a ha e => by rw [upd_ne _ _ e]; exact hoth a ha e)
      rw [upd_same] at this
      simpa using this
    · obtain ⟨g', w', es, hgo, ⟨rfl, rfl⟩, hg'⟩ := hstep w (RW.refl w)
      exact idle hgo (.d3 hg') rfl
  | d4 h =>
    rcases Goes.cases h with hstop | ⟨m', rfl, hstep⟩
    · obtain ⟨_, hmw, hx⟩ := hstop w (RW.refl w)
      obtain ⟨hW3, hoth, rfl, rfl⟩ := hmode.isLast hi (show (D i).pr.stage = 4 ∨ (D i).pr.stage = 3 ∨ (D i).pr.stage = 2 by omega)
      simp only [hst'] at hwg
      obtain ⟨g', hgo, p, hq⟩ := hx (by simpa using hwg)
      have hrun' : g'.status = .running := by
        cases p with
        | zero => exact absurd hq.2 (by decide)
        | succ p => exact hq.elim (fun x => absurd x.2 (by decide)) (fun x => x.1)
      refine bookG hgo (aside_setCell w (smA s.Wg) _) (hwg.setSm 1) (es := semEvents (smA s.Wg)) ?_ ?_ (.quit hq) (by simp [deafBehind, semEvents]) (by omega) ?_ (.inl ⟨by omega, by simp [cnt]⟩)
      · intro e he
        simp [semEvents] at he
        rcases he with rfl | rfl | rfl | rfl
        · exact .inl rfl
        · exact bk_cell _ _ rfl
        · exact bk_cell _ _ rfl
        · exact .inr (.inl rfl)
      · intro jx e he
        match jx, he with
        | 0, he => simp [semEvents] at he; subst he; exact .inl rfl
        | 1, _ => exact .inr (by simp [deafBehind, semEvents])
        | 2, _ => exact .inr (by simp [deafBehind, semEvents])
        | 3, he => simp [semEvents] at he; subst he; exact .inl rfl
        | jx + 4, he => simp [semEvents] at he
      · intro tag' ht hw
        have hnb := hw hmw hrun'
        have e3 : tag' = .w3 := by
          rcases ht with rfl | ⟨_, rfl⟩
          · cases tag' <;> first | rfl | exact hW3.elim | exact absurd rfl hnb
          · rfl
        subst e3
        simp only [if_true]
        exact .sema fun a ha => by
          by_cases e : a = i
          · subst e; rw [upd_same]
          · rw [upd_ne _ _ e]; exact hoth a ha e
    · obtain ⟨g', w', es, hgo, ⟨rfl, rfl⟩, hg'⟩ := hstep w (RW.refl w)
      exact idle hgo (.d4 hg') rfl
  | quit h =>
    cases m with
    | zero => rw [h.1] at hrun; cases hrun
    | succ p =>
      rcases h with ⟨hf, _⟩ | ⟨_, g', es, hmute, hstep, hq⟩
      · rw [hf] at hrun; cases hrun
      · have hbk : ∀ e ∈ es, Bk s.Wg e := fun e he => bk_of_mute (hmute e he)
        have hno : ∀ jx e, es[jx]? = some e → (MemAct.ofEvent e).touch? = none ∨ 0 < deafBehind dd (es.extract 0 jx) := fun jx e he => .inl (touch_mute (hmute e (Array.mem_of_getElem? he)))
        exact book (hstep w) (.refl s.Wg w) hwg hbk hno (.quit hq) rfl (by omega) (by have := hmode.same (i := i) p (deafBehind dd es); rwa [hst'] at this) (.inr ⟨rfl, rfl⟩)
end
end Go.Proofs.YtpajdmhgonmgoaaDoor

