/-
  What the last text of this claim leans on, part 17: Ka3, Ka4.
-/
import Derived.Test.YtpajdmhgonmgoaaDoorYs6
import Derived.Conc.TokenTrace
namespace Go.Proofs.YtpajdmhgonmgoaaDoor
open Go.Conc Go.ConcN
open Go.ConcR (KK wgBlock WgAt stA smA rd wr Payload DC0)
set_option linter.unusedVariables false
def ghD (D : Nat → Wk) (j : Nat) : Nat → Option Nat × List (Addr × Int) := fun i => if i < j then (D i).gh else (none, [])
theorem ghD_upd (D : Nat → Wk) {j i : Nat} (hi : i < j) (x : Wk) : ghD (upd D i x) j = upd (ghD D j) i x.gh := by
  funext k
  by_cases e : k = i
  · subst e; simp [ghD, upd, hi]
  · simp [ghD, upd, e]
theorem ghD_at (D : Nat → Wk) {j i : Nat} (hi : i < j) : ghD D j i = (D i).gh := by simp [ghD, hi]
/-- Operations that touch nothing and say nothing. -/
structure Hush (a : Addr) (B : Nat) (op : MemOp) : Prop where
  touch : op.act.touch? = none
  dis : op.act ≠ .mark .disable
  ena : op.act ≠ .mark .enable
  rel : op.act ≠ .mark (.release a)
  low : op.act.low B
theorem TJ.hush {Sh Rd : Loc → Prop} {L j B : Nat} {t u : Trace} {a : Addr} (h : TJ Sh Rd L t j) (hu : ∀ op ∈ u, Hush a B op) : TJ Sh Rd L (t ++ u) j := by
  have old : ∀ {i : Nat} {a : Touch}, touchAt (t ++ u) i = some a → touchAt t i = some a := by
    intro i a ha
    obtain ⟨x, hx, hxa⟩ := touch_of ha
    rcases getElem?_append_cases hx with ⟨_, hx'⟩ | ⟨_, hxu⟩
    · rw [touchAt_of hx']; exact hxa
    · rw [(hu x hxu).touch] at hxa; cases hxa
  refine ⟨fun said => noRace_appendMute (h.nr said) (fun op hop => (hu op hop).touch), fun i a ha hm hs => ?_, fun i a ha hm hr hw => (h.rd i a (old ha) hm hr hw).app u, fun i a ha hm hs hr => (h.mine i a (old ha) hm hs hr).app u⟩
  rcases h.sh i a (old ha) hm hs with k | ⟨k, kn⟩ | tk
  · exact .inl k
  · exact .inr (.inl ⟨k, kn.app u⟩)
  · exact .inr (.inr (tk.app u))
theorem RelK.hush {Sh : Loc → Prop} {a b : Addr} {B : Nat} {t u : Trace} {g r : Nat} (h : RelK Sh a t g r) (hu : ∀ op ∈ u, Hush b B op) : RelK Sh a (t ++ u) g r := by
  refine ⟨h.rel.app fun i hi hg hc => ?_, fun i op x hi ho hog hx => ?_⟩
  · obtain ⟨x, hx, _⟩ := hc
    obtain ⟨op, ho, hox⟩ := touch_of hx
    rcases getElem?_append_cases ho with ⟨hlt, _⟩ | ⟨_, hou⟩
    · omega
    · rw [(hu op hou).touch] at hox; cases hox
  · rcases getElem?_append_cases ho with ⟨_, ho'⟩ | ⟨_, hou⟩
    · exact h.after i op x hi ho' hog hx
    · rw [(hu op hou).touch] at hx; cases hx
/-- What holds of the trace. -/
structure Site.Tr (s : Site) (t₀ t : Trace) (j : Nat) (D : Nat → Wk) : Prop where
  above : ∀ i, s.L + j ≤ i → Deaf t i = 0
  tj : TJ s.Sh s.Rd s.L t j
  ext : Ext s.L j t₀ t
  norel : NoRelease (stA s.Wg) t
  deafW : ∀ i, i < j → Deaf t (s.L + i) = (D i).deaf
  rel : ∀ i, i < j → (D i).stage ≤ 6 → ∃ r, RelK s.Sh (stA s.Wg) t (s.L + i) r
  low : ∀ op ∈ t, op.act.low s.B
section
variable {s : Site} {t₀ t u : Trace} {j : Nat} {D : Nat → Wk}
theorem low_app {B : Nat} (h : ∀ op ∈ t, op.act.low B) (hu : ∀ op ∈ u, op.act.low B) : ∀ op ∈ t ++ u, op.act.low B := fun op hop => (Array.mem_append.1 hop).elim (h op) (hu op)
/-- Operations that touch and say nothing, whoever's. -/
theorem Site.Tr.hush (h : s.Tr t₀ t j D) (hu : ∀ op ∈ u, Hush (stA s.Wg) s.B op) : s.Tr t₀ (t ++ u) j D := by
  have hd : ∀ g, Deaf (t ++ u) g = Deaf t g := fun g => Deaf_still t g u (fun op hop => ⟨(hu op hop).dis, (hu op hop).ena⟩)
  exact ⟨fun i hi => (hd i).trans (h.above i hi), h.tj.hush hu, h.ext.app (Nat.le_refl _) (fun op hop => .inr (.inl (hu op hop).touch)), h.norel.app (fun op hop => (hu op hop).rel), fun i hi => (hd _).trans (h.deafW i hi), fun i hi hs => let ⟨r, hr⟩ := h.rel i hi hs; ⟨r, hr.hush hu⟩, low_app h.low (fun op hop => (hu op hop).low)⟩
/-- Another's data, alike as the trace sees them. -/
theorem Site.Tr.data (h : s.Tr t₀ t j D) {i : Nat} {x : Wk} (hd : i < j → x.deaf = (D i).deaf) (hs : i < j → x.stage ≤ 6 → (D i).stage ≤ 6) : s.Tr t₀ t j (upd D i x) := by
  refine ⟨h.above, h.tj, h.ext, h.norel, fun k hk => ?_, fun k hk hst => ?_, h.low⟩
  · by_cases e : k = i
    · subst e; rw [upd_same, h.deafW k hk, hd hk]
    · rw [upd_ne D _ e]; exact h.deafW k hk
  · by_cases e : k = i
    · subst e; rw [upd_same] at hst; exact h.rel k hk (hs hk hst)
    · rw [upd_ne D _ e] at hst; exact h.rel k hk hst
/-- A worker's own step. -/
theorem Site.Tr.own (A : ∀ l, s.Rd l → ¬ s.Sh l) (h : s.Tr t₀ t j D) {i : Nat} (hi : i < j) {x : Wk} {fn : FuncId} {pos : String} {es : Array Event}
    (hok : ∀ op ∈ MemOp.ofEvents (s.L + i) fn pos es, OkT s.Sh s.Rd (s.L + i) op) (hnr : ∀ e ∈ es, e.loc ≠ .mark (.release (stA s.Wg))) (hdeaf : deafBehind (D i).deaf es = x.deaf)
    (hrel : x.stage ≤ 6 → ∃ r, RelK s.Sh (stA s.Wg) (t ++ MemOp.ofEvents (s.L + i) fn pos es) (s.L + i) r) (hlow : ∀ e ∈ es, (MemAct.ofEvent e).low s.B) : s.Tr t₀ (t ++ MemOp.ofEvents (s.L + i) fn pos es) j (upd D i x) := by
  have hg : ∀ op ∈ MemOp.ofEvents (s.L + i) fn pos es, op.g = s.L + i := fun op hop => by obtain ⟨e, _, rfl⟩ := Go.Conc.mem_ofEvents hop; rfl
  refine ⟨fun k hk => ?_, h.tj.app A (.inr ⟨i, hi, rfl⟩) hok, h.ext.app (Nat.le_refl _) (fun op hop => .inr (.inr ⟨i, hi, hg op hop⟩)), h.norel.app (norel_of hnr), fun k hk => ?_, fun k hk hst => ?_, low_app h.low (fun op hop => by obtain ⟨e, he, rfl⟩ := Go.Conc.mem_ofEvents hop; exact hlow e he)⟩
  · rw [Deaf_other t (g' := s.L + i) (by omega) _ hg]; exact h.above k hk
  · by_cases e : k = i
    · subst e; rw [Deaf_own, h.deafW k hk, upd_same]; exact hdeaf
    · rw [Deaf_other t (g' := s.L + i) (by omega) _ hg, h.deafW k hk, upd_ne D _ e]
  · by_cases e : k = i
    · subst e; rw [upd_same] at hst; exact hrel hst
    · rw [upd_ne D _ e] at hst
      obtain ⟨r, hr⟩ := h.rel k hk hst
      exact ⟨r, hr.appOther hg (by omega)⟩
/-- The starter's own step. -/
theorem Site.Tr.zero (A : ∀ l, s.Rd l → ¬ s.Sh l) (L0 : 0 < s.L) (h : s.Tr t₀ t j D) {fn : FuncId} {pos : String} {es : Array Event}
    (hok : ∀ op ∈ MemOp.ofEvents 0 fn pos es, OkT s.Sh s.Rd 0 op) (hnr : ∀ e ∈ es, e.loc ≠ .mark (.release (stA s.Wg))) (hlow : ∀ e ∈ es, (MemAct.ofEvent e).low s.B) : s.Tr t₀ (t ++ MemOp.ofEvents 0 fn pos es) j D := by
  have hg : ∀ op ∈ MemOp.ofEvents 0 fn pos es, op.g = 0 := fun op hop => by obtain ⟨e, _, rfl⟩ := Go.Conc.mem_ofEvents hop; rfl
  refine ⟨fun k hk => ?_, h.tj.app A (.inl rfl) hok, h.ext.app (Nat.le_refl _) (fun op hop => .inl (hg op hop)), h.norel.app (norel_of hnr), fun k hk => ?_, fun k hk hst => ?_, low_app h.low (fun op hop => by obtain ⟨e, he, rfl⟩ := Go.Conc.mem_ofEvents hop; exact hlow e he)⟩
  · rw [Deaf_other t (g' := 0) (by omega) _ hg]; exact h.above k hk
  · rw [Deaf_other t (g' := 0) (by omega) _ hg]; exact h.deafW k hk
  · obtain ⟨r, hr⟩ := h.rel k hk hst
    exact ⟨r, hr.appOther hg (by omega)⟩
/-- A leaver's step. -/
theorem Site.Tr.mute (h : s.Tr t₀ t j D) {i : Nat} (h0 : 0 < i) (hi : i < s.L) {fn : FuncId} {pos : String} {es : Array Event} (hm : ∀ e ∈ es, e.mute = true) : s.Tr t₀ (t ++ MemOp.ofEvents i fn pos es) j D := by
  have hg : ∀ op ∈ MemOp.ofEvents i fn pos es, op.g = i := fun op hop => by obtain ⟨e, _, rfl⟩ := Go.Conc.mem_ofEvents hop; rfl
  have ht : ∀ op ∈ MemOp.ofEvents i fn pos es, op.act.touch? = none := fun op hop => by obtain ⟨e, he, rfl⟩ := Go.Conc.mem_ofEvents hop; exact touch_mute (hm e he)
  refine ⟨fun k hk => ?_, h.tj.mute hg ht, h.ext.app (Nat.le_refl _) (fun op hop => .inr (.inl (ht op hop))), h.norel.app (norel_of fun e he hl => ?_), fun k hk => ?_, fun k hk hst => ?_, low_app h.low (fun op hop => by obtain ⟨e, he, rfl⟩ := Go.Conc.mem_ofEvents hop; exact low_mute (hm e he) _)⟩
  · rw [Deaf_other t (g' := i) (by omega) _ hg]; exact h.above k hk
  · have := hm e he
    obtain ⟨loc, wr', sy⟩ := e
    simp only at hl
    subst hl
    simp [Event.mute] at this
  · rw [Deaf_other t (g' := i) (by omega) _ hg]; exact h.deafW k hk
  · obtain ⟨r, hr⟩ := h.rel k hk hst
    exact ⟨r, hr.appOther hg (by omega)⟩
/-- A go statement. -/
theorem Site.Tr.fork (h : s.Tr t₀ t j D) {x y : MemOp} (hx : x.g = 0 ∧ x.act = .go (s.L + j)) (hy : y.g = s.L + j ∧ y.act = .start) (h0 : Deaf t 0 = 0) {d : Wk} (hd : d.deaf = 0) (hs : 7 ≤ d.stage) : s.Tr t₀ (t ++ #[x, y]) (j + 1) (upd D j d) := by
  have hu : ∀ op ∈ #[x, y], Hush (stA s.Wg) s.B op := by
    intro op hop
    simp only [List.mem_toArray, List.mem_cons, List.not_mem_nil, or_false] at hop
    rcases hop with rfl | rfl
    · exact ⟨by rw [hx.2]; rfl, by rw [hx.2]; simp, by rw [hx.2]; simp, by rw [hx.2]; simp, by rw [hx.2]; trivial⟩
    · exact ⟨by rw [hy.2]; rfl, by rw [hy.2]; simp, by rw [hy.2]; simp, by rw [hy.2]; simp, by rw [hy.2]; trivial⟩
  have H := h.hush hu
  have hdf : ∀ g, Deaf (t ++ #[x, y]) g = Deaf t g := fun g => Deaf_still t g _ (fun op hop => ⟨(hu op hop).dis, (hu op hop).ena⟩)
  refine ⟨fun i hi => H.above i (by omega), h.tj.fork hx hy h0 (h.above _ (Nat.le_refl _)), h.ext.app (Nat.le_succ _) (fun op hop => .inr (.inl (hu op hop).touch)), H.norel, fun i hi => ?_, fun i hi hst => ?_, H.low⟩
  · by_cases e : i = j
    · subst e; rw [upd_same, hd, hdf]; exact h.above _ (Nat.le_refl _)
    · rw [upd_ne D _ e]; exact H.deafW i (by omega)
  · by_cases e : i = j
    · subst e; rw [upd_same] at hst; omega
    · rw [upd_ne D _ e] at hst; exact H.rel i (by omega) hst
end
end Go.Proofs.YtpajdmhgonmgoaaDoor

namespace Go.Proofs.YtpajdmhgonmgoaaDoor
open Go.Conc Go.ConcN
open Go.ConcR (KK wgBlock WgAt stA smA rd wr Payload DC0)
set_option linter.unusedVariables false
theorem wpos_all (d : Wk) : d.stage = 13 ∨ d.stage = 12 ∨ d.stage = 11 ∨ d.stage = 10 ∨ d.stage = 9 ∨ d.stage = 7 ∨ (d.stage ≤ 6 ∨ d.stage = 8 ∨ 14 ≤ d.stage) := by omega
section
variable [Payload] {s : Site} {d : Wk} {g : Goroutine} {w w' : World}
theorem Site.Fix.rw (ok : s.Ok) (h : s.Fix w) (h' : s.Fix w') : RW s.ty s.Wg s.cB s.csz 0 (s.ci + 1 - 1) w w' :=
  ⟨fun b hb => absurd hb (Nat.not_lt_zero _), fun _ => h'.live, fun _ => h'.pay, (h'.known _ _ ok.kci).trans (h.known _ _ ok.kci).symm⟩
theorem wpos_13 (e : d.stage = 13) : s.WPos d g w = (d.deaf = 0 ∧ ∃ g0, s.Loop g0 ∧ g = { parked g0 #[rcase s.ch s.z] (.recv true) with status := .running }) := by unfold Site.WPos; rw [if_pos e]
theorem wpos_12 (e : d.stage = 12) : s.WPos d g w = (d.deaf = 0 ∧ ∃ g0, s.Loop g0 ∧ g = parked g0 #[rcase s.ch s.z] (.recv true)) := by unfold Site.WPos; rw [if_neg (by omega), if_pos e]
theorem wpos_11 (e : d.stage = 11) : s.WPos d g w = (d.deaf = 0 ∧ Goes s.P false s.R0 s.Dq (fun g _ => s.Loop g) d.fuel g w) := by unfold Site.WPos; rw [if_neg (by omega), if_neg (by omega), if_pos e]
theorem wpos_10 (e : d.stage = 10) : s.WPos d g w = (d.deaf = 0 ∧ Goes s.P false s.R0 s.Dq (s.AtLoad d.item) d.fuel g w) := by unfold Site.WPos; rw [if_neg (by omega), if_neg (by omega), if_neg (by omega), if_pos e]
theorem wpos_9 (e : d.stage = 9) : s.WPos d g w = (d.deaf = 0 ∧ Goes s.P false s.R0 s.Dq (s.AtAdds d.adds) d.fuel g w) := by unfold Site.WPos; rw [if_neg (by omega), if_neg (by omega), if_neg (by omega), if_neg (by omega), if_pos e]
theorem wpos_7 (e : d.stage = 7) : s.WPos d g w = (d.deaf = 0 ∧ Goes s.P false s.R0 s.Dq s.AtR0x d.fuel g w) := by unfold Site.WPos; rw [if_neg (by omega), if_neg (by omega), if_neg (by omega), if_neg (by omega), if_neg (by omega), if_pos e]
theorem wpos_q (h : d.stage ≤ 6 ∨ d.stage = 8 ∨ 14 ≤ d.stage) : s.WPos d g w = s.WQ d.stage d.fuel d.deaf g w := by unfold Site.WPos; rw [if_neg (by omega), if_neg (by omega), if_neg (by omega), if_neg (by omega), if_neg (by omega), if_neg (by omega)]
theorem Site.WPos.next (ok : s.Ok) (h : s.WPos d g w) (hx : s.Fix w) (hx' : s.Fix w') : s.WPos d g w' := by
  rcases wpos_all d with e | e | e | e | e | e | e
  · rw [wpos_13 e] at h ⊢; exact h
  · rw [wpos_12 e] at h ⊢; exact h
  · rw [wpos_11 e] at h ⊢; exact ⟨h.1, goes_w h.2⟩
  · rw [wpos_10 e] at h ⊢; exact ⟨h.1, goes_w h.2⟩
  · rw [wpos_9 e] at h ⊢; exact ⟨h.1, goes_w h.2⟩
  · rw [wpos_7 e] at h ⊢; exact ⟨h.1, goes_w h.2⟩
  · rw [wpos_q e] at h ⊢; exact WSit.rely h (hx.rw ok hx')
theorem atAdds_run (ok : s.Ok) {ls : List (Addr × Int)} (h : s.AtAdds ls g w) : g.status = .running := by
  cases ls with
  | nil => exact ok.run g h
  | cons x ls => exact h.1
/-- It runs, or has ended, or is parked. -/
theorem Site.WPos.status (ok : s.Ok) (h : s.WPos d g w) (hx : s.Fix w) : (d.stage = 12 ∧ ∃ g0, s.Loop g0 ∧ g = parked g0 #[rcase s.ch s.z] (.recv true)) ∨ (d.stage ≠ 12 ∧ (g.status = .running ∨ (g.status = .finished ∧ d.stage = 1))) := by
  rcases wpos_all d with e | e | e | e | e | e | e
  · rw [wpos_13 e] at h
    obtain ⟨_, g0, _, rfl⟩ := h
    exact .inr ⟨by omega, .inl rfl⟩
  · rw [wpos_12 e] at h
    exact .inl ⟨e, h.2⟩
  · rw [wpos_11 e] at h
    exact .inr ⟨by omega, .inl (Goes.running (fun g _ x => ok.run g x) w hx h.2)⟩
  · rw [wpos_10 e] at h
    exact .inr ⟨by omega, .inl (Goes.running (fun g _ x => x.1) w hx h.2)⟩
  · rw [wpos_9 e] at h
    exact .inr ⟨by omega, .inl (Goes.running (fun g _ x => atAdds_run ok x) w hx h.2)⟩
  · rw [wpos_7 e] at h
    exact .inr ⟨by omega, .inl (Goes.running (fun g _ x => x.1) w hx h.2)⟩
  · rw [wpos_q e] at h
    refine .inr ⟨by omega, ?_⟩
    unfold Site.WQ at h
    generalize d.stage = k at h
    generalize d.fuel = m at h
    generalize d.deaf = dd at h
    cases h with
    | r0 h => exact .inl (Goes.running (fun _ _ x => x.1) w (RW.refl w) h)
    | k1 h => exact .inl (Goes.running (fun _ _ x => x.1) w (RW.refl w) h)
    | d1 h => exact .inl (Goes.running (fun _ _ x => x.1) w (RW.refl w) h)
    | d2 h => exact .inl (Goes.running (fun _ _ x => x.1) w (RW.refl w) h)
    | d3 h => exact .inl (Goes.running (fun _ _ x => x.1) w (RW.refl w) h)
    | d4 h => exact .inl (Goes.running (fun _ _ x => x.1) w (RW.refl w) h)
    | quit h => exact h.status.elim .inl (fun x => .inr ⟨x, rfl⟩)
theorem Site.WPos.woken (ok : s.Ok) (h : s.WPos d g w) (hx : s.Fix w) (a a' : Goroutine) (hc : d.stage = 12 → ∃ buf sn rc, w'.heap[s.ch]? = some (.chan s.cap buf false sn rc false)) : woken s.P a a' w' g = g := by
  rcases h.status ok hx with ⟨e, g0, _, rfl⟩ | ⟨_, q⟩
  · obtain ⟨buf, sn, rc, hc⟩ := hc e
    exact woken_recv_open a a' hc
  · unfold Go.Conc.woken
    split
    · exact again_running _ (q.elim .inl (fun x => .inr x.1))
    · rfl
/-- What holds of the crew. -/
structure Site.Crw (s : Site) (t₀ : Trace) (gs : Array Goroutine) (w : World) (t : Trace) (j : Nat) (D : Nat → Wk) (q : Nat → Nat) (cl : Bool) (its buf : List Nat) (f : Addr → Int) : Prop where
  size : gs.size = s.L + j
  jn : j ≤ s.n
  old : ∀ i g, 0 < i → i < s.L → gs[i]? = some g → QuitsD s.P (q i) (Deaf t i) g
  wk : ∀ i, i < j → ∃ g, gs[s.L + i]? = some g ∧ s.WPos (D i) g w
  fix : s.Fix w
  chan : ∃ sn rc, w.heap[s.ch]? = some (.chan s.cap (buf.map vI).toArray cl sn rc false)
  vals : ∀ a, s.IsAt a → w.cell? a = some (.int .i64 (f a))
  gi : s.GI f buf its (ghD D j)
  room : buf.length + its.length ≤ s.cap
  dry : ∀ i, i < j → (D i).stage ≤ 7 → buf = [] ∧ cl = true
  nopark : cl = true → ∀ i, i < j → (D i).stage ≠ 12
  parkd : ∀ i, i < j → (D i).stage = 12 → buf = []
  tr : s.Tr t₀ t j D
section
variable {i : Nat} {t₀ : Trace} {gs : Array Goroutine} {t : Trace} {j : Nat} {D : Nat → Wk} {q : Nat → Nat} {cl : Bool} {its buf : List Nat} {f : Addr → Int}
theorem Site.Crw.open12 (C : s.Crw t₀ gs w t j D q cl its buf f) {k : Nat} (hk : k < j) (e : (D k).stage = 12) : ∃ buf sn rc, w.heap[s.ch]? = some (.chan s.cap buf false sn rc false) := by
  obtain ⟨sn, rc, hc⟩ := C.chan
  cases cl with
  | false => exact ⟨_, sn, rc, hc⟩
  | true => exact absurd e (C.nopark rfl k hk)
/-- A worker's own step. -/
theorem Site.Crw.stepW (ok : s.Ok) (C : s.Crw t₀ gs w t j D q cl its buf f) (hi : i < j) {g' : Goroutine} {es : Array Event} (hg : gs[s.L + i]? = some g) (x : Wk) (f' : Addr → Int)
    (hx : s.Fix w')
    (hch : w'.heap[s.ch]? = w.heap[s.ch]?) (hv : ∀ a, s.IsAt a → w'.cell? a = some (.int .i64 (f' a)))
    (hp : s.WPos x g' w') (hgi : s.GI f' buf its (upd (ghD D j) i x.gh)) (hdry : x.stage ≤ 7 → buf = [] ∧ cl = true) (hpk : x.stage ≠ 12)
    (hok : ∀ op ∈ MemOp.ofEvents (s.L + i) g.frame.fn g.frame.place es, OkT s.Sh s.Rd (s.L + i) op) (hnr : ∀ e ∈ es, e.loc ≠ .mark (.release (stA s.Wg))) (hdeaf : deafBehind (D i).deaf es = x.deaf)
    (hrel : x.stage ≤ 6 → ∃ r, RelK s.Sh (stA s.Wg) (t ++ MemOp.ofEvents (s.L + i) g.frame.fn g.frame.place es) (s.L + i) r) (hlow : ∀ e ∈ es, (MemAct.ofEvent e).low s.B) :
    s.Crw t₀ ((gs.map (woken s.P g g' w')).setIfInBounds (s.L + i) g') w' (t ++ MemOp.ofEvents (s.L + i) g.frame.fn g.frame.place es) j (upd D i x) q cl its buf f' := by
  have hg0 : ∀ op ∈ MemOp.ofEvents (s.L + i) g.frame.fn g.frame.place es, op.g = s.L + i := fun op hop => by obtain ⟨e, _, rfl⟩ := Go.Conc.mem_ofEvents hop; rfl
  obtain ⟨sn, rc, hc⟩ := C.chan
  refine ⟨by simp [C.size], C.jn, fun k y h0 hk hy => ?_, fun k hk => ?_, hx, ⟨sn, rc, hch.trans hc⟩, hv, by rw [ghD_upd D hi]; exact hgi, C.room, fun k hk h7 => ?_, fun e k hk => ?_, fun k hk h12 => ?_, C.tr.own ok.shr hi hok hnr hdeaf hrel hlow⟩
  · rw [get_map_set _ _ _ _ (by omega)] at hy
    obtain ⟨z, hz, rfl⟩ := Option.map_eq_some_iff.1 hy
    have hq := C.old k z h0 hk hz
    rw [woken_quitsD hq, Deaf_other t (g' := s.L + i) (by omega) _ hg0]
    exact hq
  · by_cases e : k = i
    · subst e
      exact ⟨g', get_map_set_same _ _ _ (by rw [C.size]; omega), by rw [upd_same]; exact hp⟩
    · obtain ⟨y, hy, py⟩ := C.wk k hk
      refine ⟨y, ?_, by rw [upd_ne D _ e]; exact py.next ok C.fix hx⟩
      rw [get_map_set _ _ _ _ (by omega), hy, Option.map_some, py.woken ok C.fix]
      intro e12
      obtain ⟨b, sn', rc', hb⟩ := C.open12 hk e12
      exact ⟨b, sn', rc', hch.trans hb⟩
  · by_cases e : k = i
    · subst e; rw [upd_same] at h7; exact hdry h7
    · rw [upd_ne D _ e] at h7; exact C.dry k hk h7
  · by_cases e' : k = i
    · subst e'; rw [upd_same]; exact hpk
    · rw [upd_ne D _ e']; exact C.nopark e k hk
  · by_cases e' : k = i
    · subst e'; rw [upd_same] at h12; exact absurd h12 hpk
    · rw [upd_ne D _ e'] at h12; exact C.parkd k hk h12
/-- A worker's communication: its record alone is laid anew. -/
theorem Site.Crw.commW (ok : s.Ok) (C : s.Crw t₀ gs w t j D q cl its buf f) (hi : i < j) {g' : Goroutine} (x : Wk) {u : Trace} {buf' its' : List Nat}
    (hx : s.Fix w')
    (hch : ∃ sn rc, w'.heap[s.ch]? = some (.chan s.cap (buf'.map vI).toArray cl sn rc false)) (hv : ∀ a, s.IsAt a → w'.cell? a = some (.int .i64 (f a)))
    (hp : s.WPos x g' w') (hgi : s.GI f buf' its' (upd (ghD D j) i x.gh)) (hroom : buf'.length + its'.length ≤ s.cap) (hdry : x.stage ≤ 7 → buf' = [] ∧ cl = true) (hb : buf = [] → buf' = [])
    (hpk : x.stage = 12 → cl = false ∧ buf' = []) (h8 : 8 ≤ x.stage ∨ x.stage = 7) (hdf : x.deaf = (D i).deaf) (hu : ∀ op ∈ u, Hush (stA s.Wg) s.B op) :
    s.Crw t₀ (gs.setIfInBounds (s.L + i) g') w' (t ++ u) j (upd D i x) q cl its' buf' f := by
  have hdd : ∀ k, Deaf (t ++ u) k = Deaf t k := fun k => Deaf_still t k u (fun op hop => ⟨(hu op hop).dis, (hu op hop).ena⟩)
  refine ⟨by simp [C.size], C.jn, fun k y h0 hk hy => ?_, fun k hk => ?_, hx, hch, hv, by rw [ghD_upd D hi]; exact hgi, hroom, fun k hk h7 => ?_, fun e k hk => ?_, fun k hk h12 => ?_, (C.tr.hush hu).data (fun _ => hdf) (fun _ h => by omega)⟩
  · rw [Array.getElem?_setIfInBounds_ne (by omega)] at hy
    rw [hdd]
    exact C.old k y h0 hk hy
  · by_cases e : k = i
    · subst e
      exact ⟨g', by rw [Array.getElem?_setIfInBounds_self_of_lt (by rw [C.size]; omega)], by rw [upd_same]; exact hp⟩
    · obtain ⟨y, hy, py⟩ := C.wk k hk
      exact ⟨y, by rw [Array.getElem?_setIfInBounds_ne (by omega)]; exact hy, by rw [upd_ne D _ e]; exact py.next ok C.fix hx⟩
  · by_cases e : k = i
    · subst e; rw [upd_same] at h7; exact hdry h7
    · rw [upd_ne D _ e] at h7
      exact ⟨hb (C.dry k hk h7).1, (C.dry k hk h7).2⟩
  · by_cases e' : k = i
    · subst e'; rw [upd_same]; intro h12; rw [(hpk h12).1] at e; cases e
    · rw [upd_ne D _ e']; exact C.nopark e k hk
  · by_cases e' : k = i
    · subst e'; rw [upd_same] at h12; exact (hpk h12).2
    · rw [upd_ne D _ e'] at h12; exact hb (C.parkd k hk h12)
end
end
end Go.Proofs.YtpajdmhgonmgoaaDoor

