/-
  What the last text of this claim leans on, part 16: Ka4, Ka5, Ka6.
-/
import Derived.Test.YtpajdmhgonmgoaaDoorYt15
namespace Go.Proofs.YtpajdmhgonmgoaaDoor
open Go.Conc Go.ConcN
open Go.ConcR (KK wgBlock WgAt stA smA rd wr Payload DC0)
set_option linter.unusedVariables false
theorem wpos_all (d : Wk) : d.stage = 13 ∨ d.stage = 12 ∨ d.stage = 11 ∨ d.stage = 10 ∨ d.stage = 9 ∨ d.stage = 7 ∨ (d.stage ≤ 6 ∨ d.stage = 8 ∨ 14 ≤ d.stage) := by omega
section
variable [Payload] {s : Site} {d : Wk} {g : Goroutine} {w w' : World}
theorem Site.Fix.rw (ok : s.Ok) (h : s.Fix w) (h' : s.Fix w') : RW s.ty s.Wg s.cB s.csz 0 (s.ci + 1 - 1) w w' :=
  ⟨fun b hb => absurd hb (Nat.not_lt_zero _), fun _ => h'.live, fun _ => h'.pay, (h'.known _ _ ok.kci).trans (h.known _ _ ok.kci).symm⟩
theorem wpos_13 (e : d.stage = 13) : s.WPos d g w = (d.deaf = 0 ∧ ∃ g0, s.Loop g0 ∧ g = { parked g0 #[rcase s.ch s.z] (.recv true) with status := .running }) := by unfold Site.WPos; rw [if_pos e]
theorem wpos_12 (e : d.stage = 12) : s.WPos d g w = (d.deaf = 0 ∧ ∃ g0, s.Loop g0 ∧ g = parked g0 #[rcase s.ch s.z] (.recv true)) := by unfold Site.WPos; rw [if_neg (by omega), if_pos e]
theorem wpos_11 (e : d.stage = 11) : s.WPos d g w = (d.deaf = 0 ∧ Goes s.P false s.R0 s.Dq (fun g _ => s.Loop g) d.fuel g w) := by unfold Site.WPos; rw [if_neg (by omega), if_neg (by omega), if_pos e]
theorem wpos_10 (e : d.stage = 10) : s.WPos d g w = (d.deaf = 0 ∧ Goes s.P false s.R0 s.Dq (s.AtLoad d.item) d.fuel g w) := by unfold Site.WPos; rw [if_neg (by omega), if_neg (by omega), if_neg (by omega), if_pos e]
theorem wpos_9 (e : d.stage = 9) : s.WPos d g w = (d.deaf = 0 ∧ Goes s.P false s.R0 s.Dq (s.AtAdds d.adds) d.fuel g w) := by unfold Site.WPos; rw [if_neg (by omega), if_neg (by omega), if_neg (by omega), if_neg (by omega), if_pos e]
theorem wpos_7 (e : d.stage = 7) : s.WPos d g w = (d.deaf = 0 ∧ Goes s.P false s.R0 s.Dq s.AtR0x d.fuel g w) := by unfold Site.WPos; rw [if_neg (by omega), if_neg (by omega), if_neg (by omega), if_neg (by omega), if_neg (by omega), if_pos e]
theorem wpos_q (h : d.stage ≤ 6 ∨ d.stage = 8 ∨ 14 ≤ d.stage) : s.WPos d g w = s.WQ d.stage d.fuel d.deaf g w := by unfold Site.WPos; rw [if_neg (by omega), if_neg (by omega), if_neg (by omega), if_neg (by omega), if_neg (by omega), if_neg (by omega)]
theorem Site.WPos.next (ok : s.Ok) (h : s.WPos d g w) (hx : s.Fix w) (hx' : s.Fix w') : s.WPos d g w' := by
  rcases wpos_all d with e | e | e | e | e | e | e
  · rw [wpos_13 e] at h ⊢; exact h
  · rw [wpos_12 e] at h ⊢; exact h
  · rw [wpos_11 e] at h ⊢; exact ⟨h.1, goes_w h.2⟩
  · rw [wpos_10 e] at h ⊢; exact ⟨h.1, goes_w h.2⟩
  · rw [wpos_9 e] at h ⊢; exact ⟨h.1, goes_w h.2⟩
  · rw [wpos_7 e] at h ⊢; exact ⟨h.1, goes_w h.2⟩
  · rw [wpos_q e] at h ⊢; exact WSit.rely h (hx.rw ok hx')
theorem atAdds_run (ok : s.Ok) {ls : List (Addr × Int)} (h : s.AtAdds ls g w) : g.status = .running := by
  cases ls with
  | nil => exact ok.run g h
  | cons x ls => exact h.1
/-- It runs, or has ended, or is parked. -/
theorem Site.WPos.status (ok : s.Ok) (h : s.WPos d g w) (hx : s.Fix w) : (d.stage = 12 ∧ ∃ g0, s.Loop g0 ∧ g = parked g0 #[rcase s.ch s.z] (.recv true)) ∨ (d.stage ≠ 12 ∧ (g.status = .running ∨ (g.status = .finished ∧ d.stage = 1))) := by
  rcases wpos_all d with e | e | e | e | e | e | e
  · rw [wpos_13 e] at h
    obtain ⟨_, g0, _, rfl⟩ := h
    exact .inr ⟨by omega, .inl rfl⟩
  · rw [wpos_12 e] at h
    exact .inl ⟨e, h.2⟩
  · rw [wpos_11 e] at h
    exact .inr ⟨by omega, .inl (Goes.running (fun g _ x => ok.run g x) w hx h.2)⟩
  · rw [wpos_10 e] at h
    exact .inr ⟨by omega, .inl (Goes.running (fun g _ x => x.1) w hx h.2)⟩
  · rw [wpos_9 e] at h
    exact .inr ⟨by omega, .inl (Goes.running (fun g _ x => atAdds_run ok x) w hx h.2)⟩
  · rw [wpos_7 e] at h
    exact .inr ⟨by omega, .inl (Goes.running (fun g _ x => x.1) w hx h.2)⟩
  · rw [wpos_q e] at h
    refine .inr ⟨by omega, ?_⟩
    unfold Site.WQ at h
    generalize d.stage = k at h
    generalize d.fuel = m at h
    generalize d.deaf = dd at h
    cases h with
    | r0 h => exact .inl (Goes.running (fun _ _ x => x.1) w (RW.refl w) h)
    | k1 h => exact .inl (Goes.running (fun _ _ x => x.1) w (RW.refl w) h)
    | d1 h => exact .inl (Goes.running (fun _ _ x => x.1) w (RW.refl w) h)
    | d2 h => exact .inl (Goes.running (fun _ _ x => x.1) w (RW.refl w) h)
    | d3 h => exact .inl (Goes.running (fun _ _ x => x.1) w (RW.refl w) h)
    | d4 h => exact .inl (Goes.running (fun _ _ x => x.1) w (RW.refl w) h)
    | quit h => exact h.status.elim .inl (fun x => .inr ⟨x, rfl⟩)
theorem Site.WPos.woken (ok : s.Ok) (h : s.WPos d g w) (hx : s.Fix w) (a a' : Goroutine) (hc : d.stage = 12 → ∃ buf sn rc, w'.heap[s.ch]? = some (.chan s.cap buf false sn rc false)) : woken s.P a a' w' g = g := by
  rcases h.status ok hx with ⟨e, g0, _, rfl⟩ | ⟨_, q⟩
  · obtain ⟨buf, sn, rc, hc⟩ := hc e
    exact woken_recv_open a a' hc
  · unfold Go.Conc.woken
    split
    · exact again_running _ (q.elim .inl (fun x => .inr x.1))
    · rfl
/-- What holds of the crew. -/
structure Site.Crw (s : Site) (t₀ : Trace) (gs : Array Goroutine) (w : World) (t : Trace) (j : Nat) (D : Nat → Wk) (q : Nat → Nat) (cl : Bool) (its buf : List Nat) (f : Addr → Int) : Prop where
  size : gs.size = s.L + j
  jn : j ≤ s.n
  old : ∀ i g, 0 < i → i < s.L → gs[i]? = some g → QuitsD s.P (q i) (Deaf t i) g
  wk : ∀ i, i < j → ∃ g, gs[s.L + i]? = some g ∧ s.WPos (D i) g w
  fix : s.Fix w
  chan : ∃ sn rc, w.heap[s.ch]? = some (.chan s.cap (buf.map vI).toArray cl sn rc false)
  vals : ∀ a, s.IsAt a → w.cell? a = some (.int .i64 (f a))
  gi : s.GI f buf its (ghD D j)
  room : buf.length + its.length ≤ s.cap
  dry : ∀ i, i < j → (D i).stage ≤ 7 → buf = [] ∧ cl = true
  nopark : cl = true → ∀ i, i < j → (D i).stage ≠ 12
  parkd : ∀ i, i < j → (D i).stage = 12 → buf = []
  tr : s.Tr t₀ t j D
section
variable {i : Nat} {t₀ : Trace} {gs : Array Goroutine} {t : Trace} {j : Nat} {D : Nat → Wk} {q : Nat → Nat} {cl : Bool} {its buf : List Nat} {f : Addr → Int}
theorem Site.Crw.open12 (C : s.Crw t₀ gs w t j D q cl its buf f) {k : Nat} (hk : k < j) (e : (D k).stage = 12) : ∃ buf sn rc, w.heap[s.ch]? = some (.chan s.cap buf false sn rc false) := by
  obtain ⟨sn, rc, hc⟩ := C.chan
  cases cl with
  | false => exact ⟨_, sn, rc, hc⟩
  | true => exact absurd e (C.nopark rfl k hk)
/-- A worker's own step. -/
theorem Site.Crw.stepW (ok : s.Ok) (C : s.Crw t₀ gs w t j D q cl its buf f) (hi : i < j) {g' : Goroutine} {es : Array Event} (hg : gs[s.L + i]? = some g) (x : Wk) (f' : Addr → Int)
    (hx : s.Fix w')
    (hch : w'.heap[s.ch]? = w.heap[s.ch]?) (hv : ∀ a, s.IsAt a → w'.cell? a = some (.int .i64 (f' a)))
    (hp : s.WPos x g' w') (hgi : s.GI f' buf its (upd (ghD D j) i x.gh)) (hdry : x.stage ≤ 7 → buf = [] ∧ cl = true) (hpk : x.stage ≠ 12)
    (hok : ∀ op ∈ MemOp.ofEvents (s.L + i) g.frame.fn g.frame.place es, OkT s.Sh s.Rd (s.L + i) op) (hnr : ∀ e ∈ es, e.loc ≠ .mark (.release (stA s.Wg))) (hdeaf : deafBehind (D i).deaf es = x.deaf)
    (hrel : x.stage ≤ 6 → ∃ r, RelK s.Sh (stA s.Wg) (t ++ MemOp.ofEvents (s.L + i) g.frame.fn g.frame.place es) (s.L + i) r) (hlow : ∀ e ∈ es, (MemAct.ofEvent e).low s.B) :
    s.Crw t₀ ((gs.map (woken s.P g g' w')).setIfInBounds (s.L + i) g') w' (t ++ MemOp.ofEvents (s.L + i) g.frame.fn g.frame.place es) j (upd D i x) q cl its buf f' := by
  have hg0 : ∀ op ∈ MemOp.ofEvents (s.L + i) g.frame.fn g.frame.place es, op.g = s.L + i := fun op hop => by obtain ⟨e, _, rfl⟩ := Go.Conc.mem_ofEvents hop; rfl
  obtain ⟨sn, rc, hc⟩ := C.chan
  refine ⟨by simp [C.size], C.jn, fun k y h0 hk hy => ?_, fun k hk => ?_, hx, ⟨sn, rc, hch.trans hc⟩, hv, by rw [ghD_upd D hi]; exact hgi, C.room, fun k hk h7 => ?_, fun e k hk => ?_, fun k hk h12 => ?_, C.tr.own ok.shr hi hok hnr hdeaf hrel hlow⟩
  · rw [get_map_set _ _ _ _ (by omega)] at hy
    obtain ⟨z, hz, rfl⟩ := Option.map_eq_some_iff.1 hy
    have hq := C.old k z h0 hk hz
    rw [woken_quitsD hq, Deaf_other t (g' := s.L + i) (by omega) _ hg0]
    exact hq
  · by_cases e : k = i
    · subst e
      exact ⟨g', get_map_set_same _ _ _ (by rw [C.size]; omega), by rw [upd_same]; exact hp⟩
    · obtain ⟨y, hy, py⟩ := C.wk k hk
      refine ⟨y, ?_, by rw [upd_ne D _ e]; exact py.next ok C.fix hx⟩
      rw [get_map_set _ _ _ _ (by omega), hy, Option.map_some, py.woken ok C.fix]
      intro e12
      obtain ⟨b, sn', rc', hb⟩ := C.open12 hk e12
      exact ⟨b, sn', rc', hch.trans hb⟩
  · by_cases e : k = i
    · subst e; rw [upd_same] at h7; exact hdry h7
    · rw [upd_ne D _ e] at h7; exact C.dry k hk h7
  · by_cases e' : k = i
    · subst e'; rw [upd_same]; exact hpk
    · rw [upd_ne D _ e']; exact C.nopark e k hk
  · by_cases e' : k = i
    · subst e'; rw [upd_same] at h12; exact absurd h12 hpk
    · rw [upd_ne D _ e'] at h12; exact C.parkd k hk h12
/-- A worker's communication: its record alone is laid anew. -/
theorem Site.Crw.commW (ok : s.Ok) (C : s.Crw t₀ gs w t j D q cl its buf f) (hi : i < j) {g' : Goroutine} (x : Wk) {u : Trace} {buf' its' : List Nat}
    (hx : s.Fix w')
    (hch : ∃ sn rc, w'.heap[s.ch]? = some (.chan s.cap (buf'.map vI).toArray cl sn rc false)) (hv : ∀ a, s.IsAt a → w'.cell? a = some (.int .i64 (f a)))
    (hp : s.WPos x g' w') (hgi : s.GI f buf' its' (upd (ghD D j) i x.gh)) (hroom : buf'.length + its'.length ≤ s.cap) (hdry : x.stage ≤ 7 → buf' = [] ∧ cl = true) (hb : buf = [] → buf' = [])
    (hpk : x.stage = 12 → cl = false ∧ buf' = []) (h8 : 8 ≤ x.stage ∨ x.stage = 7) (hdf : x.deaf = (D i).deaf) (hu : ∀ op ∈ u, Hush (stA s.Wg) s.B op) :
    s.Crw t₀ (gs.setIfInBounds (s.L + i) g') w' (t ++ u) j (upd D i x) q cl its' buf' f := by
  have hdd : ∀ k, Deaf (t ++ u) k = Deaf t k := fun k => Deaf_still t k u (fun op hop => ⟨(hu op hop).dis, (hu op hop).ena⟩)
  refine ⟨by simp [C.size], C.jn, fun k y h0 hk hy => ?_, fun k hk => ?_, hx, hch, hv, by rw [ghD_upd D hi]; exact hgi, hroom, fun k hk h7 => ?_, fun e k hk => ?_, fun k hk h12 => ?_, (C.tr.hush hu).data (fun _ => hdf) (fun _ h => by omega)⟩
  · rw [Array.getElem?_setIfInBounds_ne (by omega)] at hy
    rw [hdd]
    exact C.old k y h0 hk hy
  · by_cases e : k = i
    · subst e
      exact ⟨g', by rw [Array.getElem?_setIfInBounds_self_of_lt (by rw [C.size]; omega)], by rw [upd_same]; exact hp⟩
    · obtain ⟨y, hy, py⟩ := C.wk k hk
      exact ⟨y, by rw [Array.getElem?_setIfInBounds_ne (by omega)]; exact hy, by rw [upd_ne D _ e]; exact py.next ok C.fix hx⟩
  · by_cases e : k = i
    · subst e; rw [upd_same] at h7; exact hdry h7
    · rw [upd_ne D _ e] at h7
      exact ⟨hb (C.dry k hk h7).1, (C.dry k hk h7).2⟩
  · by_cases e' : k = i
    · subst e'; rw [upd_same]; intro h12; rw [(hpk h12).1] at e; cases e
    · rw [upd_ne D _ e']; exact C.nopark e k hk
  · by_cases e' : k = i
    · subst e'; rw [upd_same] at h12; exact (hpk h12).2
    · rw [upd_ne D _ e'] at h12; exact hb (C.parkd k hk h12)
end
end
end Go.Proofs.YtpajdmhgonmgoaaDoor

namespace Go.Proofs.YtpajdmhgonmgoaaDoor
open Go.Conc Go.ConcN
open Go.ConcR (KK wgBlock WgAt stA smA rd wr Payload DC0 again_blocked)
set_option linter.unusedVariables false
theorem setChan_cell (w : World) {c : Nat} (cap : Nat) (buf : Array Value) (cl : Bool) (sn rc : Nat) {a : Addr} (h : a.block ≠ c) : (w.setChan c cap buf cl sn rc false).cell? a = w.cell? a := by
  simp [World.cell?, heap_setChan_ne w cap buf cl sn rc false (fun e => h e.symm)]
theorem phiS_mono (n : Nat) {v v' : Nat} (h : v' ≤ v) (cl : Bool) (tag : CTag) : phiS n v' cl tag ≤ phiS n v cl tag := by
  cases tag with
  | sp r k => exact Nat.le_refl _
  | kd => exact Nat.le_refl _
  | anch => exact phi_mono n h .anch
  | w1 => exact phi_mono n h .w1
  | w2 vs => exact phi_mono n h (.w2 vs)
  | w3 => exact phi_mono n h .w3
  | blk => exact phi_mono n h .blk
  | w4 => exact phi_mono n h .w4
  | ke => exact phi_mono n h .ke
  | acq => exact phi_mono n h .acq
  | ret => exact phi_mono n h .ret
theorem phiS_retag (n v : Nat) (cl : Bool) {tag tag' : CTag} (e : tag' = tag ∨ (tag = .blk ∧ tag' = .w3)) : phiS n v cl tag' = phiS n v cl tag := by
  rcases e with rfl | ⟨rfl, rfl⟩ <;> rfl
theorem pr_upd (D : Nat → Wk) (i : Nat) (x : Wk) : (fun k => (upd D i x k).pr) = upd (fun k => (D k).pr) i x.pr := by
  funext k
  by_cases e : k = i
  · subst e; simp [upd]
  · simp [upd, e]
section
variable [Payload] {s : Site} {w w' : World}
theorem Site.Fix.at (ok : s.Ok) (h : s.Fix w) (d : Nat) : s.Fix (w.at d) := ⟨h.known, h.ats, h.chan, h.live, h.pay, ok.kee w _ rfl rfl rfl rfl (fun _ _ _ _ => rfl) h.keep⟩
/-- A shared cell is laid anew. -/
theorem Site.Fix.set (ok : s.Ok) (h : s.Fix w) {a : Addr} (ha : s.IsAt a) (v : Int) : s.Fix (w.setCell a (.int .i64 v)) := by
  have n1 := ok.atw a ha
  refine ⟨fun b u hb => ?_, fun b hb => ?_, ?_, ?_, ?_, ok.kee w _ (by unfold World.setCell; split <;> rfl) (by unfold World.setCell; split <;> rfl) (by unfold World.setCell; split <;> rfl) (by simp) (fun b _ _ hb => heap_setCell_other _ _ _ _ (Ne.symm (hb a ha))) h.keep⟩
  · have k := ok.knw b u hb
    rw [World.cell?_setCell_other _ _ _ _ (fun e => k.1 (by rw [← e]; exact ha))]
    exact h.known b u hb
  · by_cases e : a = b
    · subst e
      obtain ⟨x, hx, hf⟩ := h.ats a hb
      exact ⟨v, World.cell?_setCell_same _ _ _ hx, by rw [World.frozen?_setCell _ _ _ _]; exact hf⟩
    · obtain ⟨x, hx, hf⟩ := h.ats b hb
      exact ⟨x, by rw [World.cell?_setCell_other _ _ _ _ e]; exact hx, by rw [World.frozen?_setCell _ _ _ _]; exact hf⟩
  · rw [heap_setCell_other _ _ _ _ (fun e => n1.2 e.symm)]; exact h.chan
  · obtain ⟨st, sm, hl⟩ := h.live
    exact ⟨st, sm, by unfold WgAt; rw [heap_setCell_other _ _ _ _ (fun e => n1.1 e.symm)]; exact hl⟩
  · obtain ⟨cs, hc, hs⟩ := h.pay
    by_cases e : a.block = s.cB
    · have ea : a = ⟨s.cB, a.off, none⟩ := by
        have := ok.atn a ha
        cases a
        simp at e this
        simp [e, this]
      rw [ea]
      exact ⟨_, heap_setCell_same _ _ _ _ _ _ hc, by simp [hs]⟩
    · exact ⟨cs, by rw [heap_setCell_other _ _ _ _ (fun q => e q.symm)]; exact hc, hs⟩
/-- A block that holds nothing of what stands fast is laid anew: the channel's. -/
theorem Site.Fix.chanSet (ok : s.Ok) (h : s.Fix w) (buf : Array Value) (cl : Bool) (sn rc : Nat) : s.Fix (w.setChan s.ch s.cap buf cl sn rc false) := by
  obtain ⟨b0, c0, s0, r0, hc⟩ := h.chan
  have hb' : ∀ k, k ≠ s.ch → (w.setChan s.ch s.cap buf cl sn rc false).heap[k]? = w.heap[k]? := fun k hk => heap_setChan_ne w _ _ _ _ _ _ (fun e => hk e.symm)
  have hb : ∀ k, k ≠ s.ch → (w.setChan s.ch s.cap buf cl sn rc false).heap[k]? = w.heap[k]? := fun k hk => heap_setChan_ne w _ _ _ _ _ _ (fun e => hk e.symm)
  have cc : ∀ a : Addr, a.block ≠ s.ch → (w.setChan s.ch s.cap buf cl sn rc false).cell? a = w.cell? a := fun a ha => by simp [World.cell?, hb _ ha]
  refine ⟨fun a v hk => ?_, fun a ha => ?_, ⟨buf, cl, sn, rc, heap_setChan_self w hc _ _ _ _ _ _⟩, ?_, ?_, ok.kee w _ rfl rfl rfl (by simp [World.setChan]) (fun b _ hb _ => hb' b hb) h.keep⟩
  · rw [cc a (ok.knw a v hk).2.2.1]; exact h.known a v hk
  · obtain ⟨x, hx, hf⟩ := h.ats a ha
    refine ⟨x, by rw [cc a (ok.atw a ha).2]; exact hx, ?_⟩
    unfold World.frozen? at hf ⊢
    rw [hb _ (ok.atw a ha).2]; exact hf
  · obtain ⟨st, sm, hl⟩ := h.live
    exact ⟨st, sm, hl.of_block (hb _ ok.wh)⟩
  · obtain ⟨cs, hc, hs⟩ := h.pay
    exact ⟨cs, by rw [hb _ (Ne.symm ok.hc)]; exact hc, hs⟩
/-- The group's block is laid anew. -/
theorem Site.Fix.wgSet (ok : s.Ok) (h : s.Fix w) (hAs : Aside s.Wg w w') (hl : WgLive s.ty s.Wg w') : s.Fix w' := by
  have hb := hAs.block
  have cc : ∀ a : Addr, a.block ≠ s.Wg → w'.cell? a = w.cell? a := fun a ha => by simp [World.cell?, hb _ ha]
  refine ⟨fun a v hk => by rw [cc a (ok.knw a v hk).2.1]; exact h.known a v hk, fun a ha => ?_, by rw [hb _ (Ne.symm ok.wh)]; exact h.chan, hl, ?_, ok.kee w w' hAs.os hAs.tape hAs.output hAs.size (fun b hw _ _ => hb b hw) h.keep⟩
  · obtain ⟨x, hx, hf⟩ := h.ats a ha
    refine ⟨x, by rw [cc a (ok.atw a ha).1]; exact hx, ?_⟩
    unfold World.frozen? at hf ⊢
    rw [hb _ (ok.atw a ha).1]; exact hf
  · obtain ⟨cs, hc, hs⟩ := h.pay
    exact ⟨cs, by rw [hb _ (Ne.symm ok.wc)]; exact hc, hs⟩
/-! the starter under another's step -/
section
variable {cl : Bool} {its : List Nat} {tag : CTag} {j f d : Nat} {a : Goroutine}
theorem Site.SPos.any (h : s.SPos cl its tag j f d a w) : s.SPos cl its tag j f d a w' := by
  cases tag with
  | sp r k =>
    obtain ⟨h1, h2, h3, h4, h5⟩ := h
    refine ⟨h1, h2, h3, h4, ?_⟩
    rcases h5 with ⟨e, q, x⟩ | ⟨e, q, x⟩ | ⟨e, q, x⟩ | ⟨e, q, x⟩
    · exact .inl ⟨e, q, goes_0 x⟩
    · exact .inr (.inl ⟨e, q, goes_0 x⟩)
    · exact .inr (.inr (.inl ⟨e, q, goes_0 x⟩))
    · exact .inr (.inr (.inr ⟨e, q, goes_0 x⟩))
  | kd =>
    obtain ⟨h1, h2, h3⟩ := h
    rcases h3 with ⟨e, x⟩ | ⟨e, q, x⟩
    · exact ⟨h1, h2, .inl ⟨e, goes_0 x⟩⟩
    · exact ⟨h1, h2, .inr ⟨e, q, goes_0 x⟩⟩
  | anch => exact ⟨h.1, h.2.1, h.2.2.1, h.2.2.2.1, goes_0 h.2.2.2.2⟩
  | w1 => exact ⟨h.1, h.2.1, h.2.2.1, h.2.2.2.1, goes_0 h.2.2.2.2⟩
  | w2 vs => exact ⟨h.1, h.2.1, h.2.2.1, h.2.2.2.1, goes_0 h.2.2.2.2⟩
  | w3 =>
    obtain ⟨h1, h2, h3, h4, m, e, x⟩ := h
    exact ⟨h1, h2, h3, h4, m, e, goes_0 x⟩
  | blk => exact h
  | w4 => exact ⟨h.1, h.2.1, h.2.2.1, h.2.2.2.1, goes_0 h.2.2.2.2⟩
  | ke => exact ⟨h.1, h.2.1, h.2.2.1, h.2.2.2.1, goes_0 h.2.2.2.2⟩
  | acq => exact ⟨h.1, h.2.1, h.2.2.1, h.2.2.2.1, goes_0 h.2.2.2.2⟩
  | ret => exact h
theorem atSends_run {ls : List Nat} {g : Goroutine} (h : s.AtSends ls g w) : g.status = .running := by
  cases ls <;> exact h.1
theorem Site.SPos.status (ok : s.Ok) (h : s.SPos cl its tag j f d a w) (hx : s.Fix w) : (a.status = .running ∧ tag ≠ .blk) ∨ (a.status = .blocked ∧ tag = .blk ∧ a.offers = none) := by
  cases tag with
  | sp r k =>
    obtain ⟨_, _, _, _, h5⟩ := h
    refine .inl ⟨?_, by simp⟩
    rcases h5 with ⟨_, _, x⟩ | ⟨_, _, x⟩ | ⟨_, _, x⟩ | ⟨_, _, x⟩
    · exact Goes.running (fun g _ x => x.1) w hx x
    · exact Goes.running (fun g _ x => x.1) w hx x
    · exact Goes.running (fun g _ x => x.1) w hx x
    · exact Goes.running (fun g _ x => x.1) w hx x
  | kd =>
    refine .inl ⟨?_, by simp⟩
    rcases h.2.2 with ⟨_, x⟩ | ⟨_, _, x⟩
    · exact Goes.running (fun g _ x => atSends_run x) w hx x
    · exact Goes.running (fun g _ x => x.1) w hx x
  | anch => exact .inl ⟨Goes.running (fun g _ x => ok.ran g x) w hx h.2.2.2.2, by simp⟩
  | w1 => exact .inl ⟨Goes.running (fun g _ x => x.1) w hx h.2.2.2.2, by simp⟩
  | w2 vs => exact .inl ⟨Goes.running (fun g _ x => x.1) w hx h.2.2.2.2, by simp⟩
  | w3 =>
    obtain ⟨_, _, _, _, m, _, x⟩ := h
    exact .inl ⟨Goes.running (fun g _ x => x.1) w hx x, by simp⟩
  | blk =>
    obtain ⟨_, _, _, _, _, g0, rfl, hb⟩ := h
    exact .inr ⟨rfl, rfl, (hb w hx).2.1⟩
  | w4 => exact .inl ⟨Goes.running (fun g _ x => x.1) w hx h.2.2.2.2, by simp⟩
  | ke => exact .inl ⟨Goes.running (fun g _ x => x.1) w hx h.2.2.2.2, by simp⟩
  | acq => exact .inl ⟨Goes.running (fun g _ x => x.1) w hx h.2.2.2.2, by simp⟩
  | ret => exact h.elim
/-- As it stood; or, blocked, it is let try again: its rank stands, its fuel grows by one. -/
theorem Site.SPos.wokenBy (ok : s.Ok) (h : s.SPos cl its tag j f d a w) (hx : s.Fix w') (g g' : Goroutine) :
    ∃ tag' f', s.SPos cl its tag' j f' d (woken s.P g g' w' a) w' ∧ f' ≤ f + 1 ∧ (tag' = tag ∨ (tag = .blk ∧ tag' = .w3)) ∧ (mayWake s.P g = true → g'.status = .running → tag' ≠ .blk) := by
  have h' : s.SPos cl its tag j f d a w' := h.any
  unfold Go.Conc.woken
  split
  · rcases h'.status ok hx with ⟨hs, hne⟩ | ⟨_, rfl, _⟩
    · exact ⟨tag, f, by rw [again_running _ (.inl hs)]; exact h', by omega, .inl rfl, fun _ _ => hne⟩
    · obtain ⟨h1, h2, h3, h4, rfl, g0, rfl, hb⟩ := h'
      have h5 := hb w' hx
      exact ⟨.w3, 0 + 1, by rw [again_blocked h5.1 h5.2.1]; exact ⟨h1, h2, h3, h4, 0, rfl, Goes.stop hb⟩, by omega, .inr ⟨rfl, rfl⟩, fun _ _ => by simp⟩
  · rename_i hc
    exact ⟨tag, f, h', by omega, .inl rfl, fun h1 h2 => absurd (by simp [h1, h2]) hc⟩
end
def Site.Phi (s : Site) (j : Nat) (D : Nat → Wk) (cl : Bool) (its buf : List Nat) (tag : CTag) : Nat := phiS s.n (Vc j (fun i => (D i).pr)) cl tag + sumTo j (fun i => (D i).wt) + 16 * buf.length + 18 * its.length
def Site.Ful (s : Site) (f0 j : Nat) (D : Nat → Wk) (q : Nat → Nat) : Nat := f0 + 2 * (sumTo j (fun i => (D i).fuel) + sumTo s.L q)
/-- THE INVARIANT. -/
def Site.Inv (s : Site) (t₀ : Trace) (μ : Nat × Nat) (m : Machine) (t : Trace) : Prop :=
  ∃ (gs : Array Goroutine) (w : World) (sl : Option (Nat × Nat)) (j : Nat) (D : Nat → Wk) (q : Nat → Nat) (cl : Bool) (its buf : List Nat) (f : Addr → Int) (tag : CTag) (f0 d0 : Nat) (a : Goroutine) (st sm : Int),
    m = crowd gs w sl ∧ gs[0]? = some a ∧ s.SPos cl its tag j f0 d0 a w ∧ s.Crw t₀ gs w t j D q cl its buf f ∧ WgAt s.ty s.Wg w st sm ∧ Go.ConcN.Mode j (fun i => (D i).pr) tag st sm ∧ Deaf t 0 = d0 ∧
    μ = (s.Phi j D cl its buf tag, s.Ful f0 j D q)
section
variable {t₀ : Trace} {gs : Array Goroutine} {t : Trace} {j : Nat} {D : Nat → Wk} {q : Nat → Nat} {cl : Bool} {its buf : List Nat} {f : Addr → Int} {i : Nat} {g : Goroutine} {sl : Option (Nat × Nat)}
  {tag : CTag} {f0 d0 : Nat} {a : Goroutine} {st sm : Int}
/-- WHATEVER STEP OF ITS OWN A WORKER TAKES. -/
theorem workerGo (ok : s.Ok) (ha : gs[0]? = some a) (hsp : s.SPos cl its tag j f0 d0 a w) (C : s.Crw t₀ gs w t j D q cl its buf f) (hd0 : Deaf t 0 = d0) (hi : i < j) {g' : Goroutine} {es : Array Event} (hg : gs[s.L + i]? = some g) (hgo : stepG s.P false g w = .go g' w' es) (x : Wk) (f' : Addr → Int) {st' sm' : Int}
    (hx : s.Fix w')
    (hch : w'.heap[s.ch]? = w.heap[s.ch]?) (hv : ∀ a, s.IsAt a → w'.cell? a = some (.int .i64 (f' a)))
    (hp : s.WPos x g' w') (hgi : s.GI f' buf its (upd (ghD D j) i x.gh)) (hdry : x.stage ≤ 7 → buf = [] ∧ cl = true) (hpk : x.stage ≠ 12)
    (hok : ∀ op ∈ MemOp.ofEvents (s.L + i) g.frame.fn g.frame.place es, OkT s.Sh s.Rd (s.L + i) op) (hnr : ∀ e ∈ es, e.loc ≠ .mark (.release (stA s.Wg))) (hdeaf : deafBehind (D i).deaf es = x.deaf)
    (hrel : x.stage ≤ 6 → ∃ r, RelK s.Sh (stA s.Wg) (t ++ MemOp.ofEvents (s.L + i) g.frame.fn g.frame.place es) (s.L + i) r) (hlow : ∀ e ∈ es, (MemAct.ofEvent e).low s.B)
    (hwg : WgAt s.ty s.Wg w' st' sm') (hmode : ∀ tag', (tag' = tag ∨ (tag = .blk ∧ tag' = .w3)) → (mayWake s.P g = true → g'.status = .running → tag' ≠ .blk) → Go.ConcN.Mode j (upd (fun k => (D k).pr) i x.pr) tag' st' sm')
    (hlt : (x.wt < (D i).wt ∧ cnt x.pr ≤ cnt (D i).pr) ∨ (x.wt = (D i).wt ∧ cnt x.pr = cnt (D i).pr ∧ x.fuel + 1 = (D i).fuel)) :
    ∃ m₁ ops μ', runT s.P (crowd gs w sl) (s.L + i) = (.next m₁, ops) ∧ Lt2 μ' (s.Phi j D cl its buf tag, s.Ful f0 j D q) ∧ s.Inv t₀ μ' m₁ (t ++ ops) := by
  obtain ⟨tag', f', hsp', hf', htag, hwk⟩ := hsp.wokenBy (w' := w') ok hx g g'
  have l0 : (s.L + i == 0) = false := by have := ok.L0; simp; omega
  have hrun := runT_crowd_go (P := s.P) (sl := sl) (i := s.L + i) hg (by rw [l0]; exact hgo)
  have hg0 : ∀ op ∈ MemOp.ofEvents (s.L + i) g.frame.fn g.frame.place es, op.g = s.L + i := fun op hop => by obtain ⟨e, _, rfl⟩ := Go.Conc.mem_ofEvents hop; rfl
  have e1 := sumTo_upd D x (fun d => cnt d.pr) hi
  have e2 := sumTo_upd D x Wk.wt hi
  have e3 := sumTo_upd D x Wk.fuel hi
  have L0 := ok.L0
  refine ⟨_, _, (s.Phi j (upd D i x) cl its buf tag', s.Ful f' j (upd D i x) q), hrun, ?_, _, w', sl, j, upd D i x, q, cl, its, buf, _, tag', f', d0, woken s.P g g' w' a, st', sm', rfl, by rw [get_map_set _ _ _ _ (by omega), ha]; rfl, hsp', C.stepW ok hi hg x _ hx hch hv hp hgi hdry hpk hok hnr hdeaf hrel hlow, hwg, by rw [pr_upd]; exact hmode tag' htag hwk, ?_, rfl⟩
  · unfold Site.Phi Site.Ful
    rw [phiS_retag _ _ _ htag]
    rcases hlt with ⟨h1, h2⟩ | ⟨h1, h2, h3⟩
    · refine Prod.Lex.left _ _ ?_
      have := phiS_mono s.n (v' := Vc j fun k => (upd D i x k).pr) (v := Vc j fun k => (D k).pr) (by simp only [Vc]; omega) cl tag
      omega
    · have ev : (Vc j fun k => (upd D i x k).pr) = Vc j fun k => (D k).pr := by simp only [Vc]; omega
      have es' : sumTo j (fun k => (upd D i x k).wt) = sumTo j (fun k => (D k).wt) := by omega
      rw [ev, es']
      refine Prod.Lex.right _ ?_
      omega
  · rw [Deaf_other t (g' := s.L + i) (by omega) _ hg0]; exact hd0
end
end
end Go.Proofs.YtpajdmhgonmgoaaDoor

namespace Go.Proofs.YtpajdmhgonmgoaaDoor
open Go.Conc Go.ConcN
open Go.ConcR (KK wgBlock WgAt stA smA rd wr Payload DC0)
set_option linter.unusedVariables false
theorem extract_cons (v : Value) (l : List Value) : ((v :: l).toArray.extract 1 (v :: l).toArray.size) = l.toArray := by simp
theorem pr_stage {x y : Wk} (h : min x.stage 7 = min y.stage 7) : cnt x.pr = cnt y.pr := by
  unfold cnt
  have : x.pr.stage = y.pr.stage := h
  by_cases c : 5 ≤ x.pr.stage
  · rw [if_pos c, if_pos (by omega)]
  · rw [if_neg c, if_neg (by omega)]
theorem mode_same {j i : Nat} {D : Nat → Wk} {tag : CTag} {st sm : Int} {x : Wk} (hm : Go.ConcN.Mode j (fun k => (D k).pr) tag st sm) (h : min x.stage 7 = min (D i).stage 7) : Go.ConcN.Mode j (upd (fun k => (D k).pr) i x.pr) tag st sm :=
  hm.congr fun k _ => by
    by_cases e : k = i
    · subst e; rw [upd_same]; exact h
    · rw [upd_ne _ _ e]
section
variable [Payload] {s : Site} {w w' : World} {t₀ : Trace} {gs : Array Goroutine} {t : Trace} {j : Nat} {D : Nat → Wk} {q : Nat → Nat} {cl : Bool} {its buf : List Nat} {f : Addr → Int} {i : Nat} {g : Goroutine} {sl : Option (Nat × Nat)}
  {tag : CTag} {f0 d0 : Nat} {a : Goroutine} {st sm : Int}
/-- Nobody ever waits with something to send. -/
theorem noSend (ok : s.Ok) (ha : gs[0]? = some a) (hsp : s.SPos cl its tag j f0 d0 a w) (C : s.Crw t₀ gs w t j D q cl its buf f) (k : Nat) : partners (gs.setIfInBounds k ph) s.ch true = [] := by
  refine partners_nil (fun m y hy => ?_)
  by_cases e : k = m
  · subst e
    have hlt : k < gs.size := by
      have := (Array.getElem?_eq_some_iff.1 hy).1
      simpa using this
    rw [Array.getElem?_setIfInBounds_self_of_lt hlt] at hy
    rw [← Option.some.inj hy]
    exact offersAt_ph _ _
  rw [Array.getElem?_setIfInBounds_ne e] at hy
  rcases Nat.eq_zero_or_pos m with rfl | hm
  · obtain rfl : a = y := by rw [ha] at hy; exact Option.some.inj hy
    rcases hsp.status ok C.fix with ⟨h, _⟩ | ⟨h, _, ho⟩
    · exact offersAt_of_not_blocked (by rw [h]; simp) _ _
    · simp [offersAt, h, ho]
  · by_cases hl : m < s.L
    · rcases (C.old m y hm hl hy).status with h | h
      · exact offersAt_of_not_blocked (by rw [h]; simp) _ _
      · exact offersAt_of_not_blocked (by rw [h]; simp) _ _
    · have hms : m < s.L + j := by have := (Array.getElem?_eq_some_iff.1 hy).1; rw [C.size] at this; exact this
      obtain ⟨z, hz, pz⟩ := C.wk (m - s.L) (by omega)
      rw [show s.L + (m - s.L) = m by omega] at hz
      obtain rfl : z = y := by rw [hz] at hy; exact Option.some.inj hy
      rcases pz.status ok C.fix with ⟨_, g0, _, rfl⟩ | ⟨_, h⟩
      · exact offersAt_parked_recv' _ _ _ _ _
      · refine offersAt_of_not_blocked (fun e => ?_) _ _
        rcases h with h | ⟨h, _⟩ <;> rw [h] at e <;> cases e
/-- WHATEVER COMMUNICATION OF ITS OWN A WORKER MAKES. -/
theorem workerComm (ok : s.Ok) (ha : gs[0]? = some a) (hsp : s.SPos cl its tag j f0 d0 a w) (C : s.Crw t₀ gs w t j D q cl its buf f) (hwg : WgAt s.ty s.Wg w st sm) (hmode : Go.ConcN.Mode j (fun k => (D k).pr) tag st sm) (hd0 : Deaf t 0 = d0) (hi : i < j) {g' : Goroutine} (x : Wk) {u : Trace} {buf' : List Nat}
    (hrun : runT s.P (crowd gs w sl) (s.L + i) = (.next (crowd (gs.setIfInBounds (s.L + i) g') w' sl), u))
    (hx : s.Fix w') (hwg' : w'.heap[s.Wg]? = w.heap[s.Wg]?)
    (hch : ∃ sn rc, w'.heap[s.ch]? = some (.chan s.cap (buf'.map vI).toArray cl sn rc false)) (hv : ∀ a, s.IsAt a → w'.cell? a = w.cell? a)
    (hp : s.WPos x g' w') (hgi : s.GI f buf' its (upd (ghD D j) i x.gh)) (hroom : buf'.length ≤ buf.length) (hdry : x.stage ≤ 7 → buf' = [] ∧ cl = true)
    (hpk : x.stage = 12 → cl = false ∧ buf' = []) (h8 : 7 ≤ x.stage) (hs : 8 ≤ (D i).stage) (hdf : x.deaf = (D i).deaf) (hu : ∀ op ∈ u, Hush (stA s.Wg) s.B op)
    (hlt : x.wt + 16 * buf'.length < (D i).wt + 16 * buf.length) :
    ∃ m₁ ops μ', runT s.P (crowd gs w sl) (s.L + i) = (.next m₁, ops) ∧ Lt2 μ' (s.Phi j D cl its buf tag, s.Ful f0 j D q) ∧ s.Inv t₀ μ' m₁ (t ++ ops) := by
  have L0 := ok.L0
  have e2 := sumTo_upd D x Wk.wt hi
  have hst : min x.stage 7 = min (D i).stage 7 := by omega
  refine ⟨_, _, (s.Phi j (upd D i x) cl its buf' tag, s.Ful f0 j (upd D i x) q), hrun, Prod.Lex.left _ _ ?_, _, w', sl, j, upd D i x, q, cl, its, buf', f, tag, f0, d0, a, st, sm, rfl, by rw [Array.getElem?_setIfInBounds_ne (by omega)]; exact ha, hsp.any,
    C.commW ok hi x hx hch (fun b hb => (hv b hb).trans (C.vals b hb)) hp hgi (by have := C.room; omega) hdry (fun e => by subst e; simpa using hroom) hpk (by omega) hdf hu, hwg.of_block hwg', by rw [pr_upd]; exact mode_same hmode hst, ?_, rfl⟩
  · unfold Site.Phi
    have ev : (Vc j fun k => (upd D i x k).pr) = Vc j fun k => (D k).pr := sumTo_congr fun k hk => by
      show cnt (upd D i x k).pr = cnt (D k).pr
      by_cases e : k = i
      · subst e; rw [upd_same]; exact pr_stage hst
      · rw [upd_ne _ _ e]
    rw [ev]
    omega
  · rw [Deaf_still t 0 u (fun op hop => ⟨(hu op hop).dis, (hu op hop).ena⟩)]; exact hd0
/-- A WORKER AT THE CHANNEL. -/
theorem loopStep (ok : s.Ok) (ha : gs[0]? = some a) (hsp : s.SPos cl its tag j f0 d0 a w) (C : s.Crw t₀ gs w t j D q cl its buf f) (hwg : WgAt s.ty s.Wg w st sm) (hmode : Go.ConcN.Mode j (fun k => (D k).pr) tag st sm) (hd0 : Deaf t 0 = d0) (hi : i < j)
    (hg : gs[s.L + i]? = some g) {g0 : Goroutine} (hl : s.Loop g0) (hc0 : stepG s.P false g w = .comm g0 #[rcase s.ch s.z] true (.recv true) w #[]) (h8 : 9 ≤ (D i).stage) (hgh : (D i).gh = (none, [])) (hwt : (D i).wt = 9) (hdf : (D i).deaf = 0) :
    ∃ m₁ ops μ', runT s.P (crowd gs w sl) (s.L + i) = (.next m₁, ops) ∧ Lt2 μ' (s.Phi j D cl its buf tag, s.Ful f0 j D q) ∧ s.Inv t₀ μ' m₁ (t ++ ops) := by
  have l0 : (s.L + i == 0) = false := by have := ok.L0; simp; omega
  have hc1 : stepG s.P (s.L + i == 0) g w = .comm g0 #[rcase s.ch s.z] true (.recv true) w #[] := by rw [l0]; exact hc0
  have hns := noSend ok ha hsp C (s.L + i)
  obtain ⟨sn, rc, hch⟩ := C.chan
  have hgk : ghD D j i = (none, []) := by rw [ghD_at D hi]; exact hgh
  have hidle : upd (ghD D j) i (none, []) = ghD D j := by
    funext k
    by_cases e : k = i
    · subst e; rw [upd_same, hgk]
    · rw [upd_ne _ _ e]
  have lh := ok.lwh
  cases buf with
  | cons p b =>
    have hrun := crowd_recv_buf (sl := sl) hg hc1 hch (by simp) hns
    have gt := ok.take f p b its (ghD D j) i C.gi hgk
    obtain ⟨m, hm⟩ := ok.item g0 i p f b its _ (w.setChan s.ch s.cap (b.map vI).toArray cl sn (rc + 1) false) hl gt (by rw [upd_same])
    refine workerComm ok ha hsp C hwg hmode hd0 hi ⟨10, m, 0, p, []⟩ hrun ?_ ?_ ⟨sn, rc + 1, ?_⟩ (fun b hb => ?_) ?_ (buf' := b) ?_ (by simp) (fun h => by simp at h) (fun h => by simp at h) (by simp) (by omega) (by rw [hdf]) ?_ ?_
    · rw [List.map_cons, extract_cons]; exact C.fix.chanSet ok _ _ _ _
    · exact heap_setChan_ne w _ _ _ _ _ _ (fun e => ok.wh e.symm)
    · rw [List.map_cons, extract_cons]; exact heap_setChan_self w hch _ _ _ _ _ _
    · exact setChan_cell w _ _ _ _ _ (ok.atw b hb).2
    · rw [wpos_10 rfl]
      refine ⟨rfl, ?_⟩
      have e : ((p :: b).map vI).toArray.getD 0 undef = vI p := by simp
      rw [e]
      exact goes_w hm
    · exact gt
    · intro op hop
      simp [ofEvents_none] at hop
      rcases hop with rfl | rfl
      · exact ⟨rfl, by simp, by simp, by simp, lh⟩
      · exact ⟨rfl, by simp, by simp, by simp, lh⟩
    · rw [hwt]
      show 24 + 16 * b.length < 9 + 16 * (b.length + 1)
      omega
  | nil =>
    cases cl with
    | false =>
      have hrun := crowd_waits (sl := sl) hg hc1 (fun cc hcc => by
        have : cc = rcase s.ch s.z := by simpa using hcc
        rw [this]
        exact ways_recv_none (by simpa using hch) hns)
      refine workerComm ok ha hsp C hwg hmode hd0 hi ⟨12, 0, 0, 0, []⟩ hrun C.fix rfl ⟨sn, rc, by simpa using hch⟩ (fun _ _ => rfl) ?_ (buf' := []) ?_ (by simp) (fun h => by simp at h) (fun _ => ⟨rfl, rfl⟩) (by simp) (by omega) (by rw [hdf]) (fun op hop => by simp [ofEvents_none] at hop) ?_
      · rw [wpos_12 rfl]; exact ⟨rfl, g0, hl, rfl⟩
      · show s.GI f [] its (upd (ghD D j) i (none, []))
        rw [hidle]; exact C.gi
      · rw [hwt]; show 8 + 16 * 0 < 9 + 16 * 0; omega
    | true =>
      have hrun := crowd_recv_closed (sl := sl) hg hc1 (by simpa using hch) hns
      obtain ⟨m, hm⟩ := ok.done g0 w hl
      refine workerComm ok ha hsp C hwg hmode hd0 hi ⟨7, m, 0, 0, []⟩ hrun C.fix rfl ⟨sn, rc, by simpa using hch⟩ (fun _ _ => rfl) ?_ (buf' := []) ?_ (by simp) (fun _ => ⟨rfl, rfl⟩) (fun h => by simp at h) (by simp) (by omega) (by rw [hdf]) ?_ ?_
      · rw [wpos_7 rfl]; exact ⟨rfl, hm⟩
      · show s.GI f [] its (upd (ghD D j) i (none, []))
        rw [hidle]; exact C.gi
      · intro op hop
        simp [ofEvents_none] at hop
        subst hop
        exact ⟨rfl, by simp, by simp, by simp, lh⟩
      · rw [hwt]; show 7 + 16 * 0 < 9 + 16 * 0; omega
end
end Go.Proofs.YtpajdmhgonmgoaaDoor

