/-
  What the last text of this claim leans on, part 21: Kaa, Kab.
-/
import Derived.Test.YtpajdmhgonmgoaaDoorYs20
namespace Go.Proofs.YtpajdmhgonmgoaaDoor
open Go.Conc Go.ConcN
open Go.ConcR (KK wgBlock WgAt stA smA rd wr Payload DC0 Bk ofEvent_loc_mark)
set_option linter.unusedVariables false
theorem map_push (l : List Nat) (p : Nat) : (l.map vI).toArray.push (vI p) = ((l ++ [p]).map vI).toArray := by simp
/-- Who is parked is let run. -/
def wakeD (D : Nat → Wk) : Nat → Wk := fun k => if (D k).stage = 12 then ⟨13, (D k).fuel, (D k).deaf, (D k).item, (D k).adds⟩ else D k
theorem wakeD_stage (D : Nat → Wk) (k : Nat) : min (wakeD D k).stage 7 = min (D k).stage 7 := by
  unfold wakeD
  by_cases e : (D k).stage = 12
  · rw [if_pos e]; simp only; omega
  · rw [if_neg e]
theorem wakeD_gh (D : Nat → Wk) (k : Nat) : (wakeD D k).gh = (D k).gh := by
  unfold wakeD
  by_cases e : (D k).stage = 12
  · rw [if_pos e]; simp [Wk.gh, e]
  · rw [if_neg e]
theorem wakeD_wt (D : Nat → Wk) (k : Nat) : (wakeD D k).wt ≤ (D k).wt + 1 := by
  unfold wakeD
  by_cases e : (D k).stage = 12
  · rw [if_pos e]; simp [Wk.wt, e]
  · rw [if_neg e]; omega
theorem sumTo_le1 {f g : Nat → Nat} : ∀ {j : Nat}, (∀ i, i < j → f i ≤ g i + 1) → sumTo j f ≤ sumTo j g + j
  | 0, _ => by simp [sumTo]
  | j + 1, h => by
    have := sumTo_le1 (f := f) (g := g) (j := j) (fun i hi => h i (by omega))
    have := h j (by omega)
    simp only [sumTo]
    omega
section
variable [Payload] {s : Site} {w w' : World} {t₀ : Trace} {gs : Array Goroutine} {t : Trace} {j : Nat} {D : Nat → Wk} {q : Nat → Nat} {cl : Bool} {its buf : List Nat} {f : Addr → Int} {sl : Option (Nat × Nat)}
  {tag : CTag} {f0 d0 : Nat} {a : Goroutine} {st sm : Int}
/-- THE STARTER SENDS. -/
theorem sendStep (ok : s.Ok) (ha : gs[0]? = some a) {p : Nat} {its : List Nat} (hat : s.AtSends (p :: its) a w) (hcl : cl = false) (hj : j = s.n) (C : s.Crw t₀ gs w t j D q cl (p :: its) buf f) (hwg : WgAt s.ty s.Wg w st sm) (hmode : Go.ConcN.Mode j (fun k => (D k).pr) .kd st sm) (hd0 : Deaf t 0 = 0) :
    ∃ m₁ ops μ', runT s.P (crowd gs w sl) 0 = (.next m₁, ops) ∧ Lt2 μ' (s.Phi j D cl (p :: its) buf .kd, s.Ful f0 j D q) ∧ s.Inv t₀ μ' m₁ (t ++ ops) := by
  have L0 := ok.L0
  have lh := ok.lwh
  obtain ⟨_, u, hc, m, hk⟩ := hat
  have hc1 : stepG s.P (0 == 0) a w = .comm a #[scase s.ch (vI p) u] true .send w #[] := by simpa using hc
  obtain ⟨sn, rc, hch⟩ := C.chan
  subst hcl
  have hroom : (buf.map vI).toArray.size < s.cap := by have := C.room; simp at this ⊢; omega
  have parts : ∀ x k, (x, k) ∈ partners (gs.setIfInBounds 0 ph) s.ch false → k = 0 ∧ x ≠ 0 ∧ s.L ≤ x ∧ x < s.L + j ∧ (D (x - s.L)).stage = 12 ∧ ∃ g0, s.Loop g0 ∧ gs[x]? = some (parked g0 #[rcase s.ch s.z] (.recv true)) := by
    intro x k hm
    obtain ⟨g, hg, hk⟩ := mem_partners.1 hm
    by_cases e : 0 = x
    · subst e
      rw [Array.getElem?_setIfInBounds_self_of_lt (by rw [C.size]; omega)] at hg
      rw [← Option.some.inj hg, offersAt_ph] at hk
      cases hk
    rw [Array.getElem?_setIfInBounds_ne e] at hg
    by_cases hl : x < s.L
    · rcases (C.old x g (by omega) hl hg).status with h | h
      · rw [offersAt_of_not_blocked (by rw [h]; simp)] at hk; cases hk
      · rw [offersAt_of_not_blocked (by rw [h]; simp)] at hk; cases hk
    · have hms : x < s.L + j := by have := (Array.getElem?_eq_some_iff.1 hg).1; rw [C.size] at this; exact this
      obtain ⟨z, hz, pz⟩ := C.wk (x - s.L) (by omega)
      rw [show s.L + (x - s.L) = x by omega] at hz
      obtain rfl : z = g := by rw [hz] at hg; exact Option.some.inj hg
      rcases pz.status ok C.fix with ⟨e12, g0, hl0, rfl⟩ | ⟨_, h⟩
      · rw [offersAt_parked_recv, if_pos rfl] at hk
        simp at hk
        exact ⟨hk, by omega, by omega, hms, e12, g0, hl0, hg⟩
      · rw [offersAt_of_not_blocked (fun e => by rcases h with h | ⟨h, _⟩ <;> rw [h] at e <;> cases e)] at hk
        cases hk
  by_cases hp : partners (gs.setIfInBounds 0 ph) s.ch false = []
  · have hrun := crowd_send_room (sl := sl) ha hc1 hch hroom hp
    rw [map_push] at hrun
    have hu : ∀ op ∈ (MemOp.ofEvents 0 a.frame.fn a.frame.place #[] ++ #[{ g := 0, fn := a.frame.fn, pos := a.frame.place, act := .send s.ch sn }, { g := 0, fn := a.frame.fn, pos := a.frame.place, act := .sendDone s.ch sn }] : Trace), Hush (stA s.Wg) s.B op := by
      intro op hop
      simp [ofEvents_none] at hop
      rcases hop with rfl | rfl
      · exact ⟨rfl, by simp, by simp, by simp, lh⟩
      · exact ⟨rfl, by simp, by simp, by simp, lh⟩
    have hdd : ∀ k, Deaf (t ++ _) k = Deaf t k := fun k => Deaf_still t k _ (fun op hop => ⟨(hu op hop).dis, (hu op hop).ena⟩)
    have fx := C.fix.chanSet ok ((buf ++ [p]).map vI).toArray false (sn + 1) rc
    refine ⟨_, _, (s.Phi j D false its (buf ++ [p]) .kd, s.Ful m j D q), hrun, Prod.Lex.left _ _ ?_, _, _, sl, j, D, q, false, its, buf ++ [p], f, .kd, m, 0, _, st, sm, rfl, by rw [Array.getElem?_setIfInBounds_self_of_lt (by rw [C.size]; omega)], ⟨hj, rfl, .inl ⟨rfl, goes_0 hk⟩⟩,
      ⟨by simp [C.size], C.jn, fun k y h0 hk' hy => ?_, fun k hk' => ?_, fx, ⟨sn + 1, rc, heap_setChan_self w hch _ _ _ _ _ _⟩, fun b hb => ?_, ok.send f p buf its _ C.gi, ?_, fun k hk' h7 => ?_, fun e => (by cases e), fun k hk' h12 => ?_, C.tr.hush hu⟩, hwg.of_block (heap_setChan_ne w _ _ _ _ _ _ (fun e => ok.wh e.symm)), hmode, by rw [hdd]; exact hd0, rfl⟩
    · unfold Site.Phi
      simp only [List.length_append, List.length_cons, List.length_nil]
      omega
    · rw [Array.getElem?_setIfInBounds_ne (by omega)] at hy
      rw [hdd]; exact C.old k y h0 hk' hy
    · obtain ⟨y, hy, py⟩ := C.wk k hk'
      exact ⟨y, by rw [Array.getElem?_setIfInBounds_ne (by omega)]; exact hy, py.next ok C.fix fx⟩
    · rw [setChan_cell w _ _ _ _ _ (ok.atw b hb).2]; exact C.vals b hb
    · have := C.room
      simp only [List.length_append, List.length_cons, List.length_nil] at this ⊢
      omega
    · have := (C.dry k hk' h7).2; cases this
    · obtain ⟨y, hy, py⟩ := C.wk k hk'
      rcases py.status ok C.fix with ⟨_, g0, _, rfl⟩ | ⟨h, _⟩
      · have : (s.L + k, 0) ∈ partners (gs.setIfInBounds 0 ph) s.ch false := mem_partners.2 ⟨_, by rw [Array.getElem?_setIfInBounds_ne (by omega)]; exact hy, by rw [offersAt_parked_recv, if_pos rfl]; simp⟩
        rw [hp] at this
        cases this
      · exact absurd h12 h
  · obtain ⟨x, gj, zj, shj, d, hx0, hgx, hrun⟩ := crowd_send_meets_some (sl := sl) ha hc1 hch hp (fun x k hm => let ⟨h1, h2, _, _, _, g0, _, h5⟩ := parts x k hm; ⟨h1, h2, g0, s.z, .recv true, h5⟩)
    have hbl : gs[x]? = some (parked gj #[rcase s.ch zj] shj) := hgx
    have hxs : x < gs.size := (Array.getElem?_eq_some_iff.1 hgx).1
    rw [C.size] at hxs
    have hxL : s.L ≤ x := by
      rcases Nat.lt_or_ge x s.L with h | h
      · have := (C.old x _ (by omega) h hgx).status
        simp [parked] at this
      · exact h
    obtain ⟨i, rfl⟩ : ∃ i, x = s.L + i := ⟨x - s.L, by omega⟩
    have hi : i < j := by omega
    obtain ⟨z, hz, pz⟩ := C.wk i hi
    obtain rfl : z = parked gj #[rcase s.ch zj] shj := by rw [hgx] at hz; exact (Option.some.inj hz).symm
    obtain ⟨e12, g0, hl0, eg⟩ : (D i).stage = 12 ∧ ∃ g0, s.Loop g0 ∧ parked gj #[rcase s.ch zj] shj = parked g0 #[rcase s.ch s.z] (.recv true) := by
      rcases pz.status ok C.fix with h | ⟨_, h⟩
      · exact h
      · simp [parked] at h
    have eo : some ((#[rcase s.ch zj] : Array CommCase), shj) = some (#[rcase s.ch s.z], .recv true) := congrArg Goroutine.offers eg
    simp only [Option.some.injEq, Prod.mk.injEq] at eo
    obtain ⟨eo1, rfl⟩ := eo
    have ez : zj = s.z := by
      have := congrArg (fun c : Array CommCase => (c[0]?).map (·.zero)) eo1
      simpa [rcase] using this
    subst ez
    have ef : ∀ v, gj.finishComm s.P #[rcase s.ch s.z] (.recv true) 0 v true = g0.finishComm s.P #[rcase s.ch s.z] (.recv true) 0 v true := fun v => by
      rw [← finishComm_parked s.P gj #[rcase s.ch s.z] #[rcase s.ch s.z] (.recv true) (.recv true), eg, finishComm_parked]
    have hbe : buf = [] := C.parkd i hi e12
    subst hbe
    have hgk : ghD D j i = (none, []) := by rw [ghD_at D hi]; simp [Wk.gh, e12]
    have gg := ok.give f p its (ghD D j) i C.gi hgk
    have hpz := pz
    rw [wpos_12 e12] at hpz
    obtain ⟨mi, hmi⟩ := ok.item g0 i p f [] its _ w hl0 gg (by rw [upd_same])
    have hu : ∀ op ∈ (MemOp.ofEvents 0 a.frame.fn a.frame.place #[] ++ #[{ g := 0, fn := a.frame.fn, pos := a.frame.place, act := .send s.ch sn }, { g := s.L + i, fn := gj.frame.fn, pos := gj.frame.place, act := .recv s.ch rc s.cap }, { g := 0, fn := a.frame.fn, pos := a.frame.place, act := .sendDone s.ch sn }, { g := s.L + i, fn := gj.frame.fn, pos := gj.frame.place, act := .recvDone s.ch rc }] : Trace), Hush (stA s.Wg) s.B op := by
      intro op hop
      simp [ofEvents_none] at hop
      rcases hop with rfl | rfl | rfl | rfl
      · exact ⟨rfl, by simp, by simp, by simp, lh⟩
      · exact ⟨rfl, by simp, by simp, by simp, lh⟩
      · exact ⟨rfl, by simp, by simp, by simp, lh⟩
      · exact ⟨rfl, by simp, by simp, by simp, lh⟩
    have hdd : ∀ k, Deaf (t ++ _) k = Deaf t k := fun k => Deaf_still t k _ (fun op hop => ⟨(hu op hop).dis, (hu op hop).ena⟩)
    have fx := (C.fix.at ok d).chanSet ok (([] : List Nat).map vI).toArray false (sn + 1) (rc + 1)
    have hch' : (w.at d).heap[s.ch]? = some (.chan s.cap (([] : List Nat).map vI).toArray false sn rc false) := hch
    refine ⟨_, _, (s.Phi j (upd D i ⟨10, mi, 0, p, []⟩) false its [] .kd, s.Ful m j (upd D i ⟨10, mi, 0, p, []⟩) q), hrun, Prod.Lex.left _ _ ?_, _, _, sl, j, upd D i ⟨10, mi, 0, p, []⟩, q, false, its, [], f, .kd, m, 0, _, st, sm, rfl, by rw [Array.getElem?_setIfInBounds_self_of_lt (by simp [C.size]; omega)], ⟨hj, rfl, .inl ⟨rfl, goes_0 hk⟩⟩,
      ⟨by simp [C.size], C.jn, fun k y h0 hk' hy => ?_, fun k hk' => ?_, fx, ⟨sn + 1, rc + 1, heap_setChan_self _ hch' _ _ _ _ _ _⟩, fun b hb => ?_, by rw [ghD_upd D hi]; exact gg, ?_, fun k hk' h7 => ?_, fun e => (by cases e), fun _ _ _ => rfl, (C.tr.hush hu).data (fun _ => hpz.1.symm) (fun _ h => by simp at h)⟩, hwg.of_block (heap_setChan_ne (w.at d) _ _ _ _ _ _ (fun e => ok.wh e.symm)), ?_, by rw [hdd]; exact hd0, rfl⟩
    · unfold Site.Phi
      have e2 := sumTo_upd D (⟨10, mi, 0, p, []⟩ : Wk) Wk.wt hi
      have w10 : (⟨10, mi, 0, p, []⟩ : Wk).wt = 24 := rfl
      have w12 : (D i).wt = 8 := by simp [Wk.wt, e12]
      have ev : (Vc j fun k => (upd D i ⟨10, mi, 0, p, []⟩ k).pr) = Vc j fun k => (D k).pr := sumTo_congr fun k hk => by
        show cnt (upd D i ⟨10, mi, 0, p, []⟩ k).pr = cnt (D k).pr
        by_cases e : k = i
        · subst e; rw [upd_same]; exact pr_stage (by rw [e12]; rfl)
        · rw [upd_ne _ _ e]
      rw [ev]
      simp only [List.length_cons, List.length_nil]
      omega
    · rw [Array.getElem?_setIfInBounds_ne (by omega), Array.getElem?_setIfInBounds_ne (by omega)] at hy
      rw [hdd]; exact C.old k y h0 hk' hy
    · rw [Array.getElem?_setIfInBounds_ne (by omega)]
      by_cases e : k = i
      · subst e
        refine ⟨_, by rw [Array.getElem?_setIfInBounds_self_of_lt (by rw [C.size]; omega)], ?_⟩
        rw [upd_same, wpos_10 rfl]
        exact ⟨rfl, by rw [ef]; exact goes_w hmi⟩
      · obtain ⟨y, hy, py⟩ := C.wk k hk'
        exact ⟨y, by rw [Array.getElem?_setIfInBounds_ne (by omega)]; exact hy, by rw [upd_ne D _ e]; exact py.next ok C.fix fx⟩
    · rw [setChan_cell _ _ _ _ _ _ (ok.atw b hb).2]; exact C.vals b hb
    · have := C.room
      simp only [List.length_cons, List.length_nil] at this ⊢
      omega
    · by_cases e : k = i
      · subst e; rw [upd_same] at h7; exact absurd h7 (by show ¬ 10 ≤ 7; omega)
      · rw [upd_ne D _ e] at h7
        have := (C.dry k hk' h7).2; cases this
    · rw [pr_upd]; exact mode_same hmode (by rw [e12]; rfl)
/-- THE STARTER CLOSES THE CHANNEL. -/
theorem closeStep (ok : s.Ok) (ha : gs[0]? = some a) (hat : s.AtSends [] a w) (hcl : cl = false) (hj : j = s.n) (C : s.Crw t₀ gs w t j D q cl [] buf f) (hwg : WgAt s.ty s.Wg w st sm) (hmode : Go.ConcN.Mode j (fun k => (D k).pr) .kd st sm) (hd0 : Deaf t 0 = 0) :
    ∃ m₁ ops μ', runT s.P (crowd gs w sl) 0 = (.next m₁, ops) ∧ Lt2 μ' (s.Phi j D cl [] buf .kd, s.Ful f0 j D q) ∧ s.Inv t₀ μ' m₁ (t ++ ops) := by
  have L0 := ok.L0
  have lh := ok.lwh
  obtain ⟨hrn, hmw, a', har, hgo, m, hk⟩ := hat
  obtain ⟨sn, rc, hch⟩ := C.chan
  subst hcl
  have hgo := hgo _ sn rc hch
  have hrun := runT_crowd_go (P := s.P) (sl := sl) (i := 0) ha (by simpa using hgo)
  have fx := C.fix.chanSet ok (buf.map vI).toArray true sn rc
  have hg0 : ∀ op ∈ MemOp.ofEvents 0 a.frame.fn a.frame.place (closeEvents s.ch), op.g = 0 := fun op hop => by obtain ⟨e, _, rfl⟩ := Go.Conc.mem_ofEvents hop; rfl
  have hce : ∀ e ∈ closeEvents s.ch, e = ⟨.obj s.ch, false, true⟩ ∨ e = ⟨.obj s.ch, true, true⟩ := by intro e he; simpa [closeEvents] using he
  have hok : ∀ op ∈ MemOp.ofEvents 0 a.frame.fn a.frame.place (closeEvents s.ch), OkT s.Sh s.Rd 0 op := by
    intro op hop
    obtain ⟨e, he, rfl⟩ := Go.Conc.mem_ofEvents hop
    refine ⟨rfl, fun x hx => ?_⟩
    rcases hce e he with rfl | rfl
    · simp only [MemAct.ofEvent, MemAct.touch?, Option.some.injEq] at hx
      subst hx
      exact .inl ⟨ok.shc, .inl rfl⟩
    · simp [MemAct.ofEvent, MemAct.touch?] at hx
  have T0 := C.tr.zero ok.shr L0 hok (fun e he => by rcases hce e he with rfl | rfl <;> simp) (fun e he => by rcases hce e he with rfl | rfl <;> exact lh)
  have T1 : s.Tr t₀ (t ++ MemOp.ofEvents 0 a.frame.fn a.frame.place (closeEvents s.ch)) j (wakeD D) := by
    refine ⟨T0.above, T0.tj, T0.ext, T0.norel, fun k hk => ?_, fun k hk hs => ?_, T0.low⟩
    · rw [T0.deafW k hk]; unfold wakeD; split <;> rfl
    · have := wakeD_stage D k
      exact T0.rel k hk (by omega)
  have hw : ∀ o, woken s.P a a' (w.setChan s.ch s.cap (buf.map vI).toArray true sn rc false) o = o.again (w.setChan s.ch s.cap (buf.map vI).toArray true sn rc false) := fun o => by
    unfold Go.Conc.woken
    rw [if_pos]
    simp [hmw, har]
  have hch2 := heap_setChan_self w hch s.cap (buf.map vI).toArray true sn rc false
  refine ⟨_, _, (s.Phi j (wakeD D) true [] buf .kd, s.Ful m j (wakeD D) q), hrun, Prod.Lex.left _ _ ?_, _, _, sl, j, wakeD D, q, true, [], buf, f, .kd, m, 0, a', st, sm, rfl, get_map_set_same _ _ _ (by rw [C.size]; omega), ⟨hj, rfl, .inr ⟨rfl, rfl, goes_0 hk⟩⟩,
    ⟨by simp [C.size], C.jn, fun k y h0 hk' hy => ?_, fun k hk' => ?_, fx, ⟨sn, rc, hch2⟩, fun b hb => ?_, ?_, C.room, fun k hk' h7 => ?_, fun _ k hk' => ?_, fun k hk' h12 => ?_, T1⟩, hwg.of_block (heap_setChan_ne w _ _ _ _ _ _ (fun e => ok.wh e.symm)), ?_, ?_, rfl⟩
  · unfold Site.Phi
    have hs := sumTo_le1 (f := fun k => (wakeD D k).wt) (g := fun k => (D k).wt) (j := j) (fun k _ => wakeD_wt D k)
    simp only [phiS]
    simp
    omega
  · rw [get_map_set _ _ _ _ (by omega)] at hy
    obtain ⟨z, hz, rfl⟩ := Option.map_eq_some_iff.1 hy
    have hq := C.old k z h0 hk' hz
    rw [woken_quitsD hq, Deaf_other t (g' := 0) (by omega) _ hg0]
    exact hq
  · obtain ⟨y, hy, py⟩ := C.wk k hk'
    rw [get_map_set _ _ _ _ (by omega), hy, Option.map_some]
    refine ⟨_, rfl, ?_⟩
    rcases py.status ok C.fix with ⟨e12, g0, hl0, rfl⟩ | ⟨h12, h⟩
    · rw [hw, again_recv_closed hch2]
      have : (wakeD D k).stage = 13 := by unfold wakeD; rw [if_pos e12]
      rw [wpos_13 this]
      refine ⟨?_, g0, hl0, rfl⟩
      rw [wpos_12 e12] at py
      unfold wakeD; rw [if_pos e12]; exact py.1
    · rw [py.woken ok C.fix a a' (fun e => absurd e h12)]
      have : wakeD D k = D k := by unfold wakeD; rw [if_neg h12]
      rw [this]
      exact py.next ok C.fix fx
  · rw [setChan_cell w _ _ _ _ _ (ok.atw b hb).2]; exact C.vals b hb
  · have : ghD (wakeD D) j = ghD D j := by
      funext k
      unfold ghD
      by_cases c : k < j
      · rw [if_pos c, if_pos c, wakeD_gh]
      · rw [if_neg c, if_neg c]
    rw [this]; exact C.gi
  · unfold wakeD at h7
    by_cases e : (D k).stage = 12
    · rw [if_pos e] at h7; simp at h7
    · rw [if_neg e] at h7
      have := (C.dry k hk' h7).2
      cases this
  · unfold wakeD
    by_cases e : (D k).stage = 12
    · rw [if_pos e]; show (13 : Nat) ≠ 12; omega
    · rw [if_neg e]; exact e
  · unfold wakeD at h12
    by_cases e : (D k).stage = 12
    · rw [if_pos e] at h12; simp at h12
    · rw [if_neg e] at h12; exact absurd h12 e
  · exact Go.ConcN.Mode.congr (D := fun k => (D k).pr) (D' := fun k => (wakeD D k).pr) (fun k _ => wakeD_stage D k) hmode
  · rw [Deaf_own, hd0]; simp [deafBehind, closeEvents]
end
end Go.Proofs.YtpajdmhgonmgoaaDoor

namespace Go.Proofs.YtpajdmhgonmgoaaDoor
open Go.Conc Go.ConcN
open Go.ConcR (KK wgBlock WgAt stA smA rd wr Payload DC0 Bk ofEvent_loc_mark)
set_option linter.unusedVariables false
section
variable [Payload] {s : Site} {w w' : World} {t₀ : Trace} {gs : Array Goroutine} {t : Trace} {j : Nat} {D : Nat → Wk} {q : Nat → Nat} {cl : Bool} {its buf : List Nat} {f : Addr → Int} {sl : Option (Nat × Nat)}
  {tag : CTag} {f0 d0 : Nat} {a : Goroutine} {st sm : Int}
theorem w1StepC (ok : s.Ok) (ha : gs[0]? = some a) (hj : j = s.n) (h2 : cl = true) (h3 : its = []) (x : Goes s.P true s.R0 s.D0 s.AtW1 f0 a w) (C : s.Crw t₀ gs w t j D q cl its buf f) (hwg : WgAt s.ty s.Wg w st sm) (hmode : Go.ConcN.Mode j (fun k => (D k).pr) .w1 st sm) (hd0 : Deaf t 0 = 1) :
    ∃ m₁ ops μ', runT s.P (crowd gs w sl) 0 = (.next m₁, ops) ∧ Lt2 μ' (s.Phi j D cl its buf .w1, s.Ful f0 j D q) ∧ s.Inv t₀ μ' m₁ (t ++ ops) := by
  rcases Goes.cases x with hstop | ⟨m', rfl, hstep⟩
  · obtain ⟨_, hall⟩ := hstop w C.fix
    obtain ⟨ho, rfl, rfl, _⟩ := hmode.open_inv trivial
    have hV := Vc_le j (fun k => (D k).pr)
    have hn2 := ok.n2
    obtain ⟨a', hgo, hz, hnz⟩ := hall (Vc j (fun k => (D k).pr)) (by omega) (by simpa [pend] using hwg)
    by_cases hv : Vc j (fun k => (D k).pr) = 0
    · obtain ⟨m₂, hk⟩ := hz hv
      refine zeroBook ok ha C hd0 hgo (.refl s.Wg w) hwg bk_rd (tag' := .ke) ⟨hj, h2, h3, rfl, hk⟩ rfl ?_ (.inl (by simp only [phiS, phi]; omega))
      have e : ((Vc j (fun k => (D k).pr) + pend .w1 : Nat) : Int) * KK = 0 := by rw [hv]; simp [pend]
      rw [e]
      exact .fin trivial (allQuit_of ho hv)
    · obtain ⟨m₂, hk⟩ := hnz hv
      exact zeroBook ok ha C hd0 hgo (.refl s.Wg w) hwg bk_rd (tag' := .w2 (Vc j (fun k => (D k).pr))) ⟨hj, h2, h3, rfl, hk⟩ rfl (hmode.reopen trivial trivial rfl (fun vs e => by cases e; omega)) (.inl (by simp only [phiS, phi]; omega))
  · obtain ⟨a', w', es, hgo, hD, hg'⟩ := hstep w C.fix
    exact zeroSilent ok ha C hwg hmode hd0 hgo hD ⟨hj, h2, h3, rfl, goes_0 hg'⟩ (by omega)
/-- THE STARTER WAITS. -/
theorem waitStep (ok : s.Ok) (ha : gs[0]? = some a) (hsp : s.SPos cl its tag j f0 d0 a w) (hcl : cl = true) (hr : a.status = .running) (C : s.Crw t₀ gs w t j D q cl its buf f) (hwg : WgAt s.ty s.Wg w st sm) (hmode : Go.ConcN.Mode j (fun k => (D k).pr) tag st sm) (hd0 : Deaf t 0 = d0) :
    (∃ m₁ ops μ', runT s.P (crowd gs w sl) 0 = (.next m₁, ops) ∧ Lt2 μ' (s.Phi j D cl its buf tag, s.Ful f0 j D q) ∧ s.Inv t₀ μ' m₁ (t ++ ops)) ∨ (tag = .acq ∧ d0 = 0 ∧ j = s.n ∧ its = [] ∧ s.AtAcq a w) := by
  cases tag with
  | sp r k => have := hsp.1; rw [hcl] at this; cases this
  | kd =>
    obtain ⟨h1, rfl, h3⟩ := hsp
    rcases h3 with ⟨e, _⟩ | ⟨h2, h3, x⟩
    · rw [hcl] at e; cases e
    · rcases Goes.cases x with hstop | ⟨m', rfl, hstep⟩
      · obtain ⟨_, a', hgo, m₂, hk⟩ := hstop w C.fix
        have hV := Vc_le j (fun k => (D k).pr)
        subst h2
        exact .inl (zeroBook ok ha C hd0 hgo (.refl s.Wg w) hwg bk_dis (tag' := .anch) ⟨h1, rfl, h3, rfl, hk⟩ rfl (hmode.reopen trivial trivial rfl (fun vs e => by cases e)) (.inl (by simp only [phiS, phi]; simp; omega)))
      · obtain ⟨a', w', es, hgo, hD, hg'⟩ := hstep w C.fix
        exact .inl (zeroSilent ok ha C hwg hmode hd0 hgo hD ⟨h1, rfl, .inr ⟨h2, h3, goes_0 hg'⟩⟩ (by omega))
  | anch =>
    obtain ⟨h1, h2, h3, rfl, x⟩ := hsp
    rcases Goes.cases x with hstop | ⟨m', rfl, hstep⟩
    · obtain ⟨m, hm⟩ := ok.anch a w (hstop w C.fix)
      obtain ⟨m₁, ops, μ', e1, e2, e3⟩ := w1StepC (sl := sl) ok ha h1 h2 h3 hm C hwg (hmode.reopen trivial trivial rfl (fun vs e => by cases e)) hd0
      refine .inl ⟨m₁, ops, μ', e1, lt2_trans e2 (Prod.Lex.left _ _ ?_), e3⟩
      unfold Site.Phi
      simp only [phiS, phi]
      omega
    · obtain ⟨a', w', es, hgo, hD, hg'⟩ := hstep w C.fix
      exact .inl (zeroSilent ok ha C hwg hmode hd0 hgo hD ⟨h1, h2, h3, rfl, goes_0 hg'⟩ (by omega))
  | w1 =>
    obtain ⟨h1, h2, h3, rfl, x⟩ := hsp
    exact .inl (w1StepC ok ha h1 h2 h3 x C hwg hmode hd0)
  | w2 vs =>
    obtain ⟨h1, h2, h3, rfl, x⟩ := hsp
    rcases Goes.cases x with hstop | ⟨m', rfl, hstep⟩
    · obtain ⟨_, hall⟩ := hstop w C.fix
      obtain ⟨ho, rfl, rfl, hw2⟩ := hmode.open_inv trivial
      obtain ⟨hv1, hv2⟩ := hw2 vs rfl
      have hV := Vc_le j (fun k => (D k).pr)
      have hn2 := ok.n2
      obtain ⟨hhit, hmiss⟩ := hall (Vc j (fun k => (D k).pr)) (by omega) (by simpa [pend] using hwg)
      by_cases hv : Vc j (fun k => (D k).pr) = vs
      · obtain ⟨a', hgo, m₂, hk⟩ := hhit hv
        exact .inl (zeroBook ok ha C hd0 hgo (aside_setCell w (stA s.Wg) _) (hwg.setSt _) bk_rw (tag' := .w3) (f' := m₂ + 1) ⟨h1, h2, h3, rfl, m₂, rfl, goes_0 hk⟩ (by simp [deafBehind, rd, wr]) (.reg trivial ho (by omega)) (.inl (by simp only [phiS, phi]; omega)))
      · obtain ⟨a', hgo, m₂, hk⟩ := hmiss hv
        exact .inl (zeroBook ok ha C hd0 hgo (.refl s.Wg w) hwg bk_rd (tag' := .anch) ⟨h1, h2, h3, rfl, hk⟩ rfl (hmode.reopen trivial trivial rfl (fun vs e => by cases e)) (.inl (by simp only [phiS, phi]; omega)))
    · obtain ⟨a', w', es, hgo, hD, hg'⟩ := hstep w C.fix
      exact .inl (zeroSilent ok ha C hwg hmode hd0 hgo hD ⟨h1, h2, h3, rfl, goes_0 hg'⟩ (by omega))
  | w3 =>
    obtain ⟨h1, h2, h3, rfl, m, rfl, x⟩ := hsp
    rcases Goes.cases x with hstop | ⟨m', rfl, hstep⟩
    · have h4 := hstop w C.fix
      obtain ⟨_, hoff, hblk, hgo⟩ := h4
      have blocks : sm = 0 → (∃ m₁ ops μ', runT s.P (crowd gs w sl) 0 = (.next m₁, ops) ∧ Lt2 μ' (s.Phi j D cl its buf .w3, s.Ful (m + 1) j D q) ∧ s.Inv t₀ μ' m₁ (t ++ ops)) := fun e => by
        subst e
        have hb := hblk ⟨st, hwg⟩
        exact zeroGo ok ha C hd0 hb C.fix rfl (fun _ _ => rfl) (fun op hop => by simp [ofEvents_none] at hop) (fun e he => by simp at he) (fun e he => by simp at he) (tag' := .blk) (f' := 0) ⟨h1, h2, h3, rfl, rfl, a, rfl, fun w₁ hw₁ => hstop w₁ hw₁⟩ rfl hwg (by
          cases hmode with
          | opn h _ _ => exact h.elim
          | reg _ ho hv => exact .reg trivial ho hv
          | last L _ hL h3 h4 => exact .last L trivial hL h3 h4
          | fin h _ => exact h.elim) (.inr ⟨rfl, by omega⟩)
      cases hmode with
      | opn h _ _ => exact h.elim
      | reg _ ho hv => exact .inl (blocks rfl)
      | last L _ hL h3 h4 => exact .inl (blocks rfl)
      | fin h _ => exact h.elim
      | sema hq =>
        obtain ⟨a', hgo, m₂, hk⟩ := hgo hwg
        refine .inl (zeroBook ok ha C hd0 hgo (aside_setCell w (smA s.Wg) _) (hwg.setSm 0) (es := semEvents (smA s.Wg)) ?_ (tag' := .w4) ⟨h1, h2, h3, rfl, goes_0 hk⟩ (by simp [deafBehind, semEvents]) (.fin trivial hq) (.inl (by simp only [phiS, phi]; omega)))
        intro e he
        simp [semEvents] at he
        rcases he with rfl | rfl | rfl | rfl
        · exact .inl rfl
        · exact bk_cell _ _ rfl
        · exact bk_cell _ _ rfl
        · exact .inr (.inl rfl)
    · obtain ⟨a', w', es, hgo, hD, hg'⟩ := hstep w C.fix
      exact .inl (zeroSilent ok ha C hwg hmode hd0 hgo hD ⟨h1, h2, h3, rfl, m', rfl, goes_0 hg'⟩ (by omega))
  | blk =>
    obtain ⟨_, _, _, _, _, g0, rfl, _⟩ := hsp
    simp at hr
  | w4 =>
    obtain ⟨h1, h2, h3, rfl, x⟩ := hsp
    rcases Goes.cases x with hstop | ⟨m', rfl, hstep⟩
    · obtain ⟨_, hx⟩ := hstop w C.fix
      obtain ⟨hq, rfl, rfl⟩ := hmode.fin_inv trivial
      obtain ⟨a', hgo, m₂, hk⟩ := hx hwg
      exact .inl (zeroBook ok ha C hd0 hgo (.refl s.Wg w) hwg bk_rd (tag' := .ke) ⟨h1, h2, h3, rfl, hk⟩ rfl (.fin trivial hq) (.inl (by simp only [phiS, phi]; omega)))
    · obtain ⟨a', w', es, hgo, hD, hg'⟩ := hstep w C.fix
      exact .inl (zeroSilent ok ha C hwg hmode hd0 hgo hD ⟨h1, h2, h3, rfl, goes_0 hg'⟩ (by omega))
  | ke =>
    obtain ⟨h1, h2, h3, rfl, x⟩ := hsp
    rcases Goes.cases x with hstop | ⟨m', rfl, hstep⟩
    · obtain ⟨_, a', hgo, m₂, hk⟩ := hstop w C.fix
      obtain ⟨hq, rfl, rfl⟩ := hmode.fin_inv trivial
      exact .inl (zeroBook ok ha C hd0 hgo (.refl s.Wg w) hwg bk_ena (tag' := .acq) ⟨h1, h2, h3, rfl, hk⟩ rfl (.fin trivial hq) (.inl (by simp only [phiS, phi]; omega)))
    · obtain ⟨a', w', es, hgo, hD, hg'⟩ := hstep w C.fix
      exact .inl (zeroSilent ok ha C hwg hmode hd0 hgo hD ⟨h1, h2, h3, rfl, goes_0 hg'⟩ (by omega))
  | acq =>
    obtain ⟨h1, h2, h3, rfl, x⟩ := hsp
    rcases Goes.cases x with hstop | ⟨m', rfl, hstep⟩
    · exact .inr ⟨rfl, rfl, h1, h3, hstop w C.fix⟩
    · obtain ⟨a', w', es, hgo, hD, hg'⟩ := hstep w C.fix
      exact .inl (zeroSilent ok ha C hwg hmode hd0 hgo hD ⟨h1, h2, h3, rfl, goes_0 hg'⟩ (by omega))
  | ret => exact hsp.elim
end
end Go.Proofs.YtpajdmhgonmgoaaDoor

