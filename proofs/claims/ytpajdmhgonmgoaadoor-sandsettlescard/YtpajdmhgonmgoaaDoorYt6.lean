/-
  What the last text of this claim leans on, part 6: La6, La7, Lb9.
-/
import Derived.Test.YtpajdmhgonmgoaaDoorYt5
import Derived.Conc.LoneCalls
namespace Go.Proofs.YtpajdmhgonmgoaaDoor
open Go.RowKit
set_option linter.unusedVariables false
open Go.Conc
set_option linter.unusedSimpArgs false
abbrev UF := FuncId × Act × List Item
def fr3 (u : UF) : Frame := (base u.1).at u.2.1 u.2.2
/-- A frame that bears a panic by ending the run. -/
def frX (P : Program) : Frame := { fn := P.funcs.size, tmps := #[], todo := [.call { target := .nil, args := #[] } true "fmt's door" #[]], defers := [], mode := .run, kind := .normal }
def gor (b : Frame) (k : List Item) (cs : List Frame) (us : List UF) (ret : Bool) (a : Act) (t : List Item) : Goroutine :=
  match us with
  | [] => G (b.at a (t ++ k)) cs
  | u :: r => if ret then G { fr3 u with mode := .returning } (r.map fr3 ++ b.at a (t ++ k) :: cs) else G (fr3 u) (r.map fr3 ++ b.at a (t ++ k) :: cs)
def CallT (t : List Item) : Prop := ∃ ops i rest r, t = .inRegion ops (i :: rest) :: r
structure OkS (S : FuncId → Bool) (us : List UF) (ret : Bool) (a : Act) (t : List Item) : Prop where
  bt : tameL S t = true
  bd : a.defers = []
  up : ∀ u ∈ us, S u.1 = true ∧ u.2.1.defers = [] ∧ tameL S u.2.2 = true
  cb : us ≠ [] → CallT t
  cu : ∀ u ∈ us.tail, CallT u.2.2
  rt : ret = true → us ≠ []
section
variable {P : Program} {S : FuncId → Bool}
theorem runN_ended {n : Nat} {m m' : Machine} {o : Outcome} {w : World} (h : step P m = .ended o w) (hr : runN P n m = .next m') : n = 0 ∧ m' = m := by
  cases n with
  | zero => simp only [runN] at hr; injection hr with hr; exact ⟨rfl, hr.symm⟩
  | succ n => simp only [runN, h] at hr; cases hr
theorem step_ended {g : Goroutine} {fr : Frame} {cs : List Frame} {w w' : World} {o : Outcome} {es : Array Event} (hg : g = G fr cs) (h : stepG P true g w = .ended o w' es) : step P (solo g w) = .ended o w' := by
  subst hg
  rw [← lone_eq_solo]
  refine step_lone_ended ?_
  show (stepG P true (G fr cs) w).bare = _
  rw [h]; rfl
theorem catches_some {fr : Frame} (h : (P.funcs[fr.fn]?).isSome = true) : fr.catches P = false := by
  unfold Frame.catches
  cases hh : P.funcs[fr.fn]? with
  | none => rw [hh] at h; cases h
  | some f => rfl
theorem frX_catches (ch : List PanicEntry) : ({ frX P with mode := .panicking ch } : Frame).catches P = true := by
  unfold Frame.catches frX
  have : P.funcs[P.funcs.size]? = none := Array.getElem?_eq_none (Nat.le_refl _)
  dsimp only
  rw [this]
  decide +kernel
theorem dead_panic : ∀ (l : List Frame) (fr : Frame) (ch : List PanicEntry), fr.mode = .panicking ch → fr.defers = [] → (P.funcs[fr.fn]?).isSome = true → (∀ c ∈ l, c.defers = [] ∧ c.mode = .run ∧ (P.funcs[c.fn]?).isSome = true) →
    ∀ (n : Nat) (w w' : World) (fr' : Frame) (cs' : List Frame), runN P n (solo (G fr (l ++ [frX P])) w) = .next (solo (G fr' cs') w') → fr'.mode ≠ .run := by
  intro l
  induction l with
  | nil =>
    intro fr ch hm hd hs _ n w w' fr' cs' hr
    rw [List.nil_append] at hr
    have st : stepG P true (G fr [frX P]) w = .go (G { frX P with mode := .panicking ch } []) w #[] := by
      obtain ⟨fn, tmps, todo, defers, mode, kind, ro⟩ := fr
      dsimp only at hm hd hs
      subst hm hd
      simp [G, stepG, unwind, catches_some (fr := ⟨fn, tmps, todo, [], .panicking ch, kind, ro⟩) hs, Frame.raise, frX]
    cases n with
    | zero =>
      simp only [runN] at hr
      injection hr with hr
      have := congrArg (fun m => (m.gs[0]?).map (·.frame.mode)) hr
      simp [solo, G, hm] at this
      rw [← this]
      exact fun e => by cases e
    | succ n =>
      simp only [runN, step_solo_go (show (G fr [frX P]).status = .running from rfl) st] at hr
      have st2 : stepG P true (G { frX P with mode := .panicking ch } []) w = .ended (.unsupported (.noEntry "a panic or Goexit out of a method that fmt calls behind a cut's door") (({ frX P with mode := .panicking ch } : Frame).pos P)) w := by
        have hc := frX_catches (P := P) ch
        simp only [frX] at hc
        simp [G, stepG, unwind, frX, hc]
      obtain ⟨_, e⟩ := runN_ended (step_ended rfl st2) hr
      have := congrArg (fun m => (m.gs[0]?).map (·.frame.mode)) e
      simp [solo, G] at this
      rw [this]
      exact fun e => by cases e
  | cons c l ih =>
    intro fr ch hm hd hs hl n w w' fr' cs' hr
    obtain ⟨c1, c2, c3⟩ := hl c (List.mem_cons_self ..)
    have st : stepG P true (G fr (c :: l ++ [frX P])) w = .go (G { c with mode := .panicking ch } (l ++ [frX P])) w #[] := by
      obtain ⟨fn, tmps, todo, defers, mode, kind, ro⟩ := fr
      dsimp only at hm hd hs
      subst hm hd
      simp [G, stepG, unwind, catches_some (fr := ⟨fn, tmps, todo, [], .panicking ch, kind, ro⟩) hs, Frame.raise, c2]
    cases n with
    | zero =>
      simp only [runN] at hr
      injection hr with hr
      have := congrArg (fun m => (m.gs[0]?).map (·.frame.mode)) hr
      simp [solo, G, hm] at this
      rw [← this]
      exact fun e => by cases e
    | succ n =>
      simp only [runN, step_solo_go (show (G fr (c :: l ++ [frX P])).status = .running from rfl) st] at hr
      exact ih { c with mode := .panicking ch } ch rfl c1 c3 (fun x hx => hl x (List.mem_cons_of_mem _ hx)) n w w' fr' cs' hr
theorem dead_ret {fr : Frame} (hd : fr.defers = []) (hm : fr.mode = .returning) (hi : P.inits.idxOf? fr.fn = none) {n : Nat} {w w' : World} {fr' : Frame} {cs' : List Frame} (hr : runN P n (solo (G fr []) w) = .next (solo (G fr' cs') w')) : fr'.mode ≠ .run := by
  have st : ∃ o w1 es, stepG P true (G fr []) w = .ended o w1 es := by
    obtain ⟨fn, tmps, todo, defers, mode, kind, ro⟩ := fr
    dsimp only at hm hd hi
    subst hm hd
    have hdo : ∀ (v : Value) (w2 : World), ∃ o w1 es, doReturn P true ⟨fn, tmps, todo, [], .returning, kind, ro⟩ [] none v w2 = .ended o w1 es := fun v w2 => by
      cases kind <;> simp [doReturn, hi]
    cases hf : P.funcs[fn]? with
    | none =>
      obtain ⟨o, w1, es, h⟩ := hdo (tmps.getD 0 undef) w
      exact ⟨o, w1, es, by simpa [G, stepG, unwind, hf] using h⟩
    | some f =>
      cases hr : (results f tmps).run P w with
      | ok v w2 =>
        obtain ⟨o, w1, es, h⟩ := hdo v w2
        refine ⟨o, w1, seen P fn ((results f tmps).events P w #[]) ++ es, ?_⟩
        simp [G, stepG, unwind, hf, hr, h, GStep.after]
      | halt x w2 =>
        cases x <;> simp [G, stepG, unwind, hf, hr, GStep.after]
  obtain ⟨o, w1, es, st⟩ := st
  obtain ⟨_, e⟩ := runN_ended (step_ended rfl st) hr
  have := congrArg (fun m => (m.gs[0]?).map (·.frame.mode)) e
  simp [solo, G] at this
  rw [this, hm]
  exact fun e => by cases e
end
end Go.Proofs.YtpajdmhgonmgoaaDoor

namespace Go.Proofs.YtpajdmhgonmgoaaDoor
open Go.RowKit
set_option linter.unusedVariables false
open Go.Conc
set_option linter.unusedSimpArgs false
section
variable {P : Program} {S : FuncId → Bool}
theorem ret_step (M : Mild P S) {f : FuncId} (hf : S f = true) {a1 : Act} (hd : a1.defers = []) (t1 : List Item) (w : World) :
    (∃ v w2 es, w.heap.size ≤ w2.heap.size ∧ (∀ e ∈ es, EvG w2.heap.size e) ∧ ∀ c rest, stepG P true (G { (base f).at a1 t1 with mode := .returning } (c :: rest)) w = .go (G (c.finish v) rest) w2 es) ∨
    (∀ cs, ∃ o w' es, stepG P true (G { (base f).at a1 t1 with mode := .returning } cs) w = .ended o w' es) := by
  obtain ⟨fn, c, h1, _, _, _⟩ := M.bodies f hf
  obtain ⟨w2, hsz, hend, hev⟩ := tame_ends (results fn a1.tmps) w #[] (tame_results fn a1.tmps)
  have run1 : (results fn a1.tmps).run P w = ((results fn a1.tmps).runT P w #[]).1 := (Sem.runT_fst _ _ _ _).symm
  rcases hend with ⟨v, hr, _⟩ | ⟨x, hr, hx⟩
  · rw [← run1] at hr
    refine Or.inl ⟨v, w2, seen P f ((results fn a1.tmps).events P w #[]), hsz, fun e he => ?_, fun c rest => ?_⟩
    · rcases hev e (mem_seen he) with h | h
      · simp at h
      · exact h
    · simp [G, stepG, unwind, doReturn, Frame.at, base, hd, h1, hr, GStep.after]
  · rw [← run1] at hr
    refine Or.inr fun cs => ?_
    rcases hx with ⟨v, rfl⟩ | ⟨s, rfl⟩ | ⟨u, rfl⟩ <;> simp [G, stepG, unwind, Frame.at, base, hd, h1, hr, GStep.after]
/-- What one step of tame frames comes to. -/
def StepS (P : Program) (S : FuncId → Bool) (b : Frame) (us : List UF) (ret : Bool) (a : Act) (t : List Item) (w : World) : Prop :=
  (∃ us' ret' a' t' w' es, OkS S us' ret' a' t' ∧ w.heap.size ≤ w'.heap.size ∧ (∀ e ∈ es, EvG w'.heap.size e) ∧ ∀ k cs, stepG P true (gor b k cs us ret a t) w = .go (gor b k cs us' ret' a' t') w' es) ∨
  (∃ fr l ch w' es, fr.mode = .panicking ch ∧ fr.defers = [] ∧ (P.funcs[fr.fn]?).isSome = true ∧ (∀ c ∈ l, c.defers = [] ∧ c.mode = .run ∧ (P.funcs[c.fn]?).isSome = true) ∧ stepG P true (gor b [] [frX P] us ret a t) w = .go (G fr (l ++ [frX P])) w' es) ∨
  (stepG P true (gor b [] [] us ret a t) w = .go (G { b.at a t with mode := .returning } []) w #[]) ∨
  (∃ o w' es, stepG P true (gor b [] [] us ret a t) w = .ended o w' es)
theorem gor_run (b : Frame) (k : List Item) (cs : List Frame) (us : List UF) (ret : Bool) (a : Act) (t : List Item) : (gor b k cs us ret a t).status = .running := by
  unfold gor
  cases us with
  | nil => rfl
  | cons u r => dsimp only; split <;> rfl
theorem gor_G (b : Frame) (k : List Item) (cs : List Frame) (us : List UF) (ret : Bool) (a : Act) (t : List Item) : ∃ fr l, gor b k cs us ret a t = G fr l := by
  unfold gor
  cases us with
  | nil => exact ⟨_, _, rfl⟩
  | cons u r => dsimp only; split <;> exact ⟨_, _, rfl⟩
theorem some_of (M : Mild P S) {f : FuncId} (hf : S f = true) : (P.funcs[f]?).isSome = true := by
  obtain ⟨fn, c, h1, _, _, _⟩ := M.bodies f hf
  rw [h1]; rfl
theorem enter_fr3 (M : Mild P S) {f : FuncId} (hf : S f = true) (args : Array Value) : ∃ u : UF, Frame.enter P f args .normal = fr3 u ∧ S u.1 = true ∧ u.2.1.defers = [] ∧ tameL S u.2.2 = true := by
  obtain ⟨fn, c, h1, h2, h3, h4⟩ := M.bodies f hf
  exact ⟨(f, _, [.code c]), enter_at args h1 h3, hf, rfl, by simp [tameL, tameI, h4]⟩
theorem step_state (M : Mild P S) {b : Frame} (hk : b.kind ≠ .early) (hb : (P.funcs[b.fn]?).isSome = true) {us : List UF} {ret : Bool} {a : Act} {t : List Item} {w : World} (h : OkS S us ret a t) (hn : ¬ (us = [] ∧ t = [])) : StepS P S b us ret a t w := by
  cases us with
  | nil =>
    cases t with
    | nil => exact (hn ⟨rfl, rfl⟩).elim
    | cons x r =>
      have hret : ret = false := by cases ret with
        | false => rfl
        | true => exact (h.rt rfl rfl).elim
      subst hret
      rcases step_frame M hk (a := a) (w := w) h.bt with ⟨a', t', w', es, h1, h2, h3, h4, h5⟩ | ⟨f, args, w', es, h1, h2, h3, h4, h5⟩ | ⟨ch, w', es, h5⟩ | h5 | h5
      · exact Or.inl ⟨[], false, a', t', w', es, ⟨h1, h4 h.bd, fun _ hu => (by cases hu), fun e => (e rfl).elim, fun _ hu => (by cases hu), fun e => (by cases e)⟩, h2, h3, h5⟩
      · obtain ⟨u, e1, e2, e3, e4⟩ := enter_fr3 M h1 args
        refine Or.inl ⟨[u], false, a, x :: r, w', es, ⟨h.bt, h.bd, fun v hv => ?_, fun _ => h4, fun _ hu => (by cases hu), fun e => (by cases e)⟩, h2, h3, fun k cs => ?_⟩
        · obtain rfl := List.mem_singleton.1 hv; exact ⟨e2, e3, e4⟩
        · show stepG P true (G (b.at a (x :: r ++ k)) cs) w = .go (G (fr3 u) (b.at a (x :: r ++ k) :: cs)) w' es
          rw [h5, e1]
      · exact Or.inr (Or.inl ⟨{ b.at a (x :: r ++ []) with mode := .panicking ch }, [], ch, w', es, rfl, h.bd, hb, fun _ hc => (by cases hc), h5 [] [frX P]⟩)
      · refine Or.inr (Or.inr (Or.inl ?_))
        have := h5 [] []
        rw [List.append_nil] at this
        show stepG P true (G (b.at a (x :: r ++ [])) []) w = _
        rw [List.append_nil]
        exact this
      · obtain ⟨o, w', es, h6⟩ := h5 []
        refine Or.inr (Or.inr (Or.inr ⟨o, w', es, ?_⟩))
        show stepG P true (G (b.at a (x :: r ++ [])) []) w = _
        rw [List.append_nil]
        exact h6
  | cons u r =>
    obtain ⟨f, a1, t1⟩ := u
    obtain ⟨u1, u2, u3⟩ := h.up _ (List.mem_cons_self ..)
    dsimp only at u1 u2 u3
    have hr : ∀ v ∈ r, S v.1 = true ∧ v.2.1.defers = [] ∧ tameL S v.2.2 = true := fun v hv => h.up v (List.mem_cons_of_mem _ hv)
    have hcb := h.cb (by simp)
    have hcu : ∀ v ∈ r, CallT v.2.2 := h.cu
    cases ret with
    | true =>
      rcases ret_step M u1 u2 t1 w with ⟨v, w2, es, g1, g2, g3⟩ | g
      · cases r with
        | nil =>
          obtain ⟨ops, i, rest, r', rfl⟩ := hcb
          refine Or.inl ⟨[], false, a.put ((ops[i]?).bind (·.dst)) v, .inRegion ops rest :: r', w2, es, ⟨?_, ?_, fun _ hu => (by cases hu), fun e => (e rfl).elim, fun _ hu => (by cases hu), fun e => (by cases e)⟩, g1, g2, fun k cs => ?_⟩
          · obtain ⟨q1, q2⟩ := tameL_cons.1 h.bt
            exact tameL_cons.2 ⟨q1, q2⟩
          · cases hh : (ops[i]?).bind (·.dst) <;> exact h.bd
          · show stepG P true (G { fr3 (f, a1, t1) with mode := .returning } (b.at a (.inRegion ops (i :: rest) :: r' ++ k) :: cs)) w = _
            rw [show ({ fr3 (f, a1, t1) with mode := .returning } : Frame) = { (base f).at a1 t1 with mode := .returning } from rfl, g3, List.cons_append, Frame.finish_at]
            rfl
        | cons v2 r2 =>
          obtain ⟨f2, a2, t2⟩ := v2
          obtain ⟨q1, q2, q3⟩ := hr _ (List.mem_cons_self ..)
          obtain ⟨ops, i, rest, r', ht2⟩ := hcu _ (List.mem_cons_self ..)
          dsimp only at q1 q2 q3 ht2
          subst ht2
          refine Or.inl ⟨(f2, a2.put ((ops[i]?).bind (·.dst)) v, .inRegion ops rest :: r') :: r2, false, a, t, w2, es, ⟨h.bt, h.bd, fun u hu => ?_, fun _ => hcb, fun u hu => hcu u (List.mem_cons_of_mem _ hu), fun e => (by cases e)⟩, g1, g2, fun k cs => ?_⟩
          · rcases List.mem_cons.1 hu with rfl | hu
            · refine ⟨q1, ?_, ?_⟩
              · dsimp only; cases hh : (ops[i]?).bind (·.dst) <;> exact q2
              · obtain ⟨z1, z2⟩ := tameL_cons.1 q3
                exact tameL_cons.2 ⟨z1, z2⟩
            · exact hr u (List.mem_cons_of_mem _ hu)
          · show stepG P true (G { (base f).at a1 t1 with mode := .returning } (fr3 (f2, a2, .inRegion ops (i :: rest) :: r') :: (r2.map fr3 ++ b.at a (t ++ k) :: cs))) w = _
            rw [g3]
            show GStep.go (G (((base f2).at a2 (.inRegion ops (i :: rest) :: r')).finish v) _) w2 es = _
            rw [Frame.finish_at]
            rfl
      · obtain ⟨o, w', es, g⟩ := g (r.map fr3 ++ b.at a (t ++ []) :: [])
        exact Or.inr (Or.inr (Or.inr ⟨o, w', es, g⟩))
    | false =>
      cases t1 with
      | nil =>
        refine Or.inl ⟨(f, a1, []) :: r, true, a, t, w, #[], ⟨h.bt, h.bd, h.up, fun _ => hcb, hcu, fun _ => by simp⟩, Nat.le_refl _, fun e he => by simp at he, fun k cs => ?_⟩
        exact stepG_end (b := base f)
      | cons x r1 =>
        rcases step_frame M (b := base f) (by simp [base]) (a := a1) (w := w) u3 with ⟨a', t', w', es, h1, h2, h3, h4, h5⟩ | ⟨g, args, w', es, h1, h2, h3, h4, h5⟩ | ⟨ch, w', es, h5⟩ | h5 | h5
        · refine Or.inl ⟨(f, a', t') :: r, false, a, t, w', es, ⟨h.bt, h.bd, fun u hu => ?_, fun _ => hcb, hcu, fun e => (by cases e)⟩, h2, h3, fun k cs => ?_⟩
          · rcases List.mem_cons.1 hu with rfl | hu
            · exact ⟨u1, h4 u2, h1⟩
            · exact hr u hu
          · have := h5 [] (r.map fr3 ++ b.at a (t ++ k) :: cs)
            rw [List.append_nil, List.append_nil] at this
            exact this
        · obtain ⟨u, e1, e2, e3, e4⟩ := enter_fr3 M h1 args
          refine Or.inl ⟨u :: (f, a1, x :: r1) :: r, false, a, t, w', es, ⟨h.bt, h.bd, fun v hv => ?_, fun _ => hcb, fun v hv => ?_, fun e => (by cases e)⟩, h2, h3, fun k cs => ?_⟩
          · rcases List.mem_cons.1 hv with rfl | hv
            · exact ⟨e2, e3, e4⟩
            · exact h.up v hv
          · rcases List.mem_cons.1 hv with rfl | hv
            · exact h4
            · exact hcu v hv
          · have := h5 [] (r.map fr3 ++ b.at a (t ++ k) :: cs)
            rw [List.append_nil, e1] at this
            exact this
        · refine Or.inr (Or.inl ⟨{ (base f).at a1 (x :: r1) with mode := .panicking ch }, r.map fr3 ++ [b.at a (t ++ [])], ch, w', es, rfl, u2, some_of M u1, fun c hc => ?_, ?_⟩)
          · rcases List.mem_append.1 hc with hc | hc
            · obtain ⟨v, hv, rfl⟩ := List.mem_map.1 hc
              obtain ⟨z1, z2, _⟩ := hr v hv
              exact ⟨z2, rfl, some_of M z1⟩
            · obtain rfl := List.mem_singleton.1 hc
              exact ⟨h.bd, rfl, hb⟩
          · have := h5 [] (r.map fr3 ++ b.at a (t ++ []) :: [frX P])
            rw [List.append_nil (x :: r1)] at this
            rw [List.append_assoc]
            exact this
        · refine Or.inl ⟨(f, a1, x :: r1) :: r, true, a, t, w, #[], ⟨h.bt, h.bd, h.up, fun _ => hcb, hcu, fun _ => by simp⟩, Nat.le_refl _, fun e he => by simp at he, fun k cs => ?_⟩
          have := h5 [] (r.map fr3 ++ b.at a (t ++ k) :: cs)
          rw [List.append_nil] at this
          exact this
        · obtain ⟨o, w', es, h6⟩ := h5 (r.map fr3 ++ b.at a (t ++ []) :: [])
          exact Or.inr (Or.inr (Or.inr ⟨o, w', es, h6⟩))
end
end Go.Proofs.YtpajdmhgonmgoaaDoor

namespace Go.Proofs.YtpajdmhgonmgoaaDoor
open Go.RowKit
set_option linter.unusedVariables false
open Go.Conc
set_option linter.unusedSimpArgs false
structure OkZ (P : Program) (S : FuncId → Bool) (us : List UF) (ret : Bool) (a : Act) (t : List Item) : Prop where
  bt : zL P S t = true
  bd : a.defers = []
  up : ∀ u ∈ us, S u.1 = true ∧ u.2.1.defers = [] ∧ zL P S u.2.2 = true
  cb : us ≠ [] → CallT t
  cu : ∀ u ∈ us.tail, CallT u.2.2
  rt : ret = true → us ≠ []
section
variable {P : Program} {S : FuncId → Bool}
theorem retZ_step (M : MildZ P S) {f : FuncId} (hf : S f = true) {a1 : Act} (hd : a1.defers = []) (t1 : List Item) (v : World) :
    (∃ x v2 es, (∀ c rest, stepG P true (G { (base f).at a1 t1 with mode := .returning } (c :: rest)) v = .go (G (c.finish x) rest) v2 es) ∧
      ∀ (X Xo : Nat → Prop) (w : World), Poi X v w → Chs Xo w → Agr v w v2.drawn → ∃ w2 es, (∀ c rest, stepG P true (G { (base f).at a1 t1 with mode := .returning } (c :: rest)) w = .go (G (c.finish x) rest) w2 es) ∧ Mv X Xo v w v2 w2 ∧ ∀ e ∈ es, EvS X Xo w2.heap.size e) ∨
    (∀ cs, ∃ o w' es, stepG P true (G { (base f).at a1 t1 with mode := .returning } cs) v = .ended o w' es) := by
  obtain ⟨fn, c, h1, _, _, _⟩ := M.bodies f hf
  have hz := z_results (P := P) fn a1.tmps
  obtain ⟨v2, _, hend, _⟩ := tame_ends (results fn a1.tmps) v #[] hz.tame
  have run1 : (results fn a1.tmps).run P v = ((results fn a1.tmps).runT P v #[]).1 := (Sem.runT_fst _ _ _ _).symm
  rcases hend with ⟨x, hr, _⟩ | ⟨x, hr, hx⟩
  · rw [← run1] at hr
    refine Or.inl ⟨x, v2, seen P f ((results fn a1.tmps).events P v #[]), fun c rest => ?_, fun X Xo w hp hc hg => ?_⟩
    · simp [G, stepG, unwind, doReturn, Frame.at, base, hd, h1, hr, GStep.after]
    · obtain ⟨w2, es', q1, _, q3, q4⟩ := run_poi (results fn a1.tmps) hz v w #[] hp hc x v2 hr hg
      have hrw : (results fn a1.tmps).run P w = .ok x w2 := by rw [← Sem.runT_fst P _ w #[], q1]
      refine ⟨w2, seen P f ((results fn a1.tmps).events P w #[]), fun c rest => ?_, q3, fun e he => ?_⟩
      · simp [G, stepG, unwind, doReturn, Frame.at, base, hd, h1, hrw, GStep.after]
      · have he' := mem_seen he
        have e2 : (results fn a1.tmps).events P w #[] = es' := by
          show ((results fn a1.tmps).runT P w #[]).2 = es'
          rw [q1]
        rw [e2] at he'
        rcases q4 e he' with h | h
        · simp at h
        · exact h
  · rw [← run1] at hr
    refine Or.inr fun cs => ?_
    rcases hx with ⟨y, rfl⟩ | ⟨s, rfl⟩ | ⟨u, rfl⟩ <;> simp [G, stepG, unwind, Frame.at, base, hd, h1, hr, GStep.after]
/-- What one step of such frames comes to. -/
def StepSZ (P : Program) (S : FuncId → Bool) (b : Frame) (us : List UF) (ret : Bool) (a : Act) (t : List Item) (v : World) : Prop :=
  (∃ us' ret' a' t' v' es, OkZ P S us' ret' a' t' ∧ (∀ k cs, stepG P true (gor b k cs us ret a t) v = .go (gor b k cs us' ret' a' t') v' es) ∧ RelA P (fun k cs => gor b k cs us ret a t) (fun k cs => gor b k cs us' ret' a' t') v v') ∨
  (∃ fr l ch w' es, fr.mode = .panicking ch ∧ fr.defers = [] ∧ (P.funcs[fr.fn]?).isSome = true ∧ (∀ c ∈ l, c.defers = [] ∧ c.mode = .run ∧ (P.funcs[c.fn]?).isSome = true) ∧ stepG P true (gor b [] [frX P] us ret a t) v = .go (G fr (l ++ [frX P])) w' es) ∨
  (us = [] ∧ ∀ w k cs, stepG P true (gor b k cs us ret a t) w = .go (G { b.at a (t ++ k) with mode := .returning } cs) w #[]) ∨
  (∃ o w' es, stepG P true (gor b [] [] us ret a t) v = .ended o w' es)
theorem some_ofZ (M : MildZ P S) {f : FuncId} (hf : S f = true) : (P.funcs[f]?).isSome = true := by
  obtain ⟨fn, c, h1, _, _, _⟩ := M.bodies f hf
  rw [h1]; rfl
theorem enter_fr3Z (M : MildZ P S) {f : FuncId} (hf : S f = true) (args : Array Value) : ∃ u : UF, Frame.enter P f args .normal = fr3 u ∧ S u.1 = true ∧ u.2.1.defers = [] ∧ zL P S u.2.2 = true := by
  obtain ⟨fn, c, h1, h2, h3, h4⟩ := M.bodies f hf
  exact ⟨(f, _, [.code c]), enter_at args h1 h3, hf, rfl, by simp [zL, zI, h4]⟩
theorem stepZ_state (M : MildZ P S) {b : Frame} (hk : b.kind ≠ .early) (hb : (P.funcs[b.fn]?).isSome = true) {us : List UF} {ret : Bool} {a : Act} {t : List Item} {v : World} (h : OkZ P S us ret a t) (hn : ¬ (us = [] ∧ t = [])) : StepSZ P S b us ret a t v := by
  cases us with
  | nil =>
    cases t with
    | nil => exact (hn ⟨rfl, rfl⟩).elim
    | cons x r =>
      have hret : ret = false := by cases ret with
        | false => rfl
        | true => exact (h.rt rfl rfl).elim
      subst hret
      rcases stepZ_frame M hk (a := a) (v := v) h.bt with ⟨a', t', w', es, h1, h4, h5, h6⟩ | ⟨f, args, w', es, h1, h4, h5, h6⟩ | ⟨ch, w', es, h5⟩ | h5 | h5
      · exact Or.inl ⟨[], false, a', t', w', es, ⟨h1, h4 h.bd, fun _ hu => (by cases hu), fun e => (e rfl).elim, fun _ hu => (by cases hu), fun e => (by cases e)⟩, h5, h6⟩
      · obtain ⟨u, e1, e2, e3, e4⟩ := enter_fr3Z M h1 args
        refine Or.inl ⟨[u], false, a, x :: r, w', es, ⟨h.bt, h.bd, fun v hv => ?_, fun _ => h4, fun _ hu => (by cases hu), fun e => (by cases e)⟩, fun k cs => ?_, fun X Xo w hp hc hg => ?_⟩
        · obtain rfl := List.mem_singleton.1 hv; exact ⟨e2, e3, e4⟩
        · show stepG P true (G (b.at a (x :: r ++ k)) cs) v = .go (G (fr3 u) (b.at a (x :: r ++ k) :: cs)) w' es
          rw [h5, e1]
        · obtain ⟨w2, es2, q1, q2, q3⟩ := h6 X Xo w hp hc hg
          refine ⟨w2, es2, fun k cs => ?_, q2, q3⟩
          show stepG P true (G (b.at a (x :: r ++ k)) cs) w = .go (G (fr3 u) (b.at a (x :: r ++ k) :: cs)) w2 es2
          rw [← e1]; exact q1 k cs
      · exact Or.inr (Or.inl ⟨{ b.at a (x :: r ++ []) with mode := .panicking ch }, [], ch, w', es, rfl, h.bd, hb, fun _ hc => (by cases hc), h5 [] [frX P]⟩)
      · exact Or.inr (Or.inr (Or.inl ⟨rfl, fun w k cs => h5 w k cs⟩))
      · obtain ⟨o, w', es, h6⟩ := h5 []
        refine Or.inr (Or.inr (Or.inr ⟨o, w', es, ?_⟩))
        show stepG P true (G (b.at a (x :: r ++ [])) []) v = _
        rw [List.append_nil]
        exact h6
  | cons u r =>
    obtain ⟨f, a1, t1⟩ := u
    obtain ⟨u1, u2, u3⟩ := h.up _ (List.mem_cons_self ..)
    dsimp only at u1 u2 u3
    have hr : ∀ v ∈ r, S v.1 = true ∧ v.2.1.defers = [] ∧ zL P S v.2.2 = true := fun v hv => h.up v (List.mem_cons_of_mem _ hv)
    have hcb := h.cb (by simp)
    have hcu : ∀ v ∈ r, CallT v.2.2 := h.cu
    cases ret with
    | true =>
      rcases retZ_step M u1 u2 t1 v with ⟨x, w2, es, g3, g4⟩ | g
      · cases r with
        | nil =>
          obtain ⟨ops, i, rest, r', rfl⟩ := hcb
          have hst : ∀ (y : World) (y2 : World) (es : Array Event), (∀ c rest, stepG P true (G { (base f).at a1 t1 with mode := .returning } (c :: rest)) y = .go (G (c.finish x) rest) y2 es) → ∀ k cs, stepG P true (gor b k cs [(f, a1, t1)] true a (.inRegion ops (i :: rest) :: r')) y = .go (gor b k cs [] false (a.put ((ops[i]?).bind (·.dst)) x) (.inRegion ops rest :: r')) y2 es := fun y y2 es g3 k cs => by
            show stepG P true (G { fr3 (f, a1, t1) with mode := .returning } (b.at a (.inRegion ops (i :: rest) :: r' ++ k) :: cs)) y = _
            rw [show ({ fr3 (f, a1, t1) with mode := .returning } : Frame) = { (base f).at a1 t1 with mode := .returning } from rfl, g3, List.cons_append, Frame.finish_at]
            rfl
          refine Or.inl ⟨[], false, a.put ((ops[i]?).bind (·.dst)) x, .inRegion ops rest :: r', w2, es, ⟨?_, ?_, fun _ hu => (by cases hu), fun e => (e rfl).elim, fun _ hu => (by cases hu), fun e => (by cases e)⟩, hst _ _ _ g3, fun X Xo w hp hc hg => ?_⟩
          · obtain ⟨q1, q2⟩ := zL_cons.1 h.bt
            exact zL_cons.2 ⟨q1, q2⟩
          · cases hh : (ops[i]?).bind (·.dst) <;> exact h.bd
          · obtain ⟨w3, es3, q1, q2, q3⟩ := g4 X Xo w hp hc hg
            exact ⟨w3, es3, hst _ _ _ q1, q2, q3⟩
        | cons v2 r2 =>
          obtain ⟨f2, a2, t2⟩ := v2
          obtain ⟨q1, q2, q3⟩ := hr _ (List.mem_cons_self ..)
          obtain ⟨ops, i, rest, r', ht2⟩ := hcu _ (List.mem_cons_self ..)
          dsimp only at q1 q2 q3 ht2
          subst ht2
          have hst : ∀ (y : World) (y2 : World) (es : Array Event), (∀ c rest, stepG P true (G { (base f).at a1 t1 with mode := .returning } (c :: rest)) y = .go (G (c.finish x) rest) y2 es) → ∀ k cs, stepG P true (gor b k cs ((f, a1, t1) :: (f2, a2, .inRegion ops (i :: rest) :: r') :: r2) true a t) y = .go (gor b k cs ((f2, a2.put ((ops[i]?).bind (·.dst)) x, .inRegion ops rest :: r') :: r2) false a t) y2 es := fun y y2 es g3 k cs => by
            show stepG P true (G { (base f).at a1 t1 with mode := .returning } (fr3 (f2, a2, .inRegion ops (i :: rest) :: r') :: (r2.map fr3 ++ b.at a (t ++ k) :: cs))) y = _
            rw [g3]
            show GStep.go (G (((base f2).at a2 (.inRegion ops (i :: rest) :: r')).finish x) _) y2 es = _
            rw [Frame.finish_at]
            rfl
          refine Or.inl ⟨(f2, a2.put ((ops[i]?).bind (·.dst)) x, .inRegion ops rest :: r') :: r2, false, a, t, w2, es, ⟨h.bt, h.bd, fun u hu => ?_, fun _ => hcb, fun u hu => hcu u (List.mem_cons_of_mem _ hu), fun e => (by cases e)⟩, hst _ _ _ g3, fun X Xo w hp hc hg => ?_⟩
          · rcases List.mem_cons.1 hu with rfl | hu
            · refine ⟨q1, ?_, ?_⟩
              · dsimp only; cases hh : (ops[i]?).bind (·.dst) <;> exact q2
              · obtain ⟨z1, z2⟩ := zL_cons.1 q3
                exact zL_cons.2 ⟨z1, z2⟩
            · exact hr u (List.mem_cons_of_mem _ hu)
          · obtain ⟨w3, es3, q1, q2, q3⟩ := g4 X Xo w hp hc hg
            exact ⟨w3, es3, hst _ _ _ q1, q2, q3⟩
      · obtain ⟨o, w', es, g⟩ := g (r.map fr3 ++ b.at a (t ++ []) :: [])
        exact Or.inr (Or.inr (Or.inr ⟨o, w', es, g⟩))
    | false =>
      cases t1 with
      | nil => exact Or.inl ⟨(f, a1, []) :: r, true, a, t, v, #[], ⟨h.bt, h.bd, h.up, fun _ => hcb, hcu, fun _ => by simp⟩, fun k cs => stepG_end (b := base f), relA_ctl fun w k cs => stepG_end (b := base f)⟩
      | cons x r1 =>
        have mv : ∀ (t' : List Item) (a' : Act) (y y2 : World) (es : Array Event), (∀ k cs, stepG P true (G ((base f).at a1 (x :: r1 ++ k)) cs) y = .go (G ((base f).at a' (t' ++ k)) cs) y2 es) → ∀ k cs, stepG P true (gor b k cs ((f, a1, x :: r1) :: r) false a t) y = .go (gor b k cs ((f, a', t') :: r) false a t) y2 es := fun t' a' y y2 es h5 k cs => by
          have := h5 [] (r.map fr3 ++ b.at a (t ++ k) :: cs)
          rw [List.append_nil, List.append_nil] at this
          exact this
        rcases stepZ_frame M (b := base f) (by simp [base]) (a := a1) (v := v) u3 with ⟨a', t', w', es, h1, h4, h5, h6⟩ | ⟨g, args, w', es, h1, h4, h5, h6⟩ | ⟨ch, w', es, h5⟩ | h5 | h5
        · refine Or.inl ⟨(f, a', t') :: r, false, a, t, w', es, ⟨h.bt, h.bd, fun u hu => ?_, fun _ => hcb, hcu, fun e => (by cases e)⟩, mv _ _ _ _ _ h5, fun X Xo w hp hc hg => ?_⟩
          · rcases List.mem_cons.1 hu with rfl | hu
            · exact ⟨u1, h4 u2, h1⟩
            · exact hr u hu
          · obtain ⟨w3, es3, q1, q2, q3⟩ := h6 X Xo w hp hc hg
            exact ⟨w3, es3, mv _ _ _ _ _ q1, q2, q3⟩
        · obtain ⟨u, e1, e2, e3, e4⟩ := enter_fr3Z M h1 args
          have en : ∀ (y y2 : World) (es : Array Event), (∀ k cs, stepG P true (G ((base f).at a1 (x :: r1 ++ k)) cs) y = .go (G (Frame.enter P g args .normal) ((base f).at a1 (x :: r1 ++ k) :: cs)) y2 es) → ∀ k cs, stepG P true (gor b k cs ((f, a1, x :: r1) :: r) false a t) y = .go (gor b k cs (u :: (f, a1, x :: r1) :: r) false a t) y2 es := fun y y2 es h5 k cs => by
            have := h5 [] (r.map fr3 ++ b.at a (t ++ k) :: cs)
            rw [List.append_nil, e1] at this
            exact this
          refine Or.inl ⟨u :: (f, a1, x :: r1) :: r, false, a, t, w', es, ⟨h.bt, h.bd, fun v hv => ?_, fun _ => hcb, fun v hv => ?_, fun e => (by cases e)⟩, en _ _ _ h5, fun X Xo w hp hc hg => ?_⟩
          · rcases List.mem_cons.1 hv with rfl | hv
            · exact ⟨e2, e3, e4⟩
            · rcases List.mem_cons.1 hv with rfl | hv
              · exact ⟨u1, u2, u3⟩
              · exact hr v hv
          · rcases List.mem_cons.1 hv with rfl | hv
            · exact h4
            · exact hcu v hv
          · obtain ⟨w3, es3, q1, q2, q3⟩ := h6 X Xo w hp hc hg
            exact ⟨w3, es3, en _ _ _ q1, q2, q3⟩
        · refine Or.inr (Or.inl ⟨{ (base f).at a1 (x :: r1) with mode := .panicking ch }, r.map fr3 ++ [b.at a (t ++ [])], ch, w', es, rfl, u2, some_ofZ M u1, fun c hc => ?_, ?_⟩)
          · rcases List.mem_append.1 hc with hc | hc
            · obtain ⟨v, hv, rfl⟩ := List.mem_map.1 hc
              obtain ⟨z1, z2, _⟩ := hr v hv
              exact ⟨z2, rfl, some_ofZ M z1⟩
            · obtain rfl := List.mem_singleton.1 hc
              exact ⟨h.bd, rfl, hb⟩
          · have := h5 [] (r.map fr3 ++ b.at a (t ++ []) :: [frX P])
            rw [List.append_nil (x :: r1)] at this
            rw [List.append_assoc]
            exact this
        · have rt : ∀ (w : World) k cs, stepG P true (gor b k cs ((f, a1, x :: r1) :: r) false a t) w = .go (gor b k cs ((f, a1, x :: r1) :: r) true a t) w #[] := fun w k cs => by
            have := h5 w [] (r.map fr3 ++ b.at a (t ++ k) :: cs)
            rw [List.append_nil] at this
            exact this
          exact Or.inl ⟨(f, a1, x :: r1) :: r, true, a, t, v, #[], ⟨h.bt, h.bd, h.up, fun _ => hcb, hcu, fun _ => by simp⟩, rt v, relA_ctl rt⟩
        · obtain ⟨o, w', es, h6⟩ := h5 (r.map fr3 ++ b.at a (t ++ []) :: [])
          exact Or.inr (Or.inr (Or.inr ⟨o, w', es, h6⟩))
end
end Go.Proofs.YtpajdmhgonmgoaaDoor

