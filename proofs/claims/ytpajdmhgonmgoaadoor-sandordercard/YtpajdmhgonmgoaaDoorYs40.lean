/-
  What the last text of this claim leans on, part 40: La7, La8, Kf1, Kf2.
-/
import Derived.Test.YtpajdmhgonmgoaaDoorYs39
import Derived.Test.YtpajdmhgonmgoaaDoorYs22
import Derived.Test.YtpajdmhgonmgoaaDoorProg
namespace Go.Proofs.YtpajdmhgonmgoaaDoor
open Go.RowKit
set_option linter.unusedVariables false
open Go.Conc
set_option linter.unusedSimpArgs false
section
variable {P : Program} {S : FuncId → Bool}
theorem ret_step (M : Mild P S) {f : FuncId} (hf : S f = true) {a1 : Act} (hd : a1.defers = []) (t1 : List Item) (w : World) :
    (∃ v w2 es, w.heap.size ≤ w2.heap.size ∧ (∀ e ∈ es, EvG w2.heap.size e) ∧ ∀ c rest, stepG P true (G { (base f).at a1 t1 with mode := .returning } (c :: rest)) w = .go (G (c.finish v) rest) w2 es) ∨
    (∀ cs, ∃ o w' es, stepG P true (G { (base f).at a1 t1 with mode := .returning } cs) w = .ended o w' es) := by
  obtain ⟨fn, c, h1, _, _, _⟩ := M.bodies f hf
  obtain ⟨w2, hsz, hend, hev⟩ := tame_ends (results fn a1.tmps) w #[] (tame_results fn a1.tmps)
  have run1 : (results fn a1.tmps).run P w = ((results fn a1.tmps).runT P w #[]).1 := (Sem.runT_fst _ _ _ _).symm
  rcases hend with ⟨v, hr, _⟩ | ⟨x, hr, hx⟩
  · rw [← run1] at hr
    refine Or.inl ⟨v, w2, seen P f ((results fn a1.tmps).events P w #[]), hsz, fun e he => ?_, fun c rest => ?_⟩
    · rcases hev e (mem_seen he) with h | h
      · simp at h
      · exact h
    · simp [G, stepG, unwind, doReturn, Frame.at, base, hd, h1, hr, GStep.after]
  · rw [← run1] at hr
    refine Or.inr fun cs => ?_
    rcases hx with ⟨v, rfl⟩ | ⟨s, rfl⟩ | ⟨u, rfl⟩ <;> simp [G, stepG, unwind, Frame.at, base, hd, h1, hr, GStep.after]
/-- What one step of tame frames comes to. -/
def StepS (P : Program) (S : FuncId → Bool) (b : Frame) (us : List UF) (ret : Bool) (a : Act) (t : List Item) (w : World) : Prop :=
  (∃ us' ret' a' t' w' es, OkS S us' ret' a' t' ∧ w.heap.size ≤ w'.heap.size ∧ (∀ e ∈ es, EvG w'.heap.size e) ∧ ∀ k cs, stepG P true (gor b k cs us ret a t) w = .go (gor b k cs us' ret' a' t') w' es) ∨
  (∃ fr l ch w' es, fr.mode = .panicking ch ∧ fr.defers = [] ∧ (P.funcs[fr.fn]?).isSome = true ∧ (∀ c ∈ l, c.defers = [] ∧ c.mode = .run ∧ (P.funcs[c.fn]?).isSome = true) ∧ stepG P true (gor b [] [frX P] us ret a t) w = .go (G fr (l ++ [frX P])) w' es) ∨
  (stepG P true (gor b [] [] us ret a t) w = .go (G { b.at a t with mode := .returning } []) w #[]) ∨
  (∃ o w' es, stepG P true (gor b [] [] us ret a t) w = .ended o w' es)
theorem gor_run (b : Frame) (k : List Item) (cs : List Frame) (us : List UF) (ret : Bool) (a : Act) (t : List Item) : (gor b k cs us ret a t).status = .running := by
  unfold gor
  cases us with
  | nil => rfl
  | cons u r => dsimp only; split <;> rfl
theorem gor_G (b : Frame) (k : List Item) (cs : List Frame) (us : List UF) (ret : Bool) (a : Act) (t : List Item) : ∃ fr l, gor b k cs us ret a t = G fr l := by
  unfold gor
  cases us with
  | nil => exact ⟨_, _, rfl⟩
  | cons u r => dsimp only; split <;> exact ⟨_, _, rfl⟩
theorem some_of (M : Mild P S) {f : FuncId} (hf : S f = true) : (P.funcs[f]?).isSome = true := by
  obtain ⟨fn, c, h1, _, _, _⟩ := M.bodies f hf
  rw [h1]; rfl
theorem enter_fr3 (M : Mild P S) {f : FuncId} (hf : S f = true) (args : Array Value) : ∃ u : UF, Frame.enter P f args .normal = fr3 u ∧ S u.1 = true ∧ u.2.1.defers = [] ∧ tameL S u.2.2 = true := by
  obtain ⟨fn, c, h1, h2, h3, h4⟩ := M.bodies f hf
  exact ⟨(f, _, [.code c]), enter_at args h1 h3, hf, rfl, by simp [tameL, tameI, h4]⟩
theorem step_state (M : Mild P S) {b : Frame} (hk : b.kind ≠ .early) (hb : (P.funcs[b.fn]?).isSome = true) {us : List UF} {ret : Bool} {a : Act} {t : List Item} {w : World} (h : OkS S us ret a t) (hn : ¬ (us = [] ∧ t = [])) : StepS P S b us ret a t w := by
  cases us with
  | nil =>
    cases t with
    | nil => exact (hn ⟨rfl, rfl⟩).elim
    | cons x r =>
      have hret : ret = false := by cases ret with
        | false => rfl
        | true => exact (h.rt rfl rfl).elim
      subst hret
      rcases step_frame M hk (a := a) (w := w) h.bt with ⟨a', t', w', es, h1, h2, h3, h4, h5⟩ | ⟨f, args, w', es, h1, h2, h3, h4, h5⟩ | ⟨ch, w', es, h5⟩ | h5 | h5
      · exact Or.inl ⟨[], false, a', t', w', es, ⟨h1, h4 h.bd, fun _ hu => (by cases hu), fun e => (e rfl).elim, fun _ hu => (by cases hu), fun e => (by cases e)⟩, h2, h3, h5⟩
      · obtain ⟨u, e1, e2, e3, e4⟩ := enter_fr3 M h1 args
        refine Or.inl ⟨[u], false, a, x :: r, w', es, ⟨h.bt, h.bd, fun v hv => ?_, fun _ => h4, fun _ hu => (by cases hu), fun e => (by cases e)⟩, h2, h3, fun k cs => ?_⟩
        · obtain rfl := List.mem_singleton.1 hv; exact ⟨e2, e3, e4⟩
        · show stepG P true (G (b.at a (x :: r ++ k)) cs) w = .go (G (fr3 u) (b.at a (x :: r ++ k) :: cs)) w' es
          rw [h5, e1]
      · exact Or.inr (Or.inl ⟨{ b.at a (x :: r ++ []) with mode := .panicking ch }, [], ch, w', es, rfl, h.bd, hb, fun _ hc => (by cases hc), h5 [] [frX P]⟩)
      · refine Or.inr (Or.inr (Or.inl ?_))
        have := h5 [] []
        rw [List.append_nil] at this
        show stepG P true (G (b.at a (x :: r ++ [])) []) w = _
        rw [List.append_nil]
        exact this
      · obtain ⟨o, w', es, h6⟩ := h5 []
        refine Or.inr (Or.inr (Or.inr ⟨o, w', es, ?_⟩))
        show stepG P true (G (b.at a (x :: r ++ [])) []) w = _
        rw [List.append_nil]
        exact h6
  | cons u r =>
    obtain ⟨f, a1, t1⟩ := u
    obtain ⟨u1, u2, u3⟩ := h.up _ (List.mem_cons_self ..)
    dsimp only at u1 u2 u3
    have hr : ∀ v ∈ r, S v.1 = true ∧ v.2.1.defers = [] ∧ tameL S v.2.2 = true := fun v hv => h.up v (List.mem_cons_of_mem _ hv)
    have hcb := h.cb (by simp)
    have hcu : ∀ v ∈ r, CallT v.2.2 := h.cu
    cases ret with
    | true =>
      rcases ret_step M u1 u2 t1 w with ⟨v, w2, es, g1, g2, g3⟩ | g
      · cases r with
        | nil =>
          obtain ⟨ops, i, rest, r', rfl⟩ := hcb
          refine Or.inl ⟨[], false, a.put ((ops[i]?).bind (·.dst)) v, .inRegion ops rest :: r', w2, es, ⟨?_, ?_, fun _ hu => (by cases hu), fun e => (e rfl).elim, fun _ hu => (by cases hu), fun e => (by cases e)⟩, g1, g2, fun k cs => ?_⟩
          · obtain ⟨q1, q2⟩ := tameL_cons.1 h.bt
            exact tameL_cons.2 ⟨q1, q2⟩
          · cases hh : (ops[i]?).bind (·.dst) <;> exact h.bd
          · show stepG P true (G { fr3 (f, a1, t1) with mode := .returning } (b.at a (.inRegion ops (i :: rest) :: r' ++ k) :: cs)) w = _
            rw [show ({ fr3 (f, a1, t1) with mode := .returning } : Frame) = { (base f).at a1 t1 with mode := .returning } from rfl, g3, List.cons_append, Frame.finish_at]
            rfl
        | cons v2 r2 =>
          obtain ⟨f2, a2, t2⟩ := v2
          obtain ⟨q1, q2, q3⟩ := hr _ (List.mem_cons_self ..)
          obtain ⟨ops, i, rest, r', ht2⟩ := hcu _ (List.mem_cons_self ..)
          dsimp only at q1 q2 q3 ht2
          subst ht2
          refine Or.inl ⟨(f2, a2.put ((ops[i]?).bind (·.dst)) v, .inRegion ops rest :: r') :: r2, false, a, t, w2, es, ⟨h.bt, h.bd, fun u hu => ?_, fun _ => hcb, fun u hu => hcu u (List.mem_cons_of_mem _ hu), fun e => (by cases e)⟩, g1, g2, fun k cs => ?_⟩
          · rcases List.mem_cons.1 hu with rfl | hu
            · refine ⟨q1, ?_, ?_⟩
              · dsimp only; cases hh : (ops[i]?).bind (·.dst) <;> exact q2
              · obtain ⟨z1, z2⟩ := tameL_cons.1 q3
                exact tameL_cons.2 ⟨z1, z2⟩
            · exact hr u (List.mem_cons_of_mem _ hu)
          · show stepG P true (G { (base f).at a1 t1 with mode := .returning } (fr3 (f2, a2, .inRegion ops (i :: rest) :: r') :: (r2.map fr3 ++ b.at a (t ++ k) :: cs))) w = _
            rw [g3]
            show GStep.go (G (((base f2).at a2 (.inRegion ops (i :: rest) :: r')).finish v) _) w2 es = _
            rw [Frame.finish_at]
            rfl
      · obtain ⟨o, w', es, g⟩ := g (r.map fr3 ++ b.at a (t ++ []) :: [])
        exact Or.inr (Or.inr (Or.inr ⟨o, w', es, g⟩))
    | false =>
      cases t1 with
      | nil =>
        refine Or.inl ⟨(f, a1, []) :: r, true, a, t, w, #[], ⟨h.bt, h.bd, h.up, fun _ => hcb, hcu, fun _ => by simp⟩, Nat.le_refl _, fun e he => by simp at he, fun k cs => ?_⟩
        exact stepG_end (b := base f)
      | cons x r1 =>
        rcases step_frame M (b := base f) (by simp [base]) (a := a1) (w := w) u3 with ⟨a', t', w', es, h1, h2, h3, h4, h5⟩ | ⟨g, args, w', es, h1, h2, h3, h4, h5⟩ | ⟨ch, w', es, h5⟩ | h5 | h5
        · refine Or.inl ⟨(f, a', t') :: r, false, a, t, w', es, ⟨h.bt, h.bd, fun u hu => ?_, fun _ => hcb, hcu, fun e => (by cases e)⟩, h2, h3, fun k cs => ?_⟩
          · rcases List.mem_cons.1 hu with rfl | hu
            · exact ⟨u1, h4 u2, h1⟩
            · exact hr u hu
          · have := h5 [] (r.map fr3 ++ b.at a (t ++ k) :: cs)
            rw [List.append_nil, List.append_nil] at this
            exact this
        · obtain ⟨u, e1, e2, e3, e4⟩ := enter_fr3 M h1 args
          refine Or.inl ⟨u :: (f, a1, x :: r1) :: r, false, a, t, w', es, ⟨h.bt, h.bd, fun v hv => ?_, fun _ => hcb, fun v hv => ?_, fun e => (by cases e)⟩, h2, h3, fun k cs => ?_⟩
          · rcases List.mem_cons.1 hv with rfl | hv
            · exact ⟨e2, e3, e4⟩
            · exact h.up v hv
          · rcases List.mem_cons.1 hv with rfl | hv
            · exact h4
            · exact hcu v hv
          · have := h5 [] (r.map fr3 ++ b.at a (t ++ k) :: cs)
            rw [List.append_nil, e1] at this
            exact this
        · refine Or.inr (Or.inl ⟨{ (base f).at a1 (x :: r1) with mode := .panicking ch }, r.map fr3 ++ [b.at a (t ++ [])], ch, w', es, rfl, u2, some_of M u1, fun c hc => ?_, ?_⟩)
          · rcases List.mem_append.1 hc with hc | hc
            · obtain ⟨v, hv, rfl⟩ := List.mem_map.1 hc
              obtain ⟨z1, z2, _⟩ := hr v hv
              exact ⟨z2, rfl, some_of M z1⟩
            · obtain rfl := List.mem_singleton.1 hc
              exact ⟨h.bd, rfl, hb⟩
          · have := h5 [] (r.map fr3 ++ b.at a (t ++ []) :: [frX P])
            rw [List.append_nil (x :: r1)] at this
            rw [List.append_assoc]
            exact this
        · refine Or.inl ⟨(f, a1, x :: r1) :: r, true, a, t, w, #[], ⟨h.bt, h.bd, h.up, fun _ => hcb, hcu, fun _ => by simp⟩, Nat.le_refl _, fun e he => by simp at he, fun k cs => ?_⟩
          have := h5 [] (r.map fr3 ++ b.at a (t ++ k) :: cs)
          rw [List.append_nil] at this
          exact this
        · obtain ⟨o, w', es, h6⟩ := h5 (r.map fr3 ++ b.at a (t ++ []) :: [])
          exact Or.inr (Or.inr (Or.inr ⟨o, w', es, h6⟩))
end
end Go.Proofs.YtpajdmhgonmgoaaDoor

namespace Go.Proofs.YtpajdmhgonmgoaaDoor
open Go.RowKit
set_option linter.unusedVariables false
open Go.Conc
set_option linter.unusedSimpArgs false
section
variable {P : Program} {S : FuncId → Bool}
/-- A good trace of goroutine 0 alone. -/
def PastS (B : Nat) (t : Trace) : Prop := Past (fun _ => False) B t ∧ (∀ j, 0 < j → Deaf t j = 0) ∧ ∀ op ∈ t, op.g = 0
theorem PastS.mono {B B' : Nat} {t : Trace} (h : PastS B t) (hB : B ≤ B') : PastS B' t := ⟨h.1.mono hB, h.2⟩
theorem PastS.own {B : Nat} {t : Trace} (h : PastS B t) {fn : FuncId} {pos : String} {es : Array Event} (hes : ∀ e ∈ es, EvL (fun _ => False) B e) : PastS B (t ++ MemOp.ofEvents 0 fn pos es) :=
  ⟨h.1.own hes, fun j hj => by
    rw [Deaf_other t (g' := 0) (by omega) _ (fun op hop => by obtain ⟨e, _, rfl⟩ := Go.Conc.mem_ofEvents (show op ∈ MemOp.ofEvents 0 fn pos es from hop); rfl)]
    exact h.2.1 j hj, fun op hop => by
    rcases Array.mem_append.1 hop with q | q
    · exact h.2.2 op q
    · obtain ⟨e, _, rfl⟩ := Go.Conc.mem_ofEvents q
      rfl⟩
/-- Alone, from here on, to where the rest begins; the trace stays good. -/
def Arr (P : Program) (b : Frame) (k : List Item) (cs : List Frame) (Q : Act → World → Prop) (us : List UF) (ret : Bool) (a : Act) (t : List Item) (w : World) : Prop :=
  ∀ tr, PastS w.heap.size tr → ∃ N a' w' tr', Q a' w' ∧ w.heap.size ≤ w'.heap.size ∧ runNT P N (solo (gor b k cs us ret a t) w) tr = (.next (solo (G (b.at a' k) cs) w'), tr') ∧ PastS w'.heap.size tr'
theorem runNT_solo {g g' : Goroutine} {w w' : World} {es : Array Event} (hs : g.status = .running) (h : stepG P true g w = .go g' w' es) (N : Nat) (t : Trace) :
    runNT P (N + 1) (solo g w) t = runNT P N (solo g' w') (t ++ MemOp.ofEvents 0 g.frame.fn g.frame.place es) := by
  simp only [runNT, stepT_solo hs, runT_solo_go h]
theorem runN_solo {g g' : Goroutine} {w w' : World} {es : Array Event} (hs : g.status = .running) (h : stepG P true g w = .go g' w' es) (N : Nat) : runN P (N + 1) (solo g w) = runN P N (solo g' w') := by
  simp only [runN, step_solo_go hs h]
theorem solo_inj {g g' : Goroutine} {w w' : World} (h : solo g w = solo g' w') : g = g' ∧ w = w' := by
  have h1 := congrArg (fun m => m.gs[0]?) h
  have h2 := congrArg (fun m => m.world) h
  simp [solo] at h1 h2
  exact ⟨h1, h2⟩
theorem Arr.step {b : Frame} {k : List Item} {cs : List Frame} {Q : Act → World → Prop} {us us' : List UF} {ret ret' : Bool} {a a' : Act} {t t' : List Item} {w w' : World} {es : Array Event} (hst : stepG P true (gor b k cs us ret a t) w = .go (gor b k cs us' ret' a' t') w' es)
    (hsz : w.heap.size ≤ w'.heap.size) (hev : ∀ e ∈ es, EvG w'.heap.size e) (h : Arr P b k cs Q us' ret' a' t' w') : Arr P b k cs Q us ret a t w := by
  intro tr hp
  obtain ⟨N, a2, w2, tr2, h1, h2, h3, h4⟩ := h _ ((hp.mono hsz).own (fn := (gor b k cs us ret a t).frame.fn) (pos := (gor b k cs us ret a t).frame.place) (fun e he => (hev e he).evL))
  exact ⟨N + 1, a2, w2, tr2, h1, by omega, by rw [runNT_solo (gor_run ..) hst]; exact h3, h4⟩
theorem not_there {b : Frame} {cs : List Frame} {us : List UF} {ret : Bool} {a a1 : Act} {t : List Item} (hn : ¬ (us = [] ∧ t = [])) (hrt : ret = true → us ≠ []) : gor b [] cs us ret a t ≠ G (b.at a1 []) cs := by
  intro e
  unfold gor at e
  cases us with
  | nil =>
    have := congrArg (fun g => g.frame.todo) e
    simp [G, Frame.at] at this
    exact hn ⟨rfl, this⟩
  | cons u r =>
    dsimp only at e
    have := congrArg (fun g => g.callers.length) e
    split at this <;> simp [G] at this <;> omega
theorem core_run (M : Mild P S) {b : Frame} (hk : b.kind ≠ .early) (hb : (P.funcs[b.fn]?).isSome = true) (hi : P.inits.idxOf? b.fn = none) {Q : Act → World → Prop} :
    ∀ (n : Nat) (us : List UF) (ret : Bool) (a : Act) (t : List Item) (w : World), OkS S us ret a t →
      (∃ a1 w1, Q a1 w1 ∧ runN P n (solo (gor b [] [] us ret a t) w) = .next (solo (G (b.at a1 []) []) w1)) →
      (∃ n2 a2 w2, runN P n2 (solo (gor b [] [frX P] us ret a t) w) = .next (solo (G (b.at a2 []) [frX P]) w2)) → ∀ k cs, Arr P b k cs Q us ret a t w := by
  intro n
  induction n with
  | zero =>
    rintro us ret a t w ok ⟨a1, w1, q, r1⟩ _ k cs
    simp only [runN] at r1
    injection r1 with r1
    obtain ⟨e1, rfl⟩ := solo_inj r1
    by_cases hn : us = [] ∧ t = []
    · obtain ⟨rfl, rfl⟩ := hn
      intro tr hp
      have ea : a = a1 := by
        have h1 := congrArg (fun g => g.frame.tmps) e1
        have h2 := congrArg (fun g => g.frame.defers) e1
        simp [gor, G, Frame.at] at h1 h2
        cases a; cases a1
        simp at h1 h2
        rw [h1, h2]
      subst ea
      exact ⟨0, a, w, tr, q, Nat.le_refl _, rfl, hp⟩
    · exact (not_there hn ok.rt e1).elim
  | succ n ih =>
    rintro us ret a t w ok ⟨a1, w1, q, r1⟩ ⟨n2, a2, w2, r2⟩ k cs
    by_cases hn : us = [] ∧ t = []
    · obtain ⟨rfl, rfl⟩ := hn
      exfalso
      have st : stepG P true (gor b [] [] [] ret a []) w = .go (G { b.at a [] with mode := .returning } []) w #[] := stepG_end
      rw [runN_solo (gor_run ..) st] at r1
      exact dead_ret (fr := { b.at a [] with mode := .returning }) ok.bd rfl hi r1 rfl
    · rcases step_state M hk hb (w := w) ok hn with ⟨us', ret', a', t', w', es, g1, g2, g3, g4⟩ | ⟨fr, l, ch, w', es, g1, g2, g3, g4, g5⟩ | g | ⟨o, w', es, g⟩
      · refine Arr.step (g4 k cs) g2 g3 (ih us' ret' a' t' w' g1 ⟨a1, w1, q, ?_⟩ ?_ k cs)
        · rw [← runN_solo (gor_run ..) (g4 [] [])]; exact r1
        · cases n2 with
          | zero =>
            simp only [runN] at r2
            injection r2 with r2
            exact (not_there hn ok.rt (solo_inj r2).1).elim
          | succ n2 =>
            rw [runN_solo (gor_run ..) (g4 [] [frX P])] at r2
            exact ⟨n2, a2, w2, r2⟩
      · exfalso
        cases n2 with
        | zero =>
          simp only [runN] at r2
          injection r2 with r2
          exact not_there hn ok.rt (solo_inj r2).1
        | succ n2 =>
          rw [runN_solo (gor_run ..) g5] at r2
          exact dead_panic l fr ch g1 g2 g3 g4 n2 _ _ _ _ r2 rfl
      · exfalso
        rw [runN_solo (gor_run ..) g] at r1
        exact dead_ret (fr := { b.at a t with mode := .returning }) ok.bd rfl hi r1 rfl
      · exfalso
        obtain ⟨fr, l, e⟩ := gor_G b [] [] us ret a t
        obtain ⟨h0, _⟩ := runN_ended (step_ended e g) r1
        omega
/-- **FROM THE LONE WALK TO THE RUN WITH ITS TRACE.** -/
theorem arr_of_wp (M : Mild P S) {b : Frame} (hk : b.kind ≠ .early) (hb : (P.funcs[b.fn]?).isSome = true) (hi : P.inits.idxOf? b.fn = none) {c : Code} {Q : Exit → Act → World → Prop} {Q' : Act → World → Prop} {a : Act} {w : World}
    (hc : tameC S c = true) (hd : a.defers = []) (h : c.wp P Q a w) (hQ : ∀ e a' w', Q e a' w' → e = .normal ∧ Q' a' w') (k : List Item) (cs : List Frame) : Arr P b k cs Q' [] false a [.code c] w := by
  obtain ⟨e1, a1, w1, q1, r1⟩ := h b [] []
  obtain ⟨e2, a2, w2, q2, r2⟩ := h b [] [frX P]
  obtain ⟨rfl, q1'⟩ := hQ _ _ _ q1
  obtain ⟨rfl, q2'⟩ := hQ _ _ _ q2
  obtain ⟨n1, r1⟩ := r1
  obtain ⟨n2, r2⟩ := r2
  refine core_run M hk hb hi n1 [] false a [.code c] w ⟨by simp [tameL, tameI, hc], hd, fun _ hu => (by cases hu), fun e => (e rfl).elim, fun _ hu => (by cases hu), fun e => (by cases e)⟩ ⟨a1, w1, q1', r1⟩ ⟨n2, a2, w2, r2⟩ k cs
end
end Go.Proofs.YtpajdmhgonmgoaaDoor

namespace Go.Proofs.YtpajdmhgonmgoaaDoor
open Go.RowKit
set_option linter.unusedVariables false
open Go.Conc Go.ConcN Go.RowKit
set_option linter.unusedSimpArgs false
section
variable {P : Program} {S : FuncId → Bool}
/-- Alone, from here on, to where T holds of the machine; the trace stays good. -/
def Reach (P : Program) (g : Goroutine) (w : World) (T : Machine → Trace → Prop) : Prop := ∀ tr, PastS w.heap.size tr → ∃ N m' tr', runNT P N (solo g w) tr = (.next m', tr') ∧ T m' tr'
theorem Reach.step {g g' : Goroutine} {w w' : World} {es : Array Event} {T : Machine → Trace → Prop} (hs : g.status = .running) (h : stepG P true g w = .go g' w' es) (hsz : w.heap.size ≤ w'.heap.size) (hev : ∀ e ∈ es, EvG w'.heap.size e) (hr : Reach P g' w' T) : Reach P g w T := by
  intro tr hp
  obtain ⟨N, m', tr', h1, h2⟩ := hr _ ((hp.mono hsz).own (fn := g.frame.fn) (pos := g.frame.place) (fun e he => (hev e he).evL))
  exact ⟨N + 1, m', tr', by rw [runNT_solo hs h]; exact h1, h2⟩
theorem Reach.ctl {g g' : Goroutine} {w : World} {T : Machine → Trace → Prop} (hs : g.status = .running) (h : stepG P true g w = .go g' w #[]) (hr : Reach P g' w T) : Reach P g w T := Reach.step hs h (Nat.le_refl _) (fun e he => by simp at he) hr
theorem bes_solo {g : Goroutine} {w : World} {tr : Trace} (h : PastS w.heap.size tr) : Bes P (fun _ => False) w.heap.size g w (solo g w) tr :=
  ⟨#[g], none, fun _ => 0, rfl, rfl, ⟨fun i x hi hx => by
    have : i < 1 := by simpa using (Array.getElem?_eq_some_iff.1 hx).1
    omega, fun j hj => h.2.1 j (Nat.lt_of_lt_of_le (Nat.zero_lt_one) (show 1 ≤ j by simpa using hj))⟩, h.1⟩
/-- From here on it walks beside nobody. -/
theorem Reach.bes {g : Goroutine} {w : World} {T : Machine → Trace → Prop} (h : ∀ m t, Bes P (fun _ => False) w.heap.size g w m t → ∃ N m' t', runNT P N m t = (.next m', t') ∧ T m' t') : Reach P g w T := fun tr hp => h _ _ (bes_solo hp)
/-- One piece of code that comes to its end. -/
theorem reach_wp (M : Mild P S) {b : Frame} (hk : b.kind ≠ .early) (hb : (P.funcs[b.fn]?).isSome = true) (hi : P.inits.idxOf? b.fn = none) {c : Code} {a : Act} {w : World} {k : List Item} {cs : List Frame} {T : Machine → Trace → Prop}
    (hc : tameC S c = true) (hd : a.defers = []) (h : c.wp P (fun e a' w' => e = .normal ∧ Reach P (G (b.at a' k) cs) w' T) a w) : Reach P (G (b.at a (.code c :: k)) cs) w T := by
  have key := arr_of_wp M hk hb hi hc hd h (fun e a' w' q => q) k cs
  intro tr hp
  obtain ⟨N, a', w', tr', hq, hsz, hr, hp'⟩ := key tr hp
  obtain ⟨N2, m2, tr2, h1, h2⟩ := hq tr' hp'
  refine ⟨N + N2, m2, tr2, ?_, h2⟩
  have hr' : runNT P N (solo (G (b.at a (.code c :: k)) cs) w) tr = (.next (solo (G (b.at a' k) cs) w'), tr') := hr
  rw [runNT_then hr']
  exact h1
theorem reach_seq (M : Mild P S) {b : Frame} (hk : b.kind ≠ .early) (hb : (P.funcs[b.fn]?).isSome = true) (hi : P.inits.idxOf? b.fn = none) {c d : Code} {a : Act} {w : World} {k : List Item} {cs : List Frame} {T : Machine → Trace → Prop}
    (hc : tameC S c = true) (hd : a.defers = []) (h : c.wp P (fun e a' w' => e = .normal ∧ Reach P (G (b.at a' (.code d :: k)) cs) w' T) a w) : Reach P (G (b.at a (.code (.seq c d) :: k)) cs) w T :=
  Reach.ctl rfl stepG_seq (reach_wp M hk hb hi hc hd h)
end
end Go.Proofs.YtpajdmhgonmgoaaDoor

namespace Go.Proofs.YtpajdmhgonmgoaaDoor
open Go.RowKit
set_option linter.unusedVariables false
open Go.Conc Go.ConcN Go.RowKit
set_option linter.unusedSimpArgs false
def sandS (f : FuncId) : Bool := [6, 9, 14, 16, 17, 19, 20, 21, 27, 28, 29, 31, 32, 33, 34, 43, 48].contains f
theorem tm0 : ∃ fn c, Tryd.prog.funcs[6]? = some fn ∧ (fn.name == "runtime.NumGoroutine") = false ∧ fn.body = some c ∧ tameC sandS c = true :=
  ⟨_, _, Tryd.func6, by decide +kernel, rfl, by decide +kernel⟩
theorem tm1 : ∃ fn c, Tryd.prog.funcs[9]? = some fn ∧ (fn.name == "runtime.NumGoroutine") = false ∧ fn.body = some c ∧ tameC sandS c = true :=
  ⟨_, _, Tryd.func9, by decide +kernel, rfl, by decide +kernel⟩
theorem tm2 : ∃ fn c, Tryd.prog.funcs[14]? = some fn ∧ (fn.name == "runtime.NumGoroutine") = false ∧ fn.body = some c ∧ tameC sandS c = true :=
  ⟨_, _, Tryd.func14, by decide +kernel, rfl, by decide +kernel⟩
theorem tm3 : ∃ fn c, Tryd.prog.funcs[16]? = some fn ∧ (fn.name == "runtime.NumGoroutine") = false ∧ fn.body = some c ∧ tameC sandS c = true :=
  ⟨_, _, Tryd.func16, by decide +kernel, rfl, by decide +kernel⟩
theorem tm4 : ∃ fn c, Tryd.prog.funcs[17]? = some fn ∧ (fn.name == "runtime.NumGoroutine") = false ∧ fn.body = some c ∧ tameC sandS c = true :=
  ⟨_, _, Tryd.func17, by decide +kernel, rfl, by decide +kernel⟩
theorem tm5 : ∃ fn c, Tryd.prog.funcs[19]? = some fn ∧ (fn.name == "runtime.NumGoroutine") = false ∧ fn.body = some c ∧ tameC sandS c = true :=
  ⟨_, _, Tryd.func19, by decide +kernel, rfl, by decide +kernel⟩
theorem tm6 : ∃ fn c, Tryd.prog.funcs[20]? = some fn ∧ (fn.name == "runtime.NumGoroutine") = false ∧ fn.body = some c ∧ tameC sandS c = true :=
  ⟨_, _, Tryd.func20, by decide +kernel, rfl, by decide +kernel⟩
theorem tm7 : ∃ fn c, Tryd.prog.funcs[21]? = some fn ∧ (fn.name == "runtime.NumGoroutine") = false ∧ fn.body = some c ∧ tameC sandS c = true :=
  ⟨_, _, Tryd.func21, by decide +kernel, rfl, by decide +kernel⟩
theorem tm8 : ∃ fn c, Tryd.prog.funcs[27]? = some fn ∧ (fn.name == "runtime.NumGoroutine") = false ∧ fn.body = some c ∧ tameC sandS c = true :=
  ⟨_, _, Tryd.func27, by decide +kernel, rfl, by decide +kernel⟩
theorem tm9 : ∃ fn c, Tryd.prog.funcs[28]? = some fn ∧ (fn.name == "runtime.NumGoroutine") = false ∧ fn.body = some c ∧ tameC sandS c = true :=
  ⟨_, _, Tryd.func28, by decide +kernel, rfl, by decide +kernel⟩
theorem tm10 : ∃ fn c, Tryd.prog.funcs[29]? = some fn ∧ (fn.name == "runtime.NumGoroutine") = false ∧ fn.body = some c ∧ tameC sandS c = true :=
  ⟨_, _, Tryd.func29, by decide +kernel, rfl, by decide +kernel⟩
theorem tm11 : ∃ fn c, Tryd.prog.funcs[31]? = some fn ∧ (fn.name == "runtime.NumGoroutine") = false ∧ fn.body = some c ∧ tameC sandS c = true :=
  ⟨_, _, Tryd.func31, by decide +kernel, rfl, by decide +kernel⟩
theorem tm12 : ∃ fn c, Tryd.prog.funcs[32]? = some fn ∧ (fn.name == "runtime.NumGoroutine") = false ∧ fn.body = some c ∧ tameC sandS c = true :=
  ⟨_, _, Tryd.func32, by decide +kernel, rfl, by decide +kernel⟩
theorem tm13 : ∃ fn c, Tryd.prog.funcs[33]? = some fn ∧ (fn.name == "runtime.NumGoroutine") = false ∧ fn.body = some c ∧ tameC sandS c = true :=
  ⟨_, _, Tryd.func33, by decide +kernel, rfl, by decide +kernel⟩
theorem tm14 : ∃ fn c, Tryd.prog.funcs[34]? = some fn ∧ (fn.name == "runtime.NumGoroutine") = false ∧ fn.body = some c ∧ tameC sandS c = true :=
  ⟨_, _, Tryd.func34, by decide +kernel, rfl, by decide +kernel⟩
theorem tm15 : ∃ fn c, Tryd.prog.funcs[43]? = some fn ∧ (fn.name == "runtime.NumGoroutine") = false ∧ fn.body = some c ∧ tameC sandS c = true :=
  ⟨_, _, Tryd.func43, by decide +kernel, rfl, by decide +kernel⟩
theorem tm16 : ∃ fn c, Tryd.prog.funcs[48]? = some fn ∧ (fn.name == "runtime.NumGoroutine") = false ∧ fn.body = some c ∧ tameC sandS c = true :=
  ⟨_, _, Tryd.func48, by decide +kernel, rfl, by decide +kernel⟩
theorem no_readies : (Tryd.prog.funcs.toList.all fun f => (f.body.map readies).all (·.isEmpty)) = true := by decide +kernel
theorem no_step (g : Nat) : Tryd.prog.stepOf g = none := by
  unfold Program.stepOf
  rw [Array.findIdx?_eq_none_iff]
  intro x hx
  have := List.all_eq_true.1 no_readies x (by simpa using hx)
  cases h : x.body with
  | none => rfl
  | some c =>
    rw [h] at this
    simp only [Option.map_some, Option.all_some, List.isEmpty_iff] at this
    simp [this]
theorem sand_mild : Mild Tryd.prog sandS := by
  refine ⟨fun f hf => ?_, fun g => ?_, ?_⟩
  · unfold sandS at hf
    simp only [List.contains_cons, List.contains_nil, Bool.or_false, Bool.or_eq_true, beq_iff_eq] at hf
    rcases hf with rfl | rfl | rfl | rfl | rfl | rfl | rfl | rfl | rfl | rfl | rfl | rfl | rfl | rfl | rfl | rfl | rfl
    · exact tm0
    · exact tm1
    · exact tm2
    · exact tm3
    · exact tm4
    · exact tm5
    · exact tm6
    · exact tm7
    · exact tm8
    · exact tm9
    · exact tm10
    · exact tm11
    · exact tm12
    · exact tm13
    · exact tm14
    · exact tm15
    · exact tm16
  · exact no_step g
  · kernel_rfl
end Go.Proofs.YtpajdmhgonmgoaaDoor

