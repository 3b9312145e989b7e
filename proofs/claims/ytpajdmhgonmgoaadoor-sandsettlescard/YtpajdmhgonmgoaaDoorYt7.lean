/-
  What the last text of this claim leans on, part 7: La8, LbA, LbB, Sd1.
-/
import Derived.Test.YtpajdmhgonmgoaaDoorYt6
import Derived.RowKit
namespace Go.Proofs.YtpajdmhgonmgoaaDoor
open Go.RowKit
set_option linter.unusedVariables false
open Go.Conc
set_option linter.unusedSimpArgs false
section
variable {P : Program} {S : FuncId → Bool}
/-- A good trace of goroutine 0 alone. -/
def PastS (B : Nat) (t : Trace) : Prop := Past (fun _ => False) B t ∧ (∀ j, 0 < j → Deaf t j = 0) ∧ ∀ op ∈ t, op.g = 0
theorem PastS.mono {B B' : Nat} {t : Trace} (h : PastS B t) (hB : B ≤ B') : PastS B' t := ⟨h.1.mono hB, h.2⟩
theorem PastS.own {B : Nat} {t : Trace} (h : PastS B t) {fn : FuncId} {pos : String} {es : Array Event} (hes : ∀ e ∈ es, EvL (fun _ => False) B e) : PastS B (t ++ MemOp.ofEvents 0 fn pos es) :=
  ⟨h.1.own hes, fun j hj => by
    rw [Deaf_other t (g' := 0) (by omega) _ (fun op hop => by obtain ⟨e, _, rfl⟩ := Go.Conc.mem_ofEvents (show op ∈ MemOp.ofEvents 0 fn pos es from hop); rfl)]
    exact h.2.1 j hj, fun op hop => by
    rcases Array.mem_append.1 hop with q | q
    · exact h.2.2 op q
    · obtain ⟨e, _, rfl⟩ := Go.Conc.mem_ofEvents q
      rfl⟩
/-- Alone, from here on, to where the rest begins; the trace stays good. -/
def Arr (P : Program) (b : Frame) (k : List Item) (cs : List Frame) (Q : Act → World → Prop) (us : List UF) (ret : Bool) (a : Act) (t : List Item) (w : World) : Prop :=
  ∀ tr, PastS w.heap.size tr → ∃ N a' w' tr', Q a' w' ∧ w.heap.size ≤ w'.heap.size ∧ runNT P N (solo (gor b k cs us ret a t) w) tr = (.next (solo (G (b.at a' k) cs) w'), tr') ∧ PastS w'.heap.size tr'
theorem runNT_solo {g g' : Goroutine} {w w' : World} {es : Array Event} (hs : g.status = .running) (h : stepG P true g w = .go g' w' es) (N : Nat) (t : Trace) :
    runNT P (N + 1) (solo g w) t = runNT P N (solo g' w') (t ++ MemOp.ofEvents 0 g.frame.fn g.frame.place es) := by
  simp only [runNT, stepT_solo hs, runT_solo_go h]
theorem runN_solo {g g' : Goroutine} {w w' : World} {es : Array Event} (hs : g.status = .running) (h : stepG P true g w = .go g' w' es) (N : Nat) : runN P (N + 1) (solo g w) = runN P N (solo g' w') := by
  simp only [runN, step_solo_go hs h]
theorem solo_inj {g g' : Goroutine} {w w' : World} (h : solo g w = solo g' w') : g = g' ∧ w = w' := by
  have h1 := congrArg (fun m => m.gs[0]?) h
  have h2 := congrArg (fun m => m.world) h
  simp [solo] at h1 h2
  exact ⟨h1, h2⟩
theorem Arr.step {b : Frame} {k : List Item} {cs : List Frame} {Q : Act → World → Prop} {us us' : List UF} {ret ret' : Bool} {a a' : Act} {t t' : List Item} {w w' : World} {es : Array Event} (hst : stepG P true (gor b k cs us ret a t) w = .go (gor b k cs us' ret' a' t') w' es)
    (hsz : w.heap.size ≤ w'.heap.size) (hev : ∀ e ∈ es, EvG w'.heap.size e) (h : Arr P b k cs Q us' ret' a' t' w') : Arr P b k cs Q us ret a t w := by
  intro tr hp
  obtain ⟨N, a2, w2, tr2, h1, h2, h3, h4⟩ := h _ ((hp.mono hsz).own (fn := (gor b k cs us ret a t).frame.fn) (pos := (gor b k cs us ret a t).frame.place) (fun e he => (hev e he).evL))
  exact ⟨N + 1, a2, w2, tr2, h1, by omega, by rw [runNT_solo (gor_run ..) hst]; exact h3, h4⟩
theorem not_there {b : Frame} {cs : List Frame} {us : List UF} {ret : Bool} {a a1 : Act} {t : List Item} (hn : ¬ (us = [] ∧ t = [])) (hrt : ret = true → us ≠ []) : gor b [] cs us ret a t ≠ G (b.at a1 []) cs := by
  intro e
  unfold gor at e
  cases us with
  | nil =>
    have := congrArg (fun g => g.frame.todo) e
    simp [G, Frame.at] at this
    exact hn ⟨rfl, this⟩
  | cons u r =>
    dsimp only at e
    have := congrArg (fun g => g.callers.length) e
    split at this <;> simp [G] at this <;> omega
theorem core_run (M : Mild P S) {b : Frame} (hk : b.kind ≠ .early) (hb : (P.funcs[b.fn]?).isSome = true) (hi : P.inits.idxOf? b.fn = none) {Q : Act → World → Prop} :
    ∀ (n : Nat) (us : List UF) (ret : Bool) (a : Act) (t : List Item) (w : World), OkS S us ret a t →
      (∃ a1 w1, Q a1 w1 ∧ runN P n (solo (gor b [] [] us ret a t) w) = .next (solo (G (b.at a1 []) []) w1)) →
      (∃ n2 a2 w2, runN P n2 (solo (gor b [] [frX P] us ret a t) w) = .next (solo (G (b.at a2 []) [frX P]) w2)) → ∀ k cs, Arr P b k cs Q us ret a t w := by
  intro n
  induction n with
  | zero =>
    rintro us ret a t w ok ⟨a1, w1, q, r1⟩ _ k cs
    simp only [runN] at r1
    injection r1 with r1
    obtain ⟨e1, rfl⟩ := solo_inj r1
    by_cases hn : us = [] ∧ t = []
    · obtain ⟨rfl, rfl⟩ := hn
      intro tr hp
      have ea : a = a1 := by
        have h1 := congrArg (fun g => g.frame.tmps) e1
        have h2 := congrArg (fun g => g.frame.defers) e1
        simp [gor, G, Frame.at] at h1 h2
        cases a; cases a1
        simp at h1 h2
        rw [h1, h2]
      subst ea
      exact ⟨0, a, w, tr, q, Nat.le_refl _, rfl, hp⟩
    · exact (not_there hn ok.rt e1).elim
  | succ n ih =>
    rintro us ret a t w ok ⟨a1, w1, q, r1⟩ ⟨n2, a2, w2, r2⟩ k cs
    by_cases hn : us = [] ∧ t = []
    · obtain ⟨rfl, rfl⟩ := hn
      exfalso
      have st : stepG P true (gor b [] [] [] ret a []) w = .go (G { b.at a [] with mode := .returning } []) w #[] := stepG_end
      rw [runN_solo (gor_run ..) st] at r1
      exact dead_ret (fr := { b.at a [] with mode := .returning }) ok.bd rfl hi r1 rfl
    · rcases step_state M hk hb (w := w) ok hn with ⟨us', ret', a', t', w', es, g1, g2, g3, g4⟩ | ⟨fr, l, ch, w', es, g1, g2, g3, g4, g5⟩ | g | ⟨o, w', es, g⟩
      · refine Arr.step (g4 k cs) g2 g3 (ih us' ret' a' t' w' g1 ⟨a1, w1, q, ?_⟩ ?_ k cs)
        · rw [← runN_solo (gor_run ..) (g4 [] [])]; exact r1
        · cases n2 with
          | zero =>
            simp only [runN] at r2
            injection r2 with r2
            exact (not_there hn ok.rt (solo_inj r2).1).elim
          | succ n2 =>
            rw [runN_solo (gor_run ..) (g4 [] [frX P])] at r2
            exact ⟨n2, a2, w2, r2⟩
      · exfalso
        cases n2 with
        | zero =>
          simp only [runN] at r2
          injection r2 with r2
          exact not_there hn ok.rt (solo_inj r2).1
        | succ n2 =>
          rw [runN_solo (gor_run ..) g5] at r2
          exact dead_panic l fr ch g1 g2 g3 g4 n2 _ _ _ _ r2 rfl
      · exfalso
        rw [runN_solo (gor_run ..) g] at r1
        exact dead_ret (fr := { b.at a t with mode := .returning }) ok.bd rfl hi r1 rfl
      · exfalso
        obtain ⟨fr, l, e⟩ := gor_G b [] [] us ret a t
        obtain ⟨h0, _⟩ := runN_ended (step_ended e g) r1
        omega
/-- **FROM THE LONE WALK TO THE RUN WITH ITS TRACE.** -/
theorem arr_of_wp (M : Mild P S) {b : Frame} (hk : b.kind ≠ .early) (hb : (P.funcs[b.fn]?).isSome = true) (hi : P.inits.idxOf? b.fn = none) {c : Code} {Q : Exit → Act → World → Prop} {Q' : Act → World → Prop} {a : Act} {w : World}
    (hc : tameC S c = true) (hd : a.defers = []) (h : c.wp P Q a w) (hQ : ∀ e a' w', Q e a' w' → e = .normal ∧ Q' a' w') (k : List Item) (cs : List Frame) : Arr P b k cs Q' [] false a [.code c] w := by
  obtain ⟨e1, a1, w1, q1, r1⟩ := h b [] []
  obtain ⟨e2, a2, w2, q2, r2⟩ := h b [] [frX P]
  obtain ⟨rfl, q1'⟩ := hQ _ _ _ q1
  obtain ⟨rfl, q2'⟩ := hQ _ _ _ q2
  obtain ⟨n1, r1⟩ := r1
  obtain ⟨n2, r2⟩ := r2
  refine core_run M hk hb hi n1 [] false a [.code c] w ⟨by simp [tameL, tameI, hc], hd, fun _ hu => (by cases hu), fun e => (e rfl).elim, fun _ hu => (by cases hu), fun e => (by cases e)⟩ ⟨a1, w1, q1', r1⟩ ⟨n2, a2, w2, r2⟩ k cs
end
end Go.Proofs.YtpajdmhgonmgoaaDoor

namespace Go.Proofs.YtpajdmhgonmgoaaDoor
open Go.RowKit
set_option linter.unusedVariables false
open Go.Conc
set_option linter.unusedSimpArgs false
theorem chain_of {α : Type} {r : α → α → Prop} {x : α} (h : ¬ Acc r x) : ∃ f : Nat → α, f 0 = x ∧ ∀ n, r (f (n + 1)) (f n) := by
  have step : ∀ y : { y // ¬ Acc r y }, ∃ z : { z // ¬ Acc r z }, r z.1 y.1 := fun ⟨y, hy⟩ =>
    Classical.byContradiction fun hn => hy (Acc.intro y fun z hz => Classical.byContradiction fun hz' => hn ⟨⟨z, hz'⟩, hz⟩)
  let g : { y // ¬ Acc r y } → { z // ¬ Acc r z } := fun y => Classical.choose (step y)
  let F : Nat → { y // ¬ Acc r y } := fun n => Nat.rec ⟨x, h⟩ (fun _ y => g y) n
  exact ⟨fun n => (F n).1, rfl, fun n => Classical.choose_spec (step (F n))⟩
/-- Tapes laid one behind another. -/
theorem lay_tape {β : Type} (T0 : Nat → β) (d c D : Nat → Nat) (hD : ∀ n, D (n + 1) = D n + c n) : ∃ T : Nat → β, ∀ n j, j < c n → T (D n + j) = T0 (d n + j) := by
  have mono : ∀ n k, D n ≤ D (n + k) := fun n k => by
    induction k with
    | zero => exact Nat.le_refl _
    | succ k ih => rw [← Nat.add_assoc, hD]; omega
  have hone : ∀ m n n', D n ≤ m → m < D (n + 1) → D n' ≤ m → m < D (n' + 1) → n = n' := fun m n n' h1 h2 h3 h4 => by
    rcases Nat.lt_trichotomy n n' with h | h | h
    · have := mono (n + 1) (n' - (n + 1))
      rw [show n + 1 + (n' - (n + 1)) = n' by omega] at this
      omega
    · exact h
    · have := mono (n' + 1) (n - (n' + 1))
      rw [show n' + 1 + (n - (n' + 1)) = n by omega] at this
      omega
  refine ⟨fun m => open Classical in if h : ∃ n, D n ≤ m ∧ m < D (n + 1) then T0 (d (Classical.choose h) + (m - D (Classical.choose h))) else T0 0, fun n j hj => ?_⟩
  have h : ∃ n', D n' ≤ D n + j ∧ D n + j < D (n' + 1) := ⟨n, by omega, by rw [hD]; omega⟩
  have e := Classical.choose_spec h
  have e2 : Classical.choose h = n := hone (D n + j) _ _ e.1 e.2 (by omega) (by rw [hD]; omega)
  dsimp only
  rw [dif_pos h, e2]
  congr 1
  omega
theorem poi_two {X : Nat → Prop} {u v w : World} (hu : Poi X u w) (hv : Poi X v w) : Poi (fun _ => False) u v :=
  ⟨hu.size.trans hv.size.symm, fun k _ => by
    by_cases hX : X k
    · rw [hu.bad k hX, hv.bad k hX]
    · rw [hu.same k hX, hv.same k hX], fun k h => h.elim, fun k h => h.elim, hu.os.trans hv.os.symm, hu.out.trans hv.out.symm⟩
theorem poi_sym {u v : World} (h : Poi (fun _ => False) u v) : Poi (fun _ => False) v u := ⟨h.size.symm, fun k hk => (h.same k hk).symm, fun k h => h.elim, fun k h => h.elim, h.os.symm, h.out.symm⟩
theorem poi_left {X : Nat → Prop} {u v w : World} (h : Poi (fun _ => False) u v) (hv : Poi X v w) : Poi X u w :=
  ⟨h.size.trans hv.size, fun k hk => (h.same k (fun x => x)).trans (hv.same k hk), fun k hk => (h.same k (fun x => x)).trans (hv.bad k hk), hv.low, h.os.trans hv.os, h.out.trans hv.out⟩
theorem chs_none (w : World) : Chs (fun _ => False) w := fun _ h => h.elim
theorem poi_at {X : Nat → Prop} {v w : World} (d : Nat) : Poi X v (w.at d) ↔ Poi X v w := ⟨fun h => ⟨h.size, h.same, h.bad, h.low, h.os, h.out⟩, fun h => ⟨h.size, h.same, h.bad, h.low, h.os, h.out⟩⟩
theorem emptied (X : Nat → Prop) (w : World) (hX : ∀ k, X k → k < w.heap.size) : ∃ v, Poi X v w ∧ v.tape = w.tape ∧ v.drawn = w.drawn := by
  refine ⟨{ w with heap := w.heap.mapIdx fun i o => open Classical in if X i then empt o else o }, ⟨by simp, fun k hk => ?_, fun k hk => ?_, hX, rfl, rfl⟩, rfl, rfl⟩
  · show (w.heap.mapIdx _)[k]? = _
    rw [Array.getElem?_mapIdx]
    cases w.heap[k]? with
    | none => rfl
    | some o => simp [hk]
  · show (w.heap.mapIdx _)[k]? = _
    rw [Array.getElem?_mapIdx]
    cases w.heap[k]? with
    | none => rfl
    | some o => simp [hk]
/-- A state of our frames. -/
structure Sx where
  us : List UF
  ret : Bool
  a : Act
  t : List Item
def gx (b : Frame) (s : Sx) (k : List Item) (cs : List Frame) : Goroutine := gor b k cs s.us s.ret s.a s.t
def OkX (P : Program) (S : FuncId → Bool) (s : Sx) : Prop := OkZ P S s.us s.ret s.a s.t
def FinX (s : Sx) : Prop := s.us = [] ∧ s.t = []
/-- Alone it comes to the end, in n steps. -/
def EndsN (P : Program) (b : Frame) (Q : Act → World → Prop) (n : Nat) (s : Sx) (v : World) : Prop :=
  (∃ a1 v1, Q a1 v1 ∧ runN P n (solo (gx b s [] []) v) = .next (solo (G (b.at a1 []) []) v1)) ∧ ∃ n2 a2 v2, runN P n2 (solo (gx b s [] [frX P]) v) = .next (solo (G (b.at a2 []) [frX P]) v2)
def StepX (P : Program) (S : FuncId → Bool) (b : Frame) (s s' : Sx) (v v' : World) : Prop := OkX P S s' ∧ (∃ es, ∀ k cs, stepG P true (gx b s k cs) v = .go (gx b s' k cs) v' es) ∧ RelA P (gx b s) (gx b s') v v'
section
variable {P : Program} {S : FuncId → Bool} {b : Frame} {Q : Act → World → Prop}
theorem gx_run (b : Frame) (s : Sx) (k : List Item) (cs : List Frame) : (gx b s k cs).status = .running := gor_run ..
theorem ends_step {s s' : Sx} {v v' : World} {es : Array Event} (ok : OkX P S s) (hn : ¬ FinX s) (hs : ∀ k cs, stepG P true (gx b s k cs) v = .go (gx b s' k cs) v' es) {n : Nat} (h : EndsN P b Q n s v) : ∃ n', n = n' + 1 ∧ EndsN P b Q n' s' v' := by
  obtain ⟨⟨a1, v1, q, r1⟩, n2, a2, v2, r2⟩ := h
  cases n with
  | zero =>
    simp only [runN] at r1
    injection r1 with r1
    exact (not_there hn ok.rt (solo_inj r1).1).elim
  | succ n =>
    refine ⟨n, rfl, ⟨a1, v1, q, ?_⟩, ?_⟩
    · rw [← runN_solo (gx_run ..) (hs [] [])]; exact r1
    · cases n2 with
      | zero =>
        simp only [runN] at r2
        injection r2 with r2
        exact (not_there hn ok.rt (solo_inj r2).1).elim
      | succ n2 =>
        rw [runN_solo (gx_run ..) (hs [] [frX P])] at r2
        exact ⟨n2, a2, v2, r2⟩
theorem ends_next (M : MildZ P S) (hk : b.kind ≠ .early) (hb : (P.funcs[b.fn]?).isSome = true) (hi : P.inits.idxOf? b.fn = none) {s : Sx} {v : World} (ok : OkX P S s) (hn : ¬ FinX s) {n : Nat} (h : EndsN P b Q n s v) : ∃ s' v', StepX P S b s s' v v' := by
  obtain ⟨⟨a1, v1, q, r1⟩, n2, a2, v2, r2⟩ := h
  rcases stepZ_state M hk hb (v := v) ok hn with ⟨us', ret', a', t', v', es, g1, g2, g3⟩ | ⟨fr, l, ch, w', es, g1, g2, g3, g4, g5⟩ | ⟨g0, g⟩ | ⟨o, w', es, g⟩
  · exact ⟨⟨us', ret', a', t'⟩, v', g1, ⟨es, g2⟩, g3⟩
  · exfalso
    cases n2 with
    | zero =>
      simp only [runN] at r2
      injection r2 with r2
      exact not_there hn ok.rt (solo_inj r2).1
    | succ n2 =>
      rw [runN_solo (gx_run ..) g5] at r2
      exact dead_panic l fr ch g1 g2 g3 g4 n2 _ _ _ _ r2 rfl
  · exfalso
    cases n with
    | zero =>
      simp only [runN] at r1
      injection r1 with r1
      exact not_there hn ok.rt (solo_inj r1).1
    | succ n =>
      rw [runN_solo (gx_run ..) (g v [] [])] at r1
      exact dead_ret (fr := { b.at s.a (s.t ++ []) with mode := .returning }) ok.bd rfl hi r1 rfl
  · exfalso
    obtain ⟨fr, l, e⟩ := gor_G b [] [] s.us s.ret s.a s.t
    obtain ⟨h0, _⟩ := runN_ended (step_ended e g) r1
    subst h0
    simp only [runN] at r1
    injection r1 with r1
    exact not_there hn ok.rt (solo_inj r1).1
theorem ends_fin (hi : P.inits.idxOf? b.fn = none) {s : Sx} {v : World} (ok : OkX P S s) (hf : FinX s) {n : Nat} (h : EndsN P b Q n s v) : n = 0 ∧ Q s.a v := by
  obtain ⟨us, ret, a, t⟩ := s
  obtain ⟨rfl, rfl⟩ : us = [] ∧ t = [] := hf
  obtain ⟨⟨a1, v1, q, r1⟩, _⟩ := h
  cases n with
  | zero =>
    simp only [runN] at r1
    injection r1 with r1
    obtain ⟨e1, rfl⟩ := solo_inj r1
    have ea : a = a1 := by
      have h1 := congrArg (fun g => g.frame.tmps) e1
      have h2 := congrArg (fun g => g.frame.defers) e1
      simp [gx, gor, G, Frame.at] at h1 h2
      cases a; cases a1
      simp at h1 h2
      rw [h1, h2]
    subst ea
    exact ⟨rfl, q⟩
  | succ n =>
    exfalso
    have st : stepG P true (gx b ⟨[], ret, a, []⟩ [] []) v = .go (G { b.at a [] with mode := .returning } []) v #[] := stepG_end
    rw [runN_solo (gx_run ..) st] at r1
    exact dead_ret (fr := { b.at a [] with mode := .returning }) ok.bd rfl hi r1 rfl
theorem ends_here0 {s : Sx} {v : World} (hf : FinX s) (hQ : Q s.a v) : EndsN P b Q 0 s v := by
  obtain ⟨us, ret, a, t⟩ := s
  obtain ⟨rfl, rfl⟩ : us = [] ∧ t = [] := hf
  exact ⟨⟨a, v, hQ, rfl⟩, 0, a, v, rfl⟩
/-- On another tape that says the same from here on. -/
def SameF (v v2 : World) : Prop := Poi (fun _ => False) v v2 ∧ ∀ i q, v.tape (v.drawn + i) q = v2.tape (v2.drawn + i) q
theorem ends_shift (M : MildZ P S) (hk : b.kind ≠ .early) (hb : (P.funcs[b.fn]?).isSome = true) (hi : P.inits.idxOf? b.fn = none) (hQ : ∀ a v v2, Poi (fun _ => False) v v2 → Q a v → Q a v2) :
    ∀ (n : Nat) (s : Sx) (v v2 : World), OkX P S s → SameF v v2 → EndsN P b Q n s v → EndsN P b Q n s v2 := by
  intro n
  induction n with
  | zero =>
    intro s v v2 ok hs h
    by_cases hf : FinX s
    · exact ends_here0 hf (hQ _ _ _ hs.1 (ends_fin hi ok hf h).2)
    · obtain ⟨s', v', h1, ⟨es, h2⟩, h3⟩ := ends_next M hk hb hi ok hf h
      obtain ⟨n', e, _⟩ := ends_step ok hf h2 h
      omega
  | succ n ih =>
    intro s v v2 ok hs h
    by_cases hf : FinX s
    · have := (ends_fin hi ok hf h).1
      omega
    · obtain ⟨s', v', h1, ⟨es, h2⟩, h3⟩ := ends_next M hk hb hi ok hf h
      obtain ⟨n', e, h4⟩ := ends_step ok hf h2 h
      obtain rfl : n = n' := by omega
      obtain ⟨w', es', k1, k2, _⟩ := h3 (fun _ => False) (fun _ => False) v2 hs.1 (chs_none _) (fun i q _ => hs.2 i q)
      obtain ⟨c, k3, k4⟩ := k2.dr
      have hs' : SameF v' w' := ⟨k2.poi, fun i q => by
        rw [k2.tv, k2.tw, k3, k4, Nat.add_assoc, Nat.add_assoc]
        exact hs.2 (c + i) q⟩
      obtain ⟨⟨a1, v1, q, r1⟩, n2, a2, v3, r2⟩ := ih s' v' w' h1 hs' h4
      exact ⟨⟨a1, v1, q, by rw [runN_solo (gx_run ..) (k1 [] [])]; exact r1⟩, n2 + 1, a2, v3, by rw [runN_solo (gx_run ..) (k1 [] [frX P])]; exact r2⟩
end
end Go.Proofs.YtpajdmhgonmgoaaDoor

namespace Go.Proofs.YtpajdmhgonmgoaaDoor
open Go.RowKit
set_option linter.unusedVariables false
open Go.Conc
set_option linter.unusedSimpArgs false
section
variable {P : Program} {S : FuncId → Bool} {b : Frame} {Q : Act → World → Prop} {X Xo : Nat → Prop}
/-- On every tape, its rows emptied, it comes to the end. -/
def HX (P : Program) (b : Frame) (Q : Act → World → Prop) (X : Nat → Prop) (s : Sx) (w : World) : Prop := ∀ v, Poi X v w → ∃ n, EndsN P b Q n s v
/-- What stands while it walks. -/
structure GoodX (P : Program) (S : FuncId → Bool) (b : Frame) (Q : Act → World → Prop) (X Xo : Nat → Prop) (x : Sx × World) : Prop where
  ends : HX P b Q X x.1 x.2
  ok : OkX P S x.1
  chs : Chs Xo x.2
  low : ∀ k, X k → k < x.2.heap.size
/-- One step in the world itself, behind whatever the others drew. -/
def RX (P : Program) (S : FuncId → Bool) (b : Frame) (X Xo : Nat → Prop) (y x : Sx × World) : Prop :=
  ¬ FinX x.1 ∧ ∃ d v v', Poi X v (x.2.at d) ∧ v.tape = x.2.tape ∧ v.drawn = d ∧ StepX P S b x.1 y.1 v v' ∧ Mv X Xo v (x.2.at d) v' y.2
theorem good_next (M : MildZ P S) (hk : b.kind ≠ .early) (hb : (P.funcs[b.fn]?).isSome = true) (hi : P.inits.idxOf? b.fn = none) (hQ : ∀ a v v2, Poi (fun _ => False) v v2 → Q a v → Q a v2)
    {x y : Sx × World} (h : GoodX P S b Q X Xo x) (hr : RX P S b X Xo y x) : GoodX P S b Q X Xo y := by
  obtain ⟨hn, d, v, v', hp, ht, hd, ⟨k1, ⟨es, k2⟩, k3⟩, hm⟩ := hr
  have hsz := hm.sz
  refine ⟨fun v2 hp2 => ?_, k1, hm.chs, fun k hk => Nat.lt_of_lt_of_le (h.low k hk) hsz⟩
  obtain ⟨c, e1, e2⟩ := hm.dr
  let T : Nat → Question → Nat := fun n q => if n < v'.drawn then v.tape n q else v2.tape (v2.drawn + (n - v'.drawn)) q
  have hp0 : Poi X { v with tape := T } x.2 := by
    have h1 : Poi X v x.2 := (poi_at d).1 hp
    exact ⟨h1.size, h1.same, h1.bad, h1.low, h1.os, h1.out⟩
  obtain ⟨m, hm0⟩ := h.ends _ hp0
  have p0 : Poi (fun _ => False) v { v with tape := T } := ⟨rfl, fun _ _ => rfl, fun _ h => h.elim, fun _ h => h.elim, rfl, rfl⟩
  obtain ⟨v0', es', j1, j2, _⟩ := k3 (fun _ => False) (fun _ => False) { v with tape := T } p0 (chs_none _) (fun i q hi => by
    show v.tape (v.drawn + i) q = T (v.drawn + i) q
    exact (if_pos hi).symm)
  obtain ⟨m', rfl, hm'⟩ := ends_step h.ok hn j1 hm0
  obtain ⟨c', f1, f2⟩ := j2.dr
  have f3 : v0'.drawn = v'.drawn := f2.trans f1.symm
  refine ⟨m', ends_shift M hk hb hi hQ m' y.1 v0' v2 k1 ⟨?_, fun i q => ?_⟩ hm'⟩
  · exact poi_left (poi_sym j2.poi) (poi_two hm.poi hp2)
  · rw [j2.tw, f3]
    show T (v'.drawn + i) q = _
    have : ¬ v'.drawn + i < v'.drawn := by omega
    show (if v'.drawn + i < v'.drawn then _ else _) = _
    rw [if_neg this, Nat.add_sub_cancel_left]
theorem good_step (M : MildZ P S) (hk : b.kind ≠ .early) (hb : (P.funcs[b.fn]?).isSome = true) (hi : P.inits.idxOf? b.fn = none)
    {x : Sx × World} (h : GoodX P S b Q X Xo x) (hn : ¬ FinX x.1) (d : Nat) : ∃ y es, RX P S b X Xo y x ∧ x.2.heap.size ≤ y.2.heap.size ∧ (∀ k cs, stepG P true (gx b x.1 k cs) (x.2.at d) = .go (gx b y.1 k cs) y.2 es) ∧ ∀ e ∈ es, EvS X Xo y.2.heap.size e := by
  obtain ⟨v, hp, ht, hd⟩ := emptied X (x.2.at d) h.low
  obtain ⟨n, he⟩ := h.ends v ((poi_at d).1 hp)
  obtain ⟨s', v', k1, ⟨es, k2⟩, k3⟩ := ends_next M hk hb hi h.ok hn he
  obtain ⟨w', es', j1, j2, j3⟩ := k3 X Xo (x.2.at d) hp h.chs (fun i q _ => by rw [ht, hd])
  exact ⟨(s', w'), es', ⟨hn, d, v, v', hp, ht, hd, ⟨k1, ⟨es, k2⟩, k3⟩, j2⟩, j2.sz, j1, j3⟩
theorem good_acc (M : MildZ P S) (hk : b.kind ≠ .early) (hb : (P.funcs[b.fn]?).isSome = true) (hi : P.inits.idxOf? b.fn = none) (hQ : ∀ a v v2, Poi (fun _ => False) v v2 → Q a v → Q a v2)
    {x : Sx × World} (h : GoodX P S b Q X Xo x) : Acc (RX P S b X Xo) x := by
  refine Classical.byContradiction fun hacc => ?_
  obtain ⟨f, f0, hf⟩ := chain_of hacc
  have good : ∀ n, GoodX P S b Q X Xo (f n) := fun n => by
    induction n with
    | zero => rw [f0]; exact h
    | succ n ih => exact good_next M hk hb hi hQ ih (hf n)
  have dat : ∀ n, ∃ d c, ∃ v v', Poi X v ((f n).2.at d) ∧ v.tape = (f n).2.tape ∧ v.drawn = d ∧ StepX P S b (f n).1 (f (n + 1)).1 v v' ∧ Mv X Xo v ((f n).2.at d) v' (f (n + 1)).2 ∧ v'.drawn = d + c := fun n => by
    obtain ⟨_, d, v, v', k1, k2, k3, k4, k5⟩ := hf n
    obtain ⟨c, e1, _⟩ := k5.dr
    exact ⟨d, c, v, v', k1, k2, k3, k4, k5, by omega⟩
  let d : Nat → Nat := fun n => Classical.choose (dat n)
  have dat2 : ∀ n, ∃ c, ∃ v v', Poi X v ((f n).2.at (d n)) ∧ v.tape = (f n).2.tape ∧ v.drawn = d n ∧ StepX P S b (f n).1 (f (n + 1)).1 v v' ∧ Mv X Xo v ((f n).2.at (d n)) v' (f (n + 1)).2 ∧ v'.drawn = d n + c := fun n => Classical.choose_spec (dat n)
  let c : Nat → Nat := fun n => Classical.choose (dat2 n)
  have dat3 : ∀ n, ∃ v v', Poi X v ((f n).2.at (d n)) ∧ v.tape = (f n).2.tape ∧ v.drawn = d n ∧ StepX P S b (f n).1 (f (n + 1)).1 v v' ∧ Mv X Xo v ((f n).2.at (d n)) v' (f (n + 1)).2 ∧ v'.drawn = d n + c n := fun n => Classical.choose_spec (dat2 n)
  have tap : ∀ n, (f n).2.tape = x.2.tape := fun n => by
    induction n with
    | zero => rw [f0]
    | succ n ih =>
      obtain ⟨v, v', _, _, _, _, k5, _⟩ := dat3 n
      rw [k5.tw]; exact ih
  let D : Nat → Nat := fun n => Nat.rec 0 (fun n y => y + c n) n
  obtain ⟨T, hT⟩ := lay_tape (fun m => x.2.tape m) d c D (fun n => rfl)
  obtain ⟨v0, hp0, _, _⟩ := emptied X x.2 h.low
  have hpV : Poi X { v0 with tape := T, drawn := 0 } x.2 := ⟨hp0.size, hp0.same, hp0.bad, hp0.low, hp0.os, hp0.out⟩
  obtain ⟨N, hN⟩ := h.ends _ hpV
  have run : ∀ n, ∃ V m, Poi X V (f n).2 ∧ V.tape = T ∧ V.drawn = D n ∧ EndsN P b Q m (f n).1 V ∧ m + n = N := fun n => by
    induction n with
    | zero => exact ⟨{ v0 with tape := T, drawn := 0 }, N, by rw [f0]; exact hpV, rfl, rfl, by rw [f0]; exact hN, rfl⟩
    | succ n ih =>
      obtain ⟨V, m, hV, tV, dV, eV, hm⟩ := ih
      obtain ⟨v, v', k1, k2, k3, ⟨g1, ⟨es, g2⟩, g3⟩, k5, k6⟩ := dat3 n
      have pv : Poi (fun _ => False) v V := poi_two ((poi_at _).1 k1) hV
      obtain ⟨V', es', j1, j2, _⟩ := g3 (fun _ => False) (fun _ => False) V pv (chs_none _) (fun i q hi => by
        rw [k2, tap, k3, tV, dV, hT n i (by omega)])
      obtain ⟨m', rfl, hm'⟩ := ends_step (good n).ok (hf n).1 j1 eV
      obtain ⟨c', e1, e2⟩ := j2.dr
      refine ⟨V', m', ?_, j2.tw.trans tV, ?_, hm', by omega⟩
      · exact poi_left (poi_sym j2.poi) k5.poi
      · rw [e2, dV]
        show D n + c' = D n + c n
        omega
  obtain ⟨V, m, _, _, _, _, hm⟩ := run (N + 1)
  omega
end
end Go.Proofs.YtpajdmhgonmgoaaDoor

namespace Go.Proofs.YtpajdmhgonmgoaaDoor
set_option linter.unusedVariables false
/-- Sums of so many numbers. -/
def smS : Nat → (Nat → Int) → Int
  | 0, _ => 0
  | n + 1, f => smS n f + f n
theorem smS_congr {f g : Nat → Int} : ∀ {n : Nat}, (∀ k, k < n → f k = g k) → smS n f = smS n g
  | 0, _ => rfl
  | n + 1, h => by unfold smS; rw [smS_congr (n := n) fun k hk => h k (by omega), h n (by omega)]
theorem smS_le {f g : Nat → Int} : ∀ {n : Nat}, (∀ k, k < n → f k ≤ g k) → smS n f ≤ smS n g
  | 0, _ => Int.le_refl _
  | n + 1, h => by
    have a := smS_le (n := n) fun k hk => h k (by omega)
    have b := h n (by omega)
    unfold smS; omega
theorem smS_zero : ∀ n : Nat, smS n (fun _ => 0) = 0
  | 0 => rfl
  | n + 1 => by unfold smS; rw [smS_zero n]; rfl
theorem smS_add (f g : Nat → Int) : ∀ n : Nat, smS n (fun k => f k + g k) = smS n f + smS n g
  | 0 => rfl
  | n + 1 => by simp only [smS]; rw [smS_add f g n]; omega
theorem smS_neg (f : Nat → Int) : ∀ n : Nat, smS n (fun k => - f k) = - smS n f
  | 0 => rfl
  | n + 1 => by simp only [smS]; rw [smS_neg f n]; omega
theorem smS_sub (f g : Nat → Int) : ∀ n : Nat, smS n (fun k => f k - g k) = smS n f - smS n g
  | 0 => rfl
  | n + 1 => by simp only [smS]; rw [smS_sub f g n]; omega
theorem smS_mul (a : Int) (f : Nat → Int) : ∀ n : Nat, smS n (fun k => a * f k) = a * smS n f
  | 0 => by simp [smS]
  | n + 1 => by simp only [smS]; rw [smS_mul a f n, Int.mul_add]
theorem smS_nonneg {f : Nat → Int} {n : Nat} (h : ∀ k, k < n → 0 ≤ f k) : 0 ≤ smS n f := by
  have := smS_le (f := fun _ => 0) (g := f) (n := n) h
  rw [smS_zero] at this; exact this
theorem smS_one {f : Nat → Int} : ∀ {n k : Nat}, (∀ j, j < n → 0 ≤ f j) → k < n → f k ≤ smS n f
  | 0, k, _, hk => by omega
  | n + 1, k, h, hk => by
    unfold smS
    have hn := h n (by omega)
    rcases Nat.lt_or_ge k n with c | c
    · have := smS_one (n := n) (fun j hj => h j (by omega)) c; omega
    · obtain rfl : k = n := by omega
      have := smS_nonneg (n := k) (f := f) fun j hj => h j (by omega); omega
theorem smS_swap (f : Nat → Nat → Int) (m : Nat) : ∀ n : Nat, smS n (fun k => smS m fun j => f k j) = smS m (fun j => smS n fun k => f k j)
  | 0 => by simp only [smS]; rw [smS_zero]
  | n + 1 => by simp only [smS]; rw [smS_swap f m n, smS_add]
theorem smS_anti {f : Nat → Nat → Int} (h : ∀ k j, f k j = - f j k) (n : Nat) : smS n (fun k => smS n fun j => f k j) = 0 := by
  have a := smS_swap f n n
  have b : smS n (fun j => smS n fun k => f k j) = - smS n (fun j => smS n fun k => f j k) := by
    rw [← smS_neg]
    exact smS_congr fun k _ => by rw [← smS_neg]; exact smS_congr fun j _ => h j k
  omega
/-- What goes out of a place for good, where each has toppled so often. -/
def lapS (n : Nat) (b : Nat → Nat → Int) (u : Nat → Int) (k : Nat) : Int := smS n fun j => b k j * (u k - u j)
/-- A graph: both ways alike, none to itself; and from every set without the sink an edge leads out. -/
structure GrS (n s : Nat) (b : Nat → Nat → Int) : Prop where
  sink : s < n
  sym : ∀ k j, b k j = b j k
  pos : ∀ k j, 0 ≤ b k j
  self : ∀ k, b k k = 0
  con : ∀ S : Nat → Bool, S s = false → (∃ k, k < n ∧ S k = true) → ∃ k j, k < n ∧ j < n ∧ S k = true ∧ S j = false ∧ 1 ≤ b k j
theorem lap_out {n : Nat} {b : Nat → Nat → Int} (sym : ∀ k j, b k j = b j k) (u : Nat → Int) (S : Nat → Bool) :
    smS n (fun k => if S k then lapS n b u k else 0) = smS n (fun k => smS n fun j => if S k && !S j then b k j * (u k - u j) else 0) := by
  have z := smS_anti (f := fun k j => if S k && S j then b k j * (u k - u j) else 0) (fun k j => by
    rw [Bool.and_comm (S j) (S k)]
    split
    · rw [sym k j, ← Int.mul_neg]; congr 1; omega
    · rfl) n
  have e : smS n (fun k => if S k then lapS n b u k else 0) = smS n (fun k => (smS n fun j => if S k && S j then b k j * (u k - u j) else 0) + smS n fun j => if S k && !S j then b k j * (u k - u j) else 0) := by
    refine smS_congr fun k _ => ?_
    rw [← smS_add]
    by_cases hk : S k = true
    · rw [if_pos hk]; unfold lapS
      refine smS_congr fun j _ => ?_
      cases hj : S j <;> simp [hk]
    · rw [if_neg hk]
      refine (smS_zero n).symm.trans (smS_congr fun j _ => ?_)
      simp [hk]
  rw [e, smS_add, z]; omega
/-- What stands still to topple is never much: where nowhere less than nothing lies, no place has toppled more than so often beyond another. -/
theorem gap {n s : Nat} {b : Nat → Nat → Int} (G : GrS n s b) {u c : Nat → Int} {C a : Int} (hu : u s = 0) (ha : 0 ≤ a) (hc : ∀ k, k < n → 0 ≤ c k) (hC : smS n c ≤ C) (hn : ∀ k, k < n → k ≠ s → lapS n b u k ≤ c k) (hS : ∃ k, k < n ∧ a < u k) : ∃ j, j < n ∧ u j ≤ a ∧ a - C < u j := by
  obtain ⟨k0, h0, h1⟩ := hS
  obtain ⟨k, j, hk, hj, sk, sj, hb⟩ := G.con (fun k => decide (a < u k)) (decide_eq_false (by omega)) ⟨k0, h0, decide_eq_true h1⟩
  have ak : a < u k := of_decide_eq_true sk
  have aj : ¬ a < u j := of_decide_eq_false sj
  refine ⟨j, hj, by omega, ?_⟩
  have o := lap_out (n := n) G.sym u (fun k => decide (a < u k))
  have l1 : smS n (fun k => if decide (a < u k) then lapS n b u k else 0) ≤ C := by
    refine Int.le_trans (smS_le fun i hi => ?_) hC
    split
    · rename_i q
      have q' : a < u i := of_decide_eq_true q
      exact hn i hi (fun e => by rw [e] at q'; omega)
    · exact hc i hi
  have nn : ∀ i i', 0 ≤ (if decide (a < u i) && !decide (a < u i') then b i i' * (u i - u i') else 0 : Int) := fun i i' => by
    split
    · rename_i q
      simp at q
      exact Int.mul_nonneg (G.pos i i') (by omega)
    · omega
  have l2 := smS_one (f := fun k => smS n fun j => if decide (a < u k) && !decide (a < u j) then b k j * (u k - u j) else 0) (fun i _ => smS_nonneg fun i' _ => nn i i') hk
  have l3 := smS_one (f := fun j => if decide (a < u k) && !decide (a < u j) then b k j * (u k - u j) else 0) (fun i' _ => nn k i') hj
  have l4 : u k - u j ≤ (if decide (a < u k) && !decide (a < u j) then b k j * (u k - u j) else 0 : Int) := by
    rw [if_pos (by simp; omega)]
    have : 1 * (u k - u j) ≤ b k j * (u k - u j) := Int.mul_le_mul_of_nonneg_right hb (by omega)
    omega
  have l5 : u k - u j ≤ C := by
    refine Int.le_trans l4 (Int.le_trans l3 (Int.le_trans l2 ?_))
    rw [← o]; exact l1
  omega
theorem smS_ones : ∀ n : Nat, smS n (fun _ => 1) = (n : Int)
  | 0 => rfl
  | n + 1 => by simp only [smS]; rw [smS_ones n]; omega
/-- How many have toppled no more than so often. -/
def cntS (n : Nat) (u : Nat → Int) (a : Int) : Int := smS n fun k => if u k ≤ a then 1 else 0
theorem cnt_more {n j : Nat} {u : Nat → Int} {a a' : Int} (h : a ≤ a') (hj : j < n) (h1 : a < u j) (h2 : u j ≤ a') : cntS n u a + 1 ≤ cntS n u a' := by
  have e := smS_sub (fun k => if u k ≤ a' then 1 else 0) (fun k => if u k ≤ a then 1 else 0) n
  have o := smS_one (f := fun k => (if u k ≤ a' then 1 else 0) - (if u k ≤ a then 1 else 0)) (n := n) (fun k _ => by split <;> split <;> omega) hj
  rw [if_pos h2, if_neg (by omega)] at o
  unfold cntS; omega
theorem cnt_all {n j : Nat} {u : Nat → Int} {a : Int} (hj : j < n) (h1 : a < u j) : cntS n u a + 1 ≤ (n : Int) := by
  have e := smS_sub (fun _ => 1) (fun k => if u k ≤ a then 1 else 0) n
  rw [smS_ones] at e
  have o := smS_one (f := fun k => 1 - (if u k ≤ a then 1 else 0)) (n := n) (fun k _ => by split <;> omega) hj
  rw [if_neg (by omega)] at o
  unfold cntS; omega
theorem cnt_low {n s : Nat} {b : Nat → Nat → Int} (G : GrS n s b) {u c : Nat → Int} {C : Int} (hC0 : 0 ≤ C) (hu : u s = 0) (hc : ∀ k, k < n → 0 ≤ c k) (hC : smS n c ≤ C) (hn : ∀ k, k < n → k ≠ s → lapS n b u k ≤ c k) : ∀ m : Nat, (∃ k, k < n ∧ C * m < u k) → (m : Int) + 1 ≤ cntS n u (C * m)
  | 0, _ => by
    have o := smS_one (f := fun k => if u k ≤ C * (0 : Nat) then 1 else 0) (n := n) (fun k _ => by split <;> omega) G.sink
    rw [if_pos (by simp [hu])] at o
    unfold cntS; omega
  | m + 1, h => by
    have e : C * ((m + 1 : Nat) : Int) = C * m + C := by rw [Int.natCast_add, Int.mul_add]; omega
    have p : 0 ≤ C * (m : Int) := Int.mul_nonneg hC0 (by omega)
    obtain ⟨k, hk, h1⟩ := h
    have ih := cnt_low G hC0 hu hc hC hn m ⟨k, hk, by omega⟩
    obtain ⟨j, hj, j1, j2⟩ := gap G (a := C * ((m + 1 : Nat) : Int)) hu (by omega) hc hC hn ⟨k, hk, h1⟩
    have := cnt_more (a := C * m) (a' := C * ((m + 1 : Nat) : Int)) (by omega) hj (by omega) j1
    omega
/-- No place topples more often than that. -/
theorem few_topples {n s : Nat} {b : Nat → Nat → Int} (G : GrS n s b) {u c : Nat → Int} {C : Int} (hC0 : 0 ≤ C) (hu : u s = 0) (hc : ∀ k, k < n → 0 ≤ c k) (hC : smS n c ≤ C) (hn : ∀ k, k < n → k ≠ s → lapS n b u k ≤ c k) (k : Nat) (hk : k < n) : u k ≤ C * ((n - 1 : Nat) : Int) := by
  rcases Int.lt_or_le (C * ((n - 1 : Nat) : Int)) (u k) with h | h
  · exfalso
    have a := cnt_low G hC0 hu hc hC hn (n - 1) ⟨k, hk, h⟩
    have b := cnt_all hk h
    omega
  · exact h
/-- Whoever can topple must, some time: what a stable end asks bounds what is toppled on any way. -/
theorem must {n s : Nat} {b : Nat → Nat → Int} (G : GrS n s b) {u v c : Nat → Int} {k : Nat} (hk : k < n) (huv : ∀ j, j < n → u j ≤ v j) (can : smS n (b k) ≤ c k - lapS n b u k) (st : c k - lapS n b v k < smS n (b k)) : u k + 1 ≤ v k := by
  rcases Int.lt_or_le (u k) (v k) with h | h
  · omega
  · exfalso
    have e : u k = v k := by have := huv k hk; omega
    have : lapS n b v k ≤ lapS n b u k := smS_le fun j hj => Int.mul_le_mul_of_nonneg_left (by have := huv j hj; omega) (G.pos k j)
    omega
/-- One place topples so often: what goes out of each then. -/
def upS (u : Nat → Int) (k : Nat) (t : Int) (j : Nat) : Int := if j = k then u j + t else u j
theorem smS_at (k : Nat) (x : Int) : ∀ n : Nat, smS n (fun j => if j = k then x else 0) = if k < n then x else 0
  | 0 => by simp [smS]
  | n + 1 => by
    simp only [smS]
    rw [smS_at k x n]
    by_cases h : n = k
    · subst h; simp
    · by_cases h2 : k < n
      · rw [if_pos h2, if_neg h, if_pos (by omega)]; omega
      · rw [if_neg h2, if_neg h, if_neg (by omega)]; rfl
theorem lap_up_other {n : Nat} {b : Nat → Nat → Int} (u : Nat → Int) {k j : Nat} (t : Int) (hk : k < n) (h : j ≠ k) : lapS n b (upS u k t) j = lapS n b u j - t * b j k := by
  unfold lapS
  have e : (fun i => b j i * (upS u k t j - upS u k t i)) = fun i => b j i * (u j - u i) - (if i = k then t * b j k else 0) := by
    funext i
    unfold upS
    rw [if_neg h]
    split
    · rename_i q; subst q; rw [Int.mul_sub, Int.mul_sub, Int.mul_add, Int.mul_comm t]; omega
    · omega
  rw [e, smS_sub, smS_at, if_pos hk]
theorem lap_up_same {n : Nat} {b : Nat → Nat → Int} (self : ∀ k, b k k = 0) (u : Nat → Int) {k : Nat} (t : Int) : lapS n b (upS u k t) k = lapS n b u k + t * smS n (b k) := by
  unfold lapS
  have e : (fun i => b k i * (upS u k t k - upS u k t i)) = fun i => b k i * (u k - u i) + t * b k i := by
    funext i
    unfold upS
    rw [if_pos rfl]
    split
    · rename_i q; subst q; rw [self]; simp
    · rw [Int.mul_comm t, ← Int.mul_add]; congr 1; omega
  rw [e, smS_add, smS_mul]
end Go.Proofs.YtpajdmhgonmgoaaDoor

