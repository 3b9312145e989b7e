/-
  What the last text of this claim leans on, part 5: Lb7, La5, Lb8.
-/
import Derived.Test.YtpajdmhgonmgoaaDoorYt4
import Derived.Test.YtpajdmhgonmgoaaDoorYt3
import Derived.Conc.CompanyDraw
namespace Go.Proofs.YtpajdmhgonmgoaaDoor
open Go.RowKit
set_option linter.unusedVariables false
open Go.Conc
set_option linter.unusedSimpArgs false
section
variable {X Xo : Nat → Prop} {P : Program}
/-- From v beside w to v' beside w': what a step of ours does. -/
structure Mv (X Xo : Nat → Prop) (v w v' w' : World) : Prop where
  poi : Poi X v' w'
  chs : Chs Xo w'
  tv : v'.tape = v.tape
  tw : w'.tape = w.tape
  dr : ∃ c, v'.drawn = v.drawn + c ∧ w'.drawn = w.drawn + c
  sz : w.heap.size ≤ w'.heap.size
theorem Mv.refl {v w : World} (hp : Poi X v w) (hc : Chs Xo w) : Mv X Xo v w v w := ⟨hp, hc, rfl, rfl, ⟨0, rfl, rfl⟩, Nat.le_refl _⟩
theorem Mv.trans {v w v1 w1 v2 w2 : World} (h : Mv X Xo v w v1 w1) (k : Mv X Xo v1 w1 v2 w2) : Mv X Xo v w v2 w2 := by
  obtain ⟨c, h1, h2⟩ := h.dr
  obtain ⟨d, k1, k2⟩ := k.dr
  exact ⟨k.poi, k.chs, k.tv.trans h.tv, k.tw.trans h.tw, ⟨c + d, by omega, by omega⟩, Nat.le_trans h.sz k.sz⟩
theorem dead_run {α : Type} {s : Sem α} (h : Tame P (fun _ => False) s) {v v' : World} {a : α} (hr : s.run P v = .ok a v') : False := by
  obtain ⟨w', _, he, _⟩ := tame_ends s v #[] h
  have run1 : s.run P v = (s.runT P v #[]).1 := (Sem.runT_fst _ _ _ _).symm
  rw [hr] at run1
  rcases he with ⟨_, _, hf⟩ | ⟨x, hx, _⟩
  · exact hf
  · rw [← run1] at hx; cases hx
theorem run_drawn {α : Type} {Q : α → Prop} : ∀ (s : Sem α), Tz P Q s → ∀ (v : World) (a : α) (v' : World), s.run P v = .ok a v' → v.drawn ≤ v'.drawn := by
  intro s
  induction s with
  | pure a => intro _ v b v' hr; simp only [Sem.run] at hr; cases hr; exact Nat.le_refl _
  | load m a k ih =>
    intro h v b v' hr
    unfold Sem.run at hr
    split at hr
    · exact ih _ (h _) _ _ _ hr
    · split at hr
      · exact ih _ (h _) _ _ _ hr
      · cases hr
  | store m a x k ih =>
    intro h v b v' hr
    have key : (match v.cell? a with
      | some _ => if v.frozen? a then Result.halt (.unsupported (.unsafePointer "a write to bytes that a string shares")) v else k.run P (v.setCell a x)
      | none => match v.farStore P a x (m == Mode.atomic) with
        | .ok (w, _) => k.run P w
        | .error h => .halt h v) = .ok b v' → v.drawn ≤ v'.drawn := by
      intro hr
      split at hr
      · split at hr
        · cases hr
        · have := ih h _ _ _ hr
          exact this
      · split at hr
        · rename_i w' l hf
          have hd : w'.drawn = v.drawn := by
            unfold World.farStore at hf
            split at hf
            · cases hl : v.viewStore P _ _ a x (m == Mode.atomic) with
              | error e => rw [hl] at hf; cases hf
              | ok r =>
                rw [hl] at hf
                injection hf with hf
                subst hf
                unfold World.viewStore at hl
                simp only [bind, Except.bind, pure, Except.pure, throw, throwThe, MonadExceptOf.throw] at hl
                repeat' split at hl
                all_goals first
                  | (cases hl; done)
                  | (injection hl with hl; injection hl with h1 h2; subst h1; rfl)
            · cases hf
          have := ih h _ _ _ hr
          omega
        · cases hr
    cases x
    case agg => cases hr
    case tuple => cases hr
    all_goals exact key hr
  | new o k ih =>
    intro h v b v' hr
    have hr' : (k v.heap.size).run P { v with heap := v.heap.push o } = .ok b v' := hr
    have := ih _ (h _) _ _ _ hr'
    exact this
  | shape r k ih => intro h v b v' hr; exact ih _ (h.2 _) _ _ _ hr
  | freeze a n k ih => intro h v b v' hr; exact (dead_run (s := .freeze a n k) h hr).elim
  | frozen a k ih => intro h v b v' hr; exact ih _ (h _) _ _ _ hr
  | getObj r k ih =>
    intro h v b v' hr
    unfold Sem.run at hr
    split at hr
    · cases hr
    · exact ih _ (h _) _ _ _ hr
    · cases hr
  | setObj r o k ih => intro h v b v' hr; exact (dead_run (s := .setObj r o k) h hr).elim
  | choose q k ih =>
    intro h v b v' hr
    unfold Sem.run at hr
    split at hr
    · exact ih _ (h _) _ _ _ hr
    · have := ih _ (h _) _ _ _ hr
      exact Nat.le_trans (Nat.le_succ _) this
  | sys c k ih => intro h; exact h.elim
  | program k ih => intro h v b v' hr; exact ih _ h _ _ _ hr
  | mark m k ih => intro h v b v' hr; exact ih h.2 _ _ _ hr
  | halt x => intro h v b v' hr; cases hr
/-- The tapes say the same as long as v draws. -/
def Agr (v w : World) (n : Nat) : Prop := ∀ i q, v.drawn + i < n → v.tape (v.drawn + i) q = w.tape (w.drawn + i) q
theorem Agr.go {v w v1 w1 : World} {n c : Nat} (h : Agr v w n) (tv : v1.tape = v.tape) (tw : w1.tape = w.tape) (dv : v1.drawn = v.drawn + c) (dw : w1.drawn = w.drawn + c) : Agr v1 w1 n := fun i q hi => by
  rw [tv, tw, dv, dw, Nat.add_assoc, Nat.add_assoc]
  exact h (c + i) q (by omega)
/-- What the walk in w comes to. -/
def Done {α : Type} (X Xo : Nat → Prop) (P : Program) (Q : α → Prop) (s : Sem α) (v w : World) (es : Array Event) (a : α) (v' : World) : Prop :=
  ∃ w' es', s.runT P w es = (.ok a w', es') ∧ Q a ∧ Mv X Xo v w v' w' ∧ ∀ e ∈ es', e ∈ es ∨ EvS X Xo w'.heap.size e
theorem Done.on {α : Type} {Q : α → Prop} {s s0 : Sem α} {v w v1 w1 : World} {es es1 : Array Event} {a : α} {v' : World} (h : Done X Xo P Q s v1 w1 es1 a v') (hr : s0.runT P w es = s.runT P w1 es1) (hm : Mv X Xo v w v1 w1) (he : ∀ e ∈ es1, e ∈ es ∨ EvS X Xo w1.heap.size e) : Done X Xo P Q s0 v w es a v' := by
  obtain ⟨w', es', h1, h2, h3, h4⟩ := h
  refine ⟨w', es', hr.trans h1, h2, hm.trans h3, fun e hm => ?_⟩
  rcases h4 e hm with g | g
  · exact (he e g).imp id fun g => g.mono h3.sz
  · exact .inr g
theorem evS_cell {B : Nat} {a : Addr} {x y : Bool} (h : a.block < B) (hX : ¬ X a.block) : EvS X Xo B ⟨.cell a, x, y⟩ := ⟨evG_cell h, (fun b e => by injection e with e; subst e; exact hX), (fun r e => by cases e)⟩
theorem mem_pushS {es : Array Event} {x e : Event} {B : Nat} (hx : EvS X Xo B x) (h : e ∈ es.push x) : e ∈ es ∨ EvS X Xo B e := by
  rcases Array.mem_push.1 h with h | rfl
  · exact .inl h
  · exact .inr hx
theorem mem_cellsS {es : Array Event} {l : List Addr} {x y : Bool} {e : Event} {B : Nat} (hl : ∀ a ∈ l, a.block < B ∧ ¬ X a.block) (h : e ∈ es ++ l.toArray.map (fun a => (⟨.cell a, x, y⟩ : Event))) : e ∈ es ∨ EvS X Xo B e := by
  rcases Array.mem_append.1 h with h | h
  · exact .inl h
  · obtain ⟨a, ha, rfl⟩ := Array.mem_map.1 h
    have := hl a (by simpa using ha)
    exact .inr (evS_cell this.1 this.2)
theorem run_poi {α : Type} {Q : α → Prop} : ∀ (s : Sem α), Tz P Q s → ∀ (v w : World) (es : Array Event), Poi X v w → Chs Xo w → ∀ (a : α) (v' : World), s.run P v = .ok a v' → Agr v w v'.drawn → Done X Xo P Q s v w es a v' := by
  intro s
  induction s with
  | pure a =>
    intro h v w es hp hc b v' hr _
    simp only [Sem.run] at hr
    cases hr
    exact ⟨w, es, rfl, h, Mv.refl hp hc, fun e he => .inl he⟩
  | load m a k ih =>
    intro h v w es hp hc b v' hr hg
    unfold Sem.run at hr
    split at hr
    · rename_i x hx
      obtain ⟨nX, hw⟩ := poi_cell hp hx
      refine (ih x (h x) v w (es.push ⟨.cell a, false, m == Mode.atomic⟩) hp hc b v' hr hg).on ?_ (Mv.refl hp hc) fun e he => mem_pushS (evS_cell (lt_of_cell hw) nX) he
      rw [Sem.runT, hw]
    · split at hr
      · rename_i x l hf
        obtain ⟨hw, hf', nX⟩ := farLoad_poi hp hf
        refine (ih x (h x) v w (es ++ l.toArray.map (fun y => (⟨.cell y, false, m == Mode.atomic⟩ : Event))) hp hc b v' hr hg).on ?_ (Mv.refl hp hc) fun e he => mem_cellsS (fun y hy => ⟨farLoad_low hf' y hy, nX y hy⟩) he
        rw [Sem.runT, hw]
        dsimp only
        rw [hf']
      · cases hr
  | store m a x k ih =>
    intro h v w es hp hc b v' hr hg
    have key : (match v.cell? a with
      | some _ => if v.frozen? a then Result.halt (.unsupported (.unsafePointer "a write to bytes that a string shares")) v else k.run P (v.setCell a x)
      | none => match v.farStore P a x (m == Mode.atomic) with
        | .ok (w, _) => k.run P w
        | .error h => .halt h v) = .ok b v' → ∀ R : Result α × Array Event, R = (match w.cell? a with
      | some _ =>
        if w.frozen? a then (Result.halt (.unsupported (.unsafePointer "a write to bytes that a string shares")) w, es)
        else k.runT P (w.setCell a x) (es.push ⟨.cell a, true, m == Mode.atomic⟩)
      | none => match w.farStore P a x (m == Mode.atomic) with
        | .ok (w, touched) => k.runT P w (es ++ touched.toArray.map (⟨.cell ·, true, m == Mode.atomic⟩))
        | .error h => (.halt h w, es)) → (Sem.store m a x k).runT P w es = R → Done X Xo P Q (.store m a x k) v w es b v' := by
      intro hr R hR hS
      split at hr
      · rename_i y hy
        obtain ⟨nX, hw⟩ := poi_cell hp hy
        rw [poi_frozen hp] at hr
        split at hr
        · cases hr
        · rename_i hz
          rw [hw] at hR
          dsimp only at hR
          rw [if_neg hz] at hR
          have hs : (w.setCell a x).heap.size = w.heap.size := by unfold World.setCell; split <;> simp
          refine (ih h (v.setCell a x) (w.setCell a x) (es.push ⟨.cell a, true, m == Mode.atomic⟩) (poi_setC hp nX x) (chs_setC hc hw x) b v' hr (hg.go (c := 0) rfl rfl rfl rfl)).on (hS.trans hR) ⟨poi_setC hp nX x, chs_setC hc hw x, rfl, rfl, ⟨0, rfl, rfl⟩, by omega⟩ fun e he => mem_pushS (evS_cell (by rw [hs]; exact lt_of_cell hw) nX) he
      · split at hr
        · rename_i v1 l hf
          obtain ⟨g, c, t, fr, rfl, hw, hf', nX, ⟨c', t', fr', hcg⟩, nl⟩ := farStore_poi hp hf
          rw [hw] at hR
          dsimp only at hR
          rw [hf'] at hR
          dsimp only at hR
          have hl := (farStore_low hf').2
          refine (ih h { v with heap := v.heap.setIfInBounds g (.cells c t fr) } { w with heap := w.heap.setIfInBounds g (.cells c t fr) } (es ++ l.toArray.map (fun y => (⟨.cell y, true, m == Mode.atomic⟩ : Event))) (poi_setI hp nX _) (chs_setI hc hcg _) b v' hr (hg.go (c := 0) rfl rfl rfl rfl)).on (hS.trans hR) ⟨poi_setI hp nX _, chs_setI hc hcg _, rfl, rfl, ⟨0, rfl, rfl⟩, by simp⟩ fun e he => mem_cellsS (fun y hy => ⟨by simpa using hl y hy, nl y hy⟩) he
        · cases hr
    cases x
    case agg => cases hr
    case tuple => cases hr
    all_goals exact key hr _ rfl rfl
  | new o k ih =>
    intro h v w es hp hc b v' hr hg
    have hr' : (k v.heap.size).run P { v with heap := v.heap.push o } = .ok b v' := hr
    rw [hp.size] at hr'
    exact (ih w.heap.size (h _) _ { w with heap := w.heap.push o } es (poi_push hp o) (chs_push hc o) b v' hr' (hg.go (c := 0) rfl rfl rfl rfl)).on rfl ⟨poi_push hp o, chs_push hc o, rfl, rfl, ⟨0, rfl, rfl⟩, by simp⟩ fun e he => .inl he
  | shape r k ih =>
    intro h v w es hp hc b v' hr hg
    have hr' : (k (v.shape? r)).run P v = .ok b v' := hr
    have e : (k (v.shape? r)) = k (w.shape? r) := by
      unfold World.shape?
      by_cases hX : X r
      · unfold World.shape? at hr'
        rw [hp.bad r hX] at hr' ⊢
        cases ho : w.heap[r]? with
        | none => rfl
        | some o =>
          rw [ho] at hr'
          cases o <;> try rfl
          rename_i c t fr
          rcases h.1 t with g | g
          · exact g _ _
          · exact (dead_run g hr').elim
      · rw [hp.same r hX]
    rw [e] at hr'
    exact (ih _ (h.2 _) v w es hp hc b v' hr' hg).on rfl (Mv.refl hp hc) fun e he => .inl he
  | freeze a n k ih => intro h v w es hp hc b v' hr _; exact (dead_run (s := .freeze a n k) h hr).elim
  | frozen a k ih =>
    intro h v w es hp hc b v' hr hg
    have hr' : (k (v.frozen? a)).run P v = .ok b v' := hr
    rw [poi_frozen hp] at hr'
    exact (ih _ (h _) v w es hp hc b v' hr' hg).on rfl (Mv.refl hp hc) fun e he => .inl he
  | getObj r k ih =>
    intro h v w es hp hc b v' hr hg
    unfold Sem.run at hr
    split at hr
    · cases hr
    · rename_i o hn ho
      have hw := poi_get hp ho (fun c t fr e => hn c t fr e)
      refine (ih o (h o) v w (es.push ⟨.obj r, false, o.isChan⟩) hp hc b v' hr hg).on ?_ (Mv.refl hp hc) fun e he => mem_pushS ⟨evG_obj (lt_of_get hw), (fun a e => by cases e), fun r' e hx => ?_⟩ he
      · rw [Sem.runT, hw]
        cases o <;> first | rfl | exact (hn _ _ _ rfl).elim
      · injection e with e
        subst e
        obtain ⟨o', h1, h2⟩ := hc _ hx
        rw [hw] at h1
        injection h1 with h1
        subst h1
        exact h2
    · cases hr
  | setObj r o k ih => intro h v w es hp hc b v' hr _; exact (dead_run (s := .setObj r o k) h hr).elim
  | choose q k ih =>
    intro h v w es hp hc b v' hr hg
    unfold Sem.run at hr
    split at hr
    · rename_i hq
      refine (ih _ (h _) v w es hp hc b v' hr hg).on ?_ (Mv.refl hp hc) fun e he => .inl he
      rw [Sem.runT, if_pos hq]
    · rename_i hq
      have hd := run_drawn _ (h _) _ _ _ hr
      have hd' : v.drawn + 1 ≤ v'.drawn := hd
      have e0 : v.tape v.drawn q = w.tape w.drawn q := by
        have := hg 0 q (by omega)
        simpa using this
      rw [e0] at hr
      have hp1 : Poi X { v with drawn := v.drawn + 1 } { w with drawn := w.drawn + 1 } := poi_tape hp rfl rfl rfl rfl rfl rfl
      refine (ih _ (h _) { v with drawn := v.drawn + 1 } { w with drawn := w.drawn + 1 } es hp1 hc b v' hr (hg.go (c := 1) rfl rfl rfl rfl)).on ?_ ⟨hp1, hc, rfl, rfl, ⟨1, rfl, rfl⟩, Nat.le_refl _⟩ fun e he => .inl he
      rw [Sem.runT, if_neg hq]
  | sys c k ih => intro h; exact h.elim
  | program k ih =>
    intro h v w es hp hc b v' hr hg
    exact (ih P h v w es hp hc b v' hr hg).on rfl (Mv.refl hp hc) fun e he => .inl he
  | mark m k ih =>
    intro h v w es hp hc b v' hr hg
    obtain ⟨rfl, h⟩ := h
    exact (ih h v w (es.push ⟨.mark .noRoom, false, true⟩) hp hc b v' hr hg).on rfl (Mv.refl hp hc) fun e he => mem_pushS (x := ⟨.mark .noRoom, false, true⟩) ⟨⟨trivial, (fun m e => by cases e; rfl)⟩, (fun a e => by cases e), (fun r e => by cases e)⟩ he
  | halt x => intro h v w es hp hc b v' hr; cases hr
end
end Go.Proofs.YtpajdmhgonmgoaaDoor

namespace Go.Proofs.YtpajdmhgonmgoaaDoor
open Go.RowKit
set_option linter.unusedVariables false
open Go.Conc
set_option linter.unusedSimpArgs false
def tameC (S : FuncId → Bool) : Code → Bool
  | .skip | .ret | .exit _ | .label _ => true
  | .seq a b => tameC S a && tameC S b
  | .cond _ a b => tameC S a && tameC S b
  | .block _ c => tameC S c
  | .loop c => tameC S c
  | .region _ ops _ => ops.toList.all (tameO S)
  | _ => false
def tameI (S : FuncId → Bool) : Item → Bool
  | .code c => tameC S c
  | .inRegion ops _ => ops.toList.all (tameO S)
  | .inBlock _ => true
  | .inLoop c => tameC S c
  | _ => false
def tameL (S : FuncId → Bool) (l : List Item) : Bool := l.all (tameI S)
theorem tameL_cons {S : FuncId → Bool} {x : Item} {l : List Item} : tameL S (x :: l) = true ↔ tameI S x = true ∧ tameL S l = true := by simp [tameL]
theorem exitTo_tame {S : FuncId → Bool} {id : Nat} : ∀ {l t : List Item}, exitTo id l = some t → tameL S l = true → tameL S t = true := by
  intro l
  induction l with
  | nil => intro t h _; cases h
  | cons x r ih =>
    intro t h hl
    obtain ⟨h1, h2⟩ := tameL_cons.1 hl
    cases x <;> first
      | (simp only [exitTo] at h; exact ih h h2)
      | (simp only [exitTo] at h
         split at h
         · injection h with h; subst h; exact h2
         · exact ih h h2)
theorem exitTo_app {id : Nat} (k : List Item) : ∀ {l t : List Item}, exitTo id l = some t → exitTo id (l ++ k) = some (t ++ k) := by
  intro l
  induction l with
  | nil => intro t h; cases h
  | cons x r ih =>
    intro t h
    cases x <;> first
      | (simp only [exitTo, List.cons_append] at h ⊢; exact ih h)
      | (simp only [exitTo, List.cons_append] at h ⊢
         split at h
         · rename_i c; injection h with h; subst h; rw [if_pos c]
         · rename_i c; rw [if_neg c]; exact ih h)
/-- What is asked of a program for its tame runs. -/
structure Mild (P : Program) (S : FuncId → Bool) : Prop where
  bodies : ∀ f, S f = true → ∃ fn c, P.funcs[f]? = some fn ∧ (fn.name == "runtime.NumGoroutine") = false ∧ fn.body = some c ∧ tameC S c = true
  steps : ∀ g, P.stepOf g = none
  ahead : P.follows .staticDataAhead = true
theorem Mild.bodied {P : Program} {S : FuncId → Bool} (h : Mild P S) : Bodied P S := fun f hf => by
  obtain ⟨fn, c, h1, h2, h3, _⟩ := h.bodies f hf
  exact ⟨fn, h1, h2, by rw [h3]; rfl⟩
section
variable {P : Program} {S : FuncId → Bool}
/-- What one step of a tame frame can be. -/
def StepF (P : Program) (S : FuncId → Bool) (b : Frame) (a : Act) (t : List Item) (w : World) : Prop :=
  (∃ a' t' w' es, tameL S t' = true ∧ w.heap.size ≤ w'.heap.size ∧ (∀ e ∈ es, EvG w'.heap.size e) ∧ (a.defers = [] → a'.defers = []) ∧ ∀ k cs, stepG P true (G (b.at a (t ++ k)) cs) w = .go (G (b.at a' (t' ++ k)) cs) w' es) ∨
  (∃ f args w' es, S f = true ∧ w.heap.size ≤ w'.heap.size ∧ (∀ e ∈ es, EvG w'.heap.size e) ∧ (∃ ops i rest r, t = .inRegion ops (i :: rest) :: r) ∧ ∀ k cs, stepG P true (G (b.at a (t ++ k)) cs) w = .go (G (Frame.enter P f args .normal) (b.at a (t ++ k) :: cs)) w' es) ∨
  (∃ ch w' es, ∀ k cs, stepG P true (G (b.at a (t ++ k)) cs) w = .go (G { b.at a (t ++ k) with mode := .panicking ch } cs) w' es) ∨
  (∀ k cs, stepG P true (G (b.at a (t ++ k)) cs) w = .go (G { b.at a (t ++ k) with mode := .returning } cs) w #[]) ∨
  (∀ cs, ∃ o w' es, stepG P true (G (b.at a t) cs) w = .ended o w' es)
theorem stepF_ctl {b : Frame} {a : Act} {t t' : List Item} {w : World} (h : tameL S t' = true) (hs : ∀ k cs, stepG P true (G (b.at a (t ++ k)) cs) w = .go (G (b.at a (t' ++ k)) cs) w #[]) : StepF P S b a t w :=
  Or.inl ⟨a, t', w, #[], h, Nat.le_refl _, fun e he => by simp at he, id, hs⟩
theorem stepF_op (M : Mild P S) {b : Frame} (hk : b.kind ≠ .early) {a : Act} {ops : Array Oper} {i : Nat} {rest : List Nat} {r : List Item} {w : World} (ht : tameL S (.inRegion ops (i :: rest) :: r) = true) : StepF P S b a (.inRegion ops (i :: rest) :: r) w := by
  obtain ⟨h1, h2⟩ := tameL_cons.1 ht
  have h3 : tameL S (.inRegion ops rest :: r) = true := tameL_cons.2 ⟨h1, h2⟩
  have hfin : ∀ (k : List Item) (v : Value), (b.at a (.inRegion ops (i :: rest) :: k)).finish v = b.at (a.put ((ops[i]?).bind (·.dst)) v) (.inRegion ops rest :: k) := fun k v => Frame.finish_at b a ops i rest k v
  have hdef : ∀ (o : Option Tmp) (v : Value), a.defers = [] → (a.put o v).defers = [] := fun o v h => by cases o <;> exact h
  cases hop : ops[i]? with
  | none =>
    refine Or.inl ⟨a.put ((ops[i]?).bind (·.dst)) undef, .inRegion ops rest :: r, w, #[], h3, Nat.le_refl _, fun e he => by simp at he, hdef _ _, fun k cs => ?_⟩
    rw [List.cons_append, List.cons_append, ← hfin]
    simp [G, stepG, stepG.exec, Frame.at, hop]
  | some o =>
    by_cases hw : Region.wanted o (yielded ops a.tmps) = true
    · have ho : tameO S o = true := (List.all_eq_true.1 h1) o (Array.mem_toList_iff.2 (Array.mem_of_getElem? hop))
      obtain ⟨w', hsz, hend, hev⟩ := tame_ends (execOp a.eval o) w #[] (tame_exec M.bodied a o ho)
      have hev' : ∀ e ∈ listed P b.fn a o w, EvG w'.heap.size e := fun e he => by
        rcases hev e (mem_listed he) with h | h
        · simp at h
        · exact h
      have run1 : (execOp a.eval o).run P w = ((execOp a.eval o).runT P w #[]).1 := (Sem.runT_fst _ _ _ _).symm
      rcases hend with ⟨n, hr, hn⟩ | ⟨x, hr, hx⟩
      · rw [← run1] at hr
        rcases hn with ⟨v, rfl⟩ | rfl | ⟨f, args, rfl, hf⟩
        · exact Or.inl ⟨a.put o.dst v, .inRegion ops rest :: r, w', _, h3, hsz, hev', hdef _ _, fun k cs => stepG_value hop hw hk hr⟩
        · exact Or.inl ⟨a.put o.dst undef, .inRegion ops rest :: r, w', _, h3, hsz, hev', hdef _ _, fun k cs => stepG_none hop hw hk hr⟩
        · exact Or.inr (Or.inl ⟨f, args, w', _, hf, hsz, hev', ⟨_, _, _, _, rfl⟩, fun k cs => stepG_enter hop hw hk hr⟩)
      · rw [← run1] at hr
        have hk' : (b.kind == CallKind.early) = false := by simpa using hk
        rcases hx with ⟨v, rfl⟩ | ⟨s, rfl⟩ | ⟨u, rfl⟩
        · refine Or.inr (Or.inr (Or.inl ⟨[{ v, recovered := false }], w', seen P b.fn ((execOp a.eval o).events P w #[]), fun k cs => ?_⟩))
          rw [List.cons_append, stepG_oper hop hw]
          simp [stepG.apply, hr, G, Frame.at, hk', GStep.after, Frame.raise]
        · refine Or.inr (Or.inr (Or.inr (Or.inr fun cs => ?_)))
          rw [stepG_oper hop hw]
          simp [stepG.apply, hr, G, Frame.at, hk', GStep.after]
        · refine Or.inr (Or.inr (Or.inr (Or.inr fun cs => ?_)))
          rw [stepG_oper hop hw]
          cases u <;> first
            | (simp [stepG.apply, hr, G, Frame.at, hk', GStep.after]; done)
            | (simp [stepG.apply, hr, G, Frame.at, hk', GStep.after, early, M.ahead, M.steps])
    · refine Or.inl ⟨a.put o.dst undef, .inRegion ops rest :: r, w, #[], h3, Nat.le_refl _, fun e he => by simp at he, hdef _ _, fun k cs => ?_⟩
      exact stepG_unwanted hop (by simpa using hw)
theorem step_frame (M : Mild P S) {b : Frame} (hk : b.kind ≠ .early) {a : Act} {x : Item} {r : List Item} {w : World} (ht : tameL S (x :: r) = true) : StepF P S b a (x :: r) w := by
  obtain ⟨h1, h2⟩ := tameL_cons.1 ht
  cases x with
  | inBlock id => exact stepF_ctl h2 fun k cs => stepG_inBlock
  | inLoop c => exact stepF_ctl (t' := .code c :: .inLoop c :: r) (tameL_cons.2 ⟨h1, ht⟩) fun k cs => stepG_inLoop
  | inRegion ops l =>
    cases l with
    | nil => exact stepF_ctl h2 fun k cs => stepG_region_end
    | cons i rest => exact stepF_op M hk ht
  | code c =>
    cases c with
    | skip => exact stepF_ctl h2 fun k cs => stepG_skip
    | label l => exact stepF_ctl h2 fun k cs => stepG_label
    | ret => exact Or.inr (Or.inr (Or.inr (Or.inl fun k cs => stepG_ret')))
    | seq p q =>
      have h3 : tameC S p = true ∧ tameC S q = true := by simpa [tameI, tameC] using h1
      exact stepF_ctl (t' := .code p :: .code q :: r) (tameL_cons.2 ⟨h3.1, tameL_cons.2 ⟨h3.2, h2⟩⟩) fun k cs => stepG_seq
    | block id p => exact stepF_ctl (t' := .code p :: .inBlock id :: r) (tameL_cons.2 ⟨by simpa [tameI, tameC] using h1, tameL_cons.2 ⟨rfl, h2⟩⟩) fun k cs => stepG_block
    | loop p => exact stepF_ctl (t' := .code p :: .inLoop p :: r) (tameL_cons.2 ⟨by simpa [tameI, tameC] using h1, tameL_cons.2 ⟨by simpa [tameI, tameC] using h1, h2⟩⟩) fun k cs => stepG_loop
    | exit id =>
      cases he : exitTo id r with
      | some t' => exact stepF_ctl (exitTo_tame he h2) fun k cs => stepG_exit (exitTo_app k he)
      | none =>
        refine Or.inr (Or.inr (Or.inr (Or.inr fun cs => ?_)))
        simp [G, stepG, stepG.exec, Frame.at, he]
    | cond c p q =>
      have h3 : tameC S p = true ∧ tameC S q = true := by simpa [tameI, tameC] using h1
      by_cases hc : ∃ t, a.eval c = .bool t
      · obtain ⟨t, hc⟩ := hc
        refine stepF_ctl (t' := .code (if t then p else q) :: r) (tameL_cons.2 ⟨?_, h2⟩) fun k cs => stepG_cond hc
        cases t
        · exact h3.2
        · exact h3.1
      · refine Or.inr (Or.inr (Or.inr (Or.inr fun cs => ?_)))
        have he := Frame.eval_at b a (.code (.cond c p q) :: r) c
        simp only [Frame.at] at he
        cases hv : a.eval c <;> first
          | (exact (hc ⟨_, hv⟩).elim)
          | simp [G, stepG, stepG.exec, Frame.at, he, hv]
    | region id ops draw =>
      cases draw with
      | false => exact stepF_ctl (t' := .inRegion ops (List.range ops.size) :: r) (tameL_cons.2 ⟨by simpa [tameI, tameC] using h1, h2⟩) fun k cs => stepG_region
      | true =>
        exact Or.inl ⟨a, .inRegion ops (Region.schedule (P.follows .mixedOrders) ops (w.tape w.drawn (.order b.fn id))) :: r, { w with drawn := w.drawn + 1 }, #[], tameL_cons.2 ⟨by simpa [tameI, tameC] using h1, h2⟩, Nat.le_refl _, fun e he => by simp at he, fun h => h, fun k cs => stepG_region_draw⟩
    | _ => simp [tameI, tameC] at h1
  | _ => simp [tameI] at h1
end
end Go.Proofs.YtpajdmhgonmgoaaDoor

namespace Go.Proofs.YtpajdmhgonmgoaaDoor
open Go.RowKit
set_option linter.unusedVariables false
open Go.Conc
set_option linter.unusedSimpArgs false
def zC (P : Program) (S : FuncId → Bool) : Code → Bool
  | .skip | .ret | .exit _ | .label _ => true
  | .seq a b => zC P S a && zC P S b
  | .cond _ a b => zC P S a && zC P S b
  | .block _ c => zC P S c
  | .loop c => zC P S c
  | .region _ ops _ => ops.toList.all (zO P S)
  | _ => false
def zI (P : Program) (S : FuncId → Bool) : Item → Bool
  | .code c => zC P S c
  | .inRegion ops _ => ops.toList.all (zO P S)
  | .inBlock _ => true
  | .inLoop c => zC P S c
  | _ => false
def zL (P : Program) (S : FuncId → Bool) (l : List Item) : Bool := l.all (zI P S)
theorem zL_cons {P : Program} {S : FuncId → Bool} {x : Item} {l : List Item} : zL P S (x :: l) = true ↔ zI P S x = true ∧ zL P S l = true := by simp [zL]
theorem exitTo_z {P : Program} {S : FuncId → Bool} {id : Nat} : ∀ {l t : List Item}, exitTo id l = some t → zL P S l = true → zL P S t = true := by
  intro l
  induction l with
  | nil => intro t h _; cases h
  | cons x r ih =>
    intro t h hl
    obtain ⟨h1, h2⟩ := zL_cons.1 hl
    cases x <;> first
      | (simp only [exitTo] at h; exact ih h h2)
      | (simp only [exitTo] at h
         split at h
         · injection h with h; subst h; exact h2
         · exact ih h h2)
/-- What is asked of a program for its runs beside leavers. -/
structure MildZ (P : Program) (S : FuncId → Bool) : Prop where
  bodies : ∀ f, S f = true → ∃ fn c, P.funcs[f]? = some fn ∧ (fn.name == "runtime.NumGoroutine") = false ∧ fn.body = some c ∧ zC P S c = true
  steps : ∀ g, P.stepOf g = none
  ahead : P.follows .staticDataAhead = true
theorem MildZ.bodied {P : Program} {S : FuncId → Bool} (h : MildZ P S) : Bodied P S := fun f hf => by
  obtain ⟨fn, c, h1, h2, h3, _⟩ := h.bodies f hf
  exact ⟨fn, h1, h2, by rw [h3]; rfl⟩
/-- A step at v is one at each w that v empties, on a tape that says the same. -/
def Rel (P : Program) (X Xo : Nat → Prop) (g g' : List Item → List Frame → Goroutine) (v v' : World) : Prop :=
  ∀ w, Poi X v w → Chs Xo w → Agr v w v'.drawn → ∃ w' es, (∀ k cs, stepG P true (g k cs) w = .go (g' k cs) w' es) ∧ Mv X Xo v w v' w' ∧ ∀ e ∈ es, EvS X Xo w'.heap.size e
theorem rel_ctl {P : Program} {X Xo : Nat → Prop} {g g' : List Item → List Frame → Goroutine} {v : World} (h : ∀ w k cs, stepG P true (g k cs) w = .go (g' k cs) w #[]) : Rel P X Xo g g' v v :=
  fun w hp hc _ => ⟨w, #[], h w, Mv.refl hp hc, fun e he => by simp at he⟩
/-- So at each choice of rows. -/
def RelA (P : Program) (g g' : List Item → List Frame → Goroutine) (v v' : World) : Prop := ∀ X Xo, Rel P X Xo g g' v v'
theorem relA_ctl {P : Program} {g g' : List Item → List Frame → Goroutine} {v : World} (h : ∀ w k cs, stepG P true (g k cs) w = .go (g' k cs) w #[]) : RelA P g g' v v := fun _ _ => rel_ctl h
section
variable {P : Program} {S : FuncId → Bool}
/-- What one step of such a frame can be. -/
def StepZ (P : Program) (S : FuncId → Bool) (b : Frame) (a : Act) (t : List Item) (v : World) : Prop :=
  (∃ a' t' v' es, zL P S t' = true ∧ (a.defers = [] → a'.defers = []) ∧ (∀ k cs, stepG P true (G (b.at a (t ++ k)) cs) v = .go (G (b.at a' (t' ++ k)) cs) v' es) ∧ RelA P (fun k cs => G (b.at a (t ++ k)) cs) (fun k cs => G (b.at a' (t' ++ k)) cs) v v') ∨
  (∃ f args v' es, S f = true ∧ (∃ ops i rest r, t = .inRegion ops (i :: rest) :: r) ∧ (∀ k cs, stepG P true (G (b.at a (t ++ k)) cs) v = .go (G (Frame.enter P f args .normal) (b.at a (t ++ k) :: cs)) v' es) ∧ RelA P (fun k cs => G (b.at a (t ++ k)) cs) (fun k cs => G (Frame.enter P f args .normal) (b.at a (t ++ k) :: cs)) v v') ∨
  (∃ ch w' es, ∀ k cs, stepG P true (G (b.at a (t ++ k)) cs) v = .go (G { b.at a (t ++ k) with mode := .panicking ch } cs) w' es) ∨
  (∀ w k cs, stepG P true (G (b.at a (t ++ k)) cs) w = .go (G { b.at a (t ++ k) with mode := .returning } cs) w #[]) ∨
  (∀ cs, ∃ o w' es, stepG P true (G (b.at a t) cs) v = .ended o w' es)
theorem stepZ_ctl {b : Frame} {a : Act} {t t' : List Item} {v : World} (h : zL P S t' = true) (hs : ∀ w k cs, stepG P true (G (b.at a (t ++ k)) cs) w = .go (G (b.at a (t' ++ k)) cs) w #[]) : StepZ P S b a t v :=
  Or.inl ⟨a, t', v, #[], h, id, hs v, relA_ctl hs⟩
theorem stepZ_op (M : MildZ P S) {b : Frame} (hk : b.kind ≠ .early) {a : Act} {ops : Array Oper} {i : Nat} {rest : List Nat} {r : List Item} {v : World} (ht : zL P S (.inRegion ops (i :: rest) :: r) = true) : StepZ P S b a (.inRegion ops (i :: rest) :: r) v := by
  obtain ⟨h1, h2⟩ := zL_cons.1 ht
  have h3 : zL P S (.inRegion ops rest :: r) = true := zL_cons.2 ⟨h1, h2⟩
  have hfin : ∀ (k : List Item) (x : Value), (b.at a (.inRegion ops (i :: rest) :: k)).finish x = b.at (a.put ((ops[i]?).bind (·.dst)) x) (.inRegion ops rest :: k) := fun k x => Frame.finish_at b a ops i rest k x
  have hdef : ∀ (o : Option Tmp) (x : Value), a.defers = [] → (a.put o x).defers = [] := fun o x h => by cases o <;> exact h
  cases hop : ops[i]? with
  | none =>
    have hs : ∀ (w : World) (k : List Item) (cs : List Frame), stepG P true (G (b.at a ((.inRegion ops (i :: rest) :: r) ++ k)) cs) w = .go (G (b.at (a.put ((ops[i]?).bind (·.dst)) undef) ((.inRegion ops rest :: r) ++ k)) cs) w #[] := fun w k cs => by
      rw [List.cons_append, List.cons_append, ← hfin]
      simp [G, stepG, stepG.exec, Frame.at, hop]
    exact Or.inl ⟨a.put ((ops[i]?).bind (·.dst)) undef, .inRegion ops rest :: r, v, #[], h3, hdef _ _, hs v, relA_ctl hs⟩
  | some o =>
    by_cases hw : Region.wanted o (yielded ops a.tmps) = true
    · have ho : zO P S o = true := (List.all_eq_true.1 h1) o (Array.mem_toList_iff.2 (Array.mem_of_getElem? hop))
      have hz := z_exec M.bodied a o ho
      obtain ⟨v', _, hend, _⟩ := tame_ends (execOp a.eval o) v #[] hz.tame
      have run1 : (execOp a.eval o).run P v = ((execOp a.eval o).runT P v #[]).1 := (Sem.runT_fst _ _ _ _).symm
      rcases hend with ⟨n, hr, hn⟩ | ⟨x, hr, hx⟩
      · rw [← run1] at hr
        have rel : ∀ (X Xo : Nat → Prop) (w : World), Poi X v w → Chs Xo w → Agr v w v'.drawn → ∃ w', (execOp a.eval o).run P w = .ok n w' ∧ Mv X Xo v w v' w' ∧ ∀ e ∈ listed P b.fn a o w, EvS X Xo w'.heap.size e := fun X Xo w hp hc hg => by
          obtain ⟨w', es', q1, _, q3, q4⟩ := run_poi (execOp a.eval o) hz v w #[] hp hc n v' hr hg
          refine ⟨w', ?_, q3, fun e he => ?_⟩
          · rw [← Sem.runT_fst P _ w #[], q1]
          · have he' : e ∈ (execOp a.eval o).events P w #[] := mem_listed he
            have e2 : (execOp a.eval o).events P w #[] = es' := by
              show ((execOp a.eval o).runT P w #[]).2 = es'
              rw [q1]
            rw [e2] at he'
            rcases q4 e he' with h | h
            · simp at h
            · exact h
        rcases hn with ⟨x, rfl⟩ | rfl | ⟨f, args, rfl, hf⟩
        · exact Or.inl ⟨a.put o.dst x, .inRegion ops rest :: r, v', _, h3, hdef _ _, fun k cs => stepG_value hop hw hk hr, fun X Xo w hp hc hg => by
            obtain ⟨w', q1, q2, q3⟩ := rel X Xo w hp hc hg
            exact ⟨w', _, fun k cs => stepG_value hop hw hk q1, q2, q3⟩⟩
        · exact Or.inl ⟨a.put o.dst undef, .inRegion ops rest :: r, v', _, h3, hdef _ _, fun k cs => stepG_none hop hw hk hr, fun X Xo w hp hc hg => by
            obtain ⟨w', q1, q2, q3⟩ := rel X Xo w hp hc hg
            exact ⟨w', _, fun k cs => stepG_none hop hw hk q1, q2, q3⟩⟩
        · exact Or.inr (Or.inl ⟨f, args, v', _, hf, ⟨_, _, _, _, rfl⟩, fun k cs => stepG_enter hop hw hk hr, fun X Xo w hp hc hg => by
            obtain ⟨w', q1, q2, q3⟩ := rel X Xo w hp hc hg
            exact ⟨w', _, fun k cs => stepG_enter hop hw hk q1, q2, q3⟩⟩)
      · rw [← run1] at hr
        have hk' : (b.kind == CallKind.early) = false := by simpa using hk
        rcases hx with ⟨x, rfl⟩ | ⟨s, rfl⟩ | ⟨u, rfl⟩
        · refine Or.inr (Or.inr (Or.inl ⟨[{ v := x, recovered := false }], v', seen P b.fn ((execOp a.eval o).events P v #[]), fun k cs => ?_⟩))
          rw [List.cons_append, stepG_oper hop hw]
          simp [stepG.apply, hr, G, Frame.at, hk', GStep.after, Frame.raise]
        · refine Or.inr (Or.inr (Or.inr (Or.inr fun cs => ?_)))
          rw [stepG_oper hop hw]
          simp [stepG.apply, hr, G, Frame.at, hk', GStep.after]
        · refine Or.inr (Or.inr (Or.inr (Or.inr fun cs => ?_)))
          rw [stepG_oper hop hw]
          cases u <;> first
            | (simp [stepG.apply, hr, G, Frame.at, hk', GStep.after]; done)
            | (simp [stepG.apply, hr, G, Frame.at, hk', GStep.after, early, M.ahead, M.steps])
    · have hs : ∀ (w : World) (k : List Item) (cs : List Frame), stepG P true (G (b.at a ((.inRegion ops (i :: rest) :: r) ++ k)) cs) w = .go (G (b.at (a.put o.dst undef) ((.inRegion ops rest :: r) ++ k)) cs) w #[] := fun w k cs => stepG_unwanted hop (by simpa using hw)
      exact Or.inl ⟨a.put o.dst undef, .inRegion ops rest :: r, v, #[], h3, hdef _ _, hs v, relA_ctl hs⟩
theorem stepZ_frame (M : MildZ P S) {b : Frame} (hk : b.kind ≠ .early) {a : Act} {x : Item} {r : List Item} {v : World} (ht : zL P S (x :: r) = true) : StepZ P S b a (x :: r) v := by
  obtain ⟨h1, h2⟩ := zL_cons.1 ht
  cases x with
  | inBlock id => exact stepZ_ctl h2 fun w k cs => stepG_inBlock
  | inLoop c => exact stepZ_ctl (t' := .code c :: .inLoop c :: r) (zL_cons.2 ⟨h1, ht⟩) fun w k cs => stepG_inLoop
  | inRegion ops l =>
    cases l with
    | nil => exact stepZ_ctl h2 fun w k cs => stepG_region_end
    | cons i rest => exact stepZ_op M hk ht
  | code c =>
    cases c with
    | skip => exact stepZ_ctl h2 fun w k cs => stepG_skip
    | label l => exact stepZ_ctl h2 fun w k cs => stepG_label
    | ret => exact Or.inr (Or.inr (Or.inr (Or.inl fun w k cs => stepG_ret')))
    | seq p q =>
      have h3 : zC P S p = true ∧ zC P S q = true := by simpa [zI, zC] using h1
      exact stepZ_ctl (t' := .code p :: .code q :: r) (zL_cons.2 ⟨h3.1, zL_cons.2 ⟨h3.2, h2⟩⟩) fun w k cs => stepG_seq
    | block id p => exact stepZ_ctl (t' := .code p :: .inBlock id :: r) (zL_cons.2 ⟨by simpa [zI, zC] using h1, zL_cons.2 ⟨rfl, h2⟩⟩) fun w k cs => stepG_block
    | loop p => exact stepZ_ctl (t' := .code p :: .inLoop p :: r) (zL_cons.2 ⟨by simpa [zI, zC] using h1, zL_cons.2 ⟨by simpa [zI, zC] using h1, h2⟩⟩) fun w k cs => stepG_loop
    | exit id =>
      cases he : exitTo id r with
      | some t' => exact stepZ_ctl (exitTo_z he h2) fun w k cs => stepG_exit (exitTo_app k he)
      | none =>
        refine Or.inr (Or.inr (Or.inr (Or.inr fun cs => ?_)))
        simp [G, stepG, stepG.exec, Frame.at, he]
    | cond c p q =>
      have h3 : zC P S p = true ∧ zC P S q = true := by simpa [zI, zC] using h1
      by_cases hc : ∃ t, a.eval c = .bool t
      · obtain ⟨t, hc⟩ := hc
        refine stepZ_ctl (t' := .code (if t then p else q) :: r) (zL_cons.2 ⟨?_, h2⟩) fun w k cs => stepG_cond hc
        cases t
        · exact h3.2
        · exact h3.1
      · refine Or.inr (Or.inr (Or.inr (Or.inr fun cs => ?_)))
        have he := Frame.eval_at b a (.code (.cond c p q) :: r) c
        simp only [Frame.at] at he
        cases hv : a.eval c <;> first
          | (exact (hc ⟨_, hv⟩).elim)
          | simp [G, stepG, stepG.exec, Frame.at, he, hv]
    | region id ops draw =>
      cases draw with
      | false => exact stepZ_ctl (t' := .inRegion ops (List.range ops.size) :: r) (zL_cons.2 ⟨by simpa [zI, zC] using h1, h2⟩) fun w k cs => stepG_region
      | true =>
        refine Or.inl ⟨a, .inRegion ops (Region.schedule (P.follows .mixedOrders) ops (v.tape v.drawn (.order b.fn id))) :: r, { v with drawn := v.drawn + 1 }, #[], zL_cons.2 ⟨by simpa [zI, zC] using h1, h2⟩, fun h => h, fun k cs => stepG_region_draw, fun X Xo w hp hc hg => ?_⟩
        have e0 : v.tape v.drawn (.order b.fn id) = w.tape w.drawn (.order b.fn id) := by
          have := hg 0 (.order b.fn id) (by show v.drawn + 0 < v.drawn + 1; omega)
          simpa using this
        refine ⟨{ w with drawn := w.drawn + 1 }, #[], fun k cs => ?_, ⟨poi_tape hp rfl rfl rfl rfl rfl rfl, hc, rfl, rfl, ⟨1, rfl, rfl⟩, Nat.le_refl _⟩, fun e he => by simp at he⟩
        rw [e0]
        exact stepG_region_draw
    | _ => simp [zI, zC] at h1
  | _ => simp [zI] at h1
end
end Go.Proofs.YtpajdmhgonmgoaaDoor

