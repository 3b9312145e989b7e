/-
  What the last text of this claim leans on, part 39: La4, La5, La6.
-/
import Derived.Test.YtpajdmhgonmgoaaDoorYs38
import Derived.Conc.CompanyDraw
import Derived.Conc.LoneCalls
namespace Go.Proofs.YtpajdmhgonmgoaaDoor
open Go.RowKit
set_option linter.unusedVariables false
open Go.Conc
set_option linter.unusedSimpArgs false
/-- An operation that says no mark and calls none but S. -/
def tameO (S : FuncId → Bool) (o : Oper) : Bool :=
  match o.op with
  | .move _ | .assign _ | .pick .. | .alloc _ | .box .. | .build .. | .buildSlice .. | .load .. | .store .. | .nilCheck _ | .binOp .. | .unOp .. | .makeInterface .. | .makeSlice .. | .slice .. | .fieldAddr .. | .field .. | .indexAddr .. | .index .. | .extract .. => true
  | .call c => match c.callee with
    | .builtin .len | .builtin .cap | .builtin .append | .builtin .copy => true
    | .value (.func f) => S f
    | _ => false
  | _ => false
def NextOk (S : FuncId → Bool) (n : Next) : Prop := (∃ v, n = .value v) ∨ n = .skip ∨ ∃ f args, n = .enter f args ∧ S f = true
/-- The functions of S have Go bodies. -/
def Bodied (P : Program) (S : FuncId → Bool) : Prop := ∀ f, S f = true → ∃ fn, P.funcs[f]? = some fn ∧ (fn.name == "runtime.NumGoroutine") = false ∧ fn.body.isNone = false
theorem tVal {P : Program} {S : FuncId → Bool} {s : Sem Value} (h : TameT P s) : Tame P (NextOk S) (s >>= fun x => pure (.value x)) := tB h (fun a => Or.inl ⟨a, rfl⟩)
theorem tSki {P : Program} {S : FuncId → Bool} {s : Sem Unit} (h : TameT P s) : Tame P (NextOk S) (s >>= fun _ => pure .skip) := tB h (fun a => Or.inr (Or.inl rfl))
theorem tame_func {P : Program} {S : FuncId → Bool} (hS : Bodied P S) {f : FuncId} (h : S f = true) (args : Array Value) : Tame P (NextOk S) (callFunc f args) := by
  obtain ⟨fn, h1, h2, h3⟩ := hS f h
  unfold callFunc
  show Tame P (NextOk S) (match P.funcs[f]? with
    | none => stuck "call: no such function"
    | some fn => _)
  rw [h1]
  show Tame P (NextOk S) (if (fn.name == "runtime.NumGoroutine") = true then _ else if fn.body.isNone = true then _ else _)
  rw [if_neg (by rw [h2]; decide), if_neg (by rw [h3]; decide)]
  exact Or.inr (Or.inr ⟨f, args, rfl, h⟩)
theorem tame_exec {P : Program} {S : FuncId → Bool} (hS : Bodied P S) (a : Act) (o : Oper) (h : tameO S o = true) : Tame P (NextOk S) (execOp a.eval o) := by
  obtain ⟨dst, op, type, pos, after, guard⟩ := o
  cases op
  case move x => exact Or.inl ⟨_, rfl⟩
  case assign x => exact Or.inl ⟨_, rfl⟩
  case pick c a b => exact tB (tBool _) (fun a => Or.inl ⟨_, rfl⟩)
  case alloc t => exact tVal (tiAlloc _ _ _)
  case box t x => exact tVal (tiBox _ _)
  case build t l => exact tVal (tiBuild _ _)
  case buildSlice t n l => exact tVal (tiBuildS _ _ _)
  case load t a => exact tVal (tiLoad _ _)
  case store t a x => exact tSki (tiStore _ _ _)
  case nilCheck x =>
    show Tame P (NextOk S) (match a.eval x with
      | .pointer none | .nilIface | .nilFunc => runtimePanic .nilDeref
      | .func (.method name) first captured => _
      | x => pure (.value x))
    split
    · exact tRun _
    · exact tRun _
    · exact tRun _
    · rename_i name first captured hh
      split
      · exact tRun _
      · refine tB tProg (fun _ => ?_)
        refine tB (tNilA _ _ _ _) (fun _ => ?_)
        split
        · exact tUns _
        · exact Or.inl ⟨_, rfl⟩
      · exact Or.inl ⟨_, rfl⟩
    · exact Or.inl ⟨_, rfl⟩
  case binOp op t x y u => exact tVal (tB (tGu _ _ _ _ _ _) (fun _ => tBin _ _ _ _))
  case unOp op t x => exact tVal (tUn _ _)
  case makeInterface t x => exact tVal (tiMkI _ _)
  case makeSlice t l c => exact tVal (tiMkS _ _ _)
  case slice t x l hh m => exact tVal (tiSlA _ _ _ _ _)
  case fieldAddr s x f => exact tVal (tiFieldA _ _ _)
  case field s x f => exact tVal (tiField _ _ _)
  case indexAddr s x f => exact tVal (tiIndexA _ _ _)
  case index s x f => exact tVal (tiIndex _ _ _)
  case extract x n => exact tVal (tiExtract _ _)
  case call c =>
    obtain ⟨callee, args, ats⟩ := c
    cases callee with
    | builtin b =>
      cases b <;> first
        | exact tVal (tLen _ _ _)
        | exact tVal (tCap _ _ _)
        | exact tVal (tCopy _ _ _)
        | exact tVal (tApp _ _ _)
        | (simp [tameO] at h)
    | invoke r n => simp [tameO] at h
    | value f =>
      cases f with
      | func f =>
        have hf : S f = true := h
        exact (tame_func hS hf ((#[] ++ args.map a.eval) ++ #[]) : Tame P (NextOk S) _)
      | tmp t => simp [tameO] at h
      | const v => simp [tameO] at h
      | global g => simp [tameO] at h
  all_goals simp [tameO] at h
theorem tame_results {P : Program} (fn : Func) (tmps : Array Value) : TameT P (results fn tmps) := by
  unfold results
  refine tB (tMapArr _ (fun r => ?_) _) (fun _ => tPure _)
  cases r with
  | tmp t => exact tPure _
  | cell a t => exact tB (tAddr _) (fun _ => tLoadV _ _)
end Go.Proofs.YtpajdmhgonmgoaaDoor

namespace Go.Proofs.YtpajdmhgonmgoaaDoor
open Go.RowKit
set_option linter.unusedVariables false
open Go.Conc
set_option linter.unusedSimpArgs false
def tameC (S : FuncId → Bool) : Code → Bool
  | .skip | .ret | .exit _ | .label _ => true
  | .seq a b => tameC S a && tameC S b
  | .cond _ a b => tameC S a && tameC S b
  | .block _ c => tameC S c
  | .loop c => tameC S c
  | .region _ ops _ => ops.toList.all (tameO S)
  | _ => false
def tameI (S : FuncId → Bool) : Item → Bool
  | .code c => tameC S c
  | .inRegion ops _ => ops.toList.all (tameO S)
  | .inBlock _ => true
  | .inLoop c => tameC S c
  | _ => false
def tameL (S : FuncId → Bool) (l : List Item) : Bool := l.all (tameI S)
theorem tameL_cons {S : FuncId → Bool} {x : Item} {l : List Item} : tameL S (x :: l) = true ↔ tameI S x = true ∧ tameL S l = true := by simp [tameL]
theorem exitTo_tame {S : FuncId → Bool} {id : Nat} : ∀ {l t : List Item}, exitTo id l = some t → tameL S l = true → tameL S t = true := by
  intro l
  induction l with
  | nil => intro t h _; cases h
  | cons x r ih =>
    intro t h hl
    obtain ⟨h1, h2⟩ := tameL_cons.1 hl
    cases x <;> first
      | (simp only [exitTo] at h; exact ih h h2)
      | (simp only [exitTo] at h
         split at h
         · injection h with h; subst h; exact h2
         · exact ih h h2)
theorem exitTo_app {id : Nat} (k : List Item) : ∀ {l t : List Item}, exitTo id l = some t → exitTo id (l ++ k) = some (t ++ k) := by
  intro l
  induction l with
  | nil => intro t h; cases h
  | cons x r ih =>
    intro t h
    cases x <;> first
      | (simp only [exitTo, List.cons_append] at h ⊢; exact ih h)
      | (simp only [exitTo, List.cons_append] at h ⊢
         split at h
         · rename_i c; injection h with h; subst h; rw [if_pos c]
         · rename_i c; rw [if_neg c]; exact ih h)
/-- What is asked of a program for its tame runs. -/
structure Mild (P : Program) (S : FuncId → Bool) : Prop where
  bodies : ∀ f, S f = true → ∃ fn c, P.funcs[f]? = some fn ∧ (fn.name == "runtime.NumGoroutine") = false ∧ fn.body = some c ∧ tameC S c = true
  steps : ∀ g, P.stepOf g = none
  ahead : P.follows .staticDataAhead = true
theorem Mild.bodied {P : Program} {S : FuncId → Bool} (h : Mild P S) : Bodied P S := fun f hf => by
  obtain ⟨fn, c, h1, h2, h3, _⟩ := h.bodies f hf
  exact ⟨fn, h1, h2, by rw [h3]; rfl⟩
section
variable {P : Program} {S : FuncId → Bool}
/-- What one step of a tame frame can be. -/
def StepF (P : Program) (S : FuncId → Bool) (b : Frame) (a : Act) (t : List Item) (w : World) : Prop :=
  (∃ a' t' w' es, tameL S t' = true ∧ w.heap.size ≤ w'.heap.size ∧ (∀ e ∈ es, EvG w'.heap.size e) ∧ (a.defers = [] → a'.defers = []) ∧ ∀ k cs, stepG P true (G (b.at a (t ++ k)) cs) w = .go (G (b.at a' (t' ++ k)) cs) w' es) ∨
  (∃ f args w' es, S f = true ∧ w.heap.size ≤ w'.heap.size ∧ (∀ e ∈ es, EvG w'.heap.size e) ∧ (∃ ops i rest r, t = .inRegion ops (i :: rest) :: r) ∧ ∀ k cs, stepG P true (G (b.at a (t ++ k)) cs) w = .go (G (Frame.enter P f args .normal) (b.at a (t ++ k) :: cs)) w' es) ∨
  (∃ ch w' es, ∀ k cs, stepG P true (G (b.at a (t ++ k)) cs) w = .go (G { b.at a (t ++ k) with mode := .panicking ch } cs) w' es) ∨
  (∀ k cs, stepG P true (G (b.at a (t ++ k)) cs) w = .go (G { b.at a (t ++ k) with mode := .returning } cs) w #[]) ∨
  (∀ cs, ∃ o w' es, stepG P true (G (b.at a t) cs) w = .ended o w' es)
theorem stepF_ctl {b : Frame} {a : Act} {t t' : List Item} {w : World} (h : tameL S t' = true) (hs : ∀ k cs, stepG P true (G (b.at a (t ++ k)) cs) w = .go (G (b.at a (t' ++ k)) cs) w #[]) : StepF P S b a t w :=
  Or.inl ⟨a, t', w, #[], h, Nat.le_refl _, fun e he => by simp at he, id, hs⟩
theorem stepF_op (M : Mild P S) {b : Frame} (hk : b.kind ≠ .early) {a : Act} {ops : Array Oper} {i : Nat} {rest : List Nat} {r : List Item} {w : World} (ht : tameL S (.inRegion ops (i :: rest) :: r) = true) : StepF P S b a (.inRegion ops (i :: rest) :: r) w := by
  obtain ⟨h1, h2⟩ := tameL_cons.1 ht
  have h3 : tameL S (.inRegion ops rest :: r) = true := tameL_cons.2 ⟨h1, h2⟩
  have hfin : ∀ (k : List Item) (v : Value), (b.at a (.inRegion ops (i :: rest) :: k)).finish v = b.at (a.put ((ops[i]?).bind (·.dst)) v) (.inRegion ops rest :: k) := fun k v => Frame.finish_at b a ops i rest k v
  have hdef : ∀ (o : Option Tmp) (v : Value), a.defers = [] → (a.put o v).defers = [] := fun o v h => by cases o <;> exact h
  cases hop : ops[i]? with
  | none =>
    refine Or.inl ⟨a.put ((ops[i]?).bind (·.dst)) undef, .inRegion ops rest :: r, w, #[], h3, Nat.le_refl _, fun e he => by simp at he, hdef _ _, fun k cs => ?_⟩
    rw [List.cons_append, List.cons_append, ← hfin]
    simp [G, stepG, stepG.exec, Frame.at, hop]
  | some o =>
    by_cases hw : Region.wanted o (yielded ops a.tmps) = true
    · have ho : tameO S o = true := (List.all_eq_true.1 h1) o (Array.mem_toList_iff.2 (Array.mem_of_getElem? hop))
      obtain ⟨w', hsz, hend, hev⟩ := tame_ends (execOp a.eval o) w #[] (tame_exec M.bodied a o ho)
      have hev' : ∀ e ∈ listed P b.fn a o w, EvG w'.heap.size e := fun e he => by
        rcases hev e (mem_listed he) with h | h
        · simp at h
        · exact h
      have run1 : (execOp a.eval o).run P w = ((execOp a.eval o).runT P w #[]).1 := (Sem.runT_fst _ _ _ _).symm
      rcases hend with ⟨n, hr, hn⟩ | ⟨x, hr, hx⟩
      · rw [← run1] at hr
        rcases hn with ⟨v, rfl⟩ | rfl | ⟨f, args, rfl, hf⟩
        · exact Or.inl ⟨a.put o.dst v, .inRegion ops rest :: r, w', _, h3, hsz, hev', hdef _ _, fun k cs => stepG_value hop hw hk hr⟩
        · exact Or.inl ⟨a.put o.dst undef, .inRegion ops rest :: r, w', _, h3, hsz, hev', hdef _ _, fun k cs => stepG_none hop hw hk hr⟩
        · exact Or.inr (Or.inl ⟨f, args, w', _, hf, hsz, hev', ⟨_, _, _, _, rfl⟩, fun k cs => stepG_enter hop hw hk hr⟩)
      · rw [← run1] at hr
        have hk' : (b.kind == CallKind.early) = false := by simpa using hk
        rcases hx with ⟨v, rfl⟩ | ⟨s, rfl⟩ | ⟨u, rfl⟩
        · refine Or.inr (Or.inr (Or.inl ⟨[{ v, recovered := false }], w', seen P b.fn ((execOp a.eval o).events P w #[]), fun k cs => ?_⟩))
          rw [List.cons_append, stepG_oper hop hw]
          simp [stepG.apply, hr, G, Frame.at, hk', GStep.after, Frame.raise]
        · refine Or.inr (Or.inr (Or.inr (Or.inr fun cs => ?_)))
          rw [stepG_oper hop hw]
          simp [stepG.apply, hr, G, Frame.at, hk', GStep.after]
        · refine Or.inr (Or.inr (Or.inr (Or.inr fun cs => ?_)))
          rw [stepG_oper hop hw]
          cases u <;> first
            | (simp [stepG.apply, hr, G, Frame.at, hk', GStep.after]; done)
            | (simp [stepG.apply, hr, G, Frame.at, hk', GStep.after, early, M.ahead, M.steps])
    · refine Or.inl ⟨a.put o.dst undef, .inRegion ops rest :: r, w, #[], h3, Nat.le_refl _, fun e he => by simp at he, hdef _ _, fun k cs => ?_⟩
      exact stepG_unwanted hop (by simpa using hw)
theorem step_frame (M : Mild P S) {b : Frame} (hk : b.kind ≠ .early) {a : Act} {x : Item} {r : List Item} {w : World} (ht : tameL S (x :: r) = true) : StepF P S b a (x :: r) w := by
  obtain ⟨h1, h2⟩ := tameL_cons.1 ht
  cases x with
  | inBlock id => exact stepF_ctl h2 fun k cs => stepG_inBlock
  | inLoop c => exact stepF_ctl (t' := .code c :: .inLoop c :: r) (tameL_cons.2 ⟨h1, ht⟩) fun k cs => stepG_inLoop
  | inRegion ops l =>
    cases l with
    | nil => exact stepF_ctl h2 fun k cs => stepG_region_end
    | cons i rest => exact stepF_op M hk ht
  | code c =>
    cases c with
    | skip => exact stepF_ctl h2 fun k cs => stepG_skip
    | label l => exact stepF_ctl h2 fun k cs => stepG_label
    | ret => exact Or.inr (Or.inr (Or.inr (Or.inl fun k cs => stepG_ret')))
    | seq p q =>
      have h3 : tameC S p = true ∧ tameC S q = true := by simpa [tameI, tameC] using h1
      exact stepF_ctl (t' := .code p :: .code q :: r) (tameL_cons.2 ⟨h3.1, tameL_cons.2 ⟨h3.2, h2⟩⟩) fun k cs => stepG_seq
    | block id p => exact stepF_ctl (t' := .code p :: .inBlock id :: r) (tameL_cons.2 ⟨by simpa [tameI, tameC] using h1, tameL_cons.2 ⟨rfl, h2⟩⟩) fun k cs => stepG_block
    | loop p => exact stepF_ctl (t' := .code p :: .inLoop p :: r) (tameL_cons.2 ⟨by simpa [tameI, tameC] using h1, tameL_cons.2 ⟨by simpa [tameI, tameC] using h1, h2⟩⟩) fun k cs => stepG_loop
    | exit id =>
      cases he : exitTo id r with
      | some t' => exact stepF_ctl (exitTo_tame he h2) fun k cs => stepG_exit (exitTo_app k he)
      | none =>
        refine Or.inr (Or.inr (Or.inr (Or.inr fun cs => ?_)))
        simp [G, stepG, stepG.exec, Frame.at, he]
    | cond c p q =>
      have h3 : tameC S p = true ∧ tameC S q = true := by simpa [tameI, tameC] using h1
      by_cases hc : ∃ t, a.eval c = .bool t
      · obtain ⟨t, hc⟩ := hc
        refine stepF_ctl (t' := .code (if t then p else q) :: r) (tameL_cons.2 ⟨?_, h2⟩) fun k cs => stepG_cond hc
        cases t
        · exact h3.2
        · exact h3.1
      · refine Or.inr (Or.inr (Or.inr (Or.inr fun cs => ?_)))
        have he := Frame.eval_at b a (.code (.cond c p q) :: r) c
        simp only [Frame.at] at he
        cases hv : a.eval c <;> first
          | (exact (hc ⟨_, hv⟩).elim)
          | simp [G, stepG, stepG.exec, Frame.at, he, hv]
    | region id ops draw =>
      cases draw with
      | false => exact stepF_ctl (t' := .inRegion ops (List.range ops.size) :: r) (tameL_cons.2 ⟨by simpa [tameI, tameC] using h1, h2⟩) fun k cs => stepG_region
      | true =>
        exact Or.inl ⟨a, .inRegion ops (Region.schedule (P.follows .mixedOrders) ops (w.tape w.drawn (.order b.fn id))) :: r, { w with drawn := w.drawn + 1 }, #[], tameL_cons.2 ⟨by simpa [tameI, tameC] using h1, h2⟩, Nat.le_refl _, fun e he => by simp at he, fun h => h, fun k cs => stepG_region_draw⟩
    | _ => simp [tameI, tameC] at h1
  | _ => simp [tameI] at h1
end
end Go.Proofs.YtpajdmhgonmgoaaDoor

namespace Go.Proofs.YtpajdmhgonmgoaaDoor
open Go.RowKit
set_option linter.unusedVariables false
open Go.Conc
set_option linter.unusedSimpArgs false
abbrev UF := FuncId × Act × List Item
def fr3 (u : UF) : Frame := (base u.1).at u.2.1 u.2.2
/-- A frame that bears a panic by ending the run. -/
def frX (P : Program) : Frame := { fn := P.funcs.size, tmps := #[], todo := [.call { target := .nil, args := #[] } true "fmt's door" #[]], defers := [], mode := .run, kind := .normal }
def gor (b : Frame) (k : List Item) (cs : List Frame) (us : List UF) (ret : Bool) (a : Act) (t : List Item) : Goroutine :=
  match us with
  | [] => G (b.at a (t ++ k)) cs
  | u :: r => if ret then G { fr3 u with mode := .returning } (r.map fr3 ++ b.at a (t ++ k) :: cs) else G (fr3 u) (r.map fr3 ++ b.at a (t ++ k) :: cs)
def CallT (t : List Item) : Prop := ∃ ops i rest r, t = .inRegion ops (i :: rest) :: r
structure OkS (S : FuncId → Bool) (us : List UF) (ret : Bool) (a : Act) (t : List Item) : Prop where
  bt : tameL S t = true
  bd : a.defers = []
  up : ∀ u ∈ us, S u.1 = true ∧ u.2.1.defers = [] ∧ tameL S u.2.2 = true
  cb : us ≠ [] → CallT t
  cu : ∀ u ∈ us.tail, CallT u.2.2
  rt : ret = true → us ≠ []
section
variable {P : Program} {S : FuncId → Bool}
theorem runN_ended {n : Nat} {m m' : Machine} {o : Outcome} {w : World} (h : step P m = .ended o w) (hr : runN P n m = .next m') : n = 0 ∧ m' = m := by
  cases n with
  | zero => simp only [runN] at hr; injection hr with hr; exact ⟨rfl, hr.symm⟩
  | succ n => simp only [runN, h] at hr; cases hr
theorem step_ended {g : Goroutine} {fr : Frame} {cs : List Frame} {w w' : World} {o : Outcome} {es : Array Event} (hg : g = G fr cs) (h : stepG P true g w = .ended o w' es) : step P (solo g w) = .ended o w' := by
  subst hg
  rw [← lone_eq_solo]
  refine step_lone_ended ?_
  show (stepG P true (G fr cs) w).bare = _
  rw [h]; rfl
theorem catches_some {fr : Frame} (h : (P.funcs[fr.fn]?).isSome = true) : fr.catches P = false := by
  unfold Frame.catches
  cases hh : P.funcs[fr.fn]? with
  | none => rw [hh] at h; cases h
  | some f => rfl
theorem frX_catches (ch : List PanicEntry) : ({ frX P with mode := .panicking ch } : Frame).catches P = true := by
  unfold Frame.catches frX
  have : P.funcs[P.funcs.size]? = none := Array.getElem?_eq_none (Nat.le_refl _)
  dsimp only
  rw [this]
  decide +kernel
theorem dead_panic : ∀ (l : List Frame) (fr : Frame) (ch : List PanicEntry), fr.mode = .panicking ch → fr.defers = [] → (P.funcs[fr.fn]?).isSome = true → (∀ c ∈ l, c.defers = [] ∧ c.mode = .run ∧ (P.funcs[c.fn]?).isSome = true) →
    ∀ (n : Nat) (w w' : World) (fr' : Frame) (cs' : List Frame), runN P n (solo (G fr (l ++ [frX P])) w) = .next (solo (G fr' cs') w') → fr'.mode ≠ .run := by
  intro l
  induction l with
  | nil =>
    intro fr ch hm hd hs _ n w w' fr' cs' hr
    rw [List.nil_append] at hr
    have st : stepG P true (G fr [frX P]) w = .go (G { frX P with mode := .panicking ch } []) w #[] := by
      obtain ⟨fn, tmps, todo, defers, mode, kind, ro⟩ := fr
      dsimp only at hm hd hs
      subst hm hd
      simp [G, stepG, unwind, catches_some (fr := ⟨fn, tmps, todo, [], .panicking ch, kind, ro⟩) hs, Frame.raise, frX]
    cases n with
    | zero =>
      simp only [runN] at hr
      injection hr with hr
      have := congrArg (fun m => (m.gs[0]?).map (·.frame.mode)) hr
      simp [solo, G, hm] at this
      rw [← this]
      exact fun e => by cases e
    | succ n =>
      simp only [runN, step_solo_go (show (G fr [frX P]).status = .running from rfl) st] at hr
      have st2 : stepG P true (G { frX P with mode := .panicking ch } []) w = .ended (.unsupported (.noEntry "a panic or Goexit out of a method that fmt calls behind a cut's door") (({ frX P with mode := .panicking ch } : Frame).pos P)) w := by
        have hc := frX_catches (P := P) ch
        simp only [frX] at hc
        simp [G, stepG, unwind, frX, hc]
      obtain ⟨_, e⟩ := runN_ended (step_ended rfl st2) hr
      have := congrArg (fun m => (m.gs[0]?).map (·.frame.mode)) e
      simp [solo, G] at this
      rw [this]
      exact fun e => by cases e
  | cons c l ih =>
    intro fr ch hm hd hs hl n w w' fr' cs' hr
    obtain ⟨c1, c2, c3⟩ := hl c (List.mem_cons_self ..)
    have st : stepG P true (G fr (c :: l ++ [frX P])) w = .go (G { c with mode := .panicking ch } (l ++ [frX P])) w #[] := by
      obtain ⟨fn, tmps, todo, defers, mode, kind, ro⟩ := fr
      dsimp only at hm hd hs
      subst hm hd
      simp [G, stepG, unwind, catches_some (fr := ⟨fn, tmps, todo, [], .panicking ch, kind, ro⟩) hs, Frame.raise, c2]
    cases n with
    | zero =>
      simp only [runN] at hr
      injection hr with hr
      have := congrArg (fun m => (m.gs[0]?).map (·.frame.mode)) hr
      simp [solo, G, hm] at this
      rw [← this]
      exact fun e => by cases e
    | succ n =>
      simp only [runN, step_solo_go (show (G fr (c :: l ++ [frX P])).status = .running from rfl) st] at hr
      exact ih { c with mode := .panicking ch } ch rfl c1 c3 (fun x hx => hl x (List.mem_cons_of_mem _ hx)) n w w' fr' cs' hr
theorem dead_ret {fr : Frame} (hd : fr.defers = []) (hm : fr.mode = .returning) (hi : P.inits.idxOf? fr.fn = none) {n : Nat} {w w' : World} {fr' : Frame} {cs' : List Frame} (hr : runN P n (solo (G fr []) w) = .next (solo (G fr' cs') w')) : fr'.mode ≠ .run := by
  have st : ∃ o w1 es, stepG P true (G fr []) w = .ended o w1 es := by
    obtain ⟨fn, tmps, todo, defers, mode, kind, ro⟩ := fr
    dsimp only at hm hd hi
    subst hm hd
    have hdo : ∀ (v : Value) (w2 : World), ∃ o w1 es, doReturn P true ⟨fn, tmps, todo, [], .returning, kind, ro⟩ [] none v w2 = .ended o w1 es := fun v w2 => by
      cases kind <;> simp [doReturn, hi]
    cases hf : P.funcs[fn]? with
    | none =>
      obtain ⟨o, w1, es, h⟩ := hdo (tmps.getD 0 undef) w
      exact ⟨o, w1, es, by simpa [G, stepG, unwind, hf] using h⟩
    | some f =>
      cases hr : (results f tmps).run P w with
      | ok v w2 =>
        obtain ⟨o, w1, es, h⟩ := hdo v w2
        refine ⟨o, w1, seen P fn ((results f tmps).events P w #[]) ++ es, ?_⟩
        simp [G, stepG, unwind, hf, hr, h, GStep.after]
      | halt x w2 =>
        cases x <;> simp [G, stepG, unwind, hf, hr, GStep.after]
  obtain ⟨o, w1, es, st⟩ := st
  obtain ⟨_, e⟩ := runN_ended (step_ended rfl st) hr
  have := congrArg (fun m => (m.gs[0]?).map (·.frame.mode)) e
  simp [solo, G] at this
  rw [this, hm]
  exact fun e => by cases e
end
end Go.Proofs.YtpajdmhgonmgoaaDoor

