/-
  What the last text of this claim leans on, part 36: La1.
-/
import Derived.Conc.Beside
namespace Go.Proofs.YtpajdmhgonmgoaaDoor
open Go.RowKit
set_option linter.unusedVariables false
set_option linter.unusedSimpArgs false
open Go.Conc
/-- A meaning that says no mark but 'noRoom', asks no system, and ends as Q says, or by a panic, or stands still. -/
def Tame {α : Type} (P : Program) (Q : α → Prop) : Sem α → Prop
  | .pure a => Q a
  | .load _ _ k => ∀ v, Tame P Q (k v)
  | .store _ _ _ k => Tame P Q k
  | .new _ k => ∀ r, Tame P Q (k r)
  | .shape _ k => ∀ s, Tame P Q (k s)
  | .freeze _ _ k => Tame P Q k
  | .frozen _ k => ∀ b, Tame P Q (k b)
  | .getObj _ k => ∀ o, Tame P Q (k o)
  | .setObj _ _ k => Tame P Q k
  | .choose _ k => ∀ n, Tame P Q (k n)
  | .sys _ _ => False
  | .program k => Tame P Q (k P)
  | .mark m k => m = .noRoom ∧ Tame P Q k
  | .halt h => (∃ v, h = .panic v) ∨ (∃ s, h = .stuck s) ∨ (∃ u, h = .unsupported u)
theorem Tame.bind {α β : Type} {P : Program} {Q : α → Prop} {R : β → Prop} {f : α → Sem β} (hf : ∀ a, Q a → Tame P R (f a)) : ∀ {s : Sem α}, Tame P Q s → Tame P R (s >>= f) := by
  intro s
  show Tame P Q s → Tame P R (s.bind f)
  induction s with
  | pure a => exact hf a
  | load m a k ih => exact fun h v => ih v (h v)
  | store m a v k ih => exact fun h => ih h
  | new o k ih => exact fun h r => ih r (h r)
  | shape r k ih => exact fun h s => ih s (h s)
  | freeze a n k ih => exact fun h => ih h
  | frozen a k ih => exact fun h b => ih b (h b)
  | getObj r k ih => exact fun h o => ih o (h o)
  | setObj r o k ih => exact fun h => ih h
  | choose q k ih => exact fun h n => ih n (h n)
  | sys c k ih => exact fun h => h.elim
  | program k ih => exact fun h => ih P h
  | mark m k ih => exact fun h => ⟨h.1, ih h.2⟩
  | halt h => exact fun x => x
theorem Tame.mono {α : Type} {P : Program} {Q R : α → Prop} (hf : ∀ a, Q a → R a) : ∀ {s : Sem α}, Tame P Q s → Tame P R s := by
  intro s
  induction s with
  | pure a => exact hf a
  | load m a k ih => exact fun h v => ih v (h v)
  | store m a v k ih => exact fun h => ih h
  | new o k ih => exact fun h r => ih r (h r)
  | shape r k ih => exact fun h s => ih s (h s)
  | freeze a n k ih => exact fun h => ih h
  | frozen a k ih => exact fun h b => ih b (h b)
  | getObj r k ih => exact fun h o => ih o (h o)
  | setObj r o k ih => exact fun h => ih h
  | choose q k ih => exact fun h n => ih n (h n)
  | sys c k ih => exact fun h => h.elim
  | program k ih => exact fun h => ih P h
  | mark m k ih => exact fun h => ⟨h.1, ih h.2⟩
  | halt h => exact fun x => x
/-- What such a meaning lists: places below B; and 'noRoom'. -/
def EvG (B : Nat) (e : Event) : Prop := e.loc.low B ∧ ∀ m, e.loc = .mark m → m = .noRoom
theorem EvG.mono {B B' : Nat} {e : Event} (h : EvG B e) (hB : B ≤ B') : EvG B' e := ⟨Loc.low_mono hB h.1, h.2⟩
theorem EvG.evL {B : Nat} {e : Event} (h : EvG B e) : EvL (fun _ => False) B e := by
  obtain ⟨loc, wr, sy⟩ := e
  obtain ⟨h1, h2⟩ := h
  refine ⟨fun _ _ x => x.elim, fun e => ?_, fun e => ?_, ?_⟩
  · have := h2 _ e; cases this
  · have := h2 _ e; cases this
  · cases loc with
    | cell a => exact h1
    | obj r =>
      cases wr <;> cases sy <;> exact h1
    | output => trivial
    | goroutines => trivial
    | mark m => obtain rfl := h2 m rfl; trivial
theorem lt_of_cell {w : World} {a : Addr} {v : Value} (h : w.cell? a = some v) : a.block < w.heap.size := by
  rcases Nat.lt_or_ge a.block w.heap.size with hc | hc
  · exact hc
  · unfold World.cell? at h
    rw [Array.getElem?_eq_none (by omega)] at h
    simp at h
theorem lt_of_get {w : World} {r : Nat} {o : Obj} (h : w.heap[r]? = some o) : r < w.heap.size := (Array.getElem?_eq_some_iff.1 h).1
theorem seenW_lt {P : Program} {w : World} {at_ : Addr} {u : TypeId} {k : Addr} {b : Bool} {x} (h : w.seen P at_ u k b = .ok x) : at_.block < w.heap.size := by
  unfold World.seen at h
  cases hh : w.heap[at_.block]? with
  | some o => exact lt_of_get hh
  | none =>
    rw [hh] at h
    exfalso
    simp only [bind, Except.bind, pure, Except.pure, throw, throwThe, MonadExceptOf.throw] at h
    repeat' split at h
    all_goals simp_all
theorem viewLoad_low {P : Program} {w : World} {at_ : Addr} {u : TypeId} {k : Addr} {b : Bool} {v : Value} {l : List Addr} (h : w.viewLoad P at_ u k b = .ok (v, l)) : ∀ a ∈ l, a.block < w.heap.size := by
  unfold World.viewLoad at h
  cases hs : w.seen P at_ u k b with
  | error e => rw [hs] at h; cases h
  | ok x =>
    have lt := seenW_lt hs
    rw [hs] at h
    obtain ⟨x1, x2, x3, x4, x5, x6⟩ := x
    simp only [bind, Except.bind, pure, Except.pure, throw, throwThe, MonadExceptOf.throw] at h
    split at h
    · injection h with h
      injection h with h1 h2
      subst h2
      intro a ha
      obtain ⟨y, _, rfl⟩ := List.mem_map.1 ha
      exact lt
    · cases h
theorem viewStore_low {P : Program} {w w' : World} {at_ : Addr} {u : TypeId} {k : Addr} {b : Bool} {v : Value} {l : List Addr} (h : w.viewStore P at_ u k v b = .ok (w', l)) : w'.heap.size = w.heap.size ∧ ∀ a ∈ l, a.block < w.heap.size := by
  unfold World.viewStore at h
  cases hs : w.seen P at_ u k b with
  | error e =>
    rw [hs] at h
    simp only [bind, Except.bind, pure, Except.pure, throw, throwThe, MonadExceptOf.throw] at h
    repeat' split at h
    all_goals cases h
  | ok x =>
    have lt := seenW_lt hs
    rw [hs] at h
    obtain ⟨x1, x2, x3, x4, x5, x6⟩ := x
    simp only [bind, Except.bind, pure, Except.pure, throw, throwThe, MonadExceptOf.throw] at h
    repeat' split at h
    all_goals first
      | (cases h; done)
      | (injection h with h
         injection h with h1 h2
         subst h1
         subst h2
         refine ⟨by simp, fun a ha => ?_⟩
         obtain ⟨y, _, rfl⟩ := List.mem_map.1 ha
         exact lt)
theorem farLoad_low {P : Program} {w : World} {a : Addr} {b : Bool} {v : Value} {l : List Addr} (h : w.farLoad P a b = .ok (v, l)) : ∀ x ∈ l, x.block < w.heap.size := by
  unfold World.farLoad at h
  repeat' split at h
  all_goals first
    | (cases h; done)
    | (rename_i r hr; injection h with h; subst h; exact viewLoad_low hr)
theorem farStore_low {P : Program} {w w' : World} {a : Addr} {b : Bool} {v : Value} {l : List Addr} (h : w.farStore P a v b = .ok (w', l)) : w'.heap.size = w.heap.size ∧ ∀ x ∈ l, x.block < w.heap.size := by
  unfold World.farStore at h
  repeat' split at h
  all_goals first
    | (cases h; done)
    | (rename_i r hr; injection h with h; subst h; exact viewStore_low hr)
theorem noCell_kind (w : World) (a : Addr) (s : String) : (∃ v, w.noCell a s = .panic v) ∨ (∃ x, w.noCell a s = .stuck x) ∨ (∃ u, w.noCell a s = .unsupported u) := by
  unfold World.noCell
  split
  · exact .inr (.inr ⟨_, rfl⟩)
  · exact .inr (.inr ⟨_, rfl⟩)
  · exact .inr (.inl ⟨_, rfl⟩)
theorem farLoad_kind {P : Program} {w : World} {a : Addr} {b : Bool} {h : Halt} (e : w.farLoad P a b = .error h) : (∃ v, h = .panic v) ∨ (∃ x, h = .stuck x) ∨ (∃ u, h = .unsupported u) := by
  unfold World.farLoad at e
  repeat' split at e
  all_goals first
    | (cases e; done)
    | (injection e with e; subst e; first | exact .inr (.inr ⟨_, rfl⟩) | exact noCell_kind ..)
theorem farStore_kind {P : Program} {w : World} {a : Addr} {b : Bool} {v : Value} {h : Halt} (e : w.farStore P a v b = .error h) : (∃ v, h = .panic v) ∨ (∃ x, h = .stuck x) ∨ (∃ u, h = .unsupported u) := by
  unfold World.farStore at e
  repeat' split at e
  all_goals first
    | (cases e; done)
    | (injection e with e; subst e; first | exact .inr (.inr ⟨_, rfl⟩) | exact noCell_kind ..)
/-- What is asked of an end. -/
def EndT {α : Type} (Q : α → Prop) (w : World) (es : Array Event) (r : Result α × Array Event) : Prop :=
  ∃ w', w.heap.size ≤ w'.heap.size ∧ ((∃ a, r.1 = .ok a w' ∧ Q a) ∨ (∃ h, r.1 = .halt h w' ∧ ((∃ v, h = .panic v) ∨ (∃ s, h = .stuck s) ∨ (∃ u, h = .unsupported u)))) ∧ ∀ e ∈ r.2, e ∈ es ∨ EvG w'.heap.size e
theorem EndT.on {α : Type} {Q : α → Prop} {w w1 : World} {es es1 : Array Event} {r : Result α × Array Event} (h : EndT Q w1 es1 r) (hw : w.heap.size ≤ w1.heap.size) (he : ∀ e ∈ es1, e ∈ es ∨ EvG w1.heap.size e) : EndT Q w es r := by
  obtain ⟨w', h1, h2, h3⟩ := h
  refine ⟨w', by omega, h2, fun e hm => ?_⟩
  rcases h3 e hm with h | h
  · exact (he e h).imp id fun g => g.mono h1
  · exact .inr h
theorem evG_cell {B : Nat} {a : Addr} {x y : Bool} (h : a.block < B) : EvG B ⟨.cell a, x, y⟩ := ⟨h, fun m e => by cases e⟩
theorem evG_obj {B r : Nat} {x y : Bool} (h : r < B) : EvG B ⟨.obj r, x, y⟩ := ⟨h, fun m e => by cases e⟩
theorem mem_pushE {es : Array Event} {x e : Event} {B : Nat} (hx : EvG B x) (h : e ∈ es.push x) : e ∈ es ∨ EvG B e := by
  rcases Array.mem_push.1 h with h | rfl
  · exact .inl h
  · exact .inr hx
theorem mem_cellsE {es : Array Event} {l : List Addr} {x y : Bool} {e : Event} {B : Nat} (hl : ∀ a ∈ l, a.block < B) (h : e ∈ es ++ l.toArray.map (fun a => (⟨.cell a, x, y⟩ : Event))) : e ∈ es ∨ EvG B e := by
  rcases Array.mem_append.1 h with h | h
  · exact .inl h
  · obtain ⟨a, ha, rfl⟩ := Array.mem_map.1 h
    exact .inr (evG_cell (hl a (by simpa using ha)))
theorem tame_ends {α : Type} {P : Program} {Q : α → Prop} : ∀ (s : Sem α) (w : World) (es : Array Event), Tame P Q s → EndT Q w es (s.runT P w es) := by
  intro s
  induction s with
  | pure a => exact fun w es h => ⟨w, Nat.le_refl _, .inl ⟨a, rfl, h⟩, fun e he => .inl he⟩
  | load m a k ih =>
    intro w es h
    unfold Sem.runT
    cases hc : w.cell? a with
    | some v => exact (ih v w _ (h v)).on (Nat.le_refl _) fun e he => mem_pushE (evG_cell (lt_of_cell hc)) he
    | none =>
      dsimp only
      cases hf : w.farLoad P a (m == .atomic) with
      | error x => exact ⟨w, Nat.le_refl _, .inr ⟨x, rfl, farLoad_kind hf⟩, fun e he => .inl he⟩
      | ok x =>
        obtain ⟨v, l⟩ := x
        exact (ih v w _ (h v)).on (Nat.le_refl _) fun e he => mem_cellsE (farLoad_low hf) he
  | store m a v k ih =>
    intro w es h
    have key : EndT Q w es (match w.cell? a with
      | some _ =>
        if w.frozen? a then (Result.halt (.unsupported (.unsafePointer "a write to bytes that a string shares")) w, es)
        else k.runT P (w.setCell a v) (es.push ⟨.cell a, true, m == .atomic⟩)
      | none => match w.farStore P a v (m == .atomic) with
        | .ok (w, touched) => k.runT P w (es ++ touched.toArray.map (⟨.cell ·, true, m == .atomic⟩))
        | .error h => (.halt h w, es)) := by
      cases hc : w.cell? a with
      | some u =>
        dsimp only
        split
        · exact ⟨w, Nat.le_refl _, .inr ⟨_, rfl, .inr (.inr ⟨_, rfl⟩)⟩, fun e he => .inl he⟩
        · have hs : (w.setCell a v).heap.size = w.heap.size := by unfold World.setCell; split <;> simp
          exact (ih _ _ h).on (by omega) fun e he => mem_pushE (evG_cell (by rw [hs]; exact lt_of_cell hc)) he
      | none =>
        dsimp only
        cases hf : w.farStore P a v (m == .atomic) with
        | error x => exact ⟨w, Nat.le_refl _, .inr ⟨x, rfl, farStore_kind hf⟩, fun e he => .inl he⟩
        | ok x =>
          obtain ⟨w1, l⟩ := x
          obtain ⟨h1, h2⟩ := farStore_low hf
          exact (ih _ _ h).on (by omega) fun e he => mem_cellsE (by rw [h1]; exact h2) he
    cases v
    case agg => exact ⟨w, Nat.le_refl _, .inr ⟨_, rfl, .inr (.inl ⟨_, rfl⟩)⟩, fun e he => .inl he⟩
    case tuple => exact ⟨w, Nat.le_refl _, .inr ⟨_, rfl, .inr (.inl ⟨_, rfl⟩)⟩, fun e he => .inl he⟩
    all_goals exact key
  | new o k ih => exact fun w es h => (ih _ _ _ (h _)).on (by simp) fun e he => .inl he
  | shape r k ih => exact fun w es h => ih _ _ _ (h _)
  | freeze a n k ih =>
    intro w es h
    have hs : (w.freeze a n).heap.size = w.heap.size := by unfold World.freeze; repeat' (first | rfl | split | simp)
    exact (ih _ _ h).on (by omega) fun e he => .inl he
  | frozen a k ih => exact fun w es h => ih _ _ _ (h _)
  | getObj r k ih =>
    intro w es h
    unfold Sem.runT
    split
    · exact ⟨w, Nat.le_refl _, .inr ⟨_, rfl, .inr (.inl ⟨_, rfl⟩)⟩, fun e he => .inl he⟩
    · rename_i o ho hh
      exact (ih _ _ _ (h _)).on (Nat.le_refl _) fun e he => mem_pushE (evG_obj (lt_of_get hh)) he
    · exact ⟨w, Nat.le_refl _, .inr ⟨_, rfl, .inr (.inl ⟨_, rfl⟩)⟩, fun e he => .inl he⟩
  | setObj r o k ih =>
    intro w es h
    unfold Sem.runT
    split
    · exact ⟨w, Nat.le_refl _, .inr ⟨_, rfl, .inr (.inl ⟨_, rfl⟩)⟩, fun e he => .inl he⟩
    · rename_i o' ho hh
      exact (ih _ _ h).on (by simp) fun e he => mem_pushE (evG_obj (by simp; exact lt_of_get hh)) he
    · exact ⟨w, Nat.le_refl _, .inr ⟨_, rfl, .inr (.inl ⟨_, rfl⟩)⟩, fun e he => .inl he⟩
  | choose q k ih =>
    intro w es h
    unfold Sem.runT
    split
    · exact ih _ _ _ (h _)
    · exact (ih _ _ _ (h _)).on (Nat.le_refl _) fun e he => .inl he
  | sys c k ih => exact fun w es h => h.elim
  | program k ih => exact fun w es h => ih _ _ _ h
  | mark m k ih =>
    intro w es h
    obtain ⟨rfl, h⟩ := h
    exact (ih _ _ h).on (Nat.le_refl _) fun e he => mem_pushE (show EvG w.heap.size ⟨.mark .noRoom, false, true⟩ from ⟨trivial, fun m e => by injection e with e; exact e.symm⟩) he
  | halt x => exact fun w es h => ⟨w, Nat.le_refl _, .inr ⟨x, rfl, h⟩, fun e he => .inl he⟩
end Go.Proofs.YtpajdmhgonmgoaaDoor

