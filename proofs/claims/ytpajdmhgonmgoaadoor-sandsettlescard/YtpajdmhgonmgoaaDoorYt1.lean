/-
  What the last text of this claim leans on, part 1: La1, Lb0, Lb1.
-/
import Derived.Conc.Beside
import Derived.Tactics2
namespace Go.Proofs.YtpajdmhgonmgoaaDoor
open Go.RowKit
set_option linter.unusedVariables false
set_option linter.unusedSimpArgs false
open Go.Conc
/-- A meaning that says no mark but 'noRoom', asks no system, and ends as Q says, or by a panic, or stands still. -/
def Tame {α : Type} (P : Program) (Q : α → Prop) : Sem α → Prop
  | .pure a => Q a
  | .load _ _ k => ∀ v, Tame P Q (k v)
  | .store _ _ _ k => Tame P Q k
  | .new _ k => ∀ r, Tame P Q (k r)
  | .shape _ k => ∀ s, Tame P Q (k s)
  | .freeze _ _ k => Tame P Q k
  | .frozen _ k => ∀ b, Tame P Q (k b)
  | .getObj _ k => ∀ o, Tame P Q (k o)
  | .setObj _ _ k => Tame P Q k
  | .choose _ k => ∀ n, Tame P Q (k n)
  | .sys _ _ => False
  | .program k => Tame P Q (k P)
  | .mark m k => m = .noRoom ∧ Tame P Q k
  | .halt h => (∃ v, h = .panic v) ∨ (∃ s, h = .stuck s) ∨ (∃ u, h = .unsupported u)
theorem Tame.bind {α β : Type} {P : Program} {Q : α → Prop} {R : β → Prop} {f : α → Sem β} (hf : ∀ a, Q a → Tame P R (f a)) : ∀ {s : Sem α}, Tame P Q s → Tame P R (s >>= f) := by
  intro s
  show Tame P Q s → Tame P R (s.bind f)
  induction s with
  | pure a => exact hf a
  | load m a k ih => exact fun h v => ih v (h v)
  | store m a v k ih => exact fun h => ih h
  | new o k ih => exact fun h r => ih r (h r)
  | shape r k ih => exact fun h s => ih s (h s)
  | freeze a n k ih => exact fun h => ih h
  | frozen a k ih => exact fun h b => ih b (h b)
  | getObj r k ih => exact fun h o => ih o (h o)
  | setObj r o k ih => exact fun h => ih h
  | choose q k ih => exact fun h n => ih n (h n)
  | sys c k ih => exact fun h => h.elim
  | program k ih => exact fun h => ih P h
  | mark m k ih => exact fun h => ⟨h.1, ih h.2⟩
  | halt h => exact fun x => x
theorem Tame.mono {α : Type} {P : Program} {Q R : α → Prop} (hf : ∀ a, Q a → R a) : ∀ {s : Sem α}, Tame P Q s → Tame P R s := by
  intro s
  induction s with
  | pure a => exact hf a
  | load m a k ih => exact fun h v => ih v (h v)
  | store m a v k ih => exact fun h => ih h
  | new o k ih => exact fun h r => ih r (h r)
  | shape r k ih => exact fun h s => ih s (h s)
  | freeze a n k ih => exact fun h => ih h
  | frozen a k ih => exact fun h b => ih b (h b)
  | getObj r k ih => exact fun h o => ih o (h o)
  | setObj r o k ih => exact fun h => ih h
  | choose q k ih => exact fun h n => ih n (h n)
  | sys c k ih => exact fun h => h.elim
  | program k ih => exact fun h => ih P h
  | mark m k ih => exact fun h => ⟨h.1, ih h.2⟩
  | halt h => exact fun x => x
/-- What such a meaning lists: places below B; and 'noRoom'. -/
def EvG (B : Nat) (e : Event) : Prop := e.loc.low B ∧ ∀ m, e.loc = .mark m → m = .noRoom
theorem EvG.mono {B B' : Nat} {e : Event} (h : EvG B e) (hB : B ≤ B') : EvG B' e := ⟨Loc.low_mono hB h.1, h.2⟩
theorem EvG.evL {B : Nat} {e : Event} (h : EvG B e) : EvL (fun _ => False) B e := by
  obtain ⟨loc, wr, sy⟩ := e
  obtain ⟨h1, h2⟩ := h
  refine ⟨fun _ _ x => x.elim, fun e => ?_, fun e => ?_, ?_⟩
  · have := h2 _ e; cases this
  · have := h2 _ e; cases this
  · cases loc with
    | cell a => exact h1
    | obj r =>
      cases wr <;> cases sy <;> exact h1
    | output => trivial
    | goroutines => trivial
    | mark m => obtain rfl := h2 m rfl; trivial
theorem lt_of_cell {w : World} {a : Addr} {v : Value} (h : w.cell? a = some v) : a.block < w.heap.size := by
  rcases Nat.lt_or_ge a.block w.heap.size with hc | hc
  · exact hc
  · unfold World.cell? at h
    rw [Array.getElem?_eq_none (by omega)] at h
    simp at h
theorem lt_of_get {w : World} {r : Nat} {o : Obj} (h : w.heap[r]? = some o) : r < w.heap.size := (Array.getElem?_eq_some_iff.1 h).1
theorem seenW_lt {P : Program} {w : World} {at_ : Addr} {u : TypeId} {k : Addr} {b : Bool} {x} (h : w.seen P at_ u k b = .ok x) : at_.block < w.heap.size := by
  unfold World.seen at h
  cases hh : w.heap[at_.block]? with
  | some o => exact lt_of_get hh
  | none =>
    rw [hh] at h
    exfalso
    simp only [bind, Except.bind, pure, Except.pure, throw, throwThe, MonadExceptOf.throw] at h
    repeat' split at h
    all_goals simp_all
theorem viewLoad_low {P : Program} {w : World} {at_ : Addr} {u : TypeId} {k : Addr} {b : Bool} {v : Value} {l : List Addr} (h : w.viewLoad P at_ u k b = .ok (v, l)) : ∀ a ∈ l, a.block < w.heap.size := by
  unfold World.viewLoad at h
  cases hs : w.seen P at_ u k b with
  | error e => rw [hs] at h; cases h
  | ok x =>
    have lt := seenW_lt hs
    rw [hs] at h
    obtain ⟨x1, x2, x3, x4, x5, x6⟩ := x
    simp only [bind, Except.bind, pure, Except.pure, throw, throwThe, MonadExceptOf.throw] at h
    split at h
    · injection h with h
      injection h with h1 h2
      subst h2
      intro a ha
      obtain ⟨y, _, rfl⟩ := List.mem_map.1 ha
      exact lt
    · cases h
theorem viewStore_low {P : Program} {w w' : World} {at_ : Addr} {u : TypeId} {k : Addr} {b : Bool} {v : Value} {l : List Addr} (h : w.viewStore P at_ u k v b = .ok (w', l)) : w'.heap.size = w.heap.size ∧ ∀ a ∈ l, a.block < w.heap.size := by
  unfold World.viewStore at h
  cases hs : w.seen P at_ u k b with
  | error e =>
    rw [hs] at h
    simp only [bind, Except.bind, pure, Except.pure, throw, throwThe, MonadExceptOf.throw] at h
    repeat' split at h
    all_goals cases h
  | ok x =>
    have lt := seenW_lt hs
    rw [hs] at h
    obtain ⟨x1, x2, x3, x4, x5, x6⟩ := x
    simp only [bind, Except.bind, pure, Except.pure, throw, throwThe, MonadExceptOf.throw] at h
    repeat' split at h
    all_goals first
      | (cases h; done)
      | (injection h with h
         injection h with h1 h2
         subst h1
         subst h2
         refine ⟨by simp, fun a ha => ?_⟩
         obtain ⟨y, _, rfl⟩ := List.mem_map.1 ha
         exact lt)
theorem farLoad_low {P : Program} {w : World} {a : Addr} {b : Bool} {v : Value} {l : List Addr} (h : w.farLoad P a b = .ok (v, l)) : ∀ x ∈ l, x.block < w.heap.size := by
  unfold World.farLoad at h
  repeat' split at h
  all_goals first
    | (cases h; done)
    | (rename_i r hr; injection h with h; subst h; exact viewLoad_low hr)
theorem farStore_low {P : Program} {w w' : World} {a : Addr} {b : Bool} {v : Value} {l : List Addr} (h : w.farStore P a v b = .ok (w', l)) : w'.heap.size = w.heap.size ∧ ∀ x ∈ l, x.block < w.heap.size := by
  unfold World.farStore at h
  repeat' split at h
  all_goals first
    | (cases h; done)
    | (rename_i r hr; injection h with h; subst h; exact viewStore_low hr)
theorem noCell_kind (w : World) (a : Addr) (s : String) : (∃ v, w.noCell a s = .panic v) ∨ (∃ x, w.noCell a s = .stuck x) ∨ (∃ u, w.noCell a s = .unsupported u) := by
  unfold World.noCell
  split
  · exact .inr (.inr ⟨_, rfl⟩)
  · exact .inr (.inr ⟨_, rfl⟩)
  · exact .inr (.inl ⟨_, rfl⟩)
theorem farLoad_kind {P : Program} {w : World} {a : Addr} {b : Bool} {h : Halt} (e : w.farLoad P a b = .error h) : (∃ v, h = .panic v) ∨ (∃ x, h = .stuck x) ∨ (∃ u, h = .unsupported u) := by
  unfold World.farLoad at e
  repeat' split at e
  all_goals first
    | (cases e; done)
    | (injection e with e; subst e; first | exact .inr (.inr ⟨_, rfl⟩) | exact noCell_kind ..)
theorem farStore_kind {P : Program} {w : World} {a : Addr} {b : Bool} {v : Value} {h : Halt} (e : w.farStore P a v b = .error h) : (∃ v, h = .panic v) ∨ (∃ x, h = .stuck x) ∨ (∃ u, h = .unsupported u) := by
  unfold World.farStore at e
  repeat' split at e
  all_goals first
    | (cases e; done)
    | (injection e with e; subst e; first | exact .inr (.inr ⟨_, rfl⟩) | exact noCell_kind ..)
/-- What is asked of an end. -/
def EndT {α : Type} (Q : α → Prop) (w : World) (es : Array Event) (r : Result α × Array Event) : Prop :=
  ∃ w', w.heap.size ≤ w'.heap.size ∧ ((∃ a, r.1 = .ok a w' ∧ Q a) ∨ (∃ h, r.1 = .halt h w' ∧ ((∃ v, h = .panic v) ∨ (∃ s, h = .stuck s) ∨ (∃ u, h = .unsupported u)))) ∧ ∀ e ∈ r.2, e ∈ es ∨ EvG w'.heap.size e
theorem EndT.on {α : Type} {Q : α → Prop} {w w1 : World} {es es1 : Array Event} {r : Result α × Array Event} (h : EndT Q w1 es1 r) (hw : w.heap.size ≤ w1.heap.size) (he : ∀ e ∈ es1, e ∈ es ∨ EvG w1.heap.size e) : EndT Q w es r := by
  obtain ⟨w', h1, h2, h3⟩ := h
  refine ⟨w', by omega, h2, fun e hm => ?_⟩
  rcases h3 e hm with h | h
  · exact (he e h).imp id fun g => g.mono h1
  · exact .inr h
theorem evG_cell {B : Nat} {a : Addr} {x y : Bool} (h : a.block < B) : EvG B ⟨.cell a, x, y⟩ := ⟨h, fun m e => by cases e⟩
theorem evG_obj {B r : Nat} {x y : Bool} (h : r < B) : EvG B ⟨.obj r, x, y⟩ := ⟨h, fun m e => by cases e⟩
theorem mem_pushE {es : Array Event} {x e : Event} {B : Nat} (hx : EvG B x) (h : e ∈ es.push x) : e ∈ es ∨ EvG B e := by
  rcases Array.mem_push.1 h with h | rfl
  · exact .inl h
  · exact .inr hx
theorem mem_cellsE {es : Array Event} {l : List Addr} {x y : Bool} {e : Event} {B : Nat} (hl : ∀ a ∈ l, a.block < B) (h : e ∈ es ++ l.toArray.map (fun a => (⟨.cell a, x, y⟩ : Event))) : e ∈ es ∨ EvG B e := by
  rcases Array.mem_append.1 h with h | h
  · exact .inl h
  · obtain ⟨a, ha, rfl⟩ := Array.mem_map.1 h
    exact .inr (evG_cell (hl a (by simpa using ha)))
theorem tame_ends {α : Type} {P : Program} {Q : α → Prop} : ∀ (s : Sem α) (w : World) (es : Array Event), Tame P Q s → EndT Q w es (s.runT P w es) := by
  intro s
  induction s with
  | pure a => exact fun w es h => ⟨w, Nat.le_refl _, .inl ⟨a, rfl, h⟩, fun e he => .inl he⟩
  | load m a k ih =>
    intro w es h
    unfold Sem.runT
    cases hc : w.cell? a with
    | some v => exact (ih v w _ (h v)).on (Nat.le_refl _) fun e he => mem_pushE (evG_cell (lt_of_cell hc)) he
    | none =>
      dsimp only
      cases hf : w.farLoad P a (m == .atomic) with
      | error x => exact ⟨w, Nat.le_refl _, .inr ⟨x, rfl, farLoad_kind hf⟩, fun e he => .inl he⟩
      | ok x =>
        obtain ⟨v, l⟩ := x
        exact (ih v w _ (h v)).on (Nat.le_refl _) fun e he => mem_cellsE (farLoad_low hf) he
  | store m a v k ih =>
    intro w es h
    have key : EndT Q w es (match w.cell? a with
      | some _ =>
        if w.frozen? a then (Result.halt (.unsupported (.unsafePointer "a write to bytes that a string shares")) w, es)
        else k.runT P (w.setCell a v) (es.push ⟨.cell a, true, m == .atomic⟩)
      | none => match w.farStore P a v (m == .atomic) with
        | .ok (w, touched) => k.runT P w (es ++ touched.toArray.map (⟨.cell ·, true, m == .atomic⟩))
        | .error h => (.halt h w, es)) := by
      cases hc : w.cell? a with
      | some u =>
        dsimp only
        split
        · exact ⟨w, Nat.le_refl _, .inr ⟨_, rfl, .inr (.inr ⟨_, rfl⟩)⟩, fun e he => .inl he⟩
        · have hs : (w.setCell a v).heap.size = w.heap.size := by unfold World.setCell; split <;> simp
          exact (ih _ _ h).on (by omega) fun e he => mem_pushE (evG_cell (by rw [hs]; exact lt_of_cell hc)) he
      | none =>
        dsimp only
        cases hf : w.farStore P a v (m == .atomic) with
        | error x => exact ⟨w, Nat.le_refl _, .inr ⟨x, rfl, farStore_kind hf⟩, fun e he => .inl he⟩
        | ok x =>
          obtain ⟨w1, l⟩ := x
          obtain ⟨h1, h2⟩ := farStore_low hf
          exact (ih _ _ h).on (by omega) fun e he => mem_cellsE (by rw [h1]; exact h2) he
    cases v
    case agg => exact ⟨w, Nat.le_refl _, .inr ⟨_, rfl, .inr (.inl ⟨_, rfl⟩)⟩, fun e he => .inl he⟩
    case tuple => exact ⟨w, Nat.le_refl _, .inr ⟨_, rfl, .inr (.inl ⟨_, rfl⟩)⟩, fun e he => .inl he⟩
    all_goals exact key
  | new o k ih => exact fun w es h => (ih _ _ _ (h _)).on (by simp) fun e he => .inl he
  | shape r k ih => exact fun w es h => ih _ _ _ (h _)
  | freeze a n k ih =>
    intro w es h
    have hs : (w.freeze a n).heap.size = w.heap.size := by unfold World.freeze; repeat' (first | rfl | split | simp)
    exact (ih _ _ h).on (by omega) fun e he => .inl he
  | frozen a k ih => exact fun w es h => ih _ _ _ (h _)
  | getObj r k ih =>
    intro w es h
    unfold Sem.runT
    split
    · exact ⟨w, Nat.le_refl _, .inr ⟨_, rfl, .inr (.inl ⟨_, rfl⟩)⟩, fun e he => .inl he⟩
    · rename_i o ho hh
      exact (ih _ _ _ (h _)).on (Nat.le_refl _) fun e he => mem_pushE (evG_obj (lt_of_get hh)) he
    · exact ⟨w, Nat.le_refl _, .inr ⟨_, rfl, .inr (.inl ⟨_, rfl⟩)⟩, fun e he => .inl he⟩
  | setObj r o k ih =>
    intro w es h
    unfold Sem.runT
    split
    · exact ⟨w, Nat.le_refl _, .inr ⟨_, rfl, .inr (.inl ⟨_, rfl⟩)⟩, fun e he => .inl he⟩
    · rename_i o' ho hh
      exact (ih _ _ h).on (by simp) fun e he => mem_pushE (evG_obj (by simp; exact lt_of_get hh)) he
    · exact ⟨w, Nat.le_refl _, .inr ⟨_, rfl, .inr (.inl ⟨_, rfl⟩)⟩, fun e he => .inl he⟩
  | choose q k ih =>
    intro w es h
    unfold Sem.runT
    split
    · exact ih _ _ _ (h _)
    · exact (ih _ _ _ (h _)).on (Nat.le_refl _) fun e he => .inl he
  | sys c k ih => exact fun w es h => h.elim
  | program k ih => exact fun w es h => ih _ _ _ h
  | mark m k ih =>
    intro w es h
    obtain ⟨rfl, h⟩ := h
    exact (ih _ _ h).on (Nat.le_refl _) fun e he => mem_pushE (show EvG w.heap.size ⟨.mark .noRoom, false, true⟩ from ⟨trivial, fun m e => by injection e with e; exact e.symm⟩) he
  | halt x => exact fun w es h => ⟨w, Nat.le_refl _, .inr ⟨x, rfl, h⟩, fun e he => .inl he⟩
end Go.Proofs.YtpajdmhgonmgoaaDoor

namespace Go.Proofs.YtpajdmhgonmgoaaDoor
open Go.RowKit
set_option linter.unusedVariables false
open Go.Conc
set_option linter.unusedSimpArgs false
/-- A meaning that looks at no row's length and freezes nothing; else as a tame one. -/
def Tz {α : Type} (P : Program) (Q : α → Prop) : Sem α → Prop
  | .pure a => Q a
  | .load _ _ k => ∀ v, Tz P Q (k v)
  | .store _ _ _ k => Tz P Q k
  | .new _ k => ∀ r, Tz P Q (k r)
  | .shape _ k => (∀ t, (∀ n m, k (some (t, n)) = k (some (t, m))) ∨ Tame P (fun _ => False) (k (some (t, 0)))) ∧ ∀ s, Tz P Q (k s)
  | .freeze _ _ k => Tame P (fun _ => False) k
  | .frozen _ k => ∀ b, Tz P Q (k b)
  | .getObj _ k => ∀ o, Tz P Q (k o)
  | .setObj _ _ k => Tame P (fun _ => False) k
  | .choose _ k => ∀ n, Tz P Q (k n)
  | .sys _ _ => False
  | .program k => Tz P Q (k P)
  | .mark m k => m = .noRoom ∧ Tz P Q k
  | .halt h => (∃ v, h = .panic v) ∨ (∃ s, h = .stuck s) ∨ (∃ u, h = .unsupported u)
theorem Tz.bind {α β : Type} {P : Program} {Q : α → Prop} {R : β → Prop} {f : α → Sem β} (hf : ∀ a, Q a → Tz P R (f a)) : ∀ {s : Sem α}, Tz P Q s → Tz P R (s >>= f) := by
  intro s
  show Tz P Q s → Tz P R (s.bind f)
  induction s with
  | pure a => exact hf a
  | load m a k ih => exact fun h v => ih v (h v)
  | store m a v k ih => exact fun h => ih h
  | new o k ih => exact fun h r => ih r (h r)
  | shape r k ih => exact fun h => ⟨fun t => (h.1 t).elim (fun h => Or.inl fun n m => by show (k _).bind f = (k _).bind f; rw [h n m]) (fun h => Or.inr (Tame.bind (fun a (ha : False) => ha.elim) h)), fun s => ih s (h.2 s)⟩
  | freeze a n k ih => exact fun h => Tame.bind (fun a (ha : False) => ha.elim) h
  | frozen a k ih => exact fun h b => ih b (h b)
  | getObj r k ih => exact fun h o => ih o (h o)
  | setObj r o k ih => exact fun h => Tame.bind (fun a (ha : False) => ha.elim) h
  | choose q k ih => exact fun h n => ih n (h n)
  | sys c k ih => exact fun h => h.elim
  | program k ih => exact fun h => ih P h
  | mark m k ih => exact fun h => ⟨h.1, ih h.2⟩
  | halt h => exact fun x => x
/-- So it is a tame one. -/
theorem Tz.tame {α : Type} {P : Program} {Q : α → Prop} : ∀ {s : Sem α}, Tz P Q s → Tame P Q s := by
  intro s
  induction s with
  | pure a => exact fun h => h
  | load m a k ih => exact fun h v => ih v (h v)
  | store m a v k ih => exact fun h => ih h
  | new o k ih => exact fun h r => ih r (h r)
  | shape r k ih => exact fun h s => ih s (h.2 s)
  | freeze a n k ih => exact fun h => Tame.mono (fun a (ha : False) => ha.elim) h
  | frozen a k ih => exact fun h b => ih b (h b)
  | getObj r k ih => exact fun h o => ih o (h o)
  | setObj r o k ih => exact fun h => Tame.mono (fun a (ha : False) => ha.elim) h
  | choose q k ih => exact fun h n => ih n (h n)
  | sys c k ih => exact fun h => h.elim
  | program k ih => exact fun h => ih P h
  | mark m k ih => exact fun h => ⟨h.1, ih h.2⟩
  | halt h => exact fun x => x
/-- What never comes back is one. -/
theorem zDead {α : Type} {P : Program} {Q : α → Prop} : ∀ {s : Sem α}, Tame P (fun _ => False) s → Tz P Q s := by
  intro s
  induction s with
  | pure a => exact fun h => h.elim
  | load m a k ih => exact fun h v => ih v (h v)
  | store m a v k ih => exact fun h => ih h
  | new o k ih => exact fun h r => ih r (h r)
  | shape r k ih => exact fun h => ⟨fun t => Or.inr (h _), fun s => ih s (h s)⟩
  | freeze a n k ih => exact fun h => h
  | frozen a k ih => exact fun h b => ih b (h b)
  | getObj r k ih => exact fun h o => ih o (h o)
  | setObj r o k ih => exact fun h => h
  | choose q k ih => exact fun h n => ih n (h n)
  | sys c k ih => exact fun h => h.elim
  | program k ih => exact fun h => ih P h
  | mark m k ih => exact fun h => ⟨h.1, ih h.2⟩
  | halt h => exact fun x => x
theorem zDeadB {α β : Type} {P : Program} {R : β → Prop} {s : Sem α} {f : α → Sem β} (h : Tame P (fun _ => True) s) (hf : ∀ a, Tame P (fun _ => False) (f a)) : Tz P R (s >>= f) := zDead (Tame.bind (fun a _ => hf a) h)
end Go.Proofs.YtpajdmhgonmgoaaDoor

namespace Go.Proofs.YtpajdmhgonmgoaaDoor
open Go.RowKit
set_option linter.unusedVariables false
open Go.Conc
set_option linter.unusedSimpArgs false
abbrev TzT {α : Type} (P : Program) (s : Sem α) : Prop := Tz P (fun _ => True) s
theorem zB {α β : Type} {P : Program} {R : β → Prop} {s : Sem α} {f : α → Sem β} (h : TzT P s) (hf : ∀ a, Tz P R (f a)) : Tz P R (s >>= f) := Tz.bind (fun a _ => hf a) h
theorem zPure {α : Type} {P : Program} (a : α) : TzT P (pure a) := trivial
theorem zStuck {α : Type} {P : Program} {Q : α → Prop} (s : String) : Tz P Q (stuck s) := .inr (.inl ⟨_, rfl⟩)
theorem zUns {α : Type} {P : Program} {Q : α → Prop} (u : Unsupported) : Tz P Q (unsupported u) := .inr (.inr ⟨_, rfl⟩)
theorem zPanic {α : Type} {P : Program} {Q : α → Prop} (v : Value) : Tz P Q (goPanic v) := .inl ⟨_, rfl⟩
theorem zProg {P : Program} : TzT P program := trivial
theorem zLoad {P : Program} (a : Addr) (m : Mode) : TzT P (load a m) := fun _ => trivial
theorem zStore {P : Program} (a : Addr) (v : Value) (m : Mode) : TzT P (store a v m) := trivial
theorem zNew {P : Program} (o : Obj) : TzT P (newObj o) := fun _ => trivial
theorem zShB {β : Type} {P : Program} {R : β → Prop} {r : Nat} {f : Option (TypeId × Nat) → Sem β} (h : ∀ t, (∀ n m, f (some (t, n)) = f (some (t, m))) ∨ Tame P (fun _ => False) (f (some (t, 0)))) (hf : ∀ s, Tz P R (f s)) : Tz P R (shape r >>= f) := ⟨h, hf⟩
theorem zFroz {P : Program} (a : Addr) : TzT P (frozen a) := fun _ => trivial
theorem zGetObj {P : Program} (r : Nat) : TzT P (getObj r) := fun _ => trivial
theorem zChoose {P : Program} (q : Question) : TzT P (choose q) := fun _ => trivial
theorem zRoom {P : Program} (n : Nat) : TzT P (askRoom n) := by
  unfold askRoom
  split
  · exact ⟨rfl, trivial⟩
  · exact trivial
theorem zForList {α β : Type} {P : Program} (f : α → β → Sem (ForInStep β)) (hf : ∀ a b, TzT P (f a b)) : ∀ (l : List α) (b : β), TzT P (forIn l b f)
  | [], b => trivial
  | a :: r, b => by
    rw [List.forIn_cons]
    refine zB (hf a b) (fun s => ?_)
    cases s with
    | done b => exact trivial
    | yield b => exact zForList f hf r b
theorem zForArr {α β : Type} {P : Program} (f : α → β → Sem (ForInStep β)) (hf : ∀ a b, TzT P (f a b)) (l : Array α) (b : β) : TzT P (forIn l b f) := by
  rw [← Array.forIn_toList]
  exact zForList f hf _ _
theorem zMapList {α β : Type} {P : Program} (f : α → Sem β) (hf : ∀ a, TzT P (f a)) : ∀ (l : List α) (acc : List β), TzT P (List.mapM.loop f l acc)
  | [], acc => trivial
  | a :: r, acc => zB (hf a) (fun b => zMapList f hf r _)
theorem zMapArr {α β : Type} {P : Program} (f : α → Sem β) (hf : ∀ a, TzT P (f a)) (xs : Array α) : TzT P (Array.mapM f xs) := by
  rw [Array.mapM_eq_mapM_toList]
  exact zB (zMapList f hf _ _) (fun _ => trivial)
theorem zInfo {P : Program} : ∀ (t : TypeId), TzT P (typeInfo t) := by
  intro t; unfold typeInfo
  repeat' (first | with_reducible exact zPure _ | with_reducible exact zStuck _ | with_reducible exact zProg | (with_reducible refine zB ?_ (fun _ => ?_)) | (split) | (dsimp only))
theorem zUnd {P : Program} : ∀ (t : TypeId), TzT P (underlying t) := by
  intro t; unfold underlying
  repeat' (first | with_reducible exact zPure _ | with_reducible exact zStuck _ | with_reducible exact zProg | (with_reducible refine zB ?_ (fun _ => ?_)) | (split) | (dsimp only))
theorem zZero {P : Program} : ∀ (t : TypeId), TzT P (zeroValue t) := by
  intro t; unfold zeroValue
  repeat' (first | with_reducible exact zPure _ | with_reducible exact zUns _ | with_reducible exact zInfo _ | (with_reducible refine zB ?_ (fun _ => ?_)) | (split) | (dsimp only))
theorem zSize {P : Program} : ∀ (t : TypeId), TzT P (sizeOf t) := by
  intro t; unfold sizeOf
  repeat' (first | with_reducible exact zPure _ | with_reducible exact zInfo _ | (with_reducible refine zB ?_ (fun _ => ?_)) | (split) | (dsimp only))
theorem zAgg {P : Program} : ∀ (t : TypeId), TzT P (isAgg t) := by
  intro t; unfold isAgg
  repeat' (first | with_reducible exact zPure _ | with_reducible exact zUnd _ | (with_reducible refine zB ?_ (fun _ => ?_)) | (split) | (dsimp only))
theorem zStr {P : Program} : ∀ (t : TypeId), TzT P (typeStr t) := by
  intro t; unfold typeStr
  repeat' (first | with_reducible exact zPure _ | with_reducible exact zUns _ | with_reducible exact zInfo _ | (with_reducible refine zB ?_ (fun _ => ?_)) | (split) | (dsimp only))
theorem zLoadC {P : Program} : ∀ (n : Nat) (a : Addr) (i : Nat) (acc : Array Value), TzT P (loadCellsFrom a i n acc)
  | 0, a, i, acc => trivial
  | n + 1, a, i, acc => zB (zLoad _ _) (fun v => zLoadC n a _ _)
theorem zLoadCs {P : Program} (a : Addr) (n : Nat) : TzT P (loadCells a n) := zLoadC _ _ _ _
theorem zStoreC {P : Program} : ∀ (vs : List Value) (a : Addr) (i : Nat), TzT P (storeCells a vs i)
  | [], a, i => trivial
  | v :: r, a, i => zB (zStore _ _ _) (fun _ => zStoreC r a _)
theorem zLoadV {P : Program} : ∀ (t : TypeId) (a : Addr), TzT P (loadVar t a) := by
  intro t a; unfold loadVar
  repeat' (first | with_reducible exact zPure _ | with_reducible exact zLoad _ _ | with_reducible exact zSize _ | with_reducible exact zAgg _ | with_reducible exact zLoadCs _ _ | (with_reducible refine zB ?_ (fun _ => ?_)) | (split) | (dsimp only))
theorem zStoreV {P : Program} : ∀ (t : TypeId) (a : Addr) (v : Value), TzT P (storeVar t a v) := by
  intro t a v; unfold storeVar
  repeat' (first | with_reducible exact zStuck _ | with_reducible exact zSize _ | with_reducible exact zStoreC _ _ _ | (with_reducible refine zB ?_ (fun _ => ?_)) | (split) | (dsimp only))
theorem zRow {P : Program} : ∀ (t : TypeId) (c : Array Value), TzT P (newRow t c) := by
  intro t c; unfold newRow
  repeat' (first | with_reducible exact zPure _ | with_reducible exact zNew _ | (with_reducible refine zB ?_ (fun _ => ?_)) | (split) | (dsimp only))
theorem zVar {P : Program} : ∀ (t : TypeId) (v : Value), TzT P (newVar t v) := by
  intro t v; unfold newVar
  repeat' (first | with_reducible exact zRow _ _ | (split) | (dsimp only))
theorem zElem {P : Program} : ∀ (t : TypeId), TzT P (elemOf t) := by
  intro t; unfold elemOf
  repeat' (first | with_reducible exact zPure _ | with_reducible exact zStuck _ | with_reducible exact zUnd _ | (with_reducible refine zB ?_ (fun _ => ?_)) | (split) | (dsimp only))
theorem zPart {P : Program} : ∀ (t : TypeId) (c : Array Value) (o : Nat), TzT P (part t c o) := by
  intro t c o; unfold part
  repeat' (first | with_reducible exact zPure _ | with_reducible exact zStuck _ | with_reducible exact zSize _ | with_reducible exact zAgg _ | (with_reducible refine zB ?_ (fun _ => ?_)) | (split) | (dsimp only))
theorem zRun {P : Program} : ∀ {α : Type} {Q : α → Prop} (e : RuntimeError), Tz P Q (runtimePanic e) := by
  intro α Q e; unfold runtimePanic
  repeat' (first | with_reducible exact zPanic _ | with_reducible exact zProg | with_reducible exact zVar _ _ | with_reducible exact zElem _ | (with_reducible refine zB ?_ (fun _ => ?_)) | (split) | (dsimp only))
theorem zBnd {P : Program} : ∀ {α : Type} {Q : α → Prop} (k : IntKind) (x y : Int) (c : BoundsCode), Tz P Q (boundsPanic k x y c) := by
  intro α Q k x y c; unfold boundsPanic
  repeat' (first | with_reducible exact zPure _ | with_reducible exact zChoose _ | with_reducible exact zRun _ | (refine zB (α := Nat) ?_ (fun _ => ?_)) | exact trivial | (with_reducible refine zB ?_ (fun _ => ?_)) | (split) | (dsimp only))
theorem zIntOf {P : Program} : ∀ (v : Value), TzT P (asIntOf v) := by
  intro v; unfold asIntOf
  repeat' (first | with_reducible exact zPure _ | with_reducible exact zStuck _ | with_reducible exact zUns _ | (split) | (dsimp only))
theorem zInt {P : Program} : ∀ (v : Value), TzT P (asInt v) := by
  intro v; unfold asInt
  repeat' (first | with_reducible exact zPure _ | with_reducible exact zIntOf _ | (with_reducible refine zB ?_ (fun _ => ?_)) | (split) | (dsimp only))
theorem zBool {P : Program} : ∀ (v : Value), TzT P (asBool v) := by
  intro v; unfold asBool
  repeat' (first | with_reducible exact zPure _ | with_reducible exact zStuck _ | (split) | (dsimp only))
theorem zAggV {P : Program} : ∀ (v : Value), TzT P (asAgg v) := by
  intro v; unfold asAgg
  repeat' (first | with_reducible exact zPure _ | with_reducible exact zStuck _ | (split) | (dsimp only))
theorem zAddr {P : Program} : ∀ (v : Value), TzT P (asAddr v) := by
  intro v; unfold asAddr
  repeat' (first | with_reducible exact zPure _ | with_reducible exact zStuck _ | with_reducible exact zRun _ | (split) | (dsimp only))
theorem zSure {P : Program} : ∀ (v : Value), TzT P (Instr.sureAddr v) := by
  intro v; unfold Instr.sureAddr
  repeat' (first | with_reducible exact zPure _ | with_reducible exact zStuck _ | (split) | (dsimp only))
theorem zView {P : Program} : ∀ (r : Nat), TzT P (viewAt r) := by
  intro r; unfold viewAt
  repeat' (first | with_reducible exact zPure _ | with_reducible exact zGetObj _ | ((with_reducible refine zShB ?_ (fun _ => ?_)); · exact fun _ => Or.inl (fun _ _ => rfl)) | (with_reducible refine zB ?_ (fun _ => ?_)) | (split) | (dsimp only))
theorem zNum {P : Program} : ∀ (r : Nat), TzT P (numberAt r) := by
  intro r; unfold numberAt
  repeat' (first | with_reducible exact zPure _ | with_reducible exact zGetObj _ | ((with_reducible refine zShB ?_ (fun _ => ?_)); · exact fun _ => Or.inl (fun _ _ => rfl)) | (with_reducible refine zB ?_ (fun _ => ?_)) | (split) | (dsimp only))
theorem zBeh {P : Program} : ∀ (n : Addr), TzT P (behindNumber n) := by
  intro n; unfold behindNumber
  repeat' (first | with_reducible exact zPure _ | with_reducible exact zNum _ | (with_reducible refine zB ?_ (fun _ => ?_)) | (split) | (dsimp only))
theorem zAsNum {P : Program} : ∀ (n : Addr) (b : Bool), TzT P (asNumber n b) := by
  intro n b; unfold asNumber
  repeat' (first | with_reducible exact zPure _ | with_reducible exact zNew _ | (with_reducible refine zB ?_ (fun _ => ?_)) | (split) | (dsimp only))
theorem zNoView {P : Program} : ∀ (n : Addr), TzT P (noView n) := by
  intro n; unfold noView
  repeat' (first | with_reducible exact zPure _ | with_reducible exact zUns _ | with_reducible exact zView _ | (with_reducible refine zB ?_ (fun _ => ?_)) | (split) | (dsimp only))
theorem zByte {P : Program} : ∀ (a : Addr), TzT P (byteOf a) := by
  intro a; unfold byteOf
  repeat' (first | with_reducible exact zPure _ | with_reducible exact zStuck _ | with_reducible exact zProg | with_reducible exact zNoView _ | ((with_reducible refine zShB ?_ (fun _ => ?_)); · exact fun _ => Or.inl (fun _ _ => rfl)) | (with_reducible refine zB ?_ (fun _ => ?_)) | (split) | (dsimp only))
theorem zPartAt {P : Program} : ∀ (a : Addr) (c b : Nat), TzT P (partAt a c b) := by
  intro a c b; unfold partAt
  repeat' (first | with_reducible exact zPure _ | with_reducible exact zByte _ | (with_reducible refine zB ?_ (fun _ => ?_)) | (split) | (dsimp only))
theorem zField {P : Program} : ∀ (a : Addr) (f : Field), TzT P (fieldPlace a f) := by
  intro a f; unfold fieldPlace
  repeat' (first | with_reducible exact zPure _ | with_reducible exact zSize _ | with_reducible exact zPartAt _ _ _ | (with_reducible refine zB ?_ (fun _ => ?_)) | (split) | (dsimp only))
theorem ziAlloc {P : Program} : ∀ (t : TypeId) (b : Bool) (v : Value), TzT P (Instr.alloc t b v) := by
  intro t b v; unfold Instr.alloc
  repeat' (first | with_reducible exact zPure _ | with_reducible exact zZero _ | with_reducible exact zStoreV _ _ _ | with_reducible exact zVar _ _ | (with_reducible refine zB ?_ (fun _ => ?_)) | (split) | (dsimp only))
theorem ziBox {P : Program} : ∀ (t : TypeId) (v : Value), TzT P (Instr.box t v) := by
  intro t v; unfold Instr.box
  repeat' (first | with_reducible exact zPure _ | with_reducible exact zVar _ _ | (with_reducible refine zB ?_ (fun _ => ?_)) | (split) | (dsimp only))
theorem ziBuild {P : Program} : ∀ (t : TypeId) (l : Array (Nat × Value)), TzT P (Instr.build t l) := by
  intro t l; unfold Instr.build
  repeat' (first | with_reducible exact zPure _ | with_reducible exact zStuck _ | with_reducible exact zUnd _ | with_reducible exact zZero _ | with_reducible exact zSize _ | (refine zMapArr _ (fun _ => ?_) _) | (with_reducible refine zB ?_ (fun _ => ?_)) | (split) | (dsimp only))
theorem ziBuildS {P : Program} : ∀ (t : TypeId) (n : Nat) (l : Array (Nat × Value)), TzT P (Instr.buildSlice t n l) := by
  intro t n l; unfold Instr.buildSlice
  repeat' (first | with_reducible exact zPure _ | with_reducible exact zStuck _ | with_reducible exact zUns _ | with_reducible exact zUnd _ | with_reducible exact zZero _ | with_reducible exact zSize _ | with_reducible exact zRow _ _ | (with_reducible refine zB ?_ (fun _ => ?_)) | (split) | (dsimp only))
theorem ziLoad {P : Program} : ∀ (t : TypeId) (v : Value), TzT P (Instr.loadAt t v) := by
  intro t v; unfold Instr.loadAt
  repeat' (first | with_reducible exact zLoadV _ _ | with_reducible exact zSure _ | (with_reducible refine zB ?_ (fun _ => ?_)) | (split) | (dsimp only))
theorem ziStore {P : Program} : ∀ (t : TypeId) (v x : Value), TzT P (Instr.storeAt t v x) := by
  intro t v x; unfold Instr.storeAt
  repeat' (first | with_reducible exact zStoreV _ _ _ | with_reducible exact zSure _ | (with_reducible refine zB ?_ (fun _ => ?_)) | (split) | (dsimp only))
theorem ziMkI {P : Program} : ∀ (t : TypeId) (v : Value), TzT P (Instr.makeInterface t v) := by
  intro t v; unfold Instr.makeInterface
  repeat' (first | with_reducible exact zPure _ | with_reducible exact zStuck _ | with_reducible exact zUnd _ | (with_reducible refine zB ?_ (fun _ => ?_)) | (split) | (dsimp only))
theorem ziMkS {P : Program} : ∀ (t : TypeId) (l c : Value), TzT P (Instr.makeSlice t l c) := by
  intro t l c; unfold Instr.makeSlice
  repeat' (first | with_reducible exact zPure _ | with_reducible exact zStuck _ | with_reducible exact zChoose _ | with_reducible exact zRoom _ | with_reducible exact zInfo _ | with_reducible exact zUnd _ | with_reducible exact zZero _ | with_reducible exact zSize _ | with_reducible exact zRow _ _ | with_reducible exact zRun _ | with_reducible exact zInt _ | (with_reducible refine zB ?_ (fun _ => ?_)) | (split) | (dsimp only))
theorem ziSlB {P : Program} : ∀ (x : Value) (y : Nat) (c : BoundsCode), TzT P (Instr.sliceBound x y c) := by
  intro x y c; unfold Instr.sliceBound
  repeat' (first | with_reducible exact zPure _ | with_reducible exact zBnd _ _ _ _ | with_reducible exact zIntOf _ | (with_reducible refine zB ?_ (fun _ => ?_)) | (split) | (dsimp only))
theorem ziSlBs {P : Program} : ∀ (b : Bool) (x y : Nat) (l h m : Option Value), TzT P (Instr.sliceBounds b x y l h m) := by
  intro b x y l h m; unfold Instr.sliceBounds
  repeat' (first | with_reducible exact zPure _ | with_reducible exact zStuck _ | with_reducible exact ziSlB _ _ _ | (with_reducible refine zB ?_ (fun _ => ?_)) | (split) | (dsimp only))
theorem ziSl {P : Program} : ∀ (t : TypeId) (x : Value) (l h m : Option Value), TzT P (Instr.slice t x l h m) := by
  intro t x l h m; unfold Instr.slice
  repeat' (first | with_reducible exact zPure _ | with_reducible exact zStuck _ | with_reducible exact zUnd _ | with_reducible exact zSize _ | with_reducible exact zAddr _ | with_reducible exact ziSlBs _ _ _ _ _ _ | (with_reducible refine zB ?_ (fun _ => ?_)) | (split) | (dsimp only))
theorem ziSlA {P : Program} : ∀ (t : TypeId) (x : Value) (l h m : Option Value), TzT P (Instr.sliceAt t x l h m) := by
  intro t x l h m; unfold Instr.sliceAt
  repeat' (first | with_reducible exact zPure _ | with_reducible exact zUnd _ | with_reducible exact zSize _ | with_reducible exact zSure _ | with_reducible exact ziSlBs _ _ _ _ _ _ | with_reducible exact ziSl _ _ _ _ _ | (with_reducible refine zB ?_ (fun _ => ?_)) | (split) | (dsimp only))
theorem ziFieldA {P : Program} : ∀ (t : TypeId) (v : Value) (n : Nat), TzT P (Instr.fieldAt t v n) := by
  intro t v n; unfold Instr.fieldAt
  repeat' (first | with_reducible exact zPure _ | with_reducible exact zStuck _ | with_reducible exact zUnd _ | with_reducible exact zSure _ | with_reducible exact zField _ _ | (with_reducible refine zB ?_ (fun _ => ?_)) | (split) | (dsimp only))
theorem ziField {P : Program} : ∀ (t : TypeId) (v : Value) (n : Nat), TzT P (Instr.field t v n) := by
  intro t v n; unfold Instr.field
  repeat' (first | with_reducible exact zStuck _ | with_reducible exact zUnd _ | with_reducible exact zPart _ _ _ | with_reducible exact zAggV _ | (with_reducible refine zB ?_ (fun _ => ?_)) | (split) | (dsimp only))
theorem ziIndexA {P : Program} : ∀ (t : TypeId) (v x : Value), TzT P (Instr.indexAt t v x) := by
  intro t v x; unfold Instr.indexAt
  repeat' (first | with_reducible exact zPure _ | with_reducible exact zStuck _ | with_reducible exact zUns _ | with_reducible exact zUnd _ | with_reducible exact zSize _ | with_reducible exact zBnd _ _ _ _ | with_reducible exact zIntOf _ | with_reducible exact zSure _ | (with_reducible refine zB ?_ (fun _ => ?_)) | (split) | (dsimp only))
theorem ziIndex {P : Program} : ∀ (t : TypeId) (v x : Value), TzT P (Instr.index t v x) := by
  intro t v x; unfold Instr.index
  repeat' (first | with_reducible exact zPure _ | with_reducible exact zStuck _ | with_reducible exact zUnd _ | with_reducible exact zSize _ | with_reducible exact zPart _ _ _ | with_reducible exact zBnd _ _ _ _ | with_reducible exact zIntOf _ | (with_reducible refine zB ?_ (fun _ => ?_)) | (split) | (dsimp only))
theorem ziExtract {P : Program} : ∀ (v : Value) (n : Nat), TzT P (Instr.extract v n) := by
  intro v n; unfold Instr.extract
  repeat' (first | with_reducible exact zPure _ | with_reducible exact zStuck _ | (split) | (dsimp only))
end Go.Proofs.YtpajdmhgonmgoaaDoor

