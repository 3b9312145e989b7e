/-
  What the last text of this claim leans on, part 6: Ka1, Ka2.
-/
import Derived.Conc.Beside
import Derived.Conc.CrowdInv
import Derived.Conc.Token
import Derived.Conc.CrowdComm
import Derived.Conc.CrowdStepC
namespace Go.Proofs.YtpajdmhgonmgoaaDoor
open Go.Conc Go.ConcN
set_option linter.unusedVariables false
/-- Goroutine 0 and the j workers that are started know it. -/
def TeamK (t : Trace) (L j i : Nat) : Prop := Knows t 0 i ∧ ∀ k, k < j → Knows t (L + k) i
theorem TeamK.app {t : Trace} {L j i : Nat} (u : Trace) (h : TeamK t L j i) : TeamK (t ++ u) L j i := ⟨h.1.app u, fun k hk => (h.2 k hk).app u⟩
theorem TeamK.of {t : Trace} {L j i g : Nat} (h : TeamK t L j i) (hg : g = 0 ∨ ∃ k, k < j ∧ g = L + k) : Knows t g i := by
  rcases hg with rfl | ⟨k, hk, rfl⟩
  · exact h.1
  · exact h.2 k hk
structure TJ (Sh Rd : Loc → Prop) (L : Nat) (t : Trace) (j : Nat) : Prop where
  nr : ∀ said, ¬ Race said t
  sh : ∀ i a, touchAt t i = some a → a.loc.isMemory = true → Sh a.loc → a.kind = .atomic ∨ (a.kind = .said ∧ Knows t 0 i) ∨ TeamK t L j i
  rd : ∀ i a, touchAt t i = some a → a.loc.isMemory = true → Rd a.loc → a.write = true → TeamK t L j i
  mine : ∀ i a, touchAt t i = some a → a.loc.isMemory = true → ¬ Sh a.loc → ¬ Rd a.loc → Knows t 0 i
/-- What goroutine g of the crew may do. -/
def OkT (Sh Rd : Loc → Prop) (g : Nat) (op : MemOp) : Prop :=
  op.g = g ∧ ∀ x, op.act.touch? = some x → (Sh x.loc ∧ (x.kind = .atomic ∨ (g = 0 ∧ x.kind = .said))) ∨ (Rd x.loc ∧ x.write = false) ∨ (g = 0 ∧ ¬ Sh x.loc ∧ ¬ Rd x.loc)
section
variable {Sh Rd : Loc → Prop} {L j : Nat} {t u : Trace}
theorem TJ.app (A : ∀ l, Rd l → ¬ Sh l) (h : TJ Sh Rd L t j) {g : Nat} (hg : g = 0 ∨ ∃ k, k < j ∧ g = L + k) (hu : ∀ op ∈ u, OkT Sh Rd g op) : TJ Sh Rd L (t ++ u) j := by
  have cas : ∀ {i : Nat} {a : Touch}, touchAt (t ++ u) i = some a → (touchAt t i = some a) ∨ (∃ op, (t ++ u)[i]? = some op ∧ op ∈ u ∧ op.act.touch? = some a) := by
    intro i a ha
    obtain ⟨x, hx, hxa⟩ := touch_of ha
    rcases getElem?_append_cases hx with ⟨_, hx'⟩ | ⟨_, hxu⟩
    · exact .inl (by rw [touchAt_of hx']; exact hxa)
    · exact .inr ⟨x, hx, hxu, hxa⟩
  refine ⟨fun said => noRace_append (h.nr said) (fun op hop => (hu op hop).1) (fun i a ha op hop b hb hc => ?_), fun i a ha hm hs => ?_, fun i a ha hm hr hw => ?_, fun i a ha hm hs hr => ?_⟩
  · have hm : a.loc.isMemory = true := hc.2.1
    rcases (hu op hop).2 b hb with ⟨hs, hk⟩ | ⟨hr, hw⟩ | ⟨g0, hs, hr⟩
    · rcases h.sh i a ha hm (by rw [hc.1]; exact hs) with ka | ⟨ka, kn⟩ | tk
      · have c := hc.2.2.2
        rw [ka] at c
        rcases c with c | c | ⟨_, c, _⟩
        · cases c
        · rcases hk with e | ⟨_, e⟩ <;> rw [e] at c <;> cases c
        · cases c
      · have c := hc.2.2.2
        rcases hk with e | ⟨g0, e⟩
        · rw [ka, e] at c
          rcases c with c | c | ⟨_, _, c⟩ <;> cases c
        · rw [g0]; exact kn
      · exact tk.of hg
    · refine (h.rd i a ha hm (by rw [hc.1]; exact hr) ?_).of hg
      exact hc.2.2.1.resolve_right (by rw [hw]; simp)
    · rw [g0]; exact h.mine i a ha hm (by rw [hc.1]; exact hs) (by rw [hc.1]; exact hr)
  · rcases cas ha with ha' | ⟨op, hi, hop, hb⟩
    · rcases h.sh i a ha' hm hs with k | ⟨k, kn⟩ | tk
      · exact .inl k
      · exact .inr (.inl ⟨k, kn.app u⟩)
      · exact .inr (.inr (tk.app u))
    · rcases (hu op hop).2 a hb with ⟨_, hk⟩ | ⟨hr, _⟩ | ⟨_, hn, _⟩
      · rcases hk with e | ⟨g0, e⟩
        · exact .inl e
        · have := knows_own hi
          rw [(hu op hop).1, g0] at this
          exact .inr (.inl ⟨e, this⟩)
      · exact absurd hs (A _ hr)
      · exact absurd hs hn
  · rcases cas ha with ha' | ⟨op, hi, hop, hb⟩
    · exact (h.rd i a ha' hm hr hw).app u
    · rcases (hu op hop).2 a hb with ⟨hs, _⟩ | ⟨_, h2⟩ | ⟨_, _, hn⟩
      · exact absurd hs (A _ hr)
      · rw [hw] at h2; cases h2
      · exact absurd hr hn
  · rcases cas ha with ha' | ⟨op, hi, hop, hb⟩
    · exact (h.mine i a ha' hm hs hr).app u
    · rcases (hu op hop).2 a hb with ⟨h1, _⟩ | ⟨h1, _⟩ | ⟨g0, _, _⟩
      · exact absurd h1 hs
      · exact absurd h1 hr
      · have := knows_own hi
        rw [(hu op hop).1, g0] at this
        exact this
/-- Operations that touch nothing. -/
theorem TJ.mute (h : TJ Sh Rd L t j) {g : Nat} (hg : ∀ op ∈ u, op.g = g) (hu : ∀ op ∈ u, op.act.touch? = none) : TJ Sh Rd L (t ++ u) j := by
  have old : ∀ {i : Nat} {a : Touch}, touchAt (t ++ u) i = some a → touchAt t i = some a := by
    intro i a ha
    obtain ⟨x, hx, hxa⟩ := touch_of ha
    rcases getElem?_append_cases hx with ⟨_, hx'⟩ | ⟨_, hxu⟩
    · rw [touchAt_of hx']; exact hxa
    · rw [hu x hxu] at hxa; cases hxa
  refine ⟨fun said => noRace_append (h.nr said) hg (fun i a ha op hop b hb hc => by rw [hu op hop] at hb; cases hb), fun i a ha hm hs => ?_, fun i a ha hm hr hw => (h.rd i a (old ha) hm hr hw).app u, fun i a ha hm hs hr => (h.mine i a (old ha) hm hs hr).app u⟩
  rcases h.sh i a (old ha) hm hs with k | ⟨k, kn⟩ | tk
  · exact .inl k
  · exact .inr (.inl ⟨k, kn.app u⟩)
  · exact .inr (.inr (tk.app u))
/-- A go statement: worker j is started. -/
theorem TJ.fork (h : TJ Sh Rd L t j) {x y : MemOp} (hx : x.g = 0 ∧ x.act = .go (L + j)) (hy : y.g = L + j ∧ y.act = .start) (h0 : Deaf t 0 = 0) (hk : Deaf t (L + j) = 0) : TJ Sh Rd L (t ++ #[x, y]) (j + 1) := by
  have nt : ∀ op ∈ #[x, y], op.act.touch? = none := by
    intro op hop
    simp only [List.mem_toArray, List.mem_cons, List.not_mem_nil, or_false] at hop
    rcases hop with rfl | rfl
    · rw [hx.2]; rfl
    · rw [hy.2]; rfl
  have old : ∀ {i : Nat} {a : Touch}, touchAt (t ++ #[x, y]) i = some a → touchAt t i = some a := by
    intro i a ha
    obtain ⟨z, hz, hza⟩ := touch_of ha
    rcases getElem?_append_cases hz with ⟨_, hz'⟩ | ⟨_, hzu⟩
    · rw [touchAt_of hz']; exact hza
    · rw [nt z hzu] at hza; cases hza
  have tk : ∀ {i : Nat}, TeamK t L j i → TeamK (t ++ #[x, y]) L (j + 1) i := fun {i} T => by
    refine ⟨T.1.app _, fun k hkj => ?_⟩
    by_cases e : k = j
    · subst e; exact fork_knows hx hy h0 hk T.1
    · exact (T.2 k (by omega)).app _
  refine ⟨fun said => ?_, fun i a ha hm hs => ?_, fun i a ha hm hr hw => tk (h.rd i a (old ha) hm hr hw), fun i a ha hm hs hr => (h.mine i a (old ha) hm hs hr).app _⟩
  · have e : t ++ #[x, y] = (t ++ #[x]) ++ #[y] := by apply Array.ext'; simp
    rw [e]
    refine noRace_append (g := L + j) (noRace_append (g := 0) (h.nr said) (fun op hop => by simp at hop; rw [hop]; exact hx.1) (fun i a _ op hop b hb _ => ?_)) (fun op hop => by simp at hop; rw [hop]; exact hy.1) (fun i a _ op hop b hb _ => ?_)
    · rw [nt op (by simp at hop ⊢; exact .inl hop)] at hb; cases hb
    · rw [nt op (by simp at hop ⊢; exact .inr hop)] at hb; cases hb
  · rcases h.sh i a (old ha) hm hs with k | ⟨k, kn⟩ | q
    · exact .inl k
    · exact .inr (.inl ⟨k, kn.app _⟩)
    · exact .inr (.inr (tk q))
/-- How it begins. -/
theorem TJ.start {Shun : Loc → Prop} {B : Nat} (P : Past Shun B t) (hS : ∀ l, Shun l → Sh l) (A : ∀ l, Rd l → ¬ Sh l) : TJ Sh Rd L t 0 := by
  refine ⟨P.clean, fun i a ha hm _ => ?_, fun i a ha hm hr _ => ?_, fun i a ha hm hs _ => ?_⟩
  · rcases P.known i a ha hm with k | ⟨_, k⟩
    · exact .inr (.inr ⟨k, fun _ h => absurd h (Nat.not_lt_zero _)⟩)
    · exact .inl k
  · rcases P.known i a ha hm with k | ⟨s, _⟩
    · exact ⟨k, fun _ h => absurd h (Nat.not_lt_zero _)⟩
    · exact absurd (hS _ s) (A _ hr)
  · rcases P.known i a ha hm with k | ⟨s, _⟩
    · exact k
    · exact absurd (hS _ s) hs
end
/-- Worker g has said its release-and-merge at r; what it does behind it touches shared places alone. -/
structure RelK (Sh : Loc → Prop) (a : Addr) (t : Trace) (g r : Nat) : Prop where
  rel : RelBy a t g r
  after : ∀ i op x, r < i → t[i]? = some op → op.g = g → op.act.touch? = some x → Sh x.loc ∧ x.kind = .atomic
theorem RelK.appOther {Sh : Loc → Prop} {a : Addr} {t u : Trace} {g r g' : Nat} (h : RelK Sh a t g r) (hu : ∀ op ∈ u, op.g = g') (hg : g' ≠ g) : RelK Sh a (t ++ u) g r := by
  refine ⟨h.rel.appOther hu hg, fun i op x hi ho hog hx => ?_⟩
  rcases getElem?_append_cases ho with ⟨_, ho'⟩ | ⟨_, hou⟩
  · exact h.after i op x hi ho' hog hx
  · exact absurd ((hu op hou).symm.trans hog) hg
theorem RelK.appOwn {Sh : Loc → Prop} {a : Addr} {t u : Trace} {g r : Nat} (h : RelK Sh a t g r) (h' : RelBy a (t ++ u) g r) (hu : ∀ op ∈ u, ∀ x, op.act.touch? = some x → Sh x.loc ∧ x.kind = .atomic) : RelK Sh a (t ++ u) g r := by
  refine ⟨h', fun i op x hi ho hog hx => ?_⟩
  rcases getElem?_append_cases ho with ⟨_, ho'⟩ | ⟨_, hou⟩
  · exact h.after i op x hi ho' hog hx
  · exact hu op hou x hx
theorem RelK.new {Sh : Loc → Prop} {a : Addr} {t : Trace} {g : Nat} (hd : Deaf t g = 0) (fn : FuncId) (pos : String) : RelK Sh a (t ++ MemOp.ofEvents g fn pos #[Go.ConcR.mk (.releaseMerge a)]) g t.size := by
  refine ⟨RelBy.new hd fn pos, fun i op x hi ho _ _ => ?_⟩
  have := lt_size_of_getElem? ho
  simp [ofEvents_eq] at this
  omega
/-- What stands behind the old trace: goroutine 0's, the workers', or nothing that touches. -/
def Ext (L j : Nat) (t₀ t : Trace) : Prop := ∃ u, t = t₀ ++ u ∧ ∀ op ∈ u, op.g = 0 ∨ op.act.touch? = none ∨ ∃ k, k < j ∧ op.g = L + k
theorem Ext.refl (L j : Nat) (t : Trace) : Ext L j t t := ⟨#[], by simp, fun op h => by simp at h⟩
theorem Ext.app {L j j' : Nat} {t₀ t u : Trace} (h : Ext L j t₀ t) (hj : j ≤ j') (hu : ∀ op ∈ u, op.g = 0 ∨ op.act.touch? = none ∨ ∃ k, k < j' ∧ op.g = L + k) : Ext L j' t₀ (t ++ u) := by
  obtain ⟨v, rfl, hv⟩ := h
  refine ⟨v ++ u, by rw [Array.append_assoc], fun op hop => ?_⟩
  rcases Array.mem_append.1 hop with h | h
  · rcases hv op h with q | q | ⟨k, hk, q⟩
    · exact .inl q
    · exact .inr (.inl q)
    · exact .inr (.inr ⟨k, by omega, q⟩)
  · exact hu op h
/-- Goroutine 0 has said 'acquire', hearing, behind every worker's release. -/
def AcqK (Sh : Loc → Prop) (a : Addr) (L j : Nat) (t : Trace) : Prop :=
  ∃ q, t.act? q = some (.mark (.acquire a)) ∧ t.g? q = some 0 ∧ t.heard q ∧ ∀ k, k < j → ∃ r, RelK Sh a t (L + k) r ∧ r < q
theorem AcqK.app {Sh : Loc → Prop} {a : Addr} {L j : Nat} {t u : Trace} (h : AcqK Sh a L j t) (hu : ∀ k r, k < j → RelK Sh a t (L + k) r → RelK Sh a (t ++ u) (L + k) r) : AcqK Sh a L j (t ++ u) := by
  obtain ⟨q, h1, h2, h3, h4⟩ := h
  have hq := lt_of_act? h1
  exact ⟨q, by rw [act?_old hq]; exact h1, by rw [g?_old hq]; exact h2, (heard_old hq).2 h3, fun k hk => let ⟨r, hr, hrq⟩ := h4 k hk; ⟨r, hu k r hk hr, hrq⟩⟩
/-- ALL IS HANDED OVER: behind the join goroutine 0 stands as before, but that nobody may touch the shared places but atomically any more. -/
theorem past_of_crew {Sh Rd Shun : Loc → Prop} {a : Addr} {L j B B₀ : Nat} {t t₀ : Trace} (h : TJ Sh Rd L t j) (P : Past Shun B₀ t₀) (hS : ∀ l, Shun l → Sh l) (E : Ext L j t₀ t) (Q : AcqK Sh a L j t) (hn : NoRelease a t) (hd : Deaf t 0 = 0) (hl : ∀ op ∈ t, op.act.low B) : Past Sh B t := by
  obtain ⟨u, rfl, hu⟩ := E
  obtain ⟨q, q1, q2, q3, q4⟩ := Q
  have qz : ∃ z, (t₀ ++ u)[q]? = some z ∧ z.g = 0 := by
    unfold Trace.g? at q2
    obtain ⟨z, hz, hz0⟩ := Option.map_eq_some_iff.1 q2
    exact ⟨z, hz, hz0⟩
  obtain ⟨z, hz, hz0⟩ := qz
  have edge : ∀ k r, RelK Sh a (t₀ ++ u) (L + k) r → r < q → HappensBefore (t₀ ++ u) r q := fun k r hr hrq => .single (.inr ⟨.marked hrq (.inr hr.rel.act) q1 (fun k _ _ => hn k), hr.rel.heard, q3⟩)
  refine ⟨h.nr, fun i b hb hm => ?_, fun i g hgi hne hc => ?_, hd, hl⟩
  · obtain ⟨op, ho, hob⟩ := touch_of hb
    rcases getElem?_append_cases ho with ⟨hlt, ho'⟩ | ⟨_, hou⟩
    · rcases P.known i b (by rw [touchAt_of ho']; exact hob) hm with k | ⟨s, k⟩
      · exact .inl (k.app u)
      · exact .inr ⟨hS _ s, k⟩
    · rcases hu op hou with g0 | m | ⟨k, hk, gk⟩
      · have := knows_own ho
        rw [g0] at this
        exact .inl this
      · rw [m] at hob; cases hob
      · obtain ⟨r, hr, hrq⟩ := q4 k hk
        rcases Nat.lt_trichotomy i r with c | c | c
        · refine .inl ⟨q, z, hz, hz0, .inr (.trans (.single (.inl ⟨c, L + k, ?_, hr.rel.g⟩)) (edge k r hr hrq))⟩
          simp [Trace.g?, ho, gk]
        · subst c
          have e := hr.rel.act
          rw [act?_of ho] at e
          injection e with e
          rw [e] at hob
          cases hob
        · exact .inr (hr.after i op b c ho gk hob)
  · have hc0 := hc
    obtain ⟨x, hx, _⟩ := hc
    obtain ⟨op, ho, hox⟩ := touch_of hx
    have og : op.g = g := by simpa [Trace.g?, ho] using hgi
    rcases getElem?_append_cases ho with ⟨hlt, ho'⟩ | ⟨_, hou⟩
    · obtain ⟨p, hp, hb⟩ := P.over i g (by rw [g?_old hlt] at hgi; exact hgi) hne ((counts_old hlt).1 hc0)
      have hpl : p < t₀.size := by
        unfold Trace.g? at hp
        obtain ⟨y, hy, _⟩ := Option.map_eq_some_iff.1 hp
        exact lt_size_of_getElem? hy
      exact ⟨p, by rw [g?_old hpl]; exact hp, hb_app u hb⟩
    · rcases hu op hou with g0 | m | ⟨k, hk, gk⟩
      · exact absurd (og.symm.trans g0) hne
      · rw [m] at hox; cases hox
      · obtain ⟨r, hr, hrq⟩ := q4 k hk
        obtain rfl : g = L + k := og.symm.trans gk
        rcases Nat.lt_trichotomy i r with c | c | c
        · exact ⟨q, q2, .trans (.single (.inl ⟨c, L + k, hgi, hr.rel.g⟩)) (edge k r hr hrq)⟩
        · subst c; exact ⟨q, q2, edge k i hr hrq⟩
        · exact absurd hc0 (hr.rel.after i c hgi)
end Go.Proofs.YtpajdmhgonmgoaaDoor

namespace Go.Proofs.YtpajdmhgonmgoaaDoor
open Go.Conc Go.ConcN
open Go.ConcR (KK wgBlock WgAt stA smA rd wr Payload DC0)
set_option linter.unusedVariables false
/-- Where all lies, and what is asked of the texts. -/
structure Site where
  P : Program
  ty : TypeId
  Wg : Nat
  ch : Nat
  cB : Nat
  csz : Nat
  cap : Nat
  z : Value
  n : Nat
  L : Nat
  ci : Nat
  cv : Value
  KnownC : Addr → Value → Prop
  IsAt : Addr → Prop
  RdC : Addr → Prop
  Sh : Loc → Prop
  cpA : Nat → Addr
  plan : Nat → Int → List (Addr × Int)
  GoodV : Nat → Int → Prop
  Loop : Goroutine → Prop
  Anch : Goroutine → Prop
  Fin : Goroutine → World → Prop
  items : List Nat
  GI : (Addr → Int) → List Nat → List Nat → (Nat → Option Nat × List (Addr × Int)) → Prop
  B : Nat
  Keep : World → Prop
def Site.Rd (s : Site) : Loc → Prop := fun l => ∃ a, l = .cell a ∧ s.RdC a
def vI (p : Nat) : Value := .int .i64 (p : Int)
def Fits (x : Int) : Prop := -9223372036854775808 ≤ x ∧ x ≤ 9223372036854775807
theorem goes_any {P : Program} {main : Bool} {X : World → Prop} {D : World → World → Array Event → Prop} {S : Goroutine → World → Prop} {n : Nat} {g : Goroutine} {w w' : World} (h : Goes P main (fun _ x => X x) D S n g w) : Goes P main (fun _ x => X x) D S n g w' := by
  cases n <;> exact h
section
variable [Payload]
/-- What stands fast while the crew works. -/
structure Site.Fix (s : Site) (w : World) : Prop where
  known : ∀ a v, s.KnownC a v → w.cell? a = some v
  ats : ∀ a, s.IsAt a → ∃ x, w.cell? a = some (.int .i64 x) ∧ w.frozen? a = false
  chan : ∃ buf cl sn rc, w.heap[s.ch]? = some (.chan s.cap buf cl sn rc false)
  live : WgLive s.ty s.Wg w
  pay : PayAt s.cB s.csz w
  keep : s.Keep w
def Site.R0 (s : Site) (_ : World) (w : World) : Prop := s.Fix w
def Site.Dq (s : Site) (w w' : World) (es : Array Event) : Prop := (∃ d, w' = w.at d) ∧ ∀ e ∈ es, ∃ a, e = ⟨.cell a, false, false⟩ ∧ s.RdC a
def Site.D0 (s : Site) (w w' : World) (es : Array Event) : Prop := (∃ d, w' = w.at d) ∧ ∀ e ∈ es, (∃ a, e = ⟨.cell a, false, false⟩ ∧ s.RdC a) ∨ e = Go.ConcR.mk (.read (smA s.Wg)) ∨ e = Go.ConcR.mk (.write (smA s.Wg))
/-! the worker -/
def Site.AtAdds (s : Site) : List (Addr × Int) → Goroutine → World → Prop
  | [], g, _ => s.Loop g
  | (a, d) :: ls, g, w => g.status = .running ∧ ∀ v, w.cell? a = some (.int .i64 v) → Fits (v + d) → ∃ g', stepG s.P false g w = .go g' (w.setCell a (.int .i64 (v + d))) #[rd a, wr a] ∧ ∃ m, Goes s.P false s.R0 s.Dq (s.AtAdds ls) m g' w
def Site.AtLoad (s : Site) (p : Nat) (g : Goroutine) (w : World) : Prop :=
  g.status = .running ∧ ∀ v, w.cell? (s.cpA p) = some (.int .i64 v) → s.GoodV p v → ∃ g', stepG s.P false g w = .go g' w #[rd (s.cpA p)] ∧ ∃ m, Goes s.P false s.R0 s.Dq (s.AtAdds (s.plan p v)) m g' w
/-- A worker's data. -/
structure Wk where
  stage : Nat
  fuel : Nat
  deaf : Nat
  item : Nat
  adds : List (Addr × Int)
def Wk.gh (d : Wk) : Option Nat × List (Addr × Int) := if d.stage = 10 then (some d.item, []) else if d.stage = 9 then (none, d.adds) else (none, [])
def Wk.wt (d : Wk) : Nat := if d.stage ≤ 7 then d.stage else if d.stage = 12 then 8 else if d.stage = 10 then 24 else if d.stage = 9 then 9 + d.adds.length else 9
def Wk.pr (d : Wk) : WD := ⟨min d.stage 7, d.fuel, d.deaf⟩
def Site.WQ (s : Site) : Nat → Nat → Nat → Goroutine → World → Prop := WSit s.P s.ty s.Wg s.cB s.csz (fun _ _ => False) (fun _ _ => False) 0 (s.ci + 1) s.cv
/-- It stands at its release. -/
def Site.AtR0x (s : Site) (g : Goroutine) (w : World) : Prop := g.status = .running ∧ ∃ g', stepG s.P false g w = .go g' w #[Go.ConcR.mk (.releaseMerge (stA s.Wg))] ∧ ∃ m, s.WQ 6 m 0 g' w
def Site.WPos (s : Site) (d : Wk) (g : Goroutine) (w : World) : Prop :=
  if d.stage = 13 then d.deaf = 0 ∧ ∃ g0, s.Loop g0 ∧ g = { parked g0 #[rcase s.ch s.z] (.recv true) with status := .running }
  else if d.stage = 12 then d.deaf = 0 ∧ ∃ g0, s.Loop g0 ∧ g = parked g0 #[rcase s.ch s.z] (.recv true)
  else if d.stage = 11 then d.deaf = 0 ∧ Goes s.P false s.R0 s.Dq (fun g _ => s.Loop g) d.fuel g w
  else if d.stage = 10 then d.deaf = 0 ∧ Goes s.P false s.R0 s.Dq (s.AtLoad d.item) d.fuel g w
  else if d.stage = 9 then d.deaf = 0 ∧ Goes s.P false s.R0 s.Dq (s.AtAdds d.adds) d.fuel g w
  else if d.stage = 7 then d.deaf = 0 ∧ Goes s.P false s.R0 s.Dq s.AtR0x d.fuel g w
  else s.WQ d.stage d.fuel d.deaf g w
/-! the starter -/
def Site.AtAcq (s : Site) (g : Goroutine) (w : World) : Prop := g.status = .running ∧ ∃ g', stepG s.P true g w = .go g' w #[Go.ConcR.mk (.acquire (stA s.Wg))] ∧ g'.status = .running ∧ ∀ w', s.Fix w' → s.Fin g' w'
def Site.AtKe (s : Site) (g : Goroutine) (w : World) : Prop := g.status = .running ∧ ∃ g', stepG s.P true g w = .go g' w #[Go.ConcR.mk .enable] ∧ ∃ m, Goes s.P true s.R0 s.D0 s.AtAcq m g' w
def Site.AtW4 (s : Site) (g : Goroutine) (w : World) : Prop := g.status = .running ∧ (WgAt s.ty s.Wg w 0 0 → ∃ g', stepG s.P true g w = .go g' w #[rd (stA s.Wg)] ∧ ∃ m, Goes s.P true s.R0 s.D0 s.AtKe m g' w)
def Site.AtW3 (s : Site) (g : Goroutine) (w : World) : Prop :=
  g.status = .running ∧ g.offers = none ∧ ((∃ st, WgAt s.ty s.Wg w st 0) → stepG s.P true g w = .go { g with status := .blocked } w #[]) ∧
    (WgAt s.ty s.Wg w 0 1 → ∃ g', stepG s.P true g w = .go g' (w.setCell (smA s.Wg) (.int .u32 0)) (semEvents (smA s.Wg)) ∧ ∃ m, Goes s.P true s.R0 s.D0 s.AtW4 m g' w)
def Site.AtW2 (s : Site) (vs : Nat) (g : Goroutine) (w : World) : Prop :=
  g.status = .running ∧ ∀ v : Nat, v < 2147483648 → WgAt s.ty s.Wg w (v * KK) 0 →
    (v = vs → ∃ g', stepG s.P true g w = .go g' (w.setCell (stA s.Wg) (.int .u64 (v * KK + 1))) #[rd (stA s.Wg), wr (stA s.Wg)] ∧ ∃ m, Goes s.P true s.R0 s.D0 s.AtW3 m g' w) ∧
    (v ≠ vs → ∃ g', stepG s.P true g w = .go g' w #[rd (stA s.Wg)] ∧ ∃ m, Goes s.P true s.R0 s.D0 (fun g _ => s.Anch g) m g' w)
def Site.AtW1 (s : Site) (g : Goroutine) (w : World) : Prop :=
  g.status = .running ∧ ∀ v : Nat, v < 2147483648 → WgAt s.ty s.Wg w (v * KK) 0 → ∃ g', stepG s.P true g w = .go g' w #[rd (stA s.Wg)] ∧
    (v = 0 → ∃ m, Goes s.P true s.R0 s.D0 s.AtKe m g' w) ∧ (v ≠ 0 → ∃ m, Goes s.P true s.R0 s.D0 (s.AtW2 v) m g' w)
def Site.AtKdW (s : Site) (g : Goroutine) (w : World) : Prop := g.status = .running ∧ ∃ g', stepG s.P true g w = .go g' w #[Go.ConcR.mk .disable] ∧ ∃ m, Goes s.P true s.R0 s.D0 (fun g _ => s.Anch g) m g' w
def Site.AtSends (s : Site) : List Nat → Goroutine → World → Prop
  | [], g, w => g.status = .running ∧ mayWake s.P g = true ∧ ∃ g', g'.status = .running ∧ (∀ buf sn rc, w.heap[s.ch]? = some (.chan s.cap buf false sn rc false) → stepG s.P true g w = .go g' (w.setChan s.ch s.cap buf true sn rc false) (closeEvents s.ch)) ∧ ∃ m, Goes s.P true s.R0 s.D0 s.AtKdW m g' w
  | p :: r, g, w => g.status = .running ∧ ∃ u, stepG s.P true g w = .comm g #[scase s.ch (vI p) u] true .send w #[] ∧ ∃ m, Goes s.P true s.R0 s.D0 (s.AtSends r) m (g.finishComm s.P #[scase s.ch (vI p) u] .send 0 undef false) w
def Site.AtGo (s : Site) (j : Nat) (Next : Goroutine → World → Prop) (g : Goroutine) (w : World) : Prop :=
  g.status = .running ∧ ∃ g' child, stepG s.P true g w = .spawn g' child w #[] ∧ child.status = .running ∧ (∃ m, Goes s.P false s.R0 s.Dq (fun g _ => s.Loop g) m child w) ∧ Next g' w
def Site.AtKeS (s : Site) (j : Nat) (Next : Goroutine → World → Prop) (g : Goroutine) (w : World) : Prop := g.status = .running ∧ ∃ g', stepG s.P true g w = .go g' w #[Go.ConcR.mk .enable] ∧ ∃ m, Goes s.P true s.R0 s.D0 (s.AtGo j Next) m g' w
def Site.AtA1 (s : Site) (j : Nat) (Next : Goroutine → World → Prop) (g : Goroutine) (w : World) : Prop :=
  g.status = .running ∧ (WgAt s.ty s.Wg w (j * KK) 0 → ∃ g', stepG s.P true g w = .go g' (w.setCell (stA s.Wg) (.int .u64 ((j + 1 : Nat) * KK))) #[rd (stA s.Wg), wr (stA s.Wg)] ∧ ∃ m, Goes s.P true s.R0 s.D0 (s.AtKeS j Next) m g' w)
def Site.AtKdS (s : Site) (j : Nat) (Next : Goroutine → World → Prop) (g : Goroutine) (w : World) : Prop := g.status = .running ∧ ∃ g', stepG s.P true g w = .go g' w #[Go.ConcR.mk .disable] ∧ ∃ m, Goes s.P true s.R0 s.D0 (s.AtA1 j Next) m g' w
def Site.Spawns (s : Site) : Nat → Goroutine → World → Prop
  | 0, g, w => ∃ m, Goes s.P true s.R0 s.D0 (s.AtSends s.items) m g w
  | r + 1, g, w => ∃ m, Goes s.P true s.R0 s.D0 (s.AtKdS (s.n - (r + 1)) (s.Spawns r)) m g w
/-- Where the starter stands: is the channel closed, what is still to be sent, its tag, how many are started, its fuel, its deafness. -/
def Site.SPos (s : Site) (cl : Bool) (its : List Nat) (tag : CTag) (j f d : Nat) (g : Goroutine) (w : World) : Prop :=
  match tag with
  | .sp r k => cl = false ∧ its = s.items ∧ r < s.n ∧ j = s.n - (r + 1) ∧
      ((k = 5 ∧ d = 0 ∧ Goes s.P true s.R0 s.D0 (s.AtKdS j (s.Spawns r)) f g w) ∨ (k = 4 ∧ d = 1 ∧ Goes s.P true s.R0 s.D0 (s.AtA1 j (s.Spawns r)) f g w) ∨
       (k = 3 ∧ d = 1 ∧ Goes s.P true s.R0 s.D0 (s.AtKeS j (s.Spawns r)) f g w) ∨ (k = 2 ∧ d = 0 ∧ Goes s.P true s.R0 s.D0 (s.AtGo j (s.Spawns r)) f g w))
  | .kd => j = s.n ∧ d = 0 ∧ ((cl = false ∧ Goes s.P true s.R0 s.D0 (s.AtSends its) f g w) ∨ (cl = true ∧ its = [] ∧ Goes s.P true s.R0 s.D0 s.AtKdW f g w))
  | .anch => j = s.n ∧ cl = true ∧ its = [] ∧ d = 1 ∧ Goes s.P true s.R0 s.D0 (fun g _ => s.Anch g) f g w
  | .w1 => j = s.n ∧ cl = true ∧ its = [] ∧ d = 1 ∧ Goes s.P true s.R0 s.D0 s.AtW1 f g w
  | .w2 vs => j = s.n ∧ cl = true ∧ its = [] ∧ d = 1 ∧ Goes s.P true s.R0 s.D0 (s.AtW2 vs) f g w
  | .w3 => j = s.n ∧ cl = true ∧ its = [] ∧ d = 1 ∧ ∃ m, f = m + 1 ∧ Goes s.P true s.R0 s.D0 s.AtW3 m g w
  | .blk => j = s.n ∧ cl = true ∧ its = [] ∧ d = 1 ∧ f = 0 ∧ ∃ g0, g = { g0 with status := .blocked } ∧ ∀ w₁, s.Fix w₁ → s.AtW3 g0 w₁
  | .w4 => j = s.n ∧ cl = true ∧ its = [] ∧ d = 1 ∧ Goes s.P true s.R0 s.D0 s.AtW4 f g w
  | .ke => j = s.n ∧ cl = true ∧ its = [] ∧ d = 1 ∧ Goes s.P true s.R0 s.D0 s.AtKe f g w
  | .acq => j = s.n ∧ cl = true ∧ its = [] ∧ d = 0 ∧ Goes s.P true s.R0 s.D0 s.AtAcq f g w
  | .ret => False
def phiS (n v : Nat) (cl : Bool) : CTag → Nat
  | .sp r k => 10 * n + 20 + 16 * r + k
  | .kd => if cl then 8 * n + 7 else 9 * n + 9
  | t => phi n v t
/-- What is asked of the place. -/
structure Site.Ok (s : Site) : Prop where
  kee : ∀ w w' : World, w'.os = w.os → w'.tape = w.tape → w'.output = w.output → w'.heap.size = w.heap.size → (∀ b, b ≠ s.Wg → b ≠ s.ch → (∀ a, s.IsAt a → a.block ≠ b) → w'.heap[b]? = w.heap[b]?) → s.Keep w → s.Keep w'
  L0 : 0 < s.L
  wc : s.Wg ≠ s.cB
  wh : s.Wg ≠ s.ch
  hc : s.ch ≠ s.cB
  atw : ∀ a, s.IsAt a → a.block ≠ s.Wg ∧ a.block ≠ s.ch
  atn : ∀ a, s.IsAt a → a.spot = none
  knw : ∀ a v, s.KnownC a v → ¬ s.IsAt a ∧ a.block ≠ s.Wg ∧ a.block ≠ s.ch ∧ a.spot = none
  kci : s.KnownC ⟨s.cB, s.ci, none⟩ s.cv
  shr : ∀ l, s.Rd l → ¬ s.Sh l
  sha : ∀ a, s.IsAt a → s.Sh (.cell a)
  shw : ∀ a, a.block = s.Wg → s.Sh (.cell a)
  shc : s.Sh (.obj s.ch)
  lwa : ∀ a, s.IsAt a → a.block < s.B
  lwr : ∀ a, s.RdC a → a.block < s.B
  lww : s.Wg < s.B
  lwh : s.ch < s.B
  n1 : 1 ≤ s.n
  n2 : s.n < 2147483647
  run : ∀ g, s.Loop g → g.status = .running
  ran : ∀ g, s.Anch g → g.status = .running
  comm : ∀ g w, s.Loop g → stepG s.P false g w = .comm g #[rcase s.ch s.z] true (.recv true) w #[]
  item : ∀ g i p f b t h w, s.Loop g → s.GI f b t h → h i = (some p, []) → ∃ m, Goes s.P false s.R0 s.Dq (s.AtLoad p) m (g.finishComm s.P #[rcase s.ch s.z] (.recv true) 0 (vI p) true) w
  done : ∀ g w, s.Loop g → ∃ m, Goes s.P false s.R0 s.Dq s.AtR0x m (g.finishComm s.P #[rcase s.ch s.z] (.recv true) 0 s.z false) w
  anch : ∀ g w, s.Anch g → ∃ m, Goes s.P true s.R0 s.D0 s.AtW1 m g w
  take : ∀ f p b t h i, s.GI f (p :: b) t h → h i = (none, []) → s.GI f b t (upd h i (some p, []))
  give : ∀ f p t h i, s.GI f [] (p :: t) h → h i = (none, []) → s.GI f [] t (upd h i (some p, []))
  send : ∀ f p b t h, s.GI f b (p :: t) h → s.GI f (b ++ [p]) t h
  load : ∀ f p b t h i, s.GI f b t h → h i = (some p, []) → s.IsAt (s.cpA p) ∧ s.GoodV p (f (s.cpA p)) ∧ (s.plan p (f (s.cpA p))).length ≤ 14 ∧ s.GI f b t (upd h i (none, s.plan p (f (s.cpA p))))
  add : ∀ f a d ls b t h i, s.GI f b t h → h i = (none, (a, d) :: ls) → s.IsAt a ∧ Fits (f a + d) ∧ s.GI (fun x => if x = a then f a + d else f x) b t (upd h i (none, ls))
theorem goes_w {s : Site} {S : Goroutine → World → Prop} {n : Nat} {g : Goroutine} {w w' : World} (h : Goes s.P false s.R0 s.Dq S n g w) : Goes s.P false s.R0 s.Dq S n g w' := by cases n <;> exact h
theorem goes_0 {s : Site} {S : Goroutine → World → Prop} {n : Nat} {g : Goroutine} {w w' : World} (h : Goes s.P true s.R0 s.D0 S n g w) : Goes s.P true s.R0 s.D0 S n g w' := by cases n <;> exact h
end
end Go.Proofs.YtpajdmhgonmgoaaDoor

