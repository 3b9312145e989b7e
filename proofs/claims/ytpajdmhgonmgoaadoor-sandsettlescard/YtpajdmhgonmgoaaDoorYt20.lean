/-
  What the last text of this claim leans on, part 20: LbC, LbD, LbE, Sw1, Sw2.
-/
import Derived.Test.YtpajdmhgonmgoaaDoorYt7
import Derived.Test.YtpajdmhgonmgoaaDoorYt19
import Derived.Test.YtpajdmhgonmgoaaDoorYt8
import Derived.Test.YtpajdmhgonmgoaaDoorYt10
import Derived.WalkKit
import Derived.WalkSpells
import Derived.WalkLawsBesides
import Derived.Deep.QuietTactic
import Derived.BigQuiet
import Derived.Deep.Cut
import Derived.Deep.RegionHeld3
import Derived.Below
import Derived.Laws.Rows
import Derived.Deep.OwnRows
namespace Go.Proofs.YtpajdmhgonmgoaaDoor
open Go.RowKit
set_option linter.unusedVariables false
open Go.Conc
open Go.ConcN (sumTo upd sumTo_upd upd_ne upd_same)
set_option linter.unusedSimpArgs false
section
variable {P : Program} {Shun : Loc → Prop}
/-- Beside leavers it is goroutine 0's turn, sooner or later. -/
theorem bes_pick {g : Goroutine} (hrun : g.status = .running) : ∀ (M B : Nat) (gs : Array Goroutine) (w : World) (sl : Option (Nat × Nat)) (t : Trace) (q : Nat → Nat), sumTo gs.size q ≤ M → gs[0]? = some g → Leavers P t gs q → Past Shun B t →
    ∃ N m1 t1 d gs1 sl1 q1, runNT P N (crowd gs w sl) t = (.next m1, t1) ∧ gs1[0]? = some g ∧ Leavers P t1 gs1 q1 ∧ Past Shun B t1 ∧ stepT P m1 = runT P (crowd gs1 (w.at d) sl1) 0 := by
  intro M
  induction M with
  | zero => ?_
  | succ M ih => ?_
  all_goals
    intro B gs w sl t q hM h0 hL hP
    have haw : ∀ x ∈ gs, awake x := by
      intro x hx
      obtain ⟨i, hi, rfl⟩ := Array.mem_iff_getElem.1 hx
      rcases Nat.eq_zero_or_pos i with rfl | hpos
      · have : gs[0] = g := by simpa [Array.getElem?_eq_getElem hi] using h0
        rw [this]; exact awake_of (.inl hrun)
      · exact awake_of ((hL.old i _ hpos (Array.getElem?_eq_getElem hi)).status.elim .inl fun x => .inr (.inr x))
    obtain ⟨i, x, d, sl', hi, hx, hst⟩ := crowd_pick (P := P) (w := w) (sl := sl) haw ⟨0, g, h0, hrun⟩
    rcases Nat.eq_zero_or_pos i with rfl | hpos
    · exact ⟨0, crowd gs w sl, t, d, gs, sl', q, rfl, h0, hL, hP, hst⟩
    have hq := hL.old i x hpos hi
    have hi0 : (i == 0) = false := by simp; omega
    have hlt : i < gs.size := (Array.getElem?_eq_some_iff.1 hi).1
  · exfalso
    have hz : q i = 0 := by
      have := sumTo_upd q 0 id hlt
      simp only [id] at this
      have e : (sumTo gs.size fun a => q a) = sumTo gs.size q := rfl
      omega
    rw [hz] at hq
    rw [hq.1] at hx
    cases hx
  · cases hqi : q i with
    | zero => rw [hqi] at hq; rw [hq.1] at hx; cases hx
    | succ k =>
      rw [hqi] at hq
      rcases hq with ⟨hf, _⟩ | ⟨_, g', es, hm, hstp, hq'⟩
      · rw [hf] at hx; cases hx
      have hrunT := runT_crowd_go (P := P) (sl := sl') (i := i) hi (by rw [hi0]; exact hstp (w.at d))
      have hsz : ((gs.map (woken P x g' (w.at d))).setIfInBounds i g').size = gs.size := by simp
      have hsum : sumTo gs.size (upd q i k) + (k + 1) = sumTo gs.size q + k := by
        have := sumTo_upd q k id hlt
        simpa [hqi] using this
      have hd : ∀ (j : Nat), i ≠ j → Deaf (t ++ MemOp.ofEvents i x.frame.fn x.frame.place es) j = Deaf t j := fun j hj => Deaf_other t hj _ (fun op hop => by obtain ⟨e, _, rfl⟩ := Go.Conc.mem_ofEvents hop; rfl)
      obtain ⟨N, m1, t1, d1, gs1, sl1, q1, r1, r2, r3, r4, r5⟩ := ih B ((gs.map (woken P x g' (w.at d))).setIfInBounds i g') (w.at d) sl' (t ++ MemOp.ofEvents i x.frame.fn x.frame.place es) (upd q i k) (by rw [hsz]; omega)
        (by
          have hne : i ≠ 0 := by omega
          rw [Array.getElem?_setIfInBounds_ne hne, Array.getElem?_map, h0]
          simp [woken_run hrun])
        ⟨fun j y hj hy => by
          by_cases hji : i = j
          · subst hji
            rw [Array.getElem?_setIfInBounds_self_of_lt (by simpa using hlt)] at hy
            obtain rfl := Option.some.inj hy
            rw [upd_same, Deaf_own]
            exact hq'
          · rw [Array.getElem?_setIfInBounds_ne hji, Array.getElem?_map] at hy
            obtain ⟨z, hz, rfl⟩ := Option.map_eq_some_iff.1 hy
            have hqj := hL.old j z hj hz
            rw [woken_quitsD hqj, upd_ne q k (Ne.symm hji), hd j hji]
            exact hqj, fun j hj => by
          rw [hd j (by simp at hj; omega)]
          exact hL.above j (by simpa using hj)⟩
        (hP.mute (by omega) hm)
      exact ⟨N + 1, m1, t1, d1, gs1, sl1, q1, by simp only [runNT, hst, hrunT]; exact r1, r2, r3, r4, r5⟩
/-- Its own step behind that. -/
theorem bes_go {B B' : Nat} {g a' : Goroutine} {w w' : World} {es : Array Event} {m1 : Machine} {t1 : Trace} {d : Nat} {gs : Array Goroutine} {sl : Option (Nat × Nat)} {q : Nat → Nat} (h0 : gs[0]? = some g) (hL : Leavers P t1 gs q) (hP : Past Shun B t1) (hst : stepT P m1 = runT P (crowd gs (w.at d) sl) 0)
    (hgo : stepG P true g (w.at d) = .go a' w' es) (hB : B ≤ B') (hev : ∀ e ∈ es, EvL Shun B' e) : ∃ m2 t2, runNT P 1 m1 t1 = (.next m2, t2) ∧ Bes P Shun B' a' w' m2 t2 := by
  have hrunT := runT_crowd_go (P := P) (sl := sl) (i := 0) h0 (show stepG P (0 == 0) g (w.at d) = _ from hgo)
  have hlt : 0 < gs.size := (Array.getElem?_eq_some_iff.1 h0).1
  have hd : ∀ (j : Nat), 0 ≠ j → Deaf (t1 ++ MemOp.ofEvents 0 g.frame.fn g.frame.place es) j = Deaf t1 j := fun j hj => Deaf_other t1 hj _ (fun op hop => by obtain ⟨e, _, rfl⟩ := Go.Conc.mem_ofEvents hop; rfl)
  refine ⟨crowd ((gs.map (woken P g a' w')).setIfInBounds 0 a') w' sl, t1 ++ MemOp.ofEvents 0 g.frame.fn g.frame.place es, by simp only [runNT, hst, hrunT], (gs.map (woken P g a' w')).setIfInBounds 0 a', sl, q, rfl, by simp [hlt], ⟨fun j y hj hy => ?_, fun j hj => ?_⟩, (hP.mono hB).own hev⟩
  · have hne : 0 ≠ j := by omega
    rw [Array.getElem?_setIfInBounds_ne hne, Array.getElem?_map] at hy
    obtain ⟨z, hz, rfl⟩ := Option.map_eq_some_iff.1 hy
    have hq := hL.old j z hj hz
    rw [woken_quitsD hq, hd j hne]
    exact hq
  · rw [hd j (by simp at hj; omega)]
    exact hL.above j (by simpa using hj)
variable {S : FuncId → Bool} {b : Frame} {Q : Act → World → Prop} {X Xo : Nat → Prop}
theorem evS_evL (hs0 : ∀ l, Shun l → (∃ a, l = .cell a) ∨ ∃ r, l = .obj r) (hc : ∀ a, Shun (.cell a) → X a.block) (ho : ∀ r, Shun (.obj r) → Xo r) {B : Nat} {e : Event} (h : EvS X Xo B e) : EvL Shun B e := by
  obtain ⟨h1, h2, h3⟩ := h
  obtain ⟨_, g2, g3, g4⟩ := h1.evL
  refine ⟨fun x hx hs => ?_, g2, g3, g4⟩
  obtain ⟨loc, wr, sy⟩ := e
  cases loc with
  | cell a =>
    exfalso
    have e1 : x.loc = .cell a := by
      cases wr <;> cases sy <;> (simp [MemAct.ofEvent, MemAct.touch?] at hx; subst hx; rfl)
    rw [e1] at hs
    exact h2 a rfl (hc a hs)
  | obj r =>
    have hsy : Xo r → sy = true := fun hx => h3 r rfl hx
    cases wr <;> cases sy <;> simp [MemAct.ofEvent, MemAct.touch?] at hx <;> (try subst hx) <;> first
      | (intro e; cases e; done)
      | (exact absurd (hsy (ho r hs)) (by decide))
  | mark m =>
    obtain rfl : m = .noRoom := h1.2 m rfl
    cases wr <;> cases sy <;> simp [MemAct.ofEvent, MemAct.touch?] at hx
  | output =>
    have e1 : x.loc = .output := by cases wr <;> cases sy <;> (simp [MemAct.ofEvent, MemAct.touch?] at hx; subst hx; rfl)
    rw [e1] at hs
    rcases hs0 _ hs with ⟨a, e⟩ | ⟨r, e⟩ <;> cases e
  | goroutines =>
    have e1 : x.loc = .goroutines := by cases wr <;> cases sy <;> (simp [MemAct.ofEvent, MemAct.touch?] at hx; subst hx; rfl)
    rw [e1] at hs
    rcases hs0 _ hs with ⟨a, e⟩ | ⟨r, e⟩ <;> cases e
theorem bes_run (M : MildZ P S) (hk : b.kind ≠ .early) (hb : (P.funcs[b.fn]?).isSome = true) (hi : P.inits.idxOf? b.fn = none) (hQ : ∀ a v v2, Poi (fun _ => False) v v2 → Q a v → Q a v2)
    (hs0 : ∀ l, Shun l → (∃ a, l = .cell a) ∨ ∃ r, l = .obj r) (hc : ∀ a, Shun (.cell a) → X a.block) (ho : ∀ r, Shun (.obj r) → Xo r) {k : List Item} {cs : List Frame} {x : Sx × World} (hacc : Acc (RX P S b X Xo) x) :
    GoodX P S b Q X Xo x → ∀ (B : Nat) (m : Machine) (t : Trace), Bes P Shun B (gx b x.1 k cs) x.2 m t →
      ∃ N m' t' a' w' v', runNT P N m t = (.next m', t') ∧ Q a' v' ∧ Poi X v' w' ∧ Chs Xo w' ∧ x.2.heap.size ≤ w'.heap.size ∧ w'.tape = x.2.tape ∧ Bes P Shun (max B w'.heap.size) (G (b.at a' k) cs) w' m' t' := by
  induction hacc with
  | intro x _ ih =>
    intro hg B m t hB
    by_cases hf : FinX x.1
    · obtain ⟨v, hp, _, _⟩ := emptied X x.2 hg.low
      obtain ⟨n, he⟩ := hg.ends v hp
      refine ⟨0, m, t, x.1.a, x.2, v, rfl, (ends_fin hi hg.ok hf he).2, hp, hg.chs, Nat.le_refl _, rfl, ?_⟩
      have e : gx b x.1 k cs = G (b.at x.1.a k) cs := by
        obtain ⟨⟨us, ret, a, tt⟩, w⟩ := x
        obtain ⟨rfl, rfl⟩ : us = [] ∧ tt = [] := hf
        rfl
      rw [e] at hB
      exact hB.mono (Nat.le_max_left ..)
    · obtain ⟨gs, sl, q, rfl, h0, hL, hP⟩ := hB
      obtain ⟨N, m1, t1, d, gs1, sl1, q1, r1, r2, r3, r4, r5⟩ := bes_pick (gx_run ..) _ B gs x.2 sl t q (Nat.le_refl _) h0 hL hP
      obtain ⟨y, es, k1, k2, k3, k4⟩ := good_step M hk hb hi hg hf d
      obtain ⟨m2, t2, s1, s2⟩ := bes_go (B' := max B y.2.heap.size) r2 r3 r4 r5 (k3 k cs) (Nat.le_max_left ..) (fun e he => (evS_evL hs0 hc ho ((k4 e he).mono (Nat.le_max_right ..))))
      have tp : y.2.tape = x.2.tape := by
        obtain ⟨_, d', v, v1, _, _, _, _, hm⟩ := k1
        exact hm.tw
      obtain ⟨N2, m', t', a', w', v', u1, u2, u3, u4, u6, u7, u5⟩ := ih y k1 (good_next M hk hb hi hQ hg k1) _ m2 t2 s2
      refine ⟨N + (1 + N2), m', t', a', w', v', ?_, u2, u3, u4, by omega, u7.trans tp, ?_⟩
      · rw [runNT_then r1, runNT_then s1]; exact u1
      · exact u5.mono (by omega)
end
end Go.Proofs.YtpajdmhgonmgoaaDoor

namespace Go.Proofs.YtpajdmhgonmgoaaDoor
open Go.RowKit
set_option linter.unusedVariables false
open Go.Conc
set_option linter.unusedSimpArgs false
section
variable {P : Program} {Shun : Loc → Prop} {S : FuncId → Bool} {b : Frame} {X Xo : Nat → Prop}
/-- **A PIECE OF CODE BESIDE LEAVERS**, by its lone walk: on every tape, from the world whose shunned rows are emptied. -/
theorem bes_wp (M : MildZ P S) (hk : b.kind ≠ .early) (hb : (P.funcs[b.fn]?).isSome = true) (hi : P.inits.idxOf? b.fn = none)
    (hs0 : ∀ l, Shun l → (∃ a, l = .cell a) ∨ ∃ r, l = .obj r) (hc : ∀ a, Shun (.cell a) → X a.block) (ho : ∀ r, Shun (.obj r) → Xo r)
    {c : Code} {a : Act} {w : World} {k : List Item} {cs : List Frame} {Q : Act → World → Prop} (hQ : ∀ a v v2, Poi (fun _ => False) v v2 → Q a v → Q a v2)
    (hz : zC P S c = true) (hd : a.defers = []) (hlow : ∀ k, X k → k < w.heap.size) (hch : Chs Xo w)
    (h : ∀ v, Poi X v w → c.wp P (fun e a' v' => e = .normal ∧ Q a' v') a v) {B : Nat} {m : Machine} {t : Trace} (hB : Bes P Shun B (G (b.at a (.code c :: k)) cs) w m t) :
    ∃ N m' t' a' w' v', runNT P N m t = (.next m', t') ∧ Q a' v' ∧ Poi X v' w' ∧ Chs Xo w' ∧ w.heap.size ≤ w'.heap.size ∧ w'.tape = w.tape ∧ Bes P Shun (max B w'.heap.size) (G (b.at a' k) cs) w' m' t' := by
  have hg : GoodX P S b Q X Xo (⟨[], false, a, [.code c]⟩, w) := by
    refine ⟨fun v hv => ?_, ⟨by simp [zL, zI, hz], hd, fun _ hu => (by cases hu), fun e => (e rfl).elim, fun _ hu => (by cases hu), fun e => (by cases e)⟩, hch, hlow⟩
    obtain ⟨e1, a1, w1, q1, r1⟩ := h v hv b [] []
    obtain ⟨e2, a2, w2, q2, r2⟩ := h v hv b [] [frX P]
    obtain ⟨rfl, q1'⟩ := q1
    obtain ⟨rfl, q2'⟩ := q2
    obtain ⟨n1, r1⟩ := r1
    obtain ⟨n2, r2⟩ := r2
    exact ⟨n1, ⟨a1, w1, q1', r1⟩, n2, a2, w2, r2⟩
  exact bes_run M hk hb hi hQ hs0 hc ho (good_acc M hk hb hi hQ hg) hg B m t hB
end
end Go.Proofs.YtpajdmhgonmgoaaDoor

namespace Go.Proofs.YtpajdmhgonmgoaaDoor
open Go.RowKit
set_option linter.unusedVariables false
open Go.Conc
set_option linter.unusedSimpArgs false
/-- What is shunned, as it stands: cells below the bound, channels that stand. -/
structure Cx (Shun : Loc → Prop) (w : World) : Prop where
  kind : ∀ l, Shun l → (∃ a, l = .cell a) ∨ ∃ r, l = .obj r
  low : ∀ a, Shun (.cell a) → a.block < w.heap.size
  chan : ∀ r, Shun (.obj r) → ∃ o, w.heap[r]? = some o ∧ o.isChan = true
/-- The rows of which a cell is shunned. -/
def Xs (Shun : Loc → Prop) (k : Nat) : Prop := ∃ a, Shun (.cell a) ∧ a.block = k
theorem Cx.none (w : World) : Cx (fun _ => False) w := ⟨fun _ h => h.elim, fun _ h => h.elim, fun _ h => h.elim⟩
theorem Cx.lowX {Shun : Loc → Prop} {w : World} (h : Cx Shun w) : ∀ k, Xs Shun k → k < w.heap.size := fun k ⟨a, ha, e⟩ => e ▸ h.low a ha
/-- Beside leavers, whatever they do, it comes to T. -/
def On (P : Program) (Shun : Loc → Prop) (g : Goroutine) (w : World) (T : Machine → Trace → Prop) : Prop :=
  ∀ B m t, w.heap.size ≤ B → Bes P Shun B g w m t → ∃ N m' t', runNT P N m t = (.next m', t') ∧ T m' t'
section
variable {P : Program} {Shun : Loc → Prop} {S : FuncId → Bool} {T : Machine → Trace → Prop}
/-- A piece by its lone walk. -/
theorem on_wp (M : MildZ P S) {b : Frame} (hk : b.kind ≠ .early) (hb : (P.funcs[b.fn]?).isSome = true) (hi : P.inits.idxOf? b.fn = none) {c : Code} {a : Act} {w : World} {k : List Item} {cs : List Frame} (hz : zC P S c = true) (hd : a.defers = []) (hx : Cx Shun w)
    (h : ∀ v, Poi (Xs Shun) v w → c.wp P (fun e a' v' => e = .normal ∧ ∀ w', Poi (Xs Shun) v' w' → Cx Shun w' → w.heap.size ≤ w'.heap.size → w'.tape = w.tape → On P Shun (G (b.at a' k) cs) w' T) a v) : On P Shun (G (b.at a (.code c :: k)) cs) w T := fun B m t hB hbe => by
  obtain ⟨N, m', t', a', w', v', r1, hq, hp, hc, hsz, ht, hb2⟩ := bes_wp (X := Xs Shun) (Xo := fun r => Shun (.obj r)) (Q := fun a' v' => ∀ w', Poi (Xs Shun) v' w' → Cx Shun w' → w.heap.size ≤ w'.heap.size → w'.tape = w.tape → On P Shun (G (b.at a' k) cs) w' T) M hk hb hi hx.kind (fun a ha => ⟨a, ha, rfl⟩) (fun r hr => hr)
    (fun a v v2 h12 hq w' hp => hq w' (poi_left h12 hp)) hz hd hx.lowX hx.chan h hbe
  obtain ⟨N2, m2, t2, u1, u2⟩ := hq w' hp ⟨hx.kind, fun a ha => Nat.lt_of_lt_of_le (hx.low a ha) hsz, hc⟩ hsz ht _ m' t' (Nat.le_max_right ..) hb2
  exact ⟨N + N2, m2, t2, by rw [runNT_then r1]; exact u1, u2⟩
end
end Go.Proofs.YtpajdmhgonmgoaaDoor

namespace Go.Proofs.YtpajdmhgonmgoaaDoor
open Go.RowKit
set_option linter.unusedVariables false
/-- An edge as it comes in. -/
structure EgT where
  a : Int
  b : Int
  t : Int
def egz : EgT := ⟨0, 0, 0⟩
/-- Edges that lie in a row. -/
structure ArgE (w : World) (xs : List EgT) (a : Option Addr) (n c : Nat) : Prop where
  len : n = xs.length
  max : n ≤ 9223372036854775807
  cells : ∀ k (h : k < xs.length), ∃ g off, a = some ⟨g, off, none⟩ ∧ g < w.heap.size ∧ w.cell? ⟨g, off + k * 3, none⟩ = some (.int .i64 xs[k].a) ∧ w.cell? ⟨g, off + k * 3 + 1, none⟩ = some (.int .i64 xs[k].b) ∧ w.cell? ⟨g, off + k * 3 + 2, none⟩ = some (.int .i64 xs[k].t)
theorem ArgE.below {w w' : World} {xs : List EgT} {a : Option Addr} {n c : Nat} (h : ArgE w xs a n c) (hb : Below w.heap.size w w') : ArgE w' xs a n c :=
  ⟨h.len, h.max, fun k hk => by
    obtain ⟨g, off, e, hg, h1, h2, h3⟩ := h.cells k hk
    have b := hb.block g hg
    exact ⟨g, off, e, Nat.lt_of_lt_of_le hg hb.size, (World.cell?_of_block (w := w) (a := ⟨g, off + k * 3, none⟩) b).trans h1, (World.cell?_of_block (w := w) (a := ⟨g, off + k * 3 + 1, none⟩) b).trans h2, (World.cell?_of_block (w := w) (a := ⟨g, off + k * 3 + 2, none⟩) b).trans h3⟩⟩
theorem eg_at {xs : List EgT} {k : Nat} (h : k < xs.length) : xs.getD k egz = xs[k] := by simp [List.getD, h]
/-- How many edges a place has, of the first so many. -/
def dgS (xs : List EgT) (k : Int) (i : Nat) : Int := smS i fun j => if (xs.getD j egz).a = k ∨ (xs.getD j egz).b = k then (xs.getD j egz).t else 0
def tmB (xs : List EgT) : Prop := xs.length ≤ 40 ∧ ∀ j, j < xs.length → 1 ≤ (xs.getD j egz).t ∧ (xs.getD j egz).t ≤ 100
theorem dgS_le {xs : List EgT} (h : tmB xs) (k : Int) : ∀ {i : Nat}, i ≤ xs.length → 0 ≤ dgS xs k i ∧ dgS xs k i ≤ 100 * i
  | 0, _ => by simp [dgS, smS]
  | i + 1, hi => by
    have a := dgS_le h k (i := i) (by omega)
    have b := h.2 i (by omega)
    unfold dgS at *
    simp only [smS]
    split <;> omega
theorem dgS_yes {xs : List EgT} {k : Int} {i : Nat} (h : (xs.getD i egz).a = k ∨ (xs.getD i egz).b = k) : dgS xs k (i + 1) = dgS xs k i + (xs.getD i egz).t := by
  unfold dgS; simp only [smS]; rw [if_pos h]
theorem dgS_no {xs : List EgT} {k : Int} {i : Nat} (h : ¬ ((xs.getD i egz).a = k ∨ (xs.getD i egz).b = k)) : dgS xs k (i + 1) = dgS xs k i := by
  unfold dgS; simp only [smS]; rw [if_neg h]; omega
theorem ltS_of_block {w : World} {p : Nat} {o : Obj} (h : w.heap[p]? = some o) : p < w.heap.size := (Array.getElem?_eq_some_iff.1 h).1
set_option maxRecDepth 100000 in
set_option maxHeartbeats 3200000 in
theorem Degree_any (P : Int) (xs : List EgT) (ea : Option Addr) (n c : Nat) (k : Int) (w : World) (hE : ArgE w xs ea n c) (ht : tmB xs) :
    Calls Tryd.prog 25 #[.agg #[.int .i64 P, .slice ea n c], .int .i64 k] w fun e w' => e = .returned (.int .i64 (dgS xs k n)) ∧ Below w.heap.size w w' := by
  obtain ⟨w1, hw1⟩ : ∃ w1, w.alloc (.cells #[.int .i64 P, .slice ea n c] 24) = w1 := ⟨_, rfl⟩
  have HW1 := hide' hw1
  have B1 := hide' (show Below w.heap.size w w1 by rw [← hw1]; exact (Below.refl _ _).alloc (Nat.le_refl _) _)
  have R1 := hide' (show w1.heap[w.heap.size]? = some (.cells #[.int .i64 P, .slice ea n c] 24 (0, 0)) by rw [← hw1]; exact heap_alloc_new _ _)
  have HE := hide' (fun (V : World) (h : Below w.heap.size w V) => hE.below h)
  have HL := hide' hE.len
  have nm := hE.max
  have HT := hide' ht
  clear hw1 hE ht
  go_enter Tryd.func25, Tryd.ntmps25
  go_upto_region 2 with fail
  rw [HW1.out]
  go_wp2
  go_loopw [5, 6] (fun nv iv wr => ∃ i : Nat, iv = .int .i64 (i : Int) ∧ nv = .int .i64 (dgS xs k i) ∧ i ≤ n ∧ Hid (Below w1.heap.size w1 wr)) (fun _ iv _ => n - (intOf iv).toNat)
  case atStart => exact ⟨0, rfl, rfl, by omega, hide' (Below.refl _ _)⟩
  case round =>
    obtain ⟨i, rfl, rfl, hi, BW⟩ := hrel
    have R2 := (BW.out.block _ (ltS_of_block R1.out)).trans R1.out
    have y1 := cell_of_row wr _ 1 _ _ _ R2
    simp at y1
    clear R2
    by_cases d : (i : Int) < (n : Int)
    · have hl : i < xs.length := by have := HL.out; omega
      obtain ⟨g, off, rfl, hg, c0, c1, c2⟩ := (HE.out wr (B1.out.trans (BW.out.mono B1.out.size))).cells i hl
      obtain ⟨⟨p, q, t⟩, hx⟩ : ∃ x, xs[i] = x := ⟨_, rfl⟩
      rw [hx] at c0 c1 c2
      simp only at c0 c1 c2
      have EQ := hide' (show xs.getD i egz = ⟨p, q, t⟩ by rw [eg_at hl, hx])
      have b1 := HT.out.2 i hl
      rw [EQ.out] at b1
      simp only at b1
      have b2 := dgS_le HT.out k (i := i) (by omega)
      have b3 := HT.out.1
      have b4 := HL.out
      obtain ⟨z, hz⟩ : ∃ z, dgS xs k i = z := ⟨_, rfl⟩
      rw [hz] at b2 ⊢
      have BN := hide' (show ∀ o, Below w1.heap.size w1 (wr.alloc o) from fun o => BW.out.alloc BW.out.size o)
      have b5 : 0 ≤ z ∧ z ≤ 4000 := by omega
      obtain ⟨y, hy⟩ : ∃ y, z + t = y := ⟨_, rfl⟩
      have wy : IntKind.i64.wrap y = y := by simp [IntKind.wrap, IntKind.bits, IntKind.signed]; omega
      have YES := hide' (show (p = k ∨ q = k) → dgS xs k (i + 1) = y from fun h => by rw [dgS_yes (by rw [EQ.out]; exact h), EQ.out, hz]; exact hy)
      have NO := hide' (show ¬ (p = k ∨ q = k) → dgS xs k (i + 1) = z from fun h => by rw [dgS_no (by rw [EQ.out]; exact h), hz])
      clear hx b1 b2 b3 b4 b5 hz
      by_cases e1 : p = k
      · have X := hide' (YES.out (Or.inl e1))
        go_wp2
        exact ⟨⟨i + 1, by go_num, by rw [X.out], by omega, hide' (BN.out _)⟩, by simp [intOf]; omega⟩
      · by_cases e2 : q = k
        · have X := hide' (YES.out (Or.inr e2))
          go_wp2
          exact ⟨⟨i + 1, by go_num, by rw [X.out], by omega, hide' (BN.out _)⟩, by simp [intOf]; omega⟩
        · have X := hide' (NO.out (by omega))
          have k1 : (p == k) = false := by simpa using e1
          have k2 : (q == k) = false := by simpa using e2
          go_wp2
          exact ⟨⟨i + 1, by go_num, by rw [X.out], by omega, hide' (BN.out _)⟩, by simp [intOf]; omega⟩
    · obtain rfl : i = n := by omega
      have FIN := hide' (B1.out.trans (BW.out.mono B1.out.size))
      go_wp2
      go_ret
      exact ⟨rfl, FIN.out⟩
end Go.Proofs.YtpajdmhgonmgoaaDoor

namespace Go.Proofs.YtpajdmhgonmgoaaDoor
open Go.RowKit
set_option linter.unusedVariables false
def badE (P : Int) (e : EgT) : Prop := e.a < 0 ∨ P ≤ e.a ∨ e.b < 0 ∨ P ≤ e.b ∨ e.a = e.b ∨ e.t < 1 ∨ 100 < e.t
def edS (e : EgT) : EdS := ⟨e.a.toNat, e.b.toNat, e.t⟩
/-- Whom the first so many edges reach; so many rounds. -/
def rcS (xs : List EgT) (R : Nat → Bool) : Nat → Nat → Bool
  | 0 => R
  | j + 1 => rcE (rcS xs R j) (edS (xs.getD j egz))
def rcM (xs : List EgT) : Nat → Nat → Bool
  | 0 => fun k => decide (k = 0)
  | m + 1 => rcS xs (rcM xs m) xs.length
/-- An array, told by a function. -/
def arrS (n : Nat) (f : Nat → Value) : Array Value := ((List.range n).map f).toArray
theorem arrS_get {n k : Nat} (f : Nat → Value) (h : k < n) : (arrS n f)[k]? = some (f k) := by simp [arrS, h]
theorem arrS_set (n i : Nat) (f : Nat → Value) (v : Value) : (arrS n f).setIfInBounds i v = arrS n (fun k => if k = i then v else f k) := by
  apply Array.ext
  · simp [arrS]
  · intro k h1 h2
    simp only [arrS, List.getElem_toArray, List.getElem_map, List.getElem_range]
    by_cases q : k = i
    · simp [q]
    · simp [q, Ne.symm q]
theorem arrS_ext {n : Nat} {f g : Nat → Value} (h : ∀ k, k < n → f k = g k) : arrS n f = arrS n g := by
  unfold arrS
  congr 1
  apply List.map_congr_left
  intro k hk
  exact h k (List.mem_range.1 hk)
theorem made_allS (z : Value) (n : Nat) : madeCells #[z] n = arrS n (fun _ => z) := by
  apply Array.ext'
  rw [toList_madeCells_one]
  unfold arrS
  simp [List.map_const']
theorem info_boolS : (Tryd.prog.info? 4).map (fun i => (i.zero, i.size, i.bytes)) = some (some (.bool false), 1, 1) := by kernel_rfl
theorem mk_boolS (n : Nat) (hn : n ≤ 10) (w : World) : (Instr.makeSlice 47 (.int .i64 (n : Int)) (.int .i64 (n : Int))).run Tryd.prog w = .ok (.slice (some ⟨w.heap.size, 0, none⟩) n n) (w.alloc (.cells (arrS n fun _ => .bool false) 4)) := by
  rw [← made_allS]
  exact run_make_row' (P := Tryd.prog) 47 4 (.bool false) 1 Tryd.underlying47 info_boolS rfl .i64 .i64 n (by omega) (by omega) w
/-- Who is reached, as it lies. -/
def BkS (V : World) (mb P : Nat) (R : Nat → Bool) : Prop := V.heap[mb]? = some (.cells (arrS P fun k => .bool (R k)) 4 (0, 0))
theorem BkS.cell {V : World} {mb P k : Nat} {R : Nat → Bool} (h : BkS V mb P R) (hk : k < P) : V.cell? ⟨mb, k, none⟩ = some (.bool (R k)) := by
  have := cell_of_row V mb k _ _ _ h
  rw [arrS_get _ hk] at this
  exact this
theorem BkS.set {V : World} {mb P i : Nat} {R : Nat → Bool} (h : BkS V mb P R) : BkS (V.setCell ⟨mb, i, none⟩ (.bool true)) mb P (fun k => if k = i then true else R k) := by
  have := heap_setCell_same V mb i _ _ (.bool true) h
  rw [arrS_set] at this
  unfold BkS
  rw [this]
  congr 2
  exact arrS_ext fun k _ => by by_cases q : k = i <;> simp [q]
theorem BkS.ext {V : World} {mb P : Nat} {R R' : Nat → Bool} (h : BkS V mb P R) (e : ∀ k, k < P → R k = R' k) : BkS V mb P R' := by
  unfold BkS at *
  rw [h]
  congr 2
  exact arrS_ext fun k hk => by rw [e k hk]
theorem BkS.alloc {V : World} {mb P : Nat} {R : Nat → Bool} (h : BkS V mb P R) (o : Obj) : BkS (V.alloc o) mb P R := (heap_alloc_old _ _ (ltS_of_block h)).trans h
theorem rc_yes {R : Nat → Bool} {e : EgT} {a b : Nat} (ha : e.a = a) (hb : e.b = b) (h : R a = true ∨ R b = true) (k : Nat) : (if k = b then true else if k = a then true else R k) = rcE R (edS e) k := by
  unfold rcE edS
  rw [ha, hb]
  have e1 : (R ((a : Int).toNat) || R ((b : Int).toNat)) = true := by rcases h with h | h <;> simp [h]
  by_cases q : k = b
  · rw [if_pos q, if_pos (Or.inr (by simpa using q)), e1]
  · by_cases r : k = a
    · rw [if_neg q, if_pos r, if_pos (Or.inl (by simpa using r)), e1]
    · rw [if_neg q, if_neg r, if_neg (by simp; omega)]
theorem rc_no {R : Nat → Bool} {e : EgT} {a b : Nat} (ha : e.a = a) (hb : e.b = b) (h1 : R a = false) (h2 : R b = false) (k : Nat) : R k = rcE R (edS e) k := by
  unfold rcE edS
  rw [ha, hb]
  by_cases q : k = (a : Int).toNat ∨ k = (b : Int).toNat
  · rw [if_pos q]
    rcases q with q | q
    · rw [q]; simp [h1, h2]
    · rw [q]; simp [h1, h2]
  · rw [if_neg q]
set_option maxRecDepth 100000 in
set_option maxHeartbeats 6400000 in
theorem Fault_ok (P : Nat) (xs : List EgT) (ea : Option Addr) (n c : Nat) (w : World) (hE : ArgE w xs ea n c) (p1 : 1 ≤ P) (p2 : P ≤ 10) (n4 : n ≤ 40) (ok : ∀ j, j < xs.length → ¬ badE P (xs.getD j egz)) (f : Nat) (hf : f = if (∀ k, k < P → rcM xs P k = true) then 0 else 3) :
    Calls Tryd.prog 5 #[.agg #[.int .i64 (P : Int), .slice ea n c]] w fun e w' => e = .returned (.int .i64 (f : Int)) ∧ Below w.heap.size w w' := by
  obtain ⟨w1, hw1⟩ : ∃ w1, w.alloc (.cells #[.int .i64 (P : Int), .slice ea n c] 24) = w1 := ⟨_, rfl⟩
  have HW1 := hide' hw1
  have B1 := hide' (show Below w.heap.size w w1 by rw [← hw1]; exact (Below.refl _ _).alloc (Nat.le_refl _) _)
  have R1 := hide' (show w1.heap[w.heap.size]? = some (.cells #[.int .i64 (P : Int), .slice ea n c] 24 (0, 0)) by rw [← hw1]; exact heap_alloc_new _ _)
  have HE := hide' (fun (V : World) (h : Below w.heap.size w V) => hE.below h)
  have HL := hide' hE.len
  have OK := hide' ok
  have HF := hide' hf
  have y0 := cell_of_row w1 _ 0 _ _ _ R1.out
  have y1 := cell_of_row w1 _ 1 _ _ _ R1.out
  simp at y0 y1
  have q1 : ¬ (P : Int) < 1 := by omega
  have q2 : ¬ 10 < (P : Int) := by omega
  have q3 : ¬ 40 < (n : Int) := by omega
  clear hw1 hE ok hf
  go_enter Tryd.func5, Tryd.ntmps5
  go_upto_region 1 with fail
  rw [HW1.out]
  go_wp2
  go_loopw [3] (fun iv wr => ∃ i : Nat, iv = .int .i64 (i : Int) ∧ i ≤ n ∧ Hid (Below w1.heap.size w1 wr)) (fun iv _ => n - (intOf iv).toNat)
  case atStart => exact ⟨0, rfl, by omega, hide' (Below.refl _ _)⟩
  case round =>
    obtain ⟨i, rfl, hi, BW⟩ := hrel
    clear y0 y1
    have R2 := (BW.out.block _ (ltS_of_block R1.out)).trans R1.out
    have y0 := cell_of_row wr _ 0 _ _ _ R2
    have y1 := cell_of_row wr _ 1 _ _ _ R2
    simp at y0 y1
    by_cases d : (i : Int) < (n : Int)
    · have hl : i < xs.length := by have := HL.out; omega
      obtain ⟨g, off, rfl, hg, c0, c1, c2⟩ := (HE.out wr (B1.out.trans (BW.out.mono B1.out.size))).cells i hl
      obtain ⟨⟨p, q, t⟩, hx⟩ : ∃ x, xs[i] = x := ⟨_, rfl⟩
      rw [hx] at c0 c1 c2
      simp only at c0 c1 c2
      have b1 := OK.out i hl
      rw [eg_at hl, hx] at b1
      unfold badE at b1
      simp only at b1
      have k0 : ¬ (p < 0) := by omega
      have k1 : ¬ ((P : Int) ≤ p) := by omega
      have k2 : ¬ (q < 0) := by omega
      have k3 : ¬ ((P : Int) ≤ q) := by omega
      have k4 : ¬ (p = q) := by omega
      have k5 : ¬ (t < 1) := by omega
      have k6 : ¬ (100 < t) := by omega
      have k7 : (p == q) = false := by simpa using k4
      have BN := hide' (show ∀ o, Below w1.heap.size w1 (wr.alloc o) from fun o => BW.out.alloc BW.out.size o)
      have R3 := hide' (fun o => (heap_alloc_old wr o (ltS_of_block R2)).trans R2)
      have z0 := fun o => cell_of_row (wr.alloc o) _ 0 _ _ _ (R3.out o)
      simp at z0
      clear hx b1 R2
      go_wp2
      exact ⟨⟨i + 1, by go_num, by omega, hide' (BN.out _)⟩, by simp [intOf]; omega⟩
    · have mk := mk_boolS P p2
      have BX := hide' BW.out
      have SZ := hide' BW.out.size
      go_upto_region 12 with fail
      obtain ⟨mb, hmb⟩ : ∃ mb, wr.heap.size = mb := ⟨_, rfl⟩
      obtain ⟨w3, hw3⟩ : ∃ w3, wr.alloc (.cells (arrS P fun _ => .bool false) 4) = w3 := ⟨_, rfl⟩
      have K3 : BkS w3 mb P (fun _ => false) := by rw [← hw3, ← hmb]; exact heap_alloc_new _ _
      have B3 := hide' (show Below w1.heap.size w1 w3 by rw [← hw3]; exact BX.out.alloc BX.out.size _)
      have M3 := hide' (show w1.heap.size ≤ mb by rw [← hmb]; exact SZ.out)
      rw [hmb, hw3]
      have c0 := K3.cell (k := 0) (by omega)
      have f0 := frozen_of_row w3 mb 0 _ _ K3
      have l0 : (0 : Int) < (P : Int) := by omega
      have B4 := hide' (show Below w1.heap.size w1 (w3.setCell ⟨mb, 0, none⟩ (.bool true)) from B3.out.setCell M3.out _)
      have K4 := hide' ((K3.set (i := 0)).ext (R' := rcM xs 0) fun k _ => by unfold rcM; by_cases q : k = 0 <;> simp [q])
      clear hmb hw3 K3 mk y0 y1 R2
      go_wp2
      go_loopw [6] (fun mv V => ∃ m : Nat, mv = .int .i64 (m : Int) ∧ m ≤ P ∧ Hid (BkS V mb P (rcM xs m)) ∧ Hid (Below w1.heap.size w1 V)) (fun mv _ => P - (intOf mv).toNat)
      case atStart => exact ⟨0, rfl, by omega, K4, B4⟩
      case round =>
        obtain ⟨m, rfl, hm, KM, BM⟩ := hrel
        have RW := hide' (fun (V : World) (h : Below w1.heap.size w1 V) => (h.block _ (ltS_of_block R1.out)).trans R1.out)
        have y0 := cell_of_row wr _ 0 _ _ _ (RW.out wr BM.out)
        simp at y0
        by_cases dm : (m : Int) < (P : Int)
        · clear c0 f0
          go_upto_region 17 with fail
          go_loopw [7] (fun iv V => ∃ i : Nat, iv = .int .i64 (i : Int) ∧ i ≤ n ∧ Hid (BkS V mb P (rcS xs (rcM xs m) i)) ∧ Hid (Below w1.heap.size w1 V)) (fun iv _ => n - (intOf iv).toNat)
          case atStart => exact ⟨0, rfl, by omega, KM, BM⟩
          case round =>
            obtain ⟨j, rfl, hj, KJ, BJ⟩ := hrel
            clear y0
            have y1 := cell_of_row wr _ 1 _ _ _ (RW.out wr BJ.out)
            simp at y1
            by_cases dj : (j : Int) < (n : Int)
            · have hl : j < xs.length := by have := HL.out; omega
              obtain ⟨g, off, rfl, hg, e0, e1, e2⟩ := (HE.out wr (B1.out.trans (BJ.out.mono B1.out.size))).cells j hl
              obtain ⟨⟨p, q, t⟩, hx⟩ : ∃ x, xs[j] = x := ⟨_, rfl⟩
              rw [hx] at e0 e1 e2
              simp only at e0 e1 e2
              have EQ := hide' (show xs.getD j egz = ⟨p, q, t⟩ by rw [eg_at hl, hx])
              have b1 := OK.out j hl
              rw [EQ.out] at b1
              unfold badE at b1
              simp only at b1
              obtain ⟨pa, rfl⟩ := Int.eq_ofNat_of_zero_le (show 0 ≤ p by omega)
              obtain ⟨qa, rfl⟩ := Int.eq_ofNat_of_zero_le (show 0 ≤ q by omega)
              have lp : (pa : Int) < (P : Int) := by omega
              have lq : (qa : Int) < (P : Int) := by omega
              obtain ⟨R, hR⟩ : ∃ R, rcS xs (rcM xs m) j = R := ⟨_, rfl⟩
              have KR := hide' (show BkS wr mb P R by rw [← hR]; exact KJ.out)
              have ca := KR.out.cell (k := pa) (by omega)
              have cb := KR.out.cell (k := qa) (by omega)
              have fa := frozen_of_row wr mb pa _ _ KR.out
              have fb := frozen_of_row wr mb qa _ _ KR.out
              have lm := ltS_of_block KR.out
              have YES := hide' (show R pa = true ∨ R qa = true → ∀ V, BkS V mb P (fun k => if k = qa then true else if k = pa then true else R k) → BkS V mb P (rcS xs (rcM xs m) (j + 1)) from fun h V hV => hV.ext fun k _ => by
                show _ = rcE (rcS xs (rcM xs m) j) (edS (xs.getD j egz)) k
                rw [hR, EQ.out]; exact rc_yes rfl rfl h k)
              have NO := hide' (show R pa = false → R qa = false → ∀ V, BkS V mb P R → BkS V mb P (rcS xs (rcM xs m) (j + 1)) from fun h1 h2 V hV => hV.ext fun k _ => by
                show _ = rcE (rcS xs (rcM xs m) j) (edS (xs.getD j egz)) k
                rw [hR, EQ.out]; exact rc_no rfl rfl h1 h2 k)
              have ST := hide' (fun o => ((KR.out.set (i := pa)).set (i := qa)).alloc o)
              have BS := hide' (show ∀ o, Below w1.heap.size w1 (((wr.setCell ⟨mb, pa, none⟩ (.bool true)).setCell ⟨mb, qa, none⟩ (.bool true)).alloc o) from fun o => ((BJ.out.setCell M3.out _).setCell M3.out _).alloc (by rw [World.size_setCell, World.size_setCell]; exact BJ.out.size) o)
              have n1 : ¬ pa = qa := fun h => b1 (by rw [h]; simp)
              have n2 : ¬ qa = pa := fun h => n1 h.symm
              have ca2 : (wr.setCell ⟨mb, pa, none⟩ (.bool true)).cell? ⟨mb, qa, none⟩ = some (.bool (R qa)) := ((KR.out.set (i := pa)).cell (k := qa) (by omega)).trans (by rw [if_neg n2])
              have AL := hide' (fun o => KR.out.alloc o)
              have BA := hide' (fun o => BJ.out.alloc BJ.out.size o)
              clear hx b1 hR
              cases ha : R pa with
              | true =>
                have X := hide' (YES.out (Or.inl ha))
                rw [ha] at ca
                clear ha
                go_wp2
                exact ⟨⟨j + 1, by go_num, by omega, hide' (X.out _ (ST.out _)), hide' (BS.out _)⟩, by simp [intOf]; omega⟩
              | false =>
                cases hb : R qa with
                | true =>
                  have X := hide' (YES.out (Or.inr hb))
                  rw [ha] at ca
                  rw [hb] at cb ca2
                  clear ha hb
                  go_wp2
                  exact ⟨⟨j + 1, by go_num, by omega, hide' (X.out _ (ST.out _)), hide' (BS.out _)⟩, by simp [intOf]; omega⟩
                | false =>
                  have X := hide' (NO.out ha hb)
                  rw [ha] at ca
                  rw [hb] at cb ca2
                  clear ha hb
                  go_wp2
                  exact ⟨⟨j + 1, by go_num, by omega, hide' (X.out _ (AL.out _)), hide' (BA.out _)⟩, by simp [intOf]; omega⟩
            · obtain rfl : j = n := by omega
              have KN := hide' (show BkS wr mb P (rcM xs (m + 1)) by
                have e := HL.out
                show BkS wr mb P (rcS xs (rcM xs m) xs.length)
                rw [← e]; exact KJ.out)
              go_wp2
              exact ⟨⟨m + 1, by go_num, by omega, KN, BJ⟩, by simp [intOf]; omega⟩
        · obtain rfl : m = P := by omega
          clear c0 f0
          go_upto_region 24 with fail
          go_loopw [9] (fun kv V => ∃ k : Nat, kv = .int .i64 (k : Int) ∧ k ≤ m ∧ Hid (BkS V mb m (rcM xs m)) ∧ Hid (Below w1.heap.size w1 V) ∧ Hid (∀ i, i < k → rcM xs m i = true)) (fun kv _ => m - (intOf kv).toNat)
          case atStart => exact ⟨0, rfl, by omega, KM, BM, hide' fun i h => by omega⟩
          case round =>
            obtain ⟨k, rfl, hk, KK, BK, HA⟩ := hrel
            clear y0
            have y0 := cell_of_row wr _ 0 _ _ _ (RW.out wr BK.out)
            simp at y0
            have FIN := hide' (B1.out.trans (BK.out.mono B1.out.size))
            by_cases dk : (k : Int) < (m : Int)
            · have ck := KK.out.cell (k := k) (by omega)
              cases hr : rcM xs m k with
              | true =>
                have NX := hide' (show ∀ i, i < k + 1 → rcM xs m i = true from fun i h => by
                  by_cases q : i = k
                  · rw [q]; exact hr
                  · exact HA.out i (by omega))
                rw [hr] at ck
                clear hr
                go_wp2
                exact ⟨⟨k + 1, by go_num, by omega, KK, BK, NX⟩, by simp [intOf]; omega⟩
              | false =>
                have X := hide' (show f = 3 by rw [HF.out, if_neg (fun h => by rw [h k (by omega)] at hr; cases hr)])
                rw [hr] at ck
                clear hr
                go_wp2
                go_ret
                rw [X.out]; exact ⟨rfl, FIN.out⟩
            · obtain rfl : k = m := by omega
              have X := hide' (show f = 0 by rw [HF.out, if_pos HA.out])
              go_wp2
              go_ret
              rw [X.out]; exact ⟨rfl, FIN.out⟩
end Go.Proofs.YtpajdmhgonmgoaaDoor

