/-
  What the last text of this claim leans on, part 9: Ka2, Kp1, Kp2.
-/
import Derived.Test.YtpajdmhgonmgoaaDoorYt8
import Derived.Conc.Token
import Derived.Conc.CrowdComm
import Derived.Conc.CrowdStepC
namespace Go.Proofs.YtpajdmhgonmgoaaDoor
open Go.Conc Go.ConcN
open Go.ConcR (KK wgBlock WgAt stA smA rd wr Payload DC0)
set_option linter.unusedVariables false
/-- Where all lies, and what is asked of the texts. -/
structure Site where
  P : Program
  ty : TypeId
  Wg : Nat
  ch : Nat
  cB : Nat
  csz : Nat
  cap : Nat
  z : Value
  n : Nat
  L : Nat
  ci : Nat
  cv : Value
  KnownC : Addr → Value → Prop
  IsAt : Addr → Prop
  RdC : Addr → Prop
  Sh : Loc → Prop
  cpA : Nat → Addr
  plan : Nat → Int → List (Addr × Int)
  GoodV : Nat → Int → Prop
  Loop : Goroutine → Prop
  Anch : Goroutine → Prop
  Fin : Goroutine → World → Prop
  items : List Nat
  GI : (Addr → Int) → List Nat → List Nat → (Nat → Option Nat × List (Addr × Int)) → Prop
  B : Nat
  Keep : World → Prop
def Site.Rd (s : Site) : Loc → Prop := fun l => ∃ a, l = .cell a ∧ s.RdC a
def vI (p : Nat) : Value := .int .i64 (p : Int)
def Fits (x : Int) : Prop := -9223372036854775808 ≤ x ∧ x ≤ 9223372036854775807
theorem goes_any {P : Program} {main : Bool} {X : World → Prop} {D : World → World → Array Event → Prop} {S : Goroutine → World → Prop} {n : Nat} {g : Goroutine} {w w' : World} (h : Goes P main (fun _ x => X x) D S n g w) : Goes P main (fun _ x => X x) D S n g w' := by
  cases n <;> exact h
section
variable [Payload]
/-- What stands fast while the crew works. -/
structure Site.Fix (s : Site) (w : World) : Prop where
  known : ∀ a v, s.KnownC a v → w.cell? a = some v
  ats : ∀ a, s.IsAt a → ∃ x, w.cell? a = some (.int .i64 x) ∧ w.frozen? a = false
  chan : ∃ buf cl sn rc, w.heap[s.ch]? = some (.chan s.cap buf cl sn rc false)
  live : WgLive s.ty s.Wg w
  pay : PayAt s.cB s.csz w
  keep : s.Keep w
def Site.R0 (s : Site) (_ : World) (w : World) : Prop := s.Fix w
def Site.Dq (s : Site) (w w' : World) (es : Array Event) : Prop := (∃ d, w' = w.at d) ∧ ∀ e ∈ es, ∃ a, e = ⟨.cell a, false, false⟩ ∧ s.RdC a
def Site.D0 (s : Site) (w w' : World) (es : Array Event) : Prop := (∃ d, w' = w.at d) ∧ ∀ e ∈ es, (∃ a, e = ⟨.cell a, false, false⟩ ∧ s.RdC a) ∨ e = Go.ConcR.mk (.read (smA s.Wg)) ∨ e = Go.ConcR.mk (.write (smA s.Wg))
/-! the worker -/
def Site.AtAdds (s : Site) : List (Addr × Int) → Goroutine → World → Prop
  | [], g, _ => s.Loop g
  | (a, d) :: ls, g, w => g.status = .running ∧ ∀ v, w.cell? a = some (.int .i64 v) → Fits (v + d) → ∃ g', stepG s.P false g w = .go g' (w.setCell a (.int .i64 (v + d))) #[rd a, wr a] ∧ ∃ m, Goes s.P false s.R0 s.Dq (s.AtAdds ls) m g' w
def Site.AtLoad (s : Site) (p : Nat) (g : Goroutine) (w : World) : Prop :=
  g.status = .running ∧ ∀ v, w.cell? (s.cpA p) = some (.int .i64 v) → s.GoodV p v → ∃ g', stepG s.P false g w = .go g' w #[rd (s.cpA p)] ∧ ∃ m, Goes s.P false s.R0 s.Dq (s.AtAdds (s.plan p v)) m g' w
/-- A worker's data. -/
structure Wk where
  stage : Nat
  fuel : Nat
  deaf : Nat
  item : Nat
  adds : List (Addr × Int)
def Wk.gh (d : Wk) : Option Nat × List (Addr × Int) := if d.stage = 10 then (some d.item, []) else if d.stage = 9 then (none, d.adds) else (none, [])
def Wk.wt (d : Wk) : Nat := if d.stage ≤ 7 then d.stage else if d.stage = 12 then 8 else if d.stage = 10 then 24 else if d.stage = 9 then 9 + d.adds.length else 9
def Wk.pr (d : Wk) : WD := ⟨min d.stage 7, d.fuel, d.deaf⟩
def Site.WQ (s : Site) : Nat → Nat → Nat → Goroutine → World → Prop := WSit s.P s.ty s.Wg s.cB s.csz (fun _ _ => False) (fun _ _ => False) 0 (s.ci + 1) s.cv
/-- It stands at its release. -/
def Site.AtR0x (s : Site) (g : Goroutine) (w : World) : Prop := g.status = .running ∧ ∃ g', stepG s.P false g w = .go g' w #[Go.ConcR.mk (.releaseMerge (stA s.Wg))] ∧ ∃ m, s.WQ 6 m 0 g' w
def Site.WPos (s : Site) (d : Wk) (g : Goroutine) (w : World) : Prop :=
  if d.stage = 13 then d.deaf = 0 ∧ ∃ g0, s.Loop g0 ∧ g = { parked g0 #[rcase s.ch s.z] (.recv true) with status := .running }
  else if d.stage = 12 then d.deaf = 0 ∧ ∃ g0, s.Loop g0 ∧ g = parked g0 #[rcase s.ch s.z] (.recv true)
  else if d.stage = 11 then d.deaf = 0 ∧ Goes s.P false s.R0 s.Dq (fun g _ => s.Loop g) d.fuel g w
  else if d.stage = 10 then d.deaf = 0 ∧ Goes s.P false s.R0 s.Dq (s.AtLoad d.item) d.fuel g w
  else if d.stage = 9 then d.deaf = 0 ∧ Goes s.P false s.R0 s.Dq (s.AtAdds d.adds) d.fuel g w
  else if d.stage = 7 then d.deaf = 0 ∧ Goes s.P false s.R0 s.Dq s.AtR0x d.fuel g w
  else s.WQ d.stage d.fuel d.deaf g w
/-! the starter -/
def Site.AtAcq (s : Site) (g : Goroutine) (w : World) : Prop := g.status = .running ∧ ∃ g', stepG s.P true g w = .go g' w #[Go.ConcR.mk (.acquire (stA s.Wg))] ∧ g'.status = .running ∧ ∀ w', s.Fix w' → s.Fin g' w'
def Site.AtKe (s : Site) (g : Goroutine) (w : World) : Prop := g.status = .running ∧ ∃ g', stepG s.P true g w = .go g' w #[Go.ConcR.mk .enable] ∧ ∃ m, Goes s.P true s.R0 s.D0 s.AtAcq m g' w
def Site.AtW4 (s : Site) (g : Goroutine) (w : World) : Prop := g.status = .running ∧ (WgAt s.ty s.Wg w 0 0 → ∃ g', stepG s.P true g w = .go g' w #[rd (stA s.Wg)] ∧ ∃ m, Goes s.P true s.R0 s.D0 s.AtKe m g' w)
def Site.AtW3 (s : Site) (g : Goroutine) (w : World) : Prop :=
  g.status = .running ∧ g.offers = none ∧ ((∃ st, WgAt s.ty s.Wg w st 0) → stepG s.P true g w = .go { g with status := .blocked } w #[]) ∧
    (WgAt s.ty s.Wg w 0 1 → ∃ g', stepG s.P true g w = .go g' (w.setCell (smA s.Wg) (.int .u32 0)) (semEvents (smA s.Wg)) ∧ ∃ m, Goes s.P true s.R0 s.D0 s.AtW4 m g' w)
def Site.AtW2 (s : Site) (vs : Nat) (g : Goroutine) (w : World) : Prop :=
  g.status = .running ∧ ∀ v : Nat, v < 2147483648 → WgAt s.ty s.Wg w (v * KK) 0 →
    (v = vs → ∃ g', stepG s.P true g w = .go g' (w.setCell (stA s.Wg) (.int .u64 (v * KK + 1))) #[rd (stA s.Wg), wr (stA s.Wg)] ∧ ∃ m, Goes s.P true s.R0 s.D0 s.AtW3 m g' w) ∧
    (v ≠ vs → ∃ g', stepG s.P true g w = .go g' w #[rd (stA s.Wg)] ∧ ∃ m, Goes s.P true s.R0 s.D0 (fun g _ => s.Anch g) m g' w)
def Site.AtW1 (s : Site) (g : Goroutine) (w : World) : Prop :=
  g.status = .running ∧ ∀ v : Nat, v < 2147483648 → WgAt s.ty s.Wg w (v * KK) 0 → ∃ g', stepG s.P true g w = .go g' w #[rd (stA s.Wg)] ∧
    (v = 0 → ∃ m, Goes s.P true s.R0 s.D0 s.AtKe m g' w) ∧ (v ≠ 0 → ∃ m, Goes s.P true s.R0 s.D0 (s.AtW2 v) m g' w)
def Site.AtKdW (s : Site) (g : Goroutine) (w : World) : Prop := g.status = .running ∧ ∃ g', stepG s.P true g w = .go g' w #[Go.ConcR.mk .disable] ∧ ∃ m, Goes s.P true s.R0 s.D0 (fun g _ => s.Anch g) m g' w
def Site.AtSends (s : Site) : List Nat → Goroutine → World → Prop
  | [], g, w => g.status = .running ∧ mayWake s.P g = true ∧ ∃ g', g'.status = .running ∧ (∀ buf sn rc, w.heap[s.ch]? = some (.chan s.cap buf false sn rc false) → stepG s.P true g w = .go g' (w.setChan s.ch s.cap buf true sn rc false) (closeEvents s.ch)) ∧ ∃ m, Goes s.P true s.R0 s.D0 s.AtKdW m g' w
  | p :: r, g, w => g.status = .running ∧ ∃ u, stepG s.P true g w = .comm g #[scase s.ch (vI p) u] true .send w #[] ∧ ∃ m, Goes s.P true s.R0 s.D0 (s.AtSends r) m (g.finishComm s.P #[scase s.ch (vI p) u] .send 0 undef false) w
def Site.AtGo (s : Site) (j : Nat) (Next : Goroutine → World → Prop) (g : Goroutine) (w : World) : Prop :=
  g.status = .running ∧ ∃ g' child, stepG s.P true g w = .spawn g' child w #[] ∧ child.status = .running ∧ (∃ m, Goes s.P false s.R0 s.Dq (fun g _ => s.Loop g) m child w) ∧ Next g' w
def Site.AtKeS (s : Site) (j : Nat) (Next : Goroutine → World → Prop) (g : Goroutine) (w : World) : Prop := g.status = .running ∧ ∃ g', stepG s.P true g w = .go g' w #[Go.ConcR.mk .enable] ∧ ∃ m, Goes s.P true s.R0 s.D0 (s.AtGo j Next) m g' w
def Site.AtA1 (s : Site) (j : Nat) (Next : Goroutine → World → Prop) (g : Goroutine) (w : World) : Prop :=
  g.status = .running ∧ (WgAt s.ty s.Wg w (j * KK) 0 → ∃ g', stepG s.P true g w = .go g' (w.setCell (stA s.Wg) (.int .u64 ((j + 1 : Nat) * KK))) #[rd (stA s.Wg), wr (stA s.Wg)] ∧ ∃ m, Goes s.P true s.R0 s.D0 (s.AtKeS j Next) m g' w)
def Site.AtKdS (s : Site) (j : Nat) (Next : Goroutine → World → Prop) (g : Goroutine) (w : World) : Prop := g.status = .running ∧ ∃ g', stepG s.P true g w = .go g' w #[Go.ConcR.mk .disable] ∧ ∃ m, Goes s.P true s.R0 s.D0 (s.AtA1 j Next) m g' w
def Site.Spawns (s : Site) : Nat → Goroutine → World → Prop
  | 0, g, w => ∃ m, Goes s.P true s.R0 s.D0 (s.AtSends s.items) m g w
  | r + 1, g, w => ∃ m, Goes s.P true s.R0 s.D0 (s.AtKdS (s.n - (r + 1)) (s.Spawns r)) m g w
/-- Where the starter stands: is the channel closed, what is still to be sent, its tag, how many are started, its fuel, its deafness. -/
def Site.SPos (s : Site) (cl : Bool) (its : List Nat) (tag : CTag) (j f d : Nat) (g : Goroutine) (w : World) : Prop :=
  match tag with
  | .sp r k => cl = false ∧ its = s.items ∧ r < s.n ∧ j = s.n - (r + 1) ∧
      ((k = 5 ∧ d = 0 ∧ Goes s.P true s.R0 s.D0 (s.AtKdS j (s.Spawns r)) f g w) ∨ (k = 4 ∧ d = 1 ∧ Goes s.P true s.R0 s.D0 (s.AtA1 j (s.Spawns r)) f g w) ∨
       (k = 3 ∧ d = 1 ∧ Goes s.P true s.R0 s.D0 (s.AtKeS j (s.Spawns r)) f g w) ∨ (k = 2 ∧ d = 0 ∧ Goes s.P true s.R0 s.D0 (s.AtGo j (s.Spawns r)) f g w))
  | .kd => j = s.n ∧ d = 0 ∧ ((cl = false ∧ Goes s.P true s.R0 s.D0 (s.AtSends its) f g w) ∨ (cl = true ∧ its = [] ∧ Goes s.P true s.R0 s.D0 s.AtKdW f g w))
  | .anch => j = s.n ∧ cl = true ∧ its = [] ∧ d = 1 ∧ Goes s.P true s.R0 s.D0 (fun g _ => s.Anch g) f g w
  | .w1 => j = s.n ∧ cl = true ∧ its = [] ∧ d = 1 ∧ Goes s.P true s.R0 s.D0 s.AtW1 f g w
  | .w2 vs => j = s.n ∧ cl = true ∧ its = [] ∧ d = 1 ∧ Goes s.P true s.R0 s.D0 (s.AtW2 vs) f g w
  | .w3 => j = s.n ∧ cl = true ∧ its = [] ∧ d = 1 ∧ ∃ m, f = m + 1 ∧ Goes s.P true s.R0 s.D0 s.AtW3 m g w
  | .blk => j = s.n ∧ cl = true ∧ its = [] ∧ d = 1 ∧ f = 0 ∧ ∃ g0, g = { g0 with status := .blocked } ∧ ∀ w₁, s.Fix w₁ → s.AtW3 g0 w₁
  | .w4 => j = s.n ∧ cl = true ∧ its = [] ∧ d = 1 ∧ Goes s.P true s.R0 s.D0 s.AtW4 f g w
  | .ke => j = s.n ∧ cl = true ∧ its = [] ∧ d = 1 ∧ Goes s.P true s.R0 s.D0 s.AtKe f g w
  | .acq => j = s.n ∧ cl = true ∧ its = [] ∧ d = 0 ∧ Goes s.P true s.R0 s.D0 s.AtAcq f g w
  | .ret => False
def phiS (n v : Nat) (cl : Bool) : CTag → Nat
  | .sp r k => 10 * n + 20 + 16 * r + k
  | .kd => if cl then 8 * n + 7 else 9 * n + 9
  | t => phi n v t
/-- What is asked of the place. -/
structure Site.Ok (s : Site) : Prop where
  kee : ∀ w w' : World, w'.os = w.os → w'.tape = w.tape → w'.output = w.output → w'.heap.size = w.heap.size → (∀ b, b ≠ s.Wg → b ≠ s.ch → (∀ a, s.IsAt a → a.block ≠ b) → w'.heap[b]? = w.heap[b]?) → s.Keep w → s.Keep w'
  L0 : 0 < s.L
  wc : s.Wg ≠ s.cB
  wh : s.Wg ≠ s.ch
  hc : s.ch ≠ s.cB
  atw : ∀ a, s.IsAt a → a.block ≠ s.Wg ∧ a.block ≠ s.ch
  atn : ∀ a, s.IsAt a → a.spot = none
  knw : ∀ a v, s.KnownC a v → ¬ s.IsAt a ∧ a.block ≠ s.Wg ∧ a.block ≠ s.ch ∧ a.spot = none
  kci : s.KnownC ⟨s.cB, s.ci, none⟩ s.cv
  shr : ∀ l, s.Rd l → ¬ s.Sh l
  sha : ∀ a, s.IsAt a → s.Sh (.cell a)
  shw : ∀ a, a.block = s.Wg → s.Sh (.cell a)
  shc : s.Sh (.obj s.ch)
  lwa : ∀ a, s.IsAt a → a.block < s.B
  lwr : ∀ a, s.RdC a → a.block < s.B
  lww : s.Wg < s.B
  lwh : s.ch < s.B
  n1 : 1 ≤ s.n
  n2 : s.n < 2147483647
  run : ∀ g, s.Loop g → g.status = .running
  ran : ∀ g, s.Anch g → g.status = .running
  comm : ∀ g w, s.Loop g → stepG s.P false g w = .comm g #[rcase s.ch s.z] true (.recv true) w #[]
  item : ∀ g i p f b t h w, s.Loop g → s.GI f b t h → h i = (some p, []) → ∃ m, Goes s.P false s.R0 s.Dq (s.AtLoad p) m (g.finishComm s.P #[rcase s.ch s.z] (.recv true) 0 (vI p) true) w
  done : ∀ g w, s.Loop g → ∃ m, Goes s.P false s.R0 s.Dq s.AtR0x m (g.finishComm s.P #[rcase s.ch s.z] (.recv true) 0 s.z false) w
  anch : ∀ g w, s.Anch g → ∃ m, Goes s.P true s.R0 s.D0 s.AtW1 m g w
  take : ∀ f p b t h i, s.GI f (p :: b) t h → h i = (none, []) → s.GI f b t (upd h i (some p, []))
  give : ∀ f p t h i, s.GI f [] (p :: t) h → h i = (none, []) → s.GI f [] t (upd h i (some p, []))
  send : ∀ f p b t h, s.GI f b (p :: t) h → s.GI f (b ++ [p]) t h
  load : ∀ f p b t h i, s.GI f b t h → h i = (some p, []) → s.IsAt (s.cpA p) ∧ s.GoodV p (f (s.cpA p)) ∧ (s.plan p (f (s.cpA p))).length ≤ 14 ∧ s.GI f b t (upd h i (none, s.plan p (f (s.cpA p))))
  add : ∀ f a d ls b t h i, s.GI f b t h → h i = (none, (a, d) :: ls) → s.IsAt a ∧ Fits (f a + d) ∧ s.GI (fun x => if x = a then f a + d else f x) b t (upd h i (none, ls))
theorem goes_w {s : Site} {S : Goroutine → World → Prop} {n : Nat} {g : Goroutine} {w w' : World} (h : Goes s.P false s.R0 s.Dq S n g w) : Goes s.P false s.R0 s.Dq S n g w' := by cases n <;> exact h
theorem goes_0 {s : Site} {S : Goroutine → World → Prop} {n : Nat} {g : Goroutine} {w w' : World} (h : Goes s.P true s.R0 s.D0 S n g w) : Goes s.P true s.R0 s.D0 S n g w' := by cases n <;> exact h
end
end Go.Proofs.YtpajdmhgonmgoaaDoor

namespace Go.Proofs.YtpajdmhgonmgoaaDoor
open Go.RowKit
set_option linter.unusedVariables false
open Go.Conc Go.ConcN
set_option linter.unusedSimpArgs false
def cpL (C q : Nat) : Addr := ⟨C, 112 + q, none⟩
def tpL (C q : Nat) : Addr := ⟨C, 122 + q, none⟩
def tgL (T : Nat) : Addr := ⟨T, 0, none⟩
/-- What is still to be added at a place; of it, what is to be taken away. -/
def pdA : List (Addr × Int) → Addr → Int
  | [], _ => 0
  | p :: r, x => (if p.1 = x then p.2 else 0) + pdA r x
def ngA : List (Addr × Int) → Addr → Int
  | [], _ => 0
  | p :: r, x => (if p.1 = x then (if p.2 < 0 then - p.2 else 0) else 0) + ngA r x
theorem pdA_app (l r : List (Addr × Int)) (x : Addr) : pdA (l ++ r) x = pdA l x + pdA r x := by
  induction l with
  | nil => simp [pdA]
  | cons p l ih => simp only [List.cons_append, pdA, ih]; omega
theorem ngA_nonneg (l : List (Addr × Int)) (x : Addr) : 0 ≤ ngA l x := by
  induction l with
  | nil => exact Int.le_refl _
  | cons p l ih => simp only [ngA]; repeat' split <;> omega
theorem psA_nonneg (l : List (Addr × Int)) (x : Addr) : 0 ≤ pdA l x + ngA l x := by
  induction l with
  | nil => simp [pdA, ngA]
  | cons p l ih => simp only [pdA, ngA]; repeat' split <;> omega
theorem pdA_none {l : List (Addr × Int)} {x : Addr} (h : ∀ p ∈ l, p.1 ≠ x) : pdA l x = 0 := by
  induction l with
  | nil => rfl
  | cons p l ih => simp only [pdA, if_neg (h p (List.mem_cons_self ..)), ih fun q hq => h q (List.mem_cons_of_mem _ hq)]; rfl
theorem ngA_none {l : List (Addr × Int)} {x : Addr} (h : ∀ p ∈ l, p.1 = x → 0 ≤ p.2) : ngA l x = 0 := by
  induction l with
  | nil => rfl
  | cons p l ih =>
    have h1 := h p (List.mem_cons_self ..)
    simp only [ngA, ih fun q hq => h q (List.mem_cons_of_mem _ hq)]
    split
    · rename_i e; have := h1 e; rw [if_neg (by omega)]; rfl
    · rfl
theorem pdA_zero {l : List (Addr × Int)} {x : Addr} (h : ∀ p ∈ l, p.2 = 0) : pdA l x = 0 := by
  induction l with
  | nil => rfl
  | cons p l ih =>
    simp only [pdA, ih fun q hq => h q (List.mem_cons_of_mem _ hq), h p (List.mem_cons_self ..)]
    split <;> rfl
theorem cpL_inj {C q r : Nat} (h : cpL C q = cpL C r) : q = r := by unfold cpL at h; injection h with _ h; omega
theorem pdA_map {C : Nat} (g : Nat → Int) (q : Nat) : ∀ {l : List Nat}, l.Nodup → pdA (l.map fun k => (cpL C k, g k)) (cpL C q) = if q ∈ l then g q else 0
  | [], _ => rfl
  | k :: l, nd => by
    obtain ⟨n1, n2⟩ := List.nodup_cons.1 nd
    simp only [List.map_cons, pdA]
    rw [pdA_map g q n2]
    by_cases e : k = q
    · subst e
      rw [if_pos rfl, if_neg n1, if_pos (List.mem_cons_self ..)]; omega
    · rw [if_neg (fun h => e (cpL_inj h))]
      by_cases hm : q ∈ l
      · rw [if_pos hm, if_pos (List.mem_cons_of_mem _ hm)]; omega
      · have hm2 : ¬ q ∈ k :: l := fun h => (List.mem_cons.1 h).elim (fun h => e h.symm) hm
        rw [if_neg hm, if_neg hm2]; rfl
theorem smS_ext {g : Nat → Int} {M : Nat} (h : ∀ i, M ≤ i → g i = 0) : ∀ {N : Nat}, M ≤ N → smS N g = smS M g := by
  intro N hN
  induction hN with
  | refl => rfl
  | step hm ih => rw [smS, ih, h _ hm]; omega
theorem smS_upd {α : Type} (F : α → Int) (h : Nat → α) (i : Nat) (y : α) : ∀ {M : Nat}, i < M → smS M (fun j => F (upd h i y j)) = smS M (fun j => F (h j)) - F (h i) + F y
  | 0, hi => by omega
  | M + 1, hi => by
    simp only [smS]
    by_cases e : M = i
    · subst e
      have : smS M (fun j => F (upd h M y j)) = smS M (fun j => F (h j)) := smS_congr fun k hk => by
        show F (if k = M then y else h k) = _
        rw [if_neg (by omega)]
      rw [this, show upd h M y M = y from if_pos rfl]; omega
    · rw [smS_upd F h i y (M := M) (by omega), show upd h i y M = h M from if_neg e]; omega
section
variable (C T n s : Nat) (b : Nat → Nat → Int)
/-- What a place gives another one: to the sink none. -/
def gvS (p q : Nat) : Int := if q < n ∧ q ≠ s then b p q else 0
def moS (p : Nat) (t : Int) : List (Addr × Int) := ((List.range 10).filter fun q => decide (0 < gvS n s b p q)).map fun q => (cpL C q, t * gvS n s b p q)
/-- What a worker adds where, that has found so many chips at p. -/
def plS (p : Nat) (v : Int) : List (Addr × Int) :=
  if v.tdiv (smS n (b p)) = 0 then [(tgL T, 0)]
  else (cpL C p, -(v.tdiv (smS n (b p)) * smS n (b p))) :: (moS C n s b p (v.tdiv (smS n (b p))) ++ [(tpL C p, v.tdiv (smS n (b p))), (tgL T, v.tdiv (smS n (b p)))])
end
section
variable {C T n s : Nat} {b : Nat → Nat → Int}
theorem cp_tp {C q r : Nat} (hq : q < 10) : cpL C q ≠ tpL C r := fun h => by unfold cpL tpL at h; injection h with _ h; omega
theorem cp_tg {C T q : Nat} : cpL C q ≠ tgL T := fun h => by unfold cpL tgL at h; injection h with _ h; omega
theorem tp_tg {C T q : Nat} : tpL C q ≠ tgL T := fun h => by unfold tpL tgL at h; injection h with _ h; omega
theorem tp_inj {C q r : Nat} (h : tpL C q = tpL C r) : q = r := by unfold tpL at h; injection h with _ h; omega
theorem mo_mem {p : Nat} {t : Int} {x : Addr × Int} (h : x ∈ moS C n s b p t) : ∃ q, q < 10 ∧ q < n ∧ q ≠ s ∧ 0 < b p q ∧ x = (cpL C q, t * b p q) := by
  unfold moS at h
  obtain ⟨q, hq, rfl⟩ := List.mem_map.1 h
  obtain ⟨h1, h2⟩ := List.mem_filter.1 hq
  have h2 := of_decide_eq_true h2
  unfold gvS at h2 ⊢
  by_cases c : q < n ∧ q ≠ s
  · rw [if_pos c] at h2 ⊢
    exact ⟨q, List.mem_range.1 h1, c.1, c.2, h2, rfl⟩
  · rw [if_neg c] at h2; omega
theorem mo_cp (G : GrS n s b) (hn : n ≤ 10) {p q : Nat} (hq : q < n) (t : Int) : pdA (moS C n s b p t) (cpL C q) = t * gvS n s b p q := by
  unfold moS
  rw [pdA_map _ _ (List.Pairwise.filter _ List.nodup_range)]
  by_cases h : 0 < gvS n s b p q
  · rw [if_pos (List.mem_filter.2 ⟨List.mem_range.2 (by omega), decide_eq_true h⟩)]
  · have hm2 : ¬ q ∈ List.filter (fun q => decide (0 < gvS n s b p q)) (List.range 10) := fun hm => h (of_decide_eq_true (p := 0 < gvS n s b p q) (List.mem_filter.1 hm).2)
    rw [if_neg hm2]
    have : gvS n s b p q = 0 := by
      have h1 : 0 ≤ gvS n s b p q := by unfold gvS; split <;> first | exact G.pos _ _ | exact Int.le_refl _
      omega
    rw [this]; simp
theorem mo_far {p : Nat} {t : Int} {x : Addr} (h : ∀ q, q < 10 → x ≠ cpL C q) : pdA (moS C n s b p t) x = 0 := pdA_none fun y hy e => by
  obtain ⟨q, h1, _, _, _, rfl⟩ := mo_mem hy
  exact h q h1 e.symm
theorem pl_cp (G : GrS n s b) (hn : n ≤ 10) {p q : Nat} (hp : p < n) (hq : q < n) (v : Int) : pdA (plS C T n s b p v) (cpL C q) = if q = p then -(v.tdiv (smS n (b p)) * smS n (b p)) else v.tdiv (smS n (b p)) * gvS n s b p q := by
  unfold plS
  split
  · rename_i e
    rw [e]
    simp only [pdA, if_neg (Ne.symm cp_tg)]
    split <;> simp
  · simp only [pdA, pdA_app, if_neg (Ne.symm (cp_tp (C := C) (r := p) (show q < 10 by omega))), if_neg (Ne.symm (cp_tg (C := C) (T := T) (q := q)))]
    rw [mo_cp G hn hq]
    by_cases e : q = p
    · subst e
      have : gvS n s b q q = 0 := by unfold gvS; split <;> first | exact G.self _ | rfl
      rw [if_pos rfl, if_pos rfl, this]; simp
    · rw [if_neg (fun h => e (cpL_inj h).symm), if_neg e]; omega
theorem pl_tp {p q : Nat} (hp : p < 10) (v : Int) : pdA (plS C T n s b p v) (tpL C q) = if q = p then v.tdiv (smS n (b p)) else 0 := by
  unfold plS
  split
  · rename_i e
    rw [e]
    simp only [pdA, if_neg (Ne.symm tp_tg)]
    split <;> rfl
  · simp only [pdA, pdA_app, if_neg (cp_tp (C := C) (r := q) hp), if_neg (Ne.symm (tp_tg (C := C) (T := T) (q := q))), mo_far (C := C) (n := n) (s := s) (b := b) (p := p) (t := v.tdiv (smS n (b p))) (x := tpL C q) (fun r hr => Ne.symm (cp_tp hr))]
    by_cases e : q = p
    · subst e; simp
    · rw [if_neg (fun h => e (tp_inj h).symm), if_neg e]; omega
theorem pl_tg {p : Nat} (v : Int) : pdA (plS C T n s b p v) (tgL T) = v.tdiv (smS n (b p)) := by
  unfold plS
  split
  · rename_i e
    rw [e]; simp [pdA]
  · simp only [pdA, pdA_app, if_neg (cp_tg (C := C) (T := T) (q := p)), if_neg (tp_tg (C := C) (T := T) (q := p)), mo_far (C := C) (n := n) (s := s) (b := b) (p := p) (t := v.tdiv (smS n (b p))) (x := tgL T) (fun r hr => Ne.symm cp_tg), if_true]
    omega
theorem pl_mem (G : GrS n s b) {p : Nat} (hp : p < n) {v : Int} (hv : 0 ≤ v) {x : Addr × Int} (h : x ∈ plS C T n s b p v) : (∃ q, q < n ∧ x.1 = cpL C q ∧ (q ≠ p → 0 ≤ x.2)) ∨ (((∃ q, q < n ∧ x.1 = tpL C q) ∨ x.1 = tgL T) ∧ 0 ≤ x.2) := by
  have d0 : 0 ≤ smS n (b p) := smS_nonneg fun j _ => G.pos p j
  have t0 : 0 ≤ v.tdiv (smS n (b p)) := Int.tdiv_nonneg hv d0
  unfold plS at h
  split at h
  · obtain rfl := List.mem_singleton.1 h
    exact Or.inr ⟨Or.inr rfl, Int.le_refl _⟩
  · rcases List.mem_cons.1 h with rfl | h
    · exact Or.inl ⟨p, hp, rfl, fun e => (e rfl).elim⟩
    · rcases List.mem_append.1 h with h | h
      · obtain ⟨q, _, hq, _, hb, rfl⟩ := mo_mem h
        exact Or.inl ⟨q, hq, rfl, fun _ => Int.mul_nonneg t0 (by omega)⟩
      · simp only [List.mem_cons, List.not_mem_nil, or_false] at h
        rcases h with rfl | rfl
        · exact Or.inr ⟨Or.inl ⟨p, hp, rfl⟩, t0⟩
        · exact Or.inr ⟨Or.inr rfl, t0⟩
theorem pl_ng (G : GrS n s b) (hn : n ≤ 10) {p q : Nat} (hp : p < n) {v : Int} (hv : 0 ≤ v) (hq : q < n) : ngA (plS C T n s b p v) (cpL C q) = if q = p then v.tdiv (smS n (b p)) * smS n (b p) else 0 := by
  have d0 : 0 ≤ smS n (b p) := smS_nonneg fun j _ => G.pos p j
  have t0 : 0 ≤ v.tdiv (smS n (b p)) := Int.tdiv_nonneg hv d0
  have m0 : 0 ≤ v.tdiv (smS n (b p)) * smS n (b p) := Int.mul_nonneg t0 d0
  by_cases e : q = p
  · subst e
    rw [if_pos rfl]
    unfold plS
    split
    · rename_i e
      rw [e]; simp [ngA, Ne.symm cp_tg]
    · simp only [ngA, if_true]
      rw [ngA_none (l := moS C n s b q (v.tdiv (smS n (b q))) ++ _) (fun y hy _ => ?_)]
      · split <;> omega
      · rcases List.mem_append.1 hy with hy | hy
        · obtain ⟨r, _, _, _, hb, rfl⟩ := mo_mem hy
          exact Int.mul_nonneg t0 (by omega)
        · simp only [List.mem_cons, List.not_mem_nil, or_false] at hy
          rcases hy with rfl | rfl <;> exact t0
  · rw [if_neg e]
    refine ngA_none fun y hy hx => ?_
    rcases pl_mem G hp hv hy with ⟨r, _, h1, h2⟩ | ⟨_, h⟩
    · exact h2 (fun er => e (by rw [hx] at h1; exact (cpL_inj h1).trans er))
    · exact h
theorem pl_len (p : Nat) (v : Int) : (plS C T n s b p v).length ≤ 14 := by
  unfold plS
  split
  · simp
  · have : (moS C n s b p (v.tdiv (smS n (b p)))).length ≤ 10 := by
      unfold moS
      rw [List.length_map]
      exact Nat.le_trans (List.length_filter_le _ _) (by simp)
    simp; omega
end
end Go.Proofs.YtpajdmhgonmgoaaDoor

namespace Go.Proofs.YtpajdmhgonmgoaaDoor
open Go.RowKit
set_option linter.unusedVariables false
open Go.Conc Go.ConcN
set_option linter.unusedSimpArgs false
abbrev Hd := Option Nat × List (Addr × Int)
def pnA (M : Nat) (h : Nat → Hd) (x : Addr) : Int := smS M fun i => pdA (h i).2 x
def nnA (M : Nat) (h : Nat → Hd) (x : Addr) : Int := smS M fun i => ngA (h i).2 x
/-- It is not looked at yet. -/
def UnlK (bf t : List Nat) (h : Nat → Hd) (p : Nat) : Prop := p ∈ bf ++ t ∨ ∃ i, (h i).1 = some p
structure GIb (C T n s : Nat) (b : Nat → Nat → Int) (c0 u0 : Nat → Int) (items : List Nat) (K : Int) (u : Nat → Int) (M : Nat) (f : Addr → Int) (bf t : List Nat) (h : Nat → Hd) : Prop where
  hM : ∀ i, M ≤ i → h i = (none, [])
  pl : PlS n s b c0 u
  ge : ∀ q, q < n → u0 q ≤ u q
  cp : ∀ q, q < n → f (cpL C q) + pnA M h (cpL C q) = chS n s b c0 u q
  tp : ∀ q, q < n → f (tpL C q) + pnA M h (tpL C q) = u q
  tg : f (tgL T) + pnA M h (tgL T) = smS n u - smS n u0
  ng : ∀ q, q < n → nnA M h (cpL C q) ≤ f (cpL C q)
  nb : ∀ q, q < n → nnA M h (cpL C q) ≤ K
  mem : ∀ i x, x ∈ (h i).2 → (∃ q, q < n ∧ x.1 = cpL C q) ∨ (((∃ q, q < n ∧ x.1 = tpL C q) ∨ x.1 = tgL T) ∧ 0 ≤ x.2)
  f1 : ∀ q, q < n → 0 ≤ f (tpL C q)
  f2 : 0 ≤ f (tgL T)
  ul : ∀ p, UnlK bf t h p → ∀ i x, x ∈ (h i).2 → x.1 = cpL C p → 0 ≤ x.2
  nd : (bf ++ t).Nodup
  it : ∀ p, UnlK bf t h p → p ∈ items
  hu : ∀ i p, (h i).1 = some p → p ∉ bf ++ t ∧ ∀ j, (h j).1 = some p → j = i
  st : (∀ q, q < n → u q = u0 q) → (∀ i x, x ∈ (h i).2 → x.2 = 0) ∧ ∀ p ∈ items, ¬ UnlK bf t h p → chS n s b c0 u p < smS n (b p)
def GIs (C T n s : Nat) (b : Nat → Nat → Int) (c0 u0 : Nat → Int) (items : List Nat) (K : Int) (f : Addr → Int) (bf t : List Nat) (h : Nat → Hd) : Prop := ∃ u M, GIb C T n s b c0 u0 items K u M f bf t h
theorem pn_upd {M : Nat} (h : Nat → Hd) {i : Nat} (y : Hd) (hi : i < M) (x : Addr) : pnA M (upd h i y) x = pnA M h x - pdA (h i).2 x + pdA y.2 x := smS_upd (fun z : Hd => pdA z.2 x) h i y hi
theorem nn_upd {M : Nat} (h : Nat → Hd) {i : Nat} (y : Hd) (hi : i < M) (x : Addr) : nnA M (upd h i y) x = nnA M h x - ngA (h i).2 x + ngA y.2 x := smS_upd (fun z : Hd => ngA z.2 x) h i y hi
theorem pn_ext {M N : Nat} {h : Nat → Hd} (hM : ∀ i, M ≤ i → h i = (none, [])) (hN : M ≤ N) (x : Addr) : pnA N h x = pnA M h x := smS_ext (fun i hi => by rw [hM i hi]; rfl) hN
theorem nn_ext {M N : Nat} {h : Nat → Hd} (hM : ∀ i, M ≤ i → h i = (none, [])) (hN : M ≤ N) (x : Addr) : nnA N h x = nnA M h x := smS_ext (fun i hi => by rw [hM i hi]; rfl) hN
section
variable {C T n s : Nat} {b : Nat → Nat → Int} {c0 u0 : Nat → Int} {items : List Nat} {K : Int} {u : Nat → Int} {M : Nat} {f : Addr → Int} {bf t : List Nat} {h : Nat → Hd}
theorem GIb.wide (g : GIb C T n s b c0 u0 items K u M f bf t h) {N : Nat} (hN : M ≤ N) : GIb C T n s b c0 u0 items K u N f bf t h := by
  refine ⟨fun i hi => g.hM i (by omega), g.pl, g.ge, fun q hq => ?_, fun q hq => ?_, ?_, fun q hq => ?_, fun q hq => ?_, g.mem, g.f1, g.f2, g.ul, g.nd, g.it, g.hu, g.st⟩
  · rw [pn_ext g.hM hN]; exact g.cp q hq
  · rw [pn_ext g.hM hN]; exact g.tp q hq
  · rw [pn_ext g.hM hN]; exact g.tg
  · rw [nn_ext g.hM hN]; exact g.ng q hq
  · rw [nn_ext g.hM hN]; exact g.nb q hq
theorem GIs.at (g : GIs C T n s b c0 u0 items K f bf t h) (i : Nat) : ∃ u M, i < M ∧ GIb C T n s b c0 u0 items K u M f bf t h := by
  obtain ⟨u, M, g⟩ := g
  exact ⟨u, max M (i + 1), by omega, g.wide (by omega)⟩
/-- Who holds what is another matter than what is to be added. -/
theorem GIb.move {bf' t' : List Nat} {h' : Nat → Hd} (g : GIb C T n s b c0 u0 items K u M f bf t h) (e2 : ∀ i, (h' i).2 = (h i).2) (hM : ∀ i, M ≤ i → h' i = (none, [])) (hun : ∀ p, UnlK bf' t' h' p ↔ UnlK bf t h p) (nd : (bf' ++ t').Nodup)
    (hu : ∀ i p, (h' i).1 = some p → p ∉ bf' ++ t' ∧ ∀ j, (h' j).1 = some p → j = i) : GIb C T n s b c0 u0 items K u M f bf' t' h' := by
  have ep : ∀ x, pnA M h' x = pnA M h x := fun x => smS_congr fun i _ => by rw [e2]
  have en : ∀ x, nnA M h' x = nnA M h x := fun x => smS_congr fun i _ => by rw [e2]
  refine ⟨hM, g.pl, g.ge, fun q hq => ?_, fun q hq => ?_, ?_, fun q hq => ?_, fun q hq => ?_, fun i x hx => g.mem i x (by rw [← e2]; exact hx), g.f1, g.f2, fun p hp i x hx => g.ul p ((hun p).1 hp) i x (by rw [← e2]; exact hx), nd, fun p hp => g.it p ((hun p).1 hp), hu, fun hq => ?_⟩
  · rw [ep]; exact g.cp q hq
  · rw [ep]; exact g.tp q hq
  · rw [ep]; exact g.tg
  · rw [en]; exact g.ng q hq
  · rw [en]; exact g.nb q hq
  · obtain ⟨h1, h2⟩ := g.st hq
    exact ⟨fun i x hx => h1 i x (by rw [← e2]; exact hx), fun p hp hn => h2 p hp fun h => hn ((hun p).2 h)⟩
theorem upd_at {α : Type} (h : Nat → α) (i : Nat) (y : α) (j : Nat) : upd h i y j = if j = i then y else h j := rfl
theorem gi_get {p : Nat} (g : GIs C T n s b c0 u0 items K f bf t h) {i : Nat} (hi : h i = (none, [])) {l1 l2 : List Nat} (hl : ∀ q, q ∈ bf ++ t ↔ q = p ∨ q ∈ l1 ++ l2) (hp : p ∉ l1 ++ l2) (nd : (l1 ++ l2).Nodup) : GIs C T n s b c0 u0 items K f l1 l2 (upd h i (some p, [])) := by
  obtain ⟨u, M, him, g⟩ := g.at i
  refine ⟨u, M, g.move (fun j => ?_) (fun j hj => ?_) (fun q => ?_) nd (fun j q hq => ?_)⟩
  · rw [upd_at]; split
    · rename_i e; rw [e, hi]
    · rfl
  · rw [upd_at, if_neg (by omega)]; exact g.hM j hj
  · constructor
    · rintro (h1 | ⟨j, h1⟩)
      · exact Or.inl ((hl q).2 (Or.inr h1))
      · rw [upd_at] at h1
        split at h1
        · injection h1 with h1; exact Or.inl ((hl q).2 (Or.inl h1.symm))
        · exact Or.inr ⟨j, h1⟩
    · rintro (h1 | ⟨j, h1⟩)
      · rcases (hl q).1 h1 with rfl | h1
        · exact Or.inr ⟨i, by rw [upd_at, if_pos rfl]⟩
        · exact Or.inl h1
      · refine Or.inr ⟨j, ?_⟩
        rw [upd_at, if_neg (fun e => by rw [e, hi] at h1; cases h1)]
        exact h1
  · rw [upd_at] at hq
    split at hq
    · rename_i e
      injection hq with hq
      subst hq
      refine ⟨hp, fun k hk => ?_⟩
      rw [upd_at] at hk
      split at hk
      · rename_i e2; rw [e, e2]
      · exact ((g.hu k p hk).1 ((hl p).2 (Or.inl rfl))).elim
    · obtain ⟨h1, h2⟩ := g.hu j q hq
      refine ⟨fun hm => h1 ((hl q).2 (Or.inr hm)), fun k hk => ?_⟩
      rw [upd_at] at hk
      split at hk
      · injection hk with hk
        exact (h1 ((hl q).2 (Or.inl hk.symm))).elim
      · exact h2 k hk
theorem gi_take {p : Nat} (i : Nat) (g : GIs C T n s b c0 u0 items K f (p :: bf) t h) (hi : h i = (none, [])) : GIs C T n s b c0 u0 items K f bf t (upd h i (some p, [])) := by
  have nd : (p :: (bf ++ t)).Nodup := by obtain ⟨u, M, g⟩ := g; exact g.nd
  obtain ⟨n1, n2⟩ := List.nodup_cons.1 nd
  exact gi_get g hi (fun q => by simp) n1 n2
theorem gi_give {p : Nat} (i : Nat) (g : GIs C T n s b c0 u0 items K f [] (p :: t) h) (hi : h i = (none, [])) : GIs C T n s b c0 u0 items K f [] t (upd h i (some p, [])) := by
  have nd : (p :: t).Nodup := by obtain ⟨u, M, g⟩ := g; exact g.nd
  obtain ⟨n1, n2⟩ := List.nodup_cons.1 nd
  exact gi_get g hi (fun q => by simp) n1 n2
theorem gi_send {p : Nat} (g : GIs C T n s b c0 u0 items K f bf (p :: t) h) : GIs C T n s b c0 u0 items K f (bf ++ [p]) t h := by
  obtain ⟨u, M, g⟩ := g
  have e : bf ++ [p] ++ t = bf ++ p :: t := by simp
  exact ⟨u, M, g.move (fun _ => rfl) g.hM (fun q => by unfold UnlK; rw [e]) (by rw [e]; exact g.nd) (fun j q hq => by rw [e]; exact g.hu j q hq)⟩
end
end Go.Proofs.YtpajdmhgonmgoaaDoor

