/-
  What the last text of this claim leans on, part 9: Kb3, Kb4, Ke1.
-/
import Derived.Test.YtpajdmhgonmgoaaDoorYs8
import Derived.Test.YtpajdmhgonmgoaaDoorProg
import Derived.Test.YtpajdmhgonmgoaaDoorYs5
import Derived.Conc.DeferLaws
namespace Go.Proofs.YtpajdmhgonmgoaaDoor
open Go.RowKit
set_option linter.unusedVariables false
open Go.Conc Go.RowKit
set_option linter.unusedSimpArgs false
structure JX {σ : Type} (n : Nat) (dl : List (Option Nat)) (deps : List (Nat × Nat)) (x0 : Nat) (s0 : σ) (Ok : σ → Prop) (V : Nat → σ → Value) (a0 : Act) (l : Array Bool) (a : Act) (s : σ) : Prop where
  lsz : l.size = n
  sz : a.tmps.size = a0.tmps.size
  df : a.defers = a0.defers
  keep : ∀ t, some t ∉ dl → a.tmps[t]? = a0.tmps[t]?
  cl : ∀ i j, (i, j) ∈ deps → l.getD i false = true → l.getD j false = true
  ph : (l.getD x0 false = false ∧ s = s0) ∨ (l.getD x0 false = true ∧ Ok s)
  vs : ∀ i t : Nat, l.getD i false = true → dl[i]? = some (some t) → a.tmps[t]? = some (V i s)
set_option maxHeartbeats 1600000 in
/-- A REGION THAT DRAWS ITS ORDER and in which one operation passes a stop: whatever order. -/
theorem gw_draw {σ : Type} {P : Program} {main : Bool} {F : World → Prop} {E : Event → Prop} (S : σ → Goroutine → World → Prop) {b : Frame} {a0 : Act} {k : List Item} {cs : List Frame} {id : Nat} (hm : P.follows .mixedOrders = true) (ops : Array Oper) (n : Nat) (dl : List (Option Nat)) (deps : List (Nat × Nat)) (x0 : Nat) (s0 : σ) (Ok : σ → Prop) (V : Nat → σ → Value) (c : Nat)
    (hn : ops.size = n) (hl : dl.length = n) (nd : ∀ (i j t : Nat), dl[i]? = some (some t) → dl[j]? = some (some t) → j = i) (hz : ∀ t, some t ∈ dl → t < a0.tmps.size)
    (hd : ops.toList.map (·.dst) = dl)
    (E1 : ((List.range n).all fun k => ((ops[k]?).map fun o => o.after.all fun e => !Region.binds .any e || decide (e.on < k)).getD false) = true)
    (E2 : (deps.all fun (x : Nat × Nat) => ((ops[x.1]?).map fun o => o.after.any fun e => Region.binds .any e && e.on == x.2).getD false) = true)
    (hx : x0 < n)
    (hlate : ∀ L : Nat → Bool, (∀ p q, (p, q) ∈ deps → L p = true → L q = true) → L x0 = false → ∀ i s, i < n → L i = true → V i s = V i s0)
    (hstep : ∀ i o, i < n → i ≠ x0 → ops[i]? = some o → ∀ s (a : Act), (s = s0 ∨ Ok s) → (∀ t, some t ∉ dl → a.tmps[t]? = a0.tmps[t]?) → (∀ j t : Nat, (i, j) ∈ deps → dl[j]? = some (some t) → a.tmps[t]? = some (V j s)) → ∀ rest M, Gw P main F E (S s) M (G (b.at (a.put o.dst (V i s)) (.inRegion ops rest :: k)) cs) → Gw P main F E (S s) (M + c) (G (b.at a (.inRegion ops (i :: rest) :: k)) cs))
    (hcross : ∀ o, ops[x0]? = some o → ∀ a : Act, (∀ t, some t ∉ dl → a.tmps[t]? = a0.tmps[t]?) → (∀ j t : Nat, (x0, j) ∈ deps → dl[j]? = some (some t) → a.tmps[t]? = some (V j s0)) → ∀ rest, (∀ s, Ok s → ∃ M, Gw P main F E (S s) M (G (b.at (a.put o.dst (V x0 s)) (.inRegion ops rest :: k)) cs)) → Gw P main F E (S s0) c (G (b.at a (.inRegion ops (x0 :: rest) :: k)) cs))
    (hend : ∀ s, Ok s → ∃ m, Gw P main F E (S s) m (G (b.at (putsO a0 ((List.range n).map fun i => (dl.getD i none, V i s))) k) cs)) :
    ∃ N, Gw P main F E (S s0) N (G (b.at a0 (.code (.region id ops true) :: k)) cs) := by
  have ds : ∀ (i : Nat) (o : Oper), ops[i]? = some o → dl[i]? = some o.dst := fun i o h => by
    rw [← hd]
    simp only [List.getElem?_map, Array.getElem?_toList, h, Option.map_some]
  obtain ⟨m, hme⟩ : ∃ m : σ → Nat, ∀ s, Ok s → Gw P main F E (S s) (m s) (G (b.at (putsO a0 ((List.range n).map fun i => (dl.getD i none, V i s))) k) cs) := by
    have h1 : ∀ s, ∃ m, Ok s → Gw P main F E (S s) m (G (b.at (putsO a0 ((List.range n).map fun i => (dl.getD i none, V i s))) k) cs) := fun s => by
      by_cases h : Ok s
      · obtain ⟨m, hm⟩ := hend s h
        exact ⟨m, fun _ => hm⟩
      · exact ⟨0, fun h2 => (h h2).elim⟩
    exact ⟨fun s => (h1 s).choose, fun s => (h1 s).choose_spec⟩
  have ends : ∀ (l : Array Bool) (a : Act) (s : σ) (M : Nat), JX n dl deps x0 s0 Ok V a0 l a s → (∀ k, k < n → l.getD k false = true) → m s + 1 ≤ M → Gw P main F E (S s) M (G (b.at a (.inRegion ops [] :: k)) cs) := by
    intro l a s M J hall hM
    have ok : Ok s := by
      rcases J.ph with ⟨h, _⟩ | ⟨_, h⟩
      · rw [hall x0 hx] at h; cases h
      · exact h
    have e := act_putsO (a := a) (a0 := a0) (dl := dl) (vals := fun i => V i s) J.sz J.df hz nd J.keep (fun i t hi => J.vs i t (hall i (by have := (List.getElem?_eq_some_iff.1 hi).1; omega)) hi)
    rw [hl] at e
    refine Gw.mono (gw_done ?_) hM
    rw [e]
    exact hme s ok
  have main1 : ∀ (fuel : Nat) (l : Array Bool) (a : Act) (s : σ), l.toList.count false ≤ fuel → JX n dl deps x0 s0 Ok V a0 l a s → ∀ t, Gw P main F E (S s) (m s + 1 + c * fuel) (G (b.at a (.inRegion ops (Region.linearise.go .any ops fuel t l []) :: k)) cs) := by
    intro fuel
    induction fuel with
    | zero =>
      intro l a s hc J t
      have hall : ∀ k, k < n → l.getD k false = true := fun k hk => by
        have kl : k < l.size := by rw [J.lsz]; exact hk
        cases hv : l[k] with
        | true => simp [Array.getD_eq_getD_getElem?, kl, hv]
        | false =>
          have : 0 < l.toList.count false := List.count_pos_iff.2 (Array.mem_toList_iff.2 (by rw [← hv]; exact Array.getElem_mem kl))
          omega
      exact ends l a s _ J hall (by omega)
    | succ fuel ih =>
      intro l a s hc J t
      simp only [Region.linearise.go]
      change Gw P main F E (S s) (m s + 1 + c * (fuel + 1)) (G (b.at a (.inRegion ops (match (Region.ready .any ops l)[t % (Region.ready .any ops l).length]? with
        | some i => Region.linearise.go .any ops fuel (t / (Region.ready .any ops l).length) (l.setIfInBounds i true) [i]
        | none => [].reverse) :: k)) cs)
      cases hi : (Region.ready .any ops l)[t % (Region.ready .any ops l).length]? with
      | none =>
        have hnil : Region.ready .any ops l = [] := by
          cases hr : Region.ready .any ops l with
          | nil => rfl
          | cons x xs =>
            rw [hr] at hi
            have hlt : t % (x :: xs).length < (x :: xs).length := Nat.mod_lt _ (by simp)
            rw [List.getElem?_eq_getElem hlt] at hi
            cases hi
        have hall : ∀ k, k < n → l.getD k false = true := fun k hk => by
          have h1 := ready_noneE hnil (by rw [J.lsz, hn]) (fun k hk => (List.all_eq_true.1 E1) k (List.mem_range.2 (by omega))) k (by omega)
          have kl : k < l.size := by rw [J.lsz]; exact hk
          simpa [Array.getD_eq_getD_getElem?, kl] using h1
        exact ends l a s _ J hall (by omega)
      | some i =>
        have hr := List.mem_of_getElem? hi
        simp only []
        rw [linearise_go_acc, List.reverse_singleton, List.singleton_append]
        obtain ⟨hlt, o, ho, _⟩ := mem_ready.1 hr
        have hin : i < n := by
          rcases Nat.lt_or_ge i n with h | h
          · exact h
          · rw [Array.getElem?_eq_none (by omega)] at ho; cases ho
        have il : i < l.size := by rw [J.lsz]; exact hin
        have lf : l.getD i false = false := by
          have h2 : l[i]? = some l[i] := by simp [il]
          simp only [Array.getD_eq_getD_getElem?, h2, Option.getD_some] at hlt ⊢
          exact hlt
        have cl := clV_step il hr J.cl E2
        have need : ∀ j, (i, j) ∈ deps → l.getD j false = true := fun j mm => ready_needs hr ((List.all_eq_true.1 E2) (i, j) mm)
        have ls' : (l.setIfInBounds i true).size = n := by simp [J.lsz]
        have gs := fun j => getD_set l i j il
        have di := ds i o ho
        have dm : o.dst ∈ dl := List.mem_of_getElem? di
        have cnt : (l.setIfInBounds i true).toList.count false ≤ fuel := by
          have : (l.setIfInBounds i true).toList.count false + 1 = l.toList.count false := by
            rw [Array.toList_setIfInBounds]
            apply count_set_lt
            cases hq : l[i]? with
            | none => rw [Array.getElem?_eq_getElem il] at hq; cases hq
            | some bb =>
              simp [Array.getD_eq_getD_getElem?, hq] at lf
              subst lf
              simpa using hq
          omega
        have keepN : ∀ (v : Value) t, some t ∉ dl → (a.put o.dst v).tmps[t]? = a0.tmps[t]? := fun v t ht => by
          rw [put_farO _ _ _ _ (fun e => ht (by rw [← e]; exact dm))]; exact J.keep t ht
        have depsV : ∀ j t : Nat, (i, j) ∈ deps → dl[j]? = some (some t) → a.tmps[t]? = some (V j s) := fun j t hj ht => J.vs j t (need j hj) ht
        have vsN : ∀ s', (∀ j, j < n → l.getD j false = true → V j s' = V j s) → ∀ j t : Nat, (l.setIfInBounds i true).getD j false = true → dl[j]? = some (some t) → (a.put o.dst (V i s')).tmps[t]? = some (V j s') := fun s' hs j t hl' hj => by
          by_cases e : j = i
          · subst e
            rw [di] at hj
            injection hj with hj
            rw [hj, put_getE _ _ _ _ (by rw [J.sz]; exact hz t (by rw [← hj]; exact dm))]
            simp
          · rw [put_farO _ _ _ _ (fun q => e (nd i j t (by rw [di, q]) hj))]
            rw [gs, if_neg e] at hl'
            rw [J.vs j t hl' hj, hs j (by have := (List.getElem?_eq_some_iff.1 hj).1; omega) hl']
        by_cases hix : i = x0
        · subst hix
          have hs0 : s = s0 := by
            rcases J.ph with ⟨_, h⟩ | ⟨h, _⟩
            · exact h
            · rw [lf] at h; cases h
          subst hs0
          refine Gw.mono (hcross o ho a J.keep depsV _ fun s' ok' => ?_) (by rw [Nat.mul_succ]; omega)
          refine ⟨_, ih _ _ s' cnt ⟨ls', by rw [put_sizeE]; exact J.sz, by rw [put_defersE]; exact J.df, keepN _, cl, Or.inr ⟨by rw [gs, if_pos rfl], ok'⟩, vsN s' fun j hj hlj => ?_⟩ _⟩
          exact hlate (fun j => l.getD j false) J.cl lf j s' hj hlj
        · have hs : s = s0 ∨ Ok s := by
            rcases J.ph with ⟨_, h⟩ | ⟨_, h⟩
            · exact Or.inl h
            · exact Or.inr h
          have := hstep i o hin hix ho s a hs J.keep depsV _ (m s + 1 + c * fuel) (ih _ _ s cnt ⟨ls', by rw [put_sizeE]; exact J.sz, by rw [put_defersE]; exact J.df, keepN _, cl, by rw [gs, if_neg (Ne.symm hix)]; exact J.ph, vsN s fun j hj hlj => rfl⟩ (t / (Region.ready .any ops l).length))
          exact Gw.mono this (by rw [Nat.mul_succ]; omega)
  have f : ∀ i, (Array.replicate ops.size false).getD i false = false := fun i => by simp [Array.getD_eq_getD_getElem?, Array.getElem?_replicate]; split <;> rfl
  refine ⟨m s0 + 1 + c * ops.size + 1, fun w => Goes.step rfl fun w₁ h₁ => ?_⟩
  rw [stepG_region_draw]
  refine ⟨⟨⟨w₁.drawn + 1, rfl⟩, fun e he => by simp at he⟩, ?_⟩
  simp only [Region.schedule, hm, Bool.true_or, if_true]
  exact main1 ops.size _ a0 s0 (by simp [List.count_replicate]) ⟨by simp [hn], rfl, rfl, fun _ _ => rfl, fun i j _ h => (by rw [f] at h; cases h), Or.inl ⟨f x0, rfl⟩, fun i _ h => (by rw [f] at h; cases h)⟩ _ _
end Go.Proofs.YtpajdmhgonmgoaaDoor

namespace Go.Proofs.YtpajdmhgonmgoaaDoor
open Go.RowKit
set_option linter.unusedVariables false
open Go.Conc Go.ConcN Go.RowKit
open Go.ConcR (KK wgBlock WgAt stA smA rd wr Payload DC0)
set_option linter.unusedSimpArgs false
def cL : Code → Code
  | .seq a _ => a
  | .block _ c => c
  | .loop c => c
  | .cond _ a _ => a
  | c => c
def cR : Code → Code
  | .seq _ b => b
  | .cond _ _ b => b
  | c => c
def cO : Code → Array Oper
  | .region _ ops _ => ops
  | _ => #[]
def bodyOf (f : Func) : Code := f.body.getD .skip
/-- The ground of a crowd, cell by cell. -/
def gdF (n s : Nat) (b : Nat → Nat → Int) (j : Nat) : Int :=
  if j = 0 then (n : Int) else if j = 1 then (s : Int) else if j < 12 then smS n (b (j - 2)) else gvS n s b ((j - 12) / 10) ((j - 12) % 10)
def knS (C N n s : Nat) (b : Nat → Nat → Int) (a : Addr) (v : Value) : Prop :=
  (∃ j, j < 112 ∧ a = ⟨C, j, none⟩ ∧ v = .int .i64 (gdF n s b j)) ∨ (a = ⟨N, 0, none⟩ ∧ v = .pointer (some ⟨C, 0, none⟩)) ∨ (a = ⟨N + 2, 0, none⟩ ∧ v = .chan (some (N + 1)))
def atS (C N : Nat) (a : Addr) : Prop := (∃ q, q < 10 ∧ a = cpL C q) ∨ (∃ q, q < 10 ∧ a = tpL C q) ∨ a = tgL (N + 3)
def rdS (C N : Nat) (a : Addr) : Prop := (∃ j, j < 112 ∧ a = ⟨C, j, none⟩) ∨ a = ⟨N, 0, none⟩ ∨ a = ⟨N + 2, 0, none⟩
def itS (n s : Nat) : List Nat := (List.range n).filter fun p => decide (p ≠ s)
/-- Where a worker of a round stands, about to receive. -/
def loopS (N : Nat) (g : Goroutine) : Prop :=
  ∃ x4 x6 x7 x8 x9 x10 x11 x12 : Value, g = G ((baseD 37).at ⟨#[.pointer (some ⟨N + 4, 0, none⟩), .pointer (some ⟨N + 2, 0, none⟩), .pointer (some ⟨N + 3, 0, none⟩), .pointer (some ⟨N, 0, none⟩), x4, .chan (some (N + 1)), x6, x7, x8, x9, x10, x11, x12], [dcall 38 #[.pointer (some ⟨N + 4, 0, none⟩)]]⟩
      [.inRegion (cO (cL (cL (cL (cR (cR (bodyOf Tryd.f37))))))) [0, 1], .code (cR (cL (cL (cR (cR (bodyOf Tryd.f37)))))), .inLoop (cL (cL (cR (cR (bodyOf Tryd.f37))))), .inBlock 0]) [{ (default : Frame) with fn := Tryd.prog.funcs.size, defers := [], mode := .panicking [goexitEntry] }]
/-- What a round of a crowd is, at the site. -/
structure SiteS (t : Site) (C N n s : Nat) (b : Nat → Nat → Int) (c0 u0 : Nat → Int) (K : Int) (nw L : Nat) (Shun : Loc → Prop) : Prop where
  eP : t.P = Tryd.prog
  ety : t.ty = 93
  eWg : t.Wg = N + 4
  ech : t.ch = N + 1
  ecB : t.cB = C
  ecs : t.csz = 132
  eca : t.cap = 10
  ez : t.z = .int .i64 0
  en : t.n = nw
  eL : t.L = L
  eci : t.ci = 0
  ecv : t.cv = vI n
  ekn : t.KnownC = knS C N n s b
  eat : t.IsAt = atS C N
  erd : t.RdC = rdS C N
  esh : t.Sh = fun l => Shun l ∨ (∃ a, l = .cell a ∧ (atS C N a ∨ a.block = N + 4)) ∨ l = .obj (N + 1)
  ecp : t.cpA = cpL C
  epl : t.plan = plS C (N + 3) n s b
  egv : t.GoodV = fun p v => p < n ∧ p ≠ s ∧ 0 ≤ v ∧ v ≤ 100000
  elo : t.Loop = loopS N
  eit : t.items = itS n s
  eGI : t.GI = GIs C (N + 3) n s b c0 u0 (itS n s) K
  eB : t.B = N + 5
  eke : ∀ w d, t.Keep w → t.Keep (w.at d)
section
variable [Payload] {C N n s : Nat} {b : Nat → Nat → Int} {c0 u0 : Nat → Int} {K : Int} {nw L : Nat} {Shun : Loc → Prop} {t : Site} {w : World}
theorem fix_box (e : SiteS t C N n s b c0 u0 K nw L Shun) (h : t.Fix w) : w.cell? ⟨N, 0, none⟩ = some (.pointer (some ⟨C, 0, none⟩)) := h.known _ _ (by rw [e.ekn]; exact Or.inr (Or.inl ⟨rfl, rfl⟩))
theorem fix_var (e : SiteS t C N n s b c0 u0 K nw L Shun) (h : t.Fix w) : w.cell? ⟨N + 2, 0, none⟩ = some (.chan (some (N + 1))) := h.known _ _ (by rw [e.ekn]; exact Or.inr (Or.inr ⟨rfl, rfl⟩))
theorem fix_gd (e : SiteS t C N n s b c0 u0 K nw L Shun) (h : t.Fix w) {j : Nat} (hj : j < 112) : w.cell? ⟨C, j, none⟩ = some (.int .i64 (gdF n s b j)) := h.known _ _ (by rw [e.ekn]; exact Or.inl ⟨j, hj, rfl, rfl⟩)
end
/-- A worker's quiet step lists plain reads of what stands fast. -/
def EvR (C N : Nat) (e : Event) : Prop := ∃ a, e = ⟨.cell a, false, false⟩ ∧ rdS C N a
end Go.Proofs.YtpajdmhgonmgoaaDoor

namespace Go.Proofs.YtpajdmhgonmgoaaDoor
open Go.RowKit
set_option linter.unusedVariables false
set_option linter.unusedSimpArgs false
/-- A ground behind some edges. -/
def gdP (n s : Nat) (es : List EdS) (j : Nat) : Int :=
  if j = 0 then (n : Int) else if j = 1 then (s : Int) else if j < 12 then dgL es (j - 2) else if (j - 12) % 10 = s then 0 else btL es ((j - 12) / 10) ((j - 12) % 10)
/-- One end of an edge laid. -/
def jnF (s : Nat) (F : Nat → Int) (a b : Nat) (t : Int) : Nat → Int :=
  let F1 := upI F (2 + a) (F (2 + a) + t)
  if b = s then F1 else upI F1 (12 + a * 10 + b) (F (12 + a * 10 + b) + t)
theorem bt_app (es : List EdS) (e : EdS) (k j : Nat) : btL (es ++ [e]) k j = btL es k j + btE e k j := by simp [btL]
theorem dg_app (es : List EdS) (e : EdS) (k : Nat) : dgL (es ++ [e]) k = dgL es k + dgE e k := by simp [dgL]
theorem jn_at {s a b : Nat} {t : Int} (F : Nat → Int) (ha : a < 10) (j : Nat) : jnF s F a b t j = F j + (if j = 2 + a then t else 0) + (if b ≠ s ∧ j = 12 + a * 10 + b then t else 0) := by
  unfold jnF upI
  by_cases hb : b = s
  · simp only [if_pos hb]
    rw [if_neg (c := b ≠ s ∧ _) (by omega)]
    by_cases h : j = 2 + a
    · subst h; rw [if_pos rfl, if_pos rfl]; omega
    · rw [if_neg h, if_neg h]; omega
  · simp only [if_neg hb]
    by_cases h : j = 12 + a * 10 + b
    · subst h
      rw [if_pos rfl, if_neg (by omega), if_pos ⟨hb, rfl⟩]; omega
    · rw [if_neg h, if_neg (c := b ≠ s ∧ _) (by omega)]
      by_cases h2 : j = 2 + a
      · subst h2; rw [if_pos rfl, if_pos rfl]; omega
      · rw [if_neg h2, if_neg h2]; omega
/-- Both ends laid. -/
theorem jn_both {n s a b : Nat} {t : Int} (es : List EdS) (ha : a < 10) (hb : b < 10) (hab : a ≠ b) {j : Nat} (hj : j < 112) : jnF s (jnF s (gdP n s es) a b t) b a t j = gdP n s (es ++ [⟨a, b, t⟩]) j := by
  have key : jnF s (jnF s (gdP n s es) a b t) b a t j = gdP n s es j + (if j = 2 + a then t else 0) + (if j = 2 + b then t else 0) + (if b ≠ s ∧ j = 12 + a * 10 + b then t else 0) + (if a ≠ s ∧ j = 12 + b * 10 + a then t else 0) := by
    rw [jn_at _ hb, jn_at _ ha]; omega
  rw [key]
  unfold gdP
  by_cases j0 : j = 0
  · subst j0
    rw [if_pos rfl, if_pos rfl, if_neg (by omega), if_neg (by omega), if_neg (by omega), if_neg (by omega)]; omega
  · by_cases j1 : j = 1
    · subst j1
      rw [if_neg (by omega), if_pos rfl, if_neg (by omega), if_pos rfl, if_neg (by omega), if_neg (by omega), if_neg (by omega), if_neg (by omega)]; omega
    · rw [if_neg j0, if_neg j1, if_neg j0, if_neg j1]
      by_cases j2 : j < 12
      · rw [if_pos j2, if_pos j2, dg_app, if_neg (c := b ≠ s ∧ _) (by omega), if_neg (c := a ≠ s ∧ _) (by omega)]
        unfold dgE
        by_cases q1 : j = 2 + a
        · rw [if_pos q1, if_neg (by omega), if_pos (by show a = j - 2 ∨ b = j - 2; omega)]; show _ = _ + t; omega
        · by_cases q2 : j = 2 + b
          · rw [if_neg q1, if_pos q2, if_pos (by show a = j - 2 ∨ b = j - 2; omega)]; show _ = _ + t; omega
          · rw [if_neg q1, if_neg q2, if_neg (by show ¬ (a = j - 2 ∨ b = j - 2); omega)]; omega
      · rw [if_neg j2, if_neg j2, if_neg (c := j = 2 + a) (by omega), if_neg (c := j = 2 + b) (by omega)]
        obtain ⟨p, q, hp, hq, rfl⟩ : ∃ p q, p < 10 ∧ q < 10 ∧ j = 12 + p * 10 + q := ⟨(j - 12) / 10, (j - 12) % 10, by omega, by omega, by omega⟩
        have e1 : (12 + p * 10 + q - 12) / 10 = p := by omega
        have e2 : (12 + p * 10 + q - 12) % 10 = q := by omega
        rw [e1, e2]
        by_cases qs : q = s
        · rw [if_pos qs, if_pos qs, if_neg (by omega), if_neg (by omega)]; omega
        · rw [if_neg qs, if_neg qs, bt_app]
          unfold btE
          by_cases c1 : p = a ∧ q = b
          · rw [if_pos (by omega), if_neg (by omega), if_pos (by show (a = p ∧ b = q) ∨ (a = q ∧ b = p); omega)]; show _ = _ + t; omega
          · by_cases c2 : p = b ∧ q = a
            · rw [if_neg (by omega), if_pos (by omega), if_pos (by show (a = p ∧ b = q) ∨ (a = q ∧ b = p); omega)]; show _ = _ + t; omega
            · rw [if_neg (by omega), if_neg (by omega), if_neg (by show ¬ ((a = p ∧ b = q) ∨ (a = q ∧ b = p)); omega)]; omega
theorem gdP_nil (n s : Nat) (j : Nat) : gdP n s [] j = if j = 0 then (n : Int) else if j = 1 then (s : Int) else 0 := by
  unfold gdP
  repeat' split
  all_goals rfl
theorem bt_far {n : Nat} : ∀ {es : List EdS}, (∀ e ∈ es, okE n e) → ∀ {p q : Nat}, n ≤ p ∨ n ≤ q → btL es p q = 0
  | [], _, _, _, _ => rfl
  | e :: es, h, p, q, hq => by
    rw [bt_cons, bt_far (n := n) (es := es) (fun x hx => h x (List.mem_cons_of_mem _ hx)) hq]
    have b := h e (List.mem_cons_self ..)
    unfold okE at b
    unfold btE
    rw [if_neg (by omega)]; rfl
/-- The ground behind all edges is the graph's. -/
theorem gdP_all {n s : Nat} {es : List EdS} (h : ∀ e ∈ es, okE n e) (j : Nat) : gdP n s es j = gdF n s (btL es) j := by
  unfold gdP gdF
  by_cases j0 : j = 0
  · rw [if_pos j0, if_pos j0]
  · rw [if_neg j0, if_neg j0]
    by_cases j1 : j = 1
    · rw [if_pos j1, if_pos j1]
    · rw [if_neg j1, if_neg j1]
      by_cases j2 : j < 12
      · rw [if_pos j2, if_pos j2, dg_sum h]
      · rw [if_neg j2, if_neg j2]
        unfold gvS
        by_cases c : (j - 12) % 10 = s
        · rw [if_pos c, if_neg (by omega)]
        · rw [if_neg c]
          by_cases c2 : (j - 12) % 10 < n
          · rw [if_pos ⟨c2, c⟩]
          · rw [if_neg (by omega), bt_far h (Or.inr (by omega))]
theorem dg_size : ∀ {n : Nat} {es : List EdS}, (∀ e ∈ es, okE n e) → ∀ k, 0 ≤ dgL es k ∧ dgL es k ≤ 100 * es.length
  | _, [], _, _ => ⟨Int.le_refl _, Int.le_refl _⟩
  | n, e :: es, h, k => by
    obtain ⟨h1, h2⟩ := dg_size (n := n) (es := es) (fun x hx => h x (List.mem_cons_of_mem _ hx)) k
    have b := h e (List.mem_cons_self ..)
    unfold okE at b
    rw [dg_cons]
    unfold dgE
    simp only [List.length_cons]
    split <;> omega
theorem bt_size : ∀ {n : Nat} {es : List EdS}, (∀ e ∈ es, okE n e) → ∀ k j, 0 ≤ btL es k j ∧ btL es k j ≤ 100 * es.length
  | _, [], _, _, _ => ⟨Int.le_refl _, Int.le_refl _⟩
  | n, e :: es, h, k, j => by
    obtain ⟨h1, h2⟩ := bt_size (n := n) (es := es) (fun x hx => h x (List.mem_cons_of_mem _ hx)) k j
    have b := h e (List.mem_cons_self ..)
    unfold okE at b
    rw [bt_cons]
    unfold btE
    simp only [List.length_cons]
    split <;> omega
theorem gdP_size {n s : Nat} {es : List EdS} (hn : n ≤ 10) (hs : s ≤ 10) (hl : es.length ≤ 40) (h : ∀ e ∈ es, okE n e) (j : Nat) : 0 ≤ gdP n s es j ∧ gdP n s es j ≤ 4000 := by
  unfold gdP
  have h1 := dg_size h (j - 2)
  have h2 := bt_size h ((j - 12) / 10) ((j - 12) % 10)
  repeat' split
  all_goals omega
def JoinX (w : World) (gb : Nat) (F' : Nat → Int) (e : Ending) (w' : World) : Prop := e = .returned (.tuple #[]) ∧ GrI w' gb F' ∧ w.grownBy w' (some gb)
theorem wrap_small {x : Int} (h0 : 0 ≤ x) (h1 : x ≤ 100000) : wrap64 x = x := by
  unfold wrap64; omega
set_option maxRecDepth 100000 in
set_option maxHeartbeats 6400000 in
theorem joinX_any (gb a b s : Nat) (t : Int) (F : Nat → Int) (w : World) (hG : GrI w gb F) (ha : a < 10) (hb : b < 10) (hs : F 1 = (s : Int)) (hF : ∀ k, 0 ≤ F k ∧ F k ≤ 50000) (ht : 0 ≤ t ∧ t ≤ 100) :
    Calls Tryd.prog 48 #[.pointer (some ⟨gb, 0, none⟩), .int .i64 (a : Int), .int .i64 (b : Int), .int .i64 t] w (JoinX w gb (jnF s F a b t)) := by
  have HG := hide' hG
  have c0 := hG.cell (k := 2 + a) (by omega)
  have f0 := frozen_of_row w gb (2 + a) _ _ hG
  have la : (a : Int) < 10 := by omega
  have lb : (b : Int) < 10 := by omega
  obtain ⟨z0, hz0⟩ : ∃ z0, F (2 + a) = z0 := ⟨_, rfl⟩
  have W0 : wrap64 (z0 + t) = z0 + t := by have := hF (2 + a); rw [hz0] at this; exact wrap_small (by omega) (by omega)
  obtain ⟨F1, hF1⟩ : ∃ F1, upI F (2 + a) (z0 + t) = F1 := ⟨_, rfl⟩
  have eJ : jnF s F a b t = if b = s then F1 else upI F1 (12 + a * 10 + b) (F1 (12 + a * 10 + b) + t) := by
    unfold jnF
    simp only [hz0, hF1]
    have : F1 (12 + a * 10 + b) = F (12 + a * 10 + b) := by rw [← hF1]; unfold upI; rw [if_neg (by omega)]
    rw [this]
  have F11 : F1 1 = (s : Int) := by rw [← hF1]; unfold upI; rw [if_neg (by omega)]; exact hs
  have F12 : 0 ≤ F1 (12 + a * 10 + b) ∧ F1 (12 + a * 10 + b) ≤ 50000 := by rw [← hF1]; unfold upI; rw [if_neg (by omega)]; exact hF _
  rw [hz0] at c0
  have HF1 := hide' hF1
  have EJ := hide' eJ
  clear hG hz0 hF hs hF1 eJ
  go_enter Tryd.func48, Tryd.ntmps48
  go_upto_region 0 with fail
  go_region
  rw [W0]
  obtain ⟨X, hX⟩ : ∃ X, (w.setCell ⟨gb, 2 + a, none⟩ (.int .i64 (z0 + t))).drew = X := ⟨_, rfl⟩
  have hF1 : GrI X gb F1 := by rw [← hX, ← HF1.out]; exact HG.out.set _
  have GX := hide' (show w.grownBy X (some gb) by rw [← hX]; exact grownR_trans (grownBy_setR w gb (2 + a) _) (grownR_drew _ _))
  rw [hX]
  clear hX c0 f0 W0
  have c1 := hF1.cell (k := 1) (by omega)
  rw [F11] at c1
  have c2 := hF1.cell (k := 12 + a * 10 + b) (by omega)
  have f2 := frozen_of_row X gb (12 + a * 10 + b) _ _ hF1
  obtain ⟨z2, hz2⟩ : ∃ z2, F1 (12 + a * 10 + b) = z2 := ⟨_, rfl⟩
  rw [hz2] at c2 F12
  have W2 : wrap64 (z2 + t) = z2 + t := wrap_small (by omega) (by omega)
  have HZ2 := hide' hz2
  have HX := hide' hF1
  clear hF1 hz2 F11 F12
  by_cases k : b = s
  · have e1 : ((b : Int) != (s : Int)) = false := by simp; omega
    have KK := hide' k
    clear k
    go_wp2
    go_end0
    refine ⟨rfl, ?_, GX.out⟩
    rw [EJ.out, if_pos KK.out]; exact HX.out
  · have e1 : ((b : Int) != (s : Int)) = true := by simp; omega
    have KK := hide' k
    clear k
    go_upto_region 2 with fail
    go_region
    rw [W2]
    go_wp2
    go_end0
    refine ⟨rfl, ?_, grownR_trans GX.out (grownR_trans (grownBy_setR X gb (12 + a * 10 + b) _) (grownR_drew _ _))⟩
    rw [EJ.out, if_neg KK.out, HZ2.out]; exact HX.out.set _
end Go.Proofs.YtpajdmhgonmgoaaDoor

