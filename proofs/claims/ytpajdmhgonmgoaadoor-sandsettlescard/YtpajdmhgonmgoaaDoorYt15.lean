/-
  What the last text of this claim leans on, part 15: Kbc, Kbd, Kbe, Kd1, Ka3.
-/
import Derived.Test.YtpajdmhgonmgoaaDoorYt14
import Derived.Test.YtpajdmhgonmgoaaDoorYt10
import Derived.Test.YtpajdmhgonmgoaaDoorYt9
import Derived.Conc.TokenWalk
import Derived.Conc.Own2
import Derived.Conc.WgGenN2
import Derived.Conc.Beside
import Derived.Conc.TokenTrace
namespace Go.Proofs.YtpajdmhgonmgoaaDoor
open Go.RowKit
set_option linter.unusedVariables false
open Go.Conc Go.ConcN Go.RowKit Go.Conc.Lib Go.ConcR.Gen
open Go.ConcR (KK wgBlock WgAt stA smA rd wr Payload DC0)
set_option linter.unusedSimpArgs false
set_option maxRecDepth 100000 in
/-- The receive. -/
theorem comm_x {N : Nat} {g : Goroutine} (h : loopS N g) (w : World) : stepG Tryd.prog false g w = .comm g #[rcase (N + 1) (.int .i64 0)] true (.recv true) w #[] := by
  obtain ⟨x4, x6, x7, x8, x9, x10, x11, x12, rfl⟩ := h
  have hkb : (baseD 37).kind ≠ .early := by simp [baseD]
  simp only [cO, cL, cR, bodyOf, Tryd.f37, Option.getD_some]
  rw [stepG_comm (cases := #[rcase (N + 1) (.int .i64 0)]) (blocking := true) (shape := .recv true) (w' := w) rfl rfl hkb (by simp [execOp, Act.eval, go_sem, rcase])]
  rw [listed_none (by simp [execOp, Act.eval, go_sem])]
/-- Behind the receive: an item, or the end. -/
theorem got_x {N : Nat} {x4 x6 x7 x8 x9 x10 x11 x12 : Value} (cases : Array CommCase) (v : Value) (ok : Bool) : (G ((baseD 37).at (⟨#[.pointer (some ⟨N + 4, 0, none⟩), .pointer (some ⟨N + 2, 0, none⟩), .pointer (some ⟨N + 3, 0, none⟩), .pointer (some ⟨N, 0, none⟩), x4, .chan (some (N + 1)), x6, x7, x8, x9, x10, x11, x12], [dcall 38 #[.pointer (some ⟨N + 4, 0, none⟩)]]⟩ : Act) [.inRegion (cO (cL (cL (cL (cR (cR (bodyOf Tryd.f37))))))) [0, 1], .code (cR (cL (cL (cR (cR (bodyOf Tryd.f37)))))), .inLoop (cL (cL (cR (cR (bodyOf Tryd.f37))))), .inBlock 0]) [{ (default : Frame) with fn := Tryd.prog.funcs.size, defers := [], mode := .panicking [goexitEntry] }]).finishComm Tryd.prog cases (.recv true) 0 v ok =
    G ((baseD 37).at (⟨#[.pointer (some ⟨N + 4, 0, none⟩), .pointer (some ⟨N + 2, 0, none⟩), .pointer (some ⟨N + 3, 0, none⟩), .pointer (some ⟨N, 0, none⟩), x4, .chan (some (N + 1)), .tuple #[v, .bool ok], x7, x8, x9, x10, x11, x12], [dcall 38 #[.pointer (some ⟨N + 4, 0, none⟩)]]⟩ : Act) [.inRegion (cO (cL (cL (cL (cR (cR (bodyOf Tryd.f37))))))) [1], .code (cR (cL (cL (cR (cR (bodyOf Tryd.f37)))))), .inLoop (cL (cL (cR (cR (bodyOf Tryd.f37))))), .inBlock 0]) [{ (default : Frame) with fn := Tryd.prog.funcs.size, defers := [], mode := .panicking [goexitEntry] }] := by
  simp only [cO, cL, cR, bodyOf, Tryd.f37, Option.getD_some]
  rfl
set_option maxRecDepth 100000 in
set_option maxHeartbeats 1600000 in
/-- Its birth, to the first receive. -/
theorem born_x [Payload] {C N n s : Nat} {b : Nat → Nat → Int} {c0 u0 : Nat → Int} {K : Int} {nw L : Nat} {Shun : Loc → Prop} {t : Site} (e : SiteS t C N n s b c0 u0 K nw L Shun) : ∃ M, Gw Tryd.prog false t.Fix (EvR C N) (fun g _ => t.Loop g) M (born Tryd.prog { target := .fn (.func 37) #[.pointer (some ⟨N + 4, 0, none⟩), .pointer (some ⟨N + 2, 0, none⟩), .pointer (some ⟨N + 3, 0, none⟩), .pointer (some ⟨N, 0, none⟩)], args := #[] }) := by
  have hkb : (baseD 37).kind ≠ .early := by simp [baseD]
  refine ⟨40, ?_⟩
  refine gw_ctl (g' := G ((baseD 37).at (⟨#[.pointer (some ⟨N + 4, 0, none⟩), .pointer (some ⟨N + 2, 0, none⟩), .pointer (some ⟨N + 3, 0, none⟩), .pointer (some ⟨N, 0, none⟩), undef, undef, undef, undef, undef, undef, undef, undef, undef], []⟩ : Act) [.code (bodyOf Tryd.f37)]) [{ (default : Frame) with fn := Tryd.prog.funcs.size, defers := [], mode := .panicking [goexitEntry] }]) rfl (fun w => ?_) ?_
  · simp [born, stepG, unwind, callDeferred, invoke, callFunc, Tryd.func37, Tryd.f37, seen, GStep.after, G, Frame.enter, Frame.at, baseD, bodyOf]
  simp only [cO, cL, cR, bodyOf, Tryd.f37, Option.getD_some]
  refine gw_seq ?_
  refine gw_region ?_
  try simp only [List.size_toArray, List.length_cons, List.length_nil, Nat.reduceAdd, Nat.zero_add, List.range, List.range.loop]
  refine gw_ctl rfl (fun w => stepG_defer rfl rfl hkb rfl) ?_
  walk_nrm
  refine gw_done ?_
  refine gw_seq ?_
  refine gw_region ?_
  try simp only [List.size_toArray, List.length_cons, List.length_nil, Nat.reduceAdd, Nat.zero_add, List.range, List.range.loop]
  refine gw_opk rfl rfl (by k_ne) (fun w hF K' hK => ?_)
  have fc0 := fix_var e hF
  go_simp
  refine hK _ (fun e he => ?_) ?_
  · (clear hK; simp [go_sem, *] at he; subst he; exact ⟨_, rfl, Or.inr (Or.inr rfl)⟩)
  clear hK K' hF
  clear fc0
  clear w
  try walk_nrm
  refine gw_done ?_
  refine gw_block ?_
  refine gw_loop ?_
  refine gw_seq ?_
  refine gw_region ?_
  try simp only [List.size_toArray, List.length_cons, List.length_nil, Nat.reduceAdd, Nat.zero_add, List.range, List.range.loop]
  refine Gw.stop (fun w hF => ?_)
  show t.Loop _
  rw [e.elo]
  exact ⟨_, _, _, _, _, _, _, _, rfl⟩
end Go.Proofs.YtpajdmhgonmgoaaDoor

namespace Go.Proofs.YtpajdmhgonmgoaaDoor
open Go.RowKit
set_option linter.unusedVariables false
open Go.Conc Go.ConcN Go.RowKit Go.Conc.Lib Go.ConcR.Gen
open Go.ConcR (KK wgBlock WgAt stA smA rd wr Payload DC0)
set_option linter.unusedSimpArgs false
section
variable [Payload]
/-- The library's own walk of a Done, from here on. -/
def Lb (P : Program) (ty : TypeId) (Wg C n : Nat) (v : Value) (g : Goroutine) (w : World) : Prop :=
  ∃ m, Goes P false (RW ty Wg C n 0 0) (DWs Wg (fun _ _ => False) (fun _ _ => False) C n 1) (AtR0 P ty Wg C n 0 1 v) m g w
theorem rw_refl (ty : TypeId) (Wg C n : Nat) (w : World) : RW ty Wg C n 0 0 w w := ⟨fun _ h => by omega, id, id, rfl⟩
/-- A step that is not the release is a step of that walk. -/
theorem Lb.step {P : Program} {ty : TypeId} {Wg C n : Nat} {v : Value} {g g' : Goroutine} {w w' : World} {es : Array Event} (h : Lb P ty Wg C n v g w) (hs : stepG P false g w = .go g' w' es) (he : es ≠ #[Go.ConcR.mk (.releaseMerge (stA Wg))]) : Lb P ty Wg C n v g' w' ∧ ∀ e ∈ es, e.loc ≠ .mark .disable := by
  obtain ⟨m, h⟩ := h
  have ns : ¬ AtR0 P ty Wg C n 0 1 v g w := fun ⟨_, _, g1, h1, _⟩ => by
    rw [hs] at h1
    injection h1 with _ _ h1
    exact he h1
  cases m with
  | zero => exact (ns (h w (rw_refl ..))).elim
  | succ m =>
    rcases h with h | ⟨_, h⟩
    · exact (ns (h w (rw_refl ..))).elim
    · have h1 := h w (rw_refl ..)
      rw [hs] at h1
      exact ⟨⟨m, h1.2⟩, fun e hm => (h1.1.2 e hm).2.1⟩
/-- At the release: that walk's own stop; or it goes over it. -/
theorem Lb.release {P : Program} {ty : TypeId} {Wg C n : Nat} {v : Value} {g g' : Goroutine} {w w' : World} {es : Array Event} (h : Lb P ty Wg C n v g w) (hs : stepG P false g w = .go g' w' es) : AtR0 P ty Wg C n 0 1 v g w ∨ Lb P ty Wg C n v g' w' := by
  obtain ⟨m, h⟩ := h
  cases m with
  | zero => exact Or.inl (h w (rw_refl ..))
  | succ m =>
    rcases h with h | ⟨_, h⟩
    · exact Or.inl (h w (rw_refl ..))
    · have h1 := h w (rw_refl ..)
      rw [hs] at h1
      exact Or.inr ⟨m, h1.2⟩
end
end Go.Proofs.YtpajdmhgonmgoaaDoor

namespace Go.Proofs.YtpajdmhgonmgoaaDoor
open Go.RowKit
set_option linter.unusedVariables false
open Go.Conc Go.ConcN Go.RowKit Go.Conc.Lib Go.ConcR.Gen
open Go.ConcR (KK wgBlock WgAt stA smA rd wr Payload DC0)
set_option linter.unusedSimpArgs false
set_option linter.unusedSectionVars false
section
variable [Payload] {P : Program} {F : World → Prop} {S : Goroutine → World → Prop} {ty : TypeId} {Wg C cn : Nat} {v : Value}
theorem rw_trans {a b c : World} (h : RW ty Wg C cn 0 0 a b) (k : RW ty Wg C cn 0 0 b c) : RW ty Wg C cn 0 0 a c := ⟨fun _ h => by omega, fun x => k.live (h.live x), fun x => k.pay (h.pay x), k.cell.trans h.cell⟩
theorem Lb.move {g : Goroutine} {w w' : World} (h : Lb P ty Wg C cn v g w) (r : RW ty Wg C cn 0 0 w w') : Lb P ty Wg C cn v g w' := by
  obtain ⟨m, h⟩ := h
  exact ⟨m, Goes.rely (R := RW ty Wg C cn 0 0) (fun a b c x y => rw_trans x y) h r⟩
/-- Our own quiet walk and the library's, side by side. -/
theorem follow (hF : ∀ w w', F w → F w' → RW ty Wg C cn 0 0 w w') (hat : ∀ w d, F w → F (w.at d)) : ∀ (n : Nat) (g : Goroutine), (∀ w, F w → Lb P ty Wg C cn v g w) → Gw P false F (fun _ => False) S n g → Gw P false F (fun _ => False) (fun g w => S g w ∧ Lb P ty Wg C cn v g w) n g := by
  intro n
  induction n with
  | zero => exact fun g hL h w w₁ h₁ => ⟨h w w₁ h₁, hL w₁ h₁⟩
  | succ n ih =>
    intro g hL h w
    rcases h w with h1 | ⟨hs, h1⟩
    · exact Or.inl fun w₁ h₁ => ⟨h1 w₁ h₁, hL w₁ h₁⟩
    · refine Or.inr ⟨hs, fun w₁ h₁ => ?_⟩
      have h2 := h1 w₁ h₁
      obtain ⟨g₁, w₂, es, hgo, ⟨⟨d, hd⟩, he⟩, hg⟩ := goes_elim h2
      subst hd
      rw [hgo]
      refine ⟨⟨⟨d, rfl⟩, he⟩, ?_⟩
      have hL1 := ((hL w₁ h₁).step hgo (fun e => by
        have := he (Go.ConcR.mk (.releaseMerge (stA Wg))) (by rw [e]; simp)
        exact this)).1
      exact ih g₁ (fun w₃ h₃ => hL1.move (hF _ _ (hat _ d h₁) h₃)) (fun w₃ => goes_any (X := F) hg) _
/-- A walk comes to its stop. -/
theorem reach (hat : ∀ w d, F w → F (w.at d)) {E : Event → Prop} : ∀ (n : Nat) (g : Goroutine) (w : World), F w → Gw P false F E S n g → ∃ g' w', F w' ∧ S g' w' := by
  intro n
  induction n with
  | zero => exact fun g w hw h => ⟨g, w, hw, h w w hw⟩
  | succ n ih =>
    intro g w hw h
    rcases h w with h1 | ⟨hs, h1⟩
    · exact ⟨g, w, hw, h1 w hw⟩
    · obtain ⟨g₁, w₂, es, hgo, ⟨⟨d, hd⟩, he⟩, hg⟩ := goes_elim (h1 w hw)
      subst hd
      exact ih g₁ _ (hat _ d hw) (fun w₃ => goes_any (X := F) hg)
end
end Go.Proofs.YtpajdmhgonmgoaaDoor

namespace Go.Proofs.YtpajdmhgonmgoaaDoor
open Go.RowKit
set_option linter.unusedVariables false
open Go.Conc Go.RowKit
set_option linter.unusedSimpArgs false
/-- It does not hang on how often was drawn. -/
def AtC (F : World → Prop) : Prop := ∀ w d, F w → F (w.at d)
/-- Goroutine 0's walk beside leavers: from whatever world F lets by. -/
def Gp (P : Program) (E : Event → Prop) (S : Goroutine → World → Prop) (n : Nat) (g : Goroutine) (F : World → Prop) : Prop :=
  ∀ w, F w → Goes P true AtRel (fun _ _ es => ∀ e ∈ es, E e) S n g w
section
variable {P : Program} {F : World → Prop} {E : Event → Prop} {S : Goroutine → World → Prop} {n : Nat} {b : Frame} {a : Act} {k : List Item} {cs : List Frame}
theorem Gp.mono {m : Nat} {g : Goroutine} (h : Gp P E S n g F) (hm : n ≤ m) : Gp P E S m g F := fun w hw => (h w hw).mono hm
theorem Gp.stop (hc : AtC F) {g : Goroutine} (h : ∀ w, F w → S g w) : Gp P E S n g F := fun w hw => Goes.stop fun w₁ h₁ => by
  obtain ⟨d, rfl⟩ := h₁
  exact h _ (hc w d hw)
theorem Gp.weak {F' : World → Prop} {g : Goroutine} (h : Gp P E S n g F') (hF : ∀ w, F w → F' w) : Gp P E S n g F := fun w hw => h w (hF w hw)
theorem gp_step (hc : AtC F) {F' : World → Prop} {g g' : Goroutine} (hs : g.status = .running) (h : ∀ w, F w → ∃ w' es, stepG P true g w = .go g' w' es ∧ (∀ e ∈ es, E e) ∧ F' w') (hn : Gp P E S n g' F') : Gp P E S (n + 1) g F := fun w hw => Goes.step hs fun w₁ h₁ => by
  obtain ⟨d, rfl⟩ := h₁
  obtain ⟨w', es, h1, h2, h3⟩ := h _ (hc w d hw)
  rw [h1]
  exact ⟨h2, hn _ h3⟩
theorem gp_ctl (hc : AtC F) {g g' : Goroutine} (hs : g.status = .running) (h : ∀ w, stepG P true g w = .go g' w #[]) (hn : Gp P E S n g' F) : Gp P E S (n + 1) g F := gp_step hc hs (fun w hw => ⟨w, #[], h w, fun e he => by simp at he, hw⟩) hn
theorem gp_skip (hc : AtC F) (h : Gp P E S n (G (b.at a k) cs) F) : Gp P E S (n + 1) (G (b.at a (.code .skip :: k)) cs) F := gp_ctl hc rfl (fun w => stepG_skip) h
theorem gp_inBlock (hc : AtC F) {id : Nat} (h : Gp P E S n (G (b.at a k) cs) F) : Gp P E S (n + 1) (G (b.at a (.inBlock id :: k)) cs) F := gp_ctl hc rfl (fun w => stepG_inBlock) h
theorem gp_seq (hc : AtC F) {x y : Code} (h : Gp P E S n (G (b.at a (.code x :: .code y :: k)) cs) F) : Gp P E S (n + 1) (G (b.at a (.code (.seq x y) :: k)) cs) F := gp_ctl hc rfl (fun w => stepG_seq) h
theorem gp_cond (hc : AtC F) {c : Operand} {x y : Code} (t : Bool) (hv : a.eval c = .bool t) (h : Gp P E S n (G (b.at a (.code (if t then x else y) :: k)) cs) F) : Gp P E S (n + 1) (G (b.at a (.code (.cond c x y) :: k)) cs) F := gp_ctl hc rfl (fun w => stepG_cond hv) h
theorem gp_block (hc : AtC F) {id : Nat} {c : Code} (h : Gp P E S n (G (b.at a (.code c :: .inBlock id :: k)) cs) F) : Gp P E S (n + 1) (G (b.at a (.code (.block id c) :: k)) cs) F := gp_ctl hc rfl (fun w => stepG_block) h
theorem gp_loop (hc : AtC F) {c : Code} (h : Gp P E S n (G (b.at a (.code c :: .inLoop c :: k)) cs) F) : Gp P E S (n + 1) (G (b.at a (.code (.loop c) :: k)) cs) F := gp_ctl hc rfl (fun w => stepG_loop) h
theorem gp_inLoop (hc : AtC F) {c : Code} (h : Gp P E S n (G (b.at a (.code c :: .inLoop c :: k)) cs) F) : Gp P E S (n + 1) (G (b.at a (.inLoop c :: k)) cs) F := gp_ctl hc rfl (fun w => stepG_inLoop) h
theorem gp_exit (hc : AtC F) {id : Nat} {k' : List Item} (hk : exitTo id k = some k') (h : Gp P E S n (G (b.at a k') cs) F) : Gp P E S (n + 1) (G (b.at a (.code (.exit id) :: k)) cs) F := gp_ctl hc rfl (fun w => stepG_exit hk) h
theorem gp_region (hc : AtC F) {id : Nat} {ops : Array Oper} (h : Gp P E S n (G (b.at a (.inRegion ops (List.range ops.size) :: k)) cs) F) : Gp P E S (n + 1) (G (b.at a (.code (.region id ops false) :: k)) cs) F := gp_ctl hc rfl (fun w => stepG_region) h
theorem gp_done (hc : AtC F) {ops : Array Oper} (h : Gp P E S n (G (b.at a k) cs) F) : Gp P E S (n + 1) (G (b.at a (.inRegion ops [] :: k)) cs) F := gp_ctl hc rfl (fun w => stepG_region_end) h
theorem gp_ret (hc : AtC F) (h : Gp P E S n (G { b.at a (.code .ret :: k) with mode := .returning } cs) F) : Gp P E S (n + 1) (G (b.at a (.code .ret :: k)) cs) F := gp_ctl hc rfl (fun w => stepG_ret') h
theorem gp_end (hc : AtC F) (h : Gp P E S n (G { b.at a [] with mode := .returning } cs) F) : Gp P E S (n + 1) (G (b.at a []) cs) F := gp_ctl hc rfl (fun w => stepG_end) h
/-- One operation that leaves the world as it is. -/
theorem gp_opk (hc : AtC F) {ops : Array Oper} {i : Nat} {rest : List Nat} {o : Oper} (ho : ops[i]? = some o) (hw : Region.wanted o (yielded ops a.tmps) = true) (hk : b.kind ≠ .early)
    (h : ∀ w, F w → ∀ K : Act → World → Prop, (∀ a', (∀ e ∈ (execOp a.eval o).events P w #[], E e) → Gp P E S n (G (b.at a' (.inRegion ops rest :: k)) cs) F → K a' w) → uponK o a K ((execOp a.eval o).run P w)) : Gp P E S (n + 1) (G (b.at a (.inRegion ops (i :: rest) :: k)) cs) F :=
  fun w hF => Goes.step rfl fun w₁ h₁ => by
    obtain ⟨d, rfl⟩ := h₁
    exact goes_oper_k ho hw hk fun K' hK' => h _ (hc w d hF) K' fun a' hev hg => hK' a' _ ⟨fun e he => hev e (mem_listed he), hg _ (hc w d hF)⟩
/-- One operation that turns the world. -/
theorem gp_opw (hc : AtC F) {F' : World → Prop} {ops : Array Oper} {i : Nat} {rest : List Nat} {o : Oper} (ho : ops[i]? = some o) (hw : Region.wanted o (yielded ops a.tmps) = true) (hk : b.kind ≠ .early)
    (h : ∀ w, F w → ∀ K : Act → World → Prop, (∀ a' w', (∀ e ∈ (execOp a.eval o).events P w #[], E e) → F' w' → Gp P E S n (G (b.at a' (.inRegion ops rest :: k)) cs) F' → K a' w') → uponK o a K ((execOp a.eval o).run P w)) : Gp P E S (n + 1) (G (b.at a (.inRegion ops (i :: rest) :: k)) cs) F :=
  fun w hF => Goes.step rfl fun w₁ h₁ => by
    obtain ⟨d, rfl⟩ := h₁
    exact goes_oper_k ho hw hk fun K' hK' => h _ (hc w d hF) K' fun a' w' hev hf hg => hK' a' w' ⟨fun e he => hev e (mem_listed he), hg _ hf⟩
theorem gp_call (hc : AtC F) {ops : Array Oper} {i : Nat} {rest : List Nat} {o : Oper} {f : FuncId} {fn : Func} {c : Code} {args : Array Operand} {ats : Array TypeId} (ho : ops[i]? = some o) (hw : Region.wanted o (yielded ops a.tmps) = true) (hk : b.kind ≠ .early) (hop : o.op = .call { callee := .value (.func f), args, argTypes := ats })
    (hf : P.funcs[f]? = some fn) (hname : (fn.name == "runtime.NumGoroutine") = false) (hb : fn.body = some c)
    (h : Gp P E S n (G ((base f).at { tmps := args.map a.eval ++ Array.replicate (fn.ntmps - (args.map a.eval).size) undef, defers := [] } [.code c]) (b.at a (.inRegion ops (i :: rest) :: k) :: cs)) F) : Gp P E S (n + 1) (G (b.at a (.inRegion ops (i :: rest) :: k)) cs) F :=
  fun w hF => Goes.step rfl fun w₁ h₁ => by
    obtain ⟨d, rfl⟩ := h₁
    exact goes_call ho hw hk hop hf hname hb ⟨fun e he => by simp at he, h _ (hc w d hF)⟩
theorem gp_leave1 (hc : AtC F) {b₀ : Frame} {a₀ : Act} {ops : Array Oper} {i : Nat} {rest : List Nat} {fn : Func} {t : Tmp} {todo : List Item} (hn : b.kind = .normal) (hd : a.defers = []) (hf : P.funcs[b.fn]? = some fn) (hr : fn.results = #[.tmp t])
    (h : Gp P E S n (G (b₀.at (a₀.put ((ops[i]?).bind (·.dst)) (a.tmps.getD t undef)) (.inRegion ops rest :: k)) cs) F) : Gp P E S (n + 1) (G { b.at a todo with mode := .returning } (b₀.at a₀ (.inRegion ops (i :: rest) :: k) :: cs)) F :=
  fun w hF => Goes.step rfl fun w₁ h₁ => by
    obtain ⟨d, rfl⟩ := h₁
    exact goes_leave1 hn hd hf hr ⟨fun e he => by simp at he, h _ (hc w d hF)⟩
/-- A walk of ours in company that lists little is one beside leavers. -/
theorem gp_of_gw {E' : Event → Prop} (hc : AtC F) (hE : ∀ e, E' e → E e) : ∀ (n : Nat) (g : Goroutine), Gw P true F E' S n g → Gp P E S n g F := by
  intro n
  induction n with
  | zero =>
    exact fun g h w hw w₁ h₁ => by
      obtain ⟨d, rfl⟩ := h₁
      exact h w _ (hc w d hw)
  | succ n ih =>
    intro g h w hw
    rcases h w with h1 | ⟨hs, h1⟩
    · exact Or.inl fun w₁ h₁ => by
        obtain ⟨d, rfl⟩ := h₁
        exact h1 _ (hc w d hw)
    · refine Or.inr ⟨hs, fun w₁ h₁ => ?_⟩
      obtain ⟨d, rfl⟩ := h₁
      have hw1 := hc w d hw
      obtain ⟨g₁, w₂, es, hgo, ⟨⟨d2, rfl⟩, he⟩, hg⟩ := goes_elim (h1 _ hw1)
      rw [hgo]
      exact ⟨fun e hm => hE e (he e hm), ih g₁ (fun w₃ => goes_any (X := F) hg) _ (hc _ d2 hw1)⟩
end
end Go.Proofs.YtpajdmhgonmgoaaDoor

namespace Go.Proofs.YtpajdmhgonmgoaaDoor
open Go.Conc Go.ConcN
open Go.ConcR (KK wgBlock WgAt stA smA rd wr Payload DC0)
set_option linter.unusedVariables false
def ghD (D : Nat → Wk) (j : Nat) : Nat → Option Nat × List (Addr × Int) := fun i => if i < j then (D i).gh else (none, [])
theorem ghD_upd (D : Nat → Wk) {j i : Nat} (hi : i < j) (x : Wk) : ghD (upd D i x) j = upd (ghD D j) i x.gh := by
  funext k
  by_cases e : k = i
  · subst e; simp [ghD, upd, hi]
  · simp [ghD, upd, e]
theorem ghD_at (D : Nat → Wk) {j i : Nat} (hi : i < j) : ghD D j i = (D i).gh := by simp [ghD, hi]
/-- Operations that touch nothing and say nothing. -/
structure Hush (a : Addr) (B : Nat) (op : MemOp) : Prop where
  touch : op.act.touch? = none
  dis : op.act ≠ .mark .disable
  ena : op.act ≠ .mark .enable
  rel : op.act ≠ .mark (.release a)
  low : op.act.low B
theorem TJ.hush {Sh Rd : Loc → Prop} {L j B : Nat} {t u : Trace} {a : Addr} (h : TJ Sh Rd L t j) (hu : ∀ op ∈ u, Hush a B op) : TJ Sh Rd L (t ++ u) j := by
  have old : ∀ {i : Nat} {a : Touch}, touchAt (t ++ u) i = some a → touchAt t i = some a := by
    intro i a ha
    obtain ⟨x, hx, hxa⟩ := touch_of ha
    rcases getElem?_append_cases hx with ⟨_, hx'⟩ | ⟨_, hxu⟩
    · rw [touchAt_of hx']; exact hxa
    · rw [(hu x hxu).touch] at hxa; cases hxa
  refine ⟨fun said => noRace_appendMute (h.nr said) (fun op hop => (hu op hop).touch), fun i a ha hm hs => ?_, fun i a ha hm hr hw => (h.rd i a (old ha) hm hr hw).app u, fun i a ha hm hs hr => (h.mine i a (old ha) hm hs hr).app u⟩
  rcases h.sh i a (old ha) hm hs with k | ⟨k, kn⟩ | tk
  · exact .inl k
  · exact .inr (.inl ⟨k, kn.app u⟩)
  · exact .inr (.inr (tk.app u))
theorem RelK.hush {Sh : Loc → Prop} {a b : Addr} {B : Nat} {t u : Trace} {g r : Nat} (h : RelK Sh a t g r) (hu : ∀ op ∈ u, Hush b B op) : RelK Sh a (t ++ u) g r := by
  refine ⟨h.rel.app fun i hi hg hc => ?_, fun i op x hi ho hog hx => ?_⟩
  · obtain ⟨x, hx, _⟩ := hc
    obtain ⟨op, ho, hox⟩ := touch_of hx
    rcases getElem?_append_cases ho with ⟨hlt, _⟩ | ⟨_, hou⟩
    · omega
    · rw [(hu op hou).touch] at hox; cases hox
  · rcases getElem?_append_cases ho with ⟨_, ho'⟩ | ⟨_, hou⟩
    · exact h.after i op x hi ho' hog hx
    · rw [(hu op hou).touch] at hx; cases hx
/-- What holds of the trace. -/
structure Site.Tr (s : Site) (t₀ t : Trace) (j : Nat) (D : Nat → Wk) : Prop where
  above : ∀ i, s.L + j ≤ i → Deaf t i = 0
  tj : TJ s.Sh s.Rd s.L t j
  ext : Ext s.L j t₀ t
  norel : NoRelease (stA s.Wg) t
  deafW : ∀ i, i < j → Deaf t (s.L + i) = (D i).deaf
  rel : ∀ i, i < j → (D i).stage ≤ 6 → ∃ r, RelK s.Sh (stA s.Wg) t (s.L + i) r
  low : ∀ op ∈ t, op.act.low s.B
section
variable {s : Site} {t₀ t u : Trace} {j : Nat} {D : Nat → Wk}
theorem low_app {B : Nat} (h : ∀ op ∈ t, op.act.low B) (hu : ∀ op ∈ u, op.act.low B) : ∀ op ∈ t ++ u, op.act.low B := fun op hop => (Array.mem_append.1 hop).elim (h op) (hu op)
/-- Operations that touch and say nothing, whoever's. -/
theorem Site.Tr.hush (h : s.Tr t₀ t j D) (hu : ∀ op ∈ u, Hush (stA s.Wg) s.B op) : s.Tr t₀ (t ++ u) j D := by
  have hd : ∀ g, Deaf (t ++ u) g = Deaf t g := fun g => Deaf_still t g u (fun op hop => ⟨(hu op hop).dis, (hu op hop).ena⟩)
  exact ⟨fun i hi => (hd i).trans (h.above i hi), h.tj.hush hu, h.ext.app (Nat.le_refl _) (fun op hop => .inr (.inl (hu op hop).touch)), h.norel.app (fun op hop => (hu op hop).rel), fun i hi => (hd _).trans (h.deafW i hi), fun i hi hs => let ⟨r, hr⟩ := h.rel i hi hs; ⟨r, hr.hush hu⟩, low_app h.low (fun op hop => (hu op hop).low)⟩
/-- Another's data, alike as the trace sees them. -/
theorem Site.Tr.data (h : s.Tr t₀ t j D) {i : Nat} {x : Wk} (hd : i < j → x.deaf = (D i).deaf) (hs : i < j → x.stage ≤ 6 → (D i).stage ≤ 6) : s.Tr t₀ t j (upd D i x) := by
  refine ⟨h.above, h.tj, h.ext, h.norel, fun k hk => ?_, fun k hk hst => ?_, h.low⟩
  · by_cases e : k = i
    · subst e; rw [upd_same, h.deafW k hk, hd hk]
    · rw [upd_ne D _ e]; exact h.deafW k hk
  · by_cases e : k = i
    · subst e; rw [upd_same] at hst; exact h.rel k hk (hs hk hst)
    · rw [upd_ne D _ e] at hst; exact h.rel k hk hst
/-- A worker's own step. -/
theorem Site.Tr.own (A : ∀ l, s.Rd l → ¬ s.Sh l) (h : s.Tr t₀ t j D) {i : Nat} (hi : i < j) {x : Wk} {fn : FuncId} {pos : String} {es : Array Event}
    (hok : ∀ op ∈ MemOp.ofEvents (s.L + i) fn pos es, OkT s.Sh s.Rd (s.L + i) op) (hnr : ∀ e ∈ es, e.loc ≠ .mark (.release (stA s.Wg))) (hdeaf : deafBehind (D i).deaf es = x.deaf)
    (hrel : x.stage ≤ 6 → ∃ r, RelK s.Sh (stA s.Wg) (t ++ MemOp.ofEvents (s.L + i) fn pos es) (s.L + i) r) (hlow : ∀ e ∈ es, (MemAct.ofEvent e).low s.B) : s.Tr t₀ (t ++ MemOp.ofEvents (s.L + i) fn pos es) j (upd D i x) := by
  have hg : ∀ op ∈ MemOp.ofEvents (s.L + i) fn pos es, op.g = s.L + i := fun op hop => by obtain ⟨e, _, rfl⟩ := Go.Conc.mem_ofEvents hop; rfl
  refine ⟨fun k hk => ?_, h.tj.app A (.inr ⟨i, hi, rfl⟩) hok, h.ext.app (Nat.le_refl _) (fun op hop => .inr (.inr ⟨i, hi, hg op hop⟩)), h.norel.app (norel_of hnr), fun k hk => ?_, fun k hk hst => ?_, low_app h.low (fun op hop => by obtain ⟨e, he, rfl⟩ := Go.Conc.mem_ofEvents hop; exact hlow e he)⟩
  · rw [Deaf_other t (g' := s.L + i) (by omega) _ hg]; exact h.above k hk
  · by_cases e : k = i
    · subst e; rw [Deaf_own, h.deafW k hk, upd_same]; exact hdeaf
    · rw [Deaf_other t (g' := s.L + i) (by omega) _ hg, h.deafW k hk, upd_ne D _ e]
  · by_cases e : k = i
    · subst e; rw [upd_same] at hst; exact hrel hst
    · rw [upd_ne D _ e] at hst
      obtain ⟨r, hr⟩ := h.rel k hk hst
      exact ⟨r, hr.appOther hg (by omega)⟩
/-- The starter's own step. -/
theorem Site.Tr.zero (A : ∀ l, s.Rd l → ¬ s.Sh l) (L0 : 0 < s.L) (h : s.Tr t₀ t j D) {fn : FuncId} {pos : String} {es : Array Event}
    (hok : ∀ op ∈ MemOp.ofEvents 0 fn pos es, OkT s.Sh s.Rd 0 op) (hnr : ∀ e ∈ es, e.loc ≠ .mark (.release (stA s.Wg))) (hlow : ∀ e ∈ es, (MemAct.ofEvent e).low s.B) : s.Tr t₀ (t ++ MemOp.ofEvents 0 fn pos es) j D := by
  have hg : ∀ op ∈ MemOp.ofEvents 0 fn pos es, op.g = 0 := fun op hop => by obtain ⟨e, _, rfl⟩ := Go.Conc.mem_ofEvents hop; rfl
  refine ⟨fun k hk => ?_, h.tj.app A (.inl rfl) hok, h.ext.app (Nat.le_refl _) (fun op hop => .inl (hg op hop)), h.norel.app (norel_of hnr), fun k hk => ?_, fun k hk hst => ?_, low_app h.low (fun op hop => by obtain ⟨e, he, rfl⟩ := Go.Conc.mem_ofEvents hop; exact hlow e he)⟩
  · rw [Deaf_other t (g' := 0) (by omega) _ hg]; exact h.above k hk
  · rw [Deaf_other t (g' := 0) (by omega) _ hg]; exact h.deafW k hk
  · obtain ⟨r, hr⟩ := h.rel k hk hst
    exact ⟨r, hr.appOther hg (by omega)⟩
/-- A leaver's step. -/
theorem Site.Tr.mute (h : s.Tr t₀ t j D) {i : Nat} (h0 : 0 < i) (hi : i < s.L) {fn : FuncId} {pos : String} {es : Array Event} (hm : ∀ e ∈ es, e.mute = true) : s.Tr t₀ (t ++ MemOp.ofEvents i fn pos es) j D := by
  have hg : ∀ op ∈ MemOp.ofEvents i fn pos es, op.g = i := fun op hop => by obtain ⟨e, _, rfl⟩ := Go.Conc.mem_ofEvents hop; rfl
  have ht : ∀ op ∈ MemOp.ofEvents i fn pos es, op.act.touch? = none := fun op hop => by obtain ⟨e, he, rfl⟩ := Go.Conc.mem_ofEvents hop; exact touch_mute (hm e he)
  refine ⟨fun k hk => ?_, h.tj.mute hg ht, h.ext.app (Nat.le_refl _) (fun op hop => .inr (.inl (ht op hop))), h.norel.app (norel_of fun e he hl => ?_), fun k hk => ?_, fun k hk hst => ?_, low_app h.low (fun op hop => by obtain ⟨e, he, rfl⟩ := Go.Conc.mem_ofEvents hop; exact low_mute (hm e he) _)⟩
  · rw [Deaf_other t (g' := i) (by omega) _ hg]; exact h.above k hk
  · have := hm e he
    obtain ⟨loc, wr', sy⟩ := e
    simp only at hl
    subst hl
    simp [Event.mute] at this
  · rw [Deaf_other t (g' := i) (by omega) _ hg]; exact h.deafW k hk
  · obtain ⟨r, hr⟩ := h.rel k hk hst
    exact ⟨r, hr.appOther hg (by omega)⟩
/-- A go statement. -/
theorem Site.Tr.fork (h : s.Tr t₀ t j D) {x y : MemOp} (hx : x.g = 0 ∧ x.act = .go (s.L + j)) (hy : y.g = s.L + j ∧ y.act = .start) (h0 : Deaf t 0 = 0) {d : Wk} (hd : d.deaf = 0) (hs : 7 ≤ d.stage) : s.Tr t₀ (t ++ #[x, y]) (j + 1) (upd D j d) := by
  have hu : ∀ op ∈ #[x, y], Hush (stA s.Wg) s.B op := by
    intro op hop
    simp only [List.mem_toArray, List.mem_cons, List.not_mem_nil, or_false] at hop
    rcases hop with rfl | rfl
    · exact ⟨by rw [hx.2]; rfl, by rw [hx.2]; simp, by rw [hx.2]; simp, by rw [hx.2]; simp, by rw [hx.2]; trivial⟩
    · exact ⟨by rw [hy.2]; rfl, by rw [hy.2]; simp, by rw [hy.2]; simp, by rw [hy.2]; simp, by rw [hy.2]; trivial⟩
  have H := h.hush hu
  have hdf : ∀ g, Deaf (t ++ #[x, y]) g = Deaf t g := fun g => Deaf_still t g _ (fun op hop => ⟨(hu op hop).dis, (hu op hop).ena⟩)
  refine ⟨fun i hi => H.above i (by omega), h.tj.fork hx hy h0 (h.above _ (Nat.le_refl _)), h.ext.app (Nat.le_succ _) (fun op hop => .inr (.inl (hu op hop).touch)), H.norel, fun i hi => ?_, fun i hi hst => ?_, H.low⟩
  · by_cases e : i = j
    · subst e; rw [upd_same, hd, hdf]; exact h.above _ (Nat.le_refl _)
    · rw [upd_ne D _ e]; exact H.deafW i (by omega)
  · by_cases e : i = j
    · subst e; rw [upd_same] at hst; omega
    · rw [upd_ne D _ e] at hst; exact H.rel i (by omega) hst
end
end Go.Proofs.YtpajdmhgonmgoaaDoor

