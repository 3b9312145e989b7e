/-
  What the last text of this claim leans on, part 16: Kbb, Kbc, Kbd, Kbe, Kd1.
-/
import Derived.Test.YtpajdmhgonmgoaaDoorYs15
import Derived.Test.YtpajdmhgonmgoaaDoorYs8
import Derived.Conc.TokenWalk
import Derived.Conc.Own2
import Derived.Conc.WgGenN2
import Derived.Conc.Beside
namespace Go.Proofs.YtpajdmhgonmgoaaDoor
open Go.RowKit
set_option linter.unusedVariables false
open Go.Conc Go.ConcN Go.RowKit Go.Conc.Lib Go.ConcR.Gen
open Go.ConcR (KK wgBlock WgAt stA smA rd wr Payload DC0)
set_option linter.unusedSimpArgs false
set_option maxRecDepth 100000 in
set_option maxHeartbeats 6400000 in
theorem item_x [Payload] {C N n s : Nat} {b : Nat → Nat → Int} {c0 u0 : Nat → Int} {K : Int} {nw L : Nat} {Shun : Loc → Prop} {t : Site} (e : SiteS t C N n s b c0 u0 K nw L Shun) {p : Nat} (hp : p < n) (hn10 : n ≤ 10) (hps : p ≠ s) (hd : 1 ≤ smS n (b p)) (hg0 : ∀ j, 0 ≤ gvS n s b p j) (hg1 : ∀ j, gvS n s b p j ≤ smS n (b p)) (x4 x7 x8 x9 x10 x11 x12 : Value) :
    ∃ M, Gw Tryd.prog false t.Fix (EvR C N) (t.AtLoad p) M (G ((baseD 37).at (⟨#[.pointer (some ⟨N + 4, 0, none⟩), .pointer (some ⟨N + 2, 0, none⟩), .pointer (some ⟨N + 3, 0, none⟩), .pointer (some ⟨N, 0, none⟩), x4, .chan (some (N + 1)), .tuple #[vI p, .bool true], x7, x8, x9, x10, x11, x12], [dcall 38 #[.pointer (some ⟨N + 4, 0, none⟩)]]⟩ : Act) [.inRegion (cO (cL (cL (cL (cR (cR (bodyOf Tryd.f37))))))) [1], .code (cR (cL (cL (cR (cR (bodyOf Tryd.f37)))))), .inLoop (cL (cL (cR (cR (bodyOf Tryd.f37))))), .inBlock 0]) [{ (default : Frame) with fn := Tryd.prog.funcs.size, defers := [], mode := .panicking [goexitEntry] }]) := by
  have hkb : (baseD 37).kind ≠ .early := by simp [baseD]
  obtain ⟨d, hdd⟩ : ∃ d, smS n (b p) = d := ⟨_, rfl⟩
  have lk := look_x e (cs := [{ (default : Frame) with fn := Tryd.prog.funcs.size, defers := [], mode := .panicking [goexitEntry] }]) (ops := cO (cR (cL (cR (cR (cL (cL (cR (cR (bodyOf Tryd.f37)))))))))) (i := 2) (rest := [3]) (fb := baseD 37) (ab := (⟨#[.pointer (some ⟨N + 4, 0, none⟩), .pointer (some ⟨N + 2, 0, none⟩), .pointer (some ⟨N + 3, 0, none⟩), .pointer (some ⟨N, 0, none⟩), vI p, .chan (some (N + 1)), .tuple #[vI p, .bool true], .bool true, vI p, (Value.pointer (some ⟨C, 0, none⟩)), vI p, x11, x12], [dcall 38 #[.pointer (some ⟨N + 4, 0, none⟩)]]⟩ : Act)) (k := [.inBlock 1, .inLoop (cL (cL (cR (cR (bodyOf Tryd.f37))))), .inBlock 0]) hp hn10 hps hd hg0 hg1 rfl rfl hkb rfl rfl rfl (fun v hg => ?_)
  · obtain ⟨M, hM⟩ := lk
    refine ⟨M + 30, ?_⟩
    simp only [cO, cL, cR, bodyOf, Tryd.f37, Option.getD_some] at hM ⊢
    unfold vI at hM ⊢
    refine gw_opk rfl rfl (by k_ne) (fun w hF K' hK => ?_)
    go_simp
    refine hK _ (fun e he => ?_) ?_
    · (clear hK; simp [go_sem, *, evix1, evix2, evix3] at he)
    clear hK K' hF
    clear w
    try walk_nrm
    refine gw_done ?_
    refine gw_seq ?_
    refine gw_cond true rfl ?_
    simp only [if_true, ↓reduceIte]
    refine gw_skip ?_
    refine gw_block ?_
    refine gw_seq ?_
    refine gw_region ?_
    try simp only [List.size_toArray, List.length_cons, List.length_nil, Nat.reduceAdd, Nat.zero_add, List.range, List.range.loop]
    refine gw_opk rfl rfl (by k_ne) (fun w hF K' hK => ?_)
    go_simp
    refine hK _ (fun e he => ?_) ?_
    · (clear hK; simp [go_sem, *, evix1, evix2, evix3] at he)
    clear hK K' hF
    clear w
    try walk_nrm
    refine gw_opk rfl rfl (by k_ne) (fun w hF K' hK => ?_)
    go_simp
    refine hK _ (fun e he => ?_) ?_
    · (clear hK; simp [go_sem, *, evix1, evix2, evix3] at he)
    clear hK K' hF
    clear w
    try walk_nrm
    refine gw_done ?_
    refine gw_region ?_
    try simp only [List.size_toArray, List.length_cons, List.length_nil, Nat.reduceAdd, Nat.zero_add, List.range, List.range.loop]
    refine gw_opk rfl rfl (by k_ne) (fun w hF K' hK => ?_)
    have fc0 := fix_box e hF
    go_simp
    refine hK _ (fun e he => ?_) ?_
    · (clear hK; simp [go_sem, *] at he; subst he; exact ⟨_, rfl, Or.inr (Or.inl rfl)⟩)
    clear hK K' hF
    clear fc0
    clear w
    try walk_nrm
    refine gw_opk rfl rfl (by k_ne) (fun w hF K' hK => ?_)
    go_simp
    refine hK _ (fun e he => ?_) ?_
    · (clear hK; simp [go_sem, *, evix1, evix2, evix3] at he)
    clear hK K' hF
    clear w
    try walk_nrm
    exact Gw.mono hM (by omega)
  · refine ⟨60, ?_⟩
    have hgo := add_x e (ad := tgL (N + 3)) (d := v.tdiv (smS n (b p))) (ls := []) (fb := baseD 37) (a := (⟨#[.pointer (some ⟨N + 4, 0, none⟩), .pointer (some ⟨N + 2, 0, none⟩), .pointer (some ⟨N + 3, 0, none⟩), .pointer (some ⟨N, 0, none⟩), vI p, .chan (some (N + 1)), .tuple #[vI p, .bool true], .bool true, vI p, (Value.pointer (some ⟨C, 0, none⟩)), vI p, .int .i64 (v.tdiv (smS n (b p))), x12], [dcall 38 #[.pointer (some ⟨N + 4, 0, none⟩)]]⟩ : Act)) (k := [.inBlock 1, .inLoop (cL (cL (cR (cR (bodyOf Tryd.f37))))), .inBlock 0]) (cs := [{ (default : Frame) with fn := Tryd.prog.funcs.size, defers := [], mode := .panicking [goexitEntry] }]) (ops := cO (cR (cL (cR (cR (cL (cL (cR (cR (bodyOf Tryd.f37)))))))))) (i := 3) (rest := []) (Or.inr (Or.inr rfl)) rfl rfl hkb rfl rfl rfl (fun x => ⟨20, ?_⟩)
    · exact Gw.mono hgo (by omega)
    · simp only [cO, cL, cR, bodyOf, Tryd.f37, Option.getD_some]
      walk_nrm
      refine gw_done ?_
      refine gw_inBlock ?_
      refine gw_inLoop ?_
      refine gw_seq ?_
      refine gw_region ?_
      try simp only [List.size_toArray, List.length_cons, List.length_nil, Nat.reduceAdd, Nat.zero_add, List.range, List.range.loop]
      refine Gw.stop (fun w hF => ?_)
      show t.Loop _
      rw [e.elo]
      exact ⟨_, _, _, _, _, _, _, _, rfl⟩
end Go.Proofs.YtpajdmhgonmgoaaDoor

namespace Go.Proofs.YtpajdmhgonmgoaaDoor
open Go.RowKit
set_option linter.unusedVariables false
open Go.Conc Go.ConcN Go.RowKit Go.Conc.Lib Go.ConcR.Gen
open Go.ConcR (KK wgBlock WgAt stA smA rd wr Payload DC0)
set_option linter.unusedSimpArgs false
set_option maxRecDepth 100000 in
/-- The receive. -/
theorem comm_x {N : Nat} {g : Goroutine} (h : loopS N g) (w : World) : stepG Tryd.prog false g w = .comm g #[rcase (N + 1) (.int .i64 0)] true (.recv true) w #[] := by
  obtain ⟨x4, x6, x7, x8, x9, x10, x11, x12, rfl⟩ := h
  have hkb : (baseD 37).kind ≠ .early := by simp [baseD]
  simp only [cO, cL, cR, bodyOf, Tryd.f37, Option.getD_some]
  rw [stepG_comm (cases := #[rcase (N + 1) (.int .i64 0)]) (blocking := true) (shape := .recv true) (w' := w) rfl rfl hkb (by simp [execOp, Act.eval, go_sem, rcase])]
  rw [listed_none (by simp [execOp, Act.eval, go_sem])]
/-- Behind the receive: an item, or the end. -/
theorem got_x {N : Nat} {x4 x6 x7 x8 x9 x10 x11 x12 : Value} (cases : Array CommCase) (v : Value) (ok : Bool) : (G ((baseD 37).at (⟨#[.pointer (some ⟨N + 4, 0, none⟩), .pointer (some ⟨N + 2, 0, none⟩), .pointer (some ⟨N + 3, 0, none⟩), .pointer (some ⟨N, 0, none⟩), x4, .chan (some (N + 1)), x6, x7, x8, x9, x10, x11, x12], [dcall 38 #[.pointer (some ⟨N + 4, 0, none⟩)]]⟩ : Act) [.inRegion (cO (cL (cL (cL (cR (cR (bodyOf Tryd.f37))))))) [0, 1], .code (cR (cL (cL (cR (cR (bodyOf Tryd.f37)))))), .inLoop (cL (cL (cR (cR (bodyOf Tryd.f37))))), .inBlock 0]) [{ (default : Frame) with fn := Tryd.prog.funcs.size, defers := [], mode := .panicking [goexitEntry] }]).finishComm Tryd.prog cases (.recv true) 0 v ok =
    G ((baseD 37).at (⟨#[.pointer (some ⟨N + 4, 0, none⟩), .pointer (some ⟨N + 2, 0, none⟩), .pointer (some ⟨N + 3, 0, none⟩), .pointer (some ⟨N, 0, none⟩), x4, .chan (some (N + 1)), .tuple #[v, .bool ok], x7, x8, x9, x10, x11, x12], [dcall 38 #[.pointer (some ⟨N + 4, 0, none⟩)]]⟩ : Act) [.inRegion (cO (cL (cL (cL (cR (cR (bodyOf Tryd.f37))))))) [1], .code (cR (cL (cL (cR (cR (bodyOf Tryd.f37)))))), .inLoop (cL (cL (cR (cR (bodyOf Tryd.f37))))), .inBlock 0]) [{ (default : Frame) with fn := Tryd.prog.funcs.size, defers := [], mode := .panicking [goexitEntry] }] := by
  simp only [cO, cL, cR, bodyOf, Tryd.f37, Option.getD_some]
  rfl
set_option maxRecDepth 100000 in
set_option maxHeartbeats 1600000 in
/-- Its birth, to the first receive. -/
theorem born_x [Payload] {C N n s : Nat} {b : Nat → Nat → Int} {c0 u0 : Nat → Int} {K : Int} {nw L : Nat} {Shun : Loc → Prop} {t : Site} (e : SiteS t C N n s b c0 u0 K nw L Shun) : ∃ M, Gw Tryd.prog false t.Fix (EvR C N) (fun g _ => t.Loop g) M (born Tryd.prog { target := .fn (.func 37) #[.pointer (some ⟨N + 4, 0, none⟩), .pointer (some ⟨N + 2, 0, none⟩), .pointer (some ⟨N + 3, 0, none⟩), .pointer (some ⟨N, 0, none⟩)], args := #[] }) := by
  have hkb : (baseD 37).kind ≠ .early := by simp [baseD]
  refine ⟨40, ?_⟩
  refine gw_ctl (g' := G ((baseD 37).at (⟨#[.pointer (some ⟨N + 4, 0, none⟩), .pointer (some ⟨N + 2, 0, none⟩), .pointer (some ⟨N + 3, 0, none⟩), .pointer (some ⟨N, 0, none⟩), undef, undef, undef, undef, undef, undef, undef, undef, undef], []⟩ : Act) [.code (bodyOf Tryd.f37)]) [{ (default : Frame) with fn := Tryd.prog.funcs.size, defers := [], mode := .panicking [goexitEntry] }]) rfl (fun w => ?_) ?_
  · simp [born, stepG, unwind, callDeferred, invoke, callFunc, Tryd.func37, Tryd.f37, seen, GStep.after, G, Frame.enter, Frame.at, baseD, bodyOf]
  simp only [cO, cL, cR, bodyOf, Tryd.f37, Option.getD_some]
  refine gw_seq ?_
  refine gw_region ?_
  try simp only [List.size_toArray, List.length_cons, List.length_nil, Nat.reduceAdd, Nat.zero_add, List.range, List.range.loop]
  refine gw_ctl rfl (fun w => stepG_defer rfl rfl hkb rfl) ?_
  walk_nrm
  refine gw_done ?_
  refine gw_seq ?_
  refine gw_region ?_
  try simp only [List.size_toArray, List.length_cons, List.length_nil, Nat.reduceAdd, Nat.zero_add, List.range, List.range.loop]
  refine gw_opk rfl rfl (by k_ne) (fun w hF K' hK => ?_)
  have fc0 := fix_var e hF
  go_simp
  refine hK _ (fun e he => ?_) ?_
  · (clear hK; simp [go_sem, *] at he; subst he; exact ⟨_, rfl, Or.inr (Or.inr rfl)⟩)
  clear hK K' hF
  clear fc0
  clear w
  try walk_nrm
  refine gw_done ?_
  refine gw_block ?_
  refine gw_loop ?_
  refine gw_seq ?_
  refine gw_region ?_
  try simp only [List.size_toArray, List.length_cons, List.length_nil, Nat.reduceAdd, Nat.zero_add, List.range, List.range.loop]
  refine Gw.stop (fun w hF => ?_)
  show t.Loop _
  rw [e.elo]
  exact ⟨_, _, _, _, _, _, _, _, rfl⟩
end Go.Proofs.YtpajdmhgonmgoaaDoor

namespace Go.Proofs.YtpajdmhgonmgoaaDoor
open Go.RowKit
set_option linter.unusedVariables false
open Go.Conc Go.ConcN Go.RowKit Go.Conc.Lib Go.ConcR.Gen
open Go.ConcR (KK wgBlock WgAt stA smA rd wr Payload DC0)
set_option linter.unusedSimpArgs false
section
variable [Payload]
/-- The library's own walk of a Done, from here on. -/
def Lb (P : Program) (ty : TypeId) (Wg C n : Nat) (v : Value) (g : Goroutine) (w : World) : Prop :=
  ∃ m, Goes P false (RW ty Wg C n 0 0) (DWs Wg (fun _ _ => False) (fun _ _ => False) C n 1) (AtR0 P ty Wg C n 0 1 v) m g w
theorem rw_refl (ty : TypeId) (Wg C n : Nat) (w : World) : RW ty Wg C n 0 0 w w := ⟨fun _ h => by omega, id, id, rfl⟩
/-- A step that is not the release is a step of that walk. -/
theorem Lb.step {P : Program} {ty : TypeId} {Wg C n : Nat} {v : Value} {g g' : Goroutine} {w w' : World} {es : Array Event} (h : Lb P ty Wg C n v g w) (hs : stepG P false g w = .go g' w' es) (he : es ≠ #[Go.ConcR.mk (.releaseMerge (stA Wg))]) : Lb P ty Wg C n v g' w' ∧ ∀ e ∈ es, e.loc ≠ .mark .disable := by
  obtain ⟨m, h⟩ := h
  have ns : ¬ AtR0 P ty Wg C n 0 1 v g w := fun ⟨_, _, g1, h1, _⟩ => by
    rw [hs] at h1
    injection h1 with _ _ h1
    exact he h1
  cases m with
  | zero => exact (ns (h w (rw_refl ..))).elim
  | succ m =>
    rcases h with h | ⟨_, h⟩
    · exact (ns (h w (rw_refl ..))).elim
    · have h1 := h w (rw_refl ..)
      rw [hs] at h1
      exact ⟨⟨m, h1.2⟩, fun e hm => (h1.1.2 e hm).2.1⟩
/-- At the release: that walk's own stop; or it goes over it. -/
theorem Lb.release {P : Program} {ty : TypeId} {Wg C n : Nat} {v : Value} {g g' : Goroutine} {w w' : World} {es : Array Event} (h : Lb P ty Wg C n v g w) (hs : stepG P false g w = .go g' w' es) : AtR0 P ty Wg C n 0 1 v g w ∨ Lb P ty Wg C n v g' w' := by
  obtain ⟨m, h⟩ := h
  cases m with
  | zero => exact Or.inl (h w (rw_refl ..))
  | succ m =>
    rcases h with h | ⟨_, h⟩
    · exact Or.inl (h w (rw_refl ..))
    · have h1 := h w (rw_refl ..)
      rw [hs] at h1
      exact Or.inr ⟨m, h1.2⟩
end
end Go.Proofs.YtpajdmhgonmgoaaDoor

namespace Go.Proofs.YtpajdmhgonmgoaaDoor
open Go.RowKit
set_option linter.unusedVariables false
open Go.Conc Go.ConcN Go.RowKit Go.Conc.Lib Go.ConcR.Gen
open Go.ConcR (KK wgBlock WgAt stA smA rd wr Payload DC0)
set_option linter.unusedSimpArgs false
set_option linter.unusedSectionVars false
section
variable [Payload] {P : Program} {F : World → Prop} {S : Goroutine → World → Prop} {ty : TypeId} {Wg C cn : Nat} {v : Value}
theorem rw_trans {a b c : World} (h : RW ty Wg C cn 0 0 a b) (k : RW ty Wg C cn 0 0 b c) : RW ty Wg C cn 0 0 a c := ⟨fun _ h => by omega, fun x => k.live (h.live x), fun x => k.pay (h.pay x), k.cell.trans h.cell⟩
theorem Lb.move {g : Goroutine} {w w' : World} (h : Lb P ty Wg C cn v g w) (r : RW ty Wg C cn 0 0 w w') : Lb P ty Wg C cn v g w' := by
  obtain ⟨m, h⟩ := h
  exact ⟨m, Goes.rely (R := RW ty Wg C cn 0 0) (fun a b c x y => rw_trans x y) h r⟩
/-- Our own quiet walk and the library's, side by side. -/
theorem follow (hF : ∀ w w', F w → F w' → RW ty Wg C cn 0 0 w w') (hat : ∀ w d, F w → F (w.at d)) : ∀ (n : Nat) (g : Goroutine), (∀ w, F w → Lb P ty Wg C cn v g w) → Gw P false F (fun _ => False) S n g → Gw P false F (fun _ => False) (fun g w => S g w ∧ Lb P ty Wg C cn v g w) n g := by
  intro n
  induction n with
  | zero => exact fun g hL h w w₁ h₁ => ⟨h w w₁ h₁, hL w₁ h₁⟩
  | succ n ih =>
    intro g hL h w
    rcases h w with h1 | ⟨hs, h1⟩
    · exact Or.inl fun w₁ h₁ => ⟨h1 w₁ h₁, hL w₁ h₁⟩
    · refine Or.inr ⟨hs, fun w₁ h₁ => ?_⟩
      have h2 := h1 w₁ h₁
      obtain ⟨g₁, w₂, es, hgo, ⟨⟨d, hd⟩, he⟩, hg⟩ := goes_elim h2
      subst hd
      rw [hgo]
      refine ⟨⟨⟨d, rfl⟩, he⟩, ?_⟩
      have hL1 := ((hL w₁ h₁).step hgo (fun e => by
        have := he (Go.ConcR.mk (.releaseMerge (stA Wg))) (by rw [e]; simp)
        exact this)).1
      exact ih g₁ (fun w₃ h₃ => hL1.move (hF _ _ (hat _ d h₁) h₃)) (fun w₃ => goes_any (X := F) hg) _
/-- A walk comes to its stop. -/
theorem reach (hat : ∀ w d, F w → F (w.at d)) {E : Event → Prop} : ∀ (n : Nat) (g : Goroutine) (w : World), F w → Gw P false F E S n g → ∃ g' w', F w' ∧ S g' w' := by
  intro n
  induction n with
  | zero => exact fun g w hw h => ⟨g, w, hw, h w w hw⟩
  | succ n ih =>
    intro g w hw h
    rcases h w with h1 | ⟨hs, h1⟩
    · exact ⟨g, w, hw, h1 w hw⟩
    · obtain ⟨g₁, w₂, es, hgo, ⟨⟨d, hd⟩, he⟩, hg⟩ := goes_elim (h1 w hw)
      subst hd
      exact ih g₁ _ (hat _ d hw) (fun w₃ => goes_any (X := F) hg)
end
end Go.Proofs.YtpajdmhgonmgoaaDoor

namespace Go.Proofs.YtpajdmhgonmgoaaDoor
open Go.RowKit
set_option linter.unusedVariables false
open Go.Conc Go.RowKit
set_option linter.unusedSimpArgs false
/-- It does not hang on how often was drawn. -/
def AtC (F : World → Prop) : Prop := ∀ w d, F w → F (w.at d)
/-- Goroutine 0's walk beside leavers: from whatever world F lets by. -/
def Gp (P : Program) (E : Event → Prop) (S : Goroutine → World → Prop) (n : Nat) (g : Goroutine) (F : World → Prop) : Prop :=
  ∀ w, F w → Goes P true AtRel (fun _ _ es => ∀ e ∈ es, E e) S n g w
section
variable {P : Program} {F : World → Prop} {E : Event → Prop} {S : Goroutine → World → Prop} {n : Nat} {b : Frame} {a : Act} {k : List Item} {cs : List Frame}
theorem Gp.mono {m : Nat} {g : Goroutine} (h : Gp P E S n g F) (hm : n ≤ m) : Gp P E S m g F := fun w hw => (h w hw).mono hm
theorem Gp.stop (hc : AtC F) {g : Goroutine} (h : ∀ w, F w → S g w) : Gp P E S n g F := fun w hw => Goes.stop fun w₁ h₁ => by
  obtain ⟨d, rfl⟩ := h₁
  exact h _ (hc w d hw)
theorem Gp.weak {F' : World → Prop} {g : Goroutine} (h : Gp P E S n g F') (hF : ∀ w, F w → F' w) : Gp P E S n g F := fun w hw => h w (hF w hw)
theorem gp_step (hc : AtC F) {F' : World → Prop} {g g' : Goroutine} (hs : g.status = .running) (h : ∀ w, F w → ∃ w' es, stepG P true g w = .go g' w' es ∧ (∀ e ∈ es, E e) ∧ F' w') (hn : Gp P E S n g' F') : Gp P E S (n + 1) g F := fun w hw => Goes.step hs fun w₁ h₁ => by
  obtain ⟨d, rfl⟩ := h₁
  obtain ⟨w', es, h1, h2, h3⟩ := h _ (hc w d hw)
  rw [h1]
  exact ⟨h2, hn _ h3⟩
theorem gp_ctl (hc : AtC F) {g g' : Goroutine} (hs : g.status = .running) (h : ∀ w, stepG P true g w = .go g' w #[]) (hn : Gp P E S n g' F) : Gp P E S (n + 1) g F := gp_step hc hs (fun w hw => ⟨w, #[], h w, fun e he => by simp at he, hw⟩) hn
theorem gp_skip (hc : AtC F) (h : Gp P E S n (G (b.at a k) cs) F) : Gp P E S (n + 1) (G (b.at a (.code .skip :: k)) cs) F := gp_ctl hc rfl (fun w => stepG_skip) h
theorem gp_inBlock (hc : AtC F) {id : Nat} (h : Gp P E S n (G (b.at a k) cs) F) : Gp P E S (n + 1) (G (b.at a (.inBlock id :: k)) cs) F := gp_ctl hc rfl (fun w => stepG_inBlock) h
theorem gp_seq (hc : AtC F) {x y : Code} (h : Gp P E S n (G (b.at a (.code x :: .code y :: k)) cs) F) : Gp P E S (n + 1) (G (b.at a (.code (.seq x y) :: k)) cs) F := gp_ctl hc rfl (fun w => stepG_seq) h
theorem gp_cond (hc : AtC F) {c : Operand} {x y : Code} (t : Bool) (hv : a.eval c = .bool t) (h : Gp P E S n (G (b.at a (.code (if t then x else y) :: k)) cs) F) : Gp P E S (n + 1) (G (b.at a (.code (.cond c x y) :: k)) cs) F := gp_ctl hc rfl (fun w => stepG_cond hv) h
theorem gp_block (hc : AtC F) {id : Nat} {c : Code} (h : Gp P E S n (G (b.at a (.code c :: .inBlock id :: k)) cs) F) : Gp P E S (n + 1) (G (b.at a (.code (.block id c) :: k)) cs) F := gp_ctl hc rfl (fun w => stepG_block) h
theorem gp_loop (hc : AtC F) {c : Code} (h : Gp P E S n (G (b.at a (.code c :: .inLoop c :: k)) cs) F) : Gp P E S (n + 1) (G (b.at a (.code (.loop c) :: k)) cs) F := gp_ctl hc rfl (fun w => stepG_loop) h
theorem gp_inLoop (hc : AtC F) {c : Code} (h : Gp P E S n (G (b.at a (.code c :: .inLoop c :: k)) cs) F) : Gp P E S (n + 1) (G (b.at a (.inLoop c :: k)) cs) F := gp_ctl hc rfl (fun w => stepG_inLoop) h
theorem gp_exit (hc : AtC F) {id : Nat} {k' : List Item} (hk : exitTo id k = some k') (h : Gp P E S n (G (b.at a k') cs) F) : Gp P E S (n + 1) (G (b.at a (.code (.exit id) :: k)) cs) F := gp_ctl hc rfl (fun w => stepG_exit hk) h
theorem gp_region (hc : AtC F) {id : Nat} {ops : Array Oper} (h : Gp P E S n (G (b.at a (.inRegion ops (List.range ops.size) :: k)) cs) F) : Gp P E S (n + 1) (G (b.at a (.code (.region id ops false) :: k)) cs) F := gp_ctl hc rfl (fun w => stepG_region) h
theorem gp_done (hc : AtC F) {ops : Array Oper} (h : Gp P E S n (G (b.at a k) cs) F) : Gp P E S (n + 1) (G (b.at a (.inRegion ops [] :: k)) cs) F := gp_ctl hc rfl (fun w => stepG_region_end) h
theorem gp_ret (hc : AtC F) (h : Gp P E S n (G { b.at a (.code .ret :: k) with mode := .returning } cs) F) : Gp P E S (n + 1) (G (b.at a (.code .ret :: k)) cs) F := gp_ctl hc rfl (fun w => stepG_ret') h
theorem gp_end (hc : AtC F) (h : Gp P E S n (G { b.at a [] with mode := .returning } cs) F) : Gp P E S (n + 1) (G (b.at a []) cs) F := gp_ctl hc rfl (fun w => stepG_end) h
/-- One operation that leaves the world as it is. -/
theorem gp_opk (hc : AtC F) {ops : Array Oper} {i : Nat} {rest : List Nat} {o : Oper} (ho : ops[i]? = some o) (hw : Region.wanted o (yielded ops a.tmps) = true) (hk : b.kind ≠ .early)
    (h : ∀ w, F w → ∀ K : Act → World → Prop, (∀ a', (∀ e ∈ (execOp a.eval o).events P w #[], E e) → Gp P E S n (G (b.at a' (.inRegion ops rest :: k)) cs) F → K a' w) → uponK o a K ((execOp a.eval o).run P w)) : Gp P E S (n + 1) (G (b.at a (.inRegion ops (i :: rest) :: k)) cs) F :=
  fun w hF => Goes.step rfl fun w₁ h₁ => by
    obtain ⟨d, rfl⟩ := h₁
    exact goes_oper_k ho hw hk fun K' hK' => h _ (hc w d hF) K' fun a' hev hg => hK' a' _ ⟨fun e he => hev e (mem_listed he), hg _ (hc w d hF)⟩
/-- One operation that turns the world. -/
theorem gp_opw (hc : AtC F) {F' : World → Prop} {ops : Array Oper} {i : Nat} {rest : List Nat} {o : Oper} (ho : ops[i]? = some o) (hw : Region.wanted o (yielded ops a.tmps) = true) (hk : b.kind ≠ .early)
    (h : ∀ w, F w → ∀ K : Act → World → Prop, (∀ a' w', (∀ e ∈ (execOp a.eval o).events P w #[], E e) → F' w' → Gp P E S n (G (b.at a' (.inRegion ops rest :: k)) cs) F' → K a' w') → uponK o a K ((execOp a.eval o).run P w)) : Gp P E S (n + 1) (G (b.at a (.inRegion ops (i :: rest) :: k)) cs) F :=
  fun w hF => Goes.step rfl fun w₁ h₁ => by
    obtain ⟨d, rfl⟩ := h₁
    exact goes_oper_k ho hw hk fun K' hK' => h _ (hc w d hF) K' fun a' w' hev hf hg => hK' a' w' ⟨fun e he => hev e (mem_listed he), hg _ hf⟩
theorem gp_call (hc : AtC F) {ops : Array Oper} {i : Nat} {rest : List Nat} {o : Oper} {f : FuncId} {fn : Func} {c : Code} {args : Array Operand} {ats : Array TypeId} (ho : ops[i]? = some o) (hw : Region.wanted o (yielded ops a.tmps) = true) (hk : b.kind ≠ .early) (hop : o.op = .call { callee := .value (.func f), args, argTypes := ats })
    (hf : P.funcs[f]? = some fn) (hname : (fn.name == "runtime.NumGoroutine") = false) (hb : fn.body = some c)
    (h : Gp P E S n (G ((base f).at { tmps := args.map a.eval ++ Array.replicate (fn.ntmps - (args.map a.eval).size) undef, defers := [] } [.code c]) (b.at a (.inRegion ops (i :: rest) :: k) :: cs)) F) : Gp P E S (n + 1) (G (b.at a (.inRegion ops (i :: rest) :: k)) cs) F :=
  fun w hF => Goes.step rfl fun w₁ h₁ => by
    obtain ⟨d, rfl⟩ := h₁
    exact goes_call ho hw hk hop hf hname hb ⟨fun e he => by simp at he, h _ (hc w d hF)⟩
theorem gp_leave1 (hc : AtC F) {b₀ : Frame} {a₀ : Act} {ops : Array Oper} {i : Nat} {rest : List Nat} {fn : Func} {t : Tmp} {todo : List Item} (hn : b.kind = .normal) (hd : a.defers = []) (hf : P.funcs[b.fn]? = some fn) (hr : fn.results = #[.tmp t])
    (h : Gp P E S n (G (b₀.at (a₀.put ((ops[i]?).bind (·.dst)) (a.tmps.getD t undef)) (.inRegion ops rest :: k)) cs) F) : Gp P E S (n + 1) (G { b.at a todo with mode := .returning } (b₀.at a₀ (.inRegion ops (i :: rest) :: k) :: cs)) F :=
  fun w hF => Goes.step rfl fun w₁ h₁ => by
    obtain ⟨d, rfl⟩ := h₁
    exact goes_leave1 hn hd hf hr ⟨fun e he => by simp at he, h _ (hc w d hF)⟩
/-- A walk of ours in company that lists little is one beside leavers. -/
theorem gp_of_gw {E' : Event → Prop} (hc : AtC F) (hE : ∀ e, E' e → E e) : ∀ (n : Nat) (g : Goroutine), Gw P true F E' S n g → Gp P E S n g F := by
  intro n
  induction n with
  | zero =>
    exact fun g h w hw w₁ h₁ => by
      obtain ⟨d, rfl⟩ := h₁
      exact h w _ (hc w d hw)
  | succ n ih =>
    intro g h w hw
    rcases h w with h1 | ⟨hs, h1⟩
    · exact Or.inl fun w₁ h₁ => by
        obtain ⟨d, rfl⟩ := h₁
        exact h1 _ (hc w d hw)
    · refine Or.inr ⟨hs, fun w₁ h₁ => ?_⟩
      obtain ⟨d, rfl⟩ := h₁
      have hw1 := hc w d hw
      obtain ⟨g₁, w₂, es, hgo, ⟨⟨d2, rfl⟩, he⟩, hg⟩ := goes_elim (h1 _ hw1)
      rw [hgo]
      exact ⟨fun e hm => hE e (he e hm), ih g₁ (fun w₃ => goes_any (X := F) hg) _ (hc _ d2 hw1)⟩
end
end Go.Proofs.YtpajdmhgonmgoaaDoor

