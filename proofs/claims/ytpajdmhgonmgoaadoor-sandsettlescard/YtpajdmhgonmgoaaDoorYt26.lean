/-
  What the last text of this claim leans on, part 26: Kbg, Kbh, Kbi, Kbj, Kc1, Kc2, Kc4.
-/
import Derived.Test.YtpajdmhgonmgoaaDoorYt25
import Derived.Test.YtpajdmhgonmgoaaDoorYt15
import Derived.Conc.SmallLaws
import Derived.Laws.LoneSync
import Derived.Conc.WgGenN2
import Derived.Conc.WgArith
namespace Go.Proofs.YtpajdmhgonmgoaaDoor
open Go.RowKit
set_option linter.unusedVariables false
open Go.Conc Go.ConcN Go.RowKit Go.Conc.Lib Go.ConcR.Gen
open Go.ConcR (KK wgBlock WgAt stA smA rd wr Payload DC0)
set_option linter.unusedSimpArgs false
set_option maxRecDepth 100000 in
set_option maxHeartbeats 3200000 in
theorem rel_x [Payload] {C N n s : Nat} {b : Nat → Nat → Int} {c0 u0 : Nat → Int} {K : Int} {nw L : Nat} {Shun : Loc → Prop} {t : Site} (e : SiteS t C N n s b c0 u0 K nw L Shun) {S : Goroutine → World → Prop} {M : Nat} {c : Frame} {cs : List Frame}
    (hn : Gw Tryd.prog false t.Fix (fun _ => False) S M (G ((base 36).at (⟨#[.pointer (some ⟨N + 4, 0, none⟩), .int .i64 (-1), undef, undef, undef, undef, undef, undef, undef, .int .i64 (-1), .bool true, .pointer (some ⟨N + 4, 0, none⟩), .pointer (some ⟨N + 4, 0, none⟩), undef, undef, undef, undef, undef, undef, undef, undef, undef, undef, undef, undef, undef, undef, undef, undef, undef, undef, undef, undef, undef, undef, undef, undef, undef, undef, undef, undef, undef, undef, undef, undef, undef, undef, undef, undef, undef, undef, undef, undef, undef, undef, undef, undef, undef, undef, undef, undef, undef, undef, undef, undef, undef, undef, undef, undef, undef, undef, undef, undef, undef, undef, undef, undef, undef, undef, undef, undef, undef, undef, undef, undef, undef, undef, undef, undef, undef, undef, undef, undef, undef, undef, undef, undef, undef, undef, undef, undef, undef, undef, undef, undef, undef, undef, undef, undef, undef, undef, undef, undef, undef, undef, undef, undef], []⟩ : Act) [.inRegion (cO (cL (cR (cL (cL (cL (bodyOf Tryd.f36))))))) [2], .code (cR (cL (cL (bodyOf Tryd.f36)))), .code (cR (bodyOf Tryd.f36))]) ((baseD 38).at ⟨#[.pointer (some ⟨N + 4, 0, none⟩), undef, .pointer (some ⟨N + 4, 0, none⟩), undef], []⟩ [.inRegion (cO (bodyOf Tryd.f38)) [1]] :: c :: cs))) :
    Gw Tryd.prog false t.Fix (fun _ => False) S (M + 40) (G ((baseD 38).at ⟨#[.pointer (some ⟨N + 4, 0, none⟩), undef, undef, undef], []⟩ [.code (bodyOf Tryd.f38)]) (c :: cs)) := by
  have hce : ∀ w, t.Fix w → ∃ v, w.cell? ⟨N + 4, 0, none⟩ = some v := fun w hF => by
    have := hF.live
    rw [e.ety, e.eWg] at this
    exact Go.ConcN.Gen.WgLive.cell0 this
  simp only [cO, cL, cR, bodyOf, Tryd.f36, Tryd.f38, Option.getD_some] at hn ⊢
  refine gw_region ?_
  try simp only [List.size_toArray, List.length_cons, List.length_nil, Nat.reduceAdd, Nat.zero_add, List.range, List.range.loop]
  refine gw_opk rfl rfl (by k_ne) (fun w hF K' hK => ?_)
  go_simp
  refine hK _ (fun e he => ?_) ?_
  · (clear hK; simp [go_sem, *] at he)
  clear hK K' hF
  clear w
  try walk_nrm
  refine gw_call rfl rfl (by k_ne) rfl Tryd.func36 rfl rfl ?_
  walk_nrmf Tryd.f36
  refine gw_seq ?_
  refine gw_cond true rfl ?_
  simp only [if_true, ↓reduceIte]
  refine gw_seq ?_
  refine gw_seq ?_
  refine gw_region ?_
  try simp only [List.size_toArray, List.length_cons, List.length_nil, Nat.reduceAdd, Nat.zero_add, List.range, List.range.loop]
  refine gw_opk rfl rfl (by k_ne) (fun w hF K' hK => ?_)
  go_simp
  refine hK _ (fun e he => ?_) ?_
  · (clear hK; simp [go_sem, *] at he)
  clear hK K' hF
  clear w
  try walk_nrm
  refine gw_opk rfl rfl (by k_ne) (fun w hF K' hK => ?_)
  go_simp
  refine hK _ (fun e he => ?_) ?_
  · (clear hK; simp [go_sem, *] at he)
  clear hK K' hF
  clear w
  try walk_nrm
  refine gw_done ?_
  refine gw_cond true rfl ?_
  simp only [if_true, ↓reduceIte]
  refine gw_region ?_
  try simp only [List.size_toArray, List.length_cons, List.length_nil, Nat.reduceAdd, Nat.zero_add, List.range, List.range.loop]
  refine gw_opk rfl rfl (by k_ne) (fun w hF K' hK => ?_)
  go_simp
  refine hK _ (fun e he => ?_) ?_
  · (clear hK; simp [go_sem, *] at he)
  clear hK K' hF
  clear w
  try walk_nrm
  refine gw_val rfl rfl (by k_ne) (.pointer (some ⟨N + 4, 0, none⟩)) (fun w hF => ?_) (fun w hF e' he => ?_) ?_
  · obtain ⟨v, hv⟩ := hce w hF
    have := run_convert_to_unsafe (P := Tryd.prog) (src := 116) (dst := 100) Tryd.underlying116 Tryd.underlying100 (by kernel_rfl) hv
    simp [execOp, Act.eval, this, Result.andThen]
  · obtain ⟨v, hv⟩ := hce w hF
    have := events_convert_to_unsafe (P := Tryd.prog) (src := 116) (dst := 100) Tryd.underlying116 Tryd.underlying100 (by kernel_rfl) hv #[]
    have h2 := run_convert_to_unsafe (P := Tryd.prog) (src := 116) (dst := 100) Tryd.underlying116 Tryd.underlying100 (by kernel_rfl) hv
    simp [execOp, Act.eval, this, h2, Result.andThen, Result.evThen, go_sem] at he
  walk_nrm
  exact Gw.mono hn (by omega)
end Go.Proofs.YtpajdmhgonmgoaaDoor

namespace Go.Proofs.YtpajdmhgonmgoaaDoor
open Go.RowKit
set_option linter.unusedVariables false
open Go.Conc Go.ConcN Go.RowKit Go.Conc.Lib Go.ConcR.Gen
open Go.ConcR (KK wgBlock WgAt stA smA rd wr Payload DC0)
set_option linter.unusedSimpArgs false
theorem quits_w (T : Array Value) : QuitsD Tryd.prog 2 0 (G { (baseD 37).at ⟨T, []⟩ [] with mode := .returning } [{ (default : Frame) with fn := Tryd.prog.funcs.size, defers := [], mode := .panicking [goexitEntry] }]) := by
  refine QuitsD.ctl (g' := G ({ (default : Frame) with fn := Tryd.prog.funcs.size, defers := [], mode := .panicking [goexitEntry] } : Frame) []) rfl (fun w => ?_) ?_
  · simp [G, stepG, unwind, doReturn, results, Frame.at, baseD, Tryd.func37, Tryd.f37, seen, GStep.after, goexitEntry]
  refine QuitsD.ctl (g' := { G ({ (default : Frame) with fn := Tryd.prog.funcs.size, defers := [], mode := .panicking [goexitEntry] } : Frame) [] with status := .finished }) rfl (fun w => ?_) ⟨rfl, rfl⟩
  simp [G, stepG, unwind, goexitEntry, Frame.catches]
  rfl
set_option maxRecDepth 100000 in
theorem lib_x [Payload] {C N n s : Nat} {b : Nat → Nat → Int} {c0 u0 : Nat → Int} {K : Int} {nw L : Nat} {Shun : Loc → Prop} {t : Site} (e : SiteS t C N n s b c0 u0 K nw L Shun) (T : Array Value) (w : World) (hF : t.Fix w) : Lb Tryd.prog 93 (N + 4) C 132 (vI n) (G ((baseD 38).at ⟨#[.pointer (some ⟨N + 4, 0, none⟩), undef, undef, undef], []⟩ [.code (bodyOf Tryd.f38)]) ({ (baseD 37).at ⟨T, []⟩ [] with mode := .returning } :: [{ (default : Frame) with fn := Tryd.prog.funcs.size, defers := [], mode := .panicking [goexitEntry] }])) w := by
  have h1 := hF.live
  rw [e.ety, e.eWg] at h1
  have h2 : Has C 0 (vI n) w := by
    have := fix_gd e hF (j := 0) (by omega)
    rw [gd_n] at this
    exact this
  have := Go.ConcN.Gen.doneN wgLib (Own := fun _ _ => False) (Rd := fun _ _ => False) (Wg := N + 4) (C := C) (n := 132) (Low := 0) (k := 1) (val := vI n) (c := { (baseD 37).at ⟨T, []⟩ [] with mode := .returning }) rfl (quits_w T) w ⟨h1, h2⟩
  exact ⟨23, this⟩
end Go.Proofs.YtpajdmhgonmgoaaDoor

namespace Go.Proofs.YtpajdmhgonmgoaaDoor
open Go.RowKit
set_option linter.unusedVariables false
open Go.Conc Go.ConcN Go.RowKit Go.Conc.Lib Go.ConcR.Gen
open Go.ConcR (KK wgBlock WgAt stA smA rd wr Payload DC0)
set_option linter.unusedSimpArgs false
theorem Gw.conv {P : Program} {main : Bool} {F : World → Prop} {E E' : Event → Prop} {S S' : Goroutine → World → Prop} (hE : ∀ e, E e → E' e) (hS : ∀ g w, F w → S g w → S' g w) : ∀ (n : Nat) (g : Goroutine), Gw P main F E S n g → Gw P main F E' S' n g := by
  intro n
  induction n with
  | zero => exact fun g h w w₁ h₁ => hS _ _ h₁ (h w w₁ h₁)
  | succ n ih =>
    intro g h w
    rcases h w with h1 | ⟨hs, h1⟩
    · exact Or.inl fun w₁ h₁ => hS _ _ h₁ (h1 w₁ h₁)
    · refine Or.inr ⟨hs, fun w₁ h₁ => ?_⟩
      obtain ⟨g₁, w₂, es, hgo, ⟨hd, he⟩, hg⟩ := goes_elim (h1 w₁ h₁)
      rw [hgo]
      refine ⟨⟨hd, fun e hm => hE e (he e hm)⟩, ?_⟩
      exact ih g₁ (fun w₃ => by cases n <;> exact hg) _
theorem fix_at [Payload] {C N n s : Nat} {b : Nat → Nat → Int} {c0 u0 : Nat → Int} {K : Int} {nw L : Nat} {Shun : Loc → Prop} {t : Site} (e : SiteS t C N n s b c0 u0 K nw L Shun) {w : World} (h : t.Fix w) (d : Nat) : t.Fix (w.at d) := ⟨h.known, h.ats, h.chan, h.live, h.pay, e.eke w d h.keep⟩
theorem fix_rw [Payload] {C N n s : Nat} {b : Nat → Nat → Int} {c0 u0 : Nat → Int} {K : Int} {nw L : Nat} {Shun : Loc → Prop} {t : Site} (e : SiteS t C N n s b c0 u0 K nw L Shun) {w w' : World} (h : t.Fix w) (h' : t.Fix w') : RW 93 (N + 4) C 132 0 0 w w' := by
  have l := h'.live
  have p := h'.pay
  rw [e.ety, e.eWg] at l
  rw [e.ecB, e.ecs] at p
  exact ⟨fun _ h => by omega, fun _ => l, fun _ => p, (fix_gd e h' (by omega)).trans (fix_gd e h (by omega)).symm⟩
set_option maxRecDepth 100000 in
set_option maxHeartbeats 3200000 in
/-- Behind the release the library's walk meets a mark that its guarantee bars. -/
theorem no_go [Payload] {C N n s : Nat} {b : Nat → Nat → Int} {c0 u0 : Nat → Int} {K : Int} {nw L : Nat} {Shun : Loc → Prop} {t : Site} (e : SiteS t C N n s b c0 u0 K nw L Shun) {c : Frame} {cs : List Frame} {w : World} (hF : t.Fix w) (h : Lb Tryd.prog 93 (N + 4) C 132 (vI n) (G ((base 36).at (⟨#[.pointer (some ⟨N + 4, 0, none⟩), .int .i64 (-1), undef, undef, undef, undef, undef, undef, undef, .int .i64 (-1), .bool true, .pointer (some ⟨N + 4, 0, none⟩), .pointer (some ⟨N + 4, 0, none⟩), .tuple #[], undef, undef, undef, undef, undef, undef, undef, undef, undef, undef, undef, undef, undef, undef, undef, undef, undef, undef, undef, undef, undef, undef, undef, undef, undef, undef, undef, undef, undef, undef, undef, undef, undef, undef, undef, undef, undef, undef, undef, undef, undef, undef, undef, undef, undef, undef, undef, undef, undef, undef, undef, undef, undef, undef, undef, undef, undef, undef, undef, undef, undef, undef, undef, undef, undef, undef, undef, undef, undef, undef, undef, undef, undef, undef, undef, undef, undef, undef, undef, undef, undef, undef, undef, undef, undef, undef, undef, undef, undef, undef, undef, undef, undef, undef, undef, undef, undef, undef, undef, undef, undef, undef, undef], []⟩ : Act) [.inRegion (cO (cL (cR (cL (cL (cL (bodyOf Tryd.f36))))))) [], .code (cR (cL (cL (bodyOf Tryd.f36)))), .code (cR (bodyOf Tryd.f36))]) ((baseD 38).at ⟨#[.pointer (some ⟨N + 4, 0, none⟩), undef, .pointer (some ⟨N + 4, 0, none⟩), undef], []⟩ [.inRegion (cO (bodyOf Tryd.f38)) [1]] :: c :: cs)) w) : False := by
  have W : Gw Tryd.prog false t.Fix (fun _ => False) (fun g _ => g = (G ((base 36).at (⟨#[.pointer (some ⟨N + 4, 0, none⟩), .int .i64 (-1), undef, undef, undef, undef, undef, undef, undef, .int .i64 (-1), .bool true, .pointer (some ⟨N + 4, 0, none⟩), .pointer (some ⟨N + 4, 0, none⟩), .tuple #[], undef, undef, undef, undef, undef, undef, undef, undef, undef, undef, undef, undef, undef, undef, undef, undef, undef, undef, undef, undef, undef, undef, undef, undef, undef, undef, undef, undef, undef, undef, undef, undef, undef, undef, undef, undef, undef, undef, undef, undef, undef, undef, undef, undef, undef, undef, undef, undef, undef, undef, undef, undef, undef, undef, undef, undef, undef, undef, undef, undef, undef, undef, undef, undef, undef, undef, undef, undef, undef, undef, undef, undef, undef, undef, undef, undef, undef, undef, undef, undef, undef, undef, undef, undef, undef, undef, undef, undef, undef, undef, undef, undef, undef, undef, undef, undef, undef, undef, undef, undef, undef, undef, undef], []⟩ : Act) [.inRegion (cO (cL (cR (cL (cL (bodyOf Tryd.f36)))))) [0], .code (cR (cR (cL (cL (bodyOf Tryd.f36))))), .code (cR (bodyOf Tryd.f36))]) ((baseD 38).at ⟨#[.pointer (some ⟨N + 4, 0, none⟩), undef, .pointer (some ⟨N + 4, 0, none⟩), undef], []⟩ [.inRegion (cO (bodyOf Tryd.f38)) [1]] :: c :: cs))) 10 (G ((base 36).at (⟨#[.pointer (some ⟨N + 4, 0, none⟩), .int .i64 (-1), undef, undef, undef, undef, undef, undef, undef, .int .i64 (-1), .bool true, .pointer (some ⟨N + 4, 0, none⟩), .pointer (some ⟨N + 4, 0, none⟩), .tuple #[], undef, undef, undef, undef, undef, undef, undef, undef, undef, undef, undef, undef, undef, undef, undef, undef, undef, undef, undef, undef, undef, undef, undef, undef, undef, undef, undef, undef, undef, undef, undef, undef, undef, undef, undef, undef, undef, undef, undef, undef, undef, undef, undef, undef, undef, undef, undef, undef, undef, undef, undef, undef, undef, undef, undef, undef, undef, undef, undef, undef, undef, undef, undef, undef, undef, undef, undef, undef, undef, undef, undef, undef, undef, undef, undef, undef, undef, undef, undef, undef, undef, undef, undef, undef, undef, undef, undef, undef, undef, undef, undef, undef, undef, undef, undef, undef, undef, undef, undef, undef, undef, undef, undef], []⟩ : Act) [.inRegion (cO (cL (cR (cL (cL (cL (bodyOf Tryd.f36))))))) [], .code (cR (cL (cL (bodyOf Tryd.f36)))), .code (cR (bodyOf Tryd.f36))]) ((baseD 38).at ⟨#[.pointer (some ⟨N + 4, 0, none⟩), undef, .pointer (some ⟨N + 4, 0, none⟩), undef], []⟩ [.inRegion (cO (bodyOf Tryd.f38)) [1]] :: c :: cs)) := by
    simp only [cO, cL, cR, bodyOf, Tryd.f36, Tryd.f38, Option.getD_some]
    refine gw_done ?_
    refine gw_seq ?_
    refine gw_region ?_
    try simp only [List.size_toArray, List.length_cons, List.length_nil, Nat.reduceAdd, Nat.zero_add, List.range, List.range.loop]
    exact Gw.stop fun w hF => rfl
  obtain ⟨g', w', hF', rfl, hL⟩ := reach (F := t.Fix) (fun w d h => fix_at e h d) 10 _ w hF (follow (F := t.Fix) (fun w w' h h' => fix_rw e h h') (fun w d h => fix_at e h d) 10 _ (fun w' h' => h.move (fix_rw e hF h')) W)
  have st := stepG_mark0 (P := Tryd.prog) (main := false) (w := w') (b := base 36) (a := (⟨#[.pointer (some ⟨N + 4, 0, none⟩), .int .i64 (-1), undef, undef, undef, undef, undef, undef, undef, .int .i64 (-1), .bool true, .pointer (some ⟨N + 4, 0, none⟩), .pointer (some ⟨N + 4, 0, none⟩), .tuple #[], undef, undef, undef, undef, undef, undef, undef, undef, undef, undef, undef, undef, undef, undef, undef, undef, undef, undef, undef, undef, undef, undef, undef, undef, undef, undef, undef, undef, undef, undef, undef, undef, undef, undef, undef, undef, undef, undef, undef, undef, undef, undef, undef, undef, undef, undef, undef, undef, undef, undef, undef, undef, undef, undef, undef, undef, undef, undef, undef, undef, undef, undef, undef, undef, undef, undef, undef, undef, undef, undef, undef, undef, undef, undef, undef, undef, undef, undef, undef, undef, undef, undef, undef, undef, undef, undef, undef, undef, undef, undef, undef, undef, undef, undef, undef, undef, undef, undef, undef, undef, undef, undef, undef], []⟩ : Act)) (ops := cO (cL (cR (cL (cL (bodyOf Tryd.f36)))))) (i := 0) (rest := []) (kk := [.code (cR (cR (cL (cL (bodyOf Tryd.f36))))), .code (cR (bodyOf Tryd.f36))]) (cs := (baseD 38).at ⟨#[.pointer (some ⟨N + 4, 0, none⟩), undef, .pointer (some ⟨N + 4, 0, none⟩), undef], []⟩ [.inRegion (cO (bodyOf Tryd.f38)) [1]] :: c :: cs) .disable (by simp) rfl rfl (by k_ne) rfl wgLib.f_disable (x_disable_n wgL) (x_disable_b wgL) (x_disable_x wgL) (x_disable_f wgL)
  have := (hL.step st (by simp [Go.ConcR.mk])).2 _ (Array.mem_singleton.2 rfl)
  exact this rfl
end Go.Proofs.YtpajdmhgonmgoaaDoor

namespace Go.Proofs.YtpajdmhgonmgoaaDoor
open Go.RowKit
set_option linter.unusedVariables false
open Go.Conc Go.ConcN Go.RowKit Go.Conc.Lib Go.ConcR.Gen
open Go.ConcR (KK wgBlock WgAt stA smA rd wr Payload DC0)
set_option linter.unusedSimpArgs false
set_option maxRecDepth 100000 in
set_option maxHeartbeats 3200000 in
theorem stop_r [Payload] {C N n s : Nat} {b : Nat → Nat → Int} {c0 u0 : Nat → Int} {K : Int} {nw L : Nat} {Shun : Loc → Prop} {t : Site} (e : SiteS t C N n s b c0 u0 K nw L Shun) {c : Frame} {cs : List Frame} {w : World} (hF : t.Fix w) (h : Lb Tryd.prog 93 (N + 4) C 132 (vI n) (G ((base 36).at (⟨#[.pointer (some ⟨N + 4, 0, none⟩), .int .i64 (-1), undef, undef, undef, undef, undef, undef, undef, .int .i64 (-1), .bool true, .pointer (some ⟨N + 4, 0, none⟩), .pointer (some ⟨N + 4, 0, none⟩), undef, undef, undef, undef, undef, undef, undef, undef, undef, undef, undef, undef, undef, undef, undef, undef, undef, undef, undef, undef, undef, undef, undef, undef, undef, undef, undef, undef, undef, undef, undef, undef, undef, undef, undef, undef, undef, undef, undef, undef, undef, undef, undef, undef, undef, undef, undef, undef, undef, undef, undef, undef, undef, undef, undef, undef, undef, undef, undef, undef, undef, undef, undef, undef, undef, undef, undef, undef, undef, undef, undef, undef, undef, undef, undef, undef, undef, undef, undef, undef, undef, undef, undef, undef, undef, undef, undef, undef, undef, undef, undef, undef, undef, undef, undef, undef, undef, undef, undef, undef, undef, undef, undef, undef], []⟩ : Act) [.inRegion (cO (cL (cR (cL (cL (cL (bodyOf Tryd.f36))))))) [2], .code (cR (cL (cL (bodyOf Tryd.f36)))), .code (cR (bodyOf Tryd.f36))]) ((baseD 38).at ⟨#[.pointer (some ⟨N + 4, 0, none⟩), undef, .pointer (some ⟨N + 4, 0, none⟩), undef], []⟩ [.inRegion (cO (bodyOf Tryd.f38)) [1]] :: c :: cs)) w) : t.AtR0x (G ((base 36).at (⟨#[.pointer (some ⟨N + 4, 0, none⟩), .int .i64 (-1), undef, undef, undef, undef, undef, undef, undef, .int .i64 (-1), .bool true, .pointer (some ⟨N + 4, 0, none⟩), .pointer (some ⟨N + 4, 0, none⟩), undef, undef, undef, undef, undef, undef, undef, undef, undef, undef, undef, undef, undef, undef, undef, undef, undef, undef, undef, undef, undef, undef, undef, undef, undef, undef, undef, undef, undef, undef, undef, undef, undef, undef, undef, undef, undef, undef, undef, undef, undef, undef, undef, undef, undef, undef, undef, undef, undef, undef, undef, undef, undef, undef, undef, undef, undef, undef, undef, undef, undef, undef, undef, undef, undef, undef, undef, undef, undef, undef, undef, undef, undef, undef, undef, undef, undef, undef, undef, undef, undef, undef, undef, undef, undef, undef, undef, undef, undef, undef, undef, undef, undef, undef, undef, undef, undef, undef, undef, undef, undef, undef, undef, undef], []⟩ : Act) [.inRegion (cO (cL (cR (cL (cL (cL (bodyOf Tryd.f36))))))) [2], .code (cR (cL (cL (bodyOf Tryd.f36)))), .code (cR (bodyOf Tryd.f36))]) ((baseD 38).at ⟨#[.pointer (some ⟨N + 4, 0, none⟩), undef, .pointer (some ⟨N + 4, 0, none⟩), undef], []⟩ [.inRegion (cO (bodyOf Tryd.f38)) [1]] :: c :: cs)) w := by
  have st := stepG_markAt (P := Tryd.prog) (main := false) (w := w) (b := base 36) (a := (⟨#[.pointer (some ⟨N + 4, 0, none⟩), .int .i64 (-1), undef, undef, undef, undef, undef, undef, undef, .int .i64 (-1), .bool true, .pointer (some ⟨N + 4, 0, none⟩), .pointer (some ⟨N + 4, 0, none⟩), undef, undef, undef, undef, undef, undef, undef, undef, undef, undef, undef, undef, undef, undef, undef, undef, undef, undef, undef, undef, undef, undef, undef, undef, undef, undef, undef, undef, undef, undef, undef, undef, undef, undef, undef, undef, undef, undef, undef, undef, undef, undef, undef, undef, undef, undef, undef, undef, undef, undef, undef, undef, undef, undef, undef, undef, undef, undef, undef, undef, undef, undef, undef, undef, undef, undef, undef, undef, undef, undef, undef, undef, undef, undef, undef, undef, undef, undef, undef, undef, undef, undef, undef, undef, undef, undef, undef, undef, undef, undef, undef, undef, undef, undef, undef, undef, undef, undef, undef, undef, undef, undef, undef, undef], []⟩ : Act)) (ops := cO (cL (cR (cL (cL (cL (bodyOf Tryd.f36))))))) (i := 2) (rest := []) (kk := [.code (cR (cL (cL (bodyOf Tryd.f36)))), .code (cR (bodyOf Tryd.f36))]) (cs := (baseD 38).at ⟨#[.pointer (some ⟨N + 4, 0, none⟩), undef, .pointer (some ⟨N + 4, 0, none⟩), undef], []⟩ [.inRegion (cO (bodyOf Tryd.f38)) [1]] :: c :: cs) .releaseMerge (by simp) rfl rfl (by k_ne) rfl wgLib.f_relMerge (x_relMerge_n wgL) (x_relMerge_b wgL) (x_relMerge_x wgL) (x_relMerge_f wgL) (ad := ⟨N + 4, 0, none⟩) (by simp [Act.eval])
  rcases h.release st with ⟨_, _, g', h1, m, h2⟩ | h
  · refine ⟨rfl, g', ?_, m, ?_⟩
    · rw [e.eP, e.eWg]; exact h1
    · unfold Site.WQ
      rw [e.eP, e.ety, e.eWg, e.ecB, e.ecs, e.eci, e.ecv]
      exact WSit.k1 h2
  · exact (no_go e hF h).elim
theorem done_x [Payload] {C N n s : Nat} {b : Nat → Nat → Int} {c0 u0 : Nat → Int} {K : Int} {nw L : Nat} {Shun : Loc → Prop} {t : Site} (e : SiteS t C N n s b c0 u0 K nw L Shun) {g : Goroutine} (hg : t.Loop g) (w : World) : ∃ m, Goes t.P false t.R0 t.Dq t.AtR0x m (g.finishComm t.P #[rcase t.ch t.z] (.recv true) 0 t.z false) w := by
  rw [e.elo] at hg
  obtain ⟨x4, x6, x7, x8, x9, x10, x11, x12, rfl⟩ := hg
  have h := shut_x (N := N) (z := .int .i64 0) (x4 := x4) (x7 := x7) (x8 := x8) (x9 := x9) (x10 := x10) (x11 := x11) (x12 := x12) (Gw.conv (E' := EvR C N) (fun _ h => h.elim) (fun g w hF h => by
    obtain ⟨rfl, h⟩ := h
    exact stop_r e hF h) 40 _ (follow (F := t.Fix) (fun w w' h h' => fix_rw e h h') (fun w d h => fix_at e h d) 40 _ (fun w hF => lib_x e _ w hF) (rel_x e (M := 0) (S := fun g _ => g = _) (Gw.stop fun w hF => rfl))))
  refine ⟨40 + 20, gw_dq e ?_ w⟩
  rw [e.eP, e.ech, e.ez, got_x]
  exact h
end Go.Proofs.YtpajdmhgonmgoaaDoor

namespace Go.Proofs.YtpajdmhgonmgoaaDoor
open Go.RowKit
set_option linter.unusedVariables false
open Go.Conc Go.ConcN Go.RowKit Go.Conc.Lib Go.ConcR.Gen
open Go.ConcR (KK wgBlock WgAt stA smA rd wr Payload DC0)
set_option linter.unusedSimpArgs false
/-- The starter's quiet step lists plain reads of what stands fast, or what the group's Wait says of its semaphore. -/
def EvZ (C N : Nat) (e : Event) : Prop := (∃ a, e = ⟨.cell a, false, false⟩ ∧ rdS C N a) ∨ e = Go.ConcR.mk (.read (smA (N + 4))) ∨ e = Go.ConcR.mk (.write (smA (N + 4)))
theorem gw_d0 [Payload] {C N n s : Nat} {b : Nat → Nat → Int} {c0 u0 : Nat → Int} {K : Int} {nw L : Nat} {Shun : Loc → Prop} {t : Site} (e : SiteS t C N n s b c0 u0 K nw L Shun) {S : Goroutine → World → Prop} {m : Nat} {g : Goroutine} (h : Gw Tryd.prog true t.Fix (EvZ C N) S m g) (w : World) : Goes t.P true t.R0 t.D0 S m g w := by
  have h1 := h w
  have h2 := e.eP
  have h3 := e.erd
  have h4 := e.eWg
  unfold Site.R0 Site.D0
  rw [h2, h3, h4]
  exact h1
end Go.Proofs.YtpajdmhgonmgoaaDoor

namespace Go.Proofs.YtpajdmhgonmgoaaDoor
open Go.RowKit
set_option linter.unusedVariables false
open Go.Conc Go.ConcN Go.RowKit Go.Conc.Lib Go.ConcR.Gen Go.ConcN.Gen
open Go.ConcR (KK wgBlock WgAt stA smA rd wr Payload DC0)
set_option linter.unusedSimpArgs false
theorem gw_said {P : Program} {main : Bool} {F : World → Prop} {E : Event → Prop} {S : Goroutine → World → Prop} {n : Nat} {g g' : Goroutine} {ev : Event} (hs : g.status = .running) (h : ∀ w, stepG P main g w = .go g' w #[ev]) (hE : E ev) (hn : Gw P main F E S n g') : Gw P main F E S (n + 1) g :=
  gw_step hs (fun w _ => ⟨w.drawn, #[ev], h w, fun e he => by rw [Array.mem_singleton] at he; subst he; exact hE⟩) hn
section
variable [Payload] {C N n s : Nat} {b : Nat → Nat → Int} {c0 u0 : Nat → Int} {K : Int} {nw L : Nat} {Shun : Loc → Prop} {t : Site}
theorem at_kdS (e : SiteS t C N n s b c0 u0 K nw L Shun) {j : Nat} {Next : Goroutine → World → Prop} {g g' : Goroutine} (hs : g.status = .running) (h : ∀ w, stepG Tryd.prog true g w = .go g' w #[Go.ConcR.mk .disable]) {m : Nat} (hn : Gw Tryd.prog true t.Fix (EvZ C N) (t.AtA1 j Next) m g') (w : World) : t.AtKdS j Next g w :=
  ⟨hs, g', by rw [e.eP]; exact h w, m, gw_d0 e hn w⟩
theorem at_a1 (e : SiteS t C N n s b c0 u0 K nw L Shun) {j : Nat} {Next : Goroutine → World → Prop} {g g' : Goroutine} (hs : g.status = .running) (h : ∀ w, WgAt 93 (N + 4) w (j * KK) 0 → stepG Tryd.prog true g w = .go g' (w.setCell (stA (N + 4)) (.int .u64 ((j + 1 : Nat) * KK))) #[rd (stA (N + 4)), wr (stA (N + 4))]) {m : Nat} (hn : Gw Tryd.prog true t.Fix (EvZ C N) (t.AtKeS j Next) m g') (w : World) : t.AtA1 j Next g w :=
  ⟨hs, fun hw => ⟨g', by
    rw [e.ety, e.eWg] at hw
    rw [e.eP, e.eWg]; exact h w hw, m, gw_d0 e hn w⟩⟩
theorem at_keS (e : SiteS t C N n s b c0 u0 K nw L Shun) {j : Nat} {Next : Goroutine → World → Prop} {g g' : Goroutine} (hs : g.status = .running) (h : ∀ w, stepG Tryd.prog true g w = .go g' w #[Go.ConcR.mk .enable]) {m : Nat} (hn : Gw Tryd.prog true t.Fix (EvZ C N) (t.AtGo j Next) m g') (w : World) : t.AtKeS j Next g w :=
  ⟨hs, g', by rw [e.eP]; exact h w, m, gw_d0 e hn w⟩
theorem fix_c0 (e : SiteS t C N n s b c0 u0 K nw L Shun) (w : World) (hF : t.Fix w) : ∃ v, w.cell? ⟨N + 4, 0, none⟩ = some v := by
  have := hF.live
  rw [e.ety, e.eWg] at this
  exact Go.ConcN.Gen.WgLive.cell0 this
theorem fix_c1 (e : SiteS t C N n s b c0 u0 K nw L Shun) (w : World) (hF : t.Fix w) : ∃ v, w.cell? ⟨N + 4, 1, none⟩ = some v := by
  have := hF.live
  rw [e.ety, e.eWg] at this
  exact Go.ConcN.Gen.WgLive.cell1 this
end
end Go.Proofs.YtpajdmhgonmgoaaDoor

namespace Go.Proofs.YtpajdmhgonmgoaaDoor
open Go.RowKit
set_option linter.unusedVariables false
open Go.Conc Go.ConcN Go.RowKit Go.Conc.Lib Go.ConcR.Gen Go.ConcN.Gen
open Go.ConcR (KK wgBlock WgAt stA smA rd wr Payload DC0)
set_option linter.unusedSimpArgs false
structure OkT38 (N : Nat) (T : Array Value) : Prop where
  sz : T.size = 38
  s6 : T[6]? = some (.pointer (some ⟨N + 3, 0, none⟩))
theorem okT38_put {N : Nat} {T : Array Value} (h : OkT38 N T) (v : Value) : OkT38 N (T.setIfInBounds 35 v) := ⟨by simp [h.sz], by rw [Array.getElem?_setIfInBounds_ne (by omega)]; exact h.s6⟩
/-- The frame of a round that waits. -/
def IsRdW (N : Nat) (fr : Frame) : Prop := ∃ T, OkT38 N T ∧ fr = (base 23).at ⟨T, []⟩ [.inRegion (cO (cL (cR (cR (cR (cR (cR (cR (cR (bodyOf Tryd.f23)))))))))) [0], .code (cR (cR (cR (cR (cR (cR (cR (cR (bodyOf Tryd.f23)))))))))]
/-- .. and that has waited. -/
def IsRdE (N : Nat) (fr : Frame) : Prop := ∃ T, OkT38 N T ∧ fr = (base 23).at ⟨T, []⟩ [.code (cR (cR (cR (cR (cR (cR (cR (cR (bodyOf Tryd.f23)))))))))]
def FinZ (N : Nat) (cs : List Frame) (g : Goroutine) : Prop := ∃ m, Gw Tryd.prog true (fun _ => True) (fun _ => False) (fun g _ => ∃ fr, IsRdE N fr ∧ g = G fr cs) m g
/-- What is at a round's site besides. -/
structure SiteZ (t : Site) (N : Nat) (cs : List Frame) : Prop where
  ean : t.Anch = fun g => ∃ T fr, T.size = 84 ∧ T[0]? = some (.pointer (some ⟨N + 4, 0, none⟩)) ∧ IsRdW N fr ∧ g = G ((base 41).at ⟨T, []⟩ [.code (cL (cL (cR (bodyOf Tryd.f41)))), .inLoop (cL (cL (cR (bodyOf Tryd.f41)))), .inBlock 0]) (fr :: cs)
  efi : t.Fin = fun g _ => FinZ N cs g
section
variable [Payload] {C N n s : Nat} {b : Nat → Nat → Int} {c0 u0 : Nat → Int} {K : Int} {nw L : Nat} {Shun : Loc → Prop} {t : Site}
theorem gw_dp (e : SiteS t C N n s b c0 u0 K nw L Shun) {S : Goroutine → World → Prop} {m : Nat} {g : Goroutine} (h : Gw Tryd.prog true t.Fix (EvZ C N) S m g) (w : World) : Goes Tryd.prog true t.R0 t.D0 S m g w := by
  have := gw_d0 e h w
  rw [e.eP] at this
  exact this
theorem at_kdW (e : SiteS t C N n s b c0 u0 K nw L Shun) {g g' : Goroutine} (hs : g.status = .running) (h : ∀ w, stepG Tryd.prog true g w = .go g' w #[Go.ConcR.mk .disable]) {m : Nat} (hn : Gw Tryd.prog true t.Fix (EvZ C N) (fun g _ => t.Anch g) m g') (w : World) : t.AtKdW g w :=
  ⟨hs, g', by rw [e.eP]; exact h w, m, gw_d0 e hn w⟩
theorem at_ke (e : SiteS t C N n s b c0 u0 K nw L Shun) {g g' : Goroutine} (hs : g.status = .running) (h : ∀ w, stepG Tryd.prog true g w = .go g' w #[Go.ConcR.mk .enable]) {m : Nat} (hn : Gw Tryd.prog true t.Fix (EvZ C N) t.AtAcq m g') (w : World) : t.AtKe g w :=
  ⟨hs, g', by rw [e.eP]; exact h w, m, gw_d0 e hn w⟩
theorem at_acq (e : SiteS t C N n s b c0 u0 K nw L Shun) {cs : List Frame} (z : SiteZ t N cs) {g g' : Goroutine} (hs : g.status = .running) (h : ∀ w, stepG Tryd.prog true g w = .go g' w #[Go.ConcR.mk (.acquire (stA (N + 4)))]) (hr : g'.status = .running) (hf : FinZ N cs g') (w : World) : t.AtAcq g w :=
  ⟨hs, g', by rw [e.eP, e.eWg]; exact h w, hr, fun w' _ => by rw [z.efi]; exact hf⟩
end
set_option maxRecDepth 100000 in
set_option maxHeartbeats 3200000 in
theorem wait_x [Payload] {C N n s : Nat} {b : Nat → Nat → Int} {c0 u0 : Nat → Int} {K : Int} {nw L : Nat} {Shun : Loc → Prop} {t : Site} (e : SiteS t C N n s b c0 u0 K nw L Shun) {cs : List Frame} (z : SiteZ t N cs) {fr : Frame} (hT' : IsRdW N fr) :
    Gw Tryd.prog true t.Fix (EvZ C N) t.AtKdW 10 (G ((base 41).at ⟨#[.pointer (some ⟨N + 4, 0, none⟩), undef, undef, undef, undef, undef, undef, undef, undef, undef, undef, undef, undef, undef, undef, undef, undef, undef, undef, undef, undef, undef, undef, undef, undef, undef, undef, undef, undef, undef, undef, undef, undef, undef, undef, undef, undef, undef, undef, undef, undef, undef, undef, undef, undef, undef, undef, undef, undef, undef, undef, undef, undef, undef, undef, undef, undef, undef, undef, undef, undef, undef, undef, undef, undef, undef, undef, undef, undef, undef, undef, undef, undef, undef, undef, undef, undef, undef, undef, undef, undef, undef, undef, undef], []⟩ [.code (bodyOf Tryd.f41)]) (fr :: cs)) := by
  simp only [bodyOf, Tryd.f41, Option.getD_some]
  repeat (first
    | refine gw_done ?_
    | (refine gw_opk rfl rfl (by k_ne) ?_; intro w hF K' hK; go_simp; with_reducible refine hK _ ?_ ?_; intro e he; clear hK; simp [go_sem, *] at he; clear hK K' hF; clear w; try walk_nrm)
    | refine gw_seq ?_
    | refine gw_skip ?_
    | (refine gw_region ?_; try simp only [List.size_toArray, List.length_cons, List.length_nil, Nat.reduceAdd, Nat.zero_add, List.range, List.range.loop])
    | (refine gw_unwanted rfl rfl ?_; walk_nrm)
    | (refine gw_cond true ?_ ?_; (first | rfl | (simp [Act.eval, *]; done)); simp only [if_true, ↓reduceIte])
    | (refine gw_cond false ?_ ?_; (first | rfl | (simp [Act.eval, *]; done)); simp only [if_false, Bool.false_eq_true, ↓reduceIte])
    | refine gw_inBlock ?_
    | refine gw_block ?_
    | refine gw_loop ?_)
  refine Gw.stop (fun w hF => ?_)
  refine at_kdW (m := 20) e rfl (fun w => stepG_mark0 .disable (by simp) rfl rfl (by k_ne) rfl wgLib.f_disable (x_disable_n wgL) (x_disable_b wgL) (x_disable_x wgL) (x_disable_f wgL)) ?_ w
  walk_nrm
  refine gw_done ?_
  refine gw_block ?_
  refine gw_loop ?_
  refine Gw.stop (fun w hF => ?_)
  rw [z.ean]
  exact ⟨_, fr, by simp, by simp, hT', rfl⟩
end Go.Proofs.YtpajdmhgonmgoaaDoor

