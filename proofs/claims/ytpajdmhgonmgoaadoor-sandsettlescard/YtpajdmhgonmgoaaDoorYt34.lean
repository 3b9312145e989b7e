/-
  What the last text of this claim leans on, part 34: Kdd, Kde, Ke6.
-/
import Derived.Test.YtpajdmhgonmgoaaDoorYt31
import Derived.Test.YtpajdmhgonmgoaaDoorYt33
import Derived.Test.YtpajdmhgonmgoaaDoorYt25
import Derived.Deep.RegionWith
namespace Go.Proofs.YtpajdmhgonmgoaaDoor
open Go.RowKit
set_option linter.unusedVariables false
open Go.Conc Go.ConcN Go.RowKit Go.Conc.Lib Go.ConcR.Gen
open Go.ConcR (KK wgBlock WgAt stA smA rd wr Payload DC0)
set_option linter.unusedSimpArgs false
/-- Crowd stands at its loop's head. -/
def HeadC (nw C Rb : Nat) (b₀ : Frame) (a₀ : Act) (ops₀ : Array Oper) (i₀ : Nat) (rest₀ : List Nat) (k₀ : List Item) (cs : List Frame) (g : Goroutine) : Prop := ∃ x0 x1 x2 x4 x5 x6 x7 x10 x12 x13 x14 x15 x16 x17 x18 x19 x20 x21 x22 x23 x24 x25 x26 x27 x28 x29 x30 x31 x32 x33 x34 x35 x36 : Value, g = G ((base 10).at ⟨#[x0, x1, x2, (.int .i64 (nw : Int)), x4, x5, x6, x7, (Value.pointer (some ⟨Rb, 0, none⟩)), Value.nilIface, x10, (Value.pointer (some ⟨C, 0, none⟩)), x12, x13, x14, x15, x16, x17, x18, x19, x20, x21, x22, x23, x24, x25, x26, x27, x28, x29, x30, x31, x32, x33, x34, x35, x36], []⟩ [.code (cL (cL (cL (cR (cR (cR (cR (bodyOf Tryd.f10)))))))), .inLoop (cL (cL (cL (cR (cR (cR (cR (bodyOf Tryd.f10)))))))), .inBlock 0, .code (cR (cR (cR (cR (cR (bodyOf Tryd.f10))))))]) (b₀.at a₀ (.inRegion ops₀ (i₀ :: rest₀) :: k₀) :: cs)
/-- Crowd has a round done. -/
def CallC (nw C Rb : Nat) (b₀ : Frame) (a₀ : Act) (ops₀ : Array Oper) (i₀ : Nat) (rest₀ : List Nat) (k₀ : List Item) (cs : List Frame) (a : Act) : Prop := ∃ x0 x1 x2 x4 x5 x6 x7 x10 x12 x13 x14 x15 x16 x17 x18 x19 x20 x21 x22 x23 x24 x25 x26 x27 x28 x29 x30 x31 x34 x35 x36 : Value, a = ⟨#[x0, x1, x2, (.int .i64 (nw : Int)), x4, x5, x6, x7, (Value.pointer (some ⟨Rb, 0, none⟩)), Value.nilIface, x10, (Value.pointer (some ⟨C, 0, none⟩)), x12, x13, x14, x15, x16, x17, x18, x19, x20, x21, x22, x23, x24, x25, x26, x27, x28, x29, x30, x31, (Value.pointer (some ⟨C, 0, none⟩)), (.int .i64 (nw : Int)), x34, x35, x36], []⟩
set_option maxRecDepth 100000 in
set_option maxHeartbeats 3200000 in
/-- From the head into a round. -/
theorem head_x {Shun : Loc → Prop} {B nw C Rb : Nat} {b₀ : Frame} {a₀ : Act} {ops₀ : Array Oper} {i₀ : Nat} {rest₀ : List Nat} {k₀ : List Item} {cs : List Frame} {g : Goroutine} (hg : HeadC nw C Rb b₀ a₀ ops₀ i₀ rest₀ k₀ cs g) (w0 : World) :
    Gp Tryd.prog (EvL Shun B) (fun g w => AtRel w0 w ∧ ∃ a, CallC nw C Rb b₀ a₀ ops₀ i₀ rest₀ k₀ cs a ∧ IsRoundG C nw ((base 10).at a (.inRegion (cO (cL (cL (cL (cL (cL (cR (cR (cR (cR (bodyOf Tryd.f10))))))))))) (2 :: []) :: [.code (cR (cL (cL (cL (cL (cR (cR (cR (cR (bodyOf Tryd.f10)))))))))), .code (cR (cL (cL (cL (cR (cR (cR (cR (bodyOf Tryd.f10))))))))), .inLoop (cL (cL (cL (cR (cR (cR (cR (bodyOf Tryd.f10)))))))), .inBlock 0, .code (cR (cR (cR (cR (cR (bodyOf Tryd.f10))))))]) :: (b₀.at a₀ (.inRegion ops₀ (i₀ :: rest₀) :: k₀) :: cs)) g) 20 g (AtRel w0) := by
  have hc := atRel_c
  obtain ⟨x0, x1, x2, x4, x5, x6, x7, x10, x12, x13, x14, x15, x16, x17, x18, x19, x20, x21, x22, x23, x24, x25, x26, x27, x28, x29, x30, x31, x32, x33, x34, x35, x36, rfl⟩ := hg
  unfold IsRoundG
  simp only [cO, cL, cR, bodyOf, Tryd.f10, Option.getD_some]
  refine gp_seq (hc _) ?_
  refine gp_seq (hc _) ?_
  refine gp_region (hc _) ?_
  try simp only [List.size_toArray, List.length_cons, List.length_nil, Nat.reduceAdd, Nat.zero_add, List.range, List.range.loop]
  refine gp_opk (hc _) rfl rfl (by k_ne) (fun w hF K' hK => ?_)
  go_simp
  with_reducible refine hK _ (fun e' he => ?_) ?_
  · (clear hK; simp [go_sem, *] at he)
  clear hK K' hF
  clear w
  try walk_nrm
  refine gp_opk (hc _) rfl rfl (by k_ne) (fun w hF K' hK => ?_)
  go_simp
  with_reducible refine hK _ (fun e' he => ?_) ?_
  · (clear hK; simp [go_sem, *] at he)
  clear hK K' hF
  clear w
  try walk_nrm

  refine gp_call (hc _) rfl rfl (by k_ne) rfl Tryd.func23 rfl rfl ?_
  walk_nrmf Tryd.f23
  refine Gp.stop (hc _) (fun w hF => ⟨hF, _, ?_, rfl⟩)
  exact ⟨_, _, _, _, _, _, _, _, _, _, _, _, _, _, _, _, _, _, _, _, _, _, _, _, _, _, _, _, _, _, _, rfl⟩
set_option maxRecDepth 100000 in
set_option maxHeartbeats 3200000 in
/-- A round that toppled some: back to the head. -/
theorem again_x {Shun : Loc → Prop} {B nw C Rb : Nat} {b₀ : Frame} {a₀ : Act} {ops₀ : Array Oper} {i₀ : Nat} {rest₀ : List Nat} {k₀ : List Item} {cs : List Frame} {a : Act} (ha : CallC nw C Rb b₀ a₀ ops₀ i₀ rest₀ k₀ cs a) (w0 : World) :
    Gp Tryd.prog (EvL Shun B) (fun g w => AtRel w0 w ∧ HeadC nw C Rb b₀ a₀ ops₀ i₀ rest₀ k₀ cs g) 20 (G ((base 10).at (a.put ((((cO (cL (cL (cL (cL (cL (cR (cR (cR (cR (bodyOf Tryd.f10))))))))))) : Array Oper)[2]?).bind (·.dst)) (.bool true)) (.inRegion (cO (cL (cL (cL (cL (cL (cR (cR (cR (cR (bodyOf Tryd.f10))))))))))) [] :: [.code (cR (cL (cL (cL (cL (cR (cR (cR (cR (bodyOf Tryd.f10)))))))))), .code (cR (cL (cL (cL (cR (cR (cR (cR (bodyOf Tryd.f10))))))))), .inLoop (cL (cL (cL (cR (cR (cR (cR (bodyOf Tryd.f10)))))))), .inBlock 0, .code (cR (cR (cR (cR (cR (bodyOf Tryd.f10))))))])) (b₀.at a₀ (.inRegion ops₀ (i₀ :: rest₀) :: k₀) :: cs)) (AtRel w0) := by
  have hc := atRel_c
  obtain ⟨x0, x1, x2, x4, x5, x6, x7, x10, x12, x13, x14, x15, x16, x17, x18, x19, x20, x21, x22, x23, x24, x25, x26, x27, x28, x29, x30, x31, x34, x35, x36, rfl⟩ := ha
  unfold HeadC
  simp only [cO, cL, cR, bodyOf, Tryd.f10, Option.getD_some]
  walk_nrm
  refine gp_done (hc _) ?_
  refine gp_cond (hc _) true ?_ ?_
  · (first | rfl | (simp [Act.eval, *]; done))
  simp only [if_true, ↓reduceIte]
  refine gp_skip (hc _) ?_
  refine gp_block (hc _) ?_
  refine gp_skip (hc _) ?_
  refine gp_inBlock (hc _) ?_
  refine gp_inLoop (hc _) ?_
  exact Gp.stop (hc _) (fun w hF => ⟨hF, _, _, _, _, _, _, _, _, _, _, _, _, _, _, _, _, _, _, _, _, _, _, _, _, _, _, _, _, _, _, _, _, _, rfl⟩)
theorem crowd_res (w : World) (T : Array Value) (g : Nat) (x y : Value) (hp : T.getD 8 undef = .pointer (some ⟨g, 0, none⟩)) (h9 : T.getD 9 undef = Value.nilIface) (hg : w.heap[g]? = some (.cells #[x, y] 33 (0, 0))) : (results Tryd.f10 T).run Tryd.prog w = .ok (.tuple #[.agg #[x, y], Value.nilIface]) w ∧ (results Tryd.f10 T).events Tryd.prog w #[] = #[⟨.cell ⟨g, 0, none⟩, false, false⟩, ⟨.cell ⟨g, 1, none⟩, false, false⟩] := by
  obtain ⟨k1, k2, _, _, k5⟩ := set2 (x := x) (y := y) hg
  have hp' : T[8]?.getD undef = .pointer (some ⟨g, 0, none⟩) := by simpa using hp
  have h9' : T[9]?.getD undef = Value.nilIface := by simpa using h9
  constructor
  · simp [results, Tryd.f10, hp', h9', asAddr, go_sem, loadCells, k1, k5, Addr.add]
  · simp [results, Tryd.f10, hp', h9', asAddr, go_sem, loadCells, k1, k5, Addr.add]
/-- What Crowd leaves. -/
def CrAt (Rb : Nat) (w0 : World) (N n : Nat) (f1 f2 : Nat → Int) (b₀ : Frame) (a₀ : Act) (ops₀ : Array Oper) (i₀ : Nat) (rest₀ : List Nat) (k₀ : List Item) (cs : List Frame) (g : Goroutine) (w : World) : Prop :=
  ∃ g1 g2 w', PiOut w0 N n f1 f2 g1 g2 w' ∧ (∀ k, k ≠ Rb → w.heap[k]? = w'.heap[k]?) ∧ w.heap.size = w'.heap.size ∧ (w.os = w'.os ∧ w.tape = w'.tape ∧ w.output = w'.output) ∧ g = G (b₀.at (a₀.put ((ops₀[i₀]?).bind (·.dst)) (.tuple #[.agg #[slV g1 n, slV g2 n], Value.nilIface])) (.inRegion ops₀ rest₀ :: k₀)) cs
set_option maxRecDepth 100000 in
set_option maxHeartbeats 6400000 in
/-- A round that toppled none: Crowd tells what lies there. -/
theorem last_x {Shun : Loc → Prop} {N n nw C Rb : Nat} {f1 f2 : Nat → Int} {b₀ : Frame} {a₀ : Act} {ops₀ : Array Oper} {i₀ : Nat} {rest₀ : List Nat} {k₀ : List Item} {cs : List Frame} {a : Act} (ha : CallC nw C Rb b₀ a₀ ops₀ i₀ rest₀ k₀ cs a) {w0 : World} {x' y' : Value}
    (hC : C < N) (hn10 : n ≤ 10) (hS : ∀ a, N ≤ a.block → ¬ Shun (.cell a)) (hx1 : ∀ q, q < n → w0.cell? ⟨C, 112 + q, none⟩ = some (.int .i64 (f1 q))) (hx2 : ∀ q, q < n → w0.cell? ⟨C, 122 + q, none⟩ = some (.int .i64 (f2 q))) (hN : w0.heap.size = N) (hSC : ¬ Shun (.cell ⟨C, 0, none⟩)) (hx : w0.cell? ⟨C, 0, none⟩ = some (.int .i64 (n : Int)))
    (hR : w0.heap[Rb]? = some (.cells #[x', y'] 33 (0, 0))) (hRN : Rb < N) (hSR : ∀ a : Addr, a.block = Rb → ¬ Shun (.cell a)) :
    ∃ M, Gp Tryd.prog (EvL Shun (N + 4)) (CrAt Rb w0 N n f1 f2 b₀ a₀ ops₀ i₀ rest₀ k₀ cs) M (G ((base 10).at (a.put ((((cO (cL (cL (cL (cL (cL (cR (cR (cR (cR (bodyOf Tryd.f10))))))))))) : Array Oper)[2]?).bind (·.dst)) (.bool false)) (.inRegion (cO (cL (cL (cL (cL (cL (cR (cR (cR (cR (bodyOf Tryd.f10))))))))))) [] :: [.code (cR (cL (cL (cL (cL (cR (cR (cR (cR (bodyOf Tryd.f10)))))))))), .code (cR (cL (cL (cL (cR (cR (cR (cR (bodyOf Tryd.f10))))))))), .inLoop (cL (cL (cL (cR (cR (cR (cR (bodyOf Tryd.f10)))))))), .inBlock 0, .code (cR (cR (cR (cR (cR (bodyOf Tryd.f10))))))])) (b₀.at a₀ (.inRegion ops₀ (i₀ :: rest₀) :: k₀) :: cs)) (AtRel w0) := by
  have hc := atRel_c
  obtain ⟨x0, x1, x2, x4, x5, x6, x7, x10, x12, x13, x14, x15, x16, x17, x18, x19, x20, x21, x22, x23, x24, x25, x26, x27, x28, x29, x30, x31, x34, x35, x36, rfl⟩ := ha
  have pl := piled_x (b₀ := base 10) (a₀ := ⟨#[x0, x1, x2, (.int .i64 (nw : Int)), x4, x5, x6, x7, (Value.pointer (some ⟨Rb, 0, none⟩)), Value.nilIface, x10, (Value.pointer (some ⟨C, 0, none⟩)), x12, x13, x14, x15, x16, x17, x18, x19, x20, x21, x22, x23, x24, x25, x26, x27, x28, x29, x30, x31, (Value.pointer (some ⟨C, 0, none⟩)), (.int .i64 (nw : Int)), .bool false, (Value.pointer (some ⟨C, 0, none⟩)), x36], []⟩) (ops₀ := (cO (cL (cR (cR (cR (cR (cR (bodyOf Tryd.f10))))))))) (i₀ := 1) (rest₀ := [2, 3]) (k₀ := [.code (cR (cR (cR (cR (cR (cR (bodyOf Tryd.f10)))))))]) (cs := (b₀.at a₀ (.inRegion ops₀ (i₀ :: rest₀) :: k₀) :: cs)) hC hn10 hS hx1 hx2 hN hSC hx
  have tail : ∀ g w, PiAt w0 N n f1 f2 (base 10) ⟨#[x0, x1, x2, (.int .i64 (nw : Int)), x4, x5, x6, x7, (Value.pointer (some ⟨Rb, 0, none⟩)), Value.nilIface, x10, (Value.pointer (some ⟨C, 0, none⟩)), x12, x13, x14, x15, x16, x17, x18, x19, x20, x21, x22, x23, x24, x25, x26, x27, x28, x29, x30, x31, (Value.pointer (some ⟨C, 0, none⟩)), (.int .i64 (nw : Int)), .bool false, (Value.pointer (some ⟨C, 0, none⟩)), x36], []⟩ (cO (cL (cR (cR (cR (cR (cR (bodyOf Tryd.f10)))))))) 1 [2, 3] [.code (cR (cR (cR (cR (cR (cR (bodyOf Tryd.f10)))))))] (b₀.at a₀ (.inRegion ops₀ (i₀ :: rest₀) :: k₀) :: cs) g w → Gp Tryd.prog (EvL Shun (N + 4)) (CrAt Rb w0 N n f1 f2 b₀ a₀ ops₀ i₀ rest₀ k₀ cs) 20 g (AtRel w) := by
    rintro g w1 ⟨g1, g2, po, rfl⟩
    have hR1 : w1.heap[Rb]? = some (.cells #[x', y'] 33 (0, 0)) := (po.old Rb hRN).trans hR
    simp only [cO, cL, cR, bodyOf, Tryd.f10, Option.getD_some]
    walk_nrm
    obtain ⟨w2, hw2⟩ : ∃ w2, w2 = (w1.setCell ⟨Rb, 0, none⟩ (slV g1 n)).setCell ⟨Rb, 1, none⟩ (slV g2 n) := ⟨_, rfl⟩
    refine gp_valw (F' := AtRel w2) (hc _) rfl rfl (by k_ne) undef (fun w hF => ?_) ?_
    · obtain ⟨d, rfl⟩ := hF
      refine ⟨w2.at d, Or.inr ⟨?_, rfl⟩, fun e he => ?_, ⟨d, rfl⟩⟩
      · rw [(st_run (w := w1.at d) (g := Rb) (a1 := some ⟨g1, 0, none⟩) (n1 := n) (m1 := n) (a2 := some ⟨g2, 0, none⟩) (n2 := n) (m2 := n) hR1 (by simp) (by simp [slV]) rfl).1, hw2]
        rfl
      · rw [(st_run (w := w1.at d) (g := Rb) (a1 := some ⟨g1, 0, none⟩) (n1 := n) (m1 := n) (a2 := some ⟨g2, 0, none⟩) (n2 := n) (m2 := n) hR1 (by simp) (by simp [slV]) rfl).2] at he
        exact mem_two he (evL_cell _ _ (hSR _ rfl) (by show Rb < N + 4; omega)) (evL_cell _ _ (hSR _ rfl) (by show Rb < N + 4; omega))
    walk_nrm
    refine gp_opk (hc _) rfl rfl (by k_ne) (fun w hF K' hK => ?_)
    go_simp
    with_reducible refine hK _ (fun e' he => ?_) ?_
    · (clear hK; simp [go_sem, *] at he)
    clear hK K' hF
    clear w
    try walk_nrm
    refine gp_done (hc _) ?_

    have r2 : w2.heap[Rb]? = some (.cells #[slV g1 n, slV g2 n] 33 (0, 0)) := by
      rw [hw2]
      have k1 := heap_setCell_same w1 Rb 0 _ _ (slV g1 n) hR1
      exact heap_setCell_same _ Rb 1 _ _ (slV g2 n) k1
    have oth : ∀ k, k ≠ Rb → w2.heap[k]? = w1.heap[k]? := fun k hk => by rw [hw2, hSet _ _ _ _ hk, hSet _ _ _ _ hk]
    refine gp_ret (hc _) ?_
    refine gp_leaveR (hc _) (v := .tuple #[.agg #[slV g1 n, slV g2 n], Value.nilIface]) rfl rfl Tryd.func10 (fun w hF => ?_) ?_
    · obtain ⟨d, rfl⟩ := hF
      refine ⟨(crowd_res (w2.at d) _ Rb (slV g1 n) (slV g2 n) (by simp) (by simp) r2).1, fun e he => ?_⟩
      exact mem_two (Eq.mp (congrArg (fun x => e ∈ x) (crowd_res (w2.at d) _ Rb (slV g1 n) (slV g2 n) (by simp) (by simp) r2).2) he) (evL_cell _ _ (hSR _ rfl) (by show Rb < N + 4; omega)) (evL_cell _ _ (hSR _ rfl) (by show Rb < N + 4; omega))
    refine Gp.stop (hc _) (fun w hF => ⟨g1, g2, w1, po, ?_, ?_, ?_, rfl⟩)
    · obtain ⟨d, rfl⟩ := hF
      exact oth
    · obtain ⟨d, rfl⟩ := hF
      show w2.heap.size = _
      rw [hw2]; simp
    · obtain ⟨d, rfl⟩ := hF
      rw [hw2]; exact ⟨rfl, rfl, rfl⟩
  have both := gp_then pl tail
  refine ⟨700 * n + 700, ?_⟩
  simp only [cO, cL, cR, bodyOf, Tryd.f10, Option.getD_some] at both ⊢
  walk_nrm
  refine gp_done (hc _) ?_
  refine gp_cond (hc _) false ?_ ?_
  · (first | rfl | (simp [Act.eval, *]; done))
  simp only [if_false, Bool.false_eq_true, ↓reduceIte]
  refine gp_exit (hc _) rfl ?_
  refine gp_seq (hc _) ?_
  refine gp_region (hc _) ?_
  try simp only [List.size_toArray, List.length_cons, List.length_nil, Nat.reduceAdd, Nat.zero_add, List.range, List.range.loop]
  refine gp_opk (hc _) rfl rfl (by k_ne) (fun w hF K' hK => ?_)
  go_simp
  with_reducible refine hK _ (fun e' he => ?_) ?_
  · (clear hK; simp [go_sem, *] at he)
  clear hK K' hF
  clear w
  try walk_nrm

  refine gp_call (hc _) rfl rfl (by k_ne) rfl Tryd.func24 rfl rfl ?_
  walk_nrmf Tryd.f24
  simp only [Tryd.f24, Option.getD_some] at both
  exact Gp.mono both (by omega)
end Go.Proofs.YtpajdmhgonmgoaaDoor

namespace Go.Proofs.YtpajdmhgonmgoaaDoor
open Go.RowKit
set_option linter.unusedVariables false
open Go.Conc Go.ConcN Go.RowKit
open Go.ConcR (KK wgBlock WgAt stA smA rd wr Payload DC0)
set_option linter.unusedSimpArgs false
/-- What is shunned: atomic cells of the crowd, and what was made behind it. -/
structure ShOk (C N0 : Nat) (Shun : Loc → Prop) (N : Nat) : Prop where
  low : ∀ l, Shun l → l.low N
  cell : ∀ a, Shun (.cell a) → (a.block = C ∧ 112 ≤ a.off) ∨ N0 ≤ a.block
theorem ShOk.none (C N0 N : Nat) : ShOk C N0 (fun _ => False) N := ⟨fun _ h => h.elim, fun _ h => h.elim⟩
theorem ShOk.next {C N0 N : Nat} {Shun : Loc → Prop} (h : ShOk C N0 Shun N) (hC : C < N) (hN : N0 ≤ N) : ShOk C N0 (ShR Shun C N) (N + 5) := by
  refine ⟨fun l hl => ?_, fun a ha => ?_⟩
  · rcases hl with hl | ⟨a, rfl, ha⟩ | rfl
    · exact Loc.low_mono (by omega) (h.low l hl)
    · show a.block < N + 5
      rcases ha with (⟨q, hq, rfl⟩ | ⟨q, hq, rfl⟩ | rfl) | ha
      · show C < N + 5; omega
      · show C < N + 5; omega
      · show N + 3 < N + 5; omega
      · omega
    · show N + 1 < N + 5; omega
  · rcases ha with hl | ⟨a', ea, ha⟩ | ha
    · exact h.cell a hl
    · injection ea with ea
      subst ea
      rcases ha with (⟨q, hq, rfl⟩ | ⟨q, hq, rfl⟩ | rfl) | ha
      · exact Or.inl ⟨rfl, by show 112 ≤ 112 + q; omega⟩
      · exact Or.inl ⟨rfl, by show 112 ≤ 122 + q; omega⟩
      · exact Or.inr (by show N0 ≤ N + 3; omega)
      · exact Or.inr (by omega)
    · cases ha
/-- What is shunned are cells and channels. -/
structure ShCh (Shun : Loc → Prop) (w : World) : Prop where
  kind : ∀ l, Shun l → (∃ a, l = .cell a) ∨ ∃ r, l = .obj r
  chan : ∀ r, Shun (.obj r) → ∃ o, w.heap[r]? = some o ∧ o.isChan = true
theorem ShCh.none (w : World) : ShCh (fun _ => False) w := ⟨fun _ h => h.elim, fun _ h => h.elim⟩
theorem ShCh.next {C N : Nat} {Shun : Loc → Prop} {w w' : World} (h : ShCh Shun w) (hl : ∀ r, Shun (.obj r) → r < N) (hC : ∀ r, Shun (.obj r) → r ≠ C) (old : ∀ k, k < N → k ≠ C → w'.heap[k]? = w.heap[k]?) (hn : ∃ o, w'.heap[N + 1]? = some o ∧ o.isChan = true) : ShCh (ShR Shun C N) w' := by
  refine ⟨fun l hl => ?_, fun r hr => ?_⟩
  · rcases hl with hl | ⟨a, rfl, _⟩ | rfl
    · exact h.kind l hl
    · exact Or.inl ⟨a, rfl⟩
    · exact Or.inr ⟨_, rfl⟩
  · rcases hr with hr | ⟨a, e, _⟩ | e
    · obtain ⟨o, h1, h2⟩ := h.chan r hr
      exact ⟨o, (old r (hl r hr) (hC r hr)).trans h1, h2⟩
    · cases e
    · injection e with e
      subst e
      exact hn
/-- What is asked of a pile that a crowd settles. -/
structure PileC (n s : Nat) (b : Nat → Nat → Int) (c0 : Nat → Int) (K : Int) : Prop where
  gr : GrS n s b
  n10 : n ≤ 10
  c0p : ∀ k, k < n → 0 ≤ c0 k
  sum : smS n c0 ≤ K
  K5 : K ≤ 100000
  deg : ∀ p, p < n → p ≠ s → 1 ≤ smS n (b p)
theorem PileC.at {n s : Nat} {b : Nat → Nat → Int} {c0 u0 : Nat → Int} {K : Int} (P : PileC n s b c0 K) (h : ∀ k, k < n → 0 ≤ u0 k) : Pile n s b c0 u0 (itS n s) K :=
  ⟨P.gr, P.n10, P.c0p, P.sum, P.K5, fun p hp => by
    have := List.mem_filter.1 hp
    exact ⟨List.mem_range.1 this.1, by simpa using this.2⟩, P.deg, h⟩
/-- What Crowd has done when it returns. -/
structure CrowdOut (C N0 Rb n s : Nat) (b : Nat → Nat → Int) (c0 : Nat → Int) (b₀ : Frame) (a₀ : Act) (ops₀ : Array Oper) (i₀ : Nat) (rest₀ : List Nat) (k₀ : List Item) (cs : List Frame) (w : World) (m' : Machine) (t' : Trace) (Shun' : Loc → Prop) (N1 : Nat) (g' : Goroutine) (w' wl : World) (u : Nat → Int) : Prop where
  bes : Bes Tryd.prog Shun' (N1 + 4) g' w' m' t'
  pl : PlS n s b c0 u
  still : stillS n s b c0 u
  out : CrAt Rb wl N1 n (chS n s b c0 u) u b₀ a₀ ops₀ i₀ rest₀ k₀ cs g' w'
  big : N0 ≤ N1
  sh : ShOk C N0 Shun' N1
  os : wl.os = w.os ∧ wl.tape = w.tape ∧ wl.output = w.output
  old : ∀ k, k < N0 → k ≠ C → wl.heap[k]? = w.heap[k]?
  chs : ShCh Shun' wl
theorem crowd_tail {C N0 Rb n s nw : Nat} {b : Nat → Nat → Int} {c0 : Nat → Int} {K : Int} (P : PileC n s b c0 K) (h1 : 1 ≤ nw) (h2 : nw < 1000) (hC0 : C < N0) (hR0 : Rb < N0) (hRC : Rb ≠ C) {x' y' : Value} {b₀ : Frame} {a₀ : Act} {ops₀ : Array Oper} {i₀ : Nat} {rest₀ : List Nat} {k₀ : List Item} {cs : List Frame} :
    ∀ (μ : Nat) (u0 : Nat → Int) (Shun : Loc → Prop) (w : World) (m : Machine) (t : Trace) (g : Goroutine), (smS n (fun _ => K * ((n - 1 : Nat) : Int)) - smS n u0).toNat = μ → PlS n s b c0 u0 → (∀ k, k < n → 0 ≤ u0 k) → CwAt C n s b c0 u0 w → ShOk C N0 Shun w.heap.size → ShCh Shun w → N0 ≤ w.heap.size → w.heap[Rb]? = some (.cells #[x', y'] 33 (0, 0)) → HeadC nw C Rb b₀ a₀ ops₀ i₀ rest₀ k₀ cs g → Bes Tryd.prog Shun w.heap.size g w m t →
      ∃ N m' t' Shun' N1 g' w' wl u, runNT Tryd.prog N m t = (.next m', t') ∧ CrowdOut C N0 Rb n s b c0 b₀ a₀ ops₀ i₀ rest₀ k₀ cs w m' t' Shun' N1 g' w' wl u := by
  intro μ
  induction μ using Nat.strongRecOn with
  | _ μ ih =>
    intro u0 Shun w m t g hμ pl up hcw hsh hsc hN hR hg hB
    have hC : C < w.heap.size := hcw.lt
    obtain ⟨N1, m1, t1, g1, w1, r1, ⟨hw1, a, ha, hg1⟩, hb1⟩ := bes_walk (head_x (Shun := Shun) (B := w.heap.size) hg w) (atRel_refl w) hB
    obtain ⟨d1, rfl⟩ := hw1
    have hG : ∀ j, j < 112 → ¬ Shun (.cell ⟨C, j, none⟩) := fun j hj hs => by
      rcases hsh.cell _ hs with ⟨_, h⟩ | h
      · have h' : 112 ≤ j := h
        omega
      · have h' : N0 ≤ C := h
        omega
    have hcw1 : CwAt C n s b c0 u0 (w.at d1) := hcw.on rfl
    obtain ⟨N2, m2, t2, w2, u, v, r2, hb2, hk, hcw2, pl2, ge, hv, hst, hcn⟩ := round_run (w := w.at d1) (P.at up) pl h1 h2 hcw1 hsh.low hG hg1 hb1
    have hk1 : w2.heap.size = w.heap.size + 5 := hk.2.2.2.1
    have hkold : ∀ k, k < w.heap.size → k ≠ C → w2.heap[k]? = w.heap[k]? := hk.2.2.2.2
    have hkos : w2.os = w.os ∧ w2.tape = w.tape ∧ w2.output = w.output := ⟨hk.1, hk.2.1, hk.2.2.1⟩
    have hsh2 : ShOk C N0 (ShR Shun C w.heap.size) (w.heap.size + 5) := hsh.next hC hN
    have hsc2 : ShCh (ShR Shun C w.heap.size) w2 := hsc.next (fun r hr => hsh.low _ hr) (fun r hr e => by
      obtain ⟨o, q1, q2⟩ := hsc.chan r hr
      obtain ⟨cs, q3, _⟩ := hcw.blk
      rw [e, q3] at q1
      injection q1 with q1
      subst q1
      cases q2) hkold hcn
    have hup : ∀ k, k < n → 0 ≤ u k := fun k hk => Int.le_trans (up k hk) (ge k hk)
    have hR2 : w2.heap[Rb]? = some (.cells #[x', y'] 33 (0, 0)) := (hkold Rb (by omega) hRC).trans hR
    have hv0 : 0 ≤ v := by
      have := smS_le (f := u0) (g := u) (n := n) ge
      omega
    have hle : smS n u ≤ smS n (fun _ => K * ((n - 1 : Nat) : Int)) := smS_le fun k hk => pl2.few P.gr P.c0p P.sum k hk
    by_cases hvp : 0 < v
    · rw [decide_eq_true hvp] at hb2
      have hb2' : Bes Tryd.prog (ShR Shun C w.heap.size) (w.heap.size + 5) _ w2 m2 t2 := hb2
      obtain ⟨N3, m3, t3, g3, w3, r3, ⟨hw3, hg3⟩, hb3⟩ := bes_walk (again_x (Shun := ShR Shun C w.heap.size) (B := w.heap.size + 5) ha w2) (atRel_refl w2) hb2'
      obtain ⟨d3, rfl⟩ := hw3
      have hsz3 : (w2.at d3).heap.size = w.heap.size + 5 := hk1
      obtain ⟨N4, m4, t4, Sh4, N5, g4, w4, wl, u4, r4, ho⟩ := ih (smS n (fun _ => K * ((n - 1 : Nat) : Int)) - smS n u).toNat (by omega) u (ShR Shun C w.heap.size) (w2.at d3) m3 t3 g3 rfl pl2 hup (hcw2.on rfl) (by rw [hsz3]; exact hsh2) ⟨hsc2.kind, hsc2.chan⟩ (by rw [hsz3]; omega) hR2 hg3 (by rw [hsz3]; exact hb3)
      refine ⟨N1 + (N2 + (N3 + N4)), m4, t4, Sh4, N5, g4, w4, wl, u4, ?_, ⟨ho.bes, ho.pl, ho.still, ho.out, ho.big, ho.sh, ⟨ho.os.1.trans hkos.1, ho.os.2.1.trans hkos.2.1, ho.os.2.2.trans hkos.2.2⟩, (fun k hk hkc => (ho.old k hk hkc).trans (hkold k (by omega) hkc)), ho.chs⟩⟩
      rw [runNT_then r1, runNT_then r2, runNT_then r3]; exact r4
    · have hz : v = 0 := by omega
      rw [decide_eq_false hvp] at hb2
      have hb2' : Bes Tryd.prog (ShR Shun C w.heap.size) (w.heap.size + 5) _ w2 m2 t2 := hb2
      obtain ⟨M, hM⟩ := last_x (Shun := ShR Shun C w.heap.size) (N := w.heap.size + 5) (n := n) (f1 := chS n s b c0 u) (f2 := u) ha (w0 := w2) (by omega) P.n10 (fun a ha2 hs => by
          have h : a.block < w.heap.size + 5 := hsh2.low _ hs
          omega)
        (fun q hq => by obtain ⟨x, hx, hy⟩ := hcw2.cp q (by have := P.n10; omega); rw [← hy hq]; exact hx) (fun q hq => by obtain ⟨x, hx, hy⟩ := hcw2.tp q (by have := P.n10; omega); rw [← hy hq]; exact hx) hk1
        (fun hs => by
          rcases hsh2.cell _ hs with ⟨_, h⟩ | h
          · have h' : 112 ≤ 0 := h
            omega
          · have h' : N0 ≤ C := h
            omega)
        (hcw2.gd 0 (by omega)) hR2 (by omega) (fun a ha2 hs => by
          rcases hsh2.cell _ hs with ⟨h, _⟩ | h
          · exact hRC (ha2.symm.trans h)
          · omega)
      obtain ⟨N3, m3, t3, g3, w3, r3, hg3, hb3⟩ := bes_walk hM (atRel_refl w2) (hb2'.mono (B' := w.heap.size + 5 + 4) (by omega))
      refine ⟨N1 + (N2 + N3), m3, t3, _, w.heap.size + 5, g3, w3, w2, u, ?_, ⟨hb3, pl2, hst hz, hg3, by omega, hsh2, hkos, (fun k hk hkc => hkold k (by omega) hkc), hsc2⟩⟩
      rw [runNT_then r1, runNT_then r2]; exact r3
end Go.Proofs.YtpajdmhgonmgoaaDoor

namespace Go.Proofs.YtpajdmhgonmgoaaDoor
open Go.RowKit
set_option linter.unusedVariables false
set_option linter.unusedSimpArgs false
theorem tpF_ch {P s k : Nat} {b : Nat → Nat → Int} (G : GrS P s b) {c u : Nat → Int} (hk : k < P) (t : Int) (h0 : k = s → t = 0) {j : Nat} (hj : j < P) : tpF P s b (chS P s b c u) k t j = chS P s b c (upS u k t) j := by
  unfold tpF
  by_cases ks : k = s
  · have t0 := h0 ks
    subst t0
    rw [upS_zero]
    split <;> omega
  · rw [ch_up G c u t hk ks j hj]
    by_cases js : j = s
    · have e1 : gvS P s b k j = 0 := by unfold gvS; rw [if_neg (by omega)]
      rw [if_pos js, e1, if_neg (by omega)]
      unfold chS
      rw [if_pos js]; omega
    · have e1 : gvS P s b k j = b k j := by unfold gvS; rw [if_pos ⟨hj, js⟩]
      rw [if_neg js, e1]
      by_cases jk : j = k
      · rw [if_pos jk, if_pos jk, jk, G.self]; omega
      · rw [if_neg jk, if_neg jk]
theorem ch_mono {P s k : Nat} {b : Nat → Nat → Int} (G : GrS P s b) {c u v : Nat → Int} (h : ∀ j, j < P → u j ≤ v j) (hk : u k = v k) : chS P s b c u k ≤ chS P s b c v k := by
  unfold chS
  split
  · exact Int.le_refl _
  · have : lapS P b v k ≤ lapS P b u k := smS_le fun j hj => by
      have h1 := h j hj
      rw [hk]
      exact Int.mul_le_mul_of_nonneg_left (by omega) (G.pos k j)
    omega
theorem st_of {P s : Nat} {b : Nat → Nat → Int} {c u : Nat → Int} : stX P s b (chS P s b c u) ↔ stillS P s b c u := by
  constructor
  · intro h k hk ks
    have := h k hk ks
    unfold chS at this
    rw [if_neg ks] at this
    exact this
  · intro h k hk ks
    have := h k hk ks
    unfold chS
    rw [if_neg ks]
    exact this
theorem ch_facts {P s : Nat} {b : Nat → Nat → Int} {c u : Nat → Int} {K : Int} (Q : PileC P s b c K) (h : PlS P s b c u) (j : Nat) (hj : j < P) : 0 ≤ chS P s b c u j ∧ chS P s b c u j ≤ 100000 := by
  have h1 := h.sum Q.gr Q.c0p Q.sum j hj
  have h2 := Q.K5
  refine ⟨?_, by omega⟩
  unfold chS
  split
  · omega
  · rename_i hs
    have := h.has j hj hs; omega
theorem u_facts {P s : Nat} {b : Nat → Nat → Int} {c u : Nat → Int} {K : Int} (Q : PileC P s b c K) (h : PlS P s b c u) (j : Nat) (hj : j < P) : u j ≤ 1000000 := by
  have h1 := h.few Q.gr Q.c0p Q.sum j hj
  have h2 := Q.K5
  have h3 := Q.n10
  have h4 : 0 ≤ K := Int.le_trans (smS_nonneg Q.c0p) Q.sum
  have : K * ((P - 1 : Nat) : Int) ≤ 100000 * 9 := Int.mul_le_mul h2 (by omega) (by omega) (by omega)
  omega
def MaxU (P : Nat) (K : Int) : Int := smS P (fun _ => K * ((P - 1 : Nat) : Int))
theorem sum_max {P s : Nat} {b : Nat → Nat → Int} {c u : Nat → Int} {K : Int} (Q : PileC P s b c K) (h : PlS P s b c u) : smS P u ≤ MaxU P K := smS_le fun k hk => h.few Q.gr Q.c0p Q.sum k hk
/-- What a sweep has come to. -/
structure SwS (P s : Nat) (b : Nat → Nat → Int) (c u0 : Nat → Int) (i : Nat) (u : Nat → Int) : Prop where
  pl : PlS P s b c u
  ge : ∀ j, j < P → u0 j ≤ u j
  far : ∀ j, i ≤ j → u j = u0 j
  pos : ∀ j, j < P → 0 ≤ u j
  won : smS P u0 < smS P u ∨ ∀ j, j < i → j < P → j ≠ s → chS P s b c u0 j < smS P (b j)
theorem SwS.next {P s i : Nat} {b : Nat → Nat → Int} {c u0 u : Nat → Int} {K : Int} (Q : PileC P s b c K) (h : SwS P s b c u0 i u) (hi : i < P) : SwS P s b c u0 (i + 1) (upS u i (ofX P s b i (chS P s b c u i))) := by
  have hf := ch_facts Q h.pl i hi
  have hd := Q.deg i hi
  obtain ⟨q1, q2, q3⟩ := ofX_facts (s := s) (b := b) (k := i) hf hd
  have qp := of_pos (s := s) (b := b) (k := i) hf.1 hd
  obtain ⟨t, ht⟩ : ∃ t, ofX P s b i (chS P s b c u i) = t := ⟨_, rfl⟩
  rw [ht] at q1 q2 q3 qp ⊢
  have up : ∀ j, u j ≤ upS u i t j := fun j => by unfold upS; split <;> omega
  refine ⟨?_, fun j hj => Int.le_trans (h.ge j hj) (up j), fun j hj => ?_, fun j hj => Int.le_trans (h.pos j hj) (up j), ?_⟩
  · by_cases hs : i = s
    · have : t = 0 := by rw [← ht]; unfold ofX; rw [if_pos hs]
      rw [this, upS_zero]; exact h.pl
    · obtain ⟨tn, htn⟩ : ∃ tn : Nat, (tn : Int) = t := ⟨t.toNat, Int.toNat_of_nonneg q1⟩
      rw [← htn]
      refine h.pl.times Q.gr hi hs tn ?_
      rw [htn]
      have : chS P s b c u i = c i - lapS P b u i := by unfold chS; rw [if_neg hs]
      omega
  · unfold upS
    rw [if_neg (by omega)]; exact h.far j (by omega)
  · have es : smS P (upS u i t) = smS P u + t := smS_up u i t P hi
    rcases h.won with w | w
    · exact Or.inl (by omega)
    · by_cases ht0 : 0 < t
      · have : smS P u0 ≤ smS P u := smS_le fun j hj => h.ge j hj
        exact Or.inl (by omega)
      · refine Or.inr fun j hj hjP hjs => ?_
        by_cases e : j = i
        · subst e
          have m := ch_mono Q.gr (c := c) (s := s) h.ge (h.far j (Nat.le_refl _)).symm
          rcases Int.lt_or_le (chS P s b c u0 j) (smS P (b j)) with y | y
          · exact y
          · exact absurd (qp.2 ⟨hjs, by omega⟩) ht0
        · exact w j (by omega) hjP hjs
def numAt (V : World) (a : Addr) : Int := match V.cell? a with | some (.int _ x) => x | _ => 0
theorem num_tops {V : World} {pb ca q ta P s : Nat} {b : Nat → Nat → Int} {f u : Nat → Int} (h : PilAt V pb ca q ta P s b f u) : smS P (fun k => numAt V ⟨ta, k, none⟩) = smS P u := smS_congr fun k hk => by
  unfold numAt
  rw [(h.top hk).1]
def SetW (pb ca q ta P s : Nat) (b : Nat → Nat → Int) (c u0 : Nat → Int) (w : World) (e : Ending) (w' : World) : Prop := e = .returned (.tuple #[]) ∧ ∃ u, PlS P s b c u ∧ stillS P s b c u ∧ (∀ j, j < P → u0 j ≤ u j) ∧ PilAt w' pb ca q ta P s b (chS P s b c u) u ∧ Two ca ta w w'
set_option maxRecDepth 100000 in
set_option maxHeartbeats 6400000 in
theorem settle_any (pb ca q ta P s : Nat) (b : Nat → Nat → Int) (c u0 : Nat → Int) (K : Int) (w : World) (Q : PileC P s b c K) (h : PilAt w pb ca q ta P s b (chS P s b c u0) u0) (pl : PlS P s b c u0) (hu : ∀ j, j < P → 0 ≤ u0 j) (hdg : ∀ k, smS P (b k) ≤ 4000) :
    Calls Tryd.prog 21 #[.pointer (some ⟨pb, 0, none⟩)] w (SetW pb ca q ta P s b c u0 w) := by
  have QQ := hide' Q
  have P10 := Q.n10
  have ST := hide' (fun (V : World) (u : Nat → Int) (hV : PilAt V pb ca q ta P s b (chS P s b c u) u) (hp : PlS P s b c u) => stable_any pb ca q ta P s b (chS P s b c u) u V hV Q.n10 Q.deg (fun j hj => ch_facts Q hp j hj))
  have OF := hide' (fun (V : World) (u : Nat → Int) (hV : PilAt V pb ca q ta P s b (chS P s b c u) u) (hp : PlS P s b c u) (k : Nat) (hk : k < P) => oftenX_any pb k P s b (chS P s b c u k) V (hV.ground (k := 1) (by omega)) (by rw [hV.ground (k := 2 + k) (by omega), gdX_d P s b (by omega)]) (by omega) (ch_facts Q hp k hk) (Q.deg k hk))
  have TP := hide' (fun (V : World) (u : Nat → Int) (hV : PilAt V pb ca q ta P s b (chS P s b c u) u) (hp : PlS P s b c u) (k : Nat) (hk : k < P) (hz : 0 ≤ u k) =>
    topple_any pb ca q ta P s k (ofX P s b k (chS P s b c u k)) b (chS P s b c u) u V hV Q.n10 hk
      ⟨(ofX_facts (s := s) (ch_facts Q hp k hk) (Q.deg k hk)).1, (ofX_facts (s := s) (ch_facts Q hp k hk) (Q.deg k hk)).2.1⟩ ⟨smS_nonneg fun j _ => Q.gr.pos k j, hdg k⟩
      (fun j => ⟨by unfold gvS; split; exact Q.gr.pos k j; exact Int.le_refl _, by
        unfold gvS
        split
        · rename_i hj; exact smS_one (fun i _ => Q.gr.pos k i) hj.1
        · exact smS_nonneg fun i _ => Q.gr.pos k i⟩)
      (Int.le_trans (ofX_facts (s := s) (ch_facts Q hp k hk) (Q.deg k hk)).2.2 (ch_facts Q hp k hk).2) (fun j hj => ch_facts Q hp j hj) ⟨hz, by have := u_facts Q hp k hk; omega⟩)
  have H0 := hide' (show PilAt w pb ca q ta P s b (chS P s b c u0) u0 ∧ PlS P s b c u0 ∧ ∀ j, j < P → 0 ≤ u0 j from ⟨h, pl, hu⟩)
  clear Q h pl hu hdg
  go_enter Tryd.func21, Tryd.ntmps21
  go_wp2
  go_loopw [5] (fun _ V => ∃ (u : Nat → Int), Hid (PilAt V pb ca q ta P s b (chS P s b c u) u ∧ PlS P s b c u ∧ (∀ j, j < P → u0 j ≤ u j) ∧ ∀ j, j < P → 0 ≤ u j) ∧ Hid (Two ca ta w V)) (fun _ V => (MaxU P K - smS P (fun k => numAt V ⟨ta, k, none⟩)).toNat)
  case atStart => exact ⟨u0, hide' ⟨H0.out.1, H0.out.2.1, fun _ _ => Int.le_refl _, H0.out.2.2⟩, hide' (Two.refl _ _ _)⟩
  case round =>
    obtain ⟨u, KF, TW⟩ := hrel
    have CS := hide' (ST.out wr u KF.out.1 KF.out.2.1)
    go_wp2_with fail
    refine CS.out.mono ?_
    rintro e w2 ⟨⟨t, rfl, ht⟩, rfl⟩
    cases t with
    | true =>
      have HT := hide' ht
      clear ht
      go_wp2
      go_end0
      exact ⟨rfl, u, KF.out.2.1, st_of.1 (HT.out.1 (by first | rfl | trivial)), KF.out.2.2.1, KF.out.1, TW.out⟩
    | false =>
      have HT := hide' (show ¬ stX P s b (chS P s b c u) from fun x => by have := ht.2 x; cases this)
      clear ht
      have c0 := KF.out.1.ground (k := 0) (by omega)
      rw [show gdF P s b 0 = (P : Int) from rfl] at c0
      go_wp2
      go_loopw [11] (fun iv V => ∃ (i : Nat) (v : Nat → Int), iv = .int .i64 (i : Int) ∧ i ≤ P ∧ Hid (PilAt V pb ca q ta P s b (chS P s b c v) v ∧ SwS P s b c u i v) ∧ Hid (Two ca ta w V)) (fun iv _ => P - (intOf iv).toNat)
      case atStart => exact ⟨0, u, rfl, by omega, hide' ⟨KF.out.1, KF.out.2.1, fun _ _ => Int.le_refl _, fun _ _ => rfl, KF.out.2.2.2, Or.inr fun j hj => absurd hj (Nat.not_lt_zero j)⟩, TW⟩
      case round =>
        obtain ⟨i, v, rfl, hi, KV, TV⟩ := hrel
        clear c0
        by_cases d : (i : Int) < (P : Int)
        · have hin : i < P := by omega
          have l0 : (0 : Int) ≤ (i : Int) := by omega
          have c0 := KV.out.1.chs
          obtain ⟨c2, -⟩ := KV.out.1.chip hin
          have CO := hide' (OF.out wr.drew v (KV.out.1.on rfl rfl rfl) KV.out.2.pl i hin)
          have CT := hide' (TP.out wr.drew v (KV.out.1.on rfl rfl rfl) KV.out.2.pl i hin (KV.out.2.pos i hin))
          have HX := hide' (show ∃ x, chS P s b c v i = x from ⟨_, rfl⟩)
          have P10' := QQ.out.n10
          go_upto_region 4 with fail
          go_region_with (first
            | (go_at_call 27; refine CO.out.mono ?_; rintro e w2 ⟨rfl, rfl⟩)
            | (go_at_call 28; refine CT.out.mono ?_; rintro e w2 ⟨rfl, p2, t2⟩))
          all_goals
            have SN := KV.out.2.next QQ.out hin
            have K2 := hide' (show PilAt w2 pb ca q ta P s b (chS P s b c (upS v i (ofX P s b i (chS P s b c v i)))) (upS v i (ofX P s b i (chS P s b c v i))) ∧ SwS P s b c u (i + 1) (upS v i (ofX P s b i (chS P s b c v i))) from
              ⟨p2.same (fun j hj => tpF_ch QQ.out.gr hin _ (fun e => by unfold ofX; rw [if_pos e]) hj) (fun j _ => by unfold upI upS; split; { rename_i e; rw [e] }; { rfl }), SN⟩)
            have T2 := hide' (show Two ca ta w w2 from TV.out.trans ((Two.drew _ _ _).trans t2))
            clear p2 t2 SN CO CT
            go_wp2
            exact ⟨⟨i + 1, _, by go_num, by omega, K2, T2⟩, by simp [intOf]; omega⟩
        · obtain rfl : i = P := by omega
          have won : smS i u < smS i v := by
            rcases KV.out.2.won with x | x
            · exact x
            · exact absurd (fun k hk ks => x k hk hk ks) HT.out
          go_wp2
          refine ⟨⟨v, hide' ⟨KV.out.1, KV.out.2.pl, fun j hj => Int.le_trans (KF.out.2.2.1 j hj) (KV.out.2.ge j hj), KV.out.2.pos⟩, TV⟩, ?_⟩
          rw [num_tops KF.out.1, num_tops KV.out.1]
          have := sum_max QQ.out KV.out.2.pl
          omega
end Go.Proofs.YtpajdmhgonmgoaaDoor

