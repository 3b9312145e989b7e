/-
  What the last text of this claim leans on, part 36: Kf3, Kf4, Kf5, Kf6.
-/
import Derived.Test.YtpajdmhgonmgoaaDoorYt34
import Derived.Test.YtpajdmhgonmgoaaDoorYt35
import Derived.Test.YtpajdmhgonmgoaaDoorYt24
namespace Go.Proofs.YtpajdmhgonmgoaaDoor
open Go.RowKit
set_option linter.unusedVariables false
open Go.Conc Go.ConcN Go.RowKit Go.Conc.Lib Go.ConcR.Gen
open Go.ConcR (KK wgBlock WgAt stA smA rd wr Payload DC0)
set_option linter.unusedSimpArgs false
theorem evL_sw {B : Nat} {a : Addr} (h : a.block < B) : EvL (fun _ => False) B ⟨.cell a, true, true⟩ := by
  refine ⟨fun x hx hs => hs.elim, by simp, by simp, h⟩
/-- One operation of goroutine 0 alone that leaves the world as it is. -/
theorem reach_opk {P : Program} {T : Machine → Trace → Prop} {b : Frame} {a : Act} {k : List Item} {cs : List Frame} {w : World} {ops : Array Oper} {i : Nat} {rest : List Nat} {o : Oper} (ho : ops[i]? = some o) (hw : Region.wanted o (yielded ops a.tmps) = true) (hk : b.kind ≠ .early)
    (h : ∀ K : Act → World → Prop, (∀ a', (∀ e ∈ (execOp a.eval o).events P w #[], EvG w.heap.size e) → Reach P (G (b.at a' (.inRegion ops rest :: k)) cs) w T → K a' w) → uponK o a K ((execOp a.eval o).run P w)) : Reach P (G (b.at a (.inRegion ops (i :: rest) :: k)) cs) w T := by
  have key := goes_oper_k (main := true) (P := P) (b := b) (k := k) (cs := cs) (K := fun g' w' es => w'.heap.size = w.heap.size ∧ (∀ e ∈ es, EvG w.heap.size e) ∧ Reach P g' w' T) ho hw hk fun K' hK' => h K' fun a' hev hr => hK' a' w ⟨rfl, fun e he => hev e (mem_listed he), hr⟩
  obtain ⟨g₁, w₂, es, hgo, h1, h2, h3⟩ := goes_elim key
  exact Reach.step rfl hgo (by omega) (by rw [h1]; exact h2) h3
/-- A call of goroutine 0 alone. -/
theorem reach_call {P : Program} {T : Machine → Trace → Prop} {b : Frame} {a : Act} {k : List Item} {cs : List Frame} {w : World} {ops : Array Oper} {i : Nat} {rest : List Nat} {o : Oper} {f : FuncId} {fn : Func} {c : Code} {args : Array Operand} {ats : Array TypeId} (ho : ops[i]? = some o) (hw : Region.wanted o (yielded ops a.tmps) = true) (hk : b.kind ≠ .early) (hop : o.op = .call { callee := .value (.func f), args, argTypes := ats })
    (hf : P.funcs[f]? = some fn) (hname : (fn.name == "runtime.NumGoroutine") = false) (hb : fn.body = some c)
    (h : Reach P (G ((base f).at { tmps := args.map a.eval ++ Array.replicate (fn.ntmps - (args.map a.eval).size) undef, defers := [] } [.code c]) (b.at a (.inRegion ops (i :: rest) :: k) :: cs)) w T) : Reach P (G (b.at a (.inRegion ops (i :: rest) :: k)) cs) w T := by
  have key := goes_call (main := true) (P := P) (b := b) (k := k) (cs := cs) (w := w) (K := fun g' w' es => w'.heap.size = w.heap.size ∧ (∀ e ∈ es, EvG w.heap.size e) ∧ Reach P g' w' T) ho hw hk hop hf hname hb ⟨rfl, fun e he => by simp at he, h⟩
  obtain ⟨g₁, w₂, es, hgo, h1, h2, h3⟩ := goes_elim key
  exact Reach.step rfl hgo (by omega) (by rw [h1]; exact h2) h3
set_option maxRecDepth 100000 in
set_option maxHeartbeats 1600000 in
/-- An atomic store. -/
theorem gstore_x {B : Nat} {S : Goroutine → World → Prop} {fb : Frame} {a : Act} {k : List Item} {cs : List Frame} {ops : Array Oper} {i : Nat} {rest : List Nat} {o : Oper} {x y : Operand} {ats : Array TypeId} {ad : Addr} {u : Value} {v : Int} {w0 : World}
    (ho : ops[i]? = some o) (hw : Region.wanted o (yielded ops a.tmps) = true) (hk : fb.kind ≠ .early) (hop : o.op = .call { callee := .value (.func 35), args := #[x, y], argTypes := ats }) (hx : a.eval x = .pointer (some ad)) (hy : a.eval y = .int .i64 v) (hsp : ad.spot = none) (hv : w0.cell? ad = some u) (hz : w0.frozen? ad = false) (hB : ad.block < B) {M : Nat}
    (hn : Gp Tryd.prog (EvL (fun _ => False) B) S M (G (fb.at (a.put o.dst (.tuple #[])) (.inRegion ops rest :: k)) cs) (AtRel (w0.setCell ad (.int .i64 v)))) : Gp Tryd.prog (EvL (fun _ => False) B) S (M + 20) (G (fb.at a (.inRegion ops (i :: rest) :: k)) cs) (AtRel w0) := by
  have hc := atRel_c
  have ha0 := addr_add0 ad hsp
  refine gp_call (hc _) ho hw hk hop Tryd.func35 rfl rfl ?_
  simp only [List.map_toArray, List.map_cons, List.map_nil, hx, hy, Tryd.f35]
  walk_nrm
  refine gp_region (hc _) ?_
  try simp only [List.size_toArray, List.length_cons, List.length_nil, Nat.reduceAdd, Nat.zero_add, List.range, List.range.loop]
  refine gp_opk (hc _) rfl rfl (by k_ne) (fun w hF K' hK => ?_)
  go_simp
  with_reducible refine hK _ (fun e' he => ?_) ?_
  · (clear hK; simp [go_sem, *] at he)
  clear hK K' hF
  clear w
  try walk_nrm
  refine gp_opk (hc _) rfl rfl (by k_ne) (fun w hF K' hK => ?_)
  go_simp
  with_reducible refine hK _ (fun e' he => ?_) ?_
  · (clear hK; simp [go_sem, *] at he)
  clear hK K' hF
  clear w
  try walk_nrm
  refine gp_opk (hc _) rfl rfl (by k_ne) (fun w hF K' hK => ?_)
  go_simp
  with_reducible refine hK _ (fun e' he => ?_) ?_
  · (clear hK; simp [go_sem, *] at he)
  clear hK K' hF
  clear w
  try walk_nrm
  refine gp_opk (hc _) rfl rfl (by k_ne) (fun w hF K' hK => ?_)
  go_simp
  with_reducible refine hK _ (fun e' he => ?_) ?_
  · (clear hK; simp [go_sem, *] at he)
  clear hK K' hF
  clear w
  try walk_nrm
  refine gp_step (hc _) (F' := AtRel (w0.setCell ad (.int .i64 v))) rfl (fun w hF => ⟨w.setCell ad (.int .i64 v), #[⟨.cell ad, true, true⟩], stepG_store_atomic (u := u) rfl rfl (by k_ne) rfl Tryd.func49 rfl rfl rfl rfl (by simp [Act.eval, ha0]) (by simp [Act.eval]) (by obtain ⟨d, rfl⟩ := hF; exact hv) (by obtain ⟨d, rfl⟩ := hF; exact hz), fun e he => by rw [Array.mem_singleton] at he; subst he; exact evL_sw hB, by obtain ⟨d, rfl⟩ := hF; exact ⟨d, rfl⟩⟩) ?_
  walk_nrm
  refine gp_done (hc _) ?_
  refine gp_end (hc _) ?_
  refine gp_leaveR (hc _) (v := .tuple #[]) rfl rfl Tryd.func35 (fun w hF => ⟨results_none rfl _ _ w, fun e he => ?_⟩) ?_
  · rw [events_results_none (fn := Tryd.f35) rfl] at he
    simp at he
  try walk_nrm
  rw [ho]
  exact Gp.mono hn (by omega)
/-- A crowd's cells while gather lays the chips. -/
def gaV (F f : Nat → Int) (i k : Nat) : Value := if k < 112 then .int .i64 (F k) else if k < 112 + i then .int .i64 (f (k - 112)) else .int .i64 0
structure GaW (w0 : World) (C : Nat) (F f : Nat → Int) (i : Nat) (w : World) : Prop where
  os : w.os = w0.os ∧ w.tape = w0.tape ∧ w.output = w0.output
  old : ∀ k, k ≠ C → w.heap[k]? = w0.heap[k]?
  sz : w.heap.size = w0.heap.size
  row : w.heap[C]? = some (.cells (arrS 132 (gaV F f i)) 84)
theorem GaW.up {w0 : World} {C : Nat} {F f : Nat → Int} {i : Nat} {w : World} (h : GaW w0 C F f i w) : GaW w0 C F f (i + 1) (w.setCell ⟨C, 112 + i, none⟩ (.int .i64 (f i))) := by
  refine ⟨h.os, fun k hk => (hSet _ _ _ _ hk).trans (h.old k hk), by simpa using h.sz, ?_⟩
  rw [heap_setCell_same w C (112 + i) _ _ _ h.row, arrS_set]
  congr 2
  exact arrS_ext fun k _ => by
    unfold gaV
    by_cases h1 : k = 112 + i
    · subst h1; simp; omega
    · by_cases h2 : k < 112
      · rw [if_neg h1, if_pos h2, if_pos h2]
      · by_cases h3 : k < 112 + i
        · rw [if_neg h1, if_neg h2, if_pos h3, if_neg h2, if_pos (by omega)]
        · rw [if_neg h1, if_neg h2, if_neg h3, if_neg h2, if_neg (by omega)]
set_option maxRecDepth 100000 in
set_option maxHeartbeats 6400000 in
theorem gather_loop {C N n cc : Nat} {F f : Nat → Int} {ca : Option Addr} {cl : List Int} {w0 : World} {b₀ : Frame} {a₀ : Act} {ops₀ : Array Oper} {i₀ : Nat} {rest₀ : List Nat} {k₀ : List Item} {cs : List Frame} (hn10 : n ≤ 10) (hC : C < N) (hN : w0.heap.size ≤ N) (hP : ∀ k, k < n → ∃ g off, ca = some ⟨g, off, none⟩ ∧ g < C ∧ w0.cell? ⟨g, off + k, none⟩ = some (.int .i64 (f k))) : ∀ (r i : Nat), i + r = n → ∀ (x0 x1 x2 x3 x4 x5 x6 x8 x9 x10 x11 x12 x13 x14 x18 x19 x20 x21 x22 x23 x24 x25 x26 x27 x28 x29 x30 : Value) (w1 : World), GaW w0 C F f i w1 →
    Gp Tryd.prog (EvL (fun _ => False) N) (fun g w => GaW w0 C F f n w ∧ g = G (b₀.at (a₀.put ((ops₀[i₀]?).bind (·.dst)) (Value.pointer (some ⟨C, 0, none⟩))) (.inRegion ops₀ rest₀ :: k₀)) cs) (80 * r + 40) (G ((base 22).at ⟨#[x0, x1, x2, x3, x4, x5, x6, (Value.pointer (some ⟨C, 0, none⟩)), x8, x9, x10, x11, x12, x13, x14, (Value.slice ca n cc), (.int .i64 (n : Int)), (.int .i64 (i : Int)), x18, x19, x20, x21, x22, x23, x24, x25, x26, x27, x28, x29, x30], []⟩ [.code (cL (cL (cR (cL (cR (cR (bodyOf Tryd.f22))))))), .inLoop (cL (cL (cR (cL (cR (cR (bodyOf Tryd.f22))))))), .inBlock 0, .code (cR (cR (cR (bodyOf Tryd.f22))))]) (b₀.at a₀ (.inRegion ops₀ (i₀ :: rest₀) :: k₀) :: cs)) (AtRel w1) := by
  have hc := atRel_c
  intro r
  induction r with
  | zero =>
    intro i hi x0 x1 x2 x3 x4 x5 x6 x8 x9 x10 x11 x12 x13 x14 x18 x19 x20 x21 x22 x23 x24 x25 x26 x27 x28 x29 x30 w1 hw
    obtain rfl : i = n := by omega
    have hlt : ¬ ((i : Int) < (i : Int)) := by omega
    simp only [cO, cL, cR, bodyOf, Tryd.f22, Option.getD_some]
    refine gp_seq (hc _) ?_
    refine gp_region (hc _) ?_
    try simp only [List.size_toArray, List.length_cons, List.length_nil, Nat.reduceAdd, Nat.zero_add, List.range, List.range.loop]
    refine gp_opk (hc _) rfl rfl (by k_ne) (fun w hF K' hK => ?_)
    go_simp
    with_reducible refine hK _ (fun e' he => ?_) ?_
    · (clear hK; simp [go_sem, *] at he)
    clear hK K' hF
    clear w
    try walk_nrm
    refine gp_done (hc _) ?_
    refine gp_seq (hc _) ?_
    refine gp_cond (hc _) false ?_ ?_
    · (first | rfl | (simp [Act.eval, *]; done))
    simp only [if_false, Bool.false_eq_true, ↓reduceIte]
    refine gp_exit (hc _) rfl ?_
    refine gp_seq (hc _) ?_
    refine gp_region (hc _) ?_
    try simp only [List.size_toArray, List.length_cons, List.length_nil, Nat.reduceAdd, Nat.zero_add, List.range, List.range.loop]
    refine gp_opk (hc _) rfl rfl (by k_ne) (fun w hF K' hK => ?_)
    go_simp
    with_reducible refine hK _ (fun e' he => ?_) ?_
    · (clear hK; simp [go_sem, *] at he)
    clear hK K' hF
    clear w
    try walk_nrm
    refine gp_opk (hc _) rfl rfl (by k_ne) (fun w hF K' hK => ?_)
    go_simp
    with_reducible refine hK _ (fun e' he => ?_) ?_
    · (clear hK; simp [go_sem, *] at he)
    clear hK K' hF
    clear w
    try walk_nrm
    refine gp_done (hc _) ?_
    refine gp_ret (hc _) ?_
    refine gp_leave1 (hc _) rfl rfl Tryd.func22 rfl ?_
    try walk_nrm
    refine Gp.stop (hc _) (fun w hF => ⟨?_, rfl⟩)
    obtain ⟨d, rfl⟩ := hF
    exact ⟨hw.os, hw.old, hw.sz, hw.row⟩
  | succ r ih =>
    intro i hi x0 x1 x2 x3 x4 x5 x6 x8 x9 x10 x11 x12 x13 x14 x18 x19 x20 x21 x22 x23 x24 x25 x26 x27 x28 x29 x30 w1 hw
    have hin : i < n := by omega
    have hlt : (i : Int) < (n : Int) := by omega
    have hp0 : (0 : Int) ≤ (i : Int) := by omega
    have hp1 : (i : Int) < 10 := by omega
    have hwi : IntKind.wrap .i64 ((i : Int) + 1) = (i : Int) + 1 := wrap_fit ⟨by omega, by omega⟩
    obtain ⟨g, off, rfl, hg, hcell⟩ := hP i hin
    have hld : ∀ d, (w1.at d).cell? ⟨g, off + i, none⟩ = some (.int .i64 (f i)) := fun d => (cell_heap (a := ⟨g, off + i, none⟩) (hw.old g (by omega))).trans hcell
    have hcc : w1.cell? ⟨C, 112 + i, none⟩ = some (.int .i64 0) := by
      have := cell_of_row w1 C (112 + i) _ _ (0, 0) hw.row
      rw [arrS_get _ (by omega)] at this
      rw [this]
      unfold gaV
      rw [if_neg (by omega), if_neg (by omega)]
    have hfz : w1.frozen? ⟨C, 112 + i, none⟩ = false := frozen_of_row w1 C (112 + i) _ _ hw.row
    simp only [cO, cL, cR, bodyOf, Tryd.f22, Option.getD_some]
    refine gp_seq (hc _) ?_
    refine gp_region (hc _) ?_
    try simp only [List.size_toArray, List.length_cons, List.length_nil, Nat.reduceAdd, Nat.zero_add, List.range, List.range.loop]
    refine gp_opk (hc _) rfl rfl (by k_ne) (fun w hF K' hK => ?_)
    go_simp
    with_reducible refine hK _ (fun e' he => ?_) ?_
    · (clear hK; simp [go_sem, *] at he)
    clear hK K' hF
    clear w
    try walk_nrm
    refine gp_done (hc _) ?_
    refine gp_seq (hc _) ?_
    refine gp_cond (hc _) true ?_ ?_
    · (first | rfl | (simp [Act.eval, *]; done))
    simp only [if_true, ↓reduceIte]
    refine gp_skip (hc _) ?_
    refine gp_seq (hc _) ?_
    refine gp_block (hc _) ?_
    refine gp_seq (hc _) ?_
    refine gp_region (hc _) ?_
    try simp only [List.size_toArray, List.length_cons, List.length_nil, Nat.reduceAdd, Nat.zero_add, List.range, List.range.loop]
    refine gp_opk (hc _) rfl rfl (by k_ne) (fun w hF K' hK => ?_)
    go_simp
    with_reducible refine hK _ (fun e' he => ?_) ?_
    · (clear hK; simp [go_sem, *] at he)
    clear hK K' hF
    clear w
    try walk_nrm
    refine gp_opk (hc _) rfl rfl (by k_ne) (fun w hF K' hK => ?_)
    go_simp
    with_reducible refine hK _ (fun e' he => ?_) ?_
    · (clear hK; simp [go_sem, *] at he)
    clear hK K' hF
    clear w
    try walk_nrm
    refine gp_valw (F' := AtRel w1) (hc _) rfl rfl (by k_ne) (.int .i64 (f i)) (fun w hF => ⟨w, Or.inl ?_, fun e he => ?_, hF⟩) ?_
    · obtain ⟨d, rfl⟩ := hF
      simp [execOp, Act.eval, go_sem, hld d]
      try rfl
    · obtain ⟨d, rfl⟩ := hF
      simp [execOp, Act.eval, go_sem, hld d] at he
      subst he
      exact evL_cell _ _ (fun h => h) (by show g < N; omega)
    walk_nrm
    refine gp_opk (hc _) rfl rfl (by k_ne) (fun w hF K' hK => ?_)
    go_simp
    with_reducible refine hK _ (fun e' he => ?_) ?_
    · (clear hK; simp [go_sem, *] at he)
    clear hK K' hF
    clear w
    try walk_nrm
    refine gp_opk (hc _) rfl rfl (by k_ne) (fun w hF K' hK => ?_)
    go_simp
    with_reducible refine hK _ (fun e' he => ?_) ?_
    · (clear hK; simp [go_sem, *] at he)
    clear hK K' hF
    clear w
    try walk_nrm
    refine gp_done (hc _) ?_
    refine gp_region (hc _) ?_
    try simp only [List.size_toArray, List.length_cons, List.length_nil, Nat.reduceAdd, Nat.zero_add, List.range, List.range.loop]
    refine gp_opk (hc _) rfl rfl (by k_ne) (fun w hF K' hK => ?_)
    go_simp
    with_reducible refine hK _ (fun e' he => ?_) ?_
    · (clear hK; simp [go_sem, evix1, evix2, evix3, *] at he)
    clear hK K' hF
    clear w
    try walk_nrm
    refine gp_opk (hc _) rfl rfl (by k_ne) (fun w hF K' hK => ?_)
    go_simp
    with_reducible refine hK _ (fun e' he => ?_) ?_
    · (clear hK; simp [go_sem, evix1, evix2, evix3, *] at he)
    clear hK K' hF
    clear w
    try walk_nrm
    refine gp_opk (hc _) rfl rfl (by k_ne) (fun w hF K' hK => ?_)
    go_simp
    with_reducible refine hK _ (fun e' he => ?_) ?_
    · (clear hK; simp [go_sem, evix1, evix2, evix3, *] at he)
    clear hK K' hF
    clear w
    try walk_nrm
    refine gp_opk (hc _) rfl rfl (by k_ne) (fun w hF K' hK => ?_)
    go_simp
    with_reducible refine hK _ (fun e' he => ?_) ?_
    · (clear hK; simp [go_sem, evix1, evix2, evix3, *] at he)
    clear hK K' hF
    clear w
    try walk_nrm
    refine gp_opk (hc _) rfl rfl (by k_ne) (fun w hF K' hK => ?_)
    go_simp
    with_reducible refine hK _ (fun e' he => ?_) ?_
    · (clear hK; simp [go_sem, evix1, evix2, evix3, *] at he)
    clear hK K' hF
    clear w
    try walk_nrm
    refine gp_opk (hc _) rfl rfl (by k_ne) (fun w hF K' hK => ?_)
    go_simp
    with_reducible refine hK _ (fun e' he => ?_) ?_
    · (clear hK; simp [go_sem, evix1, evix2, evix3, *] at he)
    clear hK K' hF
    clear w
    try walk_nrm
    refine Gp.mono (gstore_x (u := .int .i64 0) (v := f i) (ad := ⟨C, 112 + i, none⟩) (M := 80 * r + 50) rfl rfl (by k_ne) rfl (by simp [Act.eval]) (by simp [Act.eval]) rfl hcc hfz hC ?_) (by omega)
    walk_nrm
    refine gp_done (hc _) ?_
    refine gp_inBlock (hc _) ?_
    refine gp_region (hc _) ?_
    try simp only [List.size_toArray, List.length_cons, List.length_nil, Nat.reduceAdd, Nat.zero_add, List.range, List.range.loop]
    refine gp_opk (hc _) rfl rfl (by k_ne) (fun w hF K' hK => ?_)
    go_simp
    with_reducible refine hK _ (fun e' he => ?_) ?_
    · (clear hK; simp [go_sem, *] at he)
    clear hK K' hF
    clear w
    try walk_nrm
    refine gp_opk (hc _) rfl rfl (by k_ne) (fun w hF K' hK => ?_)
    go_simp
    with_reducible refine hK _ (fun e' he => ?_) ?_
    · (clear hK; simp [go_sem, *] at he)
    clear hK K' hF
    clear w
    try walk_nrm
    refine gp_done (hc _) ?_
    refine gp_inLoop (hc _) ?_
    simp only [cO, cL, cR, bodyOf, Tryd.f22, Option.getD_some] at ih
    exact Gp.mono (ih (i + 1) (by omega) _ _ _ _ _ _ _ _ _ _ _ _ _ _ _ _ _ _ _ _ _ _ _ _ _ _ _ _ hw.up) (by omega)
end Go.Proofs.YtpajdmhgonmgoaaDoor

namespace Go.Proofs.YtpajdmhgonmgoaaDoor
open Go.RowKit
set_option linter.unusedVariables false
open Go.Conc Go.ConcN Go.RowKit Go.Conc.Lib Go.ConcR.Gen
open Go.ConcR (KK wgBlock WgAt stA smA rd wr Payload DC0)
set_option linter.unusedSimpArgs false
theorem inits22 : Tryd.prog.inits.idxOf? 22 = none := by decide +kernel
theorem inits10 : Tryd.prog.inits.idxOf? 10 = none := by decide +kernel
theorem funcs22 : (Tryd.prog.funcs[22]?).isSome = true := by rw [Tryd.func22]; rfl
theorem funcs10 : (Tryd.prog.funcs[10]?).isSome = true := by rw [Tryd.func10]; rfl
theorem zero_crowd : Tryd.zeroCells84.toList = List.replicate 132 (.int .i64 0) := by kernel_rfl
theorem crowd_fold (F : Nat → Int) (A : Array Value) (hA : A = arrS 112 fun k => Value.int .i64 (F k)) : Array.foldl (fun (cs : Array Value) (x : Value × Nat) => cs.setIfInBounds x.2 x.1) Tryd.zeroCells84 A.zipIdx 0 A.size = arrS 132 (crwV F) := by
  have hz := zero_crowd
  obtain ⟨Z, eZ⟩ : ∃ Z, Tryd.zeroCells84 = Z := ⟨_, rfl⟩
  rw [eZ] at hz ⊢
  have hz1 : Z.size = 132 := by
    have := congrArg List.length hz
    simpa using this
  have hs : A.size = 112 := by rw [hA, arrS_size]
  have hl : A.toList.length = 112 := by simpa using hs
  have e : A.zipIdx.toList = A.toList.zipIdx 0 := by simp
  have es : A.size = A.zipIdx.size := by simp
  rw [es, ← Array.foldl_toList, e]
  apply Array.ext'
  apply List.ext_getElem?
  intro k
  simp only [Array.getElem?_toList]
  have key := fold_get A.toList 0 Z (by rw [hz1, hl]; omega) k
  simp only [Nat.zero_add] at key
  rw [key]
  by_cases k3 : k < 132
  · rw [arrS_get _ k3]
    unfold crwV
    by_cases k1 : k < 112
    · rw [if_pos ⟨Nat.zero_le _, by rw [hl]; omega⟩, if_pos k1, Nat.sub_zero]
      have : A.toList[k]? = A[k]? := by simp
      rw [this, hA, arrS_get _ k1]
    · rw [if_neg (by rw [hl]; omega), if_neg k1]
      have : Z[k]? = Z.toList[k]? := by simp
      rw [this, hz, List.getElem?_replicate, if_pos k3]
  · rw [if_neg (by rw [hl]; omega), Array.getElem?_eq_none (by omega), Array.getElem?_eq_none (by rw [arrS_size]; omega)]
set_option maxRecDepth 100000 in
set_option maxHeartbeats 6400000 in
theorem gather_reach {n sn en ec cn cc : Nat} {xs : List EgT} {cl : List Int} {ea ca : Option Addr} {w : World} (GC : GoodC n sn xs cl) (hE : ArgE w xs ea en ec) (hP : ArgP w cl ca cn cc) {b₀ : Frame} {a₀ : Act} {ops₀ : Array Oper} {i₀ : Nat} {rest₀ : List Nat} {k₀ : List Item} {cs : List Frame} {T : Machine → Trace → Prop}
    (hT : ∀ C w1 w2, Below w.heap.size w w1 → w.heap.size ≤ C → GaW w1 C (gdF n sn (btX xs)) (chF cl) n w2 → ∀ m t, Bes Tryd.prog (fun _ => False) w1.heap.size (G (b₀.at (a₀.put ((ops₀[i₀]?).bind (·.dst)) (Value.pointer (some ⟨C, 0, none⟩))) (.inRegion ops₀ rest₀ :: k₀)) cs) w2 m t → ∃ N m' t', runNT Tryd.prog N m t = (.next m', t') ∧ T m' t') :
    Reach Tryd.prog (G ((base 22).at ⟨#[.agg #[.int .i64 (n : Int), .slice ea en ec], .int .i64 (sn : Int), .slice ca cn cc, undef, undef, undef, undef, undef, undef, undef, undef, undef, undef, undef, undef, undef, undef, undef, undef, undef, undef, undef, undef, undef, undef, undef, undef, undef, undef, undef, undef], []⟩ [.code (bodyOf Tryd.f22)]) (b₀.at a₀ (.inRegion ops₀ (i₀ :: rest₀) :: k₀) :: cs)) w T := by
  obtain ⟨w1, hw1⟩ : ∃ w1, w.alloc (.cells #[.int .i64 (n : Int), .slice ea en ec] 24) = w1 := ⟨_, rfl⟩
  have HW1 := hide' hw1
  have B1 := hide' (show Below w.heap.size w w1 by rw [← hw1]; exact (Below.refl _ _).alloc (Nat.le_refl _) _)
  have R1 := hide' (show w1.heap[w.heap.size]? = some (.cells #[.int .i64 (n : Int), .slice ea en ec] 24 (0, 0)) by rw [← hw1]; exact heap_alloc_new _ _)
  have LX := hide' (layX_any n xs ea en ec sn w1 (hE.below B1.out) GC.ok GC.sl)
  have HT := hide' hT
  have HP := hide' hP
  have HG := hide' GC
  clear hw1 hE hT hP GC
  simp only [bodyOf, Tryd.f22, Option.getD_some]
  refine reach_seq sand_mild (by k_ne) funcs22 inits22 (by decide +kernel) rfl ?_
  go_wp2
  rw [HW1.out]
  have y0 := cell_of_row w1 _ 0 _ _ _ R1.out
  have y1 := cell_of_row w1 _ 1 _ _ _ R1.out
  simp at y0 y1
  refine reach_seq sand_mild (by k_ne) funcs22 inits22 (by decide +kernel) rfl ?_
  go_wp2_with fail
  refine LX.out.mono ?_
  rintro e w2 ⟨rfl, b2⟩
  obtain ⟨A, hA⟩ : ∃ A, (arrS 112 fun k => Value.int .i64 (gdF n sn (btX xs) k)) = A := ⟨_, rfl⟩
  rw [hA]
  have AS : A.size = 112 := by rw [← hA, arrS_size]
  have CF0 := crowd_fold (gdF n sn (btX xs)) A hA.symm
  rw [AS] at CF0
  have CF := hide' CF0
  have B2 := hide' (B1.out.trans (b2.mono B1.out.size))
  clear hA b2 y0 y1 CF0
  go_wp2
  rw [CF.out]
  clear CF AS
  try clear h
  refine Reach.bes fun m t hb => ?_
  obtain ⟨w3, hw3⟩ : ∃ w3, w2.alloc (.cells (arrS 132 (crwV (gdF n sn (btX xs)))) 84) = w3 := ⟨_, rfl⟩
  rw [hw3] at hb
  have B3 : Below w.heap.size w w3 := by rw [← hw3]; exact B2.out.alloc B2.out.size _
  have s3 : w3.heap.size = w2.heap.size + 1 := by rw [← hw3, size_alloc']
  have C3 : w3.heap[w2.heap.size]? = some (.cells (arrS 132 (crwV (gdF n sn (btX xs)))) 84 (0, 0)) := by rw [← hw3]; exact heap_alloc_new _ _
  have z2 := B2.out.size
  have ga : GaW w3 w2.heap.size (gdF n sn (btX xs)) (chF cl) 0 w3 := ⟨⟨rfl, rfl, rfl⟩, fun _ _ => rfl, rfl, by
    rw [C3]
    congr 2⟩
  have n10 := HG.out.ok.p2
  have hcn : cn = n := by rw [HP.out.len, HG.out.len]
  subst hcn
  have lp := gather_loop (C := w2.heap.size) (N := w3.heap.size) (n := cn) (cc := cc) (F := gdF cn sn (btX xs)) (f := chF cl) (ca := ca) (cl := cl) (w0 := w3) (b₀ := b₀) (a₀ := a₀) (ops₀ := ops₀) (i₀ := i₀) (rest₀ := rest₀) (k₀ := k₀) (cs := cs) n10 (by omega) (Nat.le_refl _) (fun k hk => by
    have hk' : k < cl.length := by rw [← HP.out.len]; exact hk
    obtain ⟨g, off, e, hg, hc⟩ := HP.out.cells k hk'
    refine ⟨g, off, e, by omega, ?_⟩
    rw [(World.cell?_of_block (w := w) (a := ⟨g, off + k, none⟩) (B3.block g hg)).trans hc]
    unfold chF
    rw [at_getD hk'])
  simp only [cO, cL, cR, bodyOf, Tryd.f22, Option.getD_some] at lp
  have lo := fun x0 x1 x2 x3 x4 x5 x6 x8 x9 x10 x11 x12 x13 x14 x18 x19 x20 x21 x22 x23 x24 x25 x26 x27 x28 x29 x30 => lp cn 0 (by omega) x0 x1 x2 x3 x4 x5 x6 x8 x9 x10 x11 x12 x13 x14 x18 x19 x20 x21 x22 x23 x24 x25 x26 x27 x28 x29 x30 w3 ga
  have hc := atRel_c
  have key := fun hG => bes_walk (S := (fun g w => GaW w3 w2.heap.size (gdF cn sn (btX xs)) (chF cl) cn w ∧ g = G (b₀.at (a₀.put ((ops₀[i₀]?).bind (·.dst)) (Value.pointer (some ⟨w2.heap.size, 0, none⟩))) (.inRegion ops₀ rest₀ :: k₀)) cs)) (n := 80 * cn + 60) (F := AtRel w3) hG (atRel_refl w3) hb
  obtain ⟨N, m', t', g', w', r1, ⟨gw, rfl⟩, hb'⟩ := key (by
    refine gp_seq (hc _) ?_
    refine gp_seq (hc _) ?_
    refine gp_region (hc _) ?_
    try simp only [List.size_toArray, List.length_cons, List.length_nil, Nat.reduceAdd, Nat.zero_add, List.range, List.range.loop]
    iterate 3
      refine gp_opk (hc _) rfl rfl (by k_ne) (fun w hF K' hK => ?_)
      go_simp
      with_reducible refine hK _ (fun e' he => ?_) ?_
      · (clear hK; simp [go_sem, *] at he)
      clear hK K' hF
      clear w
      try walk_nrm
    refine gp_done (hc _) ?_
    refine gp_block (hc _) ?_
    refine gp_loop (hc _) ?_
    exact Gp.mono (lo _ _ _ _ _ _ _ _ _ _ _ _ _ _ _ _ _ _ _ _ _ _ _ _ _ _ _) (by omega))
  obtain ⟨N2, m2, t2, r2, h2⟩ := HT.out w2.heap.size w3 w' B3 z2 gw _ _ hb'
  exact ⟨N + N2, m2, t2, by rw [runNT_then r1]; exact r2, h2⟩
theorem gather_reachE {c : Code} (hc : bodyOf Tryd.f22 = c) {n sn en ec cn cc : Nat} {xs : List EgT} {cl : List Int} {ea ca : Option Addr} {w : World} (GC : GoodC n sn xs cl) (hE : ArgE w xs ea en ec) (hP : ArgP w cl ca cn cc) {b₀ : Frame} {a₀ : Act} {ops₀ : Array Oper} {i₀ : Nat} {rest₀ : List Nat} {k₀ : List Item} {cs : List Frame} {T : Machine → Trace → Prop}
    (hT : ∀ C w1 w2, Below w.heap.size w w1 → w.heap.size ≤ C → GaW w1 C (gdF n sn (btX xs)) (chF cl) n w2 → ∀ m t, Bes Tryd.prog (fun _ => False) w1.heap.size (G (b₀.at (a₀.put ((ops₀[i₀]?).bind (·.dst)) (Value.pointer (some ⟨C, 0, none⟩))) (.inRegion ops₀ rest₀ :: k₀)) cs) w2 m t → ∃ N m' t', runNT Tryd.prog N m t = (.next m', t') ∧ T m' t') :
    Reach Tryd.prog (G ((base 22).at ⟨#[.agg #[.int .i64 (n : Int), .slice ea en ec], .int .i64 (sn : Int), .slice ca cn cc, undef, undef, undef, undef, undef, undef, undef, undef, undef, undef, undef, undef, undef, undef, undef, undef, undef, undef, undef, undef, undef, undef, undef, undef, undef, undef, undef, undef], []⟩ [.code c]) (b₀.at a₀ (.inRegion ops₀ (i₀ :: rest₀) :: k₀) :: cs)) w T := by
  subst hc
  exact gather_reach GC hE hP hT
end Go.Proofs.YtpajdmhgonmgoaaDoor

namespace Go.Proofs.YtpajdmhgonmgoaaDoor
open Go.RowKit
set_option linter.unusedVariables false
open Go.Conc Go.ConcN Go.RowKit Go.Conc.Lib Go.ConcR.Gen
open Go.ConcR (KK wgBlock WgAt stA smA rd wr Payload DC0)
set_option linter.unusedSimpArgs false
theorem cw_of_ga {w0 w : World} {C n s : Nat} {b : Nat → Nat → Int} {c0 : Nat → Int} (h : GaW w0 C (gdF n s b) c0 n w) (hn : n ≤ 10) (hs : c0 s = 0) : CwAt C n s b c0 (fun _ => 0) w := by
  have hcell : ∀ k, k < 132 → w.cell? ⟨C, k, none⟩ = some (gaV (gdF n s b) c0 n k) := fun k hk => by
    have := cell_of_row w C k _ _ (0, 0) h.row
    rw [arrS_get _ hk] at this
    exact this
  refine ⟨⟨_, h.row, arrS_size _ _⟩, fun j hj => ?_, fun q hq => ?_, fun q hq => ?_⟩
  · rw [hcell j (by omega)]
    unfold gaV
    rw [if_pos hj]
  · refine ⟨if q < n then c0 q else 0, ?_, fun hqn => ?_⟩
    · show w.cell? ⟨C, 112 + q, none⟩ = _
      rw [hcell (112 + q) (by omega)]
      unfold gaV
      rw [if_neg (by omega)]
      by_cases h1 : q < n
      · rw [if_pos (by omega), if_pos h1, show 112 + q - 112 = q by omega]
      · rw [if_neg (by omega), if_neg h1]
    · rw [if_pos hqn]
      unfold chS
      by_cases h2 : q = s
      · rw [if_pos h2, h2, hs]
      · rw [if_neg h2, lap_zero]; omega
  · refine ⟨0, ?_, fun _ => rfl⟩
    show w.cell? ⟨C, 122 + q, none⟩ = _
    rw [hcell (122 + q) (by omega)]
    unfold gaV
    rw [if_neg (by omega), if_neg (by omega)]
/-- What Crowd has left when it has returned. -/
def CrowdEnd (n s : Nat) (b : Nat → Nat → Int) (c0 : Nat → Int) (b₀ : Frame) (a₀ : Act) (ops₀ : Array Oper) (i₀ : Nat) (rest₀ : List Nat) (k₀ : List Item) (cs : List Frame) (w : World) (m : Machine) (t : Trace) : Prop :=
  ∃ Shun B g1 g2 w' u, Bes Tryd.prog Shun B (G (b₀.at (a₀.put ((ops₀[i₀]?).bind (·.dst)) (.tuple #[.agg #[slV g1 n, slV g2 n], Value.nilIface])) (.inRegion ops₀ rest₀ :: k₀)) cs) w' m t ∧
    PlS n s b c0 u ∧ stillS n s b c0 u ∧ w'.heap.size ≤ B ∧ w'.heap[g1]? = some (.cells (arrS n (fun k => .int .i64 (chS n s b c0 u k))) 3) ∧ w'.heap[g2]? = some (.cells (arrS n (fun k => .int .i64 (u k))) 3) ∧
    (∀ k, k < w.heap.size → w'.heap[k]? = w.heap[k]?) ∧ (∀ a, Shun (.cell a) → w.heap.size ≤ a.block ∧ a.block ≠ g1 ∧ a.block ≠ g2) ∧ w.heap.size ≤ g1 ∧ w.heap.size ≤ g2 ∧ w.heap.size ≤ w'.heap.size ∧ (∀ a, Shun (.cell a) → a.block < w'.heap.size) ∧ (w'.os = w.os ∧ w'.tape = w.tape ∧ w'.output = w.output) ∧ ShCh Shun w'
set_option maxRecDepth 100000 in
set_option maxHeartbeats 6400000 in
theorem crowd_reach {n sn en ec cn cc nw : Nat} {xs : List EgT} {cl : List Int} {ea ca : Option Addr} {w : World} (GC : GoodC n sn xs cl) (hE : ArgE w xs ea en ec) (hP : ArgP w cl ca cn cc) (h1 : 1 ≤ nw) (h2 : nw ≤ 8) {b₀ : Frame} {a₀ : Act} {ops₀ : Array Oper} {i₀ : Nat} {rest₀ : List Nat} {k₀ : List Item} {cs : List Frame} :
    Reach Tryd.prog (G ((base 10).at ⟨#[.agg #[.int .i64 (n : Int), .slice ea en ec], .int .i64 (sn : Int), .slice ca cn cc, .int .i64 (nw : Int), undef, undef, undef, undef, undef, undef, undef, undef, undef, undef, undef, undef, undef, undef, undef, undef, undef, undef, undef, undef, undef, undef, undef, undef, undef, undef, undef, undef, undef, undef, undef, undef, undef], []⟩ [.code (bodyOf Tryd.f10)]) (b₀.at a₀ (.inRegion ops₀ (i₀ :: rest₀) :: k₀) :: cs)) w (CrowdEnd n sn (btX xs) (chF cl) b₀ a₀ ops₀ i₀ rest₀ k₀ cs w) := by
  obtain ⟨w0, hw0⟩ : ∃ w0, w.alloc (.cells #[.int .i64 (n : Int), .slice ea en ec] 24) = w0 := ⟨_, rfl⟩
  obtain ⟨w1, hw1⟩ : ∃ w1, w0.alloc (.cells #[.slice none 0 0, .slice none 0 0] 33) = w1 := ⟨_, rfl⟩
  obtain ⟨rb, hrb⟩ : ∃ rb, w.heap.size + 1 = rb := ⟨_, rfl⟩
  have z0 : w0.heap.size = rb := by rw [← hw0, ← hrb]; simp
  have HW0 := hide' hw0
  have HW1 := hide' hw1
  have B0 : Below w.heap.size w w0 := by rw [← hw0]; exact (Below.refl _ _).alloc (Nat.le_refl _) _
  have B1 := hide' (show Below w.heap.size w w1 by rw [← hw1]; exact B0.alloc B0.size _)
  have R0 : w0.heap[w.heap.size]? = some (.cells #[.int .i64 (n : Int), .slice ea en ec] 24 (0, 0)) := by rw [← hw0]; exact heap_alloc_new _ _
  have R1 := hide' (show w1.heap[w.heap.size]? = some (.cells #[.int .i64 (n : Int), .slice ea en ec] 24 (0, 0)) by rw [← hw1]; exact (heap_alloc_old _ _ (ltS_of_block R0)).trans R0)
  have Q1 := hide' (show w1.heap[rb]? = some (.cells #[.slice none 0 0, .slice none 0 0] 33 (0, 0)) by rw [← hw1, ← z0]; exact heap_alloc_new _ _)
  have LR := hide' (show w.heap.size < rb by omega)
  have CK := hide' (checkChips_any n xs ea en ec sn cl ca cn cc w1 (hE.below B1.out) (hP.below B1.out))
  have HE := hide' hE
  have HP := hide' hP
  have HG := hide' GC
  have NW := hide' (And.intro h1 h2)
  have HRB := hide' hrb
  clear hw0 hw1 hE hP z0 B0 R0 hrb GC
  simp only [bodyOf, Tryd.f10, Option.getD_some]
  refine reach_seq sand_mild (by k_ne) funcs10 inits10 (by decide +kernel) rfl ?_
  go_wp2
  rw [HRB.out, HW0.out, HW1.out]
  have y0 := cell_of_row w1 _ 0 _ _ _ R1.out
  have y1 := cell_of_row w1 _ 1 _ _ _ R1.out
  simp at y0 y1
  refine reach_seq sand_mild (by k_ne) funcs10 inits10 (by decide +kernel) rfl ?_
  go_wp2_with fail
  refine CK.out.mono ?_
  rintro e w2 ⟨f, hf, rfl, b2⟩
  have f0 := hf.only HG.out.is
  subst f0
  rw [show errOf 0 = .nilIface from rfl]
  have B2 := hide' (B1.out.trans (b2.mono B1.out.size))
  have R2 := hide' ((b2.block _ (ltS_of_block R1.out)).trans R1.out)
  have Q2 := hide' ((b2.block _ (ltS_of_block Q1.out)).trans Q1.out)
  clear hf b2 y0 y1
  go_wp2
  have c1 : ¬ (nw : Int) < 1 := by have := NW.out; omega
  have c2 : ¬ (8 : Int) < (nw : Int) := by have := NW.out; omega
  refine reach_seq sand_mild (by k_ne) funcs10 inits10 (by decide +kernel) rfl ?_
  go_wp2
  clear c1 c2
  refine Reach.ctl rfl stepG_seq ?_
  refine Reach.ctl rfl stepG_region ?_
  try simp only [List.size_toArray, List.length_cons, List.length_nil, Nat.reduceAdd, Nat.zero_add, List.range, List.range.loop]
  have y0 := cell_of_row w2 _ 0 _ _ _ R2.out
  have y1 := cell_of_row w2 _ 1 _ _ _ R2.out
  simp at y0 y1
  have lw2 := ltS_of_block R2.out
  refine reach_opk rfl rfl (by k_ne) (fun K hK => ?_)
  go_simp
  with_reducible refine hK _ (fun e' he => ?_) ?_
  · clear hK
    simp [go_sem, *] at he
    rcases he with rfl | rfl
    · exact ⟨lw2, fun m h => by cases h⟩
    · exact ⟨lw2, fun m h => by cases h⟩
  clear hK K
  try walk_nrm
  iterate 2
    refine reach_opk rfl rfl (by k_ne) (fun K hK => ?_)
    go_simp
    with_reducible refine hK _ (fun e' he => ?_) ?_
    · (clear hK; simp [go_sem, *] at he)
    clear hK K
    try walk_nrm
  refine reach_call rfl rfl (by k_ne) rfl Tryd.func22 rfl rfl ?_
  walk_nrmf Tryd.f22
  refine gather_reachE ?_ HG.out (HE.out.below B2.out) (HP.out.below B2.out) ?_
  · simp only [bodyOf, Tryd.f22, Option.getD_some]
  intro C wa wb hba hCw ga m t hb
  have hc := atRel_c
  have key := fun hG => bes_walk (S := fun g w' => AtRel wb w' ∧ HeadC nw C rb b₀ a₀ ops₀ i₀ rest₀ k₀ cs g) (n := 20) (F := AtRel wb) hG (atRel_refl wb) hb
  obtain ⟨N, m1, t1, g1, w3, r1, ⟨hw3, hg1⟩, hb1⟩ := key (by
    unfold HeadC
    simp only [cO, cL, cR, bodyOf, Tryd.f10, Option.getD_some]
    walk_nrm
    refine gp_opk (hc _) rfl rfl (by k_ne) (fun w hF K' hK => ?_)
    go_simp
    with_reducible refine hK _ (fun e' he => ?_) ?_
    · (clear hK; simp [go_sem, *] at he)
    clear hK K' hF
    clear w
    try walk_nrm
    refine gp_done (hc _) ?_
    refine gp_seq (hc _) ?_
    refine gp_block (hc _) ?_
    refine gp_loop (hc _) ?_
    exact Gp.stop (hc _) (fun w hF => ⟨hF, _, _, _, _, _, _, _, _, _, _, _, _, _, _, _, _, _, _, _, _, _, _, _, _, _, _, _, _, _, _, _, _, _, rfl⟩))
  obtain ⟨d, rfl⟩ := hw3
  have G0 := HG.out
  have s1 : rb < w2.heap.size := ltS_of_block Q2.out
  have s2 := hba.size
  have s3 : wb.heap.size = wa.heap.size := ga.sz
  have hCl : C < wb.heap.size := ltS_of_block ga.row
  have hRb : (wb.at d).heap[rb]? = some (.cells #[.slice none 0 0, .slice none 0 0] 33 (0, 0)) := (ga.old rb (by omega)).trans ((hba.block rb s1).trans Q2.out)
  have cw := cw_of_ga ga G0.ok.p2 G0.sink
  have cw' : CwAt C n sn (btX xs) (chF cl) (fun _ => 0) (wb.at d) := cw.on rfl
  have szd : (wb.at d).heap.size = wb.heap.size := rfl
  obtain ⟨N2, m2, t2, Shun', N1, g', w', wl, u, r2, ho⟩ := crowd_tail (C := C) (N0 := wb.heap.size) (Rb := rb) (nw := nw) G0.pile NW.out.1 (by have := NW.out.2; omega) hCl (by omega) (by omega) _ (fun _ => 0) (fun _ => False) (wb.at d) m1 t1 g1 rfl (PlS.start fun k hk => (G0.bnd k hk).1) (fun k hk => Int.le_refl 0) cw' (ShOk.none _ _ _) (ShCh.none _) (Nat.le_refl _) hRb hg1 (by rw [szd, s3]; exact hb1)
  obtain ⟨ga1, ga2, w'', po, oth, hsz, hoso, rfl⟩ := ho.out
  have bg := ho.big
  have zz := LR.out
  have z2 := B2.out.size
  have ps := po.sz
  obtain ⟨p1, p2, p3⟩ := po.r1
  obtain ⟨q1, q2, q3⟩ := po.r2
  refine ⟨N + N2, m2, t2, by rw [runNT_then r1]; exact r2, Shun', N1 + 4, ga1, ga2, w', u, ho.bes, ho.pl, ho.still, by omega, (oth ga1 (by omega)).trans p3, (oth ga2 (by omega)).trans q3, fun k hk => ?_, fun a ha => ?_, by omega, by omega, by omega, fun a ha => ?_, ⟨hoso.1.trans (po.os.1.trans (ho.os.1.trans (ga.os.1.trans (hba.os.trans B2.out.os)))), hoso.2.1.trans (po.os.2.1.trans (ho.os.2.1.trans (ga.os.2.1.trans (hba.tape.trans B2.out.tape)))), hoso.2.2.trans (po.os.2.2.trans (ho.os.2.2.trans (ga.os.2.2.trans (hba.output.trans B2.out.output))))⟩, ⟨ho.chs.kind, fun r hr => ?_⟩⟩
  · refine (oth k (by omega)).trans ((po.old k (by omega)).trans ((ho.old k (by omega) (by omega)).trans ?_))
    exact (ga.old k (by omega)).trans ((hba.block k (by omega)).trans (B2.out.block k hk))
  · have l1 : a.block < N1 := ho.sh.low _ ha
    rcases ho.sh.cell a ha with ⟨l2, _⟩ | l2
    · exact ⟨by omega, by omega, by omega⟩
    · exact ⟨by omega, by omega, by omega⟩
  · have l1 : a.block < N1 := ho.sh.low _ ha
    omega
  · obtain ⟨o, q1, q2⟩ := ho.chs.chan r hr
    have l1 : r < N1 := ho.sh.low _ hr
    have l2 : r ≠ rb := fun e => by
      rw [e, (ho.old rb (by omega) (by omega)).trans hRb] at q1
      injection q1 with q1
      subst q1
      cases q2
    exact ⟨o, (oth r l2).trans ((po.old r (by omega)).trans q1), q2⟩
end Go.Proofs.YtpajdmhgonmgoaaDoor

namespace Go.Proofs.YtpajdmhgonmgoaaDoor
open Go.RowKit
set_option linter.unusedVariables false
open Go.Conc Go.ConcN Go.RowKit Go.Conc.Lib Go.ConcR.Gen
open Go.ConcR (KK wgBlock WgAt stA smA rd wr Payload DC0)
set_option linter.unusedSimpArgs false
end Go.Proofs.YtpajdmhgonmgoaaDoor

