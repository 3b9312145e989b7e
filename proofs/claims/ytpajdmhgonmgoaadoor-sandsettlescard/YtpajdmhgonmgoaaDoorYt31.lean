/-
  What the last text of this claim leans on, part 31: Kdc.
-/
import Derived.Test.YtpajdmhgonmgoaaDoorYt30
namespace Go.Proofs.YtpajdmhgonmgoaaDoor
open Go.RowKit
set_option linter.unusedVariables false
open Go.Conc Go.ConcN Go.RowKit Go.Conc.Lib Go.ConcR.Gen
open Go.ConcR (KK wgBlock WgAt stA smA rd wr Payload DC0)
set_option linter.unusedSimpArgs false
theorem gp_leaveR {P : Program} {F : World → Prop} {E : Event → Prop} {S : Goroutine → World → Prop} {n : Nat} {b : Frame} {a : Act} {k : List Item} {cs : List Frame} (hc : AtC F) {b₀ : Frame} {a₀ : Act} {ops : Array Oper} {i : Nat} {rest : List Nat} {fn : Func} {v : Value} {todo : List Item} (hn : b.kind = .normal) (hd : a.defers = []) (hf : P.funcs[b.fn]? = some fn)
    (hr : ∀ w, F w → (results fn a.tmps).run P w = .ok v w ∧ ∀ e ∈ (results fn a.tmps).events P w #[], E e)
    (h : Gp P E S n (G (b₀.at (a₀.put ((ops[i]?).bind (·.dst)) v) (.inRegion ops rest :: k)) cs) F) : Gp P E S (n + 1) (G { b.at a todo with mode := .returning } (b₀.at a₀ (.inRegion ops (i :: rest) :: k) :: cs)) F := by
  refine gp_step hc rfl (fun w hw => ?_) h
  obtain ⟨h1, h2⟩ := hr w hw
  refine ⟨w, seen P b.fn ((results fn a.tmps).events P w #[]), ?_, fun e he => h2 e (mem_seen he), hw⟩
  rw [← Frame.finish_at]
  simp [G, stepG, unwind, doReturn, Frame.at, hn, hd, hf, h1, GStep.after]
theorem mem_two {a b e : Event} {Q : Event → Prop} (h : e ∈ #[a, b]) (h1 : Q a) (h2 : Q b) : Q e := by
  simp only [List.mem_toArray, List.mem_cons, List.not_mem_nil, or_false] at h
  rcases h with rfl | rfl
  · exact h1
  · exact h2
/-- The world in piled's loop. -/
structure LpW (w0 : World) (N n : Nat) (f1 f2 : Nat → Int) (s : PdS) (i j : Nat) (w : World) : Prop where
  os : w.os = w0.os ∧ w.tape = w0.tape ∧ w.output = w0.output
  old : ∀ k, k < N → w.heap[k]? = w0.heap[k]?
  sz : w.heap.size = N + 4
  tN : w.heap[N]? = some (.cells #[.slice none 0 0, .slice none 0 0] 33)
  r1 : N + 1 ≤ s.g1 ∧ s.g1 < N + 4 ∧ w.heap[s.g1]? = some (.cells (arrS n (fun k => .int .i64 (if k < i then f1 k else 0))) 3)
  r2 : N + 1 ≤ s.g2 ∧ s.g2 < N + 4 ∧ w.heap[s.g2]? = some (.cells (arrS n (fun k => .int .i64 (if k < j then f2 k else 0))) 3)
  rT : N + 1 ≤ s.T ∧ s.T < N + 4 ∧ w.heap[s.T]? = some (.cells #[slV s.g1 n, slV s.g2 n] 33)
  n1 : s.g1 ≠ s.g2
  n2 : s.g1 ≠ s.T
  n3 : s.g2 ≠ s.T
theorem row_up {n i : Nat} {f : Nat → Int} : (arrS n (fun k => Value.int .i64 (if k < i then f k else 0))).setIfInBounds i (.int .i64 (f i)) = arrS n (fun k => .int .i64 (if k < i + 1 then f k else 0)) := by
  rw [arrS_set]
  exact arrS_ext fun k _ => by
    by_cases h : k = i
    · subst h; simp
    · by_cases h2 : k < i
      · rw [if_neg h, if_pos h2, if_pos (by omega)]
      · rw [if_neg h, if_neg h2, if_neg (by omega)]
theorem LpW.up1 {w0 : World} {N n : Nat} {f1 f2 : Nat → Int} {s : PdS} {i j : Nat} {w : World} (h : LpW w0 N n f1 f2 s i j w) : LpW w0 N n f1 f2 s (i + 1) j (w.setCell ⟨s.g1, i, none⟩ (.int .i64 (f1 i))) := by
  have oth : ∀ k, k ≠ s.g1 → (w.setCell ⟨s.g1, i, none⟩ (.int .i64 (f1 i))).heap[k]? = w.heap[k]? := fun k hk => hSet _ _ _ _ hk
  obtain ⟨a1, a2, a3⟩ := h.r1
  refine ⟨h.os, fun k hk => (oth k (by omega)).trans (h.old k hk), by simpa using h.sz, (oth N (by omega)).trans h.tN, ⟨a1, a2, ?_⟩, ⟨h.r2.1, h.r2.2.1, (oth _ (Ne.symm h.n1)).trans h.r2.2.2⟩, ⟨h.rT.1, h.rT.2.1, (oth _ (Ne.symm h.n2)).trans h.rT.2.2⟩, h.n1, h.n2, h.n3⟩
  rw [heap_setCell_same w s.g1 i _ _ _ a3, row_up]
theorem LpW.up2 {w0 : World} {N n : Nat} {f1 f2 : Nat → Int} {s : PdS} {i j : Nat} {w : World} (h : LpW w0 N n f1 f2 s i j w) : LpW w0 N n f1 f2 s i (j + 1) (w.setCell ⟨s.g2, j, none⟩ (.int .i64 (f2 j))) := by
  have oth : ∀ k, k ≠ s.g2 → (w.setCell ⟨s.g2, j, none⟩ (.int .i64 (f2 j))).heap[k]? = w.heap[k]? := fun k hk => hSet _ _ _ _ hk
  obtain ⟨a1, a2, a3⟩ := h.r2
  refine ⟨h.os, fun k hk => (oth k (by omega)).trans (h.old k hk), by simpa using h.sz, (oth N (by omega)).trans h.tN, ⟨h.r1.1, h.r1.2.1, (oth _ h.n1).trans h.r1.2.2⟩, ⟨a1, a2, ?_⟩, ⟨h.rT.1, h.rT.2.1, (oth _ (Ne.symm h.n3)).trans h.rT.2.2⟩, h.n1, h.n2, h.n3⟩
  rw [heap_setCell_same w s.g2 j _ _ _ a3, row_up]
/-- What piled leaves. -/
structure PiOut (w0 : World) (N n : Nat) (f1 f2 : Nat → Int) (g1 g2 : Nat) (w : World) : Prop where
  os : w.os = w0.os ∧ w.tape = w0.tape ∧ w.output = w0.output
  old : ∀ k, k < N → w.heap[k]? = w0.heap[k]?
  sz : w.heap.size = N + 4
  r1 : N ≤ g1 ∧ g1 < N + 4 ∧ w.heap[g1]? = some (.cells (arrS n (fun k => .int .i64 (f1 k))) 3)
  r2 : N ≤ g2 ∧ g2 < N + 4 ∧ w.heap[g2]? = some (.cells (arrS n (fun k => .int .i64 (f2 k))) 3)
  n1 : g1 ≠ g2
/-- Where piled returns to. -/
def PiAt (w0 : World) (N n : Nat) (f1 f2 : Nat → Int) (b₀ : Frame) (a₀ : Act) (ops₀ : Array Oper) (i₀ : Nat) (rest₀ : List Nat) (k₀ : List Item) (cs : List Frame) (g : Goroutine) (w : World) : Prop := ∃ g1 g2, PiOut w0 N n f1 f2 g1 g2 w ∧ g = G (b₀.at (a₀.put ((ops₀[i₀]?).bind (·.dst)) (.agg #[slV g1 n, slV g2 n])) (.inRegion ops₀ rest₀ :: k₀)) cs
theorem piled_res (w : World) (T : Array Value) (g : Nat) (x y : Value) (hp : T.getD 2 undef = .pointer (some ⟨g, 0, none⟩)) (hg : w.heap[g]? = some (.cells #[x, y] 33 (0, 0))) : (results Tryd.f24 T).run Tryd.prog w = .ok (.agg #[x, y]) w ∧ (results Tryd.f24 T).events Tryd.prog w #[] = #[⟨.cell ⟨g, 0, none⟩, false, false⟩, ⟨.cell ⟨g, 1, none⟩, false, false⟩] := by
  obtain ⟨k1, k2, _, _, k5⟩ := set2 (x := x) (y := y) hg
  have hp' : T[2]?.getD undef = .pointer (some ⟨g, 0, none⟩) := by simpa using hp
  constructor
  · simp [results, Tryd.f24, hp', asAddr, go_sem, loadCells, k1, k5, Addr.add]
  · simp [results, Tryd.f24, hp', asAddr, go_sem, loadCells, k1, k5, Addr.add]
set_option maxRecDepth 100000 in
set_option maxHeartbeats 6400000 in
theorem piled_loop {Shun : Loc → Prop} {C N n : Nat} {f1 f2 : Nat → Int} {w0 : World} {b₀ : Frame} {a₀ : Act} {ops₀ : Array Oper} {i₀ : Nat} {rest₀ : List Nat} {k₀ : List Item} {cs : List Frame} (hC : C < N) (hn10 : n ≤ 10) (hS : ∀ a, N ≤ a.block → ¬ Shun (.cell a)) (hx1 : ∀ q, q < n → w0.cell? ⟨C, 112 + q, none⟩ = some (.int .i64 (f1 q))) (hx2 : ∀ q, q < n → w0.cell? ⟨C, 122 + q, none⟩ = some (.int .i64 (f2 q))) (s : PdS) : ∀ (r i : Nat), i + r = n → ∀ (x1 x4 x5 x6 x7 x8 x9 x10 x11 x12 x13 x14 x15 x16 x17 x18 x19 x20 x21 x24 x25 x26 x27 x28 x29 x30 x31 x32 x33 x34 x35 x36 x37 x38 x39 x40 x41 x42 x43 x44 x45 x46 x47 : Value) (w1 : World), LpW w0 N n f1 f2 s i i w1 →
    Gp Tryd.prog (EvL Shun (N + 4)) (PiAt w0 N n f1 f2 b₀ a₀ ops₀ i₀ rest₀ k₀ cs) (700 * r + 40) (G ((base 24).at ⟨#[(Value.pointer (some ⟨C, 0, none⟩)), x1, (Value.pointer (some ⟨N, 0, none⟩)), (Value.pointer (some ⟨s.T, 0, none⟩)), x4, x5, x6, x7, x8, x9, x10, x11, x12, x13, x14, x15, x16, x17, x18, x19, x20, x21, (.int .i64 (n : Int)), (.int .i64 (i : Int)), x24, x25, x26, x27, x28, x29, x30, x31, x32, x33, x34, x35, x36, x37, x38, x39, x40, x41, x42, x43, x44, x45, x46, x47], []⟩ [.code (cL (cL (cR (cL (cR (cR (bodyOf Tryd.f24))))))), .inLoop (cL (cL (cR (cL (cR (cR (bodyOf Tryd.f24))))))), .inBlock 0, .code (cR (cR (cR (bodyOf Tryd.f24))))]) (b₀.at a₀ (.inRegion ops₀ (i₀ :: rest₀) :: k₀) :: cs)) (AtRel w1) := by
  have hc := atRel_c
  intro r
  induction r with
  | zero =>
    intro i hi x1 x4 x5 x6 x7 x8 x9 x10 x11 x12 x13 x14 x15 x16 x17 x18 x19 x20 x21 x24 x25 x26 x27 x28 x29 x30 x31 x32 x33 x34 x35 x36 x37 x38 x39 x40 x41 x42 x43 x44 x45 x46 x47 w1 hw
    obtain rfl : i = n := by omega
    have hlt : ¬ ((i : Int) < (i : Int)) := by omega
    simp only [cO, cL, cR, bodyOf, Tryd.f24, Option.getD_some]
    refine gp_seq (hc _) ?_
    refine gp_region (hc _) ?_
    try simp only [List.size_toArray, List.length_cons, List.length_nil, Nat.reduceAdd, Nat.zero_add, List.range, List.range.loop]
    refine gp_opk (hc _) rfl rfl (by k_ne) (fun w hF K' hK => ?_)
    go_simp
    with_reducible refine hK _ (fun e' he => ?_) ?_
    · (clear hK; simp [go_sem, *] at he)
    clear hK K' hF
    clear w
    try walk_nrm
    refine gp_done (hc _) ?_
    refine gp_seq (hc _) ?_
    refine gp_cond (hc _) false ?_ ?_
    · (first | rfl | (simp [Act.eval, *]; done))
    simp only [if_false, Bool.false_eq_true, ↓reduceIte]
    refine gp_exit (hc _) rfl ?_
    refine gp_seq (hc _) ?_
    refine gp_region (hc _) ?_
    try simp only [List.size_toArray, List.length_cons, List.length_nil, Nat.reduceAdd, Nat.zero_add, List.range, List.range.loop]

    obtain ⟨t1, t2, t3⟩ := hw.rT
    have tN := hw.tN
    refine gp_valw (F' := AtRel w1) (hc _) rfl rfl (by k_ne) (.agg #[slV s.g1 i, slV s.g2 i]) (fun w hF => ?_) ?_
    · obtain ⟨d, rfl⟩ := hF
      refine ⟨w1.at d, Or.inl (ld_run (w := w1.at d) t3 (by simp) rfl).1, fun e he => ?_, ⟨d, rfl⟩⟩
      rw [(ld_run (w := w1.at d) (g := s.T) t3 (by simp) rfl).2] at he
      exact mem_two he (evL_cell _ _ (hS _ (by show N ≤ s.T; omega)) (by show s.T < N + 4; omega)) (evL_cell _ _ (hS _ (by show N ≤ s.T; omega)) (by show s.T < N + 4; omega))
    walk_nrm
    obtain ⟨w2, hw2⟩ : ∃ w2, w2 = (w1.setCell ⟨N, 0, none⟩ (slV s.g1 i)).setCell ⟨N, 1, none⟩ (slV s.g2 i) := ⟨_, rfl⟩
    refine gp_valw (F' := AtRel w2) (hc _) rfl rfl (by k_ne) undef (fun w hF => ?_) ?_
    · obtain ⟨d, rfl⟩ := hF
      refine ⟨w2.at d, Or.inr ⟨?_, rfl⟩, fun e he => ?_, ⟨d, rfl⟩⟩
      · rw [(st_run (w := w1.at d) (g := N) (a1 := some ⟨s.g1, 0, none⟩) (n1 := i) (m1 := i) (a2 := some ⟨s.g2, 0, none⟩) (n2 := i) (m2 := i) tN (by simp) (by simp [slV]) rfl).1, hw2]
        rfl
      · rw [(st_run (w := w1.at d) (g := N) (a1 := some ⟨s.g1, 0, none⟩) (n1 := i) (m1 := i) (a2 := some ⟨s.g2, 0, none⟩) (n2 := i) (m2 := i) tN (by simp) (by simp [slV]) rfl).2] at he
        exact mem_two he (evL_cell _ _ (hS _ (Nat.le_refl _)) (by show N < N + 4; omega)) (evL_cell _ _ (hS _ (Nat.le_refl _)) (by show N < N + 4; omega))
    walk_nrm
    refine gp_done (hc _) ?_

    have r2 : w2.heap[N]? = some (.cells #[slV s.g1 i, slV s.g2 i] 33 (0, 0)) := by
      rw [hw2]
      have k1 := heap_setCell_same w1 N 0 _ _ (slV s.g1 i) tN
      exact heap_setCell_same _ N 1 _ _ (slV s.g2 i) k1
    have oth : ∀ k, k ≠ N → w2.heap[k]? = w1.heap[k]? := fun k hk => by rw [hw2, hSet _ _ _ _ hk, hSet _ _ _ _ hk]
    refine gp_ret (hc _) ?_
    refine gp_leaveR (hc _) (v := .agg #[slV s.g1 i, slV s.g2 i]) rfl rfl Tryd.func24 (fun w hF => ?_) ?_
    · obtain ⟨d, rfl⟩ := hF
      refine ⟨(piled_res (w2.at d) _ N (slV s.g1 i) (slV s.g2 i) (by simp) r2).1, fun e he => ?_⟩
      exact mem_two (Eq.mp (congrArg (fun x => e ∈ x) (piled_res (w2.at d) _ N (slV s.g1 i) (slV s.g2 i) (by simp) r2).2) he) (evL_cell _ _ (hS _ (Nat.le_refl _)) (by show N < N + 4; omega)) (evL_cell _ _ (hS _ (Nat.le_refl _)) (by show N < N + 4; omega))
    refine Gp.stop (hc _) (fun w hF => ⟨s.g1, s.g2, ?_, rfl⟩)
    obtain ⟨d, rfl⟩ := hF
    obtain ⟨a1, a2, a3⟩ := hw.r1
    obtain ⟨b1, b2, b3⟩ := hw.r2
    have e1 : w2.os = w1.os ∧ w2.tape = w1.tape ∧ w2.output = w1.output := by rw [hw2]; exact ⟨rfl, rfl, rfl⟩
    refine ⟨⟨e1.1.trans hw.os.1, e1.2.1.trans hw.os.2.1, e1.2.2.trans hw.os.2.2⟩, fun k hk => (oth k (by omega)).trans (hw.old k hk), ?_, ⟨by omega, a2, (oth _ (by omega)).trans (a3.trans ?_)⟩, ⟨by omega, b2, (oth _ (by omega)).trans (b3.trans ?_)⟩, hw.n1⟩
    · show w2.heap.size = N + 4
      rw [hw2]; simpa using hw.sz
    · rw [arrS_ext (g := fun k => .int .i64 (f1 k)) (fun k hk => by rw [if_pos hk])]
    · rw [arrS_ext (g := fun k => .int .i64 (f2 k)) (fun k hk => by rw [if_pos hk])]
  | succ r ih =>
    intro i hi x1 x4 x5 x6 x7 x8 x9 x10 x11 x12 x13 x14 x15 x16 x17 x18 x19 x20 x21 x24 x25 x26 x27 x28 x29 x30 x31 x32 x33 x34 x35 x36 x37 x38 x39 x40 x41 x42 x43 x44 x45 x46 x47 w1 hw
    have hin : i < n := by omega
    have hlt : (i : Int) < (n : Int) := by omega
    have hwi : IntKind.wrap .i64 ((i : Int) + 1) = (i : Int) + 1 := wrap_fit ⟨by omega, by omega⟩
    obtain ⟨t1, t2, t3⟩ := hw.rT
    obtain ⟨a1, a2, a3⟩ := hw.r1
    have hw1 := hw.up1
    obtain ⟨b1, b2, b3⟩ := hw1.r2
    have hw2 := hw1.up2
    obtain ⟨w2, hw2e⟩ : ∃ w2, w2 = w1.setCell ⟨s.g1, i, none⟩ (.int .i64 (f1 i)) := ⟨_, rfl⟩
    rw [← hw2e] at hw1 b3 hw2
    obtain ⟨w3, hw3e⟩ : ∃ w3, w3 = w2.setCell ⟨s.g2, i, none⟩ (.int .i64 (f2 i)) := ⟨_, rfl⟩
    rw [← hw3e] at hw2
    have next := ih (i + 1) (by omega) x1 (.int .i64 (i : Int)) x5 x6 x7 x8 x9 x10 x11 x12 x13 x14 x15 x16 x17 x18 x19 x20 x21 (.bool true) (.int .i64 (i : Int)) (Value.pointer (some ⟨s.T, 0, none⟩)) (slV s.g1 n) (.int .i64 (i : Int)) (Value.pointer (some ⟨C, 0, none⟩)) (.int .i64 (i : Int)) (Value.pointer (some ⟨C, 0, none⟩)) (Value.pointer (some ⟨C, 112, none⟩)) (Value.pointer (some ⟨C, 112 + i, none⟩)) (.int .i64 (f1 i)) (Value.pointer (some ⟨s.g1, i, none⟩)) (Value.pointer (some ⟨s.T, 1, none⟩)) (slV s.g2 n) (.int .i64 (i : Int)) (Value.pointer (some ⟨C, 0, none⟩)) (.int .i64 (i : Int)) (Value.pointer (some ⟨C, 0, none⟩)) (Value.pointer (some ⟨C, 122, none⟩)) (Value.pointer (some ⟨C, 122 + i, none⟩)) (.int .i64 (f2 i)) (Value.pointer (some ⟨s.g2, i, none⟩)) (.int .i64 ((i : Int) + 1)) x47 w3 hw2
    have e1 : ((i + 1 : Nat) : Int) = (i : Int) + 1 := rfl
    rw [e1] at next
    clear ih
    have q6 := piled_R6 (Shun := Shun) (N := N) (C := C) (T := s.T) (g := s.g2) (n := n) (i := i) (x := f2 i) (w1 := w2) (S := (PiAt w0 N n f1 f2 b₀ a₀ ops₀ i₀ rest₀ k₀ cs)) (a0 := ⟨#[(Value.pointer (some ⟨C, 0, none⟩)), x1, (Value.pointer (some ⟨N, 0, none⟩)), (Value.pointer (some ⟨s.T, 0, none⟩)), (.int .i64 (i : Int)), x5, x6, x7, x8, x9, x10, x11, x12, x13, x14, x15, x16, x17, x18, x19, x20, x21, (.int .i64 (n : Int)), (.int .i64 (i : Int)), .bool true, (.int .i64 (i : Int)), (Value.pointer (some ⟨s.T, 0, none⟩)), (slV s.g1 n), (.int .i64 (i : Int)), (Value.pointer (some ⟨C, 0, none⟩)), (.int .i64 (i : Int)), (Value.pointer (some ⟨C, 0, none⟩)), (Value.pointer (some ⟨C, 112, none⟩)), (Value.pointer (some ⟨C, 112 + i, none⟩)), (.int .i64 (f1 i)), (Value.pointer (some ⟨s.g1, i, none⟩)), x36, x37, x38, x39, x40, x41, x42, x43, x44, x45, x46, x47], []⟩) (k := [.inBlock 1, .code (cR (cR (cR (cL (cL (cR (cL (cR (cR (bodyOf Tryd.f24)))))))))), .inLoop (cL (cL (cR (cL (cR (cR (bodyOf Tryd.f24))))))), .inBlock 0, .code (cR (cR (cR (bodyOf Tryd.f24))))]) (cs := (b₀.at a₀ (.inRegion ops₀ (i₀ :: rest₀) :: k₀) :: cs)) (m := 700 * r + 40 + 20) hin hn10 rfl rfl rfl rfl hS (by omega) t2 (by omega) b2 hC
      (by obtain ⟨_, _, c3⟩ := hw1.rT; exact (cell_of_row w2 s.T 1 _ _ _ c3)) ((cell_heap (a := ⟨C, 122 + i, none⟩) (hw1.old C hC)).trans (hx2 i hin)) ⟨_, (cell_of_row w2 s.g2 i _ _ _ b3).trans (arrS_get _ hin)⟩ (frozen_of_row w2 s.g2 i _ _ b3) (by
        rw [← hw3e]
        have ea : putsO ⟨#[(Value.pointer (some ⟨C, 0, none⟩)), x1, (Value.pointer (some ⟨N, 0, none⟩)), (Value.pointer (some ⟨s.T, 0, none⟩)), (.int .i64 (i : Int)), x5, x6, x7, x8, x9, x10, x11, x12, x13, x14, x15, x16, x17, x18, x19, x20, x21, (.int .i64 (n : Int)), (.int .i64 (i : Int)), .bool true, (.int .i64 (i : Int)), (Value.pointer (some ⟨s.T, 0, none⟩)), (slV s.g1 n), (.int .i64 (i : Int)), (Value.pointer (some ⟨C, 0, none⟩)), (.int .i64 (i : Int)), (Value.pointer (some ⟨C, 0, none⟩)), (Value.pointer (some ⟨C, 112, none⟩)), (Value.pointer (some ⟨C, 112 + i, none⟩)), (.int .i64 (f1 i)), (Value.pointer (some ⟨s.g1, i, none⟩)), x36, x37, x38, x39, x40, x41, x42, x43, x44, x45, x46, x47], []⟩ ((List.range 11).map fun j => (dlR6.getD j none, vlR6 C s.T s.g2 n i (f2 i) j)) = ⟨#[(Value.pointer (some ⟨C, 0, none⟩)), x1, (Value.pointer (some ⟨N, 0, none⟩)), (Value.pointer (some ⟨s.T, 0, none⟩)), (.int .i64 (i : Int)), x5, x6, x7, x8, x9, x10, x11, x12, x13, x14, x15, x16, x17, x18, x19, x20, x21, (.int .i64 (n : Int)), (.int .i64 (i : Int)), .bool true, (.int .i64 (i : Int)), (Value.pointer (some ⟨s.T, 0, none⟩)), (slV s.g1 n), (.int .i64 (i : Int)), (Value.pointer (some ⟨C, 0, none⟩)), (.int .i64 (i : Int)), (Value.pointer (some ⟨C, 0, none⟩)), (Value.pointer (some ⟨C, 112, none⟩)), (Value.pointer (some ⟨C, 112 + i, none⟩)), (.int .i64 (f1 i)), (Value.pointer (some ⟨s.g1, i, none⟩)), (Value.pointer (some ⟨s.T, 1, none⟩)), (slV s.g2 n), (.int .i64 (i : Int)), (Value.pointer (some ⟨C, 0, none⟩)), (.int .i64 (i : Int)), (Value.pointer (some ⟨C, 0, none⟩)), (Value.pointer (some ⟨C, 122, none⟩)), (Value.pointer (some ⟨C, 122 + i, none⟩)), (.int .i64 (f2 i)), (Value.pointer (some ⟨s.g2, i, none⟩)), x46, x47], []⟩ := by simp only [List.range, List.range.loop, List.map_cons, List.map_nil, dlR5, vlR5, dlR6, vlR6, dlP1, vlP1, List.getD_cons_zero, List.getD_cons_succ, putsO, Act.put, List.setIfInBounds_toArray, List.set_cons_zero, List.set_cons_succ, slV]
        rw [ea]
        clear ea
        simp only [cO, cL, cR, bodyOf, Tryd.f24, Option.getD_some] at next ⊢
        refine gp_inBlock (hc _) ?_
        refine gp_region (hc _) ?_
        try simp only [List.size_toArray, List.length_cons, List.length_nil, Nat.reduceAdd, Nat.zero_add, List.range, List.range.loop]
        refine gp_opk (hc _) rfl rfl (by k_ne) (fun w hF K' hK => ?_)
        go_simp
        with_reducible refine hK _ (fun e' he => ?_) ?_
        · (clear hK; simp [go_sem, *] at he)
        clear hK K' hF
        clear w
        try walk_nrm
        refine gp_opk (hc _) rfl rfl (by k_ne) (fun w hF K' hK => ?_)
        go_simp
        with_reducible refine hK _ (fun e' he => ?_) ?_
        · (clear hK; simp [go_sem, *] at he)
        clear hK K' hF
        clear w
        try walk_nrm
        refine gp_done (hc _) ?_
        refine gp_inLoop (hc _) ?_

        exact Gp.mono next (by omega))
    have q5 := piled_R5 (Shun := Shun) (N := N) (C := C) (T := s.T) (g := s.g1) (n := n) (i := i) (x := f1 i) (w1 := w1) (S := (PiAt w0 N n f1 f2 b₀ a₀ ops₀ i₀ rest₀ k₀ cs)) (a0 := ⟨#[(Value.pointer (some ⟨C, 0, none⟩)), x1, (Value.pointer (some ⟨N, 0, none⟩)), (Value.pointer (some ⟨s.T, 0, none⟩)), (.int .i64 (i : Int)), x5, x6, x7, x8, x9, x10, x11, x12, x13, x14, x15, x16, x17, x18, x19, x20, x21, (.int .i64 (n : Int)), (.int .i64 (i : Int)), .bool true, (.int .i64 (i : Int)), x26, x27, x28, x29, x30, x31, x32, x33, x34, x35, x36, x37, x38, x39, x40, x41, x42, x43, x44, x45, x46, x47], []⟩) (k := .code (cR (cR (cL (cL (cR (cR (cL (cL (cR (cL (cR (cR (bodyOf Tryd.f24))))))))))))) :: [.inBlock 1, .code (cR (cR (cR (cL (cL (cR (cL (cR (cR (bodyOf Tryd.f24)))))))))), .inLoop (cL (cL (cR (cL (cR (cR (bodyOf Tryd.f24))))))), .inBlock 0, .code (cR (cR (cR (bodyOf Tryd.f24))))]) (cs := (b₀.at a₀ (.inRegion ops₀ (i₀ :: rest₀) :: k₀) :: cs)) (m := 700 * r + 40 + 20 + 277) hin hn10 rfl rfl rfl rfl hS (by omega) t2 (by omega) a2 hC
      (cell_of_row w1 s.T 0 _ _ _ t3) ((cell_heap (a := ⟨C, 112 + i, none⟩) (hw.old C hC)).trans (hx1 i hin)) ⟨_, (cell_of_row w1 s.g1 i _ _ _ a3).trans (arrS_get _ hin)⟩ (frozen_of_row w1 s.g1 i _ _ a3) (by
        rw [← hw2e]
        have ea : putsO ⟨#[(Value.pointer (some ⟨C, 0, none⟩)), x1, (Value.pointer (some ⟨N, 0, none⟩)), (Value.pointer (some ⟨s.T, 0, none⟩)), (.int .i64 (i : Int)), x5, x6, x7, x8, x9, x10, x11, x12, x13, x14, x15, x16, x17, x18, x19, x20, x21, (.int .i64 (n : Int)), (.int .i64 (i : Int)), .bool true, (.int .i64 (i : Int)), x26, x27, x28, x29, x30, x31, x32, x33, x34, x35, x36, x37, x38, x39, x40, x41, x42, x43, x44, x45, x46, x47], []⟩ ((List.range 11).map fun j => (dlR5.getD j none, vlR5 C s.T s.g1 n i (f1 i) j)) = ⟨#[(Value.pointer (some ⟨C, 0, none⟩)), x1, (Value.pointer (some ⟨N, 0, none⟩)), (Value.pointer (some ⟨s.T, 0, none⟩)), (.int .i64 (i : Int)), x5, x6, x7, x8, x9, x10, x11, x12, x13, x14, x15, x16, x17, x18, x19, x20, x21, (.int .i64 (n : Int)), (.int .i64 (i : Int)), .bool true, (.int .i64 (i : Int)), (Value.pointer (some ⟨s.T, 0, none⟩)), (slV s.g1 n), (.int .i64 (i : Int)), (Value.pointer (some ⟨C, 0, none⟩)), (.int .i64 (i : Int)), (Value.pointer (some ⟨C, 0, none⟩)), (Value.pointer (some ⟨C, 112, none⟩)), (Value.pointer (some ⟨C, 112 + i, none⟩)), (.int .i64 (f1 i)), (Value.pointer (some ⟨s.g1, i, none⟩)), x36, x37, x38, x39, x40, x41, x42, x43, x44, x45, x46, x47], []⟩ := by simp only [List.range, List.range.loop, List.map_cons, List.map_nil, dlR5, vlR5, dlR6, vlR6, dlP1, vlP1, List.getD_cons_zero, List.getD_cons_succ, putsO, Act.put, List.setIfInBounds_toArray, List.set_cons_zero, List.set_cons_succ, slV]
        rw [ea]
        clear ea
        exact q6)
    clear q6 next
    simp only [cO, cL, cR, bodyOf, Tryd.f24, Option.getD_some] at q5 ⊢
    refine gp_seq (hc _) ?_
    refine gp_region (hc _) ?_
    try simp only [List.size_toArray, List.length_cons, List.length_nil, Nat.reduceAdd, Nat.zero_add, List.range, List.range.loop]
    refine gp_opk (hc _) rfl rfl (by k_ne) (fun w hF K' hK => ?_)
    go_simp
    with_reducible refine hK _ (fun e' he => ?_) ?_
    · (clear hK; simp [go_sem, *] at he)
    clear hK K' hF
    clear w
    try walk_nrm
    refine gp_done (hc _) ?_
    refine gp_seq (hc _) ?_
    refine gp_cond (hc _) true ?_ ?_
    · (first | rfl | (simp [Act.eval, *]; done))
    simp only [if_true, ↓reduceIte]
    refine gp_skip (hc _) ?_
    refine gp_seq (hc _) ?_
    refine gp_block (hc _) ?_
    refine gp_seq (hc _) ?_
    refine gp_region (hc _) ?_
    try simp only [List.size_toArray, List.length_cons, List.length_nil, Nat.reduceAdd, Nat.zero_add, List.range, List.range.loop]
    refine gp_opk (hc _) rfl rfl (by k_ne) (fun w hF K' hK => ?_)
    go_simp
    with_reducible refine hK _ (fun e' he => ?_) ?_
    · (clear hK; simp [go_sem, *] at he)
    clear hK K' hF
    clear w
    try walk_nrm
    refine gp_opk (hc _) rfl rfl (by k_ne) (fun w hF K' hK => ?_)
    go_simp
    with_reducible refine hK _ (fun e' he => ?_) ?_
    · (clear hK; simp [go_sem, *] at he)
    clear hK K' hF
    clear w
    try walk_nrm
    refine gp_done (hc _) ?_
    refine gp_seq (hc _) ?_

    exact Gp.mono q5 (by omega)
set_option maxRecDepth 100000 in
set_option maxHeartbeats 6400000 in
/-- piled, beside leavers. -/
theorem piled_x {Shun : Loc → Prop} {C N n : Nat} {f1 f2 : Nat → Int} {w0 : World} {b₀ : Frame} {a₀ : Act} {ops₀ : Array Oper} {i₀ : Nat} {rest₀ : List Nat} {k₀ : List Item} {cs : List Frame} (hC : C < N) (hn10 : n ≤ 10) (hS : ∀ a, N ≤ a.block → ¬ Shun (.cell a)) (hx1 : ∀ q, q < n → w0.cell? ⟨C, 112 + q, none⟩ = some (.int .i64 (f1 q))) (hx2 : ∀ q, q < n → w0.cell? ⟨C, 122 + q, none⟩ = some (.int .i64 (f2 q))) (hN : w0.heap.size = N) (hSC : ¬ Shun (.cell ⟨C, 0, none⟩)) (hx : w0.cell? ⟨C, 0, none⟩ = some (.int .i64 (n : Int))) :
    Gp Tryd.prog (EvL Shun (N + 4)) (PiAt w0 N n f1 f2 b₀ a₀ ops₀ i₀ rest₀ k₀ cs) (700 * n + 600) (G ((base 24).at ⟨#[(Value.pointer (some ⟨C, 0, none⟩)), undef, undef, undef, undef, undef, undef, undef, undef, undef, undef, undef, undef, undef, undef, undef, undef, undef, undef, undef, undef, undef, undef, undef, undef, undef, undef, undef, undef, undef, undef, undef, undef, undef, undef, undef, undef, undef, undef, undef, undef, undef, undef, undef, undef, undef, undef, undef], []⟩ [.code (bodyOf Tryd.f24)]) (b₀.at a₀ (.inRegion ops₀ (i₀ :: rest₀) :: k₀) :: cs)) (AtRel w0) := by
  have hc := atRel_c
  obtain ⟨w1, hw1⟩ : ∃ w1, w1 = w0.alloc (.cells #[.slice none 0 0, .slice none 0 0] 33) := ⟨_, rfl⟩
  have hN1 : w1.heap.size = N + 1 := by rw [hw1, size_alloc', hN]
  have hTN : w1.heap[N]? = some (.cells #[.slice none 0 0, .slice none 0 0] 33) := by rw [hw1, ← hN]; exact hNew _ _
  have ho : ∀ k, k < N → w1.heap[k]? = w0.heap[k]? := fun k hk => by rw [hw1]; exact hOld _ _ _ (by omega)
  have q1 := piled_P1 (Shun := Shun) (B := N + 4) (N1 := N + 1) (C := C) (n := n) (W := w1) (S := (PiAt w0 N n f1 f2 b₀ a₀ ops₀ i₀ rest₀ k₀ cs)) (a0 := ⟨#[(Value.pointer (some ⟨C, 0, none⟩)), undef, (Value.pointer (some ⟨N, 0, none⟩)), undef, undef, undef, undef, undef, undef, undef, undef, undef, undef, undef, undef, undef, undef, undef, undef, undef, undef, undef, undef, undef, undef, undef, undef, undef, undef, undef, undef, undef, undef, undef, undef, undef, undef, undef, undef, undef, undef, undef, undef, undef, undef, undef, undef, undef], []⟩) (k := [.code (cR (cR (bodyOf Tryd.f24)))]) (cs := (b₀.at a₀ (.inRegion ops₀ (i₀ :: rest₀) :: k₀) :: cs)) (m := 700 * n + 100) hn10 rfl rfl (fun a ha => hS a (by omega)) hSC (by omega) (by omega) hN1 ((cell_heap (a := ⟨C, 0, none⟩) (ho C hC)).trans hx) (fun s => by
    have ea : putsO ⟨#[(Value.pointer (some ⟨C, 0, none⟩)), undef, (Value.pointer (some ⟨N, 0, none⟩)), undef, undef, undef, undef, undef, undef, undef, undef, undef, undef, undef, undef, undef, undef, undef, undef, undef, undef, undef, undef, undef, undef, undef, undef, undef, undef, undef, undef, undef, undef, undef, undef, undef, undef, undef, undef, undef, undef, undef, undef, undef, undef, undef, undef, undef], []⟩ ((List.range 15).map fun j => (dlP1.getD j none, vlP1 C n j s)) = ⟨#[(Value.pointer (some ⟨C, 0, none⟩)), undef, (Value.pointer (some ⟨N, 0, none⟩)), (Value.pointer (some ⟨s.T, 0, none⟩)), undef, (Value.pointer (some ⟨C, 0, none⟩)), (Value.pointer (some ⟨C, 0, none⟩)), (Value.pointer (some ⟨C, 0, none⟩)), (Value.pointer (some ⟨C, 0, none⟩)), (Value.int .i64 (n : Int)), (slV s.g1 n), (Value.pointer (some ⟨C, 0, none⟩)), (Value.pointer (some ⟨C, 0, none⟩)), (Value.pointer (some ⟨C, 0, none⟩)), (Value.pointer (some ⟨C, 0, none⟩)), (Value.int .i64 (n : Int)), (slV s.g2 n), (Value.agg #[slV s.g1 n, slV s.g2 n]), undef, undef, undef, undef, undef, undef, undef, undef, undef, undef, undef, undef, undef, undef, undef, undef, undef, undef, undef, undef, undef, undef, undef, undef, undef, undef, undef, undef, undef, undef], []⟩ := by simp only [List.range, List.range.loop, List.map_cons, List.map_nil, dlR5, vlR5, dlR6, vlR6, dlP1, vlP1, List.getD_cons_zero, List.getD_cons_succ, putsO, Act.put, List.setIfInBounds_toArray, List.set_cons_zero, List.set_cons_succ, slV]
    rw [ea]
    clear ea
    simp only [cO, cL, cR, bodyOf, Tryd.f24, Option.getD_some]
    refine gp_seq (jp_at _ _ _ _ _) ?_
    refine gp_seq (jp_at _ _ _ _ _) ?_
    refine gp_region (jp_at _ _ _ _ _) ?_
    try simp only [List.size_toArray, List.length_cons, List.length_nil, Nat.reduceAdd, Nat.zero_add, List.range, List.range.loop]
    refine gp_opk (jp_at _ _ _ _ _) rfl rfl (by k_ne) (fun w hF K' hK => ?_)
    go_simp
    with_reducible refine hK _ (fun e' he => ?_) ?_
    · (clear hK; simp [go_sem, *] at he)
    clear hK K' hF
    clear w
    try walk_nrm
    refine gp_opk (jp_at _ _ _ _ _) rfl rfl (by k_ne) (fun w hF K' hK => ?_)
    go_simp
    with_reducible refine hK _ (fun e' he => ?_) ?_
    · (clear hK; simp [go_sem, *] at he)
    clear hK K' hF
    clear w
    try walk_nrm
    refine gp_opk (jp_at _ _ _ _ _) rfl rfl (by k_ne) (fun w hF K' hK => ?_)
    go_simp
    with_reducible refine hK _ (fun e' he => ?_) ?_
    · (clear hK; simp [go_sem, *] at he)
    clear hK K' hF
    clear w
    try walk_nrm
    refine gp_opk (jp_at _ _ _ _ _) rfl rfl (by k_ne) (fun w hF K' hK => ?_)
    go_simp
    with_reducible refine hK _ (fun e' he => ?_) ?_
    · (clear hK; simp [go_sem, *] at he)
    clear hK K' hF
    clear w
    try walk_nrm

    refine gp_opk (jp_at _ _ _ _ _) rfl rfl (by k_ne) (fun w hF K' hK => ?_)
    have k1 : w.cell? ⟨C, 0, none⟩ = some (.int .i64 (n : Int)) := (cell_heap (a := ⟨C, 0, none⟩) (hF.old C (by omega))).trans ((cell_heap (a := ⟨C, 0, none⟩) (ho C hC)).trans hx)
    go_simp
    with_reducible refine hK _ (fun e' he => ?_) ?_
    · clear hK
      simp [go_sem, *] at he
      subst he
      exact evL_cell _ _ hSC (by show C < N + 4; omega)
    clear hK K' k1 hF
    clear w
    try walk_nrm
    refine gp_opk (jp_at _ _ _ _ _) rfl rfl (by k_ne) (fun w hF K' hK => ?_)
    go_simp
    with_reducible refine hK _ (fun e' he => ?_) ?_
    · (clear hK; simp [go_sem, *] at he)
    clear hK K' hF
    clear w
    try walk_nrm
    refine gp_done (jp_at _ _ _ _ _) ?_
    refine gp_block (jp_at _ _ _ _ _) ?_
    refine gp_loop (jp_at _ _ _ _ _) ?_

    intro w hF
    have lp := piled_loop hC hn10 hS hx1 hx2 (b₀ := b₀) (a₀ := a₀) (ops₀ := ops₀) (i₀ := i₀) (rest₀ := rest₀) (k₀ := k₀) (cs := cs) s n 0 (by omega) undef undef (Value.pointer (some ⟨C, 0, none⟩)) (Value.pointer (some ⟨C, 0, none⟩)) (Value.pointer (some ⟨C, 0, none⟩)) (Value.pointer (some ⟨C, 0, none⟩)) (Value.int .i64 (n : Int)) (slV s.g1 n) (Value.pointer (some ⟨C, 0, none⟩)) (Value.pointer (some ⟨C, 0, none⟩)) (Value.pointer (some ⟨C, 0, none⟩)) (Value.pointer (some ⟨C, 0, none⟩)) (Value.int .i64 (n : Int)) (slV s.g2 n) (Value.agg #[slV s.g1 n, slV s.g2 n]) (Value.pointer (some ⟨C, 0, none⟩)) (Value.pointer (some ⟨C, 0, none⟩)) (Value.pointer (some ⟨C, 0, none⟩)) (Value.pointer (some ⟨C, 0, none⟩)) undef undef undef undef undef undef undef undef undef undef undef undef undef undef undef undef undef undef undef undef undef undef undef undef w
      ⟨by rw [hw1] at hF; exact hF.os, fun k hk => (hF.old k (by omega)).trans (ho k hk), by have := hF.sz; simp at this; omega, (hF.old N (by omega)).trans hTN, by have h := hF.r1 rfl; have hz := hF.sz; simp at hz; exact ⟨h.1, by omega, by simpa using h.2.2⟩, by have h := hF.r2 rfl; have hz := hF.sz; simp at hz; exact ⟨h.1, by omega, by simpa using h.2.2⟩, by have h := hF.rT rfl; have hz := hF.sz; simp at hz; exact ⟨h.1, by omega, by simpa using h.2.2⟩, hF.n1 rfl rfl, hF.n2 rfl rfl, hF.n3 rfl rfl⟩
    simp only [cO, cL, cR, bodyOf, Tryd.f24, Option.getD_some] at lp
    exact (Gp.mono lp (by omega)) w (atRel_refl w))
  simp only [cO, cL, cR, bodyOf, Tryd.f24, Option.getD_some] at q1 ⊢
  refine gp_seq (hc _) ?_
  refine gp_region (hc _) ?_
  try simp only [List.size_toArray, List.length_cons, List.length_nil, Nat.reduceAdd, Nat.zero_add, List.range, List.range.loop]

  refine gp_valw (F' := AtRel w1) (hc _) rfl rfl (by k_ne) (.pointer (some ⟨N, 0, none⟩)) (fun w hF => ?_) ?_
  · obtain ⟨d, rfl⟩ := hF
    refine ⟨w1.at d, Or.inl ?_, fun e he => ?_, ⟨d, rfl⟩⟩
    · rw [(al_run (w := w0.at d) rfl).1, hw1, ← hN]
      rfl
    · rw [(al_run (w := w0.at d) rfl).2] at he
      simp at he
  walk_nrm
  refine gp_done (hc _) ?_
  refine gp_seq (hc _) ?_

  exact Gp.mono q1 (by omega)
end Go.Proofs.YtpajdmhgonmgoaaDoor

