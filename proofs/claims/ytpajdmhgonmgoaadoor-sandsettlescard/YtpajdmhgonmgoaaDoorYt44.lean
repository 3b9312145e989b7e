/-
  What the last text of this claim leans on, part 44: Tb6.
-/
import Derived.Test.YtpajdmhgonmgoaaDoorYt43
import Derived.Test.YtpajdmhgonmgoaaDoorYt40
namespace Go.Proofs.YtpajdmhgonmgoaaDoor
open Go.RowKit
set_option linter.unusedVariables false
open Go.Conc Go.ConcN Go.RowKit Go.Conc.Lib Go.ConcR.Gen
open Go.ConcR (KK wgBlock WgAt stA smA rd wr Payload DC0)
set_option linter.unusedSimpArgs false
theorem ev_mkP (v : Value) (w : World) (es : Array Event) : (Instr.makeInterface 72 v).events Tryd.prog w es = es := by kernel_rfl
theorem st103R {a : Act} {o : Oper} {x y : Operand} {p q r : Value} {t c : Addr} {n : Int} {w : World} {g : Nat} (ho : o.op = .store 103 x y) (hx : a.eval x = .pointer (some ⟨g, 0, none⟩)) (hy : a.eval y = .agg #[.pointer (some t), .pointer (some c), .int .u64 n]) (h : V3 p q r w g) :
    (execOp a.eval o).run Tryd.prog w = .ok .skip (((w.setCell ⟨g, 0, none⟩ (.pointer (some t))).setCell ⟨g, 1, none⟩ (.pointer (some c))).setCell ⟨g, 2, none⟩ (.int .u64 n)) ∧ (execOp a.eval o).events Tryd.prog w #[] = #[⟨.cell ⟨g, 0, none⟩, true, false⟩, ⟨.cell ⟨g, 1, none⟩, true, false⟩, ⟨.cell ⟨g, 2, none⟩, true, false⟩] := by
  obtain ⟨w', h1, h2, rfl⟩ := st103 ho hx hy h
  exact ⟨h1, h2⟩
set_option maxRecDepth 100000 in
set_option maxHeartbeats 12800000 in
/-- edensame.Error of an Errno and its number, beside leavers. -/
theorem err_x {Shun : Loc → Prop} {B : Nat} {S : Goroutine → World → Prop} {fb : Frame} {a : Act} {k : List Item} {cs : List Frame} {ops : Array Oper} {i : Nat} {rest : List Nat} {o : Oper} {x y : Operand} {ats : Array TypeId} {w0 : World} {f : Int}
    (ho : ops[i]? = some o) (hw : Region.wanted o (yielded ops a.tmps) = true) (hk : fb.kind ≠ .early) (hop : o.op = .call { callee := .value (.func 7), args := #[x, y], argTypes := ats }) (hx : a.eval x = .iface 48 (.int .i64 f)) (hy : a.eval y = .int .i64 f)
    (hg : Handle w0) (hN : ∀ b : Addr, w0.heap.size ≤ b.block → ¬ Shun (.cell b)) (hH : ¬ Shun (.cell ⟨0, 0, none⟩)) (hB : w0.heap.size + 10 ≤ B) {M : Nat}
    (hn : ∀ w1, Below w0.heap.size w0 w1 → w1.heap.size = w0.heap.size + 5 → Gp Tryd.prog (EvL Shun B) S M (G (fb.at (a.put o.dst (.bool true)) (.inRegion ops rest :: k)) cs) (AtRel w1)) : Gp Tryd.prog (EvL Shun B) S (M + 200) (G (fb.at a (.inRegion ops (i :: rest) :: k)) cs) (AtRel w0) := by
  have hc := atRel_c
  have hdst : (ops[i]?).bind (·.dst) = o.dst := by rw [ho]; rfl
  obtain ⟨T, hT⟩ : ∃ T, w0.heap.size = T := ⟨_, rfl⟩
  have gl := hg.lt
  rw [hT] at hN hB hn gl
  obtain ⟨w1, hw1⟩ : ∃ w1, w1 = w0.alloc (.cells #[.int .i64 0] 48) := ⟨_, rfl⟩
  obtain ⟨w2, hw2⟩ : ∃ w2, w2 = w1.alloc (.cells #[.pointer (some ⟨T, 0, none⟩)] 72) := ⟨_, rfl⟩
  obtain ⟨w3, hw3⟩ : ∃ w3, w3 = w2.alloc (.cells #[.pointer none, .pointer none, .int .u64 0] 103) := ⟨_, rfl⟩
  obtain ⟨w4, hw4⟩ : ∃ w4, w4 = (((w3.setCell ⟨T + 2, 0, none⟩ (.pointer (some ⟨1, 72, none⟩))).setCell ⟨T + 2, 1, none⟩ (.pointer (some ⟨T + 1, 0, none⟩))).setCell ⟨T + 2, 2, none⟩ (.int .u64 150)) := ⟨_, rfl⟩
  obtain ⟨w5, hw5⟩ : ∃ w5, w5 = w4.alloc (.cells #[(.pointer (some ⟨1, 72, none⟩)), (.pointer (some ⟨T + 1, 0, none⟩)), (.int .u64 150)] 103) := ⟨_, rfl⟩
  obtain ⟨w6, hw6⟩ : ∃ w6, w6 = w5.alloc (.cells #[.int .i64 f] 48) := ⟨_, rfl⟩
  obtain ⟨w7, hw7⟩ : ∃ w7, w7 = w6.setCell ⟨T, 0, none⟩ (.int .i64 f) := ⟨_, rfl⟩
  have s1 : w1.heap.size = T + 1 := by rw [hw1, size_alloc', hT]
  have s2 : w2.heap.size = T + 2 := by rw [hw2, size_alloc', s1]
  have s3 : w3.heap.size = T + 3 := by rw [hw3, size_alloc', s2]
  have s4 : w4.heap.size = T + 3 := by rw [hw4]; simp [s3]
  have s5 : w5.heap.size = T + 4 := by rw [hw5, size_alloc', s4]
  have s6 : w6.heap.size = T + 5 := by rw [hw6, size_alloc', s5]
  have s7 : w7.heap.size = T + 5 := by rw [hw7]; simp [s6]
  have o1 : ∀ k, k < T → w1.heap[k]? = w0.heap[k]? := fun k hk => by rw [hw1, hOld _ _ _ (by omega)]
  have o2 : ∀ k, k < T + 1 → w2.heap[k]? = w1.heap[k]? := fun k hk => by rw [hw2, hOld _ _ _ (by omega)]
  have o3 : ∀ k, k < T + 2 → w3.heap[k]? = w2.heap[k]? := fun k hk => by rw [hw3, hOld _ _ _ (by omega)]
  have o4 : ∀ k, k ≠ T + 2 → w4.heap[k]? = w3.heap[k]? := fun k hk => by rw [hw4, hSet _ _ _ _ hk, hSet _ _ _ _ hk, hSet _ _ _ _ hk]
  have o5 : ∀ k, k < T + 3 → w5.heap[k]? = w4.heap[k]? := fun k hk => by rw [hw5, hOld _ _ _ (by omega)]
  have o6 : ∀ k, k < T + 4 → w6.heap[k]? = w5.heap[k]? := fun k hk => by rw [hw6, hOld _ _ _ (by omega)]
  have o7 : ∀ k, k ≠ T → w7.heap[k]? = w6.heap[k]? := fun k hk => by rw [hw7, hSet _ _ _ _ hk]
  have r1 : w1.heap[T]? = some (.cells #[.int .i64 0] 48 (0, 0)) := by rw [hw1, ← hT]; exact hNew _ _
  have r2 : w2.heap[T + 1]? = some (.cells #[.pointer (some ⟨T, 0, none⟩)] 72 (0, 0)) := by rw [hw2, ← s1]; exact hNew _ _
  have r3 : w3.heap[T + 2]? = some (.cells #[.pointer none, .pointer none, .int .u64 0] 103 (0, 0)) := by rw [hw3, ← s2]; exact hNew _ _
  have v3 : V3 (.pointer none) (.pointer none) (.int .u64 0) w3 (T + 2) := r3
  have v4 : V3 (.pointer (some ⟨1, 72, none⟩)) (.pointer (some ⟨T + 1, 0, none⟩)) (.int .u64 150) w4 (T + 2) := by
    have h1 := heap_setCell_same w3 (T + 2) 0 _ _ (.pointer (some ⟨1, 72, none⟩)) r3
    have h2 := heap_setCell_same _ (T + 2) 1 _ _ (.pointer (some ⟨T + 1, 0, none⟩)) h1
    have h3 := heap_setCell_same _ (T + 2) 2 _ _ (.int .u64 150) h2
    rw [hw4]; exact h3
  have v5 : V3 (.pointer (some ⟨1, 72, none⟩)) (.pointer (some ⟨T + 1, 0, none⟩)) (.int .u64 150) w5 (T + 3) := by show w5.heap[T + 3]? = _; rw [hw5, ← s4]; exact hNew _ _
  have a4 : w4.cell? ⟨T + 1, 0, none⟩ = some (.pointer (some ⟨T, 0, none⟩)) := cell_of_row w4 (T + 1) 0 _ _ _ ((o4 (T + 1) (by omega)).trans ((o3 (T + 1) (by omega)).trans r2))
  have a5 : w5.cell? ⟨T + 1, 0, none⟩ = some (.pointer (some ⟨T, 0, none⟩)) := (cell_heap (a := ⟨T + 1, 0, none⟩) (o5 (T + 1) (by omega))).trans a4
  have g4 : w4.cell? ⟨0, 0, none⟩ = some (rT 28) := (cell_heap (a := ⟨0, 0, none⟩) ((o4 _ (by show 0 ≠ T + 2; omega)).trans ((o3 _ (by show 0 < T + 2; omega)).trans ((o2 _ (by show 0 < T + 1; omega)).trans (o1 _ gl))))).trans hg
  have d6 : w6.cell? ⟨T + 4, 0, none⟩ = some (.int .i64 f) := cell_of_row w6 (T + 4) 0 _ _ _ (show w6.heap[T + 4]? = some (.cells #[.int .i64 f] 48 (0, 0)) by rw [hw6, ← s5]; exact hNew _ _)
  have r6 : w6.heap[T]? = some (.cells #[.int .i64 0] 48 (0, 0)) := (o6 T (by omega)).trans ((o5 T (by omega)).trans ((o4 T (by omega)).trans ((o3 T (by omega)).trans ((o2 T (by omega)).trans r1))))
  have t6 : w6.cell? ⟨T, 0, none⟩ = some (.int .i64 0) := cell_of_row w6 T 0 _ _ _ r6
  have z6 : w6.frozen? ⟨T, 0, none⟩ = false := frozen_of_row w6 T 0 _ _ r6
  have t7 : w7.cell? ⟨T, 0, none⟩ = some (.int .i64 f) := by
    have h := heap_setCell_same w6 T 0 _ _ (.int .i64 f) r6
    rw [hw7]; exact cell_of_row _ T 0 _ _ _ h
  have fin : Below T w0 w7 := ⟨by rw [hw7, hw6, hw5, hw4, hw3, hw2, hw1]; rfl, by rw [hw7, hw6, hw5, hw4, hw3, hw2, hw1]; rfl, by rw [hw7, hw6, hw5, hw4, hw3, hw2, hw1]; rfl, by omega, fun k hk => (o7 k (by omega)).trans ((o6 k (by omega)).trans ((o5 k (by omega)).trans ((o4 k (by omega)).trans ((o3 k (by omega)).trans ((o2 k (by omega)).trans (o1 k hk))))))⟩
  have evN : ∀ (g j : Nat) (wr : Bool), T ≤ g → g < T + 10 → EvL Shun B ⟨.cell ⟨g, j, none⟩, wr, false⟩ := fun g j wr h1 h2 => evL_cell _ _ (hN _ h1) (by show g < B; omega)
  have evH : EvL Shun B ⟨.cell ⟨0, 0, none⟩, false, false⟩ := evL_cell _ _ hH (by show 0 < B; omega)
  have N := hide' (hn w7 fin s7)
  clear hn fin hg hN hH o1 o2 o3 o4 o5 o6 o7 r1 r2 r3 r6 gl
  refine gp_call (hc _) ho hw hk hop Tryd.func7 rfl rfl ?_
  simp only [List.map_toArray, List.map_cons, List.map_nil, hx, hy, Tryd.f7]
  clear hx hy hop ho hw
  walk_nrm
  refine gp_seq (hc _) ?_
  refine gp_region (hc _) ?_
  try simp only [List.size_toArray, List.length_cons, List.length_nil, Nat.reduceAdd, Nat.zero_add, List.range, List.range.loop]
  refine gp_opk (hc _) rfl rfl (by k_ne) (fun w hF K' hK => ?_)
  go_simp
  with_reducible refine hK _ (fun e' he => ?_) ?_
  · (clear hK; simp [go_sem, ev_eqI, ev_eqA, ev_mkP] at he)
  clear hK K' hF
  clear w
  try walk_nrm
  refine gp_done (hc _) ?_
  refine gp_seq (hc _) ?_
  refine gp_region (hc _) ?_
  try simp only [List.size_toArray, List.length_cons, List.length_nil, Nat.reduceAdd, Nat.zero_add, List.range, List.range.loop]
  refine gp_opk (hc _) rfl rfl (by k_ne) (fun w hF K' hK => ?_)
  go_simp
  with_reducible refine hK _ (fun e' he => ?_) ?_
  · (clear hK; simp [go_sem, ev_eqI, ev_eqA, ev_mkP] at he)
  clear hK K' hF
  clear w
  try walk_nrm
  refine gp_call (hc _) rfl rfl (by k_ne) rfl Tryd.func18 rfl rfl ?_
  walk_nrmf Tryd.f18
  refine gp_seq (hc _) ?_
  refine gp_region (hc _) ?_
  try simp only [List.size_toArray, List.length_cons, List.length_nil, Nat.reduceAdd, Nat.zero_add, List.range, List.range.loop]
  refine gp_opk (hc _) rfl rfl (by k_ne) (fun w hF K' hK => ?_)
  go_simp
  with_reducible refine hK _ (fun e' he => ?_) ?_
  · (clear hK; simp [go_sem, ev_eqI, ev_eqA, ev_mkP] at he)
  clear hK K' hF
  clear w
  try walk_nrm
  refine gp_done (hc _) ?_
  refine gp_seq (hc _) ?_
  refine gp_seq (hc _) ?_
  refine gp_region (hc _) ?_
  try simp only [List.size_toArray, List.length_cons, List.length_nil, Nat.reduceAdd, Nat.zero_add, List.range, List.range.loop]
  refine gp_opk (hc _) rfl rfl (by k_ne) (fun w hF K' hK => ?_)
  go_simp
  with_reducible refine hK _ (fun e' he => ?_) ?_
  · (clear hK; simp [go_sem, ev_eqI, ev_eqA, ev_mkP] at he)
  clear hK K' hF
  clear w
  try walk_nrm
  refine gp_opk (hc _) rfl rfl (by k_ne) (fun w hF K' hK => ?_)
  go_simp
  with_reducible refine hK _ (fun e' he => ?_) ?_
  · (clear hK; simp [go_sem, ev_eqI, ev_eqA, ev_mkP] at he)
  clear hK K' hF
  clear w
  try walk_nrm
  refine gp_done (hc _) ?_
  refine gp_cond (hc _) false rfl ?_
  simp only [if_true, if_false, Bool.false_eq_true, ↓reduceIte]
  refine gp_skip (hc _) ?_
  refine gp_seq (hc _) ?_
  refine gp_region (hc _) ?_
  try simp only [List.size_toArray, List.length_cons, List.length_nil, Nat.reduceAdd, Nat.zero_add, List.range, List.range.loop]
  refine gp_extR rfl rfl (by k_ne) rfl (.pointer (some ⟨T, 0, none⟩)) w0 w1 #[] (fun d => Or.inl ((runT_two (alE rfl (w0.at d))).1.trans (by rw [hw1, ← hT]; rfl))) (fun d => (runT_two (alE rfl (w0.at d))).2) (fun e he => by simp at he) ?_
  walk_nrm
  refine gp_done (hc _) ?_
  refine gp_seq (hc _) ?_
  refine gp_seq (hc _) ?_
  refine gp_region (hc _) ?_
  try simp only [List.size_toArray, List.length_cons, List.length_nil, Nat.reduceAdd, Nat.zero_add, List.range, List.range.loop]
  refine gp_opk (hc _) rfl rfl (by k_ne) (fun w hF K' hK => ?_)
  go_simp
  with_reducible refine hK _ (fun e' he => ?_) ?_
  · (clear hK; simp [go_sem, ev_eqI, ev_eqA, ev_mkP] at he)
  clear hK K' hF
  clear w
  try walk_nrm
  refine gp_opk (hc _) rfl rfl (by k_ne) (fun w hF K' hK => ?_)
  go_simp
  with_reducible refine hK _ (fun e' he => ?_) ?_
  · (clear hK; simp [go_sem, ev_eqI, ev_eqA, ev_mkP] at he)
  clear hK K' hF
  clear w
  try walk_nrm
  refine gp_call (hc _) rfl rfl (by k_ne) rfl Tryd.func30 rfl rfl ?_
  walk_nrmf Tryd.f30
  refine gp_seq (hc _) ?_
  refine gp_region (hc _) ?_
  try simp only [List.size_toArray, List.length_cons, List.length_nil, Nat.reduceAdd, Nat.zero_add, List.range, List.range.loop]
  refine gp_opk (hc _) rfl rfl (by k_ne) (fun w hF K' hK => ?_)
  go_simp
  with_reducible refine hK _ (fun e' he => ?_) ?_
  · (clear hK; simp [go_sem, ev_eqI, ev_eqA, ev_mkP] at he)
  clear hK K' hF
  clear w
  try walk_nrm
  refine gp_done (hc _) ?_
  refine gp_seq (hc _) ?_
  refine gp_seq (hc _) ?_
  refine gp_region (hc _) ?_
  try simp only [List.size_toArray, List.length_cons, List.length_nil, Nat.reduceAdd, Nat.zero_add, List.range, List.range.loop]
  refine gp_opk (hc _) rfl rfl (by k_ne) (fun w hF K' hK => ?_)
  go_simp
  with_reducible refine hK _ (fun e' he => ?_) ?_
  · (clear hK; simp [go_sem, ev_eqI, ev_eqA, ev_mkP] at he)
  clear hK K' hF
  clear w
  try walk_nrm
  refine gp_opk (hc _) rfl rfl (by k_ne) (fun w hF K' hK => ?_)
  go_simp
  with_reducible refine hK _ (fun e' he => ?_) ?_
  · (clear hK; simp [go_sem, ev_eqI, ev_eqA, ev_mkP] at he)
  clear hK K' hF
  clear w
  try walk_nrm
  refine gp_done (hc _) ?_
  refine gp_cond (hc _) false rfl ?_
  simp only [if_true, if_false, Bool.false_eq_true, ↓reduceIte]
  refine gp_skip (hc _) ?_
  refine gp_seq (hc _) ?_
  refine gp_seq (hc _) ?_
  refine gp_region (hc _) ?_
  try simp only [List.size_toArray, List.length_cons, List.length_nil, Nat.reduceAdd, Nat.zero_add, List.range, List.range.loop]
  refine gp_opk (hc _) rfl rfl (by k_ne) (fun w hF K' hK => ?_)
  go_simp
  with_reducible refine hK _ (fun e' he => ?_) ?_
  · (clear hK; simp [go_sem, ev_eqI, ev_eqA, ev_mkP] at he)
  clear hK K' hF
  clear w
  try walk_nrm
  refine gp_opk (hc _) rfl rfl (by k_ne) (fun w hF K' hK => ?_)
  go_simp
  with_reducible refine hK _ (fun e' he => ?_) ?_
  · (clear hK; simp [go_sem, ev_eqI, ev_eqA, ev_mkP] at he)
  clear hK K' hF
  clear w
  try walk_nrm
  refine gp_done (hc _) ?_
  refine gp_cond (hc _) false rfl ?_
  simp only [if_true, if_false, Bool.false_eq_true, ↓reduceIte]
  refine gp_skip (hc _) ?_
  refine gp_seq (hc _) ?_
  refine gp_region (hc _) ?_
  try simp only [List.size_toArray, List.length_cons, List.length_nil, Nat.reduceAdd, Nat.zero_add, List.range, List.range.loop]
  refine gp_opk (hc _) rfl rfl (by k_ne) (fun w hF K' hK => ?_)
  go_simp
  with_reducible refine hK _ (fun e' he => ?_) ?_
  · (clear hK; simp [go_sem, ev_eqI, ev_eqA, ev_mkP] at he)
  clear hK K' hF
  clear w
  try walk_nrm
  refine gp_extR rfl rfl (by k_ne) (s := callFunc 44 #[.iface 72 (.pointer (some ⟨T, 0, none⟩))]) (cf1 (x := .tmp 13) rfl) (vP ⟨T, 0, none⟩ ⟨T + 1, 0, none⟩) w1 w2 #[(mx 44)] (fun d => Or.inl (runT_two (show (callFunc 44 #[.iface 72 (.pointer (some ⟨T, 0, none⟩))]).runT Tryd.prog (w1.at d) #[] = (.ok (.value (vP ⟨T, 0, none⟩ ⟨T + 1, 0, none⟩)) (w2.at d), #[(mx 44)]) from (x_valueOfP ⟨T, 0, none⟩ (w1.at d) #[]).trans (by rw [hw2, ← s1]; rfl))).1) (fun d => (runT_two (show (callFunc 44 #[.iface 72 (.pointer (some ⟨T, 0, none⟩))]).runT Tryd.prog (w1.at d) #[] = (.ok (.value (vP ⟨T, 0, none⟩ ⟨T + 1, 0, none⟩)) (w2.at d), #[(mx 44)]) from (x_valueOfP ⟨T, 0, none⟩ (w1.at d) #[]).trans (by rw [hw2, ← s1]; rfl))).2) (fun e he => mem_oneE he (evL_mx _)) ?_
  walk_nrm
  refine gp_extR rfl rfl (by k_ne) rfl (.pointer (some ⟨T + 2, 0, none⟩)) w2 w3 #[] (fun d => Or.inl ((runT_two (alV rfl (w2.at d))).1.trans (by rw [hw3, ← s2]; rfl))) (fun d => (runT_two (alV rfl (w2.at d))).2) (fun e he => by simp at he) ?_
  walk_nrm
  refine gp_extR rfl rfl (by k_ne) rfl undef w3 w4 #[⟨.cell ⟨T + 2, 0, none⟩, true, false⟩, ⟨.cell ⟨T + 2, 1, none⟩, true, false⟩, ⟨.cell ⟨T + 2, 2, none⟩, true, false⟩] (fun d => Or.inr ⟨(st103R (w := w3.at d) rfl rfl rfl v3).1.trans (by rw [hw4]; rfl), rfl⟩) (fun d => (st103R (w := w3.at d) rfl rfl rfl v3).2) (fun e he => mem_threeE he (evN _ _ _ (by omega) (by omega)) (evN _ _ _ (by omega) (by omega)) (evN _ _ _ (by omega) (by omega))) ?_
  walk_nrm
  refine gp_done (hc _) ?_
  refine gp_seq (hc _) ?_
  refine gp_region (hc _) ?_
  try simp only [List.size_toArray, List.length_cons, List.length_nil, Nat.reduceAdd, Nat.zero_add, List.range, List.range.loop]
  refine gp_extR rfl rfl (by k_ne) rfl (vP ⟨T, 0, none⟩ ⟨T + 1, 0, none⟩) w4 w4 #[⟨.cell ⟨T + 2, 0, none⟩, false, false⟩, ⟨.cell ⟨T + 2, 1, none⟩, false, false⟩, ⟨.cell ⟨T + 2, 2, none⟩, false, false⟩] (fun d => Or.inl (ld103 (w := w4.at d) rfl rfl v4).1) (fun d => (ld103 (w := w4.at d) rfl rfl v4).2) (fun e he => mem_threeE he (evN _ _ _ (by omega) (by omega)) (evN _ _ _ (by omega) (by omega)) (evN _ _ _ (by omega) (by omega))) ?_
  walk_nrm
  refine gp_extR rfl rfl (by k_ne) (s := callFunc 45 #[(vP ⟨T, 0, none⟩ ⟨T + 1, 0, none⟩)]) (cf1 (x := .tmp 15) rfl) (rT 72) w4 w4 #[(mx 45)] (fun d => Or.inl (runT_two (show (callFunc 45 #[(vP ⟨T, 0, none⟩ ⟨T + 1, 0, none⟩)]).runT Tryd.prog (w4.at d) #[] = (.ok (.value (rT 72)) (w4.at d), #[(mx 45)]) from x_type _ _ (w4.at d) #[])).1) (fun d => (runT_two (show (callFunc 45 #[(vP ⟨T, 0, none⟩ ⟨T + 1, 0, none⟩)]).runT Tryd.prog (w4.at d) #[] = (.ok (.value (rT 72)) (w4.at d), #[(mx 45)]) from x_type _ _ (w4.at d) #[])).2) (fun e he => mem_oneE he (evL_mx _)) ?_
  walk_nrm
  refine gp_opk (hc _) rfl rfl (by k_ne) (fun w hF K' hK => ?_)
  go_simp
  with_reducible refine hK _ (fun e' he => ?_) ?_
  · (clear hK; simp [go_sem, ev_eqI, ev_eqA, ev_mkP] at he)
  clear hK K' hF
  clear w
  try walk_nrm
  refine gp_done (hc _) ?_
  refine gp_seq (hc _) ?_
  refine gp_seq (hc _) ?_
  refine gp_region (hc _) ?_
  try simp only [List.size_toArray, List.length_cons, List.length_nil, Nat.reduceAdd, Nat.zero_add, List.range, List.range.loop]
  refine gp_opk (hc _) rfl rfl (by k_ne) (fun w hF K' hK => ?_)
  go_simp
  with_reducible refine hK _ (fun e' he => ?_) ?_
  · (clear hK; simp [go_sem, ev_eqI, ev_eqA, ev_mkP] at he)
  clear hK K' hF
  clear w
  try walk_nrm
  refine gp_extR rfl rfl (by k_ne) (s := callMethod (rT 72) "Kind" #[]) (cm0 (r := .tmp 17) rfl) (.int .u8 22) w4 w4 #[(mx 92)] (fun d => Or.inl (runT_two (x_kindP (w4.at d) #[])).1) (fun d => (runT_two (x_kindP (w4.at d) #[])).2) (fun e he => mem_oneE he (evL_mx _)) ?_
  walk_nrm
  refine gp_opk (hc _) rfl rfl (by k_ne) (fun w hF K' hK => ?_)
  go_simp
  with_reducible refine hK _ (fun e' he => ?_) ?_
  · (clear hK; simp [go_sem, ev_eqI, ev_eqA, ev_mkP] at he)
  clear hK K' hF
  clear w
  try walk_nrm
  refine gp_opk (hc _) rfl rfl (by k_ne) (fun w hF K' hK => ?_)
  go_simp
  with_reducible refine hK _ (fun e' he => ?_) ?_
  · (clear hK; simp [go_sem, ev_eqI, ev_eqA, ev_mkP] at he)
  clear hK K' hF
  clear w
  try walk_nrm
  refine gp_extR rfl rfl (by k_ne) rfl (vP ⟨T, 0, none⟩ ⟨T + 1, 0, none⟩) w4 w4 #[⟨.cell ⟨T + 2, 0, none⟩, false, false⟩, ⟨.cell ⟨T + 2, 1, none⟩, false, false⟩, ⟨.cell ⟨T + 2, 2, none⟩, false, false⟩] (fun d => Or.inl (ld103 (w := w4.at d) rfl rfl v4).1) (fun d => (ld103 (w := w4.at d) rfl rfl v4).2) (fun e he => mem_threeE he (evN _ _ _ (by omega) (by omega)) (evN _ _ _ (by omega) (by omega)) (evN _ _ _ (by omega) (by omega))) ?_
  walk_nrm
  refine gp_extR rfl rfl (by k_ne) (s := callFunc 46 #[(vP ⟨T, 0, none⟩ ⟨T + 1, 0, none⟩)]) (cf1 (x := .tmp 21) rfl) (.bool false) w4 w4 #[mx 46, ⟨.cell ⟨T + 1, 0, none⟩, false, false⟩] (fun d => Or.inl (x_isNil _ ⟨T + 1, 0, none⟩ ⟨T, 0, none⟩ (w4.at d) a4).1) (fun d => (x_isNil _ ⟨T + 1, 0, none⟩ ⟨T, 0, none⟩ (w4.at d) a4).2) (fun e he => mem_two he (evL_mx _) (evN _ _ _ (by omega) (by omega))) ?_
  walk_nrm
  refine gp_opk (hc _) rfl rfl (by k_ne) (fun w hF K' hK => ?_)
  go_simp
  with_reducible refine hK _ (fun e' he => ?_) ?_
  · (clear hK; simp [go_sem, ev_eqI, ev_eqA, ev_mkP] at he)
  clear hK K' hF
  clear w
  try walk_nrm
  refine gp_done (hc _) ?_
  refine gp_cond (hc _) false rfl ?_
  simp only [if_true, if_false, Bool.false_eq_true, ↓reduceIte]
  refine gp_skip (hc _) ?_
  refine gp_seq (hc _) ?_
  refine gp_region (hc _) ?_
  try simp only [List.size_toArray, List.length_cons, List.length_nil, Nat.reduceAdd, Nat.zero_add, List.range, List.range.loop]
  refine gp_opk (hc _) rfl rfl (by k_ne) (fun w hF K' hK => ?_)
  go_simp
  with_reducible refine hK _ (fun e' he => ?_) ?_
  · (clear hK; simp [go_sem, ev_eqI, ev_eqA, ev_mkP] at he)
  clear hK K' hF
  clear w
  try walk_nrm
  refine gp_extR rfl rfl (by k_ne) (s := callMethod (rT 72) "Elem" #[]) (cm0 (r := .tmp 25) rfl) (rT 48) w4 w4 #[(mx 102)] (fun d => Or.inl (runT_two (x_elem (w4.at d) #[])).1) (fun d => (runT_two (x_elem (w4.at d) #[])).2) (fun e he => mem_oneE he (evL_mx _)) ?_
  walk_nrm
  refine gp_opk (hc _) rfl rfl (by k_ne) (fun w hF K' hK => ?_)
  go_simp
  with_reducible refine hK _ (fun e' he => ?_) ?_
  · (clear hK; simp [go_sem, ev_eqI, ev_eqA, ev_mkP] at he)
  clear hK K' hF
  clear w
  try walk_nrm
  refine gp_done (hc _) ?_
  refine gp_seq (hc _) ?_
  refine gp_seq (hc _) ?_
  refine gp_region (hc _) ?_
  try simp only [List.size_toArray, List.length_cons, List.length_nil, Nat.reduceAdd, Nat.zero_add, List.range, List.range.loop]
  refine gp_opk (hc _) rfl rfl (by k_ne) (fun w hF K' hK => ?_)
  go_simp
  with_reducible refine hK _ (fun e' he => ?_) ?_
  · (clear hK; simp [go_sem, ev_eqI, ev_eqA, ev_mkP] at he)
  clear hK K' hF
  clear w
  try walk_nrm
  refine gp_extR rfl rfl (by k_ne) (s := callMethod (rT 48) "Kind" #[]) (cm0 (r := .tmp 27) rfl) (.int .u8 2) w4 w4 #[(mx 92)] (fun d => Or.inl (runT_two (x_kindE (w4.at d) #[])).1) (fun d => (runT_two (x_kindE (w4.at d) #[])).2) (fun e he => mem_oneE he (evL_mx _)) ?_
  walk_nrm
  refine gp_opk (hc _) rfl rfl (by k_ne) (fun w hF K' hK => ?_)
  go_simp
  with_reducible refine hK _ (fun e' he => ?_) ?_
  · (clear hK; simp [go_sem, ev_eqI, ev_eqA, ev_mkP] at he)
  clear hK K' hF
  clear w
  try walk_nrm
  refine gp_opk (hc _) rfl rfl (by k_ne) (fun w hF K' hK => ?_)
  go_simp
  with_reducible refine hK _ (fun e' he => ?_) ?_
  · (clear hK; simp [go_sem, ev_eqI, ev_eqA, ev_mkP] at he)
  clear hK K' hF
  clear w
  try walk_nrm
  refine gp_opk (hc _) rfl rfl (by k_ne) (fun w hF K' hK => ?_)
  go_simp
  with_reducible refine hK _ (fun e' he => ?_) ?_
  · (clear hK; simp [go_sem, ev_eqI, ev_eqA, ev_mkP] at he)
  clear hK K' hF
  clear w
  try walk_nrm
  refine gp_extR rfl rfl (by k_ne) rfl (rT 28) w4 w4 #[⟨.cell ⟨0, 0, none⟩, false, false⟩] (fun d => Or.inl (by have h : (w4.at d).cell? ⟨0, 0, none⟩ = _ := g4; simp [execOp, Act.eval, go_sem, h])) (fun d => by have h : (w4.at d).cell? ⟨0, 0, none⟩ = _ := g4; simp [execOp, Act.eval, go_sem, h]) (fun e he => mem_oneE he evH) ?_
  walk_nrm
  refine gp_extR rfl rfl (by k_ne) (s := callMethod (rT 48) "Implements" #[rT 28]) (cm1 (r := .tmp 31) (x := .tmp 32) rfl) (.bool true) w4 w4 #[(mx 103)] (fun d => Or.inl (runT_two (x_impl (w4.at d) #[])).1) (fun d => (runT_two (x_impl (w4.at d) #[])).2) (fun e he => mem_oneE he (evL_mx _)) ?_
  walk_nrm
  refine gp_opk (hc _) rfl rfl (by k_ne) (fun w hF K' hK => ?_)
  go_simp
  with_reducible refine hK _ (fun e' he => ?_) ?_
  · (clear hK; simp [go_sem, ev_eqI, ev_eqA, ev_mkP] at he)
  clear hK K' hF
  clear w
  try walk_nrm
  refine gp_opk (hc _) rfl rfl (by k_ne) (fun w hF K' hK => ?_)
  go_simp
  with_reducible refine hK _ (fun e' he => ?_) ?_
  · (clear hK; simp [go_sem, ev_eqI, ev_eqA, ev_mkP] at he)
  clear hK K' hF
  clear w
  try walk_nrm
  refine gp_done (hc _) ?_
  refine gp_cond (hc _) false rfl ?_
  simp only [if_true, if_false, Bool.false_eq_true, ↓reduceIte]
  refine gp_skip (hc _) ?_
  refine gp_seq (hc _) ?_
  refine gp_region (hc _) ?_
  try simp only [List.size_toArray, List.length_cons, List.length_nil, Nat.reduceAdd, Nat.zero_add, List.range, List.range.loop]
  refine gp_opk (hc _) rfl rfl (by k_ne) (fun w hF K' hK => ?_)
  go_simp
  with_reducible refine hK _ (fun e' he => ?_) ?_
  · (clear hK; simp [go_sem, ev_eqI, ev_eqA, ev_mkP] at he)
  clear hK K' hF
  clear w
  try walk_nrm
  refine gp_opk (hc _) rfl rfl (by k_ne) (fun w hF K' hK => ?_)
  go_simp
  with_reducible refine hK _ (fun e' he => ?_) ?_
  · (clear hK; simp [go_sem, ev_eqI, ev_eqA, ev_mkP] at he)
  clear hK K' hF
  clear w
  try walk_nrm
  refine gp_extR rfl rfl (by k_ne) rfl (vP ⟨T, 0, none⟩ ⟨T + 1, 0, none⟩) w4 w4 #[⟨.cell ⟨T + 2, 0, none⟩, false, false⟩, ⟨.cell ⟨T + 2, 1, none⟩, false, false⟩, ⟨.cell ⟨T + 2, 2, none⟩, false, false⟩] (fun d => Or.inl (ld103 (w := w4.at d) rfl rfl v4).1) (fun d => (ld103 (w := w4.at d) rfl rfl v4).2) (fun e he => mem_threeE he (evN _ _ _ (by omega) (by omega)) (evN _ _ _ (by omega) (by omega)) (evN _ _ _ (by omega) (by omega))) ?_
  walk_nrm
  refine gp_opk (hc _) rfl rfl (by k_ne) (fun w hF K' hK => ?_)
  go_simp
  with_reducible refine hK _ (fun e' he => ?_) ?_
  · (clear hK; simp [go_sem, ev_eqI, ev_eqA, ev_mkP] at he)
  clear hK K' hF
  clear w
  try walk_nrm
  refine gp_call (hc _) rfl rfl (by k_ne) rfl Tryd.func47 rfl rfl ?_
  walk_nrmf Tryd.f47
  refine gp_seq (hc _) ?_
  refine gp_region (hc _) ?_
  try simp only [List.size_toArray, List.length_cons, List.length_nil, Nat.reduceAdd, Nat.zero_add, List.range, List.range.loop]
  refine gp_extR rfl rfl (by k_ne) rfl (.pointer (some ⟨T + 3, 0, none⟩)) w4 w5 #[] (fun d => Or.inl ((runT_two (bx103 (w := w4.at d) rfl rfl)).1.trans (by rw [hw5, ← s4]; rfl))) (fun d => (runT_two (bx103 (w := w4.at d) rfl rfl)).2) (fun e he => by simp at he) ?_
  walk_nrm
  refine gp_opk (hc _) rfl rfl (by k_ne) (fun w hF K' hK => ?_)
  go_simp
  with_reducible refine hK _ (fun e' he => ?_) ?_
  · (clear hK; simp [go_sem, ev_eqI, ev_eqA, ev_mkP] at he)
  clear hK K' hF
  clear w
  try walk_nrm
  refine gp_done (hc _) ?_
  refine gp_block (hc _) ?_
  refine gp_loop (hc _) ?_
  refine gp_block (hc _) ?_
  refine gp_seq (hc _) ?_
  refine gp_seq (hc _) ?_
  refine gp_region (hc _) ?_
  try simp only [List.size_toArray, List.length_cons, List.length_nil, Nat.reduceAdd, Nat.zero_add, List.range, List.range.loop]
  refine gp_opk (hc _) rfl rfl (by k_ne) (fun w hF K' hK => ?_)
  go_simp
  with_reducible refine hK _ (fun e' he => ?_) ?_
  · (clear hK; simp [go_sem, ev_eqI, ev_eqA, ev_mkP] at he)
  clear hK K' hF
  clear w
  try walk_nrm
  refine gp_extR rfl rfl (by k_ne) (s := callFunc 70 #[.iface 48 (.int .i64 f)]) (cf1 (x := .tmp 16) rfl) (rT 48) w5 w5 #[(mx 70)] (fun d => Or.inl (runT_two (show (callFunc 70 #[.iface 48 (.int .i64 f)]).runT Tryd.prog (w5.at d) #[] = (.ok (.value (rT 48)) (w5.at d), #[(mx 70)]) from x_typeOf _ (w5.at d) #[])).1) (fun d => (runT_two (show (callFunc 70 #[.iface 48 (.int .i64 f)]).runT Tryd.prog (w5.at d) #[] = (.ok (.value (rT 48)) (w5.at d), #[(mx 70)]) from x_typeOf _ (w5.at d) #[])).2) (fun e he => mem_oneE he (evL_mx _)) ?_
  walk_nrm
  refine gp_opk (hc _) rfl rfl (by k_ne) (fun w hF K' hK => ?_)
  go_simp
  with_reducible refine hK _ (fun e' he => ?_) ?_
  · (clear hK; simp [go_sem, ev_eqI, ev_eqA, ev_mkP] at he)
  clear hK K' hF
  clear w
  try walk_nrm
  refine gp_extR rfl rfl (by k_ne) (s := callMethod (rT 48) "AssignableTo" #[rT 48]) (cm1 (r := .tmp 17) (x := .tmp 18) rfl) (.bool true) w5 w5 #[(mx 100)] (fun d => Or.inl (runT_two (x_assign (w5.at d) #[])).1) (fun d => (runT_two (x_assign (w5.at d) #[])).2) (fun e he => mem_oneE he (evL_mx _)) ?_
  walk_nrm
  refine gp_done (hc _) ?_
  refine gp_cond (hc _) true rfl ?_
  simp only [if_true, if_false, Bool.false_eq_true, ↓reduceIte]
  refine gp_seq (hc _) ?_
  refine gp_region (hc _) ?_
  try simp only [List.size_toArray, List.length_cons, List.length_nil, Nat.reduceAdd, Nat.zero_add, List.range, List.range.loop]
  refine gp_extR rfl rfl (by k_ne) rfl (vP ⟨T, 0, none⟩ ⟨T + 1, 0, none⟩) w5 w5 #[⟨.cell ⟨T + 3, 0, none⟩, false, false⟩, ⟨.cell ⟨T + 3, 1, none⟩, false, false⟩, ⟨.cell ⟨T + 3, 2, none⟩, false, false⟩] (fun d => Or.inl (ld103 (w := w5.at d) rfl rfl v5).1) (fun d => (ld103 (w := w5.at d) rfl rfl v5).2) (fun e he => mem_threeE he (evN _ _ _ (by omega) (by omega)) (evN _ _ _ (by omega) (by omega)) (evN _ _ _ (by omega) (by omega))) ?_
  walk_nrm
  refine gp_extR rfl rfl (by k_ne) (s := callFunc 71 #[(vP ⟨T, 0, none⟩ ⟨T + 1, 0, none⟩)]) (cf1 (x := .tmp 20) rfl) (vE ⟨T, 0, none⟩ 386) w5 w5 #[mx 71, ⟨.cell ⟨T + 1, 0, none⟩, false, false⟩] (fun d => Or.inl (x_elemV _ ⟨T + 1, 0, none⟩ ⟨T, 0, none⟩ (w5.at d) a5).1) (fun d => (x_elemV _ ⟨T + 1, 0, none⟩ ⟨T, 0, none⟩ (w5.at d) a5).2) (fun e he => mem_two he (evL_mx _) (evN _ _ _ (by omega) (by omega))) ?_
  walk_nrm
  refine gp_opk (hc _) rfl rfl (by k_ne) (fun w hF K' hK => ?_)
  go_simp
  with_reducible refine hK _ (fun e' he => ?_) ?_
  · (clear hK; simp [go_sem, ev_eqI, ev_eqA, ev_mkP] at he)
  clear hK K' hF
  clear w
  try walk_nrm
  refine gp_extR rfl rfl (by k_ne) (s := callFunc 44 #[.iface 48 (.int .i64 f)]) (cf1 (x := .tmp 22) rfl) (vE ⟨T + 4, 0, none⟩ 130) w5 w6 #[(mx 44)] (fun d => Or.inl (runT_two (show (callFunc 44 #[.iface 48 (.int .i64 f)]).runT Tryd.prog (w5.at d) #[] = (.ok (.value (vE ⟨T + 4, 0, none⟩ 130)) (w6.at d), #[(mx 44)]) from (x_valueOfE f (w5.at d) #[]).trans (by rw [hw6, ← s5]; rfl))).1) (fun d => (runT_two (show (callFunc 44 #[.iface 48 (.int .i64 f)]).runT Tryd.prog (w5.at d) #[] = (.ok (.value (vE ⟨T + 4, 0, none⟩ 130)) (w6.at d), #[(mx 44)]) from (x_valueOfE f (w5.at d) #[]).trans (by rw [hw6, ← s5]; rfl))).2) (fun e he => mem_oneE he (evL_mx _)) ?_
  walk_nrm
  refine gp_extR rfl rfl (by k_ne) (s := callFunc 72 #[vE ⟨T, 0, none⟩ 386, vE ⟨T + 4, 0, none⟩ 130]) (cf2 (x := .tmp 21) (y := .tmp 23) rfl) (.tuple #[]) w6 w7 #[mx 72, ⟨.cell ⟨T + 4, 0, none⟩, false, false⟩, ⟨.cell ⟨T, 0, none⟩, true, false⟩] (fun d => Or.inl ((x_set ⟨T, 0, none⟩ ⟨T + 4, 0, none⟩ f _ (w6.at d) d6 t6 z6).1.trans (by rw [hw7]; rfl))) (fun d => (x_set ⟨T, 0, none⟩ ⟨T + 4, 0, none⟩ f _ (w6.at d) d6 t6 z6).2) (fun e he => mem_threeE he (evL_mx _) (evN _ _ _ (by omega) (by omega)) (evN _ _ _ (by omega) (by omega))) ?_
  walk_nrm
  refine gp_done (hc _) ?_
  refine gp_seq (hc _) ?_
  refine gp_region (hc _) ?_
  try simp only [List.size_toArray, List.length_cons, List.length_nil, Nat.reduceAdd, Nat.zero_add, List.range, List.range.loop]
  refine gp_opk (hc _) rfl rfl (by k_ne) (fun w hF K' hK => ?_)
  go_simp
  with_reducible refine hK _ (fun e' he => ?_) ?_
  · (clear hK; simp [go_sem, ev_eqI, ev_eqA, ev_mkP] at he)
  clear hK K' hF
  clear w
  try walk_nrm
  refine gp_done (hc _) ?_
  refine gp_ret (hc _) ?_
  refine gp_leave1 (hc _) rfl rfl Tryd.func47 rfl ?_
  walk_nrm
  refine gp_opk (hc _) rfl rfl (by k_ne) (fun w hF K' hK => ?_)
  go_simp
  with_reducible refine hK _ (fun e' he => ?_) ?_
  · (clear hK; simp [go_sem, ev_eqI, ev_eqA, ev_mkP] at he)
  clear hK K' hF
  clear w
  try walk_nrm
  refine gp_done (hc _) ?_
  refine gp_ret (hc _) ?_
  refine gp_leave1 (hc _) rfl rfl Tryd.func30 rfl ?_
  walk_nrm
  refine gp_done (hc _) ?_
  refine gp_cond (hc _) true rfl ?_
  simp only [if_true, if_false, Bool.false_eq_true, ↓reduceIte]
  refine gp_seq (hc _) ?_
  refine gp_region (hc _) ?_
  try simp only [List.size_toArray, List.length_cons, List.length_nil, Nat.reduceAdd, Nat.zero_add, List.range, List.range.loop]
  refine gp_extR rfl rfl (by k_ne) rfl (.int .i64 f) w7 w7 #[⟨.cell ⟨T, 0, none⟩, false, false⟩] (fun d => Or.inl (by have h : (w7.at d).cell? ⟨T, 0, none⟩ = _ := t7; simp [execOp, Act.eval, go_sem, h])) (fun d => by have h : (w7.at d).cell? ⟨T, 0, none⟩ = _ := t7; simp [execOp, Act.eval, go_sem, h]) (fun e he => mem_oneE he (evN _ _ _ (by omega) (by omega))) ?_
  walk_nrm
  refine gp_opk (hc _) rfl rfl (by k_ne) (fun w hF K' hK => ?_)
  go_simp
  with_reducible refine hK _ (fun e' he => ?_) ?_
  · (clear hK; simp [go_sem, ev_eqI, ev_eqA, ev_mkP] at he)
  clear hK K' hF
  clear w
  try walk_nrm
  refine gp_done (hc _) ?_
  refine gp_ret (hc _) ?_
  refine gp_leave1 (hc _) rfl rfl Tryd.func18 rfl ?_
  walk_nrm
  refine gp_opk (hc _) rfl rfl (by k_ne) (fun w hF K' hK => ?_)
  go_simp
  with_reducible refine hK _ (fun e' he => ?_) ?_
  · (clear hK; simp [go_sem, ev_eqI, ev_eqA, ev_mkP] at he)
  clear hK K' hF
  clear w
  try walk_nrm
  refine gp_done (hc _) ?_
  refine gp_seq (hc _) ?_
  refine gp_region (hc _) ?_
  try simp only [List.size_toArray, List.length_cons, List.length_nil, Nat.reduceAdd, Nat.zero_add, List.range, List.range.loop]
  refine gp_opk (hc _) rfl rfl (by k_ne) (fun w hF K' hK => ?_)
  go_simp
  with_reducible refine hK _ (fun e' he => ?_) ?_
  · (clear hK; simp [go_sem, ev_eqI, ev_eqA, ev_mkP] at he)
  clear hK K' hF
  clear w
  try walk_nrm
  refine gp_opk (hc _) rfl rfl (by k_ne) (fun w hF K' hK => ?_)
  go_simp
  with_reducible refine hK _ (fun e' he => ?_) ?_
  · (clear hK; simp [go_sem, ev_eqI, ev_eqA, ev_mkP] at he)
  clear hK K' hF
  clear w
  try walk_nrm
  refine gp_opk (hc _) rfl rfl (by k_ne) (fun w hF K' hK => ?_)
  go_simp
  with_reducible refine hK _ (fun e' he => ?_) ?_
  · (clear hK; simp [go_sem, ev_eqI, ev_eqA, ev_mkP, *] at he)
  clear hK K' hF
  clear w
  try walk_nrm
  refine gp_opk (hc _) rfl rfl (by k_ne) (fun w hF K' hK => ?_)
  go_simp
  with_reducible refine hK _ (fun e' he => ?_) ?_
  · (clear hK; simp [go_sem, ev_eqI, ev_eqA, ev_mkP] at he)
  clear hK K' hF
  clear w
  try walk_nrm
  refine gp_done (hc _) ?_
  refine gp_ret (hc _) ?_
  refine gp_leave1 (hc _) rfl rfl Tryd.func7 rfl ?_
  rw [hdst]
  exact Gp.mono N.out (by omega)

end Go.Proofs.YtpajdmhgonmgoaaDoor

