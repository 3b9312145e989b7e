/-
  What the last text of this claim leans on, part 8: OpenF.
-/
import Derived.Test.YtdkomlgkkepioaaDoorJp7
import Derived.Test.YtdkomlgkkepioaaDoorJp4
import Derived.Stop.LaidErr
import Derived.Lib.LaidTab
namespace Go.Proofs.YtdkomlgkkepioaaDoor
open Go.ChangeShapes Go.WideShapes Go.ChangeAt Go.RowKit
open Go.ChangeMaps (setBlock shut_map_nil open_string shut_string keptBut_setBlock frozen?_setBlock heap_setBlock_same)
set_option linter.unusedVariables false
theorem endAt : Tryd.prog.globalNamed "eden/counter.errEnded" = some 3 := by kernel_rfl
theorem endStar : "*" ++ "errors.errorString" = "*errors.errorString" := by decide
theorem endRow (u : TypeId) (h : Tryd.prog.typeName? 3 u = some "*errors.errorString") : u = 344 :=
  typeName_ptr_named (nm := "errors.errorString") (by rw [endStar]; kernel_rfl) (by kernel_rfl) (by decide) u (by rw [endStar]; exact h)
theorem end_of_laid {W : World} {l : List (String × DataW Unit)} (he : (l.filter fun x => x.1 == "eden/counter.errEnded") = [("eden/counter.errEnded", Rows.laid_eden_counter_errEnded)])
    (h : laidMet Tryd.prog l W) : ∃ eb, EndT W eb := by
  have h1 := h.filter fun x => x.1 == "eden/counter.errEnded"
  rw [he] at h1
  obtain ⟨a, s, h2, -⟩ := laid_sentinel (tp := 344) (te := 367) (ts := 9) h1 endAt (by kernel_rfl) Tryd.underlying31 endRow Tryd.underlying344 Tryd.underlying367 rfl rfl Tryd.underlying9 (by kernel_rfl) (by kernel_rfl)
  refine ⟨a, ?_⟩
  unfold EndT
  simpa using World.var?_cell endAt h2 0
set_option maxRecDepth 100000 in
/-- A fraction as it is read. -/
theorem frac_read {H : Type} {enc : TypeId × Value → H} {W : World} {fuel : Nat} {cs : List Value} {x : DataW H × List MemPlace}
    (h : DataW.trod enc Tryd.prog W 0 (fun _ => true) true fuel 166 cs = some x) (hc : cs.length = 2) : ∃ p : FraT, cs = [.int .i64 p.1, .int .i64 p.2] ∧ p.1 ≤ 9223372036854775807 ∧ p.2 ≤ 9223372036854775807 := by
  obtain ⟨xs, m, _, hx, hl, hlen, hf⟩ := DataW.trod_struct Tryd.underlying166 h
  have f0 := hf 0 _ rfl
  have f1 := hf 1 _ rfl
  clear hf hx h hl
  have q3 : Tryd.prog.cellsOf 3 = 1 := by kernel_rfl
  match cs, hc with
  | [c0, c1], _ =>
  match xs, hlen with
  | [y0, y1], _ =>
  simp [q3] at f0 f1
  obtain ⟨k0, e0, -, w0⟩ := DataW.trod_int Tryd.underlying3 f0
  obtain ⟨k1, e1, -, w1⟩ := DataW.trod_int Tryd.underlying3 f1
  simp only [List.cons.injEq, and_true] at e0 e1
  subst e0 e1
  exact ⟨(k0, k1), rfl, int_max w0, int_max w1⟩
theorem cells_two {w : World} {a : Addr} {cs : List Value} (h : w.cells? 0 a 2 = some cs) : ∃ c0 c1, cs = [c0, c1] ∧ w.cell? (a.add 0) = some c0 ∧ w.cell? (a.add 1) = some c1 := by
  unfold World.cells? at h
  rw [if_pos (Nat.zero_le _)] at h
  simp only [List.range, List.range.loop, List.mapM_cons, List.mapM_nil] at h
  cases h0 : w.cell? (a.add 0) with
  | none => simp [h0] at h
  | some c0 =>
  cases h1 : w.cell? (a.add 1) with
  | none => simp [h0, h1] at h
  | some c1 =>
    simp [h0, h1] at h
    exact ⟨c0, c1, h.symm, rfl, rfl⟩
theorem add_atF (g off k : Nat) : (⟨g, off, none⟩ : Addr).add k = ⟨g, off + k, none⟩ := by
  unfold Addr.add
  split
  · rename_i hz; subst hz; rfl
  · rfl
theorem sp_noneF {w : World} {g off : Nat} {sp : Option Nat} {v : Value} (h : w.cell? (((⟨g, off, sp⟩ : Addr).add 0).add 0) = some v) : sp = none := by
  cases sp with
  | none => rfl
  | some q =>
    exfalso
    simp [Addr.add, World.cell?] at h
    split at h <;> simp at h
set_option maxRecDepth 100000 in
/-- Fractions that came in. -/
theorem open_fracs {H : Type} {enc : TypeId × Value → H} {W : World} {base : Nat} {v : Value} {d : DataW H} {p : List MemPlace}
    (hv : Value.okWide Tryd.prog W .any base 71 v) (h : DataW.Trod enc Tryd.prog W 0 (fun _ => true) true 71 v d p) :
    ∃ (xs : List FraT) (a : Option Addr) (c : Nat), v = .slice a xs.length c ∧ ArgF W xs a xs.length c := by
  obtain ⟨a0, n0, c0, rfl⟩ := okWide_slice Tryd.underlying71 hv
  obtain ⟨fuel, h⟩ := h
  have q3 : Tryd.prog.cellsOf 166 = 2 := by kernel_rfl
  rcases DataW.trod_slice Tryd.underlying71 h with ⟨e, -⟩ | ⟨a, len, cap, elems, rest, n, -, e, -, hb, hlc, hcm, hel, hc, -⟩
  · simp [Value.cells] at e
    obtain ⟨rfl, rfl, rfl⟩ := e
    exact ⟨[], none, 0, rfl, ⟨rfl, by simp, (fun k hk => absurd hk (by simp)), fun k hk => absurd hk (by simp)⟩⟩
  · simp [Value.cells] at e
    obtain ⟨rfl, rfl, rfl⟩ := e
    rw [q3] at hc
    have key : ∀ i, ∃ q : FraT, i < n0 → W.cell? ((a.add (i * 2)).add 0) = some (.int .i64 q.1) ∧ W.cell? ((a.add (i * 2)).add 1) = some (.int .i64 q.2) ∧ q.1 ≤ 9223372036854775807 ∧ q.2 ≤ 9223372036854775807 := fun i => by
      by_cases hi : i < n0
      · have h1 := hc i hi
        have h2 : elems[i]? = some (elems[i]'(by omega)) := List.getElem?_eq_getElem _
        rw [h2] at h1
        cases h3 : W.cells? 0 (a.add (i * 2)) 2 with
        | none => rw [h3] at h1; cases h1
        | some cs =>
          rw [h3] at h1
          obtain ⟨c0', c1', rfl, k0, k1⟩ := cells_two h3
          obtain ⟨q, hq, m0, m1⟩ := frac_read h1 rfl
          simp only [List.cons.injEq, and_true] at hq
          obtain ⟨rfl, rfl⟩ := hq
          exact ⟨q, fun _ => ⟨k0, k1, m0, m1⟩⟩
      · exact ⟨(0, 0), fun h => absurd h hi⟩
    obtain ⟨f, hf⟩ := Classical.axiomOfChoice key
    refine ⟨(List.range n0).map f, some a, c0, by simp, ⟨by simp, by simp only [List.length_map, List.length_range]; have : maxLen = 9223372036854775807 := rfl; omega, fun k hk => ?_, fun k hk => ?_⟩⟩
    · have hk' : k < n0 := by simpa using hk
      obtain ⟨g, off, sp⟩ := a
      have e0 := sp_noneF (hf 0 (by omega)).1
      subst e0
      obtain ⟨k0, k1, -⟩ := hf k hk'
      rw [add_atF, add_atF] at k0 k1
      simp only [List.getElem_map, List.getElem_range]
      refine ⟨g, off, rfl, ?_, by simpa using k0, k1⟩
      rcases Nat.lt_or_ge g W.heap.size with q | q
      · exact q
      · simp [World.cell?, Array.getElem?_eq_none q] at k0
    · have hk' : k < n0 := by simpa using hk
      simp only [List.getElem_map, List.getElem_range]
      exact (hf k hk').2.2
end Go.Proofs.YtdkomlgkkepioaaDoor

