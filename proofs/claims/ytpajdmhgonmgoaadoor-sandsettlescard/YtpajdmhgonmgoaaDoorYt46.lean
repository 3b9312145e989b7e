/-
  What the last text of this claim leans on, part 46: OpenRo.
-/
import Derived.Test.YtpajdmhgonmgoaaDoorYt20
import Derived.Test.YtpajdmhgonmgoaaDoorYt21
import Derived.Test.YtpajdmhgonmgoaaDoorRows
import Derived.WalkKit
import Derived.ProofKit
import Derived.OpenShut
import Derived.ChangeSame
import Derived.ChangeSlices
import Derived.ChangeVars
import Derived.RowKit
import Derived.Carry
namespace Go.Proofs.YtpajdmhgonmgoaaDoor
open Go.ChangeShapes Go.WideShapes Go.ChangeAt Go.RowKit
open Go.ChangeMaps (setBlock shut_map_nil open_string shut_string keptBut_setBlock frozen?_setBlock heap_setBlock_same)
set_option linter.unusedVariables false

/-- A list of ints as it is read. -/
theorem ints_argR {H : Type} {enc : TypeId × Value → H} {W : World} {fuel : Nat} {cs : List Value} {x : DataW H × List MemPlace}
    (h : DataW.trod enc Tryd.prog W 0 (fun _ => true) true fuel 25 cs = some x) :
    ∃ (xs : List Int) (a : Option Addr) (c : Nat), cs = [.slice a xs.length c] ∧ ArgP W xs a xs.length c ∧ xs.length ≤ c ∧ c ≤ maxLen := by
  have q3 : Tryd.prog.cellsOf 3 = 1 := by kernel_rfl
  rcases open_ints Tryd.underlying25 Tryd.underlying3 q3 h with ⟨rfl, -⟩ | ⟨a, len, cap, zs, rfl, hb, hlc, hcm, hzl, -, hcell, hwf⟩
  · exact ⟨[], none, 0, rfl, ⟨rfl, by simp, fun k hk => absurd hk (by simp)⟩, by simp, by simp⟩
  · simp only [if_true] at hzl
    have hl : (zs.take len).length = len := by simp; omega
    refine ⟨zs.take len, some a, cap, by rw [hl], ⟨rfl, by omega, fun k hk => ?_⟩, by omega, hcm⟩
    have hk' : k < len ∧ k < zs.length := by simp only [List.length_take] at hk; omega
    have hc0 := hcell 0 (by omega)
    have hck := hcell k hk'.2
    obtain ⟨g, off, sp⟩ := a
    have hsp : sp = none := by
      cases sp with
      | none => rfl
      | some q =>
        exfalso
        simp [Addr.add, World.cell?] at hc0
        split at hc0 <;> simp at hc0
    subst hsp
    have ea : (⟨g, off, none⟩ : Addr).add k = ⟨g, off + k, none⟩ := by
      unfold Addr.add
      split
      · rename_i hz; subst hz; rfl
      · rfl
    rw [ea] at hck
    refine ⟨g, off, rfl, ?_, ?_⟩
    · rcases Nat.lt_or_ge g W.heap.size with q | q
      · exact q
      · simp [World.cell?, Array.getElem?_eq_none q] at hck
    · rw [hck]
      simp [List.getD, hk'.2]

set_option maxRecDepth 100000 in
/-- A list of ints that came in. -/
theorem open_listR {H : Type} {enc : TypeId × Value → H} {W : World} {base : Nat} {v : Value} {d : DataW H} {p : List MemPlace}
    (hv : Value.okWide Tryd.prog W .any base 25 v) (h : DataW.Trod enc Tryd.prog W 0 (fun _ => true) true 25 v d p) :
    ∃ (xs : List Int) (a : Option Addr) (c : Nat), v = .slice a xs.length c ∧ ArgP W xs a xs.length c ∧ xs.length ≤ c ∧ c ≤ maxLen := by
  obtain ⟨a0, n0, c0, rfl⟩ := okWide_slice Tryd.underlying25 hv
  obtain ⟨fuel, h⟩ := h
  obtain ⟨xs, a, c, e, ha, h1, h2⟩ := ints_argR h
  simp [Value.cells] at e
  obtain ⟨rfl, rfl, rfl⟩ := e
  exact ⟨xs, _, _, rfl, ha, h1, h2⟩
theorem cells_threeR {w : World} {a : Addr} {cs : List Value} (h : w.cells? 0 a 3 = some cs) : ∃ c0 c1 c2, cs = [c0, c1, c2] ∧ w.cell? (a.add 0) = some c0 ∧ w.cell? (a.add 1) = some c1 ∧ w.cell? (a.add 2) = some c2 := by
  unfold World.cells? at h
  rw [if_pos (Nat.zero_le _)] at h
  simp only [List.range, List.range.loop, List.mapM_cons, List.mapM_nil] at h
  cases h0 : w.cell? (a.add 0) with
  | none => simp [h0] at h
  | some c0 =>
  cases h1 : w.cell? (a.add 1) with
  | none => simp [h0, h1] at h
  | some c1 =>
  cases h2 : w.cell? (a.add 2) with
  | none => simp [h0, h1, h2] at h
  | some c2 =>
    simp [h0, h1, h2] at h
    exact ⟨c0, c1, c2, h.symm, rfl, rfl, rfl⟩
theorem add_atR (g off k : Nat) : (⟨g, off, none⟩ : Addr).add k = ⟨g, off + k, none⟩ := by
  unfold Addr.add
  split
  · rename_i hz; subst hz; rfl
  · rfl
theorem sp_noneR {w : World} {g off : Nat} {sp : Option Nat} {v : Value} (h : w.cell? (((⟨g, off, sp⟩ : Addr).add 0).add 0) = some v) : sp = none := by
  cases sp with
  | none => rfl
  | some q =>
    exfalso
    simp [Addr.add, World.cell?] at h
    split at h <;> simp at h
set_option maxRecDepth 100000 in
/-- An edge as it is read. -/
theorem edge_read {H : Type} {enc : TypeId × Value → H} {W : World} {fuel : Nat} {cs : List Value} {x : DataW H × List MemPlace}
    (h : DataW.trod enc Tryd.prog W 0 (fun _ => true) true fuel 46 cs = some x) (hc : cs.length = 3) : ∃ p : EgT, cs = [.int .i64 p.a, .int .i64 p.b, .int .i64 p.t] := by
  obtain ⟨xs, m, _, hx, hl, hlen, hf⟩ := DataW.trod_struct Tryd.underlying46 h
  have f0 := hf 0 _ rfl
  have f1 := hf 1 _ rfl
  have f2 := hf 2 _ rfl
  clear hf hx h hl
  have q3 : Tryd.prog.cellsOf 3 = 1 := by kernel_rfl
  match cs, hc with
  | [c0, c1, c2], _ =>
  match xs, hlen with
  | [y0, y1, y2], _ =>
  simp [q3] at f0 f1 f2
  obtain ⟨k0, e0, -, w0⟩ := DataW.trod_int Tryd.underlying3 f0
  obtain ⟨k1, e1, -, w1⟩ := DataW.trod_int Tryd.underlying3 f1
  obtain ⟨k2, e2, -, w2⟩ := DataW.trod_int Tryd.underlying3 f2
  simp only [List.cons.injEq, and_true] at e0 e1 e2
  subst e0 e1 e2
  exact ⟨⟨k0, k1, k2⟩, rfl⟩
set_option maxRecDepth 100000 in
/-- Edges that came in. -/
theorem edges_arg {H : Type} {enc : TypeId × Value → H} {W : World} {fuel : Nat} {cs : List Value} {x : DataW H × List MemPlace}
    (h : DataW.trod enc Tryd.prog W 0 (fun _ => true) true fuel 22 cs = some x) :
    ∃ (xs : List EgT) (a : Option Addr) (c : Nat), cs = [.slice a xs.length c] ∧ ArgE W xs a xs.length c := by
  have q3 : Tryd.prog.cellsOf 46 = 3 := by kernel_rfl
  rcases DataW.trod_slice Tryd.underlying22 h with ⟨e, -⟩ | ⟨a, n0, c0, elems, rest, n, -, e, -, hb, hlc, hcm, hel, hc, -⟩
  · exact ⟨[], none, 0, e, ⟨rfl, by simp, fun k hk => absurd hk (by simp)⟩⟩
  · rw [q3] at hc
    have key : ∀ i, ∃ q : EgT, i < n0 → W.cell? ((a.add (i * 3)).add 0) = some (.int .i64 q.a) ∧ W.cell? ((a.add (i * 3)).add 1) = some (.int .i64 q.b) ∧ W.cell? ((a.add (i * 3)).add 2) = some (.int .i64 q.t) := fun i => by
      by_cases hi : i < n0
      · have h1 := hc i hi
        have h2 : elems[i]? = some (elems[i]'(by omega)) := List.getElem?_eq_getElem _
        rw [h2] at h1
        cases h3 : W.cells? 0 (a.add (i * 3)) 3 with
        | none => rw [h3] at h1; cases h1
        | some cs =>
          rw [h3] at h1
          obtain ⟨c0', c1', c2', rfl, k0, k1, k2⟩ := cells_threeR h3
          obtain ⟨q, hq⟩ := edge_read h1 rfl
          simp only [List.cons.injEq, and_true] at hq
          obtain ⟨rfl, rfl, rfl⟩ := hq
          exact ⟨q, fun _ => ⟨k0, k1, k2⟩⟩
      · exact ⟨⟨0, 0, 0⟩, fun h => absurd h hi⟩
    obtain ⟨f, hf⟩ := Classical.axiomOfChoice key
    refine ⟨(List.range n0).map f, some a, c0, by simpa using e, ⟨by simp, by simp only [List.length_map, List.length_range]; have : maxLen = 9223372036854775807 := rfl; omega, fun k hk => ?_⟩⟩
    have hk' : k < n0 := by simpa using hk
    obtain ⟨g, off, sp⟩ := a
    have e0 := sp_noneR (hf 0 (by omega)).1
    subst e0
    obtain ⟨k0, k1, k2⟩ := hf k hk'
    rw [add_atR, add_atR] at k0 k1 k2
    simp only [List.getElem_map, List.getElem_range]
    refine ⟨g, off, rfl, ?_, by simpa using k0, k1, k2⟩
    rcases Nat.lt_or_ge g W.heap.size with q | q
    · exact q
    · simp [World.cell?, Array.getElem?_eq_none q] at k0
set_option maxRecDepth 100000 in
/-- A graph that came in. -/
theorem open_graph {H : Type} {enc : TypeId × Value → H} {W : World} {base : Nat} {v : Value} {d : DataW H} {p : List MemPlace}
    (hv : Value.okWide Tryd.prog W .any base 24 v) (h : DataW.Trod enc Tryd.prog W 0 (fun _ => true) true 24 v d p) :
    ∃ (P : Int) (xs : List EgT) (a : Option Addr) (c : Nat), v = .agg #[.int .i64 P, .slice a xs.length c] ∧ ArgE W xs a xs.length c := by
  obtain ⟨cs, rfl, hsz⟩ := okWide_struct Tryd.underlying24 hv
  obtain ⟨fuel, h⟩ := h
  obtain ⟨xs, m, _, hx, hl, hlen, hf⟩ := DataW.trod_struct Tryd.underlying24 h
  have f0 := hf 0 _ rfl
  have f1 := hf 1 _ rfl
  clear hf hx h hv hl
  have q3 : Tryd.prog.cellsOf 3 = 1 := by kernel_rfl
  have q4 : Tryd.prog.cellsOf 22 = 1 := by kernel_rfl
  rw [show Tryd.prog.cellsOf 24 = 2 by kernel_rfl] at hsz
  obtain ⟨cl⟩ := cs
  match cl, hsz with
  | [c0, c1], _ =>
  match xs, hlen with
  | [y0, y1], _ =>
  simp [Value.cells, q3, q4] at f0 f1
  obtain ⟨k0, e0, -, w0⟩ := DataW.trod_int Tryd.underlying3 f0
  obtain ⟨zs, a, c, e1, ha⟩ := edges_arg f1
  simp only [List.cons.injEq, and_true] at e0 e1
  subst e0 e1
  exact ⟨k0, zs, a, c, rfl, ha⟩
theorem trodAll_fiveR {H : Type} {enc : TypeId × Value → H} {P : Program} {w : World} {base : Nat} {spare : Nat → Bool} {held : Bool} {t0 t1 t2 t3 t4 : TypeId} {args : Array Value} {ds : List (DataW H)} {ps : List MemPlace} (h : DataW.TrodAll enc P w base spare held [t0, t1, t2, t3, t4] args.toList ds ps) :
    ∃ v0 v1 v2 v3 v4 d0 d1 d2 d3 d4 p0 p1 p2 p3 p4, args = #[v0, v1, v2, v3, v4] ∧ ds = [d0, d1, d2, d3, d4] ∧ ps = p0 ++ (p1 ++ (p2 ++ (p3 ++ p4))) ∧ DataW.Trod enc P w base spare held t0 v0 d0 p0 ∧ DataW.Trod enc P w base spare held t1 v1 d1 p1 ∧ DataW.Trod enc P w base spare held t2 v2 d2 p2 ∧ DataW.Trod enc P w base spare held t3 v3 d3 p3 ∧ DataW.Trod enc P w base spare held t4 v4 d4 p4 := by
  obtain ⟨v0, vs0, d0, ds0, p0, q0, hargs, rfl, rfl, hd0, r0⟩ := trodAll_cons h
  obtain ⟨v1, vs1, d1, ds1, p1, q1, rfl, rfl, rfl, hd1, r1⟩ := trodAll_cons r0
  obtain ⟨v2, vs2, d2, ds2, p2, q2, rfl, rfl, rfl, hd2, r2⟩ := trodAll_cons r1
  obtain ⟨v3, vs3, d3, ds3, p3, q3, rfl, rfl, rfl, hd3, r3⟩ := trodAll_cons r2
  obtain ⟨v4, vs4, d4, ds4, p4, q4, rfl, rfl, rfl, hd4, r4⟩ := trodAll_cons r3
  obtain ⟨rfl, rfl, rfl⟩ := trodAll_nil r4
  exact ⟨v0, v1, v2, v3, v4, d0, d1, d2, d3, d4, p0, p1, p2, p3, p4, by cases args; simp_all, rfl, by simp, hd0, hd1, hd2, hd3, hd4⟩
end Go.Proofs.YtpajdmhgonmgoaaDoor

