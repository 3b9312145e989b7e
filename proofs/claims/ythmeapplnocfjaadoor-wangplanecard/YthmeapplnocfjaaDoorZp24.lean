/-
  What the last text of this claim leans on, part 24: OpenW, OpenZw.
-/
import Derived.Test.YthmeapplnocfjaaDoorZp2
import Derived.Test.YthmeapplnocfjaaDoorRows
import Derived.Test.YthmeapplnocfjaaDoorZp5
import Derived.WalkKit
import Derived.ProofKit
import Derived.OpenShut
import Derived.ChangeSame
import Derived.ChangeSlices
import Derived.ChangeVars
import Derived.RowKit
import Derived.Carry
import Derived.LaidSub
import Derived.Lib.LaidTab
namespace Go.Proofs.YthmeapplnocfjaaDoor
open Go.ChangeShapes Go.WideShapes Go.ChangeAt Go.RowKit
open Go.ChangeMaps (setBlock shut_map_nil open_string shut_string keptBut_setBlock frozen?_setBlock heap_setBlock_same)
set_option linter.unusedVariables false
set_option linter.unusedSimpArgs false
set_option maxRecDepth 100000

/-- A list of ints as it is read. -/
theorem ints_argW {H : Type} {enc : TypeId × Value → H} {W : World} {fuel : Nat} {cs : List Value} {x : DataW H × List MemPlace}
    (h : DataW.trod enc Tryd.prog W 0 (fun _ => true) true fuel 23 cs = some x) :
    ∃ (xs : List Int) (a : Option Addr) (c : Nat), cs = [.slice a xs.length c] ∧ ArgP W xs a xs.length c ∧ xs.length ≤ c ∧ c ≤ maxLen := by
  have q3 : Tryd.prog.cellsOf 3 = 1 := by kernel_rfl
  rcases open_ints Tryd.underlying23 Tryd.underlying3 q3 h with ⟨rfl, -⟩ | ⟨a, len, cap, zs, rfl, hb, hlc, hcm, hzl, -, hcell, hwf⟩
  · exact ⟨[], none, 0, rfl, ⟨rfl, by simp, fun k hk => absurd hk (by simp)⟩, by simp, by simp⟩
  · simp only [if_true] at hzl
    have hl : (zs.take len).length = len := by simp; omega
    refine ⟨zs.take len, some a, cap, by rw [hl], ⟨rfl, by omega, fun k hk => ?_⟩, by omega, hcm⟩
    have hk' : k < len ∧ k < zs.length := by simp only [List.length_take] at hk; omega
    have hc0 := hcell 0 (by omega)
    have hck := hcell k hk'.2
    obtain ⟨g, off, sp⟩ := a
    have hsp : sp = none := by
      cases sp with
      | none => rfl
      | some q =>
        exfalso
        simp [Addr.add, World.cell?] at hc0
        split at hc0 <;> simp at hc0
    subst hsp
    have ea : (⟨g, off, none⟩ : Addr).add k = ⟨g, off + k, none⟩ := by
      unfold Addr.add
      split
      · rename_i hz; subst hz; rfl
      · rfl
    rw [ea] at hck
    refine ⟨g, off, rfl, ?_, ?_⟩
    · rcases Nat.lt_or_ge g W.heap.size with q | q
      · exact q
      · simp [World.cell?, Array.getElem?_eq_none q] at hck
    · rw [hck]
      simp [List.getD, hk'.2]

set_option maxRecDepth 100000 in
/-- A list of ints that came in. -/
theorem open_listW {H : Type} {enc : TypeId × Value → H} {W : World} {base : Nat} {v : Value} {d : DataW H} {p : List MemPlace}
    (hv : Value.okWide Tryd.prog W .any base 23 v) (h : DataW.Trod enc Tryd.prog W 0 (fun _ => true) true 23 v d p) :
    ∃ (xs : List Int) (a : Option Addr) (c : Nat), v = .slice a xs.length c ∧ ArgP W xs a xs.length c ∧ xs.length ≤ c ∧ c ≤ maxLen := by
  obtain ⟨a0, n0, c0, rfl⟩ := okWide_slice Tryd.underlying23 hv
  obtain ⟨fuel, h⟩ := h
  obtain ⟨xs, a, c, e, ha, h1, h2⟩ := ints_argW h
  simp [Value.cells] at e
  obtain ⟨rfl, rfl, rfl⟩ := e
  exact ⟨xs, _, _, rfl, ha, h1, h2⟩
theorem cells_fourW {w : World} {a : Addr} {cs : List Value} (h : w.cells? 0 a 4 = some cs) : ∃ c0 c1 c2 c3, cs = [c0, c1, c2, c3] ∧ w.cell? (a.add 0) = some c0 ∧ w.cell? (a.add 1) = some c1 ∧ w.cell? (a.add 2) = some c2 ∧ w.cell? (a.add 3) = some c3 := by
  unfold World.cells? at h
  rw [if_pos (Nat.zero_le _)] at h
  simp only [List.range, List.range.loop, List.mapM_cons, List.mapM_nil] at h
  cases h0 : w.cell? (a.add 0) with
  | none => simp [h0] at h
  | some c0 =>
  cases h1 : w.cell? (a.add 1) with
  | none => simp [h0, h1] at h
  | some c1 =>
  cases h2 : w.cell? (a.add 2) with
  | none => simp [h0, h1, h2] at h
  | some c2 =>
  cases h3 : w.cell? (a.add 3) with
  | none => simp [h0, h1, h2, h3] at h
  | some c3 =>
    simp [h0, h1, h2, h3] at h
    exact ⟨c0, c1, c2, c3, h.symm, rfl, rfl, rfl, rfl⟩
theorem add_atW (g off k : Nat) : (⟨g, off, none⟩ : Addr).add k = ⟨g, off + k, none⟩ := by
  unfold Addr.add
  split
  · rename_i hz; subst hz; rfl
  · rfl
theorem sp_noneW {w : World} {g off : Nat} {sp : Option Nat} {v : Value} (h : w.cell? (((⟨g, off, sp⟩ : Addr).add 0).add 0) = some v) : sp = none := by
  cases sp with
  | none => rfl
  | some q =>
    exfalso
    simp [Addr.add, World.cell?] at h
    split at h <;> simp at h
set_option maxRecDepth 100000 in
/-- A tile as it is read. -/
theorem tile_read {H : Type} {enc : TypeId × Value → H} {W : World} {fuel : Nat} {cs : List Value} {x : DataW H × List MemPlace}
    (h : DataW.trod enc Tryd.prog W 0 (fun _ => true) true fuel 47 cs = some x) (hc : cs.length = 4) : ∃ p : TlT, cs = [.int .i64 p.u, .int .i64 p.r, .int .i64 p.d, .int .i64 p.l] := by
  obtain ⟨xs, m, _, hx, hl, hlen, hf⟩ := DataW.trod_struct Tryd.underlying47 h
  have f0 := hf 0 _ rfl
  have f1 := hf 1 _ rfl
  have f2 := hf 2 _ rfl
  have f3 := hf 3 _ rfl
  clear hf hx h hl
  have q3 : Tryd.prog.cellsOf 3 = 1 := by kernel_rfl
  match cs, hc with
  | [c0, c1, c2, c3], _ =>
  match xs, hlen with
  | [y0, y1, y2, y3], _ =>
  simp [q3] at f0 f1 f2 f3
  obtain ⟨k0, e0, -, w0⟩ := DataW.trod_int Tryd.underlying3 f0
  obtain ⟨k1, e1, -, w1⟩ := DataW.trod_int Tryd.underlying3 f1
  obtain ⟨k2, e2, -, w2⟩ := DataW.trod_int Tryd.underlying3 f2
  obtain ⟨k3, e3, -, w3⟩ := DataW.trod_int Tryd.underlying3 f3
  simp only [List.cons.injEq, and_true] at e0 e1 e2 e3
  subst e0 e1 e2 e3
  exact ⟨⟨k0, k1, k2, k3⟩, rfl⟩
set_option maxRecDepth 100000 in
/-- Tiles that came in. -/
theorem tiles_arg {H : Type} {enc : TypeId × Value → H} {W : World} {fuel : Nat} {cs : List Value} {x : DataW H × List MemPlace}
    (h : DataW.trod enc Tryd.prog W 0 (fun _ => true) true fuel 22 cs = some x) :
    ∃ (xs : List TlT) (a : Option Addr) (c : Nat), cs = [.slice a xs.length c] ∧ ArgT W xs a xs.length c := by
  have q3 : Tryd.prog.cellsOf 47 = 4 := by kernel_rfl
  rcases DataW.trod_slice Tryd.underlying22 h with ⟨e, -⟩ | ⟨a, n0, c0, elems, rest, n, -, e, -, hb, hlc, hcm, hel, hc, -⟩
  · exact ⟨[], none, 0, e, ⟨rfl, by simp, fun k hk => absurd hk (by simp)⟩⟩
  · rw [q3] at hc
    have key : ∀ i, ∃ q : TlT, i < n0 → W.cell? ((a.add (i * 4)).add 0) = some (.int .i64 q.u) ∧ W.cell? ((a.add (i * 4)).add 1) = some (.int .i64 q.r) ∧ W.cell? ((a.add (i * 4)).add 2) = some (.int .i64 q.d) ∧ W.cell? ((a.add (i * 4)).add 3) = some (.int .i64 q.l) := fun i => by
      by_cases hi : i < n0
      · have h1 := hc i hi
        have h2 : elems[i]? = some (elems[i]'(by omega)) := List.getElem?_eq_getElem _
        rw [h2] at h1
        cases h3 : W.cells? 0 (a.add (i * 4)) 4 with
        | none => rw [h3] at h1; cases h1
        | some cs =>
          rw [h3] at h1
          obtain ⟨c0', c1', c2', c3', rfl, k0, k1, k2, k3⟩ := cells_fourW h3
          obtain ⟨q, hq⟩ := tile_read h1 rfl
          simp only [List.cons.injEq, and_true] at hq
          obtain ⟨rfl, rfl, rfl, rfl⟩ := hq
          exact ⟨q, fun _ => ⟨k0, k1, k2, k3⟩⟩
      · exact ⟨⟨0, 0, 0, 0⟩, fun h => absurd h hi⟩
    obtain ⟨f, hf⟩ := Classical.axiomOfChoice key
    refine ⟨(List.range n0).map f, some a, c0, by simpa using e, ⟨by simp, by simp only [List.length_map, List.length_range]; omega, fun k hk => ?_⟩⟩
    have hk' : k < n0 := by simpa using hk
    obtain ⟨g, off, sp⟩ := a
    have e0 := sp_noneW (hf 0 (by omega)).1
    subst e0
    obtain ⟨k0, k1, k2, k3⟩ := hf k hk'
    rw [add_atW, add_atW] at k0 k1 k2 k3
    have ge : ((List.range n0).map f).getD k tlz = f k := by simp [List.getD, hk']
    rw [ge]
    refine ⟨g, off, rfl, ?_, by simpa using k0, k1, k2, k3⟩
    rcases Nat.lt_or_ge g W.heap.size with q | q
    · exact q
    · simp [World.cell?, Array.getElem?_eq_none q] at k0
set_option maxRecDepth 100000 in
/-- A list of tiles that came in. -/
theorem open_tilesW {H : Type} {enc : TypeId × Value → H} {W : World} {base : Nat} {v : Value} {d : DataW H} {p : List MemPlace}
    (hv : Value.okWide Tryd.prog W .any base 22 v) (h : DataW.Trod enc Tryd.prog W 0 (fun _ => true) true 22 v d p) :
    ∃ (xs : List TlT) (a : Option Addr) (c : Nat), v = .slice a xs.length c ∧ ArgT W xs a xs.length c := by
  obtain ⟨a0, n0, c0, rfl⟩ := okWide_slice Tryd.underlying22 hv
  obtain ⟨fuel, h⟩ := h
  obtain ⟨xs, a, c, e, ha⟩ := tiles_arg h
  simp [Value.cells] at e
  obtain ⟨rfl, rfl, rfl⟩ := e
  exact ⟨xs, _, _, rfl, ha⟩
end Go.Proofs.YthmeapplnocfjaaDoor

namespace Go.Proofs.YthmeapplnocfjaaDoor
open Go.ChangeShapes Go.WideShapes Go.ChangeAt Go.RowKit
set_option linter.unusedVariables false

theorem tzAt : Tryd.prog.globalNamed "math/bits.deBruijn64tab" = some 2 := by kernel_rfl
theorem tz_of_laid {W : World} {l : List (String × DataW Unit)} (he : (l.filter fun x => x.1 == "math/bits.deBruijn64tab") = [("math/bits.deBruijn64tab", Lib.tabData .u8 (Lib.deBruijn64tab.map fun (x : Nat) => (x : Int)))])
    (h : laidMet Tryd.prog l W) : TzTab W := by
  have h1 := h.filter fun x => x.1 == "math/bits.deBruijn64tab"
  rw [he] at h1
  have h2 := Lib.tabIs_of_head tzAt (show (Tryd.prog.globals[2]?).map (·.type) = some 131 by kernel_rfl) Tryd.underlying131 Tryd.underlying5 (by kernel_rfl) (by kernel_rfl) h1
  intro j hj
  have hl : Lib.deBruijn64tab.length = 64 := by decide
  have h3 := h2.cell tzAt j (by rw [List.length_map, hl]; exact hj)
  rw [h3]
  have hj' : j < Lib.deBruijn64tab.length := by rw [hl]; exact hj
  simp [List.getD, hj']
end Go.Proofs.YthmeapplnocfjaaDoor

