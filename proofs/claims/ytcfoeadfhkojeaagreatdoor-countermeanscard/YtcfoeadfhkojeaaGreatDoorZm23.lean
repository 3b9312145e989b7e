/-
  What the last text of this claim leans on, part 23: OpenI.
-/
import Derived.Test.YtcfoeadfhkojeaaGreatDoorZm22
import Derived.Test.YtcfoeadfhkojeaaGreatDoorZm13
namespace Go.Proofs.YtcfoeadfhkojeaaGreatDoor
open Go.ChangeShapes Go.WideShapes Go.ChangeAt Go.RowKit
set_option linter.unusedVariables false
theorem cells_of_strs {H : Type} {enc : TypeId × Value → H} {P : Program} {w : World} {base : Nat} {sp : Nat → Bool} {held : Bool} {fuel : Nat} {t e : TypeId} {n : Nat} {cs : List Value} {ss : List (List UInt8)} {p : List MemPlace}
    (ht : P.underlying t = some (.array n e)) (he : P.underlying e = some .string) (hce : P.cellsOf e = 1) (hct : P.cellsOf t = n)
    (h : DataW.trod enc P w base sp held fuel t cs = some (.agg (ss.map fun s => .lit (.string s)), p)) : cs = ss.map fun s => Value.string ⟨s.toArray⟩ := by
  cases fuel with
  | zero => simp [DataW.trod] at h
  | succ fuel =>
    simp only [DataW.trod, ht, hce, hct, Nat.mul_one] at h
    split at h
    · rename_i hl
      obtain ⟨xs, hm, hx⟩ := Option.map_eq_some_iff.1 h
      have hxs : xs.map (·.1) = ss.map fun s => (DataW.lit (.string s) : DataW H) := by
        have := congrArg Prod.fst hx
        simpa using this
      have hxl : xs.length = n := by simpa using Lib.mapM_length hm
      have hzl : ss.length = n := by
        have := congrArg List.length hxs
        simp at this
        omega
      apply List.ext_getElem?
      intro i
      by_cases hi : i < n
      · obtain ⟨b, hb, hf⟩ := Lib.mapM_at hm i i (by simp [hi])
        obtain ⟨z, hc, rfl, _⟩ := DataW.trod_string he hf
        have h1 : cs[i]? = some (.string z) := by
          have := congrArg (·[0]?) hc
          simpa [List.getElem?_take, List.getElem?_drop] using this
        have h2 : (xs.map (·.1))[i]? = some (DataW.lit (.string z.data.toList) : DataW H) := by simp [hb]
        rw [hxs] at h2
        simp only [List.getElem?_map, Option.map_eq_some_iff, DataW.lit.injEq, Lit.string.injEq] at h2
        obtain ⟨z', hz', e2⟩ := h2
        rw [h1]
        simp [hz', e2]
      · rw [List.getElem?_eq_none (by omega), List.getElem?_eq_none (by simp; omega)]
    · cases h
theorem strs_of_head {P : Program} {W : World} {name : String} {ss : List (List UInt8)} {rest : List (String × DataW Unit)} {g : Nat} {t e : TypeId} {n : Nat}
    (hg : P.globalNamed name = some g) (hty : (P.globals[g]?).map (·.type) = some t) (ht : P.underlying t = some (.array n e)) (he : P.underlying e = some .string) (hce : P.cellsOf e = 1) (hct : P.cellsOf t = n)
    (h : laidMet P ((name, .agg (ss.map fun s => .lit (.string s))) :: rest) W) (i : Nat) (hi : i < ss.length) : W.cell? ⟨g, i, none⟩ = some (.string ⟨(ss.getD i []).toArray⟩) := by
  obtain ⟨ps, ⟨g', t', cs, fuel, p, q, hg', ht', hvar, hd, _, _⟩, _⟩ := h
  obtain rfl := Option.some.inj (hg.symm.trans hg')
  obtain rfl := Option.some.inj (hty.symm.trans ht')
  have e := cells_of_strs ht he hce hct hd
  have := World.var?_cell hg hvar i
  rw [this, ← Array.getElem?_toList, e]
  simp [List.getD, hi]
theorem wordsAt : Tryz.prog.globalNamed "eden/counter.words" = some 0 := by kernel_rfl
theorem usedAt : Tryz.prog.globalNamed "eden/counter.used" = some 1 := by kernel_rfl
theorem primesAt : Tryz.prog.globalNamed "eden/counter.primes" = some 2 := by kernel_rfl
theorem words_of_laid {W : World} {l : List (String × DataW Unit)} (he : (l.filter fun x => x.1 == "eden/counter.words") = [("eden/counter.words", .agg ([[], [105, 110, 99], [100, 101, 99], [104, 97, 108, 116]].map fun s => .lit (.string s)))])
    (h : laidMet Tryz.prog l W) : WoT W := by
  have h1 := h.filter fun x => x.1 == "eden/counter.words"
  rw [he] at h1
  intro j hj
  exact strs_of_head wordsAt (show (Tryz.prog.globals[0]?).map (·.type) = some 60 by kernel_rfl) Tryz.underlying60 Tryz.underlying9 (by kernel_rfl) (by kernel_rfl) h1 j hj
theorem used_of_laid {W : World} {l : List (String × DataW Unit)} (he : (l.filter fun x => x.1 == "eden/counter.used") = [("eden/counter.used", Lib.tabData .i64 [0, 2, 3, 0])])
    (h : laidMet Tryz.prog l W) : UsT W := by
  have h1 := h.filter fun x => x.1 == "eden/counter.used"
  rw [he] at h1
  have h2 := Lib.tabIs_of_head usedAt (show (Tryz.prog.globals[1]?).map (·.type) = some 47 by kernel_rfl) Tryz.underlying47 Tryz.underlying3 (by kernel_rfl) (by kernel_rfl) h1
  intro j hj
  exact h2.cell usedAt j hj
theorem primes_of_laid {W : World} {l : List (String × DataW Unit)} (he : (l.filter fun x => x.1 == "eden/counter.primes") = [("eden/counter.primes", Lib.tabData .i64 (primT.map fun (x : Nat) => (x : Int)))])
    (h : laidMet Tryz.prog l W) : PrT W := by
  have h1 := h.filter fun x => x.1 == "eden/counter.primes"
  rw [he] at h1
  have h2 := Lib.tabIs_of_head primesAt (show (Tryz.prog.globals[2]?).map (·.type) = some 66 by kernel_rfl) Tryz.underlying66 Tryz.underlying3 (by kernel_rfl) (by kernel_rfl) h1
  intro j hj
  have hl : primT.length = 28 := by decide
  have h3 := h2.cell primesAt j (by rw [List.length_map, hl]; exact hj)
  rw [h3]
  have hj' : j < primT.length := by rw [hl]; exact hj
  unfold prN
  simp [List.getD, hj']
set_option maxRecDepth 100000 in
/-- A line as it is read. -/
theorem ins_read {H : Type} {enc : TypeId × Value → H} {W : World} {fuel : Nat} {cs : List Value} {x : DataW H × List MemPlace}
    (h : DataW.trod enc Tryz.prog W 0 (fun _ => true) true fuel 25 cs = some x) (hc : cs.length = 4) : ∃ p : InsT, cs = [.int .i64 p.1, .int .i64 p.2.1, .int .i64 p.2.2.1, .int .i64 p.2.2.2] := by
  obtain ⟨xs, m, _, hx, hl, hlen, hf⟩ := DataW.trod_struct Tryz.underlying25 h
  have f0 := hf 0 _ rfl
  have f1 := hf 1 _ rfl
  have f2 := hf 2 _ rfl
  have f3 := hf 3 _ rfl
  clear hf hx h hl
  have q3 : Tryz.prog.cellsOf 3 = 1 := by kernel_rfl
  match cs, hc with
  | [c0, c1, c2, c3], _ =>
  match xs, hlen with
  | [y0, y1, y2, y3], _ =>
  simp [q3] at f0 f1 f2 f3
  obtain ⟨k0, e0, -, -⟩ := DataW.trod_int Tryz.underlying3 f0
  obtain ⟨k1, e1, -, -⟩ := DataW.trod_int Tryz.underlying3 f1
  obtain ⟨k2, e2, -, -⟩ := DataW.trod_int Tryz.underlying3 f2
  obtain ⟨k3, e3, -, -⟩ := DataW.trod_int Tryz.underlying3 f3
  simp only [List.cons.injEq, and_true] at e0 e1 e2 e3
  subst e0 e1 e2 e3
  exact ⟨(k0, k1, k2, k3), rfl⟩
theorem cells_four {w : World} {a : Addr} {cs : List Value} (h : w.cells? 0 a 4 = some cs) : ∃ c0 c1 c2 c3, cs = [c0, c1, c2, c3] ∧ w.cell? (a.add 0) = some c0 ∧ w.cell? (a.add 1) = some c1 ∧ w.cell? (a.add 2) = some c2 ∧ w.cell? (a.add 3) = some c3 := by
  unfold World.cells? at h
  rw [if_pos (Nat.zero_le _)] at h
  simp only [List.range, List.range.loop, List.mapM_cons, List.mapM_nil] at h
  cases h0 : w.cell? (a.add 0) with
  | none => simp [h0] at h
  | some c0 =>
  cases h1 : w.cell? (a.add 1) with
  | none => simp [h0, h1] at h
  | some c1 =>
  cases h2 : w.cell? (a.add 2) with
  | none => simp [h0, h1, h2] at h
  | some c2 =>
  cases h3 : w.cell? (a.add 3) with
  | none => simp [h0, h1, h2, h3] at h
  | some c3 =>
    simp [h0, h1, h2, h3] at h
    exact ⟨c0, c1, c2, c3, h.symm, rfl, rfl, rfl, rfl⟩
set_option maxRecDepth 100000 in
/-- Lines that came in. -/
theorem open_ins {H : Type} {enc : TypeId × Value → H} {W : World} {base : Nat} {v : Value} {d : DataW H} {p : List MemPlace}
    (hv : Value.okWide Tryz.prog W .any base 22 v) (h : DataW.Trod enc Tryz.prog W 0 (fun _ => true) true 22 v d p) :
    ∃ (xs : List InsT) (a : Option Addr) (c : Nat), v = .slice a xs.length c ∧ ArgI W xs a xs.length c := by
  obtain ⟨a0, n0, c0, rfl⟩ := okWide_slice Tryz.underlying22 hv
  obtain ⟨fuel, h⟩ := h
  have q3 : Tryz.prog.cellsOf 25 = 4 := by kernel_rfl
  rcases DataW.trod_slice Tryz.underlying22 h with ⟨e, -⟩ | ⟨a, len, cap, elems, rest, n, -, e, -, hb, hlc, hcm, hel, hc, -⟩
  · simp [Value.cells] at e
    obtain ⟨rfl, rfl, rfl⟩ := e
    exact ⟨[], none, 0, rfl, ⟨rfl, by simp, fun k hk => absurd hk (by simp)⟩⟩
  · simp [Value.cells] at e
    obtain ⟨rfl, rfl, rfl⟩ := e
    rw [q3] at hc
    have key : ∀ i, ∃ q : InsT, i < n0 → W.cell? ((a.add (i * 4)).add 0) = some (.int .i64 q.1) ∧ W.cell? ((a.add (i * 4)).add 1) = some (.int .i64 q.2.1) ∧ W.cell? ((a.add (i * 4)).add 2) = some (.int .i64 q.2.2.1) ∧ W.cell? ((a.add (i * 4)).add 3) = some (.int .i64 q.2.2.2) := fun i => by
      by_cases hi : i < n0
      · have h1 := hc i hi
        have h2 : elems[i]? = some (elems[i]'(by omega)) := List.getElem?_eq_getElem _
        rw [h2] at h1
        cases h3 : W.cells? 0 (a.add (i * 4)) 4 with
        | none => rw [h3] at h1; cases h1
        | some cs =>
          rw [h3] at h1
          obtain ⟨c0', c1', c2', c3', rfl, k0, k1, k2, k3⟩ := cells_four h3
          obtain ⟨q, hq⟩ := ins_read h1 rfl
          simp only [List.cons.injEq, and_true] at hq
          obtain ⟨rfl, rfl, rfl, rfl⟩ := hq
          exact ⟨q, fun _ => ⟨k0, k1, k2, k3⟩⟩
      · exact ⟨(0, 0, 0, 0), fun h => absurd h hi⟩
    obtain ⟨f, hf⟩ := Classical.axiomOfChoice key
    refine ⟨(List.range n0).map f, some a, c0, by simp, ⟨by simp, by simp only [List.length_map, List.length_range]; have : maxLen = 9223372036854775807 := rfl; omega, fun k hk => ?_⟩⟩
    have hk' : k < n0 := by simpa using hk
    obtain ⟨g, off, sp⟩ := a
    have e0 := sp_noneF (hf 0 (by omega)).1
    subst e0
    obtain ⟨k0, k1, k2, k3⟩ := hf k hk'
    rw [add_atF, add_atF] at k0 k1 k2 k3
    simp only [List.getElem_map, List.getElem_range]
    refine ⟨g, off, rfl, ?_, by simpa using k0, k1, k2, k3⟩
    rcases Nat.lt_or_ge g W.heap.size with q | q
    · exact q
    · simp [World.cell?, Array.getElem?_eq_none q] at k0
end Go.Proofs.YtcfoeadfhkojeaaGreatDoor

