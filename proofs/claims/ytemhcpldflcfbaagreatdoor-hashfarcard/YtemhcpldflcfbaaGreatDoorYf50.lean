/-
  What the last text of this claim leans on, part 50: OpenP, OpenQ, OpenZg.
-/
import Derived.Test.YtemhcpldflcfbaaGreatDoorYf9
import Derived.Test.YtemhcpldflcfbaaGreatDoorRows
import Derived.Test.YtemhcpldflcfbaaGreatDoorCards
import Derived.Test.YtemhcpldflcfbaaGreatDoorTie
import Derived.Test.YtemhcpldflcfbaaGreatDoorYf46
import Derived.Test.YtemhcpldflcfbaaGreatDoorYf1
import Derived.Test.YtemhcpldflcfbaaGreatDoorYf5
import Derived.ProofKit
import Derived.OpenShut
import Derived.ChangeSame
import Derived.ChangeSlices
import Derived.ChangeVars
import Derived.JoinedOf
import Derived.RowKit
import Derived.RowKitTokens
import Derived.LaidLaws
import Derived.LaidHandle
import Derived.LaidSub
import Derived.Lay
import Derived.Carry
import Derived.Stop.Joined
import Derived.SevenTiedAt
import Derived.Lib.LaidTab
namespace Go.Proofs.YtemhcpldflcfbaaGreatDoor
open Go.ChangeShapes Go.WideShapes Go.ChangeAt Go.RowKit
open Go.ChangeMaps (setBlock shut_map_nil open_string shut_string keptBut_setBlock frozen?_setBlock heap_setBlock_same)
set_option linter.unusedVariables false
theorem laidOutP : laidOutB Tryz.prog = true := by kernel_rfl
theorem ownP : ownKnob Tryz.prog.godebug = none := by kernel_rfl
theorem ints_arg {H : Type} {enc : TypeId × Value → H} {W : World} {fuel : Nat} {cs : List Value} {x : DataW H × List MemPlace}
  (h : DataW.trod enc Tryz.prog W 0 (fun _ => true) true fuel 22 cs = some x) :
  ∃ (xs : List Int) (a : Option Addr) (c : Nat), cs = [.slice a xs.length c] ∧ ArgP W xs a xs.length c ∧ xs.length ≤ c ∧ c ≤ maxLen := by
 have q3 : Tryz.prog.cellsOf 3 = 1 := by kernel_rfl
 rcases open_ints Tryz.underlying22 Tryz.underlying3 q3 h with ⟨rfl, -⟩ | ⟨a, len, cap, zs, rfl, hb, hlc, hcm, hzl, -, hcell, hwf⟩
 ·exact ⟨[], none, 0, rfl, ⟨rfl, by simp, fun k hk => absurd hk (by simp)⟩, by simp, by simp⟩
 ·simp only [if_true] at hzl
  have hl : (zs.take len).length = len := by simp; omega
  refine ⟨zs.take len, some a, cap, by rw [hl], ⟨rfl, by omega, fun k hk => ?_⟩, by omega, hcm⟩
  have hk' : k < len ∧ k < zs.length := by simp only [List.length_take] at hk; omega
  have hc0 := hcell 0 (by omega)
  have hck := hcell k hk'.2
  obtain ⟨g, off, sp⟩ := a
  have hsp : sp = none := by
   cases sp with
   | none => rfl
   | some q =>
    exfalso
    simp [Addr.add, World.cell?] at hc0
    split at hc0 <;> simp at hc0
  subst hsp
  have ea : (⟨g, off, none⟩ : Addr).add k = ⟨g, off + k, none⟩ := by
   unfold Addr.add
   split
   ·rename_i hz; subst hz; rfl
   ·rfl
  rw [ea] at hck
  refine ⟨g, off, rfl, ?_, ?_⟩
  ·rcases Nat.lt_or_ge g W.heap.size with q | q
   ·exact q
   ·simp [World.cell?, Array.getElem?_eq_none q] at hck
  ·rw [hck]
   simp [List.getD, hk'.2]
set_option maxRecDepth 100000 in
theorem open_pattern {H : Type} {enc : TypeId × Value → H} {W : World} {base : Nat} {v : Value} {d : DataW H} {p : List MemPlace}
  (hv : Value.okWide Tryz.prog W .any base 26 v) (h : DataW.Trod enc Tryz.prog W 0 (fun _ => true) true 26 v d p) :
  ∃ (w h : Int) (xs : List Int) (a : Option Addr) (c : Nat), v = .agg #[.int .i64 w, .int .i64 h, .slice a xs.length c] ∧ ArgP W xs a xs.length c ∧ xs.length ≤ c ∧ c ≤ maxLen := by
 obtain ⟨cs, rfl, hsz⟩ := okWide_struct Tryz.underlying26 hv
 obtain ⟨fuel, h⟩ := h
 obtain ⟨xs, m, _, hx, hl, hlen, hf⟩ := DataW.trod_struct Tryz.underlying26 h
 have f0 := hf 0 _ rfl
 have f1 := hf 1 _ rfl
 have f2 := hf 2 _ rfl
 clear hf hx h hv hl
 have q3 : Tryz.prog.cellsOf 3 = 1 := by kernel_rfl
 have k22 : Tryz.prog.cellsOf 22 = 1 := by kernel_rfl
 rw [show Tryz.prog.cellsOf 26 = 3 by kernel_rfl] at hsz
 obtain ⟨cl⟩ := cs
 match cl, hsz with
 | [c0, c1, c2], _ =>
 match xs, hlen with
 | [y0, y1, y2], _ =>
 simp [Value.cells, q3, k22] at f0 f1 f2
 obtain ⟨k0, e0, -, w0⟩ := DataW.trod_int Tryz.underlying3 f0
 obtain ⟨k1, e1, -, w1⟩ := DataW.trod_int Tryz.underlying3 f1
 obtain ⟨zs, a, c, e2, ha, h1, h2⟩ := ints_arg f2
 simp only [List.cons.injEq, and_true] at e0 e1 e2
 subst e0 e1 e2
 exact ⟨k0, k1, zs, a, c, rfl, ha, h1, h2⟩
set_option maxRecDepth 100000 in
theorem open_ruleQ {H : Type} {enc : TypeId × Value → H} {W : World} {base : Nat} {v : Value} {d : DataW H} {p : List MemPlace}
  (hv : Value.okWide Tryz.prog W .any base 24 v) (h : DataW.Trod enc Tryz.prog W 0 (fun _ => true) true 24 v d p) :
  ∃ (o : Out) (a : Option Addr) (c : Nat), v = .agg #[.int .i64 o.kind, .int .i64 o.born, .int .i64 o.stay, .int .i64 o.states, .int .i64 o.radius, .slice a o.table.length c, .string o.turns] ∧ ArgR W o a o.table.length c ∧ o.table.length ≤ c ∧ c ≤ maxLen := by
 obtain ⟨cs, rfl, hsz⟩ := okWide_struct Tryz.underlying24 hv
 obtain ⟨fuel, h⟩ := h
 obtain ⟨xs, m, _, hx, hl, hlen, hf⟩ := DataW.trod_struct Tryz.underlying24 h
 have f0 := hf 0 _ rfl
 have f1 := hf 1 _ rfl
 have f2 := hf 2 _ rfl
 have f3 := hf 3 _ rfl
 have f4 := hf 4 _ rfl
 have f5 := hf 5 _ rfl
 have f6 := hf 6 _ rfl
 clear hf hx h hv hl
 have q3 : Tryz.prog.cellsOf 3 = 1 := by kernel_rfl
 have k22 : Tryz.prog.cellsOf 22 = 1 := by kernel_rfl
 have k9 : Tryz.prog.cellsOf 9 = 1 := by kernel_rfl
 rw [show Tryz.prog.cellsOf 24 = 7 by kernel_rfl] at hsz
 obtain ⟨cl⟩ := cs
 match cl, hsz with
 | [c0, c1, c2, c3, c4, c5, c6], _ =>
 match xs, hlen with
 | [y0, y1, y2, y3, y4, y5, y6], _ =>
 simp [Value.cells, q3, k22, k9] at f0 f1 f2 f3 f4 f5 f6
 obtain ⟨k0, e0, -, w0⟩ := DataW.trod_int Tryz.underlying3 f0
 obtain ⟨k1, e1, -, w1⟩ := DataW.trod_int Tryz.underlying3 f1
 obtain ⟨k2, e2, -, w2⟩ := DataW.trod_int Tryz.underlying3 f2
 obtain ⟨k3, e3, -, w3⟩ := DataW.trod_int Tryz.underlying3 f3
 obtain ⟨k4, e4, -, w4⟩ := DataW.trod_int Tryz.underlying3 f4
 obtain ⟨t, e6, -, ht⟩ := DataW.trod_string Tryz.underlying9 f6
 have hr : k4 ≤ 9223372036854775807 := by
  simp only [Lit.wf, Bool.and_eq_true, decide_eq_true_eq] at w4
  have := w4.2
  exact Int.le_trans this (by decide)
 obtain ⟨zs, a, c, e5, ha, h1, h2⟩ := ints_arg f5
 simp only [List.cons.injEq, and_true] at e0 e1 e2 e3 e4 e5 e6
 subst e0 e1 e2 e3 e4 e5 e6
 exact ⟨⟨k0, k1, k2, k3, k4, zs, t⟩, a, c, rfl, ⟨rfl, ha.max, ht, ha.cells, hr⟩, h1, h2⟩
theorem tzAt : Tryz.prog.globalNamed "math/bits.deBruijn64tab" = some 1 := by kernel_rfl
theorem tz_of_laid {W : World} {l : List (String × DataW Unit)} (he : (l.filter fun x => x.1 == "math/bits.deBruijn64tab") = [("math/bits.deBruijn64tab", Lib.tabData .u8 (Lib.deBruijn64tab.map fun (x : Nat) => (x : Int)))])
  (h : laidMet Tryz.prog l W) : TzTab W := by
 have h1 := h.filter fun x => x.1 == "math/bits.deBruijn64tab"
 rw [he] at h1
 have h2 := Lib.tabIs_of_head tzAt (show (Tryz.prog.globals[1]?).map (·.type) = some 191 by kernel_rfl) Tryz.underlying191 Tryz.underlying5 (by kernel_rfl) (by kernel_rfl) h1
 intro j hj
 have hl : Lib.deBruijn64tab.length = 64 := by decide
 have h3 := h2.cell tzAt j (by rw [List.length_map, hl]; exact hj)
 rw [h3]
 have hj' : j < Lib.deBruijn64tab.length := by rw [hl]; exact hj
 simp [List.getD, hj']
end Go.Proofs.YtemhcpldflcfbaaGreatDoor
