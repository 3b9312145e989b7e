/-
  What the last text of this claim leans on, part 50: OpenR.
-/
import Derived.Test.YtljdidimoagnhaaDoorJk21
import Derived.ProofKit
import Derived.OpenShut
import Derived.ChangeSame
import Derived.ChangeSlices
import Derived.LaidSub
import Derived.Carry
namespace Go.Proofs.YtljdidimoagnhaaDoor
open Go.ChangeShapes Go.WideShapes Go.ChangeAt Go.RowKit
set_option linter.unusedVariables false

theorem laidOut : laidOutB Tryd.prog = true := by kernel_rfl

set_option maxRecDepth 100000 in
/-- A rule that came in. -/
theorem open_rule {H : Type} {enc : TypeId × Value → H} {W : World} {base : Nat} {v : Value} {d : DataW H} {p : List MemPlace}
    (hv : Value.okWide Tryd.prog W .any base 24 v) (h : DataW.Trod enc Tryd.prog W 0 (fun _ => true) true 24 v d p) :
    ∃ (o : Out) (a : Option Addr) (n c : Nat), v = .agg #[.int .i64 o.kind, .int .i64 o.born, .int .i64 o.stay, .int .i64 o.states, .int .i64 o.radius, .slice a n c, .string o.turns] ∧ ArgR W o a n c := by
  obtain ⟨cs, rfl, hsz⟩ := okWide_struct Tryd.underlying24 hv
  obtain ⟨fuel, h⟩ := h
  obtain ⟨xs, m, _, hx, hl, hlen, hf⟩ := DataW.trod_struct Tryd.underlying24 h
  have f0 := hf 0 _ rfl
  have f1 := hf 1 _ rfl
  have f2 := hf 2 _ rfl
  have f3 := hf 3 _ rfl
  have f4 := hf 4 _ rfl
  have f5 := hf 5 _ rfl
  have f6 := hf 6 _ rfl
  clear hf hx h hv hl
  have q3 : Tryd.prog.cellsOf 3 = 1 := by kernel_rfl
  have k22 : Tryd.prog.cellsOf 22 = 1 := by kernel_rfl
  have k9 : Tryd.prog.cellsOf 9 = 1 := by kernel_rfl
  rw [show Tryd.prog.cellsOf 24 = 7 by kernel_rfl] at hsz
  obtain ⟨cl⟩ := cs
  match cl, hsz with
  | [c0, c1, c2, c3, c4, c5, c6], _ =>
  match xs, hlen with
  | [y0, y1, y2, y3, y4, y5, y6], _ =>
  simp [Value.cells, q3, k22, k9] at f0 f1 f2 f3 f4 f5 f6
  obtain ⟨k0, e0, -, w0⟩ := DataW.trod_int Tryd.underlying3 f0
  obtain ⟨k1, e1, -, w1⟩ := DataW.trod_int Tryd.underlying3 f1
  obtain ⟨k2, e2, -, w2⟩ := DataW.trod_int Tryd.underlying3 f2
  obtain ⟨k3, e3, -, w3⟩ := DataW.trod_int Tryd.underlying3 f3
  obtain ⟨k4, e4, -, w4⟩ := DataW.trod_int Tryd.underlying3 f4
  obtain ⟨t, e6, -, ht⟩ := DataW.trod_string Tryd.underlying9 f6
  have hr : k4 ≤ 9223372036854775807 := by
    simp only [Lit.wf, Bool.and_eq_true, decide_eq_true_eq] at w4
    have := w4.2
    exact Int.le_trans this (by decide)
  have h5 := open_ints Tryd.underlying22 Tryd.underlying3 q3 f5
  clear f0 f1 f2 f3 f4 f5 f6
  simp only [List.cons.injEq, and_true] at e0 e1 e2 e3 e4 e6
  subst e0 e1 e2 e3 e4 e6
  rcases h5 with ⟨e5, -⟩ | ⟨a, len, cap, zs, e5, hb, hlc, hcm, hzl, -, hcell, hwf⟩
  · simp only [List.cons.injEq, and_true] at e5
    subst e5
    exact ⟨⟨k0, k1, k2, k3, k4, [], t⟩, none, 0, 0, rfl, rfl, by simp, ht, fun k hk => absurd hk (by simp), hr⟩
  · simp only [List.cons.injEq, and_true] at e5
    subst e5
    simp only [if_true] at hzl
    refine ⟨⟨k0, k1, k2, k3, k4, zs.take len, t⟩, some a, len, cap, rfl, by simp; omega, by omega, ht, fun k hk => ?_, hr⟩
    have hk' : k < len ∧ k < zs.length := by simp only [List.length_take] at hk; omega
    have hc0 := hcell 0 (by omega)
    have hck := hcell k hk'.2
    obtain ⟨g, off, sp⟩ := a
    have hsp : sp = none := by
      cases sp with
      | none => rfl
      | some q =>
        exfalso
        simp [Addr.add, World.cell?] at hc0
        split at hc0 <;> simp at hc0
    subst hsp
    have ea : (⟨g, off, none⟩ : Addr).add k = ⟨g, off + k, none⟩ := by
      unfold Addr.add
      split
      · rename_i hz; subst hz; rfl
      · rfl
    rw [ea] at hck
    refine ⟨g, off, rfl, ?_, ?_⟩
    · rcases Nat.lt_or_ge g W.heap.size with q | q
      · exact q
      · simp [World.cell?, Array.getElem?_eq_none q] at hck
    · rw [hck]
      simp [List.getD, hk'.2]

theorem powT_of_laid {W : World} {l : List (String × DataW Unit)} (he : (l.filter fun x => x.1 == "internal/strconv.uint64pow10") = [("internal/strconv.uint64pow10", Lib.tabData .u64 Lib.pow10Tab)])
    (h : laidMet Tryd.prog l W) : PowT W := by
  have h1 := h.filter fun x => x.1 == "internal/strconv.uint64pow10"
  rw [he] at h1
  exact Lib.tabIs_of_head powAt (show (Tryd.prog.globals[1]?).map (·.type) = some 253 by kernel_rfl) Tryd.underlying253 Tryd.underlying245 (by kernel_rfl) (by kernel_rfl) h1

end Go.Proofs.YtljdidimoagnhaaDoor

