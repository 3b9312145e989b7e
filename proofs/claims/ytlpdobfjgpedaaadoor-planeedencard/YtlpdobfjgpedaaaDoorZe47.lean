/-
  What the last text of this claim leans on, part 47: OpenQ, Pq5, Pq6, Pq7.
-/
import Derived.Test.YtlpdobfjgpedaaaDoorZe3
import Derived.Test.YtlpdobfjgpedaaaDoorZe46
import Derived.Test.YtlpdobfjgpedaaaDoorZe40
import Derived.Test.YtlpdobfjgpedaaaDoorZe42
import Derived.Test.YtlpdobfjgpedaaaDoorZe28
namespace Go.Proofs.YtlpdobfjgpedaaaDoor
open Go.ChangeShapes Go.WideShapes Go.ChangeAt Go.RowKit
set_option linter.unusedVariables false

set_option maxRecDepth 100000 in
theorem open_ruleQ {H : Type} {enc : TypeId × Value → H} {W : World} {base : Nat} {v : Value} {d : DataW H} {p : List MemPlace}
    (hv : Value.okWide Tryd.prog W .any base 24 v) (h : DataW.Trod enc Tryd.prog W 0 (fun _ => true) true 24 v d p) :
    ∃ (o : Out) (a : Option Addr) (c : Nat), v = .agg #[.int .i64 o.kind, .int .i64 o.born, .int .i64 o.stay, .int .i64 o.states, .int .i64 o.radius, .slice a o.table.length c, .string o.turns] ∧ ArgR W o a o.table.length c ∧ o.table.length ≤ c ∧ c ≤ maxLen := by
  obtain ⟨cs, rfl, hsz⟩ := okWide_struct Tryd.underlying24 hv
  obtain ⟨fuel, h⟩ := h
  obtain ⟨xs, m, _, hx, hl, hlen, hf⟩ := DataW.trod_struct Tryd.underlying24 h
  have f0 := hf 0 _ rfl
  have f1 := hf 1 _ rfl
  have f2 := hf 2 _ rfl
  have f3 := hf 3 _ rfl
  have f4 := hf 4 _ rfl
  have f5 := hf 5 _ rfl
  have f6 := hf 6 _ rfl
  clear hf hx h hv hl
  have q3 : Tryd.prog.cellsOf 3 = 1 := by kernel_rfl
  have k22 : Tryd.prog.cellsOf 22 = 1 := by kernel_rfl
  have k9 : Tryd.prog.cellsOf 9 = 1 := by kernel_rfl
  rw [show Tryd.prog.cellsOf 24 = 7 by kernel_rfl] at hsz
  obtain ⟨cl⟩ := cs
  match cl, hsz with
  | [c0, c1, c2, c3, c4, c5, c6], _ =>
  match xs, hlen with
  | [y0, y1, y2, y3, y4, y5, y6], _ =>
  simp [Value.cells, q3, k22, k9] at f0 f1 f2 f3 f4 f5 f6
  obtain ⟨k0, e0, -, w0⟩ := DataW.trod_int Tryd.underlying3 f0
  obtain ⟨k1, e1, -, w1⟩ := DataW.trod_int Tryd.underlying3 f1
  obtain ⟨k2, e2, -, w2⟩ := DataW.trod_int Tryd.underlying3 f2
  obtain ⟨k3, e3, -, w3⟩ := DataW.trod_int Tryd.underlying3 f3
  obtain ⟨k4, e4, -, w4⟩ := DataW.trod_int Tryd.underlying3 f4
  obtain ⟨t, e6, -, ht⟩ := DataW.trod_string Tryd.underlying9 f6
  have hr : k4 ≤ 9223372036854775807 := by
    simp only [Lit.wf, Bool.and_eq_true, decide_eq_true_eq] at w4
    have := w4.2
    exact Int.le_trans this (by decide)
  obtain ⟨zs, a, c, e5, ha, h1, h2⟩ := ints_arg f5
  simp only [List.cons.injEq, and_true] at e0 e1 e2 e3 e4 e5 e6
  subst e0 e1 e2 e3 e4 e5 e6
  exact ⟨⟨k0, k1, k2, k3, k4, zs, t⟩, a, c, rfl, ⟨rfl, ha.max, ht, ha.cells, hr⟩, h1, h2⟩
theorem int_max {k : Int} (h : (Lit.int .i64 k).wf = true) : k ≤ 9223372036854775807 := by
  simp only [Lit.wf, Bool.and_eq_true, decide_eq_true_eq] at h
  have := h.2
  exact Int.le_trans this (by decide)
end Go.Proofs.YtlpdobfjgpedaaaDoor

namespace Go.Proofs.YtlpdobfjgpedaaaDoor
open Go.RowKit
set_option linter.unusedVariables false
theorem place_in {W H x y : Nat} (hx : x < W) (hy : y < H) : (y + 2) * (W + 2) + (x + 2) < topC W H ∧ ((y + 2) * (W + 2) + (x + 2)) % (W + 2) = x + 2 ∧ ((y + 2) * (W + 2) + (x + 2)) / (W + 2) = y + 2 := by
  refine ⟨?_, ?_, ?_⟩
  · unfold topC
    have := Nat.mul_le_mul_right (W + 2) (show y + 2 + 1 ≤ H + 2 by omega)
    rw [Nat.add_mul, Nat.one_mul] at this
    omega
  · rw [Nat.mul_comm, Nat.mul_add_mod, Nat.mod_eq_of_lt (by omega)]
  · rw [Nat.mul_comm, Nat.mul_add_div (by omega), Nat.div_eq_of_lt (by omega)]
theorem gL_bits {W : Nat} {rs : List Nat} {N i : Nat} (hi : i < N) : gL (bitsL W rs N) i = gR W rs i := by
  unfold gL bitsL
  rw [List.getD_eq_getElem?_getD]
  simp [hi]
/-- The first parent makes what it is a parent of. -/
theorem best_made {born stay W H : Nat} {xs : List Int} {g : Nat → Nat} {rs : List Nat} (h : BestB (topC W H) (okC born stay W xs) g 0 (gR (W + 2) rs)) : MadeP born stay W H xs (W + 2) (H + 2) (bitsL (W + 2) rs (topC W H)) := by
  refine ⟨rfl, rfl, fun x y hx hy => ?_⟩
  obtain ⟨p1, p2, p3⟩ := place_in hx hy
  have ok := (h.1.2 _ (Nat.zero_le _) p1).2
  unfold okC okP at ok
  rw [p2, p3] at ok
  have o2 := ok (by omega) (by omega)
  rw [show x + 2 - 2 = x by omega, show y + 2 - 2 = y by omega, show W + 2 - 2 = W by omega] at o2
  refine Eq.trans ?_ o2
  congr 1
  refine mid_ext (fun j j1 j2 => ?_)
  have : (y + 2) * (W + 2) = y * (W + 2) + 2 * (W + 2) := Nat.add_mul _ _ _
  exact gL_bits (by omega)
/-- What makes it is what goes on from nothing. -/
theorem made_ext {born stay W H : Nat} {xs ys : List Int} (hy : ∀ k, 0 ≤ ys.getD k 0 ∧ ys.getD k 0 ≤ 1) {W' H' : Nat} (h : MadeP born stay W H xs W' H' ys) (g : Nat → Nat) : ExtB (topC W H) (okC born stay W xs) g 0 (gL ys) := by
  refine ⟨fun i hi => by omega, fun i _ hi => ⟨by have := hy i; unfold gL; omega, ?_⟩⟩
  intro a b
  have w0 : 0 < W + 2 := by omega
  have hx : i % (W + 2) < W + 2 := Nat.mod_lt _ w0
  have hh : i / (W + 2) < H + 2 := (Nat.div_lt_iff_lt_mul w0).2 hi
  have := h.2.2 (i % (W + 2) - 2) (i / (W + 2) - 2) (by omega) (by omega)
  rw [show W + 2 - 2 = W by omega]
  exact this
/-- The middle of what stands on rings a step later. -/
def ringM (born stay W H : Nat) (ys : List Int) : List Int := (List.range ((W - 2) * (H - 2))).map fun i => torV born stay W H ys ((i / (W - 2) + 1) * W + (i % (W - 2) + 1))
theorem tor_in {W H x y i j : Nat} (hx : x + 2 < W) (hy : y + 2 < H) (hi : i ≤ 2) (hj : j ≤ 2) (ys : List Int) : torC W H ys (x + 1) (y + 1) i j = ys.getD ((y + i) * W + (x + j)) 0 := by
  unfold torC
  rw [show y + 1 + (H - 1 + i) = (y + i) + H by omega, show x + 1 + (W - 1 + j) = (x + j) + W by omega, Nat.add_mod_right, Nat.add_mod_right, Nat.mod_eq_of_lt (show y + i < H by omega), Nat.mod_eq_of_lt (show x + j < W by omega)]
theorem tor_mid {W H x y : Nat} {ys : List Int} (hb : ∀ k, 0 ≤ ys.getD k 0 ∧ ys.getD k 0 ≤ 1) (hx : x + 2 < W) (hy : y + 2 < H) : (torS W H ys (x + 1) (y + 1) 9).toNat = midS (gL ys) W x y 9 := by
  have c : ∀ k, ys.getD k 0 = (gL ys k : Int) := fun k => by have := hb k; unfold gL; omega
  have t : ∀ i j, i ≤ 2 → j ≤ 2 → torC W H ys (x + 1) (y + 1) i j = (gL ys ((y + i) * W + (x + j)) : Int) := fun i j hi hj => by rw [tor_in hx hy hi hj, c]
  have e : midS (gL ys) W x y 9 = 0 + gL ys ((y + 0) * W + (x + 0)) + gL ys ((y + 0) * W + (x + 1)) + gL ys ((y + 0) * W + (x + 2)) + gL ys ((y + 1) * W + (x + 0)) + 0 + gL ys ((y + 1) * W + (x + 2)) + gL ys ((y + 2) * W + (x + 0)) + gL ys ((y + 2) * W + (x + 1)) + gL ys ((y + 2) * W + (x + 2)) := rfl
  have s : torS W H ys (x + 1) (y + 1) 9 = (0 + torC W H ys (x + 1) (y + 1) 0 0 + torC W H ys (x + 1) (y + 1) 0 1 + torC W H ys (x + 1) (y + 1) 0 2 + torC W H ys (x + 1) (y + 1) 1 0 + torC W H ys (x + 1) (y + 1) 1 1 + torC W H ys (x + 1) (y + 1) 1 2 + torC W H ys (x + 1) (y + 1) 2 0 + torC W H ys (x + 1) (y + 1) 2 1 + torC W H ys (x + 1) (y + 1) 2 2) - ys.getD ((y + 1) * W + (x + 1)) 0 := rfl
  rw [s, e, t 0 0 (by omega) (by omega), t 0 1 (by omega) (by omega), t 0 2 (by omega) (by omega), t 1 0 (by omega) (by omega), t 1 1 (by omega) (by omega), t 1 2 (by omega) (by omega), t 2 0 (by omega) (by omega), t 2 1 (by omega) (by omega), t 2 2 (by omega) (by omega), c ((y + 1) * W + (x + 1))]
  omega
/-- What rings make in the midst, the pattern makes. -/
theorem ring_made {born stay W H : Nat} {ys : List Int} (hb : ∀ k, 0 ≤ ys.getD k 0 ∧ ys.getD k 0 ≤ 1) (hW : 2 ≤ W) (hH : 2 ≤ H) : MadeP born stay (W - 2) (H - 2) (ringM born stay W H ys) W H ys := by
  refine ⟨by omega, by omega, fun x y hx hy => ?_⟩
  have w0 : 0 < W - 2 := by omega
  have hl : y * (W - 2) + x < (W - 2) * (H - 2) := by
    have := Nat.mul_le_mul_right (W - 2) (show y + 1 ≤ H - 2 by omega)
    rw [Nat.add_mul, Nat.one_mul, Nat.mul_comm (H - 2)] at this
    omega
  have d1 : (y * (W - 2) + x) / (W - 2) = y := by rw [Nat.mul_comm, Nat.mul_add_div w0, Nat.div_eq_of_lt hx, Nat.add_zero]
  have d2 : (y * (W - 2) + x) % (W - 2) = x := by rw [Nat.mul_comm, Nat.mul_add_mod, Nat.mod_eq_of_lt hx]
  have e1 : (ringM born stay W H ys).getD (y * (W - 2) + x) 0 = torV born stay W H ys ((y + 1) * W + (x + 1)) := by
    unfold ringM
    rw [List.getD_eq_getElem?_getD]
    simp [hl, d1, d2]
  have c : ys.getD ((y + 1) * W + (x + 1)) 0 = (gL ys ((y + 1) * W + (x + 1)) : Int) := by have := hb ((y + 1) * W + (x + 1)); unfold gL; omega
  rw [e1, show W - 2 + 2 = W by omega]
  unfold torV midP
  have m1 : ((y + 1) * W + (x + 1)) % W = x + 1 := by rw [Nat.mul_comm, Nat.mul_add_mod, Nat.mod_eq_of_lt (by omega)]
  have m2 : ((y + 1) * W + (x + 1)) / W = y + 1 := by rw [Nat.mul_comm, Nat.mul_add_div (by omega), Nat.div_eq_of_lt (by omega), Nat.add_zero]
  rw [m1, m2, tor_mid hb (by omega) (by omega), c]
end Go.Proofs.YtlpdobfjgpedaaaDoor

namespace Go.Proofs.YtlpdobfjgpedaaaDoor
open Go.RowKit
set_option linter.unusedVariables false
def PatAs (W H : Int) (V : World) (e : Ending) (w' : World) : Prop := ∃ a n c, e = .returned (.tuple #[.agg #[.int .i64 W, .int .i64 H, .slice a n c], .nilIface]) ∧ Below V.heap.size V w'
def TorIn (W H : Nat) (bs : List Int) (V : World) (e : Ending) (w' : World) : Prop := ∃ q, e = .returned (.tuple #[.agg #[.int .i64 (W : Int), .int .i64 (H : Int), .slice (some ⟨q, 0, none⟩) (W * H) (W * H)], .nilIface]) ∧ ArgP w' bs (some ⟨q, 0, none⟩) (W * H) (W * H) ∧ Below V.heap.size V w'
def PaGood (R : Int → Int → List Int → Prop) (V : World) (e : Ending) (w' : World) : Prop := ∃ W H ys a n c, e = .returned (.tuple #[.agg #[.int .i64 W, .int .i64 H, .slice a n c], .nilIface]) ∧ ArgP w' ys a n c ∧ R W H ys ∧ Below V.heap.size V w'
def BoolIs (b : Bool) (V : World) (e : Ending) (w' : World) : Prop := e = .returned (.bool b) ∧ Below V.heap.size V w'
theorem plaE_any (o : Out) (W H : Int) (xs : List Int) : ∃ f, plaE o W H xs f ∧ f ≠ 5 := by
  by_cases g : Good o
  · by_cases s : shapeF W H xs = 0
    · by_cases k : o.kind = 1
      · exact ⟨0, Or.inr (Or.inr (Or.inr ⟨g, s, k, rfl⟩)), by omega⟩
      · exact ⟨1, Or.inr (Or.inr (Or.inl ⟨g, s, k, rfl⟩)), by omega⟩
    · exact ⟨_, Or.inr (Or.inl ⟨g, s, rfl⟩), by unfold shapeF; split <;> (try split) <;> (try split) <;> omega⟩
  · exact ⟨1, Or.inl ⟨g, rfl⟩, by omega⟩
theorem own_argL {w : World} {base : Nat} {v : Value} {xs : List Int} {n : Nat} (hn : n = xs.length) (h : w.ownsRow base 3 1 v n (xs.map (Value.int .i64))) : ∃ a q, v = .slice a n q ∧ ArgP w xs a n q ∧ n ≤ q ∧ q ≤ maxLen := by
  subst hn
  rcases h.2 with ⟨rfl, h0⟩ | ⟨g, cap, cur, rfl, hb, hg, hn, hm, hs, ht⟩
  · have l0 : xs.length = 0 := by simpa using h0
    rw [l0]
    exact ⟨none, 0, rfl, ⟨l0.symm, by unfold maxLen; omega, fun k hk => by omega⟩, by omega, by unfold maxLen; omega⟩
  · refine ⟨some ⟨g, 0, none⟩, cap, rfl, ⟨rfl, Nat.le_trans hn hm, fun k hk => ⟨g, 0, rfl, lt_of_block hg, ?_⟩⟩, hn, hm⟩
    have e1 := congrArg (fun l => l[k]?) ht
    simp only [Nat.mul_one] at e1
    rw [List.getElem?_take_of_lt hk, Array.getElem?_toList] at e1
    rw [Nat.zero_add, cell_of_row w _ k _ _ _ hg, e1]
    simp [hk]
theorem bitsL_bits {W : Nat} {rs : List Nat} {N : Nat} (k : Nat) : 0 ≤ (bitsL W rs N).getD k 0 ∧ (bitsL W rs N).getD k 0 ≤ 1 := by
  unfold bitsL
  refine mapR_bits _ _ (fun i => ?_) k
  have : gR W rs i ≤ 1 := by unfold gR rowBit; omega
  omega
/-- A parent, and what it makes. -/
def MadeR (born stay W H : Nat) (xs : List Int) (W' H' : Int) (ys : List Int) : Prop := W' = ((W + 2 : Nat) : Int) ∧ H' = ((H + 2 : Nat) : Int) ∧ ys.length = (W + 2) * (H + 2) ∧ (∀ k, 0 ≤ ys.getD k 0 ∧ ys.getD k 0 ≤ 1) ∧ MadeP born stay W H xs (W + 2) (H + 2) ys
theorem pa_none {born stay W H : Nat} {xs : List Int} {w : World} {e : Ending} {w' : World} (hN : NoneB (topC W H) (okC born stay W xs) (fun _ => 0) 0) (h : PaOut born stay W H xs w e w') : TorBad 5 w e w' := by
  obtain ⟨⟨rs, ca, cq, hl, rfl, ho, hb⟩ | ⟨rfl, _⟩, b⟩ := h
  · exact absurd hb.1 (hN _)
  · exact ⟨rfl, b⟩
theorem pa_best {born stay W H : Nat} {xs : List Int} {w : World} {e : Ending} {w' : World} (hN : ¬ NoneB (topC W H) (okC born stay W xs) (fun _ => 0) 0) (h : PaOut born stay W H xs w e w') : PaGood (MadeR born stay W H xs) w e w' := by
  obtain ⟨⟨rs, ca, cq, hl, rfl, ho, hb⟩ | ⟨_, hn⟩, b⟩ := h
  · have ln : (bitsL (W + 2) rs (topC W H)).length = topC W H := by simp [bitsL]
    obtain ⟨a, q, e, ap, _, _⟩ := own_argL ln.symm ho
    cases e
    exact ⟨_, _, bitsL (W + 2) rs (topC W H), _, _, _, rfl, ap, ⟨rfl, rfl, by rw [ln]; unfold topC; rw [Nat.mul_comm], bitsL_bits, best_made hb⟩, b⟩
  · exact absurd hn hN
theorem made_yes {o : Out} {born stay W H : Nat} {xs : List Int} (hb : o.born = (born : Int)) (hs : o.stay = (stay : Int)) (b5 : born ≤ 511) (s5 : stay ≤ 511) (hn : xs.length = W * H) (W5 : W ≤ 5) (H5 : H ≤ 5) (ta : Option Addr) (tn tc : Nat) (V : World) (W' H' : Int) (ys : List Int) (a : Option Addr) (n c : Nat) (a' : Option Addr) (n' c' : Nat) (hR : MadeR born stay W H xs W' H' ys) (hA : ArgP V ys a n c) (hP : ArgP V xs a' n' c') :
    Calls Tryd.prog 12 #[.agg #[.int .i64 o.kind, .int .i64 o.born, .int .i64 o.stay, .int .i64 o.states, .int .i64 o.radius, .slice ta tn tc, .string o.turns], .agg #[.int .i64 W', .int .i64 H', .slice a n c], .agg #[.int .i64 (W : Int), .int .i64 (H : Int), .slice a' n' c']] V (BoolIs true V) := by
  obtain ⟨rfl, rfl, hl, hy, hm⟩ := hR
  rw [hb, hs]
  refine (made_any o.kind o.states o.radius born stay ta tn tc o.turns W H xs a' n' c' (W + 2) (H + 2) ys a n c V hP hA hn hl hy (by omega) (by omega) (by omega) (by omega) b5 s5).mono ?_
  rintro e w' ⟨⟨b, rfl, hbb⟩, bl⟩
  exact ⟨by rw [hbb.2 hm], bl⟩
theorem made_no {o : Out} {born stay W H : Nat} {xs : List Int} (hb : o.born = (born : Int)) (hs : o.stay = (stay : Int)) (b5 : born ≤ 511) (s5 : stay ≤ 511) (hn : xs.length = W * H) (W5 : W ≤ 5) (H5 : H ≤ 5) (ta : Option Addr) (tn tc : Nat) (V : World) (W' H' : Nat) (ys : List Int) (a : Option Addr) (n c : Nat) (a' : Option Addr) (n' c' : Nat) (hl : ys.length = W' * H') (hy : ∀ k, 0 ≤ ys.getD k 0 ∧ ys.getD k 0 ≤ 1) (W1 : W' ≤ 100) (H1 : H' ≤ 100) (hN : NoneB (topC W H) (okC born stay W xs) (fun _ => 0) 0) (hA : ArgP V ys a n c) (hP : ArgP V xs a' n' c') :
    Calls Tryd.prog 12 #[.agg #[.int .i64 o.kind, .int .i64 o.born, .int .i64 o.stay, .int .i64 o.states, .int .i64 o.radius, .slice ta tn tc, .string o.turns], .agg #[.int .i64 (W' : Int), .int .i64 (H' : Int), .slice a n c], .agg #[.int .i64 (W : Int), .int .i64 (H : Int), .slice a' n' c']] V (BoolIs false V) := by
  rw [hb, hs]
  refine (made_any o.kind o.states o.radius born stay ta tn tc o.turns W H xs a' n' c' W' H' ys a n c V hP hA hn hl hy (by omega) (by omega) W1 H1 b5 s5).mono ?_
  rintro e w' ⟨⟨b, rfl, hbb⟩, bl⟩
  refine ⟨?_, bl⟩
  cases b with
  | false => rfl
  | true => exact absurd (made_ext hy (hbb.1 rfl) (fun _ => 0)) (hN _)
theorem error_5 (f : Nat) (f0 : f ≠ 0) (w : World) (hg : Handle w) : Calls Tryd.prog 9 #[.iface 54 (.int .i64 (f : Int)), .int .i64 5] w (BoolIs (decide (f = 5)) w) := by
  refine (error_errno (f : Int) 5 w hg).mono ?_
  rintro e w' ⟨rfl, b⟩
  refine ⟨?_, b⟩
  congr 2
  by_cases h : f = 5
  · subst h; rfl
  · simp [h]; omega
/-- The middle, k rows of it. -/
def midR (W : Nat) (bs : List Int) : Nat → List Int
  | 0 => []
  | k + 1 => midR W bs k ++ (bs.drop ((k + 1) * W + 1)).take (W - 2)
theorem row_len {W H : Nat} {bs : List Int} (hl : bs.length = W * H) (hW : 2 ≤ W) {k : Nat} (hk : k + 2 < H) : ((bs.drop ((k + 1) * W + 1)).take (W - 2)).length = W - 2 ∧ (k + 1) * W + W ≤ W * H := by
  have h1 : (k + 1) * W + W ≤ W * H := by
    have := Nat.mul_le_mul_right W (show k + 1 + 1 ≤ H by omega)
    rw [Nat.add_mul, Nat.one_mul, Nat.mul_comm H] at this
    omega
  refine ⟨?_, h1⟩
  simp
  omega
theorem midR_len {W H : Nat} {bs : List Int} (hl : bs.length = W * H) (hW : 2 ≤ W) : ∀ k, k + 1 < H → (midR W bs k).length = k * (W - 2)
  | 0, _ => by simp [midR]
  | k + 1, h => by
    rw [midR, List.length_append, midR_len hl hW k (by omega), (row_len hl hW h).1, Nat.add_mul, Nat.one_mul]
theorem midR_ring {born stay W H : Nat} {ys : List Int} (hW : 2 ≤ W) : ∀ k, k + 1 < H → midR W (torL born stay W H ys) k = (List.range ((W - 2) * k)).map fun i => torV born stay W H ys ((i / (W - 2) + 1) * W + (i % (W - 2) + 1))
  | 0, _ => by simp [midR]
  | k + 1, h => by
    obtain ⟨l1, l2⟩ := row_len (W := W) (H := H) (bs := torL born stay W H ys) (by simp [torL]) hW h
    rw [midR, midR_ring hW k (by omega), Nat.mul_succ, List.range_add, List.map_append]
    congr 1
    refine List.ext_getElem (by rw [l1]; simp) fun j h1 h2 => ?_
    have hj : j < W - 2 := by rw [l1] at h1; exact h1
    have d1 : ((W - 2) * k + j) / (W - 2) = k := by rw [Nat.mul_add_div (by omega), Nat.div_eq_of_lt hj, Nat.add_zero]
    have d2 : ((W - 2) * k + j) % (W - 2) = j := by rw [Nat.mul_add_mod, Nat.mod_eq_of_lt hj]
    simp [torL, d1, d2]
    congr 1
    omega
theorem midR_is {born stay W H : Nat} {ys : List Int} (hW : 2 ≤ W) (hH : 2 ≤ H) : midR W (torL born stay W H ys) (H - 2) = ringM born stay W H ys := by
  rw [midR_ring hW (H - 2) (by omega)]
  rfl
/-- The middle while it is built. -/
structure MSt (U V : World) (W2 H2 : Nat) (xs : List Int) (v : Value) : Prop where
  blk : V.heap[U.heap.size]? = some (.cells #[.int .i64 (W2 : Int), .int .i64 (H2 : Int), v] 26 (0, 0))
  own : V.ownsRow (U.heap.size + 1) 3 1 v xs.length (xs.map (Value.int .i64))
  bel : Below U.heap.size U V
  siz : U.heap.size + 1 ≤ V.heap.size
theorem MSt.push {U V V1 : World} {W2 H2 : Nat} {xs ys : List Int} {v v1 : Value} (h : MSt U V W2 H2 xs v) (hg : V.grownBy V1 v.ownBlock) (ho : V1.ownsRow (U.heap.size + 1) 3 1 v1 (xs.length + ys.length) (xs.map (Value.int .i64) ++ ys.map (Value.int .i64))) :
    V1.heap[U.heap.size]? = some (.cells #[.int .i64 (W2 : Int), .int .i64 (H2 : Int), v] 26 (0, 0)) ∧ MSt U (V1.setCell ⟨U.heap.size, 2, none⟩ v1) W2 H2 (xs ++ ys) v1 := by
  have k1 : ∀ j, j < U.heap.size + 1 → V1.heap[j]? = V.heap[j]? := fun j hj => hg.block j (by have := h.siz; omega) (fun e => by have := (own_lt h.own j e.symm).1; omega)
  have s1 := (k1 U.heap.size (by omega)).trans h.blk
  have oth : ∀ j, j ≠ U.heap.size → (V1.setCell ⟨U.heap.size, 2, none⟩ v1).heap[j]? = V1.heap[j]? := fun j hj => Below.heap_setCell _ _ _ _ (by simpa using hj)
  refine ⟨s1, ⟨?_, ?_, ?_, ?_⟩⟩
  · rw [heap_setCell_same _ _ _ _ _ _ s1]; rfl
  · rw [List.length_append, List.map_append]
    exact own_keep ho (fun b e => oth b (fun q => by have := (own_lt ho b e).1; omega))
  · exact (h.bel.grown hg (by have := h.siz; omega) (fun j e => by have := (own_lt h.own j e).1; omega)).setCell (by simp) _
  · have := h.siz
    have := hg.size
    simp; omega
theorem MSt.mid {U V V1 : World} {W2 H2 : Nat} {xs : List Int} {v : Value} (h : MSt U V W2 H2 xs v) (hg : V.grownBy V1 v.ownBlock) : V1.heap[U.heap.size]? = some (.cells #[.int .i64 (W2 : Int), .int .i64 (H2 : Int), v] 26 (0, 0)) :=
  (hg.block _ (by have := h.siz; omega) (fun e => by have := (own_lt h.own _ e.symm).1; omega)).trans h.blk
/-- An append to what is the call's own, as a step of a region that draws. -/
theorem step_append_own {P : Program} {ops : Array Oper} {o : Oper} {a : Act} {w : World} {K : Act → World → Prop} {Q : Exit → Act → World → Prop} {E : Prop} (hgd : o.guard = none) (s x : Operand) (t : TypeId)
    (ho : o.op = .call { callee := .builtin .append, args := #[s, x], argTypes := #[t, t] })
    (base : Nat) (e : TypeId) (i : TypeInfo) (z : Value) (size bytes : Nat) (ht : P.underlying t = some (.slice e)) (hi : P.info? e = some i) (hz : i.zero = some z)
    (hsize : i.size = size) (hby : i.bytes = bytes) (hzs : z.cells.size = size) (hsz : 0 < size)
    (v : Value) (n : Nat) (xs : List Value) (hs : a.eval s = v) (hown : w.ownsRow base e size v n xs)
    (ad : Addr) (m c : Nat) (news : List Value) (hx : a.eval x = .slice (some ad) m c) (hl : news.length = m * size) (hnews : ∀ j u, news[j]? = some u → w.cell? (ad.add j) = some u) (h1 : ∀ u ∈ news, u.oneCell' = true)
    (h63 : n + m ≤ maxLen) (hbytes : (n + m) * bytes ≤ 140737488355328) (hbase : base ≤ w.heap.size)
    (h : ∀ v' w', w'.ownsRow base e size v' (n + m) (xs ++ news) → w.grownBy w' v.ownBlock → K (a.put o.dst v') w') :
    if Region.wanted o (yielded ops a.tmps) = true then Oper.wp P o a w K Q else E := by
  have hw : Region.wanted o (yielded ops a.tmps) = true := by simp [Region.wanted, hgd]
  rw [if_pos hw]
  exact wp_append_own w s x t ho base e i z size bytes ht hi hz hsize hby hzs hsz v n xs hs hown ad m c news hx hl hnews h1 h63 hbytes hbase fun v' w' h2 h3 _ => h v' w' h2 h3
/-- A row of what lies in a block. -/
theorem row_news {V : World} {bs : List Int} {q n c : Nat} (h : ArgP V bs (some ⟨q, 0, none⟩) n c) {d m : Nat} (hd : d + m ≤ bs.length) : ∀ j u, (((bs.drop d).take m).map (Value.int .i64))[j]? = some u → V.cell? ((⟨q, d, none⟩ : Addr).add j) = some u := by
  intro j u hu
  rw [List.getElem?_map] at hu
  obtain ⟨x, hx, rfl⟩ := Option.map_eq_some_iff.1 hu
  obtain ⟨hj, he⟩ := List.getElem?_eq_some_iff.1 hx
  have hj' : j < m := by simp at hj; omega
  obtain ⟨g, off, e, hg, hc⟩ := h.cells (d + j) (by omega)
  injection e with e1
  injection e1 with e2 e3
  subst e2 e3
  have ea : (⟨q, d, none⟩ : Addr).add j = ⟨q, d + j, none⟩ := by
    unfold Addr.add
    split
    · rename_i hz; subst hz; rfl
    · rfl
  rw [Nat.zero_add] at hc
  rw [ea, hc, ← he]
  simp
end Go.Proofs.YtlpdobfjgpedaaaDoor

namespace Go.Proofs.YtlpdobfjgpedaaaDoor
open Go.RowKit
set_option linter.unusedVariables false
/-- Values put one behind another. -/
def putsFrom (a : Act) (b : Nat) : List Value → Act
  | [] => a
  | v :: r => putsFrom (a.put (some b) v) (b + 1) r
theorem put_getE (a : Act) (t k : Nat) (v : Value) (ht : t < a.tmps.size) : (a.put (some t) v).tmps[k]? = if k = t then some v else a.tmps[k]? := by
  unfold Act.put
  dsimp only
  rw [Array.getElem?_setIfInBounds]
  by_cases h : t = k
  · subst h; rw [if_pos rfl, if_pos ht, if_pos rfl]
  · rw [if_neg h, if_neg (fun e => h e.symm)]
theorem eval_ofE {a : Act} {t : Nat} {v : Value} (h : a.tmps[t]? = some v) : a.eval (.tmp t) = v := by simp [Act.eval, h]
theorem put_sizeE (a : Act) (t : Option Nat) (v : Value) : (a.put t v).tmps.size = a.tmps.size := by cases t <;> simp [Act.put]
theorem put_defersE (a : Act) (t : Option Nat) (v : Value) : (a.put t v).defers = a.defers := by cases t <;> rfl
theorem puts_size (l : List Value) : ∀ (a : Act) (b : Nat), (putsFrom a b l).tmps.size = a.tmps.size := by
  induction l with
  | nil => intro a b; rfl
  | cons v r ih => intro a b; rw [putsFrom, ih, put_sizeE]
theorem puts_defers (l : List Value) : ∀ (a : Act) (b : Nat), (putsFrom a b l).defers = a.defers := by
  induction l with
  | nil => intro a b; rfl
  | cons v r ih => intro a b; rw [putsFrom, ih, put_defersE]
theorem puts_get (l : List Value) : ∀ (a : Act) (b t : Nat), b + l.length ≤ a.tmps.size → (putsFrom a b l).tmps[t]? = if b ≤ t ∧ t < b + l.length then l[t - b]? else a.tmps[t]? := by
  induction l with
  | nil => intro a b t _; rw [if_neg (by simp)]; rfl
  | cons v r ih =>
    intro a b t h
    simp only [List.length_cons] at h
    rw [putsFrom, ih _ _ _ (by rw [put_sizeE]; omega), put_getE _ _ _ _ (by omega)]
    simp only [List.length_cons]
    by_cases e : t = b
    · subst e
      rw [if_neg (by omega), if_pos rfl, if_pos (by omega)]
      simp
    · rw [if_neg e]
      by_cases c : b ≤ t ∧ t < b + (r.length + 1)
      · rw [if_pos (by omega), if_pos c, show t - b = (t - (b + 1)) + 1 by omega, List.getElem?_cons_succ]
      · rw [if_neg (by omega), if_neg c]
theorem act_puts {a a0 : Act} {b : Nat} {l : List Value} (hs : a.tmps.size = a0.tmps.size) (hd : a.defers = a0.defers) (hb : b + l.length ≤ a0.tmps.size) (hk : ∀ t, t < b ∨ b + l.length ≤ t → a.tmps[t]? = a0.tmps[t]?) (hv : ∀ i, i < l.length → a.tmps[b + i]? = l[i]?) : a = putsFrom a0 b l := by
  have e : a.tmps = (putsFrom a0 b l).tmps := Array.ext_getElem? fun t => by
    rw [puts_get l a0 b t hb]
    by_cases c : b ≤ t ∧ t < b + l.length
    · rw [if_pos c]
      have := hv (t - b) (by omega)
      rw [show b + (t - b) = t by omega] at this
      exact this
    · rw [if_neg c]
      exact hk t (by omega)
  have f := puts_defers l a0 b
  cases a
  cases hp : putsFrom a0 b l
  rw [hp] at e f
  simp at e f hd
  subst e
  rw [hd, f]
theorem getD_set (l : Array Bool) (i j : Nat) (hi : i < l.size) : (l.setIfInBounds i true).getD j false = if j = i then true else l.getD j false := by
  simp only [Array.getD_eq_getD_getElem?, Array.getElem?_setIfInBounds]
  by_cases h : i = j
  · subst h; simp [hi]
  · rw [if_neg h, if_neg (fun e => h e.symm)]
theorem ready_noneE {ops : Array Oper} {listed : Array Bool} (hr : Region.ready .any ops listed = []) (hs : listed.size = ops.size) (h : ∀ k, k < ops.size → ((ops[k]?).map fun o => o.after.all fun e => !Region.binds .any e || decide (e.on < k)).getD false = true) : ∀ k, k < ops.size → listed.getD k true = true := by
  intro k
  induction k using Nat.strongRecOn with
  | ind k ih =>
    intro hk
    cases hl : listed.getD k true with
    | true => rfl
    | false =>
      exfalso
      have : k ∈ Region.ready .any ops listed := by
        refine mem_ready.2 ⟨hl, ops[k], by simp [hk], fun e he hbd => ?_⟩
        have h1 := h k hk
        rw [show ops[k]? = some ops[k] by simp [hk]] at h1
        simp only [Option.map_some, Option.getD_some, Array.all_eq_true] at h1
        obtain ⟨n, hn, rfl⟩ := Array.getElem_of_mem he
        have h2 : (ops[k].after[n]).on < k := by
          have := h1 n hn
          rw [hbd] at this
          simpa using this
        have h3 := ih _ h2 (by omega)
        have h4 : (ops[k].after[n]).on < listed.size := by omega
        simpa [Array.getD_eq_getD_getElem?, h4] using h3
      rw [hr] at this
      cases this
def depsD : List (Nat × Nat) := [(1, 0), (3, 2), (6, 5), (7, 4), (7, 6), (8, 7), (11, 10), (12, 9), (12, 11), (14, 13), (15, 12), (15, 14), (16, 15), (17, 3), (17, 8), (17, 16), (18, 1), (18, 17), (20, 18), (20, 19)]
structure RD (a0 a : Act) (w0 w : World) (vs : List Value) (pv : Value) (PA : Value → World → Prop) (ad : Addr) (l : Array Bool) : Prop where
  lsz : l.size = 21
  sz : a.tmps.size = a0.tmps.size
  df : a.defers = a0.defers
  keep : ∀ t, t < 96 ∨ 116 ≤ t → a.tmps[t]? = a0.tmps[t]?
  vals : ∀ i v, vs[i]? = some v → l.getD i false = true → a.tmps[96 + i]? = some v
  ptr : l.getD 19 false = true → a.tmps[115]? = some pv
  cl : ∀ i j, (i, j) ∈ depsD → l.getD i false = true → l.getD j false = true
  st0 : l.getD 18 false = false → w = w0
  st1 : l.getD 18 false = true → ∃ v' w', PA v' w' ∧ a.tmps[114]? = some v' ∧ w = if l.getD 20 false then w'.setCell ad v' else w'
theorem RD.all {a0 a : Act} {w0 w : World} {vs : List Value} {pv : Value} {PA : Value → World → Prop} {ad : Addr} {l : Array Bool} (R : RD a0 a w0 w vs pv PA ad l) (h : l.getD 18 false = true) : ∀ i, i < 18 → l.getD i false = true := by
  have c : ∀ i j, l.getD i false = true → (i, j) ∈ depsD → l.getD j false = true := fun i j h m => R.cl i j m h
  have h17 := c 18 17 h (by simp [depsD])
  have h1 := c 18 1 h (by simp [depsD])
  have h0 := c 1 0 h1 (by simp [depsD])
  have h16 := c 17 16 h17 (by simp [depsD])
  have h8 := c 17 8 h17 (by simp [depsD])
  have h3 := c 17 3 h17 (by simp [depsD])
  have h2 := c 3 2 h3 (by simp [depsD])
  have h15 := c 16 15 h16 (by simp [depsD])
  have h14 := c 15 14 h15 (by simp [depsD])
  have h13 := c 14 13 h14 (by simp [depsD])
  have h12 := c 15 12 h15 (by simp [depsD])
  have h11 := c 12 11 h12 (by simp [depsD])
  have h10 := c 11 10 h11 (by simp [depsD])
  have h9 := c 12 9 h12 (by simp [depsD])
  have h7 := c 8 7 h8 (by simp [depsD])
  have h6 := c 7 6 h7 (by simp [depsD])
  have h5 := c 6 5 h6 (by simp [depsD])
  have h4 := c 7 4 h7 (by simp [depsD])
  intro i hi
  rcases i with _ | _ | _ | _ | _ | _ | _ | _ | _ | _ | _ | _ | _ | _ | _ | _ | _ | _ | i
  all_goals first | assumption | omega
theorem cl_step {l : Array Bool} {ops : Array Oper} {i : Nat} (hi : i < l.size) (hr : i ∈ Region.ready .any ops l) (cl : ∀ i j, (i, j) ∈ depsD → l.getD i false = true → l.getD j false = true)
    (E2 : (depsD.all fun (x : Nat × Nat) => ((ops[x.1]?).map fun o => o.after.any fun e => Region.binds .any e && e.on == x.2).getD false) = true) : ∀ p q, (p, q) ∈ depsD → (l.setIfInBounds i true).getD p false = true → (l.setIfInBounds i true).getD q false = true := by
  intro p q m h
  rw [getD_set _ _ _ hi] at h ⊢
  by_cases e : q = i
  · rw [if_pos e]
  · rw [if_neg e]
    by_cases f : p = i
    · subst f
      exact ready_needs hr ((List.all_eq_true.1 E2) (p, q) m)
    · rw [if_neg f] at h
      exact cl p q m h
set_option maxHeartbeats 3200000 in
theorem regionD {P : Program} {id : Nat} {Q : Exit → Act → World → Prop} {a0 : Act} {w0 : World} (hm : P.follows .mixedOrders = true) (ops : Array Oper) (vs : List Value) (pv : Value) (PA : Value → World → Prop) (ad : Addr)
    (hn : ops.size = 21) (hv : vs.length = 18) (hz : 116 ≤ a0.tmps.size)
    (hg : (ops.toList.all fun o => o.guard.isNone) = true)
    (hd : ops.toList.map (·.dst) = (List.range 20).map (fun i => some (96 + i)) ++ [none])
    (E1 : ((List.range 21).all fun k => ((ops[k]?).map fun o => o.after.all fun e => !Region.binds .any e || decide (e.on < k)).getD false) = true)
    (E2 : (depsD.all fun (x : Nat × Nat) => ((ops[x.1]?).map fun o => o.after.any fun e => Region.binds .any e && e.on == x.2).getD false) = true)
    (hp : ∀ a : Act, (∀ t, t < 96 → a.tmps[t]? = a0.tmps[t]?) → ∀ i o v, (∀ j u, (i, j) ∈ depsD → vs[j]? = some u → a.tmps[96 + j]? = some u) → ops[i]? = some o → vs[i]? = some v → (execOp a.eval o).run P w0.drew = .ok (.value v) w0.drew)
    (h19 : ∀ (a : Act) w o, (∀ t, t < 96 → a.tmps[t]? = a0.tmps[t]?) → ops[19]? = some o → (execOp a.eval o).run P w = .ok (.value pv) w)
    (h18 : ∀ (a : Act) o (K : Act → World → Prop), (∀ j u, vs[j]? = some u → a.tmps[96 + j]? = some u) → ops[18]? = some o → (∀ v' w', PA v' w' → K (a.put o.dst v') w') → o.wp P a w0.drew K Q)
    (h20 : ∀ (a : Act) o v' w' (K : Act → World → Prop), PA v' w' → a.tmps[115]? = some pv → a.tmps[114]? = some v' → ops[20]? = some o → K (a.put o.dst undef) (w'.setCell ad v') → o.wp P a w' K Q)
    (hQ : ∀ v' w', PA v' w' → Q .normal (putsFrom a0 96 (vs ++ [v', pv])) (w'.setCell ad v')) :
    (Code.region id ops true).wp P Q a0 w0 := by
  have gd : ∀ (i : Nat) (o : Oper), ops[i]? = some o → o.guard = none := fun i o h => by
    have := List.all_eq_true.1 hg o (Array.mem_toList_iff.2 (Array.mem_of_getElem? h))
    simpa using this
  have ds : ∀ (i : Nat) (o : Oper), i < 20 → ops[i]? = some o → o.dst = some (96 + i) := fun i o hi h => by
    have e := congrArg (fun l => l[i]?) hd
    simp only [List.getElem?_map, Array.getElem?_toList, h, Option.map_some] at e
    rw [List.getElem?_append_left (by simp; exact hi)] at e
    simpa [hi] using e
  have dn : ∀ (o : Oper), ops[20]? = some o → o.dst = none := fun o h => by
    have e := congrArg (fun l => l[20]?) hd
    simp only [List.getElem?_map, Array.getElem?_toList, h, Option.map_some] at e
    simpa using e
  refine wp_region_any hm (wpAny_inv (fun l a w => RD a0 a w0.drew w vs pv PA ad l) ?_ ?_ _ _ _ _ (by simp) ?_)
  · intro l a w R i hr
    obtain ⟨hl, o, ho, _⟩ := mem_ready.1 hr
    have hi : i < 21 := by
      rcases Nat.lt_or_ge i 21 with h | h
      · exact h
      · rw [Array.getElem?_eq_none (by omega)] at ho; cases ho
    have il : i < l.size := by rw [R.lsz]; exact hi
    have lf : l.getD i false = false := by
      have h2 : l[i]? = some l[i] := by simp [il]
      simp only [Array.getD_eq_getD_getElem?, h2, Option.getD_some] at hl ⊢
      exact hl
    have cl := cl_step il hr R.cl E2
    have n18 : i < 18 → l.getD 18 false = false := fun h => by
      cases q : l.getD 18 false with
      | false => rfl
      | true => have := R.all q i h; rw [lf] at this; cases this
    have need : ∀ j, (i, j) ∈ depsD → l.getD j false = true := fun j m => ready_needs hr ((List.all_eq_true.1 E2) (i, j) m)
    have ls' : (l.setIfInBounds i true).size = 21 := by simp [R.lsz]
    have gs := fun j => getD_set l i j il
    refine wpOp_of ho (gd i o ho) ?_
    by_cases h1 : i < 18
    · have hw := R.st0 (n18 h1)
      obtain ⟨v, hvi⟩ : ∃ v, vs[i]? = some v := ⟨vs[i]'(by omega), by simp [hv, h1]⟩
      unfold Oper.wp
      rw [hw, hp a (fun t ht => R.keep t (Or.inl ht)) i o v (fun j u m hu => R.vals j u hu (need j m)) ho hvi]
      show RD _ _ _ _ _ _ _ _ _
      have dd := ds i o (by omega) ho
      rw [dd]
      have sz : 96 + i < a.tmps.size := by rw [R.sz]; omega
      refine ⟨ls', by rw [put_sizeE]; exact R.sz, by rw [put_defersE]; exact R.df, fun t ht => ?_, fun j u hu hj => ?_, fun h => ?_, cl, fun _ => rfl, fun h => ?_⟩
      · rw [put_getE _ _ _ _ sz, if_neg (by omega)]; exact R.keep t ht
      · rw [put_getE _ _ _ _ sz]
        by_cases e : j = i
        · subst e
          rw [if_pos rfl]
          rw [hvi] at hu; exact hu
        · rw [if_neg (by omega)]
          rw [gs, if_neg e] at hj
          exact R.vals j u hu hj
      · rw [put_getE _ _ _ _ sz, if_neg (by omega)]
        rw [gs, if_neg (by omega)] at h
        exact R.ptr h
      · rw [gs, if_neg (by omega), n18 h1] at h; cases h
    · by_cases h2 : i = 18
      · subst h2
        have a18 : ∀ j, j < 18 → l.getD j false = true := by
          have c : ∀ i j, l.getD i false = true → (i, j) ∈ depsD → l.getD j false = true := fun i j h m => R.cl i j m h
          have h17 := need 17 (by simp [depsD])
          have h1 := need 1 (by simp [depsD])
          have h0 := c 1 0 h1 (by simp [depsD])
          have h16 := c 17 16 h17 (by simp [depsD])
          have h8 := c 17 8 h17 (by simp [depsD])
          have h3 := c 17 3 h17 (by simp [depsD])
          have h2 := c 3 2 h3 (by simp [depsD])
          have h15 := c 16 15 h16 (by simp [depsD])
          have h14 := c 15 14 h15 (by simp [depsD])
          have h13 := c 14 13 h14 (by simp [depsD])
          have h12 := c 15 12 h15 (by simp [depsD])
          have h11 := c 12 11 h12 (by simp [depsD])
          have h10 := c 11 10 h11 (by simp [depsD])
          have h9 := c 12 9 h12 (by simp [depsD])
          have h7 := c 8 7 h8 (by simp [depsD])
          have h6 := c 7 6 h7 (by simp [depsD])
          have h5 := c 6 5 h6 (by simp [depsD])
          have h4 := c 7 4 h7 (by simp [depsD])
          intro j hj
          rcases j with _ | _ | _ | _ | _ | _ | _ | _ | _ | _ | _ | _ | _ | _ | _ | _ | _ | _ | j
          all_goals first | assumption | omega
        have f20 : l.getD 20 false = false := by
          cases q : l.getD 20 false with
          | false => rfl
          | true => have := R.cl 20 18 (by simp [depsD]) q; rw [lf] at this; cases this
        rw [R.st0 lf]
        refine h18 a o _ (fun j u hu => R.vals j u hu (a18 j ?_)) ho ?_
        · have := (List.getElem?_eq_some_iff.1 hu).1; omega
        intro v' w' pa
        rw [ds 18 o (by omega) ho]
        have sz : 96 + 18 < a.tmps.size := by rw [R.sz]; omega
        refine ⟨ls', by rw [put_sizeE]; exact R.sz, by rw [put_defersE]; exact R.df, fun t ht => ?_, fun j u hu hj => ?_, fun h => ?_, cl, fun h => ?_, fun _ => ⟨v', w', pa, ?_, ?_⟩⟩
        · rw [put_getE _ _ _ _ sz, if_neg (by omega)]; exact R.keep t ht
        · have jl := (List.getElem?_eq_some_iff.1 hu).1
          rw [put_getE _ _ _ _ sz, if_neg (by omega)]
          exact R.vals j u hu (a18 j (by omega))
        · rw [put_getE _ _ _ _ sz, if_neg (by omega)]
          rw [gs, if_neg (by omega)] at h
          exact R.ptr h
        · rw [gs, if_pos rfl] at h; cases h
        · rw [put_getE _ _ _ _ sz, if_pos rfl]
        · rw [gs 20, if_neg (show ¬ (20 = 18) by omega), f20]; rfl
      · by_cases h3 : i = 19
        · subst h3
          unfold Oper.wp
          rw [h19 a w o (fun t ht => R.keep t (Or.inl ht)) ho]
          show RD _ _ _ _ _ _ _ _ _
          rw [ds 19 o (by omega) ho]
          have sz : 96 + 19 < a.tmps.size := by rw [R.sz]; omega
          refine ⟨ls', by rw [put_sizeE]; exact R.sz, by rw [put_defersE]; exact R.df, fun t ht => ?_, fun j u hu hj => ?_, fun h => ?_, cl, fun h => ?_, fun h => ?_⟩
          · rw [put_getE _ _ _ _ sz, if_neg (by omega)]; exact R.keep t ht
          · have jl := (List.getElem?_eq_some_iff.1 hu).1
            rw [put_getE _ _ _ _ sz, if_neg (by omega)]
            rw [gs, if_neg (by omega)] at hj
            exact R.vals j u hu hj
          · rw [put_getE _ _ _ _ sz, if_pos rfl]
          · rw [gs, if_neg (by omega)] at h
            exact R.st0 h
          · rw [gs, if_neg (by omega)] at h
            obtain ⟨v', w', pa, e1, e2⟩ := R.st1 h
            refine ⟨v', w', pa, ?_, ?_⟩
            · rw [put_getE _ _ _ _ sz, if_neg (by omega)]; exact e1
            · rw [gs 20, if_neg (show ¬ (20 = 19) by omega)]; exact e2
        · obtain rfl : i = 20 := by omega
          have l18 := need 18 (by simp [depsD])
          have l19 := need 19 (by simp [depsD])
          obtain ⟨v', w', pa, e1, e2⟩ := R.st1 l18
          rw [lf] at e2
          have e3 : w = w' := e2
          rw [e3]
          refine h20 a o v' w' _ pa (R.ptr l19) e1 ho ?_
          rw [dn o ho]
          refine ⟨ls', R.sz, R.df, R.keep, fun j u hu hj => ?_, fun h => R.ptr l19, cl, fun h => ?_, fun h => ⟨v', w', pa, e1, ?_⟩⟩
          · have jl := (List.getElem?_eq_some_iff.1 hu).1
            rw [gs, if_neg (by omega)] at hj
            exact R.vals j u hu hj
          · rw [gs, if_neg (by omega), l18] at h; cases h
          · rw [gs, if_pos rfl]; rfl
  · intro l a w R hr
    have h : ∀ k, k < 21 → l.getD k false = true := fun k hk => by
      have h1 := ready_noneE hr (by rw [R.lsz, hn]) (fun k hk => (List.all_eq_true.1 E1) k (List.mem_range.2 (by omega))) k (by omega)
      have kl : k < l.size := by rw [R.lsz]; exact hk
      simpa [Array.getD_eq_getD_getElem?, kl] using h1
    obtain ⟨v', w', pa, e1, e2⟩ := R.st1 (h 18 (by omega))
    rw [h 20 (by omega)] at e2
    have e3 : w = w'.setCell ad v' := e2
    rw [e3, act_puts (a0 := a0) (b := 96) (l := vs ++ [v', pv]) R.sz R.df (by simp [hv]; omega) (fun t ht => R.keep t (by simp [hv] at ht; omega)) (fun i hi => ?_)]
    · exact hQ v' w' pa
    · simp only [List.length_append, hv, List.length_cons, List.length_nil] at hi
      by_cases c1 : i < 18
      · rw [List.getElem?_append_left (by omega)]
        have hvi : vs[i]? = some (vs[i]'(by omega)) := by simp [hv, c1]
        rw [hvi]
        exact R.vals i _ hvi (h i (by omega))
      · rw [List.getElem?_append_right (by omega), hv]
        by_cases c2 : i = 18
        · subst c2; exact e1
        · obtain rfl : i = 19 := by omega
          exact R.ptr (h 19 (by omega))
  · have f : ∀ i, (Array.replicate ops.size false).getD i false = false := fun i => by simp [Array.getD_eq_getD_getElem?, Array.getElem?_replicate]; split <;> rfl
    exact ⟨by simp [hn], rfl, rfl, fun _ _ => rfl, fun i v _ h => (by rw [f] at h; cases h), fun h => (by rw [f] at h; cases h), fun i j _ h => (by rw [f] at h; cases h), fun _ => rfl, fun h => (by rw [f] at h; cases h)⟩
end Go.Proofs.YtlpdobfjgpedaaaDoor

