/-
  What the last text of this claim leans on, part 17: Wv1, Wv2.
-/
import Derived.Test.YthmeapplnocfjaaDoorZp5
import Derived.Test.YthmeapplnocfjaaDoorZp10
import Derived.Laws.StructEq
import Derived.Deep.RegionHeld3
namespace Go.Proofs.YthmeapplnocfjaaDoor
open Go.RowKit
set_option linter.unusedVariables false
set_option linter.unusedSimpArgs false
def eqT (p q : TlT) : Bool := p.u == q.u && (p.r == q.r && (p.d == q.d && p.l == q.l))
theorem eqT_iff (p q : TlT) : eqT p q = true ↔ p = q := by
  obtain ⟨a, b, c, d⟩ := p
  obtain ⟨a', b', c', d'⟩ := q
  unfold eqT
  simp
theorem tile_eq (p q : TlT) (w : World) : (Op.equalIn 10000 47 (.agg #[.int .i64 p.u, .int .i64 p.r, .int .i64 p.d, .int .i64 p.l]) (.agg #[.int .i64 q.u, .int .i64 q.r, .int .i64 q.d, .int .i64 q.l])).run Tryd.prog w = .ok (eqT p q) w := by
  have u3 := Tryd.underlying3
  have a3 := Tryd.isAgg3
  have z3 := Tryd.sizeOf3
  have hS : Tryd.prog.underlying 47 = some (.struct (Tryd.prog.fieldsOf 47)) := by kernel_rfl
  have hp : Tryd.prog.stoodInHeld 47 = false := by kernel_rfl
  rw [show (10000 : Nat) = 9999 + 1 from rfl, run_equalIn_agg w 9999 47 _ _ hS hp]
  simp only [Program.fieldsOf, Tryd.underlying47]
  go_simp
  obtain ⟨p1, p2, p3, p4⟩ := p
  obtain ⟨q1, q2, q3, q4⟩ := q
  unfold eqT
  by_cases h1 : p1 = q1 <;> by_cases h2 : p2 = q2 <;> by_cases h3 : p3 = q3 <;> by_cases h4 : p4 = q4 <;> simp [h1, h2, h3, h4]
set_option maxRecDepth 100000 in
set_option maxHeartbeats 6400000 in
theorem indexT_any (xs : List TlT) (a : Option Addr) (n c : Nat) (t : TlT) (w : World) (hA : ArgT w xs a n c) (hn : n ≤ 16) :
    Calls Tryd.prog 48 #[.slice a n c, .agg #[.int .i64 t.u, .int .i64 t.r, .int .i64 t.d, .int .i64 t.l]] w fun e w' => (∃ i : Int, e = .returned (.int .i64 i) ∧ (i = -1 ∧ t ∉ xs ∨ 0 ≤ i ∧ t ∈ xs)) ∧ Below w.heap.size w w' := by
  have HL := hide' hA.len
  obtain ⟨w1, hw1⟩ : ∃ w1, w.alloc (.cells #[.int .i64 t.u, .int .i64 t.r, .int .i64 t.d, .int .i64 t.l] 47) = w1 := ⟨_, rfl⟩
  have B1 := (show Below w.heap.size w w1 by rw [← hw1]; exact (Below.refl _ _).alloc (Nat.le_refl _) _)
  have G1 : w1.heap[w.heap.size]? = some (.cells #[.int .i64 t.u, .int .i64 t.r, .int .i64 t.d, .int .i64 t.l] 47 (0, 0)) := by rw [← hw1]; exact heap_alloc_new _ _
  have HA := hide' (hA.below B1)
  have y0 : w1.cell? ⟨w.heap.size, 0, none⟩ = some (.int .i64 t.u) := by rw [cell_of_row w1 _ _ _ _ _ G1]; rfl
  have y1 : w1.cell? ⟨w.heap.size, 1, none⟩ = some (.int .i64 t.r) := by rw [cell_of_row w1 _ _ _ _ _ G1]; rfl
  have y2 : w1.cell? ⟨w.heap.size, 2, none⟩ = some (.int .i64 t.d) := by rw [cell_of_row w1 _ _ _ _ _ G1]; rfl
  have y3 : w1.cell? ⟨w.heap.size, 3, none⟩ = some (.int .i64 t.l) := by rw [cell_of_row w1 _ _ _ _ _ G1]; rfl
  have BB := hide' B1
  clear hA B1 G1
  go_enter Tryd.func48, Tryd.ntmps48
  go_wp2
  try rw [hw1]
  clear hw1
  go_loopw [5, 8] (fun _ iv wr => ∃ (i q : Nat), iv = .int .i64 (i : Int) ∧ i ≤ n ∧ wr = w1.drewN q ∧ Hid (∀ k, k < i → xs.getD k tlz ≠ t)) (fun _ iv _ => n - (intOf iv).toNat)
  case atStart => exact ⟨0, 0, rfl, by omega, rfl, hide' (fun k h => by omega)⟩
  case round =>
    obtain ⟨i, q, rfl, hi, hw, NO⟩ := hrel
    have BW := hide' (show Below w.heap.size w wr by rw [hw]; exact ⟨BB.out.os, BB.out.tape, BB.out.output, BB.out.size, BB.out.block⟩)
    have NXW := hide' (show wr.drew = w1.drewN (q + 1) by rw [hw]; rfl)
    have x0 : wr.cell? ⟨w.heap.size, 0, none⟩ = some (.int .i64 t.u) := by rw [hw]; exact y0
    have x1 : wr.cell? ⟨w.heap.size, 1, none⟩ = some (.int .i64 t.r) := by rw [hw]; exact y1
    have x2 : wr.cell? ⟨w.heap.size, 2, none⟩ = some (.int .i64 t.d) := by rw [hw]; exact y2
    have x3 : wr.cell? ⟨w.heap.size, 3, none⟩ = some (.int .i64 t.l) := by rw [hw]; exact y3
    by_cases d : (i : Int) < (n : Int)
    · have il : i < xs.length := by have := HL.out; omega
      have i0 : (0 : Int) ≤ (i : Int) := by omega
      obtain ⟨g, off, rfl, hg, c0, c1, c2, c3⟩ := HA.out.cells i il
      have im : xs.getD i tlz ∈ xs := by
        have e : xs.getD i tlz = xs[i] := by simp [List.getD, il]
        rw [e]; exact List.getElem_mem il
      obtain ⟨p, hp⟩ : ∃ p, xs.getD i tlz = p := ⟨_, rfl⟩
      rw [hp] at c0 c1 c2 c3 im
      have HPP := hide' hp
      have v0 : wr.cell? ⟨g, off + i * 4, none⟩ = some (.int .i64 p.u) := by rw [hw]; exact c0
      have v1 : wr.cell? ⟨g, off + i * 4 + 1, none⟩ = some (.int .i64 p.r) := by rw [hw]; exact c1
      have v2 : wr.cell? ⟨g, off + i * 4 + 2, none⟩ = some (.int .i64 p.d) := by rw [hw]; exact c2
      have v3 : wr.cell? ⟨g, off + i * 4 + 3, none⟩ = some (.int .i64 p.l) := by rw [hw]; exact c3
      have eq := fun W => tile_eq t p W
      have EI := hide' (eqT_iff t p)
      obtain ⟨z, hz⟩ : ∃ z, eqT t p = z := ⟨_, rfl⟩
      rw [hz] at eq EI
      have SS := hide' (show wr.cell? ⟨w.heap.size, 0, none⟩ = some (.int .i64 t.u) ∧ wr.cell? ⟨w.heap.size, 1, none⟩ = some (.int .i64 t.r) ∧ wr.cell? ⟨w.heap.size, 2, none⟩ = some (.int .i64 t.d) ∧ wr.cell? ⟨w.heap.size, 3, none⟩ = some (.int .i64 t.l) ∧ wr.cell? ⟨g, off + i * 4, none⟩ = some (.int .i64 p.u) ∧ wr.cell? ⟨g, off + i * 4 + 1, none⟩ = some (.int .i64 p.r) ∧ wr.cell? ⟨g, off + i * 4 + 2, none⟩ = some (.int .i64 p.d) ∧ wr.cell? ⟨g, off + i * 4 + 3, none⟩ = some (.int .i64 p.l) from ⟨x0, x1, x2, x3, v0, v1, v2, v3⟩)
      have IM := hide' im
      clear c0 c1 c2 c3 hp hz im y0 y1 y2 y3
      have HWE := hide' hw
      clear hw
      go_upto_region 4 with fail
      go_region_held3 (fun V => V.cell? ⟨w.heap.size, 0, none⟩ = some (.int .i64 t.u) ∧ V.cell? ⟨w.heap.size, 1, none⟩ = some (.int .i64 t.r) ∧ V.cell? ⟨w.heap.size, 2, none⟩ = some (.int .i64 t.d) ∧ V.cell? ⟨w.heap.size, 3, none⟩ = some (.int .i64 t.l) ∧ V.cell? ⟨g, off + i * 4, none⟩ = some (.int .i64 p.u) ∧ V.cell? ⟨g, off + i * 4 + 1, none⟩ = some (.int .i64 p.r) ∧ V.cell? ⟨g, off + i * 4 + 2, none⟩ = some (.int .i64 p.d) ∧ V.cell? ⟨g, off + i * 4 + 3, none⟩ = some (.int .i64 p.l)) (first | exact SS.out | fail) (fail)
      cases z with
      | true =>
        have TE := hide' (EI.out.1 rfl)
        go_wp2
        go_ret
        exact ⟨⟨(i : Int), rfl, Or.inr ⟨by omega, by rw [TE.out]; exact IM.out⟩⟩, BW.out.drew⟩
      | false =>
        have NE := hide' (show ∀ k, k < i + 1 → xs.getD k tlz ≠ t from fun k hk e => by
          by_cases q' : k = i
          · subst q'
            have := EI.out.2 (by rw [← e]; exact HPP.out)
            cases this
          · exact NO.out k (by omega) e)
        go_wp2
        exact ⟨⟨i + 1, q + 1, by go_num, by omega, NXW.out, NE⟩, by simp [intOf]; omega⟩
    · obtain rfl : i = n := by omega
      have NM := hide' (show t ∉ xs from fun h => by
        obtain ⟨k, hk, e⟩ := List.getElem_of_mem h
        exact NO.out k (by have := HL.out; omega) (by simp [List.getD, hk, e]))
      have HWE := hide' hw
      clear hw
      go_wp2
      go_ret
      exact ⟨⟨-1, rfl, Or.inl ⟨rfl, NM.out⟩⟩, BW.out⟩
set_option maxRecDepth 100000 in
set_option maxHeartbeats 6400000 in
theorem containsT_any (xs : List TlT) (a : Option Addr) (n c : Nat) (t : TlT) (w : World) (hA : ArgT w xs a n c) (hn : n ≤ 16) :
    Calls Tryd.prog 40 #[.slice a n c, .agg #[.int .i64 t.u, .int .i64 t.r, .int .i64 t.d, .int .i64 t.l]] w fun e w' => BoW (t ∈ xs) e ∧ Below w.heap.size w w' := by
  obtain ⟨w1, hw1⟩ : ∃ w1, w.alloc (.cells #[.int .i64 t.u, .int .i64 t.r, .int .i64 t.d, .int .i64 t.l] 47) = w1 := ⟨_, rfl⟩
  have B1 := (show Below w.heap.size w w1 by rw [← hw1]; exact (Below.refl _ _).alloc (Nat.le_refl _) _)
  have G1 : w1.heap[w.heap.size]? = some (.cells #[.int .i64 t.u, .int .i64 t.r, .int .i64 t.d, .int .i64 t.l] 47 (0, 0)) := by rw [← hw1]; exact heap_alloc_new _ _
  have IC := hide' (indexT_any xs a n c t w1 (hA.below B1) hn)
  have y0 : w1.cell? ⟨w.heap.size, 0, none⟩ = some (.int .i64 t.u) := by rw [cell_of_row w1 _ _ _ _ _ G1]; rfl
  have y1 : w1.cell? ⟨w.heap.size, 1, none⟩ = some (.int .i64 t.r) := by rw [cell_of_row w1 _ _ _ _ _ G1]; rfl
  have y2 : w1.cell? ⟨w.heap.size, 2, none⟩ = some (.int .i64 t.d) := by rw [cell_of_row w1 _ _ _ _ _ G1]; rfl
  have y3 : w1.cell? ⟨w.heap.size, 3, none⟩ = some (.int .i64 t.l) := by rw [cell_of_row w1 _ _ _ _ _ G1]; rfl
  have BB := hide' B1
  clear hA B1 G1
  go_enter Tryd.func40, Tryd.ntmps40
  go_upto_region 1 with fail
  try rw [hw1]
  clear hw1
  go_wp2_with fail
  refine IC.out.mono ?_
  rintro e w3 ⟨⟨i, rfl, h⟩, b3⟩
  have B3 := hide' (BB.out.trans (b3.mono BB.out.size))
  clear b3
  rcases h with ⟨rfl, no⟩ | ⟨i0, yes⟩
  · have NO := hide' no
    clear no
    go_wp2
    go_ret
    exact ⟨⟨false, rfl, ⟨fun h => (by cases h), fun h => absurd h NO.out⟩⟩, B3.out⟩
  · have YES := hide' yes
    clear yes
    go_wp2
    go_ret
    exact ⟨⟨true, by simp, ⟨fun _ => YES.out, fun _ => rfl⟩⟩, B3.out⟩
end Go.Proofs.YthmeapplnocfjaaDoor

namespace Go.Proofs.YthmeapplnocfjaaDoor
open Go.RowKit
set_option linter.unusedVariables false
set_option linter.unusedSimpArgs false
/-- Tiles in a row of one's own. -/
def flR (xs : List TlT) : List Value := xs.flatMap fun t => [.int .i64 t.u, .int .i64 t.r, .int .i64 t.d, .int .i64 t.l]
theorem flR_append (xs ys : List TlT) : flR (xs ++ ys) = flR xs ++ flR ys := by unfold flR; simp
theorem one_flR (ls : List TlT) : ∀ u ∈ flR ls, u.oneCell' = true := fun u h => by
  unfold flR at h
  rw [List.mem_flatMap] at h
  obtain ⟨l, _, h⟩ := h
  simp only [List.mem_cons, List.not_mem_nil, or_false] at h
  rcases h with rfl | rfl | rfl | rfl <;> rfl
theorem flR_at : ∀ (xs : List TlT) (k : Nat), k < xs.length → (flR xs)[k * 4]? = some (.int .i64 (xs.getD k tlz).u) ∧ (flR xs)[k * 4 + 1]? = some (.int .i64 (xs.getD k tlz).r) ∧ (flR xs)[k * 4 + 2]? = some (.int .i64 (xs.getD k tlz).d) ∧ (flR xs)[k * 4 + 3]? = some (.int .i64 (xs.getD k tlz).l)
  | [], k, h => by simp at h
  | p :: ps, 0, h => by unfold flR; rw [List.flatMap_cons]; exact ⟨rfl, rfl, rfl, rfl⟩
  | p :: ps, k + 1, h => by
    have := flR_at ps k (by simpa using h)
    unfold flR at this ⊢
    rw [List.flatMap_cons, List.getElem?_append_right (by simp; omega), List.getElem?_append_right (by simp; omega), List.getElem?_append_right (by simp; omega), List.getElem?_append_right (by simp; omega)]
    simp only [List.length_cons, List.length_nil]
    rw [show (k + 1) * 4 - (0 + 1 + 1 + 1 + 1) = k * 4 by omega, show (k + 1) * 4 + 1 - (0 + 1 + 1 + 1 + 1) = k * 4 + 1 by omega, show (k + 1) * 4 + 2 - (0 + 1 + 1 + 1 + 1) = k * 4 + 2 by omega, show (k + 1) * 4 + 3 - (0 + 1 + 1 + 1 + 1) = k * 4 + 3 by omega]
    exact this
theorem ArgT.of {w : World} {B : Nat} {xs : List TlT} {a : Option Addr} {n c : Nat} (h : w.ownsRow B 47 4 (.slice a n c) n (flR xs)) (hn : n = xs.length) (hm : n ≤ 16) : ArgT w xs a n c := by
  refine ⟨hn, by unfold maxLen; omega, fun k hk => ?_⟩
  rcases h.2 with ⟨_, e⟩ | ⟨g, cap, cur, e, hg, hb, h1, h2, h3, h4⟩
  · omega
  · injection e with e1 e2 e3
    obtain ⟨f0, f1, f2, f3⟩ := flR_at xs k hk
    refine ⟨g, 0, e1, lt_blockT hb, ?_, ?_, ?_, ?_⟩
    · rw [cell_of_row w _ _ _ _ _ hb, ← f0, ← h4, List.getElem?_take, if_pos (by rw [hn]; omega), Nat.zero_add]; simp
    · rw [cell_of_row w _ _ _ _ _ hb, ← f1, ← h4, List.getElem?_take, if_pos (by rw [hn]; omega), Nat.zero_add]; simp
    · rw [cell_of_row w _ _ _ _ _ hb, ← f2, ← h4, List.getElem?_take, if_pos (by rw [hn]; omega), Nat.zero_add]; simp
    · rw [cell_of_row w _ _ _ _ _ hb, ← f3, ← h4, List.getElem?_take, if_pos (by rw [hn]; omega), Nat.zero_add]; simp
theorem info_tileW : (Tryd.prog.info? 47).map (fun i => (i.zero, i.size, i.bytes)) = some (some (.agg #[.int .i64 0, .int .i64 0, .int .i64 0, .int .i64 0]), 4, 32) := by kernel_rfl
/-- The tiles told by bits, k of them looked at. -/
def UnP (b : BdW) (r c k m : Nat) : Prop := m < 65536 ∧ ∀ i, m.testBit i = true ↔ (i < k ∧ ∀ j, j < i → inW b r c j ≠ inW b r c i)
theorem UnP.start (b : BdW) (r c : Nat) : UnP b r c 0 0 := ⟨by omega, fun i => by simp⟩
def ahL (b : BdW) (r c k : Nat) : List TlT := (List.range k).map (inW b r c)
theorem ahL_succ (b : BdW) (r c k : Nat) : ahL b r c (k + 1) = ahL b r c k ++ [inW b r c k] := by unfold ahL; rw [List.range_succ]; simp
theorem mem_ahL {b : BdW} {r c k : Nat} {t : TlT} : t ∈ ahL b r c k ↔ ∃ j, j < k ∧ inW b r c j = t := by unfold ahL; simp
theorem UnP.no {b : BdW} {r c k m : Nat} (h : UnP b r c k m) (q : inW b r c k ∈ ahL b r c k) : UnP b r c (k + 1) m := by
  refine ⟨h.1, fun i => ?_⟩
  rw [h.2 i]
  constructor
  · rintro ⟨h1, h2⟩; exact ⟨by omega, h2⟩
  · rintro ⟨h1, h2⟩
    by_cases e : i = k
    · subst e
      obtain ⟨j, hj, e⟩ := mem_ahL.1 q
      exact absurd e (h2 j hj)
    · exact ⟨by omega, h2⟩
theorem UnP.yes {b : BdW} {r c k m : Nat} (h : UnP b r c k m) (q : inW b r c k ∉ ahL b r c k) (hk : k < 16) : UnP b r c (k + 1) (m ||| 2 ^ k) := by
  refine ⟨Nat.or_lt_two_pow (n := 16) h.1 (Nat.pow_lt_pow_right (by omega) hk), fun i => ?_⟩
  rw [Nat.testBit_or, Bool.or_eq_true, h.2 i, Nat.testBit_two_pow, decide_eq_true_eq]
  constructor
  · rintro (⟨h1, h2⟩ | rfl)
    · exact ⟨by omega, h2⟩
    · exact ⟨by omega, fun j hj e => q (mem_ahL.2 ⟨j, hj, e⟩)⟩
  · rintro ⟨h1, h2⟩
    by_cases e : i = k
    · exact Or.inr e.symm
    · exact Or.inl ⟨by omega, h2⟩
theorem shl_small {q : Nat} (h : q < 16) : IntKind.u64.wrap ((2 : Int) ^ q) = ((2 ^ q : Nat) : Int) := by
  have h1 : 2 ^ q < 2 ^ 16 := Nat.pow_lt_pow_right (by omega) h
  have e : ((2 : Int) ^ q) = ((2 ^ q : Nat) : Int) := by push_cast; rfl
  rw [e, IntKind.wrap_u64]
  generalize 2 ^ q = z at h1
  omega
set_option maxRecDepth 100000 in
set_option maxHeartbeats 12800000 in
theorem unlike_any (b : BdW) (g r c n : Nat) (w : World) (hB : BrdA w g b) (hb : BokW b) (hr : r < 5) (hc : c < 5) (hn : n ≤ 16) :
    Calls Tryd.prog 27 #[.pointer (some ⟨g, 0, none⟩), .int .i64 (r : Int), .int .i64 (c : Int), .int .i64 (n : Int)] w fun e w' => (∃ m, UnP b r c n m ∧ e = .returned (.int .u64 (m : Int))) ∧ Below w.heap.size w w' := by
  have INC := hide' (fun (k : Nat) (V : World) (h : Below w.heap.size w V) (hk : k < 16) => in_any b g r c k V (hB.below h) hb hr hc hk)
  obtain ⟨i0, hi0, hz0, hz1, hz2⟩ := info_parts info_tileW
  clear hB hb
  go_enter Tryd.func27, Tryd.ntmps27
  go_wp2
  go_loopw [9, 10, 11, 12, 14] (fun mv av _ _ iv wr => ∃ (k m : Nat) (oa : Option Addr) (oc : Nat), mv = .int .u64 (m : Int) ∧ av = .slice oa k oc ∧ iv = .int .i64 (k : Int) ∧ k ≤ n ∧ Hid (UnP b r c k m) ∧ Hid (wr.ownsRow w.heap.size 47 4 (.slice oa k oc) k (flR (ahL b r c k))) ∧ Hid (Below w.heap.size w wr)) (fun _ _ _ _ iv _ => n - (intOf iv).toNat)
  case atStart => exact ⟨0, 0, none, 0, rfl, rfl, rfl, by omega, hide' (UnP.start b r c), hide' (World.ownsRow_nil _ _ _ _), hide' (Below.refl _ _)⟩
  case round =>
    obtain ⟨k, m, oa, oc, rfl, rfl, rfl, hk, UP, OW, BW⟩ := hrel
    by_cases d : (k : Int) < (n : Int)
    · have k16 : k < 16 := by omega
      have IC := hide' (INC.out k wr BW.out k16)
      have NO := hide' (fun h => UP.out.no h)
      have YES := hide' (fun h => UP.out.yes h k16)
      have AS := hide' (ahL_succ b r c k)
      have ml := UP.out.1
      obtain ⟨q, hq⟩ : ∃ q, inW b r c k = q := ⟨_, rfl⟩
      rw [hq] at IC NO YES AS
      clear hq UP
      go_wp2_with fail
      refine IC.out.mono ?_
      rintro e w3 ⟨rfl, b3⟩
      obtain ⟨w4, hw4⟩ : ∃ w4, w3.alloc (.cells #[.int .i64 q.u, .int .i64 q.r, .int .i64 q.d, .int .i64 q.l] 47) = w4 := ⟨_, rfl⟩
      have K4 := (show Below w3.heap.size w3 w4 by rw [← hw4]; exact (Below.refl _ _).alloc (Nat.le_refl _) _)
      have G4 := hide' (show w4.heap[w3.heap.size]? = some (.cells #[.int .i64 q.u, .int .i64 q.r, .int .i64 q.d, .int .i64 q.l] 47 (0, 0)) by rw [← hw4]; exact heap_alloc_new _ _)
      have O4 := hide' (own_alloc (own_alloc OW.out b3) K4)
      have B4 := hide' ((BW.out.trans (b3.mono BW.out.size)).trans (K4.mono (Nat.le_trans BW.out.size b3.size)))
      have CC := hide' (containsT_any (ahL b r c k) oa k oc q w4 (ArgT.of O4.out (by unfold ahL; simp) (by omega)) (by omega))
      have y0 : w4.cell? ⟨w3.heap.size, 0, none⟩ = some (.int .i64 q.u) := by rw [cell_of_row w4 _ _ _ _ _ G4.out]; rfl
      have y1 : w4.cell? ⟨w3.heap.size, 1, none⟩ = some (.int .i64 q.r) := by rw [cell_of_row w4 _ _ _ _ _ G4.out]; rfl
      have y2 : w4.cell? ⟨w3.heap.size, 2, none⟩ = some (.int .i64 q.d) := by rw [cell_of_row w4 _ _ _ _ _ G4.out]; rfl
      have y3 : w4.cell? ⟨w3.heap.size, 3, none⟩ = some (.int .i64 q.l) := by rw [cell_of_row w4 _ _ _ _ _ G4.out]; rfl
      clear b3 K4 OW IC
      go_upto_region 7 with fail
      try rw [hw4]
      clear hw4
      go_wp2_with fail
      refine CC.out.mono ?_
      rintro e w5 ⟨⟨z, rfl, hz⟩, b5⟩
      have O5 := hide' (own_alloc O4.out b5)
      have B5 := hide' (B4.out.trans (b5.mono B4.out.size))
      have G5 := (b5.block _ (lt_blockT G4.out)).trans G4.out
      obtain ⟨tb, htb⟩ : ∃ tb, w3.heap.size = tb := ⟨_, rfl⟩
      rw [htb] at G5
      have x0 : w5.cell? ⟨tb, 0, none⟩ = some (.int .i64 q.u) := by rw [cell_of_row w5 _ _ _ _ _ G5]; rfl
      have x1 : w5.cell? ⟨tb, 1, none⟩ = some (.int .i64 q.r) := by rw [cell_of_row w5 _ _ _ _ _ G5]; rfl
      have x2 : w5.cell? ⟨tb, 2, none⟩ = some (.int .i64 q.d) := by rw [cell_of_row w5 _ _ _ _ _ G5]; rfl
      have x3 : w5.cell? ⟨tb, 3, none⟩ = some (.int .i64 q.l) := by rw [cell_of_row w5 _ _ _ _ _ G5]; rfl
      rw [htb]
      obtain ⟨w6, hw6⟩ : ∃ w6, w5.alloc (.cells #[.int .i64 q.u, .int .i64 q.r, .int .i64 q.d, .int .i64 q.l] 47) = w6 := ⟨_, rfl⟩
      have K6 := (show Below w5.heap.size w5 w6 by rw [← hw6]; exact (Below.refl _ _).alloc (Nat.le_refl _) _)
      have O6 := hide' (own_alloc O5.out K6)
      have B6 := hide' (B5.out.trans (K6.mono B5.out.size))
      have NB := hide' (show ∀ j u, (flR [q])[j]? = some u → w6.cell? ((⟨w5.heap.size, 0, none⟩ : Addr).add j) = some u from World.news_of_block (cs := #[.int .i64 q.u, .int .i64 q.r, .int .i64 q.d, .int .i64 q.l]) (by rw [← hw6]; exact heap_alloc_new _ _))
      have HW6 := hide' hw6
      have FIN := hide' (fun (w7 : World) (gg cap : Nat) (hown : w7.ownsRow w.heap.size 47 4 (.slice (some ⟨gg, 0, none⟩) (k + 1) cap) (k + 1) (flR (ahL b r c k) ++ flR [q])) (hgr : w6.grownBy w7 (Value.slice oa k oc).ownBlock) => show w7.ownsRow w.heap.size 47 4 (.slice (some ⟨gg, 0, none⟩) (k + 1) cap) (k + 1) (flR (ahL b r c (k + 1))) ∧ Below w.heap.size w w7 from ⟨by rw [AS.out, flR_append]; exact hown, B6.out.trans ⟨hgr.os, hgr.tape, hgr.output, hgr.size, fun p hp => hgr.block p (Nat.lt_of_lt_of_le hp B6.out.size) (fun e => by have := (O6.out.lt p e.symm).1; omega)⟩⟩)
      clear b5 K6 hw6 G5 htb y0 y1 y2 y3 CC O4 B4
      cases z with
      | true =>
        have UN := hide' (NO.out (hz.1 rfl))
        clear hz
        go_wp2_with (at_builtin; (try rw [HW6.out]); go_loud (refine wpList_append_lies _ rfl _ _ 22 rfl w.heap.size 47 i0 _ 4 32 Tryd.underlying22 hi0 hz0 hz1 hz2 rfl (by decide) (.slice oa k oc) k (flR (ahL b r c k)) rfl O6.out ⟨w5.heap.size, 0, none⟩ 1 1 (flR [q]) rfl rfl NB.out (one_flR _) (by omega) (by unfold maxLen; omega) (by omega) B6.out.size w6.heap.size rfl ?_; intro g7 cap7 w7 hown hgr hat hlt; go_frame))
        obtain ⟨o7, b7⟩ := FIN.out w7 g7 cap7 hown hgr
        exact ⟨⟨k + 1, m, some ⟨g7, 0, none⟩, cap7, rfl, rfl, by go_num, by omega, UN, hide' o7, hide' b7⟩, by simp [intOf]; omega⟩
      | false =>
        have UN := hide' (YES.out (fun h => by have := hz.2 h; cases this))
        clear hz
        have sh := shl_small k16
        have ob : bits .or .u64 (m : Int) ((2 ^ k : Nat) : Int) = ((m ||| 2 ^ k : Nat) : Int) := bits_or_u64_nat m (2 ^ k) (by omega) (Nat.lt_of_lt_of_le (Nat.pow_lt_pow_right (by omega) k16) (by decide))
        obtain ⟨pk, hpk⟩ : ∃ pk, 2 ^ k = pk := ⟨_, rfl⟩
        rw [hpk] at sh ob UN
        have k0 : (0 : Int) ≤ (k : Int) := by omega
        have k64 : (k : Int) ≤ 64 := by omega
        clear hpk
        go_wp2_with (at_builtin; (try rw [HW6.out]); go_loud (refine wpList_append_lies _ rfl _ _ 22 rfl w.heap.size 47 i0 _ 4 32 Tryd.underlying22 hi0 hz0 hz1 hz2 rfl (by decide) (.slice oa k oc) k (flR (ahL b r c k)) rfl O6.out ⟨w5.heap.size, 0, none⟩ 1 1 (flR [q]) rfl rfl NB.out (one_flR _) (by omega) (by unfold maxLen; omega) (by omega) B6.out.size w6.heap.size rfl ?_; intro g7 cap7 w7 hown hgr hat hlt; go_frame))
        obtain ⟨o7, b7⟩ := FIN.out w7 g7 cap7 hown hgr
        exact ⟨⟨k + 1, m ||| pk, some ⟨g7, 0, none⟩, cap7, rfl, rfl, by go_num, by omega, UN, hide' o7, hide' b7⟩, by simp [intOf]; omega⟩
    · obtain rfl : k = n := by omega
      go_wp2
      go_ret
      exact ⟨⟨m, UP.out, rfl⟩, BW.out⟩
end Go.Proofs.YthmeapplnocfjaaDoor

