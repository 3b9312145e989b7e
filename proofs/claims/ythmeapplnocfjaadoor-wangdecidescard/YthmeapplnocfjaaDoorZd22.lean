/-
  What the last text of this claim leans on, part 22: Wv3, Wv4, Wx4, Wx5.
-/
import Derived.Test.YthmeapplnocfjaaDoorZd20
import Derived.Test.YthmeapplnocfjaaDoorZd11
import Derived.Test.YthmeapplnocfjaaDoorZd6
import Derived.Test.YthmeapplnocfjaaDoorZd9
import Derived.Test.YthmeapplnocfjaaDoorZd21
import Derived.Laws.CopyRow
namespace Go.Proofs.YthmeapplnocfjaaDoor
open Go.RowKit
set_option linter.unusedVariables false
set_option linter.unusedSimpArgs false
theorem run_copy_four {P : Program} (w : World) (dT sT ty elem : TypeId) (g o dLen dCap : Nat) (a : Addr) (sLen sCap : Nat) (cur : Array Value) (t : TypeId) (cs : List Value)
    (hu : P.underlying dT = some (.slice elem)) (hs : (P.info? elem).map (·.size) = some 4)
    (hg : w.heap[g]? = some (.cells cur t (0, 0))) (hn : cs.length = Nat.min sLen dLen * 4)
    (hsrc : ∀ j v, cs[j]? = some v → w.cell? (a.add j) = some v) (hfit : o + cs.length ≤ cur.size) (h1 : ∀ v ∈ cs, v.oneCell' = true) :
    (Builtin.copy_ #[dT, sT] ty #[.slice (some ⟨g, o, none⟩) dLen dCap, .slice (some a) sLen sCap]).run P w =
      .ok (goInt (Nat.min sLen dLen)) (w.setRow g (cur.toList.take o ++ cs ++ cur.toList.drop (o + cs.length)).toArray) := by
  have hl := run_loadCells_list (P := P) w a cs hsrc
  have hst := run_storeCells_at P g o t cs 0 cur w hg (by simpa using hfit) h1
  cases hq : P.info? elem with
  | none => simp [hq] at hs
  | some i =>
    have hi : i.size = 4 := by simpa [hq] using hs
    simp [Builtin.copy_, run_underlying hu, Builtin.lenOf, Builtin.firstCells, sizeOf, typeInfo, hq, hi, ← hn, hl, hst]
theorem slice_tilesW (o : Nat) (w : World) : (Instr.sliceAt 53 (.pointer (some ⟨o, 0, none⟩)) none none none).run Tryd.prog w = .ok (.slice (some ⟨o, 0, none⟩) 16 16) w := by kernel_rfl
/-- The tiles laid on a board; the cells that are looked at. -/
def laT (xs : List TlT) (W H : Nat) (ring : Bool) : BdW := ⟨fun k => xs.getD k tlz, W, H, ring, fun _ _ => 0⟩
theorem flR_len : ∀ xs : List TlT, (flR xs).length = xs.length * 4
  | [] => rfl
  | l :: ls => by
    have := flR_len ls
    unfold flR at *
    rw [List.flatMap_cons, List.length_append, this, List.length_cons]
    simp
    omega
theorem copied {xs : List TlT} {W H : Nat} {ring : Bool} (h : xs.length ≤ 16) : (((arV 92 (bdV ⟨fun _ => tlz, W, H, ring, fun _ _ => 0⟩)).toList.take 0 ++ flR xs ++ (arV 92 (bdV ⟨fun _ => tlz, W, H, ring, fun _ _ => 0⟩)).toList.drop (0 + (flR xs).length)).toArray) = arV 92 (bdV (laT xs W H ring)) := by
  have hl := flR_len xs
  have el : (arV 92 (bdV ⟨fun _ => tlz, W, H, ring, fun _ _ => 0⟩)).toList = (List.range 92).map (bdV ⟨fun _ => tlz, W, H, ring, fun _ _ => 0⟩) := by simp [arV]
  rw [el]
  show _ = ((List.range 92).map (bdV (laT xs W H ring))).toArray
  rw [List.take_zero, List.nil_append, Nat.zero_add]
  congr 1
  apply List.ext_getElem?
  intro i
  by_cases q : i < (flR xs).length
  · rw [List.getElem?_append_left q]
    have k16 : i / 4 < xs.length := by omega
    have i64 : i < 64 := by omega
    have e2 : ((List.range 92).map (bdV (laT xs W H ring)))[i]? = some (bdV (laT xs W H ring) i) := by simp [show i < 92 by omega]
    rw [e2]
    have := flR_at xs (i / 4) k16
    unfold bdV laT
    rw [if_pos i64]
    have m4 : i % 4 < 4 := Nat.mod_lt _ (by omega)
    rcases (show i % 4 = 0 ∨ i % 4 = 1 ∨ i % 4 = 2 ∨ i % 4 = 3 by omega) with m | m | m | m
    · have e : i / 4 * 4 = i := by omega
      have t := this.1
      rw [e] at t
      rw [m]; exact t
    · have e : i / 4 * 4 + 1 = i := by omega
      have t := this.2.1
      rw [e] at t
      rw [m]; exact t
    · have e : i / 4 * 4 + 2 = i := by omega
      have t := this.2.2.1
      rw [e] at t
      rw [m]; exact t
    · have e : i / 4 * 4 + 3 = i := by omega
      have t := this.2.2.2
      rw [e] at t
      rw [m]; exact t
  · rw [List.getElem?_append_right (by omega), List.getElem?_drop, show (flR xs).length + (i - (flR xs).length) = i by omega]
    by_cases i92 : i < 92
    · have e2 : ((List.range 92).map (bdV (laT xs W H ring)))[i]? = some (bdV (laT xs W H ring) i) := by simp [i92]
      have e3 : ((List.range 92).map (bdV ⟨fun _ => tlz, W, H, ring, fun _ _ => 0⟩))[i]? = some (bdV ⟨fun _ => tlz, W, H, ring, fun _ _ => 0⟩ i) := by simp [i92]
      rw [e2, e3]
      congr 1
      unfold bdV laT
      by_cases q2 : i < 64
      · rw [if_pos q2, if_pos q2]
        have : xs.getD (i / 4) tlz = tlz := by
          have : xs.length ≤ i / 4 := by omega
          simp [List.getD, this]
        show Value.int .i64 (tlC tlz (i % 4)) = Value.int .i64 (tlC (xs.getD (i / 4) tlz) (i % 4))
        rw [this]
      · rw [if_neg q2, if_neg q2]
    · rw [List.getElem?_eq_none (by simp; omega), List.getElem?_eq_none (by simp; omega)]
theorem arg_news {w : World} {xs : List TlT} {g off n c : Nat} (h : ArgT w xs (some ⟨g, off, none⟩) n c) : ∀ j v, (flR xs)[j]? = some v → w.cell? ((⟨g, off, none⟩ : Addr).add j) = some v := fun j v hv => by
  rw [Addr.add_mid]
  have hj : j < xs.length * 4 := by
    have := (List.getElem?_eq_some_iff.1 hv).1
    rwa [flR_len] at this
  obtain ⟨g', off', e, _, c0, c1, c2, c3⟩ := h.cells (j / 4) (by omega)
  cases e
  obtain ⟨f0, f1, f2, f3⟩ := flR_at xs (j / 4) (by omega)
  have m4 : j % 4 < 4 := Nat.mod_lt _ (by omega)
  rcases (show j % 4 = 0 ∨ j % 4 = 1 ∨ j % 4 = 2 ∨ j % 4 = 3 by omega) with m | m | m | m
  · have e : j / 4 * 4 = j := by omega
    rw [e] at f0 c0
    rw [f0] at hv; rw [← hv]; exact c0
  · have e : j / 4 * 4 + 1 = j := by omega
    rw [Nat.add_assoc] at c1
    rw [e] at f1 c1
    rw [f1] at hv; rw [← hv]; exact c1
  · have e : j / 4 * 4 + 2 = j := by omega
    rw [Nat.add_assoc] at c2
    rw [e] at f2 c2
    rw [f2] at hv; rw [← hv]; exact c2
  · have e : j / 4 * 4 + 3 = j := by omega
    rw [Nat.add_assoc] at c3
    rw [e] at f3 c3
    rw [f3] at hv; rw [← hv]; exact c3
end Go.Proofs.YthmeapplnocfjaaDoor

namespace Go.Proofs.YthmeapplnocfjaaDoor
open Go.RowKit
set_option linter.unusedVariables false
set_option linter.unusedSimpArgs false
/-- While it is laid: cells ahead of this one are done. -/
structure LyB (xs : List TlT) (n W H : Nat) (ring : Bool) (B : BdW) (row col : Nat) : Prop where
  t : B.t = (laT xs W H ring).t
  w : B.W = W
  h : B.H = H
  r : B.ring = ring
  may : ∀ r c, B.may r c < 65536
  done : ∀ r c, (r < row ∨ r = row ∧ c < col) → c < W → UnP (laT xs W H ring) r c n (B.may r c)
theorem LyB.inn {xs : List TlT} {n W H : Nat} {ring : Bool} {B : BdW} {row col : Nat} (h : LyB xs n W H ring B row col) (r c k : Nat) : inW B r c k = inW (laT xs W H ring) r c k := by
  unfold inW
  rw [h.t, h.w, h.h, h.r]
  rfl
theorem LyB.un {xs : List TlT} {n W H : Nat} {ring : Bool} {B : BdW} {row col : Nat} (h : LyB xs n W H ring B row col) {r c m : Nat} (q : UnP B r c n m) : UnP (laT xs W H ring) r c n m := ⟨q.1, fun i => by
  rw [q.2 i]
  simp only [h.inn]⟩
theorem LyB.next {xs : List TlT} {n W H : Nat} {ring : Bool} {B : BdW} {row col m : Nat} (h : LyB xs n W H ring B row col) (q : UnP B row col n m) : LyB xs n W H ring (setM B row col m) row (col + 1) :=
  ⟨h.t, h.w, h.h, h.r, fun r c => by show (if r = row ∧ c = col then m else B.may r c) < 65536; split; exact q.1; exact h.may r c, fun r c hh hc => by
    show UnP _ r c n (if r = row ∧ c = col then m else B.may r c)
    by_cases e : r = row ∧ c = col
    · rw [if_pos e, e.1, e.2]; exact h.un q
    · rw [if_neg e]; exact h.done r c (by omega) hc⟩
theorem LyB.row {xs : List TlT} {n W H : Nat} {ring : Bool} {B : BdW} {row : Nat} (h : LyB xs n W H ring B row W) : LyB xs n W H ring B (row + 1) 0 := ⟨h.t, h.w, h.h, h.r, h.may, fun r c hh hc => h.done r c (by omega) hc⟩
theorem getD_col {xs : List TlT} (ht : tlF xs = 0) (k : Nat) : (0 ≤ (xs.getD k tlz).u ∧ (xs.getD k tlz).u ≤ 7) ∧ (0 ≤ (xs.getD k tlz).r ∧ (xs.getD k tlz).r ≤ 7) ∧ (0 ≤ (xs.getD k tlz).d ∧ (xs.getD k tlz).d ≤ 7) ∧ (0 ≤ (xs.getD k tlz).l ∧ (xs.getD k tlz).l ≤ 7) := by
  by_cases hk : k < xs.length
  · have al : xs.all tlB = true := by
      unfold tlF at ht
      split at ht
      · cases ht
      · split at ht
        · assumption
        · cases ht
    have e : xs.getD k tlz = xs[k] := by simp [List.getD, hk]
    have := List.all_eq_true.1 al xs[k] (List.getElem_mem hk)
    rw [e]
    unfold tlB clB at this
    simp at this
    omega
  · have e : xs.getD k tlz = tlz := by simp [List.getD, Nat.le_of_not_lt hk]
    rw [e]
    exact ⟨⟨by decide, by decide⟩, ⟨by decide, by decide⟩, ⟨by decide, by decide⟩, by decide, by decide⟩
theorem LyB.ok {xs : List TlT} {n W H : Nat} {ring : Bool} {B : BdW} {row col : Nat} (h : LyB xs n W H ring B row col) (ht : tlF xs = 0) (h1 : 1 ≤ W) (h2 : W ≤ 5) (h3 : 1 ≤ H) (h4 : H ≤ 5) : BokW B := ⟨by rw [h.w]; exact h1, by rw [h.w]; exact h2, by rw [h.h]; exact h3, by rw [h.h]; exact h4, fun k => by rw [h.t]; exact getD_col ht k, h.may⟩
theorem LyB.fin {xs : List TlT} {n W H : Nat} {ring : Bool} {B : BdW} (h : LyB xs n W H ring B H 0) : LaiW xs n W H ring B := ⟨h.w, h.h, h.r, fun k _ => by rw [h.t]; rfl, fun r c k hr hc => by
  rw [(h.done r c (Or.inl hr) hc).2 k]
  unfold layM
  simp only [h.inn]⟩
/-- What lay answers. -/
def LyO (xs : List TlT) (n W H : Nat) (ring : Bool) (w : World) (e : Ending) (w' : World) : Prop := ∃ B, LaiW xs n W H ring B ∧ BokW B ∧ e = .returned (.agg (arV 92 (bdV B))) ∧ Below w.heap.size w w'
set_option maxRecDepth 100000 in
set_option maxHeartbeats 12800000 in
theorem lay_anyW (xs : List TlT) (a : Option Addr) (n c W H : Nat) (ring : Bool) (w : World) (hA : ArgT w xs a n c) (ht : tlF xs = 0) (hn1 : 1 ≤ n) (hn : n ≤ 16) (hW1 : 1 ≤ W) (hW : W ≤ 5) (hH1 : 1 ≤ H) (hH : H ≤ 5) :
    Calls Tryd.prog 20 #[.slice a n c, .int .i64 (W : Int), .int .i64 (H : Int), .bool ring] w (LyO xs n W H ring w) := by
  have HL := hide' hA.len
  obtain ⟨tg, toff, rfl, tgl, -⟩ := hA.cells 0 (by have := hA.len; omega)
  have OK := hide' (fun (B : BdW) (r q : Nat) (h : LyB xs n W H ring B r q) => h.ok ht hW1 hW hH1 hH)
  have zv := zero_boardW
  obtain ⟨Z, hZ⟩ : ∃ Z, arV 92 (bdV zeB) = Z := ⟨_, rfl⟩
  rw [hZ] at zv
  have ZS : Z.size = 92 := by rw [← hZ, arV_size]
  have zn : ¬ Z = #[] := fun e => by rw [e] at ZS; simp at ZS
  obtain ⟨C, hC⟩ : ∃ C, ((Z.setIfInBounds 64 (.int .i64 (W : Int))).setIfInBounds 65 (.int .i64 (H : Int))).setIfInBounds 66 (.bool ring) = C := ⟨_, rfl⟩
  have CB := hide' (show C = arV 92 (bdV ⟨fun _ => tlz, W, H, ring, fun _ _ => 0⟩) by rw [← hC, ← hZ, set_boardW]; rfl)
  have CS := hide' (show C.size = 92 by rw [CB.out, arV_size])
  have CA := hide' (show C.all (·.oneCell') = true by rw [CB.out]; exact arV_all (fun k _ => bdV_one _ k))
  have HC := hide' hC
  obtain ⟨w1, hw1⟩ : ∃ w1, w.alloc (.cells Z 58) = w1 := ⟨_, rfl⟩
  have B1 := (show Below w.heap.size w w1 by rw [← hw1]; exact (Below.refl _ _).alloc (Nat.le_refl _) _)
  have G1 : w1.heap[w.heap.size]? = some (.cells Z 58 (0, 0)) := by rw [← hw1]; exact heap_alloc_new _ _
  have HW1 := hide' hw1
  have G2 := heap_alloc_new w1 (.cells Z 58)
  obtain ⟨o, ho⟩ : ∃ o, w1.heap.size = o := ⟨_, rfl⟩
  obtain ⟨w2, hw2⟩ : ∃ w2, (w1.alloc (.cells Z 58)).setRow o C = w2 := ⟨_, rfl⟩
  have lo : w.heap.size < o := by have := lt_blockT G1; omega
  have R2 : w2.heap[o]? = some (.cells C 58 (0, 0)) := by rw [← hw2, ← ho]; exact setRow_heap _ _ _ _ _ _ G2
  have B2 := (show Below w.heap.size w w2 by rw [← hw2]; exact belowW_set (B1.alloc B1.size _) (by omega) _)
  have Q2 : w2.heap[w.heap.size]? = some (.cells Z 58 (0, 0)) := by
    rw [← hw2, setRow_other _ _ _ _ (by omega)]
    exact (heap_alloc_old w1 _ (lt_blockT G1)).trans G1
  have fl := flR_len xs
  have hcp := run_copy_four (P := Tryd.prog) w2 22 22 3 47 o 0 16 16 ⟨tg, toff, none⟩ n c C 58 (flR xs) Tryd.underlying22 (by kernel_rfl) R2 (by rw [fl, ← HL.out]; congr 1; exact (Nat.min_eq_left hn).symm) (arg_news (hA.below B2)) (by rw [CS.out, fl, ← HL.out]; omega) (one_flR _)
  rw [CB.out, copied (by rw [← HL.out]; exact hn), show Nat.min n 16 = n from Nat.min_eq_left hn] at hcp
  obtain ⟨w3, hw3⟩ : ∃ w3, w2.setRow o (arV 92 (bdV (laT xs W H ring))) = w3 := ⟨_, rfl⟩
  rw [hw3] at hcp
  have S3 := hide' (show TnS w w3 Z o (laT xs W H ring) from ⟨by rw [← hw3]; exact belowW_set B2 (by omega) _, by rw [← hw3, setRow_other _ _ _ _ (by omega)]; exact Q2, by unfold BrdA; rw [← hw3]; exact setRow_heap _ _ _ _ _ _ R2, lo⟩)
  have L3 := hide' (show LyB xs n W H ring (laT xs W H ring) 0 0 from ⟨rfl, rfl, rfl, rfl, fun r c => by show (0 : Nat) < 65536; decide, fun r c h => by omega⟩)
  have sl := slice_tilesW o w2
  have HW2 := hide' hw2
  have HO := hide' ho
  clear hw1 hw2 hw3 B1 G1 R2 B2 Q2 CB hC hA ht ho
  go_enter Tryd.func20, Tryd.ntmps20
  go_upto_region 1 with fail
  try rw [HW1.out]
  go_upto_region 2 with (refine wpList_store_row rfl 58 _ _ rfl w1.heap.size C rfl (by show Value.agg _ = _; rw [HC.out]) 58 Z G2 (by rw [CS.out]; exact size_boardW) (by rw [CS.out]; exact ZS) CA.out ?_)
  rw [HO.out, HW2.out]
  clear G2
  go_wp2
  clear hcp sl
  clear HW1 HW2 HO HC CS CA zv
  go_loopw [10, 11, 21] (fun _ _ iv wr => ∃ (row : Nat) (B : BdW), iv = .int .i64 (row : Int) ∧ row ≤ H ∧ Hid (TnS w wr Z o B) ∧ Hid (LyB xs n W H ring B row 0)) (fun _ _ iv _ => H - (intOf iv).toNat)
  case atStart => exact ⟨0, _, rfl, by omega, S3, L3⟩
  case round =>
    clear S3 L3
    obtain ⟨row, B, rfl, hrow, TS, LB⟩ := hrel
    by_cases d : (row : Int) < (H : Int)
    · go_wp2
      obtain ⟨VA, rfl⟩ : ∃ VV, VV = wr := ⟨_, rfl⟩
      go_loopw [11, 25] (fun _ iv wr => ∃ (col : Nat) (B : BdW), iv = .int .i64 (col : Int) ∧ col ≤ W ∧ Hid (TnS w wr Z o B) ∧ Hid (LyB xs n W H ring B row col)) (fun _ iv _ => W - (intOf iv).toNat)
      case atStart => exact ⟨0, B, rfl, by omega, TS, LB⟩
      case round =>
        clear TS LB
        obtain ⟨col, B, rfl, hcol, TS, LB⟩ := hrel
        by_cases e : (col : Int) < (W : Int)
        · have r5 : row < 5 := by omega
          have c5 : col < 5 := by omega
          have UC := hide' (fun (V : World) (h : Below wr.heap.size wr V) => unlike_any B o row col n V (TS.out.brd.below h) (OK.out B row col LB.out) r5 c5 hn)
          have row0 : (0 : Int) ≤ (row : Int) := by omega
          have row5 : (row : Int) < 5 := by omega
          have col0 : (0 : Int) ≤ (col : Int) := by omega
          have col5 : (col : Int) < 5 := by omega
          have AF := hide' (fun (V : World) (h : Below wr.drew.heap.size wr.drew V) => show V.cell? ⟨o, 67 + row * 5 + col, none⟩ = some (.int .u64 ((B.may row col : Nat) : Int)) ∧ V.frozen? ⟨o, 67 + row * 5 + col, none⟩ = false from by
            have k : BrdA V o B := (h.block o (lt_blockT TS.out.brd)).trans TS.out.brd
            exact ⟨k.may r5 c5, frozen_of_row V _ _ _ _ k⟩)
          have ol := lt_blockT TS.out.brd
          have NX := hide' (fun (V : World) (m : Nat) (h : Below wr.drew.heap.size wr.drew V) (q : UnP B row col n m) => show TnS w (V.setCell ⟨o, 67 + row * 5 + col, none⟩ (.int .u64 (m : Int))) Z o (setM B row col m) ∧ LyB xs n W H ring (setM B row col m) row (col + 1) from by
            have tk := TS.out.keep (V := V) ⟨h.os, h.tape, h.output, h.size, h.block⟩
            exact ⟨⟨tk.below.setCell (Nat.le_of_lt tk.lo) _, by rw [heap_setCell_other _ _ _ _ (Nat.ne_of_lt tk.lo)]; exact tk.res, set_mayW tk.brd r5 c5 m, tk.lo⟩, LB.out.next q⟩)
          go_upto_region 9 with fail
          go_region_with (go_at_call 27; refine (UC.out _ (by repeat (first | exact Below.refl _ _ | refine Below.drew ?_))).mono ?_; rintro e9 w9 ⟨⟨m9, hm9, rfl⟩, b9⟩; obtain ⟨q1, q2⟩ := AF.out w9 b9)
          all_goals (
            obtain ⟨T9, L9⟩ := NX.out w9 m9 b9 hm9
            have T9' := hide' T9
            have L9' := hide' L9
            clear T9 L9 hm9 b9
            go_wp2
            exact ⟨⟨col + 1, _, by go_num, by omega, T9', L9'⟩, by simp [intOf]; omega⟩)
        · obtain rfl : col = W := by omega
          have LN := hide' LB.out.row
          go_wp2
          exact ⟨⟨row + 1, B, by go_num, by omega, TS, LN⟩, by simp [intOf]; omega⟩
    · obtain rfl : row = H := by omega
      have gr := TS.out.brd
      unfold BrdA at gr
      obtain ⟨A, hA⟩ : ∃ A, arV 92 (bdV B) = A := ⟨_, rfl⟩
      rw [hA] at gr
      have os : A.size = 92 := by rw [← hA, arV_size]
      have ol : A.all (·.oneCell') = true := by rw [← hA]; exact arV_all (fun k _ => bdV_one _ k)
      have gb := TS.out.res
      have BB := hide' TS.out.below
      have FI := hide' (And.intro LB.out.fin (OK.out B row 0 LB.out))
      clear TS LB
      go_wp2_with (first
        | (refine wpList_load_row rfl 58 _ rfl o rfl 58 A (0, 0) _ gr Tryd.underlying58 rfl (by rw [os]; exact size_boardW) ?_)
        | (refine wpList_store_row rfl 58 _ _ rfl w.heap.size A rfl rfl 58 _ gb (by rw [os]; exact size_boardW) (by rw [os]; exact ZS) ol ?_))
      refine bodyPost_ret (v := .agg A) (results_cell_row Tryd.results20 _ _ w.heap.size 58 _ (0, 0) _ rfl (setRow_heap _ _ _ _ _ _ gb) Tryd.underlying58 rfl (by rw [os]; exact size_boardW)) rfl ?_
      exact ⟨B, FI.out.1, FI.out.2, by rw [hA], belowW_set BB.out (by omega) _⟩
end Go.Proofs.YthmeapplnocfjaaDoor

namespace Go.Proofs.YthmeapplnocfjaaDoor
open Go.RowKit
set_option linter.unusedVariables false
set_option linter.unusedSimpArgs false
theorem below_of_grownW {w V w' : World} {g : Nat} (k : Below w.heap.size w V) (h : V.grownBy w' (some g)) (hg : w.heap.size ≤ g) : Below w.heap.size w w' := k.trans ⟨h.os, h.tape, h.output, h.size, fun p hp => h.block p (Nat.lt_of_lt_of_le hp k.size) (fun e => by cases e; omega)⟩
end Go.Proofs.YthmeapplnocfjaaDoor

namespace Go.Proofs.YthmeapplnocfjaaDoor
open Go.RowKit
set_option linter.unusedVariables false
set_option linter.unusedSimpArgs false
theorem argP_own {w : World} {B N : Nat} {a : Option Addr} {oc : Nat} {c : Nat → Nat} (h : w.ownsRow B 3 1 (.slice a N oc) N ((List.range N).map fun i => .int .i64 ((c i : Nat) : Int))) (hN : N ≤ 25) : ArgP w ((List.range N).map fun i => ((c i : Nat) : Int)) a N oc := by
  refine ⟨by simp, by unfold maxLen; omega, fun k hk => ?_⟩
  have hk' : k < N := by simpa using hk
  rcases h.2 with ⟨_, e⟩ | ⟨g, cap, cur, e, hg, hb, h1, h2, h3, h4⟩
  · omega
  · injection e with e1 e2 e3
    refine ⟨g, 0, e1, lt_blockT hb, ?_⟩
    have : ((List.range N).map fun i => Value.int .i64 ((c i : Nat) : Int))[k]? = some (.int .i64 ((c k : Nat) : Int)) := by simp [hk']
    rw [cell_of_row w _ _ _ _ _ hb, Nat.zero_add]
    rw [← h4, List.getElem?_take, if_pos (by omega)] at this
    simp at this ⊢
    exact this
/-- What comes of a board that is laid and filled. -/
def LfO (xs : List TlT) (n W H : Nat) (ring : Bool) (w : World) (e : Ending) (w' : World) : Prop :=
  (NoneW n (W * H) (okW xs W H ring) ∧ e = .returned (.tuple #[.slice none 0 0, .iface 49 (.int .i64 5)]) ∧ Hid (Below w.heap.size w w'))
  ∨ (∃ c oa oc, FirstW n (W * H) (okW xs W H ring) c ∧ e = .returned (.tuple #[.slice oa (W * H) oc, .nilIface]) ∧ Hid (ArgP w' ((List.range (W * H)).map fun i => ((c i : Nat) : Int)) oa (W * H) oc) ∧ Hid (∀ p off, oa = some ⟨p, off, none⟩ → w.heap.size ≤ p) ∧ Hid (Below w.heap.size w w'))
theorem fill_laid (xs : List TlT) (n W H : Nat) (ring : Bool) (B : BdW) (g : Nat) (w V : World) (hL : LaiW xs n W H ring B) (hB : BokW B) (hV : BrdA V g B) (hT : TzTab w) (hb : Below w.heap.size w V) (hg : w.heap.size ≤ g) (hW : 1 ≤ W) (hW5 : W ≤ 5) (hH : 1 ≤ H) (hH5 : H ≤ 5) :
    Calls Tryd.prog 23 #[.pointer (some ⟨g, 0, none⟩)] V (LfO xs n W H ring w) := by
  refine (fill_any B g V hV hB (hT.below hb) (by have := tz_lt hT; omega)).mono ?_
  rintro e w' (⟨no, rfl, gr⟩ | ⟨c, oa, oc, fil, rfl, own, gr⟩)
  · exact Or.inl ⟨none_of hL hW hH no, rfl, hide' (below_of_grownW hb gr hg)⟩
  · have eN : B.H * B.W = W * H := by rw [hL.eW, hL.eH, Nat.mul_comm]
    have F := first_of hL hW hH fil
    rw [eN] at own
    exact Or.inr ⟨c, oa, oc, F, by rw [eN], hide' (argP_own own (Nat.le_trans (Nat.mul_le_mul hW5 hH5) (by decide))), hide' (fun p off e => Nat.le_trans hb.size (own.lt p (by rw [e]; rfl)).1), hide' (below_of_grownW hb gr hg)⟩
end Go.Proofs.YthmeapplnocfjaaDoor

