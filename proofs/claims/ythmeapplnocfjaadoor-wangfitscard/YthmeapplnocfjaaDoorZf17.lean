/-
  What the last text of this claim leans on, part 17: Wt4, Wt5.
-/
import Derived.Test.YthmeapplnocfjaaDoorZf16
namespace Go.Proofs.YthmeapplnocfjaaDoor
open Go.RowKit
set_option linter.unusedVariables false
set_option linter.unusedSimpArgs false
/-- A row of words as it lies. -/
def RowU (V : World) (g n : Nat) (f : Nat → Nat) : Prop := V.heap[g]? = some (.cells (arV n fun i => .int .u64 ((f i : Nat) : Int)) 110 (0, 0))
theorem RowU.cell {V : World} {g n : Nat} {f : Nat → Nat} (h : RowU V g n f) {k : Nat} (hk : k < n) : V.cell? ⟨g, k, none⟩ = some (.int .u64 ((f k : Nat) : Int)) := by rw [cell_of_row V _ _ _ _ _ h, arV_get _ hk]
theorem RowU.set {V : World} {g n : Nat} {f : Nat → Nat} (h : RowU V g n f) (k v : Nat) : RowU (V.setCell ⟨g, k, none⟩ (.int .u64 (v : Int))) g n (fun i => if i = k then v else f i) := by
  unfold RowU
  rw [heap_setCell_same _ _ _ _ _ _ h, arV_set]
  congr 2
  exact arV_ext fun i _ => by by_cases q : i = k <;> simp [q]
theorem RowU.below {V V' : World} {g n : Nat} {f : Nat → Nat} (h : RowU V g n f) (b : Below V.heap.size V V') : RowU V' g n f := (b.block g (lt_blockT h)).trans h
theorem made_arV (n : Nat) : madeCells #[Value.int .u64 0] n = arV n (fun _ => .int .u64 (((0 : Nat) : Nat) : Int)) := by
  apply Array.ext
  · rw [size_madeCells]; simp [arV]
  · intro i h1 h2
    simp [madeCells, arV, Nat.mod_one]
theorem infoU : (Tryd.prog.info? 110).map (fun i => (i.zero, i.size, i.bytes)) = some (some (.int .u64 0), 1, 8) := by kernel_rfl
/-- Steps that are read. -/
structure ArgQ (w : World) (ps : List (Nat × Nat)) (a : Option Addr) (n : Nat) : Prop where
  len : n = ps.length
  max : n ≤ 16777216
  cells : ∀ k, k < ps.length → ∃ g, a = some ⟨g, 0, none⟩ ∧ g < w.heap.size ∧ w.cell? ⟨g, k * 2, none⟩ = some (.int .i64 ((ps.getD k (0, 0)).1 : Int)) ∧ w.cell? ⟨g, k * 2 + 1, none⟩ = some (.int .i64 ((ps.getD k (0, 0)).2 : Int))
theorem flP_at : ∀ (ps : List (Nat × Nat)) (k : Nat), k < ps.length → (flP ps)[k * 2]? = some (.int .i64 ((ps.getD k (0, 0)).1 : Int)) ∧ (flP ps)[k * 2 + 1]? = some (.int .i64 ((ps.getD k (0, 0)).2 : Int))
  | [], k, h => by simp at h
  | p :: ps, 0, h => by unfold flP; rw [List.flatMap_cons]; exact ⟨rfl, rfl⟩
  | p :: ps, k + 1, h => by
    have := flP_at ps k (by simpa using h)
    unfold flP at this ⊢
    rw [List.flatMap_cons, List.getElem?_append_right (by simp; omega), List.getElem?_append_right (by simp; omega)]
    simp only [List.length_cons, List.length_nil]
    rw [show (k + 1) * 2 - (0 + 1 + 1) = k * 2 by omega, show (k + 1) * 2 + 1 - (0 + 1 + 1) = k * 2 + 1 by omega]
    exact this
theorem ArgQ.of {w : World} {B : Nat} {ps : List (Nat × Nat)} {a : Option Addr} {n c : Nat} (h : w.ownsRow B 108 2 (.slice a n c) n (flP ps)) (hn : n = ps.length) (hm : n ≤ 16777216) : ArgQ w ps a n := by
  refine ⟨hn, hm, fun k hk => ?_⟩
  rcases h.2 with ⟨_, e⟩ | ⟨g, cap, cur, e, hg, hb, h1, h2, h3, h4⟩
  · omega
  · injection e with e1 e2 e3
    have := flP_at ps k hk
    refine ⟨g, e1, lt_blockT hb, ?_, ?_⟩
    · rw [cell_of_row w _ _ _ _ _ hb, ← this.1, ← h4, List.getElem?_take, if_pos (by rw [hn]; omega)]
      simp
    · rw [cell_of_row w _ _ _ _ _ hb, ← this.2, ← h4, List.getElem?_take, if_pos (by rw [hn]; omega)]
      simp
theorem ArgQ.below {w V : World} {ps : List (Nat × Nat)} {a : Option Addr} {n : Nat} (h : ArgQ w ps a n) (b : Below w.heap.size w V) : ArgQ V ps a n :=
  ⟨h.len, h.max, fun k hk => by
    obtain ⟨g, e, hg, h1, h2⟩ := h.cells k hk
    exact ⟨g, e, Nat.lt_of_lt_of_le hg b.size, (b.cell hg).trans h1, (b.cell hg).trans h2⟩⟩
/-- Words that are brought on by steps. -/
def FolB (ps : List (Nat × Nat)) (f f' : Nat → Nat) : Prop := ∀ j, f' j < 18446744073709551616 ∧ ∀ q, (f' j).testBit q = true ↔ ∃ p ∈ ps, p.2 = j ∧ (f p.1).testBit q = true
theorem FolB.start (f : Nat → Nat) : FolB [] f (fun _ => 0) := fun j => ⟨by show (0 : Nat) < 18446744073709551616; decide, fun q => by simp⟩
theorem FolB.next {ps : List (Nat × Nat)} {f f' : Nat → Nat} (h : FolB ps f f') (p : Nat × Nat) (hf : f p.1 < 18446744073709551616) : FolB (ps ++ [p]) f (fun i => if i = p.2 then f' p.2 ||| f p.1 else f' i) := fun j => by
  by_cases e : j = p.2
  · subst e
    simp only [if_true]
    refine ⟨Nat.or_lt_two_pow (n := 64) (h _).1 hf, fun q => ?_⟩
    rw [Nat.testBit_or, Bool.or_eq_true, (h _).2 q]
    constructor
    · rintro (⟨x, hx, h1, h2⟩ | h2)
      · exact ⟨x, List.mem_append_left _ hx, h1, h2⟩
      · exact ⟨p, by simp, rfl, h2⟩
    · rintro ⟨x, hx, h1, h2⟩
      rcases List.mem_append.1 hx with hx | hx
      · exact Or.inl ⟨x, hx, h1, h2⟩
      · rw [List.mem_singleton.1 hx] at h2; exact Or.inr h2
  · simp only [e, if_false]
    refine ⟨(h _).1, fun q => ?_⟩
    rw [(h _).2 q]
    constructor
    · rintro ⟨x, hx, h1, h2⟩
      exact ⟨x, List.mem_append_left _ hx, h1, h2⟩
    · rintro ⟨x, hx, h1, h2⟩
      rcases List.mem_append.1 hx with hx | hx
      · exact ⟨x, hx, h1, h2⟩
      · rw [List.mem_singleton.1 hx] at h1; exact absurd h1.symm e
/-- What follow answers. -/
def FwO (ps : List (Nat × Nat)) (f : Nat → Nat) (s : Nat) (w : World) (e : Ending) (w' : World) : Prop := ∃ g f', e = .returned (.slice (some ⟨g, 0, none⟩) s s) ∧ Hid (RowU w' g s f') ∧ Hid (FolB ps f f') ∧ w.heap.size ≤ g ∧ Hid (Below w.heap.size w w')
set_option maxRecDepth 100000 in
set_option maxHeartbeats 12800000 in
theorem follow_anyW (ps : List (Nat × Nat)) (a : Option Addr) (n oc ng n0 s : Nat) (f : Nat → Nat) (w : World) (hA : ArgQ w ps a n) (hR : RowU w ng n0 f) (hf : ∀ i, f i < 18446744073709551616) (hs : s ≤ 16777216) (h0 : n0 ≤ 16777216) (hp : ∀ p ∈ ps, p.1 < n0 ∧ p.2 < s) :
    Calls Tryd.prog 44 #[.slice a n oc, .slice (some ⟨ng, 0, none⟩) n0 n0, .int .i64 (s : Int)] w (FwO ps f s w) := by
  have HA := hide' (fun (V : World) (h : Below w.heap.size w V) => hA.below h)
  have HR := hide' (fun (V : World) (h : Below w.heap.size w V) => hR.below h)
  have nl := lt_blockT hR
  have nn := hA.max
  have HL := hide' hA.len
  have HP := hide' (fun (i : Nat) (h : i < ps.length) => show (ps.getD i (0, 0)).1 < n0 ∧ (ps.getD i (0, 0)).2 < s from by
    have e : ps.getD i (0, 0) = ps[i] := by simp [List.getD, h]
    rw [e]; exact hp _ (List.getElem_mem h))
  have TK := hide' (fun (i : Nat) (h : i < ps.length) => show ps.take (i + 1) = ps.take i ++ [ps.getD i (0, 0)] from by
    rw [List.take_succ_eq_append_getElem h]
    simp [List.getD, h])
  have HF := hide' hf
  have mk := run_make_row' (P := Tryd.prog) 109 110 (.int .u64 0) 8 Tryd.underlying109 infoU rfl .i64 .i64 s (by omega) (by omega) w
  obtain ⟨w1, hw1⟩ : ∃ w1, w.alloc (.cells (madeCells #[.int .u64 0] s) 110) = w1 := ⟨_, rfl⟩
  rw [hw1] at mk
  have R1 := hide' (show RowU w1 w.heap.size s (fun _ => 0) by rw [← hw1, made_arV]; exact heap_alloc_new _ _)
  have B1 := hide' (show Below w.heap.size w w1 by rw [← hw1]; exact (Below.refl _ _).alloc (Nat.le_refl _) _)
  clear hA hR hp hf hw1
  go_enter Tryd.func44, Tryd.ntmps44
  go_wp2
  clear mk
  go_loopw [9, 14] (fun _ iv wr => ∃ (i : Nat) (f' : Nat → Nat), iv = .int .i64 (i : Int) ∧ i ≤ n ∧ Hid (FolB (ps.take i) f f') ∧ Hid (RowU wr w.heap.size s f') ∧ Hid (Below w.heap.size w wr)) (fun _ iv _ => n - (intOf iv).toNat)
  case atStart => exact ⟨0, fun _ => 0, rfl, by omega, hide' (by rw [List.take_zero]; exact FolB.start f), R1, B1⟩
  case round =>
    clear R1 B1
    obtain ⟨i, f', rfl, hi, FB, RW, BW⟩ := hrel
    by_cases d : (i : Int) < (n : Int)
    · have il : i < ps.length := by have := HL.out; omega
      have j0 : (0 : Int) ≤ (i : Int) := by omega
      obtain ⟨g, rfl, gl, c0, c1⟩ := (HA.out wr BW.out).cells i il
      have tk := TK.out i il
      obtain ⟨h1, h2⟩ := HP.out i il
      obtain ⟨⟨p1, p2⟩, hpp⟩ : ∃ p, ps.getD i (0, 0) = p := ⟨_, rfl⟩
      rw [hpp] at c0 c1 tk h1 h2
      simp only at c0 c1 h1 h2
      have NX := hide' (show FolB (ps.take (i + 1)) f (fun j => if j = p2 then f' p2 ||| f p1 else f' j) by rw [tk]; exact FB.out.next (p1, p2) (HF.out p1))
      obtain ⟨w2, hw2⟩ : ∃ w2, wr.alloc (.cells #[.int .i64 (p1 : Int), .int .i64 (p2 : Int)] 108) = w2 := ⟨_, rfl⟩
      have K2 := (show Below wr.heap.size wr w2 by rw [← hw2]; exact (Below.refl _ _).alloc (Nat.le_refl _) _)
      have G2 : w2.heap[wr.heap.size]? = some (.cells #[.int .i64 (p1 : Int), .int .i64 (p2 : Int)] 108 (0, 0)) := by rw [← hw2]; exact heap_alloc_new _ _
      have B2 := hide' (BW.out.trans (K2.mono BW.out.size))
      have R2 := hide' (RW.out.below K2)
      have z0 : w2.cell? ⟨wr.heap.size, 0, none⟩ = some (.int .i64 (p1 : Int)) := by rw [cell_of_row w2 _ _ _ _ _ G2]; rfl
      have z1 : w2.cell? ⟨wr.heap.size, 1, none⟩ = some (.int .i64 (p2 : Int)) := by rw [cell_of_row w2 _ _ _ _ _ G2]; rfl
      have r1 := (HR.out w2 B2.out).cell h1
      have r2 := R2.out.cell h2
      have fz := frozen_of_row w2 _ p2 _ _ R2.out
      have x1 := HF.out p1
      have x2 := (FB.out p2).1
      obtain ⟨u, hu⟩ : ∃ u, f p1 = u := ⟨_, rfl⟩
      obtain ⟨v, hv⟩ : ∃ v, f' p2 = v := ⟨_, rfl⟩
      rw [hu] at r1 x1 NX
      rw [hv] at r2 x2 NX
      have R3 := hide' (R2.out.set p2 (v ||| u))
      have B3 := hide' (B2.out.setCell (p := ⟨w.heap.size, p2, none⟩) (Nat.le_refl _) (.int .u64 ((v ||| u : Nat) : Int)))
      have ob := bits_or_u64_nat v u x2 x1
      have p10 : (0 : Int) ≤ (p1 : Int) := by omega
      have p1n : (p1 : Int) < (n0 : Int) := by omega
      have p20 : (0 : Int) ≤ (p2 : Int) := by omega
      have p2s : (p2 : Int) < (s : Int) := by omega
      clear K2 G2 tk hpp hu hv FB x1 x2 h1 h2
      go_upto_region 5 with fail
      try rw [hw2]
      clear hw2 c0 c1
      go_region
      go_wp2
      exact ⟨⟨i + 1, _, by go_num, by omega, NX, hide' (R3.out.below ((Below.refl _ _).drew)), hide' B3.out.drew⟩, by simp [intOf]; omega⟩
    · obtain rfl : i = n := by omega
      have E := hide' (show ps.take i = ps by rw [HL.out]; exact List.take_length)
      rw [E.out] at FB
      go_wp2
      go_ret
      exact ⟨w.heap.size, f', rfl, RW, FB, Nat.le_refl _, BW⟩
end Go.Proofs.YthmeapplnocfjaaDoor

namespace Go.Proofs.YthmeapplnocfjaaDoor
open Go.RowKit
set_option linter.unusedVariables false
set_option linter.unusedSimpArgs false
/-- Bits behind r rows: those of the sides from fr on, up tt tt. -/
def ClS (st : Nat → List (Nat × Nat)) (fr tt r : Nat) (f : Nat → Nat) : Prop := ∀ j, f j < 18446744073709551616 ∧ ∀ q, (f j).testBit q = true ↔ fr + q < tt ∧ PtW st r (fr + q) j
def clF (fr cur : Nat) (j : Nat) : Nat := if fr ≤ j ∧ j < cur then 2 ^ (j - fr) else 0
theorem clF_start (st : Nat → List (Nat × Nat)) {fr tt : Nat} (h : tt ≤ fr + 64) : ClS st fr tt 0 (clF fr tt) := fun j => by
  unfold clF
  split
  · rename_i q
    refine ⟨Nat.lt_of_lt_of_le (Nat.pow_lt_pow_right (show 1 < 2 by omega) (show j - fr < 64 by omega)) (by decide), fun p => ?_⟩
    rw [Nat.testBit_two_pow, decide_eq_true_eq]
    show _ ↔ fr + p < tt ∧ fr + p = j
    omega
  · rename_i q
    refine ⟨by omega, fun p => ?_⟩
    rw [Nat.zero_testBit]
    show _ ↔ fr + p < tt ∧ fr + p = j
    constructor
    · intro h; cases h
    · intro h; exfalso; omega
theorem clF_set {fr cur : Nat} (h : fr ≤ cur) : (fun i => if i = cur then 2 ^ (cur - fr) else clF fr cur i) = clF fr (cur + 1) := by
  funext i
  unfold clF
  by_cases e : i = cur
  · subst e
    rw [if_pos rfl, if_pos (by omega)]
  · rw [if_neg e]
    by_cases q : fr ≤ i ∧ i < cur
    · rw [if_pos q, if_pos (by omega)]
    · rw [if_neg q, if_neg (by omega)]
theorem clF_none (fr : Nat) : clF fr fr = fun _ => 0 := by
  funext i
  unfold clF
  rw [if_neg (by omega)]
theorem ClS.next {st : Nat → List (Nat × Nat)} {fr tt r : Nat} {f f' : Nat → Nat} (h : ClS st fr tt r f) (k : FolB (st r) f f') : ClS st fr tt (r + 1) f' := fun j => by
  refine ⟨(k j).1, fun q => ?_⟩
  rw [(k j).2 q]
  constructor
  · rintro ⟨p, hp, rfl, hb⟩
    obtain ⟨h1, h2⟩ := ((h p.1).2 q).1 hb
    exact ⟨h1, p.1, h2, hp⟩
  · rintro ⟨h1, m, h2, hp⟩
    exact ⟨(m, j), hp, rfl, ((h m).2 q).2 ⟨h1, h2⟩⟩
theorem ClS.at_end {st : Nat → List (Nat × Nat)} {fr tt r i : Nat} {f : Nat → Nat} (h : ClS st fr tt r f) (h1 : fr ≤ i) (h2 : i < tt) : (f i).testBit (i - fr) = true ↔ PtW st r i i := by
  rw [(h i).2 (i - fr), show fr + (i - fr) = i by omega]
  exact ⟨fun q => q.2, fun q => ⟨h2, q⟩⟩
/-- One bit of a word. -/
theorem bit_one {x q : Nat} (hx : x < 18446744073709551616) : bits .and .u64 ((x / 2 ^ q : Nat) : Int) 1 = if x.testBit q = true then 1 else 0 := by
  have h1 : x / 2 ^ q < 18446744073709551616 := Nat.lt_of_le_of_lt (Nat.div_le_self _ _) hx
  have := bits_and_u64_nat (x / 2 ^ q) 1 h1 (by omega)
  rw [show ((1 : Nat) : Int) = 1 from rfl] at this
  rw [this, Nat.and_one_is_mod]
  rw [Nat.testBit, Nat.shiftRight_eq_div_pow]
  rcases Nat.mod_two_eq_zero_or_one (x / 2 ^ q) with e | e
  · rw [e, if_neg]
    · rfl
    · simp [e]
  · rw [e, if_pos]
    · rfl
    · simp [e]
theorem shl_one {q : Nat} (h : q < 64) : IntKind.u64.wrap ((2 : Int) ^ q) = ((2 ^ q : Nat) : Int) := by
  have h1 : 2 ^ q < 2 ^ 64 := Nat.pow_lt_pow_right (by omega) h
  have e : ((2 : Int) ^ q) = ((2 ^ q : Nat) : Int) := by push_cast; rfl
  rw [e, IntKind.wrap_u64]
  generalize 2 ^ q = z at h1
  omega
/-- Steps row by row, as they lie. -/
structure StA (V : World) (sg H : Nat) (st : Nat → List (Nat × Nat)) (oa : Nat → Option Addr) (oc : Nat → Nat) : Prop where
  row : V.heap[sg]? = some (.cells (arV H fun r => .slice (oa r) (st r).length (oc r)) 79 (0, 0))
  arg : ∀ r, r < H → ArgQ V (st r) (oa r) (st r).length
theorem StA.below {V V' : World} {sg H : Nat} {st : Nat → List (Nat × Nat)} {oa : Nat → Option Addr} {oc : Nat → Nat} (h : StA V sg H st oa oc) (b : Below V.heap.size V V') : StA V' sg H st oa oc := ⟨(b.block sg (lt_blockT h.row)).trans h.row, fun r hr => (h.arg r hr).below b⟩
theorem StA.cell {V : World} {sg H : Nat} {st : Nat → List (Nat × Nat)} {oa : Nat → Option Addr} {oc : Nat → Nat} (h : StA V sg H st oa oc) {r : Nat} (hr : r < H) : V.cell? ⟨sg, r, none⟩ = some (.slice (oa r) (st r).length (oc r)) := by rw [cell_of_row V _ _ _ _ _ h.row, arV_get _ hr]
end Go.Proofs.YthmeapplnocfjaaDoor

