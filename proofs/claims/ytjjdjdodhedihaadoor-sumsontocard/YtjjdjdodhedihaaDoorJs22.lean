/-
  What the last text of this claim leans on, part 22: Oj2, Oj3.
-/
import Derived.Test.YtjjdjdodhedihaaDoorJs1
import Derived.Test.YtjjdjdodhedihaaDoorJs8
import Derived.Test.YtjjdjdodhedihaaDoorJs18
import Derived.Laws.Bits64b
import Derived.Lib.TrailingZeros
namespace Go.Proofs.YtjjdjdodhedihaaDoor
open Go.RowKit
set_option linter.unusedVariables false

/-- The library's table as it is laid. -/
def TzTab (w : World) : Prop := ∀ j, j < 64 → w.cell? ⟨2, j, none⟩ = some (.int .u8 (Lib.deBruijn64tab.getD j 0))
theorem tz_lt {w : World} (h : TzTab w) : 2 < w.heap.size := by
  rcases Nat.lt_or_ge 2 w.heap.size with k | k
  · exact k
  · have := h 0 (by omega); simp [World.cell?, Array.getElem?_eq_none k] at this
theorem TzTab.below {w w' : World} (h : TzTab w) (hb : Below w.heap.size w w') : TzTab w' := fun j hj => (World.cell?_of_block (w := w) (a := ⟨2, j, none⟩) (hb.block _ (tz_lt h))).trans (h j hj)
theorem tz_key' (x a : Nat) (hx : x < 18446744073709551616) (hx0 : x ≠ 0) (hlow : x &&& (18446744073709551616 - x) = a) :
    IntKind.u64.wrap (bits BinOp.and IntKind.u64 (x : Int) (IntKind.u64.wrap (-(x : Int))) * 285870213051353865) / 288230376151711744 = ((a * 285870213051353865 % 18446744073709551616 / 288230376151711744 : Nat) : Int) := by
  have e1 : IntKind.u64.wrap (-(x : Int)) = ((18446744073709551616 - x : Nat) : Int) := by rw [IntKind.wrap_u64]; omega
  rw [e1, bits_and_u64_nat x _ hx (by omega), hlow, IntKind.wrap_u64]
  omega
theorem ofInt64_small {a : Nat} (ha : a < 9223372036854775808) : (BitVec.ofInt 64 (a : Int)).toNat = a := by
  rw [BitVec.ofInt_natCast, BitVec.toNat_ofNat]; exact Nat.mod_eq_of_lt (by omega)
theorem wrap_i64_small {a : Nat} (ha : a < 9223372036854775808) : IntKind.i64.wrap (a : Int) = (a : Int) := by
  simp [IntKind.wrap, IntKind.signed, IntKind.bits]
  omega
theorem or_i64 {a b : Nat} (ha : a < 65536) (hb : b < 65536) : bits .or .i64 (a : Int) (b : Int) = ((a ||| b : Nat) : Int) := by
  have hx : a ||| b < 2 ^ 16 := Nat.or_lt_two_pow (by omega) (by omega)
  show IntKind.i64.wrap ((BitVec.ofInt 64 (a : Int) ||| BitVec.ofInt 64 (b : Int)).toNat : Int) = _
  rw [BitVec.toNat_or, ofInt64_small (by omega), ofInt64_small (by omega), wrap_i64_small (by omega)]
theorem and_i64 {a : Nat} (h0 : 0 < a) (ha : a < 65536) : bits .and .i64 (a : Int) ((a : Int) - 1) = ((a &&& (a - 1) : Nat) : Int) := by
  have hx : a &&& (a - 1) < 2 ^ 16 := Nat.and_lt_two_pow _ (by omega)
  rw [show (a : Int) - 1 = ((a - 1 : Nat) : Int) by omega]
  show IntKind.i64.wrap ((BitVec.ofInt 64 (a : Int) &&& BitVec.ofInt 64 ((a - 1 : Nat) : Int)).toNat : Int) = _
  rw [BitVec.toNat_and, ofInt64_small (by omega), ofInt64_small (by omega), wrap_i64_small (by omega)]
/-- The lowest bit, told by its number. -/
theorem ctz_low {x : Nat} (h0 : 0 < x) (h : x < 2 ^ 64) : x.testBit (Lib.ctz 64 x) = true ∧ ∀ j, j < Lib.ctz 64 x → x.testBit j = false := by
  obtain ⟨m, hm, _⟩ := Lib.ctzFrom_spec 64 x h0 h
  have hc : Lib.ctz 64 x = Lib.ctzFrom 64 x := by unfold Lib.ctz; rw [if_neg (by omega)]
  rw [hc]
  obtain ⟨k, hk⟩ : ∃ k, Lib.ctzFrom 64 x = k := ⟨_, rfl⟩
  rw [hk] at hm ⊢
  have e : x = 2 ^ k * (2 * m + 1) + 0 := by omega
  have hp : 0 < 2 ^ k := Nat.pow_pos (by omega)
  refine ⟨by rw [e, Nat.testBit_two_pow_mul_add _ hp]; simp, fun j hj => by rw [e, Nat.testBit_two_pow_mul_add _ hp, if_pos hj]; simp⟩

set_option maxRecDepth 100000 in
set_option maxHeartbeats 6400000 in
theorem tz64_any (x : Nat) (w : World) (hx0 : 0 < x) (hx : x < 18446744073709551616) (hT : TzTab w) :
    Calls Tryd.prog 124 #[.int .u64 (x : Int)] w fun e w' => e = .returned (.int .i64 ((Lib.ctz 64 x : Nat) : Int)) ∧ w' = w := by
  obtain ⟨hlow, hk⟩ := Lib.lowest_bit 64 x (by omega) hx
  obtain ⟨hi, htab⟩ := Lib.deBruijn64_at _ hk
  have hcell := hT _ hi
  rw [htab] at hcell
  have key := tz_key' x _ hx (by omega) hlow
  have xz : ((x : Int) == 0) = false := by rw [beq_eq_false_iff_ne]; omega
  obtain ⟨idx, hidx⟩ : ∃ idx, 2 ^ Lib.ctz 64 x * 285870213051353865 % 18446744073709551616 / 288230376151711744 = idx := ⟨_, rfl⟩
  rw [hidx] at hi hcell key
  obtain ⟨k, hkk⟩ : ∃ k, Lib.ctz 64 x = k := ⟨_, rfl⟩
  rw [hkk] at hcell hk ⊢
  clear hlow htab hidx hkk
  go_enter Tryd.func124, Tryd.ntmps124
  go_wp2_with (simp only [key])
  go_ret
  exact ⟨rfl, rfl⟩

set_option maxRecDepth 100000 in
set_option maxHeartbeats 6400000 in
theorem tz_any (x : Nat) (w : World) (hx0 : 0 < x) (hx : x < 18446744073709551616) (hT : TzTab w) :
    Calls Tryd.prog 104 #[.int .u64 (x : Int)] w fun e w' => e = .returned (.int .i64 ((Lib.ctz 64 x : Nat) : Int)) ∧ w' = w := by
  have C := hide' (tz64_any x w hx0 hx hT)
  go_enter Tryd.func104, Tryd.ntmps104
  go_wp2_with fail
  refine (show Calls Tryd.prog _ _ _ _ from C.out).mono ?_
  rintro e w' ⟨rfl, rfl⟩
  go_wp2
  go_ret
  exact ⟨rfl, rfl⟩

set_option maxRecDepth 100000 in
set_option maxHeartbeats 6400000 in
theorem follow_any (S n c m : Nat) (T : List Int) (a : Option Addr) (k d : Nat) (w : World) (hm : m < 2 ^ n) (n16 : n ≤ 16) (hA : ArgP w ((List.range n).map fun p => ((leadN S n T c p : Nat) : Int)) a k d) (hT : TzTab w) :
    Calls Tryd.prog 75 #[.int .i64 (m : Int), .slice a k d] w fun e w' => e = .returned (.int .i64 ((follN S n T c m : Nat) : Int)) ∧ w' = w := by
  have kn : k = n := by rw [hA.len]; simp
  subst kn
  have p16 : 2 ^ k ≤ 65536 := Nat.le_trans (Nat.pow_le_pow_right (by omega) n16) (by decide)
  have HA := hide' hA
  have HT := hide' hT
  have ST := hide' (FollInv.start (S := S) (T := T) (c := c) hm)
  clear hA hT
  go_enter Tryd.func75, Tryd.ntmps75
  go_wp2
  go_loop [0, 5] (fun mv ov => ∃ cur out : Nat, mv = .int .i64 (cur : Int) ∧ ov = .int .i64 (out : Int) ∧ Hid (FollInv S k T c m cur out)) (fun mv _ => (intOf mv).toNat)
  case atStart => exact ⟨m, 0, rfl, rfl, ST.out⟩
  case round =>
    obtain ⟨cur, out, rfl, rfl, H⟩ := hrel
    have cl : cur < 65536 := Nat.lt_of_lt_of_le H.out.1 p16
    have ol : out < 65536 := Nat.lt_of_lt_of_le H.out.2.1 p16
    rcases Nat.eq_zero_or_pos cur with z | z
    · subst z
      have E := hide' H.out.fin
      go_wp2
      go_ret
      exact ⟨by rw [← E.out]; rfl, rfl⟩
    · have q1 : ((cur : Int) != 0) = true := by simp; omega
      obtain ⟨t1, t2⟩ := ctz_low z (by omega)
      have TZC := hide' (tz_any cur w z (by omega) HT.out)
      obtain ⟨b, hb⟩ : ∃ b, Lib.ctz 64 cur = b := ⟨_, rfl⟩
      rw [hb] at t1 t2 TZC
      obtain ⟨bn, NX, dec⟩ := H.out.step t1 t2
      obtain ⟨g, off, rfl, hc⟩ := HA.out.at (k := b) bn
      have e1 : ((List.range k).map fun p => ((leadN S k T c p : Nat) : Int)).getD b 0 = ((leadN S k T c b : Nat) : Int) := by simp [List.getD, bn]
      rw [e1] at hc
      have NXH := hide' NX
      have ll : leadN S k T c b < 65536 := Nat.lt_of_lt_of_le (leadN_lt ..) p16
      obtain ⟨l, hl⟩ : ∃ l, leadN S k T c b = l := ⟨_, rfl⟩
      rw [hl] at hc NXH ll
      clear t1 t2 hb e1 hl NX
      have uw : IntKind.u64.wrap (cur : Int) = (cur : Int) := by rw [IntKind.wrap_u64]; omega
      have o1 := or_i64 ol ll
      have a1 := and_i64 z cl
      go_wp2_with fail
      refine (show Calls Tryd.prog _ _ _ _ from TZC.out).mono ?_
      rintro e w' ⟨rfl, rfl⟩
      go_wp2
      refine ⟨⟨cur &&& (cur - 1), out ||| l, ?_, ?_, NXH.out⟩, ?_⟩
      · rfl
      · rfl
      · simp [intOf]; omega
end Go.Proofs.YtjjdjdodhedihaaDoor

namespace Go.Proofs.YtjjdjdodhedihaaDoor
open Go.RowKit
set_option linter.unusedVariables false

theorem info_ints : (Tryd.prog.info? 22).map (fun i => (i.zero, i.size, i.bytes)) = some (some (.slice none 0 0), 1, 24) := by kernel_rfl
/-- The rows of leads, while they are laid. -/
structure LD (w wr : World) (S R n : Nat) (vt : Value) (g k : Nat) (rows : Nat → List Int) : Prop where
  gb : GB w.heap.size S R n vt wr
  tab : ∀ c, c < S → wr.cell? ⟨g, c, none⟩ = some (if c < k then .slice (some ⟨g + 1 + c, 0, none⟩) n n else .slice none 0 0)
  fz : ∀ c, wr.frozen? ⟨g, c, none⟩ = false
  row : ∀ c, c < k → Cel wr (g + 1 + c) (rows c)
  bl : Below w.heap.size w wr
  gl : w.heap.size < g
  gs : g < wr.heap.size
theorem LD.below {w wr wr' : World} {S R n : Nat} {vt : Value} {g k : Nat} {rows : Nat → List Int} (h : LD w wr S R n vt g k rows) (hb : Below wr.heap.size wr wr') : LD w wr' S R n vt g k rows :=
  ⟨h.gb.next hb, fun c hc => (World.cell?_of_block (w := wr) (a := ⟨g, c, none⟩) (hb.block g h.gs)).trans (h.tab c hc), fun c => (World.frozen?_of_block (w := wr) (a := ⟨g, c, none⟩) (hb.block g h.gs)).trans (h.fz c), fun c hc => (h.row c hc).below hb, h.bl.trans (hb.mono h.bl.size), h.gl, Nat.lt_of_lt_of_le h.gs hb.size⟩
/-- One row more. -/
theorem LD.more {w wr : World} {S R n : Nat} {vt : Value} {g k : Nat} {t : TypeId} (h : LD w wr S R n vt g k fun _ => List.replicate n 0) (hz : wr.heap.size = g + 1 + k) (hk : k < S) :
    LD w ((wr.setCell ⟨g, k, none⟩ (.slice (some ⟨wr.heap.size, 0, none⟩) n n)).alloc (.cells (madeCells #[.int .i64 0] n) t)) S R n vt g (k + 1) fun _ => List.replicate n 0 := by
  have gs := h.gs
  have gl := h.gl
  obtain ⟨W, hW⟩ : ∃ W, wr.setCell ⟨g, k, none⟩ (.slice (some ⟨wr.heap.size, 0, none⟩) n n) = W := ⟨_, rfl⟩
  have wz : W.heap.size = wr.heap.size := by rw [← hW, World.size_setCell]
  have ho : ∀ b, b ≠ g → W.heap[b]? = wr.heap[b]? := fun b hb => by rw [← hW]; exact heap_setCell_other _ _ _ _ _ hb
  rw [hW]
  have hb : Below W.heap.size W (W.alloc (.cells (madeCells #[.int .i64 0] n) t)) := (Below.refl _ _).alloc (Nat.le_refl _) _
  have BW : Below w.heap.size w W := by rw [← hW]; exact h.bl.setCell (p := ⟨g, k, none⟩) (by show w.heap.size ≤ g; omega) _
  refine ⟨(h.gb.block (ho _ (by omega))).next hb, fun c hc => ?_, fun c => ?_, fun c hc => ?_, BW.trans (hb.mono BW.size), gl, by simp; omega⟩
  · rw [World.cell?_of_block (w := W) (a := ⟨g, c, none⟩) (hb.block g (by omega)), ← hW]
    by_cases e : c = k
    · subst e
      rw [World.cell?_setCell_same _ _ _ (h.tab c hc), if_pos (by omega), hz]
    · rw [World.cell?_setCell_other _ _ _ _ (by simp <;> omega), h.tab c hc]
      by_cases d : c < k
      · rw [if_pos d, if_pos (by omega)]
      · rw [if_neg d, if_neg (by omega)]
  · rw [World.frozen?_of_block (w := W) (a := ⟨g, c, none⟩) (hb.block g (by omega)), ← hW, World.frozen?_setCell]
    exact h.fz c
  · by_cases e : c = k
    · subst e
      have := Cel.made W n t
      rw [wz, hz] at this
      exact this
    · exact ((h.row c (by omega)).block (by omega) (ho _ (by omega))).below hb
/-- A cell of a row is set. -/
theorem LD.set {w wr : World} {S R n : Nat} {vt : Value} {g k : Nat} {rows rows' : Nat → List Int} (h : LD w wr S R n vt g k rows) (c p : Nat) (x : Int) (hc : c < k) (hp : p < (rows c).length) (h1 : rows' c = (rows c).set p x) (h2 : ∀ c', c' ≠ c → c' < k → rows' c' = rows c') :
    LD w (wr.setCell ⟨g + 1 + c, p, none⟩ (.int .i64 x)) S R n vt g k rows' := by
  have gs := h.gs
  have gl := h.gl
  refine ⟨h.gb.block (heap_setCell_other _ _ _ _ _ (by omega)), fun c' hc' => ?_, fun c' => by rw [World.frozen?_setCell]; exact h.fz c', fun c' hc' => ?_, h.bl.setCell (p := ⟨g + 1 + c, p, none⟩) (by show w.heap.size ≤ g + 1 + c; omega) _, gl, by rw [World.size_setCell]; exact gs⟩
  · rw [World.cell?_setCell_other _ _ _ _ (by simp <;> omega)]; exact h.tab c' hc'
  · by_cases e : c' = c
    · subst e; rw [h1]; exact (h.row c' hc').set p x hp
    · rw [h2 c' e hc']
      exact (h.row c' hc').block (by rw [World.size_setCell]; exact Nat.le_refl _) (heap_setCell_other _ _ _ _ _ (by omega))
/-- A row, behind so many places and cells. -/
def rowF (S n : Nat) (T : List Int) (p x c : Nat) : List Int := (List.range n).map fun j => if j < p then ((leadN S n T c j : Nat) : Int) else if j = p then ((leadUpto S n T c p x : Nat) : Int) else 0
theorem rowF_length (S n : Nat) (T : List Int) (p x c : Nat) : (rowF S n T p x c).length = n := by simp [rowF]
theorem rowF_zero (S n : Nat) (T : List Int) (c : Nat) : rowF S n T 0 0 c = List.replicate n 0 := by
  apply List.ext_getElem (by simp [rowF])
  intro j h1 h2
  simp only [rowF, List.getElem_map, List.getElem_range, List.getElem_replicate]
  rw [if_neg (by omega)]
  split
  · rw [leadUpto_zero]; rfl
  · rfl
theorem rowF_next (S n : Nat) (T : List Int) (p c : Nat) : rowF S n T p S c = rowF S n T (p + 1) 0 c := by
  apply List.ext_getElem (by simp [rowF])
  intro j h1 h2
  simp only [rowF, List.getElem_map, List.getElem_range]
  rcases Nat.lt_trichotomy j p with h | h | h
  · rw [if_pos h, if_pos (by omega)]
  · subst h; rw [if_neg (by omega), if_pos rfl, if_pos (by omega), leadUpto_full]
  · rw [if_neg (by omega), if_neg (by omega), if_neg (by omega)]
    split
    · rw [leadUpto_zero]; rfl
    · rfl
theorem rowF_full (S n : Nat) (T : List Int) (c : Nat) : rowF S n T n 0 c = (List.range n).map fun p => ((leadN S n T c p : Nat) : Int) := by
  apply List.ext_getElem (by simp [rowF])
  intro j h1 h2
  simp only [rowF, List.getElem_map, List.getElem_range]
  rw [if_pos (by simpa [rowF] using h1)]
theorem rowF_same {S n : Nat} {T : List Int} {p x c : Nat} (h : T.getD (p * S + x) 0 ≠ (c : Int)) : rowF S n T p (x + 1) c = rowF S n T p x c := by
  unfold rowF; rw [leadUpto_same h]
theorem rowF_at {S n : Nat} {T : List Int} {p x c : Nat} (hp : p < n) : (rowF S n T p x c).getD p 0 = ((leadUpto S n T c p x : Nat) : Int) := by
  simp [rowF, List.getD, hp]
theorem rowF_more {S n : Nat} {T : List Int} {p x c : Nat} (hn : 0 < n) (hp : p < n) (h : T.getD (p * S + x) 0 = (c : Int)) : rowF S n T p (x + 1) c = (rowF S n T p x c).set p ((leadUpto S n T c p x ||| 2 ^ ((p * S + x) % n) : Nat) : Int) := by
  apply List.ext_getElem (by simp [rowF])
  intro j h1 h2
  rw [List.getElem_set]
  simp only [rowF, List.getElem_map, List.getElem_range]
  by_cases e : p = j
  · subst e
    rw [if_neg (by omega), if_pos rfl, if_pos rfl, leadUpto_more hn h]
  · rw [if_neg e]
    by_cases d : j < p
    · rw [if_pos d, if_pos d]
    · rw [if_neg d, if_neg d, if_neg (by omega), if_neg (by omega)]
/-- The leads as they are answered. -/
def LeadsPost (S n : Nat) (T : List Int) (w : World) (e : Ending) (w' : World) : Prop :=
  ∃ g, e = .returned (.slice (some ⟨g, 0, none⟩) S S) ∧ (∀ c, c < S → w'.cell? ⟨g, c, none⟩ = some (.slice (some ⟨g + 1 + c, 0, none⟩) n n)) ∧ (∀ c, c < S → Cel w' (g + 1 + c) ((List.range n).map fun p => ((leadN S n T c p : Nat) : Int))) ∧ w.heap.size < g ∧ Below w.heap.size w w'

set_option maxRecDepth 100000 in
set_option maxHeartbeats 6400000 in
theorem leads_any (S R n : Nat) (T : List Int) (ta : Option Addr) (tn tc : Nat) (w : World) (hL : LineOk S R T) (hT : ArgP w T ta tn tc) (hn : S ^ (2 * R) = n) (n16 : n ≤ 16) :
    Calls Tryd.prog 74 #[.agg #[.int .i64 (S : Int), .int .i64 (2 * (R : Int)), .int .i64 (n : Int), .slice ta tn tc]] w (LeadsPost S n T w) := by
  obtain ⟨w1, hw1⟩ : ∃ w1, w.alloc (.cells #[.int .i64 (S : Int), .int .i64 (2 * (R : Int)), .int .i64 (n : Int), .slice ta tn tc] 79) = w1 := ⟨_, rfl⟩
  have z1 : w1.heap.size = w.heap.size + 1 := by rw [← hw1]; simp
  have BB := hide' (show Below w.heap.size w w1 by rw [← hw1]; exact (Below.refl _ _).alloc (Nat.le_refl _) _)
  have GX := hide' (show GB w.heap.size S R n (.slice ta tn tc) w1 by rw [← hw1]; exact GB.new w S R n _ _)
  have s2 := hL.s2
  have s4 := hL.s4
  have n0 : 0 < n := by rw [← hn]; exact Nat.pow_pos (by omega)
  have hTn : tn = n * S := by rw [hT.len, hL.len, ← hn, Nat.pow_succ]
  have t4 : tn ≤ 4096 := by rw [hT.len]; exact hL.max
  have p16 : 2 ^ n ≤ 65536 := Nat.le_trans (Nat.pow_le_pow_right (by omega) n16) (by decide)
  have AT := hide' hT
  have TO := hide' (show ∀ j, j < tn → ∃ c : Nat, c < S ∧ T.getD j 0 = (c : Int) from fun j hj => by
    have := cellsOk_at hL.ok (show j < T.length by rw [← hT.len]; exact hj)
    exact ⟨(T.getD j 0).toNat, by omega, by omega⟩)
  have ON := hide' (fun (p x : Nat) (wr : World) (h : ArgP wr T ta tn tc) (hx : p * S + x < tn) (hp : p ≤ 4096) (hx4 : x ≤ 4096) => on_any S R n T ta tn tc p x wr h n0 hx t4 s4 hp hx4)
  have hmk := run_make_row' (P := Tryd.prog) 118 22 (.slice none 0 0) 24 Tryd.underlying118 info_ints rfl .i64 .i64 S (by omega) (by omega)
  have hmk2 := run_make_row' (P := Tryd.prog) 22 3 (.int .i64 0) 8 Tryd.underlying22 info_int rfl .i64 .i64 n (by omega) (by omega)
  have HTn := hide' hTn
  have Z1 := hide' z1
  obtain ⟨g, hg⟩ : ∃ g, w1.heap.size = g := ⟨_, rfl⟩
  clear hL hT hn hTn z1
  obtain ⟨c0, c1, c2, c3⟩ := GX.out
  go_enter Tryd.func74, Tryd.ntmps74
  go_wp2
  clear c0 c1 c2 c3 hw1
  try rw [hg]
  have P0 := hide' (show LD w (w1.alloc (.cells (madeCells #[.slice none 0 0] S) 22)) S R n (.slice ta tn tc) g 0 (fun _ => List.replicate n 0) from by
    rw [← hg]
    refine ⟨GX.out.next ((Below.refl _ _).alloc (Nat.le_refl _) _), fun c hc => ?_, fun c => by simp, fun c hc => absurd hc (by omega), BB.out.alloc BB.out.size _, by have := Z1.out; omega, by simp⟩
    rw [World.cell?_alloc_at _ _ _ _ rfl, if_neg (by omega), ← Array.getElem?_toList, toList_madeCells_one]
    simp [hc])
  have PZ : (w1.alloc (.cells (madeCells #[.slice none 0 0] S) 22)).heap.size = g + 1 := by rw [← hg]; simp
  clear hg
  go_loopw [14] (fun iv wr => ∃ i : Nat, iv = .int .i64 (i : Int) ∧ i ≤ S ∧ Hid (LD w wr S R n (.slice ta tn tc) g i (fun _ => List.replicate n 0) ∧ wr.heap.size = g + 1 + i)) (fun iv _ => S - (intOf iv).toNat)
  case atStart => exact ⟨0, rfl, by omega, hide' ⟨P0.out, PZ⟩⟩
  case round =>
    clear P0 PZ
    obtain ⟨i, rfl, hi, H⟩ := hrel
    obtain ⟨c0, c1, c2, c3⟩ := H.out.1.gb
    by_cases d : (i : Int) < (S : Int)
    · have ti := H.out.1.tab i (by omega)
      have tf := H.out.1.fz i
      have hs := H.out.1.gs
      rw [if_neg (by omega)] at ti
      go_wp2
      refine ⟨⟨i + 1, by go_num, by omega, hide' ⟨?_, ?_⟩⟩, by simp [intOf]; omega⟩
      · exact H.out.1.more H.out.2 (by omega)
      · simp; have := H.out.2; omega
    · have P1 := hide' (show LD w wr S R n (.slice ta tn tc) g S (rowF S n T 0 0) from by
        have q : i = S := by omega
        have h := H.out.1
        rw [q] at h
        exact ⟨h.gb, h.tab, h.fz, fun c hc => by rw [rowF_zero]; exact h.row c hc, h.bl, h.gl, h.gs⟩)
      clear H
      go_wp2
      go_loopw [26] (fun pv wr => ∃ p : Nat, pv = .int .i64 (p : Int) ∧ p ≤ n ∧ Hid (LD w wr S R n (.slice ta tn tc) g S (rowF S n T p 0))) (fun pv _ => n - (intOf pv).toNat)
      case atStart => exact ⟨0, rfl, by omega, P1⟩
      case round =>
        clear P1 c0 c1 c2 c3
        obtain ⟨p, rfl, hp, H⟩ := hrel
        by_cases dp : (p : Int) < (n : Int)
        · obtain ⟨c0, c1, c2, c3⟩ := H.out.gb
          go_wp2
          go_loopw [31] (fun xv wr => ∃ x : Nat, xv = .int .i64 (x : Int) ∧ x ≤ S ∧ Hid (LD w wr S R n (.slice ta tn tc) g S (rowF S n T p x))) (fun xv _ => S - (intOf xv).toNat)
          case atStart => exact ⟨0, rfl, by omega, H⟩
          case round =>
            clear H c0 c1 c2 c3
            obtain ⟨x, rfl, hx, H⟩ := hrel
            by_cases dx : (x : Int) < (S : Int)
            · obtain ⟨c0, c1, c2, c3⟩ := H.out.gb
              have hj : p * S + x < tn := by
                rw [HTn.out]
                have := Nat.mul_le_mul_right S (show p + 1 ≤ n by omega)
                rw [Nat.add_mul] at this
                omega
              obtain ⟨c, hc, hT⟩ := TO.out _ hj
              have ONX := hide' (ON.out p x wr (AT.out.below H.out.bl) hj (by omega) (by omega))
              rw [hT] at ONX
              obtain ⟨t, ht⟩ : ∃ t, (p * S + x) % n = t := ⟨_, rfl⟩
              have tn16 : t < 16 := by rw [← ht]; exact Nat.lt_of_lt_of_le (Nat.mod_lt _ n0) n16
              have tpn : 2 ^ t < 2 ^ n := Nat.pow_lt_pow_right (by omega) (by rw [← ht]; exact Nat.mod_lt _ n0)
              rw [ht] at ONX
              have RM := hide' (rowF_more n0 (show p < n by omega) hT)
              rw [ht] at RM
              have RS := hide' (show ∀ c', c' ≠ c → rowF S n T p (x + 1) c' = rowF S n T p x c' from fun c' h => rowF_same (by rw [hT]; omega))
              clear hT ht hj
              go_wp2_with fail
              refine (show Calls Tryd.prog _ _ _ _ from ONX.out).mono ?_
              rintro e w3 ⟨rfl, b3⟩
              have H3 := hide' (H.out.below b3)
              clear c0 c1 c2 c3 b3 H ONX
              obtain ⟨c0, c1, c2, c3⟩ := H3.out.gb
              have tc0 := H3.out.tab c hc
              rw [if_pos hc] at tc0
              have rc := (H3.out.row c hc).cells p (by rw [rowF_length]; omega)
              have rf := (H3.out.row c hc).fz p
              rw [rowF_at (by omega)] at rc
              have ul : leadUpto S n T c p x < 65536 := Nat.lt_of_lt_of_le (leadUpto_lt ..) p16
              obtain ⟨u, hu⟩ : ∃ u, leadUpto S n T c p x = u := ⟨_, rfl⟩
              rw [hu] at rc RM ul
              have OO := hide' (or_i64 ul (show 2 ^ t < 65536 by omega))
              have TP := hide' (show 2 ^ t < 65536 by omega)
              clear hu
              go_wp2
              go_region
              go_wp2
              have e5 : wrap64 ((2 : Int) ^ t) = ((2 ^ t : Nat) : Int) := by
                have h := TP.out
                have q : (2 : Int) ^ t = ((2 ^ t : Nat) : Int) := by simp
                rw [q]
                have h1 : ((2 ^ t : Nat) : Int) < 65536 := Int.ofNat_lt.2 h
                have h2 : (0 : Int) ≤ ((2 ^ t : Nat) : Int) := Int.natCast_nonneg _
                generalize ((2 ^ t : Nat) : Int) = z at h1 h2 ⊢
                unfold wrap64
                omega
              rw [e5, OO.out]
              exact ⟨⟨x + 1, by go_num, by omega, hide' ((H3.out.set c p _ hc (by rw [rowF_length]; omega) RM.out (fun c' h _ => RS.out c' h)).below (Below.refl _ _).drew)⟩, by simp [intOf]; omega⟩
            · have H2 := hide' (show LD w wr S R n (.slice ta tn tc) g S (rowF S n T (p + 1) 0) from by
                have q : x = S := by omega
                have h := H.out
                rw [q] at h
                exact ⟨h.gb, h.tab, h.fz, fun c hc => by rw [← rowF_next]; exact h.row c hc, h.bl, h.gl, h.gs⟩)
              clear H
              go_wp2
              exact ⟨⟨p + 1, by go_num, by omega, H2⟩, by simp [intOf]; omega⟩
        · have H2 := hide' (show LD w wr S R n (.slice ta tn tc) g S (rowF S n T n 0) from by rw [show n = p by omega]; exact (show p = n by omega) ▸ H.out)
          clear H
          go_wp2
          go_ret
          refine ⟨g, rfl, fun c hc => ?_, fun c hc => ?_, H2.out.gl, H2.out.bl⟩
          · have := H2.out.tab c hc; rwa [if_pos hc] at this
          · rw [← rowF_full]; exact H2.out.row c hc
end Go.Proofs.YtjjdjdodhedihaaDoor

