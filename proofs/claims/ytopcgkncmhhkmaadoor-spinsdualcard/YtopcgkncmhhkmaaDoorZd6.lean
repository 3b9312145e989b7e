/-
  What the last text of this claim leans on, part 6: Ss1, Ss2, Ss3.
-/
import Derived.Test.YtopcgkncmhhkmaaDoorZd5
import Derived.Laws.ResultCell
import Derived.Deep.OwnRows
import Derived.Deep.AppendLies
import Derived.Laws.OwnMore
namespace Go.Proofs.YtopcgkncmhhkmaaDoor
open Go.RowKit
set_option linter.unusedVariables false
set_option linter.unusedSimpArgs false
def sdI (n : Int) : Bool := decide (1 ≤ n) && decide (n ≤ 6)
set_option maxRecDepth 100000 in
theorem isSide_any (n : Int) (w : World) : Calls Tryd.prog 23 #[.int .i64 n] w fun e w' => e = .returned (.bool (sdI n)) ∧ w' = w := by
  unfold sdI
  go_enter Tryd.func23, Tryd.ntmps23
  by_cases h : (1 : Int) ≤ n
  · rw [decide_eq_true h, Bool.true_and]
    go_wp2
    go_ret
    exact ⟨rfl, rfl⟩
  · rw [decide_eq_false h, Bool.false_and]
    go_wp2
    go_ret
    exact ⟨rfl, rfl⟩
set_option maxRecDepth 100000 in
set_option maxHeartbeats 1600000 in
theorem spinsCheck_any (W H : Int) (m : Nat) (w : World) (hm : m ≤ 100) : Calls Tryd.prog 14 #[.int .i64 W, .int .i64 H, .int .i64 (m : Int)] w fun e w' => e = .returned (errOf (ntF W H m)) ∧ w' = w := by
  have C1 := hide' (fun V => isSide_any W V)
  have C2 := hide' (fun V => isSide_any H V)
  by_cases w1 : 1 ≤ W ∧ W ≤ 6
  · have s1 : sdI W = true := by unfold sdI; simp; exact w1
    rw [s1] at C1
    by_cases w2 : 1 ≤ H ∧ H ≤ 6
    · have s2 : sdI H = true := by unfold sdI; simp; exact w2
      rw [s2] at C2
      have NF := hide' (show ntF W H m = if (m : Int) < W * H then 4 else 0 by unfold ntF; rw [if_neg (by omega)])
      obtain ⟨v, rfl⟩ : ∃ v : Nat, W = (v : Int) := ⟨W.toNat, by omega⟩
      obtain ⟨h, rfl⟩ : ∃ v : Nat, H = (v : Int) := ⟨H.toNat, by omega⟩
      obtain ⟨N, hN⟩ : ∃ N, v * h = N := ⟨_, rfl⟩
      have eN : (v : Int) * (h : Int) = (N : Int) := by rw [← hN]; push_cast; rfl
      have N36 : N ≤ 36 := by rw [← hN]; exact Nat.le_trans (Nat.mul_le_mul (show v ≤ 6 by omega) (show h ≤ 6 by omega)) (by decide)
      rw [eN] at NF
      clear hN s1 s2 w1 w2
      go_enter Tryd.func14, Tryd.ntmps14
      go_wp2_with fail
      refine (C1.out w).mono ?_
      rintro o w3 ⟨rfl, rfl⟩
      go_wp2_with fail
      refine (C2.out w3).mono ?_
      rintro o w4 ⟨rfl, rfl⟩
      by_cases q : (m : Int) < (N : Int)
      · rw [if_pos q] at NF
        go_wp2
        go_ret
        exact ⟨by rw [NF.out]; rfl, rfl⟩
      · rw [if_neg q] at NF
        go_wp2
        go_ret
        exact ⟨by rw [NF.out]; rfl, rfl⟩
    · have s2 : sdI H = false := by unfold sdI; simp; omega
      rw [s2] at C2
      have NF := hide' (show ntF W H m = 1 by unfold ntF; rw [if_pos (by omega)])
      clear s1 s2 w1 w2
      go_enter Tryd.func14, Tryd.ntmps14
      go_wp2_with fail
      refine (C1.out w).mono ?_
      rintro o w3 ⟨rfl, rfl⟩
      go_wp2_with fail
      refine (C2.out w3).mono ?_
      rintro o w4 ⟨rfl, rfl⟩
      go_wp2
      go_ret
      exact ⟨by rw [NF.out]; rfl, rfl⟩
  · have s1 : sdI W = false := by unfold sdI; simp; omega
    rw [s1] at C1
    have NF := hide' (show ntF W H m = 1 by unfold ntF; rw [if_pos (by omega)])
    clear s1 w1
    go_enter Tryd.func14, Tryd.ntmps14
    go_wp2_with fail
    refine (C1.out w).mono ?_
    rintro o w3 ⟨rfl, rfl⟩
    go_wp2
    go_ret
    exact ⟨by rw [NF.out]; rfl, rfl⟩
/-- A net as a value. -/
def nV (W H : Nat) (rg : Bool) : Value := .agg #[.int .i64 (W : Int), .int .i64 (H : Int), .bool rg]
set_option maxRecDepth 100000 in
set_option maxHeartbeats 1600000 in
theorem lay_anyS (W H : Nat) (rg : Bool) (w : World) (hW : W ≤ 6) (hH : H ≤ 6) : Calls Tryd.prog 15 #[.int .i64 (W : Int), .int .i64 (H : Int), .bool rg] w fun e w' => e = .returned (nV (min W H) (max W H) rg) ∧ Below w.heap.size w w' := by
  have q1 : min (W : Int) (H : Int) = ((min W H : Nat) : Int) := by omega
  have q2 : max (W : Int) (H : Int) = ((max W H : Nat) : Int) := by omega
  unfold nV
  generalize min W H = m at *
  generalize max W H = M at *
  have B1 := hide' (fun o => show Below w.heap.size w (w.alloc o) from (Below.refl _ _).alloc (Nat.le_refl _) _)
  have bl := hide' (heap_alloc_new w (.cells #[.int .i64 (m : Int), .int .i64 (M : Int), .bool rg] 37))
  have c0 : (w.alloc (.cells #[.int .i64 (m : Int), .int .i64 (M : Int), .bool rg] 37)).cell? ⟨w.heap.size, 0, none⟩ = some (.int .i64 (m : Int)) := by rw [cell_of_row _ _ _ _ _ _ bl.out]; rfl
  have c1 : (w.alloc (.cells #[.int .i64 (m : Int), .int .i64 (M : Int), .bool rg] 37)).cell? ⟨w.heap.size, 1, none⟩ = some (.int .i64 (M : Int)) := by rw [cell_of_row _ _ _ _ _ _ bl.out]; rfl
  have c2 : (w.alloc (.cells #[.int .i64 (m : Int), .int .i64 (M : Int), .bool rg] 37)).cell? ⟨w.heap.size, 2, none⟩ = some (.bool rg) := by rw [cell_of_row _ _ _ _ _ _ bl.out]; rfl
  go_enter Tryd.func15, Tryd.ntmps15
  go_wp2
  refine bodyPost_ret (v := .agg #[.int .i64 (m : Int), .int .i64 (M : Int), .bool rg]) (by simp [results, Tryd.results15, go_sem, c0, c1, c2]) rfl ?_
  exact ⟨rfl, B1.out _⟩
theorem below_box (w : World) (o : Obj) : Below w.heap.size w (w.alloc o) := (Below.refl _ _).alloc (Nat.le_refl _) _
set_option maxRecDepth 100000 in
set_option maxHeartbeats 1600000 in
theorem pairs_any (W H : Nat) (rg : Bool) (w : World) (h1 : 1 ≤ W) (hW : W ≤ 6) (h3 : 1 ≤ H) (hH : H ≤ 6) : Calls Tryd.prog 24 #[.agg #[.int .i64 (W : Int), .int .i64 (H : Int), .bool rg]] w fun e w' => e = .returned (.int .i64 (prG W H rg : Int)) ∧ Below w.heap.size w w' := by
  have PV := hide' (pr_val (W := W) (H := H) rg h1 hW h3 hH)
  have le : 2 * W * H ≤ 72 := Nat.le_trans (Nat.mul_le_mul (Nat.mul_le_mul_left 2 hW) hH) (by decide)
  have ge : W + H ≤ 2 * W * H := by
    have a1 : W * 1 ≤ W * H := Nat.mul_le_mul_left W h3
    have a2 : 1 * H ≤ W * H := Nat.mul_le_mul_right H h1
    rw [Nat.mul_assoc]; omega
  obtain ⟨T, hT⟩ : ∃ T, 2 * W * H = T := ⟨_, rfl⟩
  have eT : 2 * (W : Int) * (H : Int) = (T : Int) := by rw [← hT]; push_cast; rfl
  rw [hT] at PV le ge
  obtain ⟨U, hU⟩ : ∃ U, T - W = U := ⟨_, rfl⟩
  obtain ⟨V, hV⟩ : ∃ V, U - H = V := ⟨_, rfl⟩
  have eU : (T : Int) - (W : Int) = (U : Int) := by omega
  have eV : (U : Int) - (H : Int) = (V : Int) := by omega
  rw [hU, hV] at PV
  clear hT hU hV ge
  cases rg with
  | true =>
    rw [if_pos rfl] at PV
    go_enter Tryd.func24, Tryd.ntmps24
    go_wp2
    go_ret
    exact ⟨by rw [PV.out]; rfl, below_box _ _⟩
  | false =>
    rw [if_neg (by decide)] at PV
    go_enter Tryd.func24, Tryd.ntmps24
    go_wp2
    go_ret
    exact ⟨by rw [PV.out]; rfl, below_box _ _⟩
theorem toNat_i64 {a : Nat} (h : a < 9223372036854775808) : (BitVec.ofInt 64 (a : Int)).toNat = a := by
  rw [BitVec.ofInt_natCast, BitVec.toNat_ofNat]; exact Nat.mod_eq_of_lt (by omega)
theorem wrap_i64S {a : Nat} (h : a < 9223372036854775808) : IntKind.i64.wrap (a : Int) = (a : Int) := by
  simp [IntKind.wrap, IntKind.signed, IntKind.bits]; omega
theorem xor_i64 {a b : Nat} (ha : a < 65536) (hb : b < 65536) : bits .xor .i64 (a : Int) (b : Int) = ((a ^^^ b : Nat) : Int) := by
  have hx : a ^^^ b < 2 ^ 16 := Nat.xor_lt_two_pow (by omega) (by omega)
  show IntKind.i64.wrap ((BitVec.ofInt 64 (a : Int) ^^^ BitVec.ofInt 64 (b : Int)).toNat : Int) = _
  rw [BitVec.toNat_xor, toNat_i64 (by omega), toNat_i64 (by omega), wrap_i64S (by omega)]
theorem or_i64S {a b : Nat} (ha : a < 65536) (hb : b < 65536) : bits .or .i64 (a : Int) (b : Int) = ((a ||| b : Nat) : Int) := by
  have hx : a ||| b < 2 ^ 16 := Nat.or_lt_two_pow (by omega) (by omega)
  show IntKind.i64.wrap ((BitVec.ofInt 64 (a : Int) ||| BitVec.ofInt 64 (b : Int)).toNat : Int) = _
  rw [BitVec.toNat_or, toNat_i64 (by omega), toNat_i64 (by omega), wrap_i64S (by omega)]
theorem xor_df {W a b : Nat} (hW : W ≤ 16) (ha : a < 2 ^ W) (hb : b < 2 ^ W) : ocN (a ^^^ b) = dfD W a b := by
  rw [oc_pop W _ hW (Nat.xor_lt_two_pow ha hb)]
  unfold popD dfD
  refine cnt_ext fun x _ => ?_
  show bitD (a ^^^ b) x = _
  rw [bit_is, bit_is, bit_is, Nat.testBit_xor]
set_option maxRecDepth 100000 in
theorem unlike_anyS (W a b : Nat) (w : World) (hW : W ≤ 16) (ha : a < 2 ^ W) (hb : b < 2 ^ W) : Calls Tryd.prog 35 #[.int .i64 (a : Int), .int .i64 (b : Int)] w fun e w' => e = .returned (.int .i64 (dfD W a b : Int)) ∧ w' = w := by
  have D := hide' (xor_df hW ha hb)
  have p16 : 2 ^ W ≤ 2 ^ 16 := Nat.pow_le_pow_right (by decide) hW
  have hx : a ^^^ b < 2 ^ 16 := Nat.xor_lt_two_pow (by omega) (by omega)
  have x1 := xor_i64 (a := a) (b := b) (by omega) (by omega)
  have C := hide' (oc_any (a ^^^ b) w (by omega))
  obtain ⟨x, hxx⟩ : ∃ x, a ^^^ b = x := ⟨_, rfl⟩
  rw [hxx] at D hx x1 C
  clear hxx ha hb p16
  have x2 : x < 65536 := by omega
  clear hx
  go_enter Tryd.func35, Tryd.ntmps35
  go_wp2_with fail
  refine C.out.mono ?_
  rintro o w3 ⟨rfl, rfl⟩
  go_wp2
  go_ret
  exact ⟨by rw [D.out]; rfl, rfl⟩
end Go.Proofs.YtopcgkncmhhkmaaDoor

namespace Go.Proofs.YtopcgkncmhhkmaaDoor
open Go.RowKit
set_option linter.unusedVariables false
set_option linter.unusedSimpArgs false
/-- A row as it stands beside itself. -/
def enR (W : Nat) (rg : Bool) (r : Nat) : Nat := if rg = true then r &&& 1 else r / 2 ^ (W - 1)
def beR (W : Nat) (rg : Bool) (r : Nat) : Nat := r / 2 ||| enR W rg r * 2 ^ (W - 1)
def chR : Bool := (List.range 6).all fun v => (List.range (2 ^ (v + 1))).all fun r => [true, false].all fun rg => decide (beR (v + 1) rg r < 2 ^ (v + 1)) && Nat.beq (dfD (v + 1) r (beR (v + 1) rg r)) (inG (v + 1) rg r)
set_option maxRecDepth 100000 in
theorem chR_all : chR = true := by decide +kernel
theorem be_is {W r : Nat} (rg : Bool) (h1 : 1 ≤ W) (h2 : W ≤ 6) (hr : r < 2 ^ W) : beR W rg r < 2 ^ W ∧ dfD W r (beR W rg r) = inG W rg r := by
  obtain ⟨v, rfl⟩ : ∃ v, W = v + 1 := ⟨W - 1, by omega⟩
  have h := List.all_eq_true.1 (List.all_eq_true.1 (List.all_eq_true.1 chR_all v (List.mem_range.2 (by omega))) r (List.mem_range.2 hr)) rg (by cases rg <;> simp)
  rw [Bool.and_eq_true] at h
  exact ⟨of_decide_eq_true h.1, Nat.eq_of_beq_eq_true h.2⟩
theorem pow_cast (n : Nat) : ((2 ^ n : Nat) : Int) = (2 : Int) ^ n := by push_cast; rfl
theorem wrap_natS {a : Nat} (h : a < 9223372036854775808) : wrap64 (a : Int) = (a : Int) := by unfold wrap64; omega
set_option maxRecDepth 100000 in
set_option maxHeartbeats 1600000 in
theorem within_anyS (W H r : Nat) (rg : Bool) (w : World) (h1 : 1 ≤ W) (hW : W ≤ 6) (hH : H ≤ 6) (hr : r < 2 ^ W) : Calls Tryd.prog 34 #[.agg #[.int .i64 (W : Int), .int .i64 (H : Int), .bool rg], .int .i64 (r : Int)] w fun e w' => e = .returned (.int .i64 (inG W rg r : Int)) ∧ Below w.heap.size w w' := by
  obtain ⟨bl, bi⟩ := be_is rg h1 hW hr
  have p6 : 2 ^ W ≤ 2 ^ 6 := Nat.pow_le_pow_right (by decide) hW
  have pw : 2 ^ (W - 1) ≤ 2 ^ 6 := Nat.pow_le_pow_right (by decide) (by omega)
  have hb : beR W rg r = r / 2 ||| enR W rg r * 2 ^ (W - 1) := rfl
  have el : enR W rg r ≤ r := by
    unfold enR
    split
    · exact Nat.and_le_left
    · exact Nat.div_le_self _ _
  have en : enR W rg r = if rg = true then r &&& 1 else r / 2 ^ (W - 1) := rfl
  have tl : enR W rg r * 2 ^ (W - 1) ≤ 64 * 64 := Nat.mul_le_mul (Nat.le_trans el (Nat.le_of_lt (Nat.lt_of_lt_of_le hr p6))) pw
  have BI := hide' bi
  have UC := hide' (fun V => unlike_anyS W r (beR W rg r) V (by omega) hr bl)
  have cp := pow_cast (W - 1)
  obtain ⟨e, he⟩ : ∃ e, enR W rg r = e := ⟨_, rfl⟩
  rw [he] at hb el en tl
  obtain ⟨P, hP⟩ : ∃ P, 2 ^ (W - 1) = P := ⟨_, rfl⟩
  rw [hP] at hb en tl cp pw
  obtain ⟨t, ht⟩ : ∃ t, e * P = t := ⟨_, rfl⟩
  rw [ht] at hb tl
  obtain ⟨h, hh⟩ : ∃ h, r / 2 = h := ⟨_, rfl⟩
  rw [hh] at hb
  obtain ⟨b, hbb⟩ : ∃ b, beR W rg r = b := ⟨_, rfl⟩
  rw [hbb] at hb BI UC bl
  have f1 : (r : Int) / 2 = (h : Int) := by omega
  have f2 : wrap64 ((e : Int) * (2 : Int) ^ (W - 1)) = (t : Int) := by
    rw [← cp, show (e : Int) * (P : Int) = (t : Int) by rw [← ht]; push_cast; rfl]
    exact wrap_natS (Nat.lt_of_le_of_lt tl (by decide))
  have r6 : r < 64 := Nat.lt_of_lt_of_le hr p6
  have b6 : b < 64 := Nat.lt_of_lt_of_le bl p6
  have t6 : t < 65536 := Nat.lt_of_le_of_lt tl (by decide)
  have h6 : h < 65536 := by clear tl pw p6 bl hr t6 b6; omega
  have f3 : bits .or .i64 (h : Int) (t : Int) = (b : Int) := by rw [hb]; exact or_i64S h6 t6
  cases rg with
  | true =>
    rw [if_pos rfl] at en
    have f0 : bits .and .i64 (r : Int) 1 = (e : Int) := by have := and_i64K (a := r) 1 (by omega) (by omega); rw [en]; exact this
    clear en he hP ht hh hbb hb cp el tl bl bi p6 pw hr
    go_enter Tryd.func34, Tryd.ntmps34
    go_wp2_with fail
    refine (UC.out _).mono ?_
    rintro o w3 ⟨rfl, rfl⟩
    go_wp2
    go_ret
    exact ⟨by rw [BI.out]; rfl, below_box _ _⟩
  | false =>
    rw [if_neg (by decide)] at en
    have f0 : (r : Int) / (2 : Int) ^ (W - 1) = (e : Int) := by rw [← cp, en]; exact (Int.natCast_ediv r P).symm
    clear en he hP ht hh hbb hb cp el tl bl bi p6 pw hr
    go_enter Tryd.func34, Tryd.ntmps34
    go_wp2_with fail
    refine (UC.out _).mono ?_
    rintro o w3 ⟨rfl, rfl⟩
    go_wp2
    go_ret
    exact ⟨by rw [BI.out]; rfl, below_box _ _⟩
set_option maxRecDepth 100000 in
set_option maxHeartbeats 1600000 in
theorem closing_any (W H f r : Nat) (rg : Bool) (w : World) (hW : W ≤ 16) (hf : f < 2 ^ W) (hr : r < 2 ^ W) : Calls Tryd.prog 27 #[.agg #[.int .i64 (W : Int), .int .i64 (H : Int), .bool rg], .int .i64 (f : Int), .int .i64 (r : Int)] w fun e w' => e = .returned (.int .i64 (clG W rg r f : Int)) ∧ Below w.heap.size w w' := by
  have UC := hide' (fun V => unlike_anyS W f r V hW hf hr)
  have SY := hide' (show dfD W f r = dfD W r f from cnt_ext fun x _ => by cases bitD f x <;> cases bitD r x <;> rfl)
  clear hf hr
  cases rg with
  | true =>
    go_enter Tryd.func27, Tryd.ntmps27
    go_wp2_with fail
    refine (UC.out _).mono ?_
    rintro o w3 ⟨rfl, rfl⟩
    go_wp2
    go_ret
    exact ⟨by rw [show clG W true r f = dfD W r f from rfl, SY.out]; rfl, below_box _ _⟩
  | false =>
    go_enter Tryd.func27, Tryd.ntmps27
    go_wp2
    go_ret
    exact ⟨rfl, below_box _ _⟩
end Go.Proofs.YtopcgkncmhhkmaaDoor

namespace Go.Proofs.YtopcgkncmhhkmaaDoor
open Go.RowKit
set_option linter.unusedVariables false
set_option linter.unusedSimpArgs false
/-- An array, told by a function. -/
def arrQ (n : Nat) (f : Nat → Value) : Array Value := ((List.range n).map f).toArray
theorem arrQ_get {n k : Nat} (f : Nat → Value) (h : k < n) : (arrQ n f)[k]? = some (f k) := by simp [arrQ, h]
theorem arrQ_set (n i : Nat) (f : Nat → Value) (v : Value) : (arrQ n f).setIfInBounds i v = arrQ n (fun k => if k = i then v else f k) := by
  apply Array.ext
  · simp [arrQ]
  · intro k h1 h2
    simp only [arrQ, List.getElem_toArray, List.getElem_map, List.getElem_range]
    by_cases q : k = i
    · simp [q]
    · simp [q, Ne.symm q]
theorem arrQ_ext {n : Nat} {f g : Nat → Value} (h : ∀ k, k < n → f k = g k) : arrQ n f = arrQ n g := by
  unfold arrQ
  congr 1
  apply List.map_congr_left
  intro k hk
  exact h k (List.mem_range.1 hk)
theorem made_allQ (z : Value) (n : Nat) : madeCells #[z] n = arrQ n (fun _ => z) := by
  apply Array.ext'
  rw [toList_madeCells_one]
  unfold arrQ
  simp [List.map_const']
theorem lt_blockQ {w : World} {p : Nat} {o : Obj} (h : w.heap[p]? = some o) : p < w.heap.size := (Array.getElem?_eq_some_iff.1 h).1
/-- A row of values as it lies. -/
def ArV (V : World) (g n : Nat) (T : TypeId) (f : Nat → Value) : Prop := V.heap[g]? = some (.cells (arrQ n f) T (0, 0))
theorem ArV.lt {V : World} {g n : Nat} {T : TypeId} {f : Nat → Value} (h : ArV V g n T f) : g < V.heap.size := lt_blockQ h
theorem ArV.cell {V : World} {g n : Nat} {T : TypeId} {f : Nat → Value} (h : ArV V g n T f) {k : Nat} (hk : k < n) : V.cell? ⟨g, k, none⟩ = some (f k) := by
  rw [cell_of_row V _ _ _ _ _ h, arrQ_get _ hk]
theorem ArV.frozen {V : World} {g n : Nat} {T : TypeId} {f : Nat → Value} (h : ArV V g n T f) (k : Nat) : V.frozen? ⟨g, k, none⟩ = false := frozen_of_row _ _ _ _ _ h
theorem ArV.set {V : World} {g n : Nat} {T : TypeId} {f : Nat → Value} (h : ArV V g n T f) (k : Nat) (v : Value) : ArV (V.setCell ⟨g, k, none⟩ v) g n T (fun y => if y = k then v else f y) := by
  unfold ArV
  rw [heap_setCell_same _ _ _ _ _ _ h, arrQ_set]
theorem ArV.ext {V : World} {g n : Nat} {T : TypeId} {f f' : Nat → Value} (h : ArV V g n T f) (e : ∀ k, k < n → f k = f' k) : ArV V g n T f' := by
  unfold ArV at h ⊢
  rw [h]
  congr 2
  exact arrQ_ext e
theorem ArV.keep {V V' : World} {g n : Nat} {T : TypeId} {f : Nat → Value} (h : ArV V g n T f) (e : V'.heap[g]? = V.heap[g]?) : ArV V' g n T f := e.trans h
theorem ArV.below {V V' : World} {g n B : Nat} {T : TypeId} {f : Nat → Value} (h : ArV V g n T f) (b : Below B V V') (hg : g < B) : ArV V' g n T f := (b.block g hg).trans h
theorem ArV.made (V : World) (n : Nat) (T : TypeId) (z : Value) : ArV (V.alloc (.cells (arrQ n fun _ => z) T)) V.heap.size n T (fun _ => z) := heap_alloc_new _ _
theorem ArV.alloc {V : World} {g n : Nat} {T : TypeId} {f : Nat → Value} (h : ArV V g n T f) (o : Obj) : ArV (V.alloc o) g n T f := (heap_alloc_old _ _ h.lt).trans h
theorem ArV.apart {V : World} {g h n m : Nat} {T U : TypeId} {f e : Nat → Value} (a : ArV V g n T f) (b : ArV V h m U e) (hne : T ≠ U) : g ≠ h := by
  rintro rfl
  have := a.symm.trans b
  simp at this
  exact hne this.2
def iQ (f : Nat → Nat) (k : Nat) : Value := .int .i64 ((f k : Nat) : Int)
def uQ (f : Nat → Nat) (k : Nat) : Value := .int .u64 ((f k : Nat) : Int)
def bQ (f : Nat → Bool) (k : Nat) : Value := .bool (f k)
theorem set_other {V : World} {g h k : Nat} {v : Value} (e : h ≠ g) : (V.setCell ⟨g, k, none⟩ v).heap[h]? = V.heap[h]? := Below.heap_setCell _ _ _ _ (fun x => e (by simpa using x))
theorem mk_intsQ (n : Nat) (hn : n ≤ 100) (w : World) : (Instr.makeSlice 23 (.int .i64 (n : Int)) (.int .i64 (n : Int))).run Tryd.prog w = .ok (.slice (some ⟨w.heap.size, 0, none⟩) n n) (w.alloc (.cells (arrQ n (iQ fun _ => 0)) 3)) := by
  rw [show arrQ n (iQ fun _ => 0) = arrQ n (fun _ => .int .i64 0) from rfl, ← made_allQ]
  exact run_make_row' (P := Tryd.prog) 23 3 (.int .i64 0) 8 Tryd.underlying23 info_int rfl .i64 .i64 n (by omega) (by omega) w
theorem info_listQ : (Tryd.prog.info? 23).map (fun i => (i.zero, i.size, i.bytes)) = some (some (.slice none 0 0), 1, 24) := by kernel_rfl
theorem mk_rowsQ (n : Nat) (hn : n ≤ 100) (w : World) : (Instr.makeSlice 42 (.int .i64 (n : Int)) (.int .i64 (n : Int))).run Tryd.prog w = .ok (.slice (some ⟨w.heap.size, 0, none⟩) n n) (w.alloc (.cells (arrQ n fun _ => .slice none 0 0) 23)) := by
  rw [← made_allQ]
  exact run_make_row' (P := Tryd.prog) 42 23 (.slice none 0 0) 24 Tryd.underlying42 info_listQ rfl .i64 .i64 n (by omega) (by omega) w
/-- A table of rows, the first T of them made. -/
def tbV (T L : Nat) (q : Nat → Nat) (r : Nat) : Value := if r < T then .slice (some ⟨q r, 0, none⟩) L L else .slice none 0 0
structure TbS (V : World) (lo tb M T L : Nat) (q : Nat → Nat) (F : Nat → Nat → Nat) : Prop where
  blk : ArV V tb M 23 (tbV T L q)
  row : ∀ r, r < T → ArV V (q r) L 3 (iQ (F r))
  inj : ∀ r s, r < T → s < T → r ≠ s → q r ≠ q s
  at' : lo ≤ tb
  rows : ∀ r, r < T → lo ≤ q r
theorem TbS.made (V : World) (M L lo : Nat) (q : Nat → Nat) (F : Nat → Nat → Nat) (hl : lo ≤ V.heap.size) : TbS (V.alloc (.cells (arrQ M fun _ => .slice none 0 0) 23)) lo V.heap.size M 0 L q F :=
  ⟨(ArV.made V M _ _).ext fun k _ => by unfold tbV; rw [if_neg (by omega)], fun r h => by omega, fun r s h => by omega, hl, fun r h => by omega⟩
theorem TbS.keep {V V' : World} {lo tb M T L : Nat} {q : Nat → Nat} {F : Nat → Nat → Nat} (h : TbS V lo tb M T L q F) (e : ∀ b, lo ≤ b → b < V.heap.size → V'.heap[b]? = V.heap[b]?) : TbS V' lo tb M T L q F :=
  ⟨h.blk.keep (e _ h.at' h.blk.lt), fun r hr => (h.row r hr).keep (e _ (h.rows r hr) (h.row r hr).lt), h.inj, h.at', h.rows⟩
theorem TbS.below {V V' : World} {lo tb M T L B : Nat} {q : Nat → Nat} {F : Nat → Nat → Nat} (h : TbS V lo tb M T L q F) (b : Below V.heap.size V V') : TbS V' lo tb M T L q F := h.keep fun k _ hk => b.block k hk
theorem TbS.ext {V : World} {lo tb M T L : Nat} {q : Nat → Nat} {F F' : Nat → Nat → Nat} (h : TbS V lo tb M T L q F) (e : ∀ r, r < T → ∀ k, k < L → F r k = F' r k) : TbS V lo tb M T L q F' :=
  ⟨h.blk, fun r hr => (h.row r hr).ext fun k hk => by unfold iQ; rw [e r hr k hk], h.inj, h.at', h.rows⟩
theorem TbS.cell {V : World} {lo tb M T L : Nat} {q : Nat → Nat} {F : Nat → Nat → Nat} (h : TbS V lo tb M T L q F) {r : Nat} (hr : r < T) (hM : r < M) : V.cell? ⟨tb, r, none⟩ = some (.slice (some ⟨q r, 0, none⟩) L L) := by
  have := h.blk.cell hM
  unfold tbV at this
  rw [if_pos hr] at this
  exact this
theorem TbS.ne {V : World} {lo tb M T L : Nat} {q : Nat → Nat} {F : Nat → Nat → Nat} (h : TbS V lo tb M T L q F) {r : Nat} (hr : r < T) : tb ≠ q r := h.blk.apart (h.row r hr) (by decide)
/-- One row more. -/
theorem TbS.push {V : World} {lo tb M T L : Nat} {q : Nat → Nat} {F : Nat → Nat → Nat} (h : TbS V lo tb M T L q F) (hl : lo ≤ V.heap.size) :
    TbS ((V.alloc (.cells (arrQ L (iQ fun _ => 0)) 3)).setCell ⟨tb, T, none⟩ (.slice (some ⟨V.heap.size, 0, none⟩) L L)) lo tb M (T + 1) L (fun r => if r = T then V.heap.size else q r) (fun r => if r = T then fun _ => 0 else F r) := by
  have tl := h.blk.lt
  have ne : V.heap.size ≠ tb := by omega
  refine ⟨?_, fun r hr => ?_, fun r s hr hs hne => ?_, h.at', fun r hr => ?_⟩
  · refine ((h.blk.alloc _).set T _).ext fun k _ => ?_
    unfold tbV
    show _ = if k < T + 1 then Value.slice (some ⟨if k = T then V.heap.size else q k, 0, none⟩) L L else .slice none 0 0
    by_cases e : k = T
    · rw [if_pos e, if_pos (by omega), if_pos e]
    · rw [if_neg e, if_neg e]
      by_cases e2 : k < T
      · rw [if_pos e2, if_pos (by omega)]
      · rw [if_neg e2, if_neg (by omega)]
  · by_cases e : r = T
    · rw [if_pos e, if_pos e]
      exact ArV.keep (show ArV (V.alloc _) V.heap.size L _ _ from heap_alloc_new _ _) (set_other ne)
    · rw [if_neg e, if_neg e]
      exact ((h.row r (by omega)).alloc _).keep (set_other (Ne.symm (h.ne (by omega))))
  · by_cases e : r = T
    · rw [if_pos e, if_neg (by omega)]
      have := (h.row s (by omega)).lt
      omega
    · rw [if_neg e]
      by_cases e2 : s = T
      · rw [if_pos e2]
        have := (h.row r (by omega)).lt
        omega
      · rw [if_neg e2]; exact h.inj r s (by omega) (by omega) hne
  · by_cases e : r = T
    · rw [if_pos e]; exact hl
    · rw [if_neg e]; exact h.rows r (by omega)
/-- A row is written anew. -/
theorem TbS.put {V V' : World} {lo tb M T L : Nat} {q : Nat → Nat} {F : Nat → Nat → Nat} (h : TbS V lo tb M T L q F) {r : Nat} (hr : r < T) {f : Nat → Nat} (hf : ArV V' (q r) L 3 (iQ f)) (e : ∀ b, b ≠ q r → V'.heap[b]? = V.heap[b]?) : TbS V' lo tb M T L q (fun s => if s = r then f else F s) := by
  refine ⟨h.blk.keep (e _ (h.ne hr)), fun s hs => ?_, h.inj, h.at', h.rows⟩
  by_cases q' : s = r
  · rw [if_pos q', q']; exact hf
  · rw [if_neg q']; exact (h.row s hs).keep (e _ (h.inj s r hs hr q'))
end Go.Proofs.YtopcgkncmhhkmaaDoor

