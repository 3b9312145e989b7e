/-
  What the last text of this claim leans on, part 22: Wl1, Wl2, Bc1.
-/
import Derived.Test.YtljdidimoagnhaaDoorJk19
import Derived.Test.YtljdidimoagnhaaDoorJk21
import Derived.Test.YtljdidimoagnhaaDoorJk20
namespace Go.Proofs.YtljdidimoagnhaaDoor
open Go.RowKit
set_option linter.unusedVariables false

def timesB (n : Nat) (t : UInt8) : List UInt8 := if n = 0 then [] else if n = 1 then [t] else Lib.decDigits n ++ [t]
theorem dec_len (n : Nat) (hn : n ≤ 1000000) : (Lib.decDigits n).length ≤ 21 := by
  have := Lib.itoa_length_le (n : Int) (by omega) (by omega)
  rw [Lib.itoa_nonneg] at this
  simpa using this
theorem times_len (n : Nat) (t : UInt8) (hn : n ≤ 1000000) : (timesB n t).length ≤ 22 := by
  have := dec_len n hn
  unfold timesB
  split
  · simp
  · split <;> simp; omega
theorem itoaN (n : Nat) (hn : n ≤ 1000000) (w : World) (hP : PowT w) :
    Calls Tryd.prog 90 #[.int .i64 (n : Int)] w fun e w' => e = .returned (.string ⟨(Lib.decDigits n).toArray⟩) ∧ Below w.heap.size w w' := by
  refine (Tryd.strconv_Itoa (n : Int) (by omega) (by omega) w hP).mono ?_
  rintro e w' ⟨rfl, k, os, rfl⟩
  refine ⟨?_, below_grow w k os⟩
  rw [Lib.itoa_nonneg]
theorem DW.keep {w2 w w' : World} {l : List UInt8} (h : DW w2 w l) (hb : Below w.heap.size w w') : DW w2 w' l := by
  have hk : ∀ p, Lib.BuilderAt 112 5 w2.heap.size w2.heap.size p (Lib.byteCells l) w → Lib.BuilderAt 112 5 w2.heap.size w2.heap.size p (Lib.byteCells l) w' := by
    intro p q
    have hlt := q.lt
    obtain ⟨hB, v, hbk, hown, hne⟩ := q
    have hor : v.ownBlock = none ∨ v.ownBlock ≠ none := Decidable.em _
    exact ⟨hB, v, (hb.block _ hlt).trans hbk, hown.kept (row := none) ⟨hb.os, hb.tape, hb.output, hb.size, fun k hk _ => hb.block k hk⟩ hor, hne⟩
  exact ⟨h.bld.elim (fun q => Or.inl (hk _ q)) (fun q => Or.inr (hk _ q)), h.below.trans (hb.mono h.below.size)⟩
theorem strCells_bytes (l : List UInt8) : Lib.strCells ⟨l.toArray⟩ = Lib.byteCells l := rfl

theorem tagOf_0 (w : World) : Calls Tryd.prog 151 #[.int .i64 0] w fun e w' => e = .returned (.int .u8 98) ∧ w' = w := by
  go_enter Tryd.func151, Tryd.ntmps151
  go_wp2
  go_ret
  exact ⟨rfl, rfl⟩
theorem tagOf_1 (w : World) : Calls Tryd.prog 151 #[.int .i64 1] w fun e w' => e = .returned (.int .u8 111) ∧ w' = w := by
  go_enter Tryd.func151, Tryd.ntmps151
  go_wp2
  go_ret
  exact ⟨rfl, rfl⟩

set_option maxHeartbeats 1600000 in
set_option maxRecDepth 100000 in
theorem writeRun_any (w2 : World) (n : Nat) (t : UInt8) (l : List UInt8) (w : World) (h : DW w2 w l) (hP : PowT w2) (hn : n ≤ 100) (hl : l.length ≤ 900000) :
    Calls Tryd.prog 92 #[.pointer (some ⟨w2.heap.size, 0, none⟩), .int .i64 (n : Int), .int .u8 (t.toNat : Int)] w fun e w' => e = .returned (.tuple #[]) ∧ DW w2 w' (l ++ timesB n t) := by
  have HH := hide' h
  have HP := hide' hP
  have hs := h.below.size
  have hbl : (Lib.byteCells l).length ≤ 1000000 := by rw [Lib.byteCells_length]; omega
  clear h hP
  by_cases n0 : n = 0
  · have E := hide' (show timesB n t = [] by unfold timesB; rw [if_pos n0])
    have k0 : ((n : Int) == 0) = true := by simp; omega
    clear n0
    go_enter Tryd.func92, Tryd.ntmps92
    go_wp2
    refine bodyPost_ret (v := .tuple #[]) (by simp [results, Tryd.results92, go_sem]) rfl ?_
    rw [E.out, List.append_nil]
    exact ⟨rfl, HH.out⟩
  · have k0 : ((n : Int) == 0) = false := by simp; omega
    by_cases n1 : n = 1
    · have E := hide' (show timesB n t = [t] by unfold timesB; rw [if_neg n0, if_pos n1])
      have k1 : ¬ (1 : Int) < (n : Int) := by omega
      clear n0 n1
      go_enter Tryd.func92, Tryd.ntmps92
      go_wp2_with fail
      refine (writeByte_any _ _ _ _ _ HH.out.bld hs hbl).mono ?_
      rintro e w4 ⟨rfl, u4, b4⟩
      have D4 := hide' (HH.out.next (m := [t]) u4 b4)
      clear u4 b4
      go_wp2
      go_end0
      rw [E.out]
      exact ⟨rfl, D4.out⟩
    · have E := hide' (show timesB n t = Lib.decDigits n ++ [t] by unfold timesB; rw [if_neg n0, if_neg n1])
      have k1 : (1 : Int) < (n : Int) := by omega
      have hd := dec_len n (by omega)
      clear n0 n1
      go_enter Tryd.func92, Tryd.ntmps92
      go_wp2_with fail
      refine (itoaN n (by omega) _ (HP.out.below HH.out.below)).mono ?_
      rintro e w3 ⟨rfl, b3⟩
      have D3 := hide' (HH.out.keep b3)
      have hs3 := D3.out.below.size
      clear b3
      go_wp2_with fail
      refine (writeString_any _ _ _ _ _ D3.out.bld hs3 hbl (by show (Lib.decDigits n).toArray.size ≤ _; simp; omega)).mono ?_
      rintro e w4 ⟨rfl, u4, b4⟩
      have D4 := hide' (D3.out.next (m := Lib.decDigits n) u4 b4)
      have hs4 := D4.out.below.size
      have hbl4 : (Lib.byteCells (l ++ Lib.decDigits n)).length ≤ 1000000 := by rw [Lib.byteCells_length, List.length_append]; omega
      clear u4 b4
      go_wp2_with fail
      refine (writeByte_any _ _ _ _ _ D4.out.bld hs4 hbl4).mono ?_
      rintro e w5 ⟨rfl, u5, b5⟩
      have D5 := hide' (D4.out.next (m := [t]) u5 b5)
      clear u5 b5
      go_wp2
      go_end0
      rw [E.out, ← List.append_assoc]
      exact ⟨rfl, D5.out⟩

set_option maxHeartbeats 1600000 in
set_option maxRecDepth 100000 in
theorem refTimes (n : Nat) (t : UInt8) (w : World) (hn : n ≤ 100) :
    Calls Tryd.prog 100 #[.int .i64 (n : Int), .string ⟨#[t]⟩] w fun e w' => e = .returned (.string ⟨(timesB n t).toArray⟩) ∧ Below w.heap.size w w' := by
  by_cases n0 : n = 0
  · have E := hide' (show timesB n t = [] by unfold timesB; rw [if_pos n0])
    have k0 : ((n : Int) == 0) = true := by simp; omega
    clear n0
    go_enter Tryd.func100, Tryd.ntmps100
    go_wp2
    go_ret
    rw [E.out]
    exact ⟨rfl, Below.refl _ _⟩
  · have k0 : ((n : Int) == 0) = false := by simp; omega
    by_cases n1 : n = 1
    · have E := hide' (show timesB n t = [t] by unfold timesB; rw [if_neg n0, if_pos n1])
      have k1 : ((n : Int) == 1) = true := by simp; omega
      clear n0 n1
      go_enter Tryd.func100, Tryd.ntmps100
      go_wp2
      go_ret
      rw [E.out]
      exact ⟨rfl, Below.refl _ _⟩
    · have E := hide' (show timesB n t = Lib.decDigits n ++ [t] by unfold timesB; rw [if_neg n0, if_neg n1])
      have k1 : ((n : Int) == 1) = false := by simp; omega
      have hd := dec_len n (by omega)
      clear n0 n1
      go_enter Tryd.func100, Tryd.ntmps100
      go_wp2_with fail
      refine (Digits_ref n _ (by omega)).mono ?_
      rintro e w3 ⟨rfl, b3⟩
      have B3 := hide' b3
      have hsz : ¬ (9223372036854775807 < (Lib.decDigits n).length + 1) := by omega
      clear b3
      go_wp2
      go_ret
      refine ⟨?_, B3.out⟩
      rw [E.out]
      rw [show (⟨(Lib.decDigits n).toArray⟩ : ByteArray) ++ ⟨#[t]⟩ = ⟨(Lib.decDigits n ++ [t]).toArray⟩ from ByteArray.mk_append_mk _ _]
      rfl
end Go.Proofs.YtljdidimoagnhaaDoor

namespace Go.Proofs.YtljdidimoagnhaaDoor
open Go.RowKit
set_option linter.unusedVariables false

/-- How many of a row's first n cells are left when the 0s at its end are left out. -/
def endF (f : Nat → Int) : Nat → Nat
  | 0 => 0
  | k + 1 => if f k = 0 then endF f k else k + 1
/-- Where the cells of one kind end, from x on, at most k of them. -/
def cntF (f : Nat → Int) (c : Int) : Nat → Nat → Nat
  | 0, x => x
  | k + 1, x => if f x = c then cntF f c k (x + 1) else x
def nextF (f : Nat → Int) (m x : Nat) : Nat := cntF f (f x) (m - x) x
def tagB (c : Int) : UInt8 := if c = 1 then 111 else 98
def runsF (f : Nat → Int) (m : Nat) : Nat → Nat → List UInt8
  | 0, _ => []
  | k + 1, x => if x < m then timesB (nextF f m x - x) (tagB (f x)) ++ runsF f m k (nextF f m x) else []
/-- The rows above y: their bytes, and the last row that was written. -/
def rowsF (W : Nat) (xs : List Int) : Nat → List UInt8 × Nat
  | 0 => ([], 0)
  | y + 1 =>
    let f := fun i => xs.getD (y * W + i) 0
    let m := endF f W
    if m = 0 then rowsF W xs y else ((rowsF W xs y).1 ++ timesB (y - (rowsF W xs y).2) 36 ++ runsF f m m 0, y)
def runsB (p : Pat) : List UInt8 := [120, 32, 61, 32] ++ Lib.decDigits p.W ++ [44, 32, 121, 32, 61, 32] ++ Lib.decDigits p.H ++ [10] ++ (rowsF p.W p.xs p.H).1 ++ [33, 10]

theorem endF_le (f : Nat → Int) : ∀ n, endF f n ≤ n := by
  intro n
  induction n with
  | zero => simp [endF]
  | succ n ih => rw [endF]; split <;> omega
theorem endF_zero {f : Nat → Int} {k : Nat} (h : f k = 0) : endF f (k + 1) = endF f k := by rw [endF, if_pos h]
theorem endF_one {f : Nat → Int} {k : Nat} (h : ¬ f k = 0) : endF f (k + 1) = k + 1 := by rw [endF, if_neg h]
theorem cntF_le (f : Nat → Int) (c : Int) : ∀ k x, x ≤ cntF f c k x ∧ cntF f c k x ≤ x + k := by
  intro k
  induction k with
  | zero => intro x; simp [cntF]
  | succ k ih =>
    intro x
    rw [cntF]
    split
    · have := ih (x + 1); omega
    · omega
theorem nextF_step {f : Nat → Int} {m x : Nat} (h : x < m) : nextF f m x = cntF f (f x) (m - (x + 1)) (x + 1) := by
  unfold nextF
  rw [show m - x = (m - (x + 1)) + 1 by omega, cntF, if_pos rfl]
theorem nextF_lt {f : Nat → Int} {m x : Nat} (h : x < m) : x < nextF f m x ∧ nextF f m x ≤ m := by
  rw [nextF_step h]
  have := cntF_le f (f x) (m - (x + 1)) (x + 1)
  omega
theorem runsF_fuel (f : Nat → Int) (m : Nat) : ∀ k j x, m - x ≤ k → m - x ≤ j → runsF f m k x = runsF f m j x := by
  intro k
  induction k with
  | zero =>
    intro j x hk hj
    cases j with
    | zero => rfl
    | succ j => rw [runsF, runsF, if_neg (by omega)]
  | succ k ih =>
    intro j x hk hj
    cases j with
    | zero => rw [runsF, runsF, if_neg (by omega)]
    | succ j =>
      rw [runsF, runsF]
      by_cases h : x < m
      · rw [if_pos h, if_pos h]
        have := nextF_lt (f := f) h
        rw [ih j _ (by omega) (by omega)]
      · rw [if_neg h, if_neg h]
theorem runsF_step {f : Nat → Int} {m x : Nat} (h : x < m) : runsF f m (m - x) x = timesB (nextF f m x - x) (tagB (f x)) ++ runsF f m (m - nextF f m x) (nextF f m x) := by
  have := nextF_lt (f := f) h
  rw [show m - x = (m - x - 1) + 1 by omega, runsF, if_pos h]
  rw [runsF_fuel f m (m - x - 1) (m - nextF f m x) _ (by omega) (by omega)]
theorem runsF_end {f : Nat → Int} {m : Nat} : runsF f m (m - m) m = [] := by rw [Nat.sub_self]; rfl
theorem runsF_len (f : Nat → Int) (m : Nat) (hm : m ≤ 1000) : ∀ k x, (runsF f m k x).length ≤ 22 * (m - x) := by
  intro k
  induction k with
  | zero => intro x; simp [runsF]
  | succ k ih =>
    intro x
    rw [runsF]
    split
    · rename_i h
      have h1 := nextF_lt (f := f) h
      have h2 := ih (nextF f m x)
      have h3 := times_len (nextF f m x - x) (tagB (f x)) (by omega)
      rw [List.length_append]
      omega
    · simp

set_option maxHeartbeats 1600000 in
set_option maxRecDepth 100000 in
theorem withoutEnd_some (f : Nat → Int) (g off n c : Nat) (w : World) (hn : n ≤ 1000) (hnc : n ≤ c) (hc0 : 0 < c) (hcm : c ≤ maxLen) (hcell : ∀ i, i < n → w.cell? ⟨g, off + i, none⟩ = some (.int .i64 (f i))) :
    Calls Tryd.prog 91 #[.slice (some ⟨g, off, none⟩) n c] w fun e w' => e = .returned (.slice (some ⟨g, off, none⟩) (endF f n) c) ∧ w' = w := by
  have HC := hide' hcell
  have c1 : ¬ c = 0 := by omega
  clear hcell
  go_enter Tryd.func91, Tryd.ntmps91
  go_wp2
  go_loop [0] (fun v => ∃ k : Nat, v = .slice (some ⟨g, off, none⟩) k c ∧ k ≤ n ∧ endF f k = endF f n) (fun v => match v with | .slice _ k _ => k | _ => 0)
  case atStart => exact ⟨n, rfl, Nat.le_refl _, rfl⟩
  case round =>
    obtain ⟨k, rfl, hk, he⟩ := hrel
    have HE := hide' he
    clear he
    cases k with
    | zero =>
      go_wp2
      go_ret
      rw [← HE.out]
      exact ⟨rfl, rfl⟩
    | succ k =>
      have hcc := HC.out k (by omega)
      obtain ⟨z, hz⟩ : ∃ z, f k = z := ⟨_, rfl⟩
      rw [hz] at hcc
      have HZ := hide' hz
      have d1 : k + 1 ≤ c := by omega
      have q1 : ((k + 1 : Nat) : Int) - 1 = (k : Int) := by omega
      clear hz
      by_cases z0 : z = 0
      · have m0 : (z == 0) = true := by simp [z0]
        have E := hide' (show endF f k = endF f n by rw [← HE.out, endF_zero (by rw [HZ.out]; exact z0)])
        clear z0
        go_wp2
        exact ⟨⟨k, rfl, by omega, E.out⟩, Nat.lt_succ_self _⟩
      · have m0 : (z == 0) = false := by simp [z0]
        have E := hide' (show endF f n = k + 1 by rw [← HE.out, endF_one (by rw [HZ.out]; exact z0)])
        clear z0
        go_wp2
        go_ret
        rw [E.out]
        exact ⟨rfl, rfl⟩

set_option maxHeartbeats 1600000 in
theorem withoutEnd_none (a : Option Addr) (c : Nat) (w : World) :
    Calls Tryd.prog 91 #[.slice a 0 c] w fun e w' => e = .returned (.slice a 0 c) ∧ w' = w := by
  go_enter Tryd.func91, Tryd.ntmps91
  go_wp2
  go_loop [0] (fun v => v = .slice a 0 c) (fun _ => 0)
  case atStart => exact rfl
  case round =>
    obtain rfl := hrel
    go_wp2
    go_ret
    exact ⟨rfl, rfl⟩
end Go.Proofs.YtljdidimoagnhaaDoor

namespace Go.Proofs.YtljdidimoagnhaaDoor
set_option linter.unusedVariables false

/-! A number's digits read back. -/
theorem dec_last (n : Nat) (h : ¬ n < 10) : Lib.decDigits n = Lib.decDigits (n / 10) ++ [UInt8.ofNat (48 + n % 10)] := by rw [Lib.decDigits, dif_neg h]
theorem dec_small (n : Nat) (h : n < 10) : Lib.decDigits n = [UInt8.ofNat (48 + n)] := by rw [Lib.decDigits, dif_pos h]
theorem dig_nat (d : Nat) (h : d < 10) : (UInt8.ofNat (48 + d)).toNat = 48 + d := by
  simp; omega
theorem dec_pos (n : Nat) : 0 < (Lib.decDigits n).length := by
  by_cases h : n < 10
  · rw [dec_small n h]; simp
  · rw [dec_last n h]; simp
theorem dec_first : ∀ n, 0 < n → ∃ d rest, Lib.decDigits n = UInt8.ofNat (48 + d) :: rest ∧ 0 < d ∧ d < 10 := by
  intro n
  induction n using Nat.strongRecOn with
  | ind n ih =>
    intro hn
    by_cases h : n < 10
    · exact ⟨n, [], dec_small n h, hn, h⟩
    · obtain ⟨d, rest, e, h1, h2⟩ := ih (n / 10) (by omega) (by omega)
      exact ⟨d, rest ++ [UInt8.ofNat (48 + n % 10)], by rw [dec_last n h, e]; rfl, h1, h2⟩
theorem dec_lt3 (n : Nat) (h : n ≤ 100) : (Lib.decDigits n).length ≤ 3 := by
  by_cases h1 : n < 10
  · rw [dec_small n h1]; simp
  · rw [dec_last n h1]
    by_cases h2 : n / 10 < 10
    · rw [dec_small _ h2]; simp
    · rw [dec_last _ h2, dec_small _ (by omega)]; simp
theorem numF_fuel (s : ByteArray) : ∀ f i v, s.size - i ≤ f → numF s f i v = numF s (s.size - i) i v := by
  intro f
  induction f with
  | zero => intro i v h; rw [show s.size - i = 0 by omega]
  | succ f ih =>
    intro i v h
    by_cases hi : inR s i 48 57 = true
    · rw [numF_step hi]
      rw [numF, if_pos hi, ih _ _ (by omega)]
    · have hi' : inR s i 48 57 = false := by simpa using hi
      rw [numF_stop hi', numF, if_neg hi]
theorem numF_dec (s : ByteArray) : ∀ (ds : List Nat) (pre post : List UInt8) (v : Nat), (∀ d ∈ ds, d < 10) → s = txt (pre ++ (ds.map (fun d => UInt8.ofNat (48 + d)) ++ post)) →
    numF s (s.size - pre.length) pre.length v = numF s (s.size - (pre.length + ds.length)) (pre.length + ds.length) (ds.foldl (fun a d => a * 10 + d) v) := by
  intro ds
  induction ds with
  | nil => intro pre post v _ hs; simp
  | cons d ds ih =>
    intro pre post v hd hs
    have hd0 := hd d (by simp)
    have hs' : s = txt (pre ++ UInt8.ofNat (48 + d) :: (ds.map (fun d => UInt8.ofNat (48 + d)) ++ post)) := by rw [hs]; simp
    obtain ⟨a1, a2⟩ := bt_mid hs'
    rw [dig_nat d hd0] at a1
    rw [numF_step (inR_true.2 ⟨a2, by omega, by omega⟩), a1]
    have := ih (pre ++ [UInt8.ofNat (48 + d)]) post (v * 10 + d) (fun x hx => hd x (by simp [hx])) (by rw [hs']; simp)
    simp only [List.length_append, List.length_singleton] at this
    rw [show 48 + d - 48 = d by omega, this]
    simp only [List.length_cons, List.foldl_cons]
    rw [show pre.length + 1 + ds.length = pre.length + (ds.length + 1) by omega]
theorem dec_val : ∀ n, ∃ ds : List Nat, Lib.decDigits n = ds.map (fun d => UInt8.ofNat (48 + d)) ∧ (∀ d ∈ ds, d < 10) ∧ ds.foldl (fun a d => a * 10 + d) 0 = n := by
  intro n
  induction n using Nat.strongRecOn with
  | ind n ih =>
    by_cases h : n < 10
    · exact ⟨[n], by rw [dec_small n h]; rfl, by simpa using h, by simp⟩
    · obtain ⟨ds, e, h1, h2⟩ := ih (n / 10) (by omega)
      refine ⟨ds ++ [n % 10], by rw [dec_last n h, e, List.map_append]; rfl, ?_, ?_⟩
      · intro d hd
        rcases List.mem_append.1 hd with q | q
        · exact h1 d q
        · simp at q; omega
      · rw [List.foldl_append, h2]
        simp only [List.foldl_cons, List.foldl_nil]
        omega
theorem num_back (s : ByteArray) (n : Nat) (pre post : List UInt8) (c : UInt8) (hs : s = txt (pre ++ (Lib.decDigits n ++ c :: post))) (hc : c.toNat < 48 ∨ 57 < c.toNat) : num s pre.length = (n, pre.length + (Lib.decDigits n).length) := by
  obtain ⟨ds, e, h1, h2⟩ := dec_val n
  unfold num
  rw [numF_dec s ds pre (c :: post) 0 h1 (by rw [hs, e]), h2]
  have hs' : s = txt ((pre ++ Lib.decDigits n) ++ c :: post) := by rw [hs]; simp
  obtain ⟨a1, a2⟩ := bt_at (i := pre.length + ds.length) hs' (by rw [e]; simp)
  rw [numF_stop (inR_false.2 (by omega)), e]
  simp
theorem numSix_back (s : ByteArray) (n : Nat) (hn : n ≤ 100) (pre post : List UInt8) (c : UInt8) (hs : s = txt (pre ++ (Lib.decDigits n ++ c :: post))) (hc : c.toNat < 48 ∨ 57 < c.toNat) : numSix s pre.length = true := by
  have h3 := dec_lt3 n hn
  have h0 := dec_pos n
  unfold numSix
  rw [num_back s n pre post c hs hc]
  dsimp only
  rw [decide_eq_true (by omega), decide_eq_true (show pre.length + (Lib.decDigits n).length - pre.length ≤ 6 by omega)]
  simp only [Bool.true_and, Bool.and_true]
  by_cases h1 : n < 10
  · rw [decide_eq_false (show ¬ 1 < pre.length + (Lib.decDigits n).length - pre.length by rw [dec_small n h1]; simp)]
    rfl
  · obtain ⟨d, rest, e, d1, d2⟩ := dec_first n (by omega)
    have hs' : s = txt (pre ++ UInt8.ofNat (48 + d) :: (rest ++ c :: post)) := by rw [hs, e]; simp
    obtain ⟨a1, a2⟩ := bt_mid hs'
    rw [dig_nat d d2] at a1
    rw [decide_eq_false (show ¬ bt s pre.length = 48 by omega)]
    simp
theorem word_back (s : ByteArray) : ∀ (ws : List UInt8) (pre post : List UInt8), s = txt (pre ++ (ws ++ post)) → wordF s (ws.map UInt8.toNat) pre.length = .inl (pre.length + ws.length) := by
  intro ws
  induction ws with
  | nil => intro pre post hs; simp [wordF]
  | cons c ws ih =>
    intro pre post hs
    have hs' : s = txt (pre ++ c :: (ws ++ post)) := by rw [hs]; simp
    obtain ⟨a1, a2⟩ := bt_mid hs'
    rw [List.map_cons, wordF, if_pos ⟨a2, a1⟩]
    have := ih (pre ++ [c]) post (by rw [hs']; simp)
    simp only [List.length_append, List.length_singleton] at this
    rw [this, List.length_cons, show pre.length + 1 + ws.length = pre.length + (ws.length + 1) by omega]
theorem side_back (s : ByteArray) (ws : List UInt8) (n : Nat) (hn : n ≤ 100) (pre post : List UInt8) (c : UInt8) (hs : s = txt (pre ++ (ws ++ (Lib.decDigits n ++ c :: post)))) (hc : c.toNat < 48 ∨ 57 < c.toNat) :
    sideS s (ws.map UInt8.toNat) pre.length = .inl (n, pre.length + ws.length + (Lib.decDigits n).length) := by
  unfold sideS
  rw [word_back s ws pre _ hs]
  dsimp only
  have hs' : s = txt ((pre ++ ws) ++ (Lib.decDigits n ++ c :: post)) := by rw [hs]; simp
  have h1 := numSix_back s n hn _ _ c hs' hc
  have h2 := num_back s n _ _ c hs' hc
  rw [List.length_append] at h1 h2
  rw [h1, h2]
  simp only [Bool.not_true, Bool.false_eq_true, if_false]
  rw [if_neg (by omega)]
def headB (W H : Nat) : List UInt8 := [120, 32, 61, 32] ++ Lib.decDigits W ++ [44, 32, 121, 32, 61, 32] ++ Lib.decDigits H ++ [10]
theorem head_back (s : ByteArray) (W H : Nat) (hW : W ≤ 100) (hH : H ≤ 100) (post : List UInt8) (hs : s = txt (headB W H ++ post)) : headS s = .inl (W, H, (headB W H).length) := by
  unfold headS
  have e1 := side_back s [120, 32, 61, 32] W hW [] ([32, 121, 32, 61, 32] ++ Lib.decDigits H ++ [10] ++ post) 44 (by rw [hs, headB]; simp) (Or.inl (by decide))
  have e2 := side_back s [44, 32, 121, 32, 61, 32] H hH ([120, 32, 61, 32] ++ Lib.decDigits W) post 10 (by rw [hs, headB]; simp) (Or.inl (by decide))
  have e3 := word_back s [10] ([120, 32, 61, 32] ++ Lib.decDigits W ++ [44, 32, 121, 32, 61, 32] ++ Lib.decDigits H) post (by rw [hs, headB]; simp)
  rw [show ([120, 32, 61, 32] : List Nat) = ([120, 32, 61, 32] : List UInt8).map UInt8.toNat from rfl, show (0 : Nat) = ([] : List UInt8).length from rfl, e1]
  dsimp only
  rw [show ([] : List UInt8).length + ([120, 32, 61, 32] : List UInt8).length + (Lib.decDigits W).length = ([120, 32, 61, 32] ++ Lib.decDigits W).length by simp; omega]
  rw [show ([44, 32, 121, 32, 61, 32] : List Nat) = ([44, 32, 121, 32, 61, 32] : List UInt8).map UInt8.toNat from rfl, e2]
  dsimp only
  rw [show (([120, 32, 61, 32] : List UInt8) ++ Lib.decDigits W).length + ([44, 32, 121, 32, 61, 32] : List UInt8).length + (Lib.decDigits H).length = (([120, 32, 61, 32] : List UInt8) ++ Lib.decDigits W ++ [44, 32, 121, 32, 61, 32] ++ Lib.decDigits H).length by simp; omega]
  rw [show ([10] : List Nat) = ([10] : List UInt8).map UInt8.toNat from rfl, e3]
  simp [headB]
  omega
end Go.Proofs.YtljdidimoagnhaaDoor

