/-
  What the last text of this claim leans on, part 8: Li7, Rk2, Rk3, Clone, Rk4.
-/
import Derived.Test.YtdhbdkkchobinaaJz7
import Derived.Test.YtdhbdkkchobinaaJz3
import Derived.Test.YtdhbdkkchobinaaProg
import Derived.Lib.Strings
import Derived.Lib.Walk
import Derived.Lib.BufferWrite
import Derived.Lib.UnsafeStr
import Derived.Lib.Hide
import Derived.Laws.MakeOwn
import Derived.WalkKit
import Derived.Deep.RegionWith
namespace Go.Proofs.Ytdhbdkkchobinaa
open Go.RowKit
set_option linter.unusedVariables false

theorem ArgP.blk {w : World} {xs : List Int} {a : Option Addr} {n c : Nat} (h : ArgP w xs a n c) (hn : 0 < n) : ∀ g off, a = some ⟨g, off, none⟩ → g < w.heap.size := fun g off e => by
  obtain ⟨g', off', e', hg, -⟩ := h.cells 0 (by rw [← h.len]; exact hn)
  rw [e'] at e
  injection e with e
  injection e with e1
  omega
theorem LineOk.pos {S R : Nat} {T : List Int} (h : LineOk S R T) : 0 < T.length := by
  rw [h.len]
  exact Nat.pow_pos (by have := h.s2; omega)
theorem zeros_ok (S m : Nat) (h : 2 ≤ S) : cellsOk S (List.replicate m 0) := fun x hx => by
  rw [List.mem_replicate] at hx
  omega

set_option maxRecDepth 100000 in
set_option maxHeartbeats 1600000 in
theorem shorten_none (S R : Nat) (T : List Int) (ta : Option Addr) (tn tc : Nat) (fs : List Int) (fa : Option Addr) (fc : Nat) (w : World)
    (hL : LineOk S R T) (hT : ArgP w T ta tn tc) (hF : ArgP w fs fa (2 * R) (fc + 1)) (hfc : 2 * R ≤ fc + 1) (hfm : fc + 1 ≤ 1000) (hok : cellsOk S fs) :
    Calls Try.prog 33 #[.agg #[.int .i64 2, .int .i64 0, .int .i64 0, .int .i64 (S : Int), .int .i64 (R : Int), .slice ta tn tc, .string ⟨#[]⟩], .slice fa (2 * R) (fc + 1), .slice none 0 0] w fun e w' => e = .returned (.tuple #[]) ∧ Below w.heap.size w w' := by
  obtain ⟨w1, hw1⟩ : ∃ w1, w.alloc (.cells #[.int .i64 2, .int .i64 0, .int .i64 0, .int .i64 (S : Int), .int .i64 (R : Int), .slice ta tn tc, .string ⟨#[]⟩] 28) = w1 := ⟨_, rfl⟩
  have RX := hide' (show RB w.heap.size S R (.slice ta tn tc) w1 by rw [← hw1]; exact RB.new w S R _ _)
  have AF := hide' (show ArgP w1 fs fa (2 * R) (fc + 1) by rw [← hw1]; exact hF.alloc _)
  have BB := hide' (show Below w.heap.size w w1 by rw [← hw1]; exact (Below.refl _ _).alloc (Nat.le_refl _) _)
  have HL := hide' hL
  have HO := hide' hok
  have FL := hide' hF.len
  have s2 := hL.s2
  have s4 := hL.s4
  have r10 := hL.r10
  have hmx := hL.max
  have htn : tn ≤ 4096 := by have := hT.len; omega
  have s0 : ((S : Int) == 0) = false := by simp; omega
  have hq : ∃ q : Nat, (tn : Int) / (S : Int) = (q : Int) ∧ (q : Int) = (S : Int) ^ (2 * R) := ⟨S ^ (2 * R), by rw [hT.len, first_is hL]; simp, by simp⟩
  obtain ⟨q, hq1, hq2⟩ := hq
  have hq4 : (q : Int) ≤ 4096 := by rw [hq2]; exact pow_le_tab hL (by omega)
  have o2 : (2 * (R : Int)) ≤ ((fc : Int) + 1) := by omega
  clear hT hF hok hL hq2
  obtain ⟨x0, x1, x2, x3, x4, x5, x6⟩ := RX.out
  go_enter Try.func33, Try.ntmps33
  go_wp2
  clear hw1
  go_loop [8, 25] (fun wv iv => ∃ i v : Nat, iv = .int .i64 (i : Int) ∧ wv = .int .i64 (v : Int) ∧ i ≤ 2 * R ∧ Hid ((v : Int) = wn S (fun t => fs.getD t 0) 0 i)) (fun _ iv => 2 * R - (intOf iv).toNat)
  case atStart => exact ⟨0, 0, rfl, rfl, by omega, hide' rfl⟩
  case round =>
    obtain ⟨i, v, rfl, rfl, hi, HV⟩ := hrel
    by_cases d : (i : Int) < 2 * (R : Int)
    · obtain ⟨g, off, rfl, hc⟩ := AF.out.at (k := i) (by omega)
      obtain ⟨x, hx⟩ : ∃ x : Nat, fs.getD i 0 = (x : Int) := ⟨(fs.getD i 0).toNat, by have := cellsOk_at HO.out (k := i) (by have := FL.out; omega); omega⟩
      rw [hx] at hc
      obtain ⟨p, hp⟩ : ∃ p : Nat, (v : Int) * (S : Int) = (p : Int) := ⟨v * S, by simp⟩
      have HN := hide' (show ((p + x : Nat) : Int) = wn S (fun t => fs.getD t 0) 0 (i + 1) by rw [wn, ← HV.out, hp, Nat.zero_add, hx]; simp)
      have hlt : p + x ≤ 4096 := by
        have h1 := wn_lt (S := (S : Int)) (f := fun t => fs.getD t 0) (i := 0) (m := i + 1) (by omega) (fun e he => cellsOk_at HO.out (by have := FL.out; omega))
        have h2 := pow_le_tab HL.out (m := i + 1) (by omega)
        rw [← HN.out] at h1
        omega
      have k1 : i < 2 * R := by omega
      clear hx
      go_wp2
      exact ⟨⟨i + 1, p + x, by go_num, by go_num, by omega, HN.out⟩, by simp [intOf]; omega⟩
    · go_wp2
      go_loop [38] (fun iv => iv = .int .i64 0) (fun _ => 0)
      case atStart => rfl
      case round =>
        obtain rfl := hrel
        go_wp2
        go_end0
        exact ⟨rfl, BB.out⟩

set_option maxRecDepth 100000 in
set_option maxHeartbeats 1600000 in
theorem shorten_none0 (S : Nat) (T : List Int) (ta : Option Addr) (tn tc : Nat) (fa : Option Addr) (w : World) (hL : LineOk S 0 T) (hT : ArgP w T ta tn tc) :
    Calls Try.prog 33 #[.agg #[.int .i64 2, .int .i64 0, .int .i64 0, .int .i64 (S : Int), .int .i64 0, .slice ta tn tc, .string ⟨#[]⟩], .slice fa 0 0, .slice none 0 0] w fun e w' => e = .returned (.tuple #[]) ∧ Below w.heap.size w w' := by
  obtain ⟨w1, hw1⟩ : ∃ w1, w.alloc (.cells #[.int .i64 2, .int .i64 0, .int .i64 0, .int .i64 (S : Int), .int .i64 0, .slice ta tn tc, .string ⟨#[]⟩] 28) = w1 := ⟨_, rfl⟩
  have RX := hide' (show RB w.heap.size S 0 (.slice ta tn tc) w1 by rw [← hw1]; exact RB.new w S 0 _ _)
  have BB := hide' (show Below w.heap.size w w1 by rw [← hw1]; exact (Below.refl _ _).alloc (Nat.le_refl _) _)
  have s2 := hL.s2
  have s4 := hL.s4
  have hmx := hL.max
  have htn : tn ≤ 4096 := by have := hT.len; omega
  have s0 : ((S : Int) == 0) = false := by simp; omega
  have hq : ∃ q : Nat, (tn : Int) / (S : Int) = (q : Int) ∧ (q : Int) ≤ 4096 := ⟨1, by rw [hT.len, first_is hL]; simp, by omega⟩
  obtain ⟨q, hq1, hq4⟩ := hq
  clear hT hL
  obtain ⟨x0, x1, x2, x3, x4, x5, x6⟩ := RX.out
  go_enter Try.func33, Try.ntmps33
  go_wp2
  clear hw1
  go_loop [25] (fun iv => iv = .int .i64 0) (fun _ => 0)
  case atStart => rfl
  case round =>
    obtain rfl := hrel
    go_wp2
    go_loop [38] (fun iv => iv = .int .i64 0) (fun _ => 0)
    case atStart => rfl
    case round =>
      obtain rfl := hrel
      go_wp2
      go_end0
      exact ⟨rfl, BB.out⟩
end Go.Proofs.Ytdhbdkkchobinaa

namespace Go.Proofs.Ytdhbdkkchobinaa
open Go.RowKit

theorem num_le (s : ByteArray) (i least most : Nat) (h : numOk s i least most = true) : (num s i).1 ≤ most ∧ least ≤ (num s i).1 := by
  simp [numOk] at h
  omega

theorem i64_and_nat (a b : Nat) (ha : a < 4294967296) (hb : b < 4294967296) : bits .and .i64 (a : Int) (b : Int) = ((a &&& b : Nat) : Int) := by
  have hx : a &&& b < 2 ^ 32 := Nat.and_lt_two_pow _ (by omega)
  show IntKind.i64.wrap ((BitVec.ofInt 64 (a : Int) &&& BitVec.ofInt 64 (b : Int)).toNat : Int) = _
  rw [BitVec.toNat_and, ofInt_u64 a (by omega), ofInt_u64 b (by omega)]
  simp [IntKind.wrap, IntKind.bits, IntKind.signed]
  omega

theorem and_bit (n k : Nat) (hn : n ≤ 255) : bits BinOp.and IntKind.i64 ((n : Int) / 2 ^ k) 1 = bitOf n k := by
  rw [show ((n : Int) / 2 ^ k) = ((n / 2 ^ k : Nat) : Int) by simp]
  have hl : n / 2 ^ k ≤ n := Nat.div_le_self _ _
  have := i64_and_nat (n / 2 ^ k) 1 (by omega) (by omega)
  simp only [Nat.and_one_is_mod] at this
  exact this

end Go.Proofs.Ytdhbdkkchobinaa

namespace Go.Proofs.Ytdhbdkkchobinaa
open Go.RowKit
set_option linter.unusedVariables false

/-- What a text of tabled comes to, in one of six ways. -/
theorem tabled_ways (s : ByteArray) :
    (inR s 1 32 32 = false ∧ tabledS s = .inr 1) ∨
    (inR s 1 32 32 = true ∧ numOk s 2 2 4 = false ∧ tabledS s = .inr 2) ∨
    (inR s 1 32 32 = true ∧ numOk s 2 2 4 = true ∧ inR s (num s 2).2 32 32 = false ∧ tabledS s = .inr (num s 2).2) ∨
    (inR s 1 32 32 = true ∧ numOk s 2 2 4 = true ∧ inR s (num s 2).2 32 32 = true ∧ numOk s ((num s 2).2 + 1) 0 2 = false ∧ tabledS s = .inr ((num s 2).2 + 1)) ∨
    (inR s 1 32 32 = true ∧ numOk s 2 2 4 = true ∧ inR s (num s 2).2 32 32 = true ∧ numOk s ((num s 2).2 + 1) 0 2 = true ∧ inR s (num s ((num s 2).2 + 1)).2 32 32 = false ∧ tabledS s = .inr (num s ((num s 2).2 + 1)).2) ∨
    (inR s 1 32 32 = true ∧ numOk s 2 2 4 = true ∧ inR s (num s 2).2 32 32 = true ∧ numOk s ((num s 2).2 + 1) 0 2 = true ∧ inR s (num s ((num s 2).2 + 1)).2 32 32 = true ∧
      tabledS s = tabEnd s (num s 2).1 (num s ((num s 2).2 + 1)).1 (num s ((num s 2).2 + 1)).2) := by
  unfold tabledS
  cases hA : inR s 1 32 32
  · simp
  cases hB : numOk s 2 2 4
  · simp
  cases hC : inR s (num s 2).2 32 32
  · simp
  cases hD : numOk s ((num s 2).2 + 1) 0 2
  · simp
  cases hE : inR s (num s ((num s 2).2 + 1)).2 32 32
  · simp
  · simp

/-- What a call on the reader comes to: the rule, and how far; or the fault's place, by a panic. -/
def Reads (x : (Out × Nat) ⊕ Nat) (b : Nat) (s : ByteArray) (w : World) (e : Ending) (w' : World) : Prop :=
  match x with
  | .inr a => e = .panicked oops ∧ At b s a w' ∧ Rd b w w'
  | .inl (o, p) => ∃ v, e = .returned (o.val v) ∧ Tab w' v o.table ∧ Fresh w v ∧ At b s p w' ∧ Rd b w w' ∧ p ≤ s.size

theorem Reads.bad {b : Nat} {s : ByteArray} {w w' : World} {a : Nat} (ha : At b s a w') (hr : Rd b w w') : Reads (.inr a) b s w (.panicked oops) w' := ⟨rfl, ha, hr⟩

theorem tabF_step {s : ByteArray} {hi : Int} {N k i : Nat} (hk : k < N) (h : inR s i 48 hi = true) : tabF s hi (N - k) i + k = tabF s hi (N - (k + 1)) (i + 1) + (k + 1) := by
  rw [show N - k = (N - (k + 1)) + 1 by omega]
  simp [tabF, h]; omega
theorem tabF_stop {s : ByteArray} {hi : Int} {N k i : Nat} (h : inR s i 48 hi = false) : tabF s hi (N - k) i + k = k := by
  cases N - k <;> simp [tabF, h]

end Go.Proofs.Ytdhbdkkchobinaa

namespace Go.Proofs.Ytdhbdkkchobinaa
open Go.RowKit

theorem info_u8 : (Try.prog.info? 5).map (fun i => (i.zero, i.size, i.bytes)) = some (some (.int .u8 0), 1, 1) := by kernel_rfl

end Go.Proofs.Ytdhbdkkchobinaa

namespace Go.Proofs.Ytdhbdkkchobinaa
open Go.RowKit
set_option linter.unusedVariables false

theorem isTurn_any (c : Int) (w : World) :
    Calls Try.prog 65 #[.int .u8 c] w fun e w' => e = .returned (.bool (c == 76 || c == 82)) ∧ w' = w := by
  cases h1 : (c == 76)
  · cases h2 : (c == 82)
    · go_enter Try.func65, Try.ntmps65
      go_wp2
      go_ret
      exact ⟨rfl, rfl⟩
    · go_enter Try.func65, Try.ntmps65
      go_wp2
      go_ret
      exact ⟨rfl, rfl⟩
  · go_enter Try.func65, Try.ntmps65
    go_wp2
    go_ret
    exact ⟨rfl, rfl⟩

theorem isTurn_yes (c : Int) (w : World) (h : c = 76 ∨ c = 82) :
    Calls Try.prog 65 #[.int .u8 c] w fun e w' => e = .returned (.bool true) ∧ w' = w := by
  refine (isTurn_any c w).mono fun e w' ⟨he, hw⟩ => ⟨?_, hw⟩
  rw [he, show (c == 76 || c == 82) = true by simp; omega]
theorem isTurn_no (c : Int) (w : World) (h : ¬ (c = 76 ∨ c = 82)) :
    Calls Try.prog 65 #[.int .u8 c] w fun e w' => e = .returned (.bool false) ∧ w' = w := by
  refine (isTurn_any c w).mono fun e w' ⟨he, hw⟩ => ⟨?_, hw⟩
  rw [he, show (c == 76 || c == 82) = false by simp; omega]

theorem turnF_step {s : ByteArray} {i : Nat} (h2 : i < 28) (hi : i < s.size) (h : bt s i = 76 ∨ bt s i = 82) : turnF s (28 - i) i = turnF s (28 - (i + 1)) (i + 1) := by
  rw [show 28 - i = (28 - (i + 1)) + 1 by omega]
  simp only [turnF]
  rw [if_pos ⟨hi, h⟩]
theorem turnF_stop {s : ByteArray} {i : Nat} (h : ¬ (i < 28 ∧ i < s.size ∧ (bt s i = 76 ∨ bt s i = 82))) : turnF s (28 - i) i = i := by
  by_cases h2 : i < 28
  · rw [show 28 - i = (28 - (i + 1)) + 1 by omega]
    simp only [turnF]
    rw [if_neg (by omega)]
  · rw [show 28 - i = 0 by omega]; rfl

theorem Rd.of_below {b : Nat} {w w' : World} (h : Below w.heap.size w w') : Rd b w w' := ⟨h.os, h.tape, h.output, h.size, fun k hk _ => h.block k hk⟩
theorem At.below {b : Nat} {s : ByteArray} {i : Nat} {w w' : World} (h : At b s i w) (hb : Below w.heap.size w w') : At b s i w' := by
  have e := hb.block b h.lt
  exact ⟨(World.cell?_of_block (w := w) (a := ⟨b, 0, none⟩) e).trans h.txt, (World.cell?_of_block (w := w) (a := ⟨b, 1, none⟩) e).trans h.pos,
    (World.frozen?_of_block (w := w) (a := ⟨b, 0, none⟩) e).trans h.fz0, (World.frozen?_of_block (w := w) (a := ⟨b, 1, none⟩) e).trans h.fz1⟩
theorem At.drew {b : Nat} {s : ByteArray} {i : Nat} {w : World} (h : At b s i w) : At b s i w.drew := ⟨h.txt, h.pos, h.fz0, h.fz1⟩
theorem extract_size (s : ByteArray) (a b : Nat) (h : b ≤ s.size) : (s.extract a b).size ≤ b - a := by simp [ByteArray.size_extract]; omega

end Go.Proofs.Ytdhbdkkchobinaa

