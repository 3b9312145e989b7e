/-
  What the last text of this claim leans on, part 14: Cj2, Cj3, Ck1, Cd1.
-/
import Derived.Test.YtcfoeadfhkojeaaGreatDoorZm13
import Derived.Test.YtcfoeadfhkojeaaGreatDoorShelf
import Derived.Test.YtcfoeadfhkojeaaGreatDoorZm4
import Derived.Lib.IndexLaws
import Derived.Deep.RegionHeld3
namespace Go.Proofs.YtcfoeadfhkojeaaGreatDoor
open Go.RowKit
set_option linter.unusedVariables false
/-- The number of a word; 0: it is none. -/
def opW (l : List UInt8) : Nat := if [105, 110, 99] == l then 1 else if [100, 101, 99] == l then 2 else if [104, 97, 108, 116] == l then 3 else 0
set_option maxRecDepth 100000 in
set_option maxHeartbeats 3200000 in
theorem opOf_any (s : ByteArray) (w : World) (hW : WoT w) : Calls Tryz.prog 48 #[.string s] w fun e w' => e = .returned (.int .i64 (opW s.toList : Int)) ∧ w' = w := by
  have c1 := hW 1 (by omega)
  have c2 := hW 2 (by omega)
  have c3 := hW 3 (by omega)
  clear hW
  simp only [wordL, List.getD_cons_succ, List.getD_cons_zero] at c1 c2 c3
  have OW := hide' (show opW s.toList = if [105, 110, 99] == s.toList then 1 else if [100, 101, 99] == s.toList then 2 else if [104, 97, 108, 116] == s.toList then 3 else 0 from rfl)
  go_enter Tryz.func48, Tryz.ntmps48
  go_wp2
  go_loopw [3] (fun kv wr => ∃ (k : Nat), kv = .int .i64 (k : Int) ∧ k ≤ 4 ∧ wr = w ∧ Hid ((1 < k → ([105, 110, 99] == s.toList) = false) ∧ (2 < k → ([100, 101, 99] == s.toList) = false) ∧ (3 < k → ([104, 97, 108, 116] == s.toList) = false) ∧ 1 ≤ k)) (fun kv _ => 4 - (intOf kv).toNat)
  case atStart => exact ⟨1, rfl, by omega, rfl, hide' ⟨by omega, by omega, by omega, by omega⟩⟩
  case round =>
    obtain ⟨k, rfl, hk, rfl, KS⟩ := hrel
    rcases (show k = 1 ∨ k = 2 ∨ k = 3 ∨ k = 4 by have := KS.out.2.2.2; omega) with rfl | rfl | rfl | rfl
    · cases h : ([105, 110, 99] == s.toList) with
      | true =>
        have F := hide' (show opW s.toList = 1 by rw [OW.out, h, if_pos rfl])
        go_wp2
        go_ret
        exact ⟨by rw [F.out]; rfl, rfl⟩
      | false =>
        have H := hide' h
        go_wp2
        exact ⟨⟨2, by go_num, by omega, trivial, hide' ⟨fun _ => trivial, by omega, by omega, by omega⟩⟩, by simp [intOf]⟩
    · cases h : ([100, 101, 99] == s.toList) with
      | true =>
        have F := hide' (show opW s.toList = 2 by rw [OW.out, KS.out.1 (by omega), if_neg (by decide), h, if_pos rfl])
        go_wp2
        go_ret
        exact ⟨by rw [F.out]; rfl, rfl⟩
      | false =>
        have H := hide' h
        go_wp2
        exact ⟨⟨3, by go_num, by omega, trivial, hide' ⟨fun _ => KS.out.1 (by omega), fun _ => trivial, by omega, by omega⟩⟩, by simp [intOf]⟩
    · cases h : ([104, 97, 108, 116] == s.toList) with
      | true =>
        have F := hide' (show opW s.toList = 3 by rw [OW.out, KS.out.1 (by omega), if_neg (by decide), KS.out.2.1 (by omega), if_neg (by decide), h, if_pos rfl])
        go_wp2
        go_ret
        exact ⟨by rw [F.out]; rfl, rfl⟩
      | false =>
        have H := hide' h
        go_wp2
        exact ⟨⟨4, by go_num, by omega, trivial, hide' ⟨fun _ => KS.out.1 (by omega), fun _ => KS.out.2.1 (by omega), fun _ => trivial, by omega⟩⟩, by simp [intOf]⟩
    · have F := hide' (show opW s.toList = 0 by rw [OW.out, KS.out.1 (by omega), if_neg (by decide), KS.out.2.1 (by omega), if_neg (by decide), KS.out.2.2.1 (by omega), if_neg (by decide)])
      go_wp2
      go_ret
      exact ⟨by rw [F.out]; rfl, rfl⟩
end Go.Proofs.YtcfoeadfhkojeaaGreatDoor

namespace Go.Proofs.YtcfoeadfhkojeaaGreatDoor
open Go.RowKit
set_option linter.unusedVariables false
/-- The value of the first so many digits. -/
def dvl (l : List UInt8) : Nat → Nat
  | 0 => 0
  | k + 1 => 10 * dvl l k + ((l.getD k 0).toNat - 48)
def digB (l : List UInt8) (k : Nat) : Prop := ∀ i, i < k → 48 ≤ (l.getD i 0).toNat ∧ (l.getD i 0).toNat ≤ 57
/-- The number that a piece is; none: it is none. -/
def numC (l : List UInt8) : Prop := l ≠ [] ∧ l.length ≤ 6 ∧ (l.getD 0 0 = 48 → l.length = 1) ∧ digB l l.length
theorem dvl_le (l : List UInt8) : ∀ k, digB l k → dvl l k < 10 ^ k
  | 0, _ => by simp [dvl]
  | k + 1, h => by
    have h1 := dvl_le l k (fun i hi => h i (by omega))
    have h2 := h k (by omega)
    rw [dvl, Nat.pow_succ]
    omega
set_option maxRecDepth 100000 in
set_option maxHeartbeats 3200000 in
theorem readNumber_ok (l : List UInt8) (w : World) (h : numC l) : Calls Tryz.prog 49 #[.string ⟨l.toArray⟩] w fun e w' => e = .returned (.tuple #[.int .i64 (dvl l l.length : Int), .nilIface]) ∧ w' = w := by
  obtain ⟨h0, h6, hz, hd⟩ := h
  have HZ := hide' hz
  have HD := hide' hd
  have e0 : l.isEmpty = false := by simpa using h0
  have e6 : ¬ (6 : Int) < (l.length : Int) := by omega
  have l0 : 0 < l.length := List.length_pos_iff.2 h0
  have z1 : (¬ (l[0].toNat : Int) = 48) ∨ ((l[0].toNat : Int) = 48 ∧ (l == [48]) = true) := by
    by_cases q : l[0] = 48
    · have h1 : l.length = 1 := HZ.out (by simp [List.getD, l0, q])
      refine Or.inr ⟨by rw [q]; decide, ?_⟩
      clear HZ HD hz hd e0 e6 h0 h6
      match l, h1 with
      | [x], _ => simp at q; simp [q]
    · left
      have : ¬ l[0].toNat = 48 := fun e => q (UInt8.toNat_inj.1 e)
      omega
  have g0 : 0 < (⟨l.toArray⟩ : ByteArray).size := by show 0 < l.toArray.size; simpa using l0
  have G0 : ((⟨l.toArray⟩ : ByteArray)[0]'g0).toNat = l[0].toNat := rfl
  rw [← G0] at z1
  clear hz hd h0 G0
  go_enter Tryz.func49, Tryz.ntmps49
  rcases z1 with z1 | ⟨z1, z2⟩
  · go_wp2
    go_loopw [4, 24] (fun nv iv wr => ∃ (i : Nat), iv = .int .i64 (i : Int) ∧ nv = .int .i64 (dvl l i : Int) ∧ i ≤ l.length ∧ wr = w) (fun _ iv _ => l.length - (intOf iv).toNat)
    case atStart => exact ⟨0, rfl, rfl, by omega, rfl⟩
    case round =>
      obtain ⟨i, rfl, rfl, hi, rfl⟩ := hrel
      by_cases d : (i : Int) < (l.length : Int)
      · have il : i < l.length := by omega
        have i0 : (0 : Int) ≤ (i : Int) := by omega
        have hb := HD.out i il
        rw [show l.getD i 0 = l[i] by simp [List.getD, il]] at hb
        have NV := dvl_le l i (fun j hj => HD.out j (by omega))
        have N6 : 10 ^ i ≤ 10 ^ 6 := Nat.pow_le_pow_right (by omega) (by omega)
        have DS := hide' (show dvl l (i + 1) = 10 * dvl l i + (l[i].toNat - 48) by rw [dvl, show l.getD i 0 = l[i] by simp [List.getD, il]])
        have gi : i < (⟨l.toArray⟩ : ByteArray).size := by show i < l.toArray.size; simpa using il
        have GI : ((⟨l.toArray⟩ : ByteArray)[i]'gi).toNat = l[i].toNat := rfl
        rw [← GI] at hb DS
        obtain ⟨c, hc⟩ : ∃ c, ((⟨l.toArray⟩ : ByteArray)[i]'gi).toNat = c := ⟨_, rfl⟩
        obtain ⟨n, hn⟩ : ∃ n, dvl l i = n := ⟨_, rfl⟩
        rw [hc] at hb DS
        rw [hn] at NV DS ⊢
        have n6 : n < 1000000 := by omega
        have k1 : ¬ (c : Int) < 48 := by omega
        have k2 : ¬ (57 : Int) < (c : Int) := by omega
        obtain ⟨dg, hdg⟩ : ∃ dg, c - 48 = dg := ⟨_, rfl⟩
        have d9 : dg ≤ 9 := by omega
        have k3 : IntKind.u8.wrap ((c : Int) - 48) = (dg : Int) := by simp [IntKind.wrap, IntKind.bits, IntKind.signed]; omega
        have k4 : IntKind.i64.wrap (10 * (n : Int)) = 10 * (n : Int) := by simp [IntKind.wrap, IntKind.bits, IntKind.signed]; omega
        rw [hdg] at DS
        clear NV N6 hb hn hdg GI
        go_wp2
        exact ⟨⟨i + 1, by go_num, by rw [DS.out]; go_num, by omega, trivial⟩, by simp [intOf]; omega⟩
      · obtain rfl : i = l.length := by omega
        go_wp2
        go_ret2
        exact ⟨rfl, rfl⟩
  · go_wp2
    go_loopw [4, 24] (fun nv iv wr => ∃ (i : Nat), iv = .int .i64 (i : Int) ∧ nv = .int .i64 (dvl l i : Int) ∧ i ≤ l.length ∧ wr = w) (fun _ iv _ => l.length - (intOf iv).toNat)
    case atStart => exact ⟨0, rfl, rfl, by omega, rfl⟩
    case round =>
      obtain ⟨i, rfl, rfl, hi, rfl⟩ := hrel
      by_cases d : (i : Int) < (l.length : Int)
      · have il : i < l.length := by omega
        have i0 : (0 : Int) ≤ (i : Int) := by omega
        have hb := HD.out i il
        rw [show l.getD i 0 = l[i] by simp [List.getD, il]] at hb
        have NV := dvl_le l i (fun j hj => HD.out j (by omega))
        have N6 : 10 ^ i ≤ 10 ^ 6 := Nat.pow_le_pow_right (by omega) (by omega)
        have DS := hide' (show dvl l (i + 1) = 10 * dvl l i + (l[i].toNat - 48) by rw [dvl, show l.getD i 0 = l[i] by simp [List.getD, il]])
        have gi : i < (⟨l.toArray⟩ : ByteArray).size := by show i < l.toArray.size; simpa using il
        have GI : ((⟨l.toArray⟩ : ByteArray)[i]'gi).toNat = l[i].toNat := rfl
        rw [← GI] at hb DS
        obtain ⟨c, hc⟩ : ∃ c, ((⟨l.toArray⟩ : ByteArray)[i]'gi).toNat = c := ⟨_, rfl⟩
        obtain ⟨n, hn⟩ : ∃ n, dvl l i = n := ⟨_, rfl⟩
        rw [hc] at hb DS
        rw [hn] at NV DS ⊢
        have n6 : n < 1000000 := by omega
        have k1 : ¬ (c : Int) < 48 := by omega
        have k2 : ¬ (57 : Int) < (c : Int) := by omega
        obtain ⟨dg, hdg⟩ : ∃ dg, c - 48 = dg := ⟨_, rfl⟩
        have d9 : dg ≤ 9 := by omega
        have k3 : IntKind.u8.wrap ((c : Int) - 48) = (dg : Int) := by simp [IntKind.wrap, IntKind.bits, IntKind.signed]; omega
        have k4 : IntKind.i64.wrap (10 * (n : Int)) = 10 * (n : Int) := by simp [IntKind.wrap, IntKind.bits, IntKind.signed]; omega
        rw [hdg] at DS
        clear NV N6 hb hn hdg GI
        go_wp2
        exact ⟨⟨i + 1, by go_num, by rw [DS.out]; go_num, by omega, trivial⟩, by simp [intOf]; omega⟩
      · obtain rfl : i = l.length := by omega
        go_wp2
        go_ret2
        exact ⟨rfl, rfl⟩
set_option maxRecDepth 100000 in
set_option maxHeartbeats 3200000 in
theorem readNumber_loop (l : List UInt8) (w : World) (l0 : 0 < l.length) (h6 : l.length ≤ 6) (z1 : (¬ (l[0].toNat : Int) = 48) ∨ ((l[0].toNat : Int) = 48 ∧ (l == [48]) = true)) (hd : ¬ digB l l.length) : Calls Tryz.prog 49 #[.string ⟨l.toArray⟩] w fun e w' => e = .returned (.tuple #[.int .i64 0, errOf 2]) ∧ w' = w := by
  have E := hide' (errOf_is (f := 2) (by omega))
  have HD := hide' hd
  have e0 : l.isEmpty = false := by cases l with | nil => simp at l0 | cons x r => rfl
  have e6 : ¬ (6 : Int) < (l.length : Int) := by omega
  have g0 : 0 < (⟨l.toArray⟩ : ByteArray).size := by show 0 < l.toArray.size; simpa using l0
  have G0 : ((⟨l.toArray⟩ : ByteArray)[0]'g0).toNat = l[0].toNat := rfl
  rw [← G0] at z1
  clear hd G0
  go_enter Tryz.func49, Tryz.ntmps49
  rcases z1 with z1 | ⟨z1, z2⟩
  · go_wp2
    go_loopw [4, 24] (fun nv iv wr => ∃ (i : Nat), iv = .int .i64 (i : Int) ∧ nv = .int .i64 (dvl l i : Int) ∧ i ≤ l.length ∧ wr = w ∧ Hid (digB l i)) (fun _ iv _ => l.length - (intOf iv).toNat)
    case atStart => exact ⟨0, rfl, rfl, by omega, rfl, hide' (fun i hi => by omega)⟩
    case round =>
      obtain ⟨i, rfl, rfl, hi, rfl, DB⟩ := hrel
      by_cases d : (i : Int) < (l.length : Int)
      · have il : i < l.length := by omega
        have i0 : (0 : Int) ≤ (i : Int) := by omega
        have NV := dvl_le l i DB.out
        have N6 : 10 ^ i ≤ 10 ^ 6 := Nat.pow_le_pow_right (by omega) (by omega)
        have LG := hide' (show l.getD i 0 = l[i] by simp [List.getD, il])
        have DS := hide' (show dvl l (i + 1) = 10 * dvl l i + (l[i].toNat - 48) by rw [dvl, LG.out])
        have NX := hide' (fun (hb : 48 ≤ l[i].toNat ∧ l[i].toNat ≤ 57) => show digB l (i + 1) from fun j hj => by
          by_cases e : j = i
          · subst e; rw [LG.out]; exact hb
          · exact DB.out j (by omega))
        have gi : i < (⟨l.toArray⟩ : ByteArray).size := by show i < l.toArray.size; simpa using il
        have GI : ((⟨l.toArray⟩ : ByteArray)[i]'gi).toNat = l[i].toNat := rfl
        rw [← GI] at DS NX
        obtain ⟨c, hc⟩ : ∃ c, ((⟨l.toArray⟩ : ByteArray)[i]'gi).toNat = c := ⟨_, rfl⟩
        obtain ⟨n, hn⟩ : ∃ n, dvl l i = n := ⟨_, rfl⟩
        rw [hc] at DS NX
        rw [hn] at NV DS ⊢
        have n6 : n < 1000000 := by omega
        clear N6 NV hn GI
        by_cases k1 : (c : Int) < 48
        · go_wp2
          go_ret2
          exact ⟨by rw [E.out]; rfl, rfl⟩
        · by_cases k2 : (57 : Int) < (c : Int)
          · go_wp2
            go_ret2
            exact ⟨by rw [E.out]; rfl, rfl⟩
          · have DX := hide' (NX.out (by omega))
            obtain ⟨dg, hdg⟩ : ∃ dg, c - 48 = dg := ⟨_, rfl⟩
            have d9 : dg ≤ 9 := by omega
            have k3 : IntKind.u8.wrap ((c : Int) - 48) = (dg : Int) := by simp [IntKind.wrap, IntKind.bits, IntKind.signed]; omega
            have k4 : IntKind.i64.wrap (10 * (n : Int)) = 10 * (n : Int) := by simp [IntKind.wrap, IntKind.bits, IntKind.signed]; omega
            rw [hdg] at DS
            clear hdg
            go_wp2
            exact ⟨⟨i + 1, by go_num, by rw [DS.out]; go_num, by omega, trivial, DX⟩, by simp [intOf]; omega⟩
      · obtain rfl : i = l.length := by omega
        exact absurd DB.out HD.out
  · go_wp2
    go_loopw [4, 24] (fun nv iv wr => ∃ (i : Nat), iv = .int .i64 (i : Int) ∧ nv = .int .i64 (dvl l i : Int) ∧ i ≤ l.length ∧ wr = w ∧ Hid (digB l i)) (fun _ iv _ => l.length - (intOf iv).toNat)
    case atStart => exact ⟨0, rfl, rfl, by omega, rfl, hide' (fun i hi => by omega)⟩
    case round =>
      obtain ⟨i, rfl, rfl, hi, rfl, DB⟩ := hrel
      by_cases d : (i : Int) < (l.length : Int)
      · have il : i < l.length := by omega
        have i0 : (0 : Int) ≤ (i : Int) := by omega
        have NV := dvl_le l i DB.out
        have N6 : 10 ^ i ≤ 10 ^ 6 := Nat.pow_le_pow_right (by omega) (by omega)
        have LG := hide' (show l.getD i 0 = l[i] by simp [List.getD, il])
        have DS := hide' (show dvl l (i + 1) = 10 * dvl l i + (l[i].toNat - 48) by rw [dvl, LG.out])
        have NX := hide' (fun (hb : 48 ≤ l[i].toNat ∧ l[i].toNat ≤ 57) => show digB l (i + 1) from fun j hj => by
          by_cases e : j = i
          · subst e; rw [LG.out]; exact hb
          · exact DB.out j (by omega))
        have gi : i < (⟨l.toArray⟩ : ByteArray).size := by show i < l.toArray.size; simpa using il
        have GI : ((⟨l.toArray⟩ : ByteArray)[i]'gi).toNat = l[i].toNat := rfl
        rw [← GI] at DS NX
        obtain ⟨c, hc⟩ : ∃ c, ((⟨l.toArray⟩ : ByteArray)[i]'gi).toNat = c := ⟨_, rfl⟩
        obtain ⟨n, hn⟩ : ∃ n, dvl l i = n := ⟨_, rfl⟩
        rw [hc] at DS NX
        rw [hn] at NV DS ⊢
        have n6 : n < 1000000 := by omega
        clear N6 NV hn GI
        by_cases k1 : (c : Int) < 48
        · go_wp2
          go_ret2
          exact ⟨by rw [E.out]; rfl, rfl⟩
        · by_cases k2 : (57 : Int) < (c : Int)
          · go_wp2
            go_ret2
            exact ⟨by rw [E.out]; rfl, rfl⟩
          · have DX := hide' (NX.out (by omega))
            obtain ⟨dg, hdg⟩ : ∃ dg, c - 48 = dg := ⟨_, rfl⟩
            have d9 : dg ≤ 9 := by omega
            have k3 : IntKind.u8.wrap ((c : Int) - 48) = (dg : Int) := by simp [IntKind.wrap, IntKind.bits, IntKind.signed]; omega
            have k4 : IntKind.i64.wrap (10 * (n : Int)) = 10 * (n : Int) := by simp [IntKind.wrap, IntKind.bits, IntKind.signed]; omega
            rw [hdg] at DS
            clear hdg
            go_wp2
            exact ⟨⟨i + 1, by go_num, by rw [DS.out]; go_num, by omega, trivial, DX⟩, by simp [intOf]; omega⟩
      · obtain rfl : i = l.length := by omega
        exact absurd DB.out HD.out
set_option maxRecDepth 100000 in
set_option maxHeartbeats 3200000 in
theorem readNumber_no (l : List UInt8) (w : World) (h : ¬ numC l) : Calls Tryz.prog 49 #[.string ⟨l.toArray⟩] w fun e w' => e = .returned (.tuple #[.int .i64 0, errOf 2]) ∧ w' = w := by
  have E := hide' (errOf_is (f := 2) (by omega))
  by_cases h0 : l = []
  · subst h0
    go_enter Tryz.func49, Tryz.ntmps49
    go_wp2
    go_ret2
    exact ⟨by rw [E.out]; rfl, rfl⟩
  · have e0 : l.isEmpty = false := by simpa using h0
    have l0 : 0 < l.length := List.length_pos_iff.2 h0
    by_cases h6 : l.length ≤ 6
    · have gd : l.getD 0 0 = l[0] := by simp [List.getD, l0]
      by_cases q : l[0] = 48
      · by_cases h1 : l.length = 1
        · refine readNumber_loop l w l0 h6 (Or.inr ⟨by rw [q]; decide, ?_⟩) (fun hd => h ⟨h0, h6, fun _ => h1, hd⟩)
          clear E h e0 h0 h6 gd
          match l, h1 with
          | [x], _ => simp at q; simp [q]
        · have z2 : (l == [48]) = false := by
            rw [beq_eq_false_iff_ne]
            intro e; rw [e] at h1; exact h1 rfl
          have e6 : ¬ (6 : Int) < (l.length : Int) := by omega
          have g0 : 0 < (⟨l.toArray⟩ : ByteArray).size := by show 0 < l.toArray.size; simpa using l0
          have G0 : (((⟨l.toArray⟩ : ByteArray)[0]'g0).toNat : Int) = 48 := by show (l[0].toNat : Int) = 48; rw [q]; decide
          clear h h0 q gd h1
          go_enter Tryz.func49, Tryz.ntmps49
          go_wp2
          go_ret2
          exact ⟨by rw [E.out]; rfl, rfl⟩
      · have nq : ¬ (l[0].toNat : Int) = 48 := fun e => q (UInt8.toNat_inj.1 (show l[0].toNat = 48 by omega))
        exact readNumber_loop l w l0 h6 (Or.inl nq) (fun hd => h ⟨h0, h6, fun e => absurd (gd.symm.trans e) q, hd⟩)
    · have e6 : (6 : Int) < (l.length : Int) := by omega
      clear h h0
      go_enter Tryz.func49, Tryz.ntmps49
      go_wp2
      go_ret2
      exact ⟨by rw [E.out]; rfl, rfl⟩
end Go.Proofs.YtcfoeadfhkojeaaGreatDoor

namespace Go.Proofs.YtcfoeadfhkojeaaGreatDoor
open Go.RowKit
set_option linter.unusedVariables false
set_option maxRecDepth 100000 in
theorem index_nl (l : List UInt8) (w : World) : Calls Tryz.prog 61 #[.string ⟨l.toArray⟩, .string ⟨#[10]⟩] w fun e w' => e = .returned (.int .i64 (Lib.indexByte l 10)) ∧ w' = w := by
  have IB := hide' (fun V => Tryz.stringslite_IndexByte ⟨l.toArray⟩ 10 V)
  have e1 : (⟨l.toArray⟩ : ByteArray).data.toList = l := by simp
  rw [e1, show (10 : Int).toNat.toUInt8 = 10 from rfl] at IB
  obtain ⟨r, hr⟩ : ∃ r, Lib.indexByte l 10 = r := ⟨_, rfl⟩
  rw [hr] at IB ⊢
  have R0 := hide' (show ([10] == l) = true → r = 0 from fun e => by rw [← hr, ← (beq_iff_eq.1 e)]; rfl)
  clear e1 hr
  go_enter Tryz.func61, Tryz.ntmps61
  cases b : ([10] == l) with
  | true =>
    obtain rfl := R0.out b
    go_wp2
    go_ret
    exact ⟨rfl, rfl⟩
  | false =>
    go_wp2_with fail
    refine (IB.out _).mono ?_
    rintro e w' ⟨rfl, rfl⟩
    go_wp2
    go_ret
    exact ⟨rfl, rfl⟩
set_option maxRecDepth 100000 in
theorem index_sp (l : List UInt8) (w : World) : Calls Tryz.prog 61 #[.string ⟨l.toArray⟩, .string ⟨#[32]⟩] w fun e w' => e = .returned (.int .i64 (Lib.indexByte l 32)) ∧ w' = w := by
  have IB := hide' (fun V => Tryz.stringslite_IndexByte ⟨l.toArray⟩ 32 V)
  have e1 : (⟨l.toArray⟩ : ByteArray).data.toList = l := by simp
  rw [e1, show (32 : Int).toNat.toUInt8 = 32 from rfl] at IB
  obtain ⟨r, hr⟩ : ∃ r, Lib.indexByte l 32 = r := ⟨_, rfl⟩
  rw [hr] at IB ⊢
  have R0 := hide' (show ([32] == l) = true → r = 0 from fun e => by rw [← hr, ← (beq_iff_eq.1 e)]; rfl)
  clear e1 hr
  go_enter Tryz.func61, Tryz.ntmps61
  cases b : ([32] == l) with
  | true =>
    obtain rfl := R0.out b
    go_wp2
    go_ret
    exact ⟨rfl, rfl⟩
  | false =>
    go_wp2_with fail
    refine (IB.out _).mono ?_
    rintro e w' ⟨rfl, rfl⟩
    go_wp2
    go_ret
    exact ⟨rfl, rfl⟩
set_option maxRecDepth 100000 in
set_option maxHeartbeats 3200000 in
theorem cut_no (l : List UInt8) (w : World) (h : Lib.indexByte l 10 = -1) : Calls Tryz.prog 37 #[.string ⟨l.toArray⟩, .string ⟨#[10]⟩] w fun e w' => e = .returned (.tuple #[.string ⟨l.toArray⟩, .string ⟨#[]⟩, .bool false]) ∧ w' = w := by
  have IX := hide' (fun V => index_nl l V)
  rw [h] at IX
  clear h
  have LC := hide' (fun V => show Calls Tryz.prog 46 #[.string ⟨l.toArray⟩, .string ⟨#[10]⟩] V (fun e w' => e = .returned (.tuple #[.string ⟨l.toArray⟩, .string ⟨#[]⟩, .bool false]) ∧ w' = V) from by
    go_enter Tryz.func46, Tryz.ntmps46
    go_wp2_with fail
    refine (IX.out _).mono ?_
    rintro e w' ⟨rfl, rfl⟩
    go_wp2
    refine bodyPost_ret (v := .tuple #[.string ⟨l.toArray⟩, .string ⟨#[]⟩, .bool false]) (by simp [results, Tryz.results46, go_sem]) rfl ?_
    exact ⟨rfl, rfl⟩)
  go_enter Tryz.func37, Tryz.ntmps37
  go_wp2_with fail
  refine (LC.out _).mono ?_
  rintro e w' ⟨rfl, rfl⟩
  go_wp2
  refine bodyPost_ret (v := .tuple #[.string ⟨l.toArray⟩, .string ⟨#[]⟩, .bool false]) (by simp [results, Tryz.results37, go_sem]) rfl ?_
  exact ⟨rfl, rfl⟩
theorem byte_split {l : List UInt8} {c : UInt8} (h : ¬ Lib.indexByte l c = -1) : ∃ i : Nat, Lib.indexByte l c = (i : Int) ∧ i < l.length ∧ l = l.take i ++ c :: l.drop (i + 1) := by
  have h1 := Lib.indexByte_ge l c
  obtain ⟨i, hi⟩ : ∃ i : Nat, Lib.indexByte l c = (i : Int) := ⟨(Lib.indexByte l c).toNat, by omega⟩
  have h2 := (Lib.indexByte_some hi).1
  obtain ⟨h3, h4⟩ := List.getElem?_eq_some_iff.1 h2
  refine ⟨i, hi, h3, ?_⟩
  rw [← h4, ← List.drop_eq_getElem_cons h3, List.take_append_drop]
set_option maxRecDepth 100000 in
set_option maxHeartbeats 3200000 in
theorem cut_yes (l : List UInt8) (i : Nat) (w : World) (h : Lib.indexByte l 10 = (i : Int)) (hi : i < l.length) (hl : l.length ≤ 1048576) : Calls Tryz.prog 37 #[.string ⟨l.toArray⟩, .string ⟨#[10]⟩] w fun e w' => e = .returned (.tuple #[.string ⟨(l.take i).toArray⟩, .string ⟨(l.drop (i + 1)).toArray⟩, .bool true]) ∧ Below w.heap.size w w' := by
  have IX := hide' (fun V => index_nl l V)
  rw [h] at IX
  have i0 : (0 : Int) ≤ (i : Int) := by omega
  have il : (i : Int) ≤ (l.length : Int) := by omega
  have j0 : (0 : Int) ≤ (i : Int) + 1 := by omega
  have jl : (i : Int) + 1 ≤ (l.length : Int) := by omega
  have jw : IntKind.i64.wrap ((i : Int) + 1) = (i : Int) + 1 := by simp [IntKind.wrap, IntKind.bits, IntKind.signed]; omega
  have LC := hide' (fun V => show Calls Tryz.prog 46 #[.string ⟨l.toArray⟩, .string ⟨#[10]⟩] V (fun e w' => e = .returned (.tuple #[.string ⟨(l.take i).toArray⟩, .string ⟨(l.drop (i + 1)).toArray⟩, .bool true]) ∧ Below V.heap.size V w') from by
    go_enter Tryz.func46, Tryz.ntmps46
    go_wp2_with fail
    refine (IX.out _).mono ?_
    rintro e w' ⟨rfl, rfl⟩
    go_wp2
    go_region_held3 (fun _ => True) (exact trivial) (fail)
    have x1 : (⟨l.toArray⟩ : ByteArray).extract 0 i = ⟨(l.take i).toArray⟩ := by apply ByteArray.ext; simp
    have x2 : (⟨l.toArray⟩ : ByteArray).extract (i + 1) l.length = ⟨(l.drop (i + 1)).toArray⟩ := by apply ByteArray.ext; simp [List.take_of_length_le]
    rw [x1, x2]
    go_wp2
    refine bodyPost_ret (v := .tuple #[.string ⟨(l.take i).toArray⟩, .string ⟨(l.drop (i + 1)).toArray⟩, .bool true]) (by simp [results, Tryz.results46, go_sem]) rfl ?_
    exact ⟨rfl, (Below.refl _ _).drew⟩)
  obtain ⟨A, hA⟩ : ∃ A, (l.take i).toArray = A := ⟨_, rfl⟩
  obtain ⟨B, hB⟩ : ∃ A, (l.drop (i + 1)).toArray = A := ⟨_, rfl⟩
  rw [hA, hB] at LC ⊢
  clear hA hB
  go_enter Tryz.func37, Tryz.ntmps37
  go_wp2_with fail
  refine (LC.out _).mono ?_
  rintro e w' ⟨rfl, hb⟩
  have HB := hide' hb
  clear hb
  go_wp2
  refine bodyPost_ret (v := .tuple #[.string ⟨A⟩, .string ⟨B⟩, .bool true]) (by simp [results, Tryz.results37, go_sem]) rfl ?_
  exact ⟨rfl, HB.out⟩
end Go.Proofs.YtcfoeadfhkojeaaGreatDoor

namespace Go.Proofs.YtcfoeadfhkojeaaGreatDoor
open Go.RowKit
set_option linter.unusedVariables false
end Go.Proofs.YtcfoeadfhkojeaaGreatDoor

