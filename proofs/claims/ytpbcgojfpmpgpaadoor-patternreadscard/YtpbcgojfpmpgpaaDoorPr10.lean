/-
  edenref1.Digits at numbers from 0 on.
-/
import Derived.Test.YtpbcgojfpmpgpaaDoorPr9
namespace Go.Proofs.YtpbcgojfpmpgpaaDoor
open Go.RowKit
set_option linter.unusedVariables false

theorem cell_new_at (w : World) (cs : Array Value) (u k : Nat) : (w.alloc (.cells cs u)).cell? ⟨w.heap.size, k, none⟩ = cs[k]? := cell_all_new w cs u k
theorem one_string (w : World) (x : Nat) (hx : x < 10) :
    (convert 82 9 (.slice (some ⟨w.heap.size, 0, none⟩) 1 1)).run Tryd.prog (w.alloc (.cells #[.int .u8 (48 + (x : Int))] 5)) = .ok (.string ⟨#[UInt8.ofNat (48 + x)]⟩) (w.alloc (.cells #[.int .u8 (48 + (x : Int))] 5)) := by
  refine run_convert_bytes_back _ 82 9 5 ⟨w.heap.size, 0, none⟩ 1 [UInt8.ofNat (48 + x)] Tryd.underlying82 Tryd.underlying5 Tryd.underlying9 fun j hj => ?_
  have hj0 : j = 0 := by simpa using hj
  subst hj0
  show (w.alloc _).cell? ⟨w.heap.size, 0, none⟩ = _
  rw [cell_new_at]
  have h1 : (UInt8.ofNat (48 + x)).toNat = 48 + x := by simp; omega
  show some (Value.int .u8 (48 + (x : Int))) = some (.int .u8 (((UInt8.ofNat (48 + x)).toNat : Nat) : Int))
  rw [h1]
  simp
theorem one_string' (w : World) (n : Nat) :
    (convert 82 9 (.slice (some ⟨w.heap.size, 0, none⟩) 1 1)).run Tryd.prog (w.alloc (.cells #[.int .u8 (48 + (n : Int) % 10)] 5)) = .ok (.string ⟨#[UInt8.ofNat (48 + n % 10)]⟩) (w.alloc (.cells #[.int .u8 (48 + (n : Int) % 10)] 5)) := one_string w (n % 10) (by omega)
theorem cat_one (d : UInt8) (l : List UInt8) : (⟨#[d]⟩ ++ ⟨l.toArray⟩ : ByteArray) = ⟨(d :: l).toArray⟩ := by
  apply ByteArray.ext
  simp [ByteArray.data_append]

/-- What is still ahead of the digits that are written, when m is left. -/
def frontD (m : Nat) : List UInt8 := if m < 10 then [] else Lib.decDigits (m / 10)
theorem frontD_start (n : Nat) : Lib.decDigits n = frontD n ++ [UInt8.ofNat (48 + n % 10)] := by
  rw [Lib.decDigits]
  unfold frontD
  by_cases h : n < 10
  · rw [dif_pos h, if_pos h, Nat.mod_eq_of_lt h]; rfl
  · rw [dif_neg h, if_neg h]
theorem frontD_step (m : Nat) (h : 10 ≤ m) (l : List UInt8) : frontD m ++ l = frontD (m / 10) ++ (UInt8.ofNat (48 + m / 10 % 10) :: l) := by
  have e : frontD m = Lib.decDigits (m / 10) := by unfold frontD; rw [if_neg (by omega)]
  rw [e, frontD_start]
  simp

set_option maxHeartbeats 1600000 in
theorem Digits_ref (n : Nat) (w : World) (hn : n ≤ 1000000) :
    Calls Tryd.prog 49 #[.int .i64 (n : Int)] w fun e w' => e = .returned (.string ⟨(Lib.decDigits n).toArray⟩) ∧ Below w.heap.size w w' := by
  have hneg : ¬ ((n : Int) < 0) := by omega
  have c0 := one_string' w n
  obtain ⟨d, hd⟩ : ∃ d, d = UInt8.ofNat (48 + n % 10) := ⟨_, rfl⟩
  rw [← hd] at c0
  have HD := hide' hd
  clear hd
  go_enter Tryd.func49, Tryd.ntmps49
  have hlen : (Lib.decDigits n).length ≤ 21 := by
    have := Lib.itoa_length_le (n : Int) (by omega) (by omega)
    rw [Lib.itoa_nonneg] at this
    simpa using this
  have HL := hide' hlen
  clear hlen
  go_wp2
  go_loopw [0, 4] (fun nv sv wr => ∃ (m : Nat) (l : List UInt8), nv = .int .i64 (m : Int) ∧ m ≤ 1000000 ∧ sv = .string ⟨l.toArray⟩ ∧ Hid (Lib.decDigits n = frontD m ++ l) ∧ Hid (Below w.heap.size w wr)) (fun nv _ _ => (intOf nv).toNat)
  case atStart => exact ⟨n, [d], rfl, hn, rfl, hide' (by rw [frontD_start, HD.out]), hide' ((Below.refl _ _).alloc (Nat.le_refl _) _)⟩
  case round =>
    obtain ⟨m, l, rfl, hm, rfl, E, B⟩ := hrel
    have ll : l.length ≤ 21 := by
      have h1 := HL.out
      rw [E.out, List.length_append] at h1
      omega
    have m1 : ¬ (9223372036854775807 < 1 + l.length) := by omega
    by_cases c : 10 ≤ (m : Int)
    · have c1 := one_string' wr (m / 10)
      obtain ⟨d1, hd1⟩ : ∃ d1, d1 = UInt8.ofNat (48 + m / 10 % 10) := ⟨_, rfl⟩
      rw [← hd1] at c1
      have HD1 := hide' hd1
      have e1 : ((m / 10 : Nat) : Int) = (m : Int) / 10 := by simp
      rw [e1] at c1
      clear hd1 e1 c0
      go_wp2
      refine ⟨⟨m / 10, d1 :: l, by simp, by omega, ?_, hide' ?_, hide' (B.out.alloc B.out.size _)⟩, ?_⟩
      · rw [cat_one]
      · rw [E.out, frontD_step m (by omega), HD1.out]
      · simp [intOf]; omega
    · clear c0
      go_wp2
      go_ret
      have e := E.out
      unfold frontD at e
      rw [if_pos (by omega), List.nil_append] at e
      rw [e]
      exact ⟨rfl, B.out⟩
end Go.Proofs.YtpbcgojfpmpgpaaDoor
