/-
  A window read backwards; rules.mirrorWindow.
-/
import Derived.Test.YtpbcgojfpmpgpaaDoorPr12
namespace Go.Proofs.YtpbcgojfpmpgpaaDoor
open Go.RowKit
set_option linter.unusedVariables false

/-- The last c digits of n to the base s, behind acc, the lowest first. -/
def rv (s : Nat) : Nat → Nat → Nat → Nat
  | 0, acc, _ => acc
  | c + 1, acc, n => rv s c (acc * s + n % s) (n / s)
theorem rv_acc (s : Nat) : ∀ c acc n, rv s c acc n = acc * s ^ c + rv s c 0 n
  | 0, acc, n => by simp [rv]
  | c + 1, acc, n => by
    show rv s c (acc * s + n % s) (n / s) = _ + rv s c (0 * s + n % s) (n / s)
    rw [rv_acc s c (acc * s + n % s), rv_acc s c (0 * s + n % s), Nat.pow_succ, Nat.add_mul, Nat.add_mul, Nat.zero_mul, Nat.zero_mul, Nat.zero_add, Nat.mul_assoc, Nat.mul_comm s (s ^ c), Nat.add_assoc]
theorem rv_low (s c n : Nat) : rv s (c + 1) 0 n = n % s * s ^ c + rv s c 0 (n / s) := by
  show rv s c (0 * s + n % s) (n / s) = _
  rw [rv_acc s c (0 * s + n % s), Nat.zero_mul, Nat.zero_add]
theorem rv_lt (s : Nat) (hs : 0 < s) : ∀ c n, rv s c 0 n < s ^ c
  | 0, n => by simp [rv]
  | c + 1, n => by
    rw [rv_low, Nat.pow_succ]
    have h1 := rv_lt s hs c (n / s)
    have h2 : n % s < s := Nat.mod_lt _ hs
    calc n % s * s ^ c + rv s c 0 (n / s) < n % s * s ^ c + s ^ c := by omega
      _ = (n % s + 1) * s ^ c := by rw [Nat.add_mul, Nat.one_mul]
      _ ≤ s * s ^ c := Nat.mul_le_mul_right _ h2
      _ = s ^ c * s := Nat.mul_comm _ _
theorem rv_top (s : Nat) (hs : 0 < s) : ∀ c a b, a < s → b < s ^ c → rv s (c + 1) 0 (a * s ^ c + b) = rv s c 0 b * s + a
  | 0, a, b, ha, hb => by
    have : b = 0 := by simpa using hb
    subst this
    simp [rv, Nat.mod_eq_of_lt ha]
  | c + 1, a, b, ha, hb => by
    have e : a * s ^ (c + 1) + b = b + s * (a * s ^ c) := by rw [Nat.pow_succ, Nat.mul_comm s, Nat.mul_assoc, Nat.add_comm]
    have h1 : (a * s ^ (c + 1) + b) % s = b % s := by rw [e, Nat.add_mul_mod_self_left]
    have h2 : (a * s ^ (c + 1) + b) / s = a * s ^ c + b / s := by rw [e, Nat.add_mul_div_left _ _ hs, Nat.add_comm]
    have h3 : b / s < s ^ c := by rw [Nat.div_lt_iff_lt_mul hs]; rw [Nat.pow_succ] at hb; exact hb
    rw [rv_low, h1, h2, rv_top s hs c a (b / s) ha h3, rv_low s c b, Nat.add_mul, Nat.pow_succ, Nat.mul_assoc, Nat.add_assoc]
theorem rv_rv (s : Nat) (hs : 0 < s) : ∀ c n, n < s ^ c → rv s c 0 (rv s c 0 n) = n
  | 0, n, h => by simp [rv]; simp at h; exact h.symm
  | c + 1, n, h => by
    have h3 : n / s < s ^ c := by rw [Nat.div_lt_iff_lt_mul hs]; rw [Nat.pow_succ] at h; exact h
    rw [rv_low s c n, rv_top s hs c _ _ (Nat.mod_lt _ hs) (rv_lt s hs c _), rv_rv s hs c _ h3]
    exact Nat.div_add_mod' n s
end Go.Proofs.YtpbcgojfpmpgpaaDoor
