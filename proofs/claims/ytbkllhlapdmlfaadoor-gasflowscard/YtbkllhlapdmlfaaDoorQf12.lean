/-
  What the last text of this claim leans on, part 12: Gb7.
-/
import Derived.Test.YtbkllhlapdmlfaaDoorQf11
import Derived.Test.YtbkllhlapdmlfaaDoorQf6
namespace Go.Proofs.YtbkllhlapdmlfaaDoor
open Go.RowKit
set_option linter.unusedVariables false
theorem IsI_zero : IsI 0 0 := by
  have := IsI_of 0 (by decide)
  exact this
theorem cmul_int {b c d : Nat} {n p q : Int} (hb : IsI b n) (hc : IsI c p) (hd : IsI d q) (hn : n.natAbs ≤ 1000000) (hp : -1 ≤ p ∧ p ≤ 1) (hq : -1 ≤ q ∧ q ≤ 1) : ∃ x y, cMulBits b 0 c d = some (x, y) ∧ IsI x (n * p) ∧ IsI y (n * q) := by
  have bound : ∀ z : Int, -1 ≤ z ∧ z ≤ 1 → (n * z).natAbs ≤ 1000000 := fun z hz => by
    rcases (by omega : z = -1 ∨ z = 0 ∨ z = 1) with rfl | rfl | rfl <;> simp <;> omega
  have b1 := bound p hp
  have b2 := bound q hq
  obtain ⟨ac, e1, i1⟩ := IsI_mul hb hc (by omega)
  obtain ⟨bd, e2, i2⟩ := IsI_mul IsI_zero hd (by simp)
  obtain ⟨x, e3, i3⟩ := IsI_sub i1 i2 (by simp; omega)
  obtain ⟨ad, e4, i4⟩ := IsI_mul hb hd (by omega)
  obtain ⟨bc, e5, i5⟩ := IsI_mul IsI_zero hc (by simp)
  obtain ⟨y, e6, i6⟩ := IsI_add i4 i5 (by simp; omega)
  refine ⟨x, y, ?_, ?_, ?_⟩
  · unfold cMulBits
    rw [e1, e2, e4, e5]
    simp only [Option.bind_some, e3, e6]
  · have := i3; simpa using this
  · have := i6; simpa using this
theorem csum_int {a b c d : Nat} {n m p q : Int} (ha : IsI a n) (hb : IsI b m) (hc : IsI c p) (hd : IsI d q) (h1 : (n + p).natAbs ≤ 1000000) (h2 : (m + q).natAbs ≤ 1000000) : ∃ x y, cSumBits .add .f64 a b c d = some (x, y) ∧ IsI x (n + p) ∧ IsI y (m + q) := by
  obtain ⟨x, e1, i1⟩ := IsI_add ha hc (by omega)
  obtain ⟨y, e2, i2⟩ := IsI_add hb hd (by omega)
  refine ⟨x, y, ?_, i1, i2⟩
  unfold cSumBits
  rw [e1, e2]
  rfl
def headN (f : Nat → Nat) (d n : Nat) : Nat := sumB (fun k => f k / 2 ^ d % 2) n
theorem headN_le (f : Nat → Nat) (d : Nat) : ∀ n, headN f d n ≤ n
  | 0 => Nat.le_refl _
  | n + 1 => by
    have := headN_le f d n
    unfold headN at *
    rw [sumB]
    omega
theorem hd_0 : ∀ x : Fin 64, bits .and .i64 ((x.val : Int)) 1 = ((x.val / 2 ^ 0 % 2 : Nat) : Int) := by decide +kernel
set_option maxRecDepth 100000 in
set_option maxHeartbeats 1600000 in
theorem heading_0 (f : Nat → Nat) (a : Option Addr) (n c : Nat) (w : World) (hP : ArgP w ((List.range n).map fun i => (f i : Int)) a n c) (hf : ∀ i, f i ≤ 63) (hn : n ≤ 10000) :
    Calls Tryd.prog 73 #[.slice a n c, .int .i64 0] w fun e w' => e = .returned (.int .i64 (headN f 0 n : Int)) ∧ w' = w := by
  have HC := hide' (fun k (hk : k < n) => show ∃ g off, a = some ⟨g, off, none⟩ ∧ w.cell? ⟨g, off + k, none⟩ = some (.int .i64 (f k : Int)) from by
    obtain ⟨g, off, e, hg, hc⟩ := hP.cells k (by simpa using hk)
    simp only [List.getElem_map, List.getElem_range] at hc
    exact ⟨g, off, e, hc⟩)
  have HF := hide' hf
  clear hP hf
  go_enter Tryd.func73, Tryd.ntmps73
  go_wp2
  go_loopw [5, 10] (fun mv iv wr => ∃ (i q : Nat), iv = .int .i64 (i : Int) ∧ mv = .int .i64 (q : Int) ∧ i ≤ n ∧ q ≤ i ∧ Hid (q = headN f 0 i) ∧ wr = w) (fun _ iv _ => ((n : Int) - intOf iv).toNat)
  case atStart => exact ⟨0, 0, by go_num, by go_num, by omega, by omega, hide' rfl, rfl⟩
  case round =>
    obtain ⟨i, q, rfl, rfl, hi, hq, HQ, rfl⟩ := hrel
    by_cases dd : (i : Int) < (n : Int)
    · have il : i < n := by omega
      obtain ⟨g, off, rfl, hc⟩ := HC.out i il
      have x63 := HF.out i
      have NQ := hide' (show q + f i / 2 ^ 0 % 2 = headN f 0 (i + 1) by rw [HQ.out]; unfold headN; rw [sumB])
      obtain ⟨x, hx⟩ : ∃ x, f i = x := ⟨_, rfl⟩
      rw [hx] at hc x63 NQ
      have hb := hd_0 ⟨x, by omega⟩
      have ul : x / 2 ^ 0 % 2 ≤ 1 := by omega
      obtain ⟨u, hu⟩ : ∃ u, x / 2 ^ 0 % 2 = u := ⟨_, rfl⟩
      simp only [hu] at hb
      rw [hu] at NQ ul
      clear hx hu
      go_wp2
      exact ⟨⟨i + 1, q + u, by go_num, by go_num, by omega, by omega, NQ, by simp⟩, by simp [intOf]; omega⟩
    · have ni : i = n := by omega
      subst ni
      have FQ := hide' HQ.out
      go_wp2
      go_ret
      rw [← FQ.out]
      exact ⟨rfl, rfl⟩
theorem hd_1 : ∀ x : Fin 64, bits .and .i64 ((x.val : Int) / 2) 1 = ((x.val / 2 ^ 1 % 2 : Nat) : Int) := by decide +kernel
set_option maxRecDepth 100000 in
set_option maxHeartbeats 1600000 in
theorem heading_1 (f : Nat → Nat) (a : Option Addr) (n c : Nat) (w : World) (hP : ArgP w ((List.range n).map fun i => (f i : Int)) a n c) (hf : ∀ i, f i ≤ 63) (hn : n ≤ 10000) :
    Calls Tryd.prog 73 #[.slice a n c, .int .i64 1] w fun e w' => e = .returned (.int .i64 (headN f 1 n : Int)) ∧ w' = w := by
  have HC := hide' (fun k (hk : k < n) => show ∃ g off, a = some ⟨g, off, none⟩ ∧ w.cell? ⟨g, off + k, none⟩ = some (.int .i64 (f k : Int)) from by
    obtain ⟨g, off, e, hg, hc⟩ := hP.cells k (by simpa using hk)
    simp only [List.getElem_map, List.getElem_range] at hc
    exact ⟨g, off, e, hc⟩)
  have HF := hide' hf
  clear hP hf
  go_enter Tryd.func73, Tryd.ntmps73
  go_wp2
  go_loopw [5, 10] (fun mv iv wr => ∃ (i q : Nat), iv = .int .i64 (i : Int) ∧ mv = .int .i64 (q : Int) ∧ i ≤ n ∧ q ≤ i ∧ Hid (q = headN f 1 i) ∧ wr = w) (fun _ iv _ => ((n : Int) - intOf iv).toNat)
  case atStart => exact ⟨0, 0, by go_num, by go_num, by omega, by omega, hide' rfl, rfl⟩
  case round =>
    obtain ⟨i, q, rfl, rfl, hi, hq, HQ, rfl⟩ := hrel
    by_cases dd : (i : Int) < (n : Int)
    · have il : i < n := by omega
      obtain ⟨g, off, rfl, hc⟩ := HC.out i il
      have x63 := HF.out i
      have NQ := hide' (show q + f i / 2 ^ 1 % 2 = headN f 1 (i + 1) by rw [HQ.out]; unfold headN; rw [sumB])
      obtain ⟨x, hx⟩ : ∃ x, f i = x := ⟨_, rfl⟩
      rw [hx] at hc x63 NQ
      have hb := hd_1 ⟨x, by omega⟩
      have ul : x / 2 ^ 1 % 2 ≤ 1 := by omega
      obtain ⟨u, hu⟩ : ∃ u, x / 2 ^ 1 % 2 = u := ⟨_, rfl⟩
      simp only [hu] at hb
      rw [hu] at NQ ul
      clear hx hu
      go_wp2
      exact ⟨⟨i + 1, q + u, by go_num, by go_num, by omega, by omega, NQ, by simp⟩, by simp [intOf]; omega⟩
    · have ni : i = n := by omega
      subst ni
      have FQ := hide' HQ.out
      go_wp2
      go_ret
      rw [← FQ.out]
      exact ⟨rfl, rfl⟩
theorem hd_2 : ∀ x : Fin 64, bits .and .i64 ((x.val : Int) / 4) 1 = ((x.val / 2 ^ 2 % 2 : Nat) : Int) := by decide +kernel
set_option maxRecDepth 100000 in
set_option maxHeartbeats 1600000 in
theorem heading_2 (f : Nat → Nat) (a : Option Addr) (n c : Nat) (w : World) (hP : ArgP w ((List.range n).map fun i => (f i : Int)) a n c) (hf : ∀ i, f i ≤ 63) (hn : n ≤ 10000) :
    Calls Tryd.prog 73 #[.slice a n c, .int .i64 2] w fun e w' => e = .returned (.int .i64 (headN f 2 n : Int)) ∧ w' = w := by
  have HC := hide' (fun k (hk : k < n) => show ∃ g off, a = some ⟨g, off, none⟩ ∧ w.cell? ⟨g, off + k, none⟩ = some (.int .i64 (f k : Int)) from by
    obtain ⟨g, off, e, hg, hc⟩ := hP.cells k (by simpa using hk)
    simp only [List.getElem_map, List.getElem_range] at hc
    exact ⟨g, off, e, hc⟩)
  have HF := hide' hf
  clear hP hf
  go_enter Tryd.func73, Tryd.ntmps73
  go_wp2
  go_loopw [5, 10] (fun mv iv wr => ∃ (i q : Nat), iv = .int .i64 (i : Int) ∧ mv = .int .i64 (q : Int) ∧ i ≤ n ∧ q ≤ i ∧ Hid (q = headN f 2 i) ∧ wr = w) (fun _ iv _ => ((n : Int) - intOf iv).toNat)
  case atStart => exact ⟨0, 0, by go_num, by go_num, by omega, by omega, hide' rfl, rfl⟩
  case round =>
    obtain ⟨i, q, rfl, rfl, hi, hq, HQ, rfl⟩ := hrel
    by_cases dd : (i : Int) < (n : Int)
    · have il : i < n := by omega
      obtain ⟨g, off, rfl, hc⟩ := HC.out i il
      have x63 := HF.out i
      have NQ := hide' (show q + f i / 2 ^ 2 % 2 = headN f 2 (i + 1) by rw [HQ.out]; unfold headN; rw [sumB])
      obtain ⟨x, hx⟩ : ∃ x, f i = x := ⟨_, rfl⟩
      rw [hx] at hc x63 NQ
      have hb := hd_2 ⟨x, by omega⟩
      have ul : x / 2 ^ 2 % 2 ≤ 1 := by omega
      obtain ⟨u, hu⟩ : ∃ u, x / 2 ^ 2 % 2 = u := ⟨_, rfl⟩
      simp only [hu] at hb
      rw [hu] at NQ ul
      clear hx hu
      go_wp2
      exact ⟨⟨i + 1, q + u, by go_num, by go_num, by omega, by omega, NQ, by simp⟩, by simp [intOf]; omega⟩
    · have ni : i = n := by omega
      subst ni
      have FQ := hide' HQ.out
      go_wp2
      go_ret
      rw [← FQ.out]
      exact ⟨rfl, rfl⟩
theorem hd_3 : ∀ x : Fin 64, bits .and .i64 ((x.val : Int) / 8) 1 = ((x.val / 2 ^ 3 % 2 : Nat) : Int) := by decide +kernel
set_option maxRecDepth 100000 in
set_option maxHeartbeats 1600000 in
theorem heading_3 (f : Nat → Nat) (a : Option Addr) (n c : Nat) (w : World) (hP : ArgP w ((List.range n).map fun i => (f i : Int)) a n c) (hf : ∀ i, f i ≤ 63) (hn : n ≤ 10000) :
    Calls Tryd.prog 73 #[.slice a n c, .int .i64 3] w fun e w' => e = .returned (.int .i64 (headN f 3 n : Int)) ∧ w' = w := by
  have HC := hide' (fun k (hk : k < n) => show ∃ g off, a = some ⟨g, off, none⟩ ∧ w.cell? ⟨g, off + k, none⟩ = some (.int .i64 (f k : Int)) from by
    obtain ⟨g, off, e, hg, hc⟩ := hP.cells k (by simpa using hk)
    simp only [List.getElem_map, List.getElem_range] at hc
    exact ⟨g, off, e, hc⟩)
  have HF := hide' hf
  clear hP hf
  go_enter Tryd.func73, Tryd.ntmps73
  go_wp2
  go_loopw [5, 10] (fun mv iv wr => ∃ (i q : Nat), iv = .int .i64 (i : Int) ∧ mv = .int .i64 (q : Int) ∧ i ≤ n ∧ q ≤ i ∧ Hid (q = headN f 3 i) ∧ wr = w) (fun _ iv _ => ((n : Int) - intOf iv).toNat)
  case atStart => exact ⟨0, 0, by go_num, by go_num, by omega, by omega, hide' rfl, rfl⟩
  case round =>
    obtain ⟨i, q, rfl, rfl, hi, hq, HQ, rfl⟩ := hrel
    by_cases dd : (i : Int) < (n : Int)
    · have il : i < n := by omega
      obtain ⟨g, off, rfl, hc⟩ := HC.out i il
      have x63 := HF.out i
      have NQ := hide' (show q + f i / 2 ^ 3 % 2 = headN f 3 (i + 1) by rw [HQ.out]; unfold headN; rw [sumB])
      obtain ⟨x, hx⟩ : ∃ x, f i = x := ⟨_, rfl⟩
      rw [hx] at hc x63 NQ
      have hb := hd_3 ⟨x, by omega⟩
      have ul : x / 2 ^ 3 % 2 ≤ 1 := by omega
      obtain ⟨u, hu⟩ : ∃ u, x / 2 ^ 3 % 2 = u := ⟨_, rfl⟩
      simp only [hu] at hb
      rw [hu] at NQ ul
      clear hx hu
      go_wp2
      exact ⟨⟨i + 1, q + u, by go_num, by go_num, by omega, by omega, NQ, by simp⟩, by simp [intOf]; omega⟩
    · have ni : i = n := by omega
      subst ni
      have FQ := hide' HQ.out
      go_wp2
      go_ret
      rw [← FQ.out]
      exact ⟨rfl, rfl⟩
theorem hd_4 : ∀ x : Fin 64, bits .and .i64 ((x.val : Int) / 16) 1 = ((x.val / 2 ^ 4 % 2 : Nat) : Int) := by decide +kernel
set_option maxRecDepth 100000 in
set_option maxHeartbeats 1600000 in
theorem heading_4 (f : Nat → Nat) (a : Option Addr) (n c : Nat) (w : World) (hP : ArgP w ((List.range n).map fun i => (f i : Int)) a n c) (hf : ∀ i, f i ≤ 63) (hn : n ≤ 10000) :
    Calls Tryd.prog 73 #[.slice a n c, .int .i64 4] w fun e w' => e = .returned (.int .i64 (headN f 4 n : Int)) ∧ w' = w := by
  have HC := hide' (fun k (hk : k < n) => show ∃ g off, a = some ⟨g, off, none⟩ ∧ w.cell? ⟨g, off + k, none⟩ = some (.int .i64 (f k : Int)) from by
    obtain ⟨g, off, e, hg, hc⟩ := hP.cells k (by simpa using hk)
    simp only [List.getElem_map, List.getElem_range] at hc
    exact ⟨g, off, e, hc⟩)
  have HF := hide' hf
  clear hP hf
  go_enter Tryd.func73, Tryd.ntmps73
  go_wp2
  go_loopw [5, 10] (fun mv iv wr => ∃ (i q : Nat), iv = .int .i64 (i : Int) ∧ mv = .int .i64 (q : Int) ∧ i ≤ n ∧ q ≤ i ∧ Hid (q = headN f 4 i) ∧ wr = w) (fun _ iv _ => ((n : Int) - intOf iv).toNat)
  case atStart => exact ⟨0, 0, by go_num, by go_num, by omega, by omega, hide' rfl, rfl⟩
  case round =>
    obtain ⟨i, q, rfl, rfl, hi, hq, HQ, rfl⟩ := hrel
    by_cases dd : (i : Int) < (n : Int)
    · have il : i < n := by omega
      obtain ⟨g, off, rfl, hc⟩ := HC.out i il
      have x63 := HF.out i
      have NQ := hide' (show q + f i / 2 ^ 4 % 2 = headN f 4 (i + 1) by rw [HQ.out]; unfold headN; rw [sumB])
      obtain ⟨x, hx⟩ : ∃ x, f i = x := ⟨_, rfl⟩
      rw [hx] at hc x63 NQ
      have hb := hd_4 ⟨x, by omega⟩
      have ul : x / 2 ^ 4 % 2 ≤ 1 := by omega
      obtain ⟨u, hu⟩ : ∃ u, x / 2 ^ 4 % 2 = u := ⟨_, rfl⟩
      simp only [hu] at hb
      rw [hu] at NQ ul
      clear hx hu
      go_wp2
      exact ⟨⟨i + 1, q + u, by go_num, by go_num, by omega, by omega, NQ, by simp⟩, by simp [intOf]; omega⟩
    · have ni : i = n := by omega
      subst ni
      have FQ := hide' HQ.out
      go_wp2
      go_ret
      rw [← FQ.out]
      exact ⟨rfl, rfl⟩
theorem hd_5 : ∀ x : Fin 64, bits .and .i64 ((x.val : Int) / 32) 1 = ((x.val / 2 ^ 5 % 2 : Nat) : Int) := by decide +kernel
set_option maxRecDepth 100000 in
set_option maxHeartbeats 1600000 in
theorem heading_5 (f : Nat → Nat) (a : Option Addr) (n c : Nat) (w : World) (hP : ArgP w ((List.range n).map fun i => (f i : Int)) a n c) (hf : ∀ i, f i ≤ 63) (hn : n ≤ 10000) :
    Calls Tryd.prog 73 #[.slice a n c, .int .i64 5] w fun e w' => e = .returned (.int .i64 (headN f 5 n : Int)) ∧ w' = w := by
  have HC := hide' (fun k (hk : k < n) => show ∃ g off, a = some ⟨g, off, none⟩ ∧ w.cell? ⟨g, off + k, none⟩ = some (.int .i64 (f k : Int)) from by
    obtain ⟨g, off, e, hg, hc⟩ := hP.cells k (by simpa using hk)
    simp only [List.getElem_map, List.getElem_range] at hc
    exact ⟨g, off, e, hc⟩)
  have HF := hide' hf
  clear hP hf
  go_enter Tryd.func73, Tryd.ntmps73
  go_wp2
  go_loopw [5, 10] (fun mv iv wr => ∃ (i q : Nat), iv = .int .i64 (i : Int) ∧ mv = .int .i64 (q : Int) ∧ i ≤ n ∧ q ≤ i ∧ Hid (q = headN f 5 i) ∧ wr = w) (fun _ iv _ => ((n : Int) - intOf iv).toNat)
  case atStart => exact ⟨0, 0, by go_num, by go_num, by omega, by omega, hide' rfl, rfl⟩
  case round =>
    obtain ⟨i, q, rfl, rfl, hi, hq, HQ, rfl⟩ := hrel
    by_cases dd : (i : Int) < (n : Int)
    · have il : i < n := by omega
      obtain ⟨g, off, rfl, hc⟩ := HC.out i il
      have x63 := HF.out i
      have NQ := hide' (show q + f i / 2 ^ 5 % 2 = headN f 5 (i + 1) by rw [HQ.out]; unfold headN; rw [sumB])
      obtain ⟨x, hx⟩ : ∃ x, f i = x := ⟨_, rfl⟩
      rw [hx] at hc x63 NQ
      have hb := hd_5 ⟨x, by omega⟩
      have ul : x / 2 ^ 5 % 2 ≤ 1 := by omega
      obtain ⟨u, hu⟩ : ∃ u, x / 2 ^ 5 % 2 = u := ⟨_, rfl⟩
      simp only [hu] at hb
      rw [hu] at NQ ul
      clear hx hu
      go_wp2
      exact ⟨⟨i + 1, q + u, by go_num, by go_num, by omega, by omega, NQ, by simp⟩, by simp [intOf]; omega⟩
    · have ni : i = n := by omega
      subst ni
      have FQ := hide' HQ.out
      go_wp2
      go_ret
      rw [← FQ.out]
      exact ⟨rfl, rfl⟩
end Go.Proofs.YtbkllhlapdmlfaaDoor

