/-
  What the last text of this claim leans on, part 20: Gb7, Ab2.
-/
import Derived.Test.YtbkllhlapdmlfaaQb14
import Derived.Test.YtbkllhlapdmlfaaQb19
import Derived.Test.YtbkllhlapdmlfaaQb13
import Derived.Test.YtbkllhlapdmlfaaQb11
import Derived.BigRegion
import Derived.Deep.RegionHeld3
import Derived.Deep.CutRange
namespace Go.Proofs.Ytbkllhlapdmlfaa
open Go.RowKit
set_option linter.unusedVariables false
theorem IsI_zero : IsI 0 0 := by
  have := IsI_of 0 (by decide)
  exact this
theorem cmul_int {b c d : Nat} {n p q : Int} (hb : IsI b n) (hc : IsI c p) (hd : IsI d q) (hn : n.natAbs ≤ 1000000) (hp : -1 ≤ p ∧ p ≤ 1) (hq : -1 ≤ q ∧ q ≤ 1) : ∃ x y, cMulBits b 0 c d = some (x, y) ∧ IsI x (n * p) ∧ IsI y (n * q) := by
  have bound : ∀ z : Int, -1 ≤ z ∧ z ≤ 1 → (n * z).natAbs ≤ 1000000 := fun z hz => by
    rcases (by omega : z = -1 ∨ z = 0 ∨ z = 1) with rfl | rfl | rfl <;> simp <;> omega
  have b1 := bound p hp
  have b2 := bound q hq
  obtain ⟨ac, e1, i1⟩ := IsI_mul hb hc (by omega)
  obtain ⟨bd, e2, i2⟩ := IsI_mul IsI_zero hd (by simp)
  obtain ⟨x, e3, i3⟩ := IsI_sub i1 i2 (by simp; omega)
  obtain ⟨ad, e4, i4⟩ := IsI_mul hb hd (by omega)
  obtain ⟨bc, e5, i5⟩ := IsI_mul IsI_zero hc (by simp)
  obtain ⟨y, e6, i6⟩ := IsI_add i4 i5 (by simp; omega)
  refine ⟨x, y, ?_, ?_, ?_⟩
  · unfold cMulBits
    rw [e1, e2, e4, e5]
    simp only [Option.bind_some, e3, e6]
  · have := i3; simpa using this
  · have := i6; simpa using this
theorem csum_int {a b c d : Nat} {n m p q : Int} (ha : IsI a n) (hb : IsI b m) (hc : IsI c p) (hd : IsI d q) (h1 : (n + p).natAbs ≤ 1000000) (h2 : (m + q).natAbs ≤ 1000000) : ∃ x y, cSumBits .add .f64 a b c d = some (x, y) ∧ IsI x (n + p) ∧ IsI y (m + q) := by
  obtain ⟨x, e1, i1⟩ := IsI_add ha hc (by omega)
  obtain ⟨y, e2, i2⟩ := IsI_add hb hd (by omega)
  refine ⟨x, y, ?_, i1, i2⟩
  unfold cSumBits
  rw [e1, e2]
  rfl
def headN (f : Nat → Nat) (d n : Nat) : Nat := sumB (fun k => f k / 2 ^ d % 2) n
theorem headN_le (f : Nat → Nat) (d : Nat) : ∀ n, headN f d n ≤ n
  | 0 => Nat.le_refl _
  | n + 1 => by
    have := headN_le f d n
    unfold headN at *
    rw [sumB]
    omega
theorem hd_0 : ∀ x : Fin 64, bits .and .i64 ((x.val : Int)) 1 = ((x.val / 2 ^ 0 % 2 : Nat) : Int) := by decide +kernel
set_option maxRecDepth 100000 in
set_option maxHeartbeats 1600000 in
theorem heading_0 (f : Nat → Nat) (a : Option Addr) (n c : Nat) (w : World) (hP : ArgP w ((List.range n).map fun i => (f i : Int)) a n c) (hf : ∀ i, f i ≤ 63) (hn : n ≤ 10000) :
    Calls Try.prog 25 #[.slice a n c, .int .i64 0] w fun e w' => e = .returned (.int .i64 (headN f 0 n : Int)) ∧ w' = w := by
  have HC := hide' (fun k (hk : k < n) => show ∃ g off, a = some ⟨g, off, none⟩ ∧ w.cell? ⟨g, off + k, none⟩ = some (.int .i64 (f k : Int)) from by
    obtain ⟨g, off, e, hg, hc⟩ := hP.cells k (by simpa using hk)
    simp only [List.getElem_map, List.getElem_range] at hc
    exact ⟨g, off, e, hc⟩)
  have HF := hide' hf
  clear hP hf
  go_enter Try.func25, Try.ntmps25
  go_wp2
  go_loopw [5, 10] (fun mv iv wr => ∃ (i q : Nat), iv = .int .i64 (i : Int) ∧ mv = .int .i64 (q : Int) ∧ i ≤ n ∧ q ≤ i ∧ Hid (q = headN f 0 i) ∧ wr = w) (fun _ iv _ => ((n : Int) - intOf iv).toNat)
  case atStart => exact ⟨0, 0, by go_num, by go_num, by omega, by omega, hide' rfl, rfl⟩
  case round =>
    obtain ⟨i, q, rfl, rfl, hi, hq, HQ, rfl⟩ := hrel
    by_cases dd : (i : Int) < (n : Int)
    · have il : i < n := by omega
      obtain ⟨g, off, rfl, hc⟩ := HC.out i il
      have x63 := HF.out i
      have NQ := hide' (show q + f i / 2 ^ 0 % 2 = headN f 0 (i + 1) by rw [HQ.out]; unfold headN; rw [sumB])
      obtain ⟨x, hx⟩ : ∃ x, f i = x := ⟨_, rfl⟩
      rw [hx] at hc x63 NQ
      have hb := hd_0 ⟨x, by omega⟩
      have ul : x / 2 ^ 0 % 2 ≤ 1 := by omega
      obtain ⟨u, hu⟩ : ∃ u, x / 2 ^ 0 % 2 = u := ⟨_, rfl⟩
      simp only [hu] at hb
      rw [hu] at NQ ul
      clear hx hu
      go_wp2
      exact ⟨⟨i + 1, q + u, by go_num, by go_num, by omega, by omega, NQ, by simp⟩, by simp [intOf]; omega⟩
    · have ni : i = n := by omega
      subst ni
      have FQ := hide' HQ.out
      go_wp2
      go_ret
      rw [← FQ.out]
      exact ⟨rfl, rfl⟩
theorem hd_1 : ∀ x : Fin 64, bits .and .i64 ((x.val : Int) / 2) 1 = ((x.val / 2 ^ 1 % 2 : Nat) : Int) := by decide +kernel
set_option maxRecDepth 100000 in
set_option maxHeartbeats 1600000 in
theorem heading_1 (f : Nat → Nat) (a : Option Addr) (n c : Nat) (w : World) (hP : ArgP w ((List.range n).map fun i => (f i : Int)) a n c) (hf : ∀ i, f i ≤ 63) (hn : n ≤ 10000) :
    Calls Try.prog 25 #[.slice a n c, .int .i64 1] w fun e w' => e = .returned (.int .i64 (headN f 1 n : Int)) ∧ w' = w := by
  have HC := hide' (fun k (hk : k < n) => show ∃ g off, a = some ⟨g, off, none⟩ ∧ w.cell? ⟨g, off + k, none⟩ = some (.int .i64 (f k : Int)) from by
    obtain ⟨g, off, e, hg, hc⟩ := hP.cells k (by simpa using hk)
    simp only [List.getElem_map, List.getElem_range] at hc
    exact ⟨g, off, e, hc⟩)
  have HF := hide' hf
  clear hP hf
  go_enter Try.func25, Try.ntmps25
  go_wp2
  go_loopw [5, 10] (fun mv iv wr => ∃ (i q : Nat), iv = .int .i64 (i : Int) ∧ mv = .int .i64 (q : Int) ∧ i ≤ n ∧ q ≤ i ∧ Hid (q = headN f 1 i) ∧ wr = w) (fun _ iv _ => ((n : Int) - intOf iv).toNat)
  case atStart => exact ⟨0, 0, by go_num, by go_num, by omega, by omega, hide' rfl, rfl⟩
  case round =>
    obtain ⟨i, q, rfl, rfl, hi, hq, HQ, rfl⟩ := hrel
    by_cases dd : (i : Int) < (n : Int)
    · have il : i < n := by omega
      obtain ⟨g, off, rfl, hc⟩ := HC.out i il
      have x63 := HF.out i
      have NQ := hide' (show q + f i / 2 ^ 1 % 2 = headN f 1 (i + 1) by rw [HQ.out]; unfold headN; rw [sumB])
      obtain ⟨x, hx⟩ : ∃ x, f i = x := ⟨_, rfl⟩
      rw [hx] at hc x63 NQ
      have hb := hd_1 ⟨x, by omega⟩
      have ul : x / 2 ^ 1 % 2 ≤ 1 := by omega
      obtain ⟨u, hu⟩ : ∃ u, x / 2 ^ 1 % 2 = u := ⟨_, rfl⟩
      simp only [hu] at hb
      rw [hu] at NQ ul
      clear hx hu
      go_wp2
      exact ⟨⟨i + 1, q + u, by go_num, by go_num, by omega, by omega, NQ, by simp⟩, by simp [intOf]; omega⟩
    · have ni : i = n := by omega
      subst ni
      have FQ := hide' HQ.out
      go_wp2
      go_ret
      rw [← FQ.out]
      exact ⟨rfl, rfl⟩
theorem hd_2 : ∀ x : Fin 64, bits .and .i64 ((x.val : Int) / 4) 1 = ((x.val / 2 ^ 2 % 2 : Nat) : Int) := by decide +kernel
set_option maxRecDepth 100000 in
set_option maxHeartbeats 1600000 in
theorem heading_2 (f : Nat → Nat) (a : Option Addr) (n c : Nat) (w : World) (hP : ArgP w ((List.range n).map fun i => (f i : Int)) a n c) (hf : ∀ i, f i ≤ 63) (hn : n ≤ 10000) :
    Calls Try.prog 25 #[.slice a n c, .int .i64 2] w fun e w' => e = .returned (.int .i64 (headN f 2 n : Int)) ∧ w' = w := by
  have HC := hide' (fun k (hk : k < n) => show ∃ g off, a = some ⟨g, off, none⟩ ∧ w.cell? ⟨g, off + k, none⟩ = some (.int .i64 (f k : Int)) from by
    obtain ⟨g, off, e, hg, hc⟩ := hP.cells k (by simpa using hk)
    simp only [List.getElem_map, List.getElem_range] at hc
    exact ⟨g, off, e, hc⟩)
  have HF := hide' hf
  clear hP hf
  go_enter Try.func25, Try.ntmps25
  go_wp2
  go_loopw [5, 10] (fun mv iv wr => ∃ (i q : Nat), iv = .int .i64 (i : Int) ∧ mv = .int .i64 (q : Int) ∧ i ≤ n ∧ q ≤ i ∧ Hid (q = headN f 2 i) ∧ wr = w) (fun _ iv _ => ((n : Int) - intOf iv).toNat)
  case atStart => exact ⟨0, 0, by go_num, by go_num, by omega, by omega, hide' rfl, rfl⟩
  case round =>
    obtain ⟨i, q, rfl, rfl, hi, hq, HQ, rfl⟩ := hrel
    by_cases dd : (i : Int) < (n : Int)
    · have il : i < n := by omega
      obtain ⟨g, off, rfl, hc⟩ := HC.out i il
      have x63 := HF.out i
      have NQ := hide' (show q + f i / 2 ^ 2 % 2 = headN f 2 (i + 1) by rw [HQ.out]; unfold headN; rw [sumB])
      obtain ⟨x, hx⟩ : ∃ x, f i = x := ⟨_, rfl⟩
      rw [hx] at hc x63 NQ
      have hb := hd_2 ⟨x, by omega⟩
      have ul : x / 2 ^ 2 % 2 ≤ 1 := by omega
      obtain ⟨u, hu⟩ : ∃ u, x / 2 ^ 2 % 2 = u := ⟨_, rfl⟩
      simp only [hu] at hb
      rw [hu] at NQ ul
      clear hx hu
      go_wp2
      exact ⟨⟨i + 1, q + u, by go_num, by go_num, by omega, by omega, NQ, by simp⟩, by simp [intOf]; omega⟩
    · have ni : i = n := by omega
      subst ni
      have FQ := hide' HQ.out
      go_wp2
      go_ret
      rw [← FQ.out]
      exact ⟨rfl, rfl⟩
theorem hd_3 : ∀ x : Fin 64, bits .and .i64 ((x.val : Int) / 8) 1 = ((x.val / 2 ^ 3 % 2 : Nat) : Int) := by decide +kernel
set_option maxRecDepth 100000 in
set_option maxHeartbeats 1600000 in
theorem heading_3 (f : Nat → Nat) (a : Option Addr) (n c : Nat) (w : World) (hP : ArgP w ((List.range n).map fun i => (f i : Int)) a n c) (hf : ∀ i, f i ≤ 63) (hn : n ≤ 10000) :
    Calls Try.prog 25 #[.slice a n c, .int .i64 3] w fun e w' => e = .returned (.int .i64 (headN f 3 n : Int)) ∧ w' = w := by
  have HC := hide' (fun k (hk : k < n) => show ∃ g off, a = some ⟨g, off, none⟩ ∧ w.cell? ⟨g, off + k, none⟩ = some (.int .i64 (f k : Int)) from by
    obtain ⟨g, off, e, hg, hc⟩ := hP.cells k (by simpa using hk)
    simp only [List.getElem_map, List.getElem_range] at hc
    exact ⟨g, off, e, hc⟩)
  have HF := hide' hf
  clear hP hf
  go_enter Try.func25, Try.ntmps25
  go_wp2
  go_loopw [5, 10] (fun mv iv wr => ∃ (i q : Nat), iv = .int .i64 (i : Int) ∧ mv = .int .i64 (q : Int) ∧ i ≤ n ∧ q ≤ i ∧ Hid (q = headN f 3 i) ∧ wr = w) (fun _ iv _ => ((n : Int) - intOf iv).toNat)
  case atStart => exact ⟨0, 0, by go_num, by go_num, by omega, by omega, hide' rfl, rfl⟩
  case round =>
    obtain ⟨i, q, rfl, rfl, hi, hq, HQ, rfl⟩ := hrel
    by_cases dd : (i : Int) < (n : Int)
    · have il : i < n := by omega
      obtain ⟨g, off, rfl, hc⟩ := HC.out i il
      have x63 := HF.out i
      have NQ := hide' (show q + f i / 2 ^ 3 % 2 = headN f 3 (i + 1) by rw [HQ.out]; unfold headN; rw [sumB])
      obtain ⟨x, hx⟩ : ∃ x, f i = x := ⟨_, rfl⟩
      rw [hx] at hc x63 NQ
      have hb := hd_3 ⟨x, by omega⟩
      have ul : x / 2 ^ 3 % 2 ≤ 1 := by omega
      obtain ⟨u, hu⟩ : ∃ u, x / 2 ^ 3 % 2 = u := ⟨_, rfl⟩
      simp only [hu] at hb
      rw [hu] at NQ ul
      clear hx hu
      go_wp2
      exact ⟨⟨i + 1, q + u, by go_num, by go_num, by omega, by omega, NQ, by simp⟩, by simp [intOf]; omega⟩
    · have ni : i = n := by omega
      subst ni
      have FQ := hide' HQ.out
      go_wp2
      go_ret
      rw [← FQ.out]
      exact ⟨rfl, rfl⟩
theorem hd_4 : ∀ x : Fin 64, bits .and .i64 ((x.val : Int) / 16) 1 = ((x.val / 2 ^ 4 % 2 : Nat) : Int) := by decide +kernel
set_option maxRecDepth 100000 in
set_option maxHeartbeats 1600000 in
theorem heading_4 (f : Nat → Nat) (a : Option Addr) (n c : Nat) (w : World) (hP : ArgP w ((List.range n).map fun i => (f i : Int)) a n c) (hf : ∀ i, f i ≤ 63) (hn : n ≤ 10000) :
    Calls Try.prog 25 #[.slice a n c, .int .i64 4] w fun e w' => e = .returned (.int .i64 (headN f 4 n : Int)) ∧ w' = w := by
  have HC := hide' (fun k (hk : k < n) => show ∃ g off, a = some ⟨g, off, none⟩ ∧ w.cell? ⟨g, off + k, none⟩ = some (.int .i64 (f k : Int)) from by
    obtain ⟨g, off, e, hg, hc⟩ := hP.cells k (by simpa using hk)
    simp only [List.getElem_map, List.getElem_range] at hc
    exact ⟨g, off, e, hc⟩)
  have HF := hide' hf
  clear hP hf
  go_enter Try.func25, Try.ntmps25
  go_wp2
  go_loopw [5, 10] (fun mv iv wr => ∃ (i q : Nat), iv = .int .i64 (i : Int) ∧ mv = .int .i64 (q : Int) ∧ i ≤ n ∧ q ≤ i ∧ Hid (q = headN f 4 i) ∧ wr = w) (fun _ iv _ => ((n : Int) - intOf iv).toNat)
  case atStart => exact ⟨0, 0, by go_num, by go_num, by omega, by omega, hide' rfl, rfl⟩
  case round =>
    obtain ⟨i, q, rfl, rfl, hi, hq, HQ, rfl⟩ := hrel
    by_cases dd : (i : Int) < (n : Int)
    · have il : i < n := by omega
      obtain ⟨g, off, rfl, hc⟩ := HC.out i il
      have x63 := HF.out i
      have NQ := hide' (show q + f i / 2 ^ 4 % 2 = headN f 4 (i + 1) by rw [HQ.out]; unfold headN; rw [sumB])
      obtain ⟨x, hx⟩ : ∃ x, f i = x := ⟨_, rfl⟩
      rw [hx] at hc x63 NQ
      have hb := hd_4 ⟨x, by omega⟩
      have ul : x / 2 ^ 4 % 2 ≤ 1 := by omega
      obtain ⟨u, hu⟩ : ∃ u, x / 2 ^ 4 % 2 = u := ⟨_, rfl⟩
      simp only [hu] at hb
      rw [hu] at NQ ul
      clear hx hu
      go_wp2
      exact ⟨⟨i + 1, q + u, by go_num, by go_num, by omega, by omega, NQ, by simp⟩, by simp [intOf]; omega⟩
    · have ni : i = n := by omega
      subst ni
      have FQ := hide' HQ.out
      go_wp2
      go_ret
      rw [← FQ.out]
      exact ⟨rfl, rfl⟩
theorem hd_5 : ∀ x : Fin 64, bits .and .i64 ((x.val : Int) / 32) 1 = ((x.val / 2 ^ 5 % 2 : Nat) : Int) := by decide +kernel
set_option maxRecDepth 100000 in
set_option maxHeartbeats 1600000 in
theorem heading_5 (f : Nat → Nat) (a : Option Addr) (n c : Nat) (w : World) (hP : ArgP w ((List.range n).map fun i => (f i : Int)) a n c) (hf : ∀ i, f i ≤ 63) (hn : n ≤ 10000) :
    Calls Try.prog 25 #[.slice a n c, .int .i64 5] w fun e w' => e = .returned (.int .i64 (headN f 5 n : Int)) ∧ w' = w := by
  have HC := hide' (fun k (hk : k < n) => show ∃ g off, a = some ⟨g, off, none⟩ ∧ w.cell? ⟨g, off + k, none⟩ = some (.int .i64 (f k : Int)) from by
    obtain ⟨g, off, e, hg, hc⟩ := hP.cells k (by simpa using hk)
    simp only [List.getElem_map, List.getElem_range] at hc
    exact ⟨g, off, e, hc⟩)
  have HF := hide' hf
  clear hP hf
  go_enter Try.func25, Try.ntmps25
  go_wp2
  go_loopw [5, 10] (fun mv iv wr => ∃ (i q : Nat), iv = .int .i64 (i : Int) ∧ mv = .int .i64 (q : Int) ∧ i ≤ n ∧ q ≤ i ∧ Hid (q = headN f 5 i) ∧ wr = w) (fun _ iv _ => ((n : Int) - intOf iv).toNat)
  case atStart => exact ⟨0, 0, by go_num, by go_num, by omega, by omega, hide' rfl, rfl⟩
  case round =>
    obtain ⟨i, q, rfl, rfl, hi, hq, HQ, rfl⟩ := hrel
    by_cases dd : (i : Int) < (n : Int)
    · have il : i < n := by omega
      obtain ⟨g, off, rfl, hc⟩ := HC.out i il
      have x63 := HF.out i
      have NQ := hide' (show q + f i / 2 ^ 5 % 2 = headN f 5 (i + 1) by rw [HQ.out]; unfold headN; rw [sumB])
      obtain ⟨x, hx⟩ : ∃ x, f i = x := ⟨_, rfl⟩
      rw [hx] at hc x63 NQ
      have hb := hd_5 ⟨x, by omega⟩
      have ul : x / 2 ^ 5 % 2 ≤ 1 := by omega
      obtain ⟨u, hu⟩ : ∃ u, x / 2 ^ 5 % 2 = u := ⟨_, rfl⟩
      simp only [hu] at hb
      rw [hu] at NQ ul
      clear hx hu
      go_wp2
      exact ⟨⟨i + 1, q + u, by go_num, by go_num, by omega, by omega, NQ, by simp⟩, by simp [intOf]; omega⟩
    · have ni : i = n := by omega
      subst ni
      have FQ := hide' HQ.out
      go_wp2
      go_ret
      rw [← FQ.out]
      exact ⟨rfl, rfl⟩
end Go.Proofs.Ytbkllhlapdmlfaa

namespace Go.Proofs.Ytbkllhlapdmlfaa
open Go.RowKit
set_option linter.unusedVariables false
/-- What a map of colours holds. -/
structure MCo (D : DataW Unit) (col : Int → Int → Nat) : Prop where
  at' : ∀ x y, inC x → inC y → D.atKey (kC x y) (.lit (.int .i64 0)) = .lit (.int .i64 (col x y : Int))
  has : ∀ x y, inC x → inC y → Maps.has D (kC x y) = decide (col x y ≠ 0)
  keys : ∀ kl, Maps.has D kl = true → ∃ x y, inC x ∧ inC y ∧ kl = kC x y
  isMap : Maps.IsMap D
  out : ∀ x y, ¬ (inC x ∧ inC y) → col x y = 0
theorem MCo.empty : MCo (.map []) (fun _ _ => 0) := ⟨fun _ _ _ _ => rfl, fun _ _ _ _ => rfl, (fun kl h => by cases h), Maps.isMap_empty, fun _ _ _ => rfl⟩
theorem kC_ne {x y u v : Int} (hx : inC x) (hy : inC y) (hu : inC u) (hv : inC v) (h : ¬ (u = x ∧ v = y)) : kC u v ≠ kC x y := fun e => h (kC_inj hu hv hx hy e)
theorem MCo.put {D : DataW Unit} {col : Int → Int → Nat} (h : MCo D col) {x y : Int} (hx : inC x) (hy : inC y) {c : Nat} (hc : c ≠ 0) : MCo (D.put (kC x y) (.lit (.int .i64 (c : Int)))) (setA col x y c) := by
  have hk : WideAt.IsKeyLit (kC x y) := trivial
  refine ⟨fun u v hu hv => ?_, fun u v hu hv => ?_, fun kl hkl => ?_, h.isMap.put _ _, fun u v huv => ?_⟩
  · unfold setA
    by_cases e : u = x ∧ v = y
    · rw [if_pos e, e.1, e.2, Maps.atKey_put_same h.isMap hk]
    · rw [if_neg e, Maps.atKey_put_other (kC_ne hx hy hu hv e)]; exact h.at' u v hu hv
  · unfold setA
    by_cases e : u = x ∧ v = y
    · rw [if_pos e, e.1, e.2, Maps.has_put_same h.isMap hk]; simp [hc]
    · rw [if_neg e, Maps.has_put_other (kC_ne hx hy hu hv e)]; exact h.has u v hu hv
  · by_cases e : kl = kC x y
    · exact ⟨x, y, hx, hy, e⟩
    · rw [Maps.has_put_other e] at hkl; exact h.keys kl hkl
  · unfold setA
    rw [if_neg (fun e => huv (by rw [e.1, e.2]; exact ⟨hx, hy⟩))]
    exact h.out u v huv
theorem MCo.del {D : DataW Unit} {col : Int → Int → Nat} (h : MCo D col) {x y : Int} (hx : inC x) (hy : inC y) : MCo (D.del (kC x y)) (setA col x y 0) := by
  refine ⟨fun u v hu hv => ?_, fun u v hu hv => ?_, fun kl hkl => ?_, h.isMap.del _, fun u v huv => ?_⟩
  · unfold setA
    by_cases e : u = x ∧ v = y
    · rw [if_pos e, e.1, e.2, Maps.atKey_del_same]; rfl
    · rw [if_neg e, Maps.atKey_del_other (kC_ne hx hy hu hv e)]; exact h.at' u v hu hv
  · unfold setA
    by_cases e : u = x ∧ v = y
    · rw [if_pos e, e.1, e.2, Maps.has_del_same]; rfl
    · rw [if_neg e, Maps.has_del_other (kC_ne hx hy hu hv e)]; exact h.has u v hu hv
  · by_cases e : kl = kC x y
    · rw [e, Maps.has_del_same] at hkl; cases hkl
    · rw [Maps.has_del_other e] at hkl; exact h.keys kl hkl
  · unfold setA
    rw [if_neg (fun e => huv (by rw [e.1, e.2]; exact ⟨hx, hy⟩))]
    exact h.out u v huv
/-- The number by which a letter turns, as it lies. -/
def tuV (b : Bool) : Value := .complex .f64 0 (if b then 13830554455654793216 else 4607182418800017408)
/-- The struct of a walker as it lies. -/
def wkV (tb L mb ra ia rd id : Nat) : Array Value := #[.slice (some ⟨tb, 0, none⟩) L L, .map (some mb), .complex .f64 ra ia, .complex .f64 rd id]
structure WkB (w : World) (kb tb mb L : Nat) (x y : Int) (d : Nat) : Prop where
  blk : ∃ ra ia rd id, w.heap[kb]? = some (.cells (wkV tb L mb ra ia rd id) 93 (0, 0)) ∧ IsI ra x ∧ IsI ia (-y) ∧ IsI rd (dxA d) ∧ IsI id (-(dyA d))
theorem wrap_negA {y : Int} (h : inC y) : IntKind.i64.wrap (-(-y)) = y := by unfold inC at h; rw [Int.neg_neg]; simp [IntKind.wrap, IntKind.bits, IntKind.signed]; omega
set_option maxRecDepth 100000 in
set_option maxHeartbeats 6400000 in
theorem here_any (kb tb mb L d : Nat) (x y : Int) (w : World) (h : WkB w kb tb mb L x y d) (hx : inC x) (hy : inC y) :
    Calls Try.prog 42 #[.pointer (some ⟨kb, 0, none⟩)] w fun e w' => e = .returned (.agg #[.int .i64 x, .int .i64 y]) ∧ Below w.heap.size w w' := by
  obtain ⟨ra, ia, rd, id, hb, i1, i2, -, -⟩ := h.blk
  unfold wkV at hb
  obtain ⟨w1, hw1⟩ : ∃ w1, w.alloc (.cells #[.int .i64 0, .int .i64 0] 95) = w1 := ⟨_, rfl⟩
  have BB := hide' (show Below w.heap.size w w1 by rw [← hw1]; exact (Below.refl _ _).alloc (Nat.le_refl _) _)
  have g1 : w1.heap[w.heap.size]? = some (.cells #[.int .i64 0, .int .i64 0] 95 (0, 0)) := by rw [← hw1]; exact heap_alloc_new _ _
  have gk : w1.heap[kb]? = _ := (BB.out.block kb (lt_of_block hb)).trans hb
  have c2 := cell_of_row w1 _ 2 _ _ _ gk
  simp at c2
  have r0 := cell_of_row w1 _ 0 _ _ _ g1
  have r1 := cell_of_row w1 _ 1 _ _ _ g1
  simp at r0 r1
  have f0 := frozen_of_row w1 _ 0 _ _ g1
  have f1 := frozen_of_row w1 _ 1 _ _ g1
  have l1 := lt_of_block g1
  have hc1 := fun V => run_convert_float_int (P := Try.prog) V 63 3 .f64 .i64 ra x (by rw [Try.underlying63]; rfl) Try.underlying3 (IsI_toInt i1 (by unfold inC at hx; omega))
  have hc2 := fun V => run_convert_float_int (P := Try.prog) V 63 3 .f64 .i64 ia (-y) (by rw [Try.underlying63]; rfl) Try.underlying3 (IsI_toInt i2 (by unfold inC at hy; omega))
  have wn := wrap_negA hy
  obtain ⟨z, hz⟩ : ∃ z, -y = z := ⟨_, rfl⟩
  rw [hz] at hc2 wn
  have nz : -z = y := by omega
  obtain ⟨y1, y2⟩ := hy
  clear hb gk g1 i1 i2 h hz hx
  go_enter Try.func42, Try.ntmps42
  go_upto_region 1 with fail
  clear hw1
  go_region
  go_wp2
  refine bodyPost_ret (v := .agg #[.int .i64 x, .int .i64 y]) (by simp [results, Try.results42, go_sem, r0, r1]) rfl ?_
  exact ⟨rfl, ((BB.out.setCell (by simp) _).setCell (by simp) _).drew⟩
end Go.Proofs.Ytbkllhlapdmlfaa

