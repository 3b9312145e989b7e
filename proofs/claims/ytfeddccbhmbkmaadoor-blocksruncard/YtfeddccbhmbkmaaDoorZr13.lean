/-
  What the last text of this claim leans on, part 13: Bkd, Bke, Bkf, Bki.
-/
import Derived.Test.YtfeddccbhmbkmaaDoorZr11
import Derived.Test.YtfeddccbhmbkmaaDoorZr9
import Derived.Test.YtfeddccbhmbkmaaDoorZr12
namespace Go.Proofs.YtfeddccbhmbkmaaDoor
open Go.RowKit
set_option linter.unusedVariables false
/-- The phase of the s-th step. -/
def phS (ph s : Nat) : Nat := if s % 2 = 0 then ph else 1 - ph
theorem phS_le {ph : Nat} (hp : ph ≤ 1) (s : Nat) : phS ph s ≤ 1 := by unfold phS; split <;> omega
end Go.Proofs.YtfeddccbhmbkmaaDoor

namespace Go.Proofs.YtfeddccbhmbkmaaDoor
open Go.RowKit
set_option linter.unusedVariables false
end Go.Proofs.YtfeddccbhmbkmaaDoor

namespace Go.Proofs.YtfeddccbhmbkmaaDoor
open Go.RowKit
set_option linter.unusedVariables false
/-- A table's numbers, a pattern's cells. -/
def tvF (t : List Int) (k : Nat) : Nat := (t.getD k 0).toNat
def cfF (xs : List Int) (k : Nat) : Nat := (xs.getD k 0).toNat
theorem tabE_zero {t : List Int} (h : tabE t = 0) : t.length = 16 ∧ ∀ k, k < 16 → t.getD k 0 = (tvF t k : Int) ∧ tvF t k < 16 := by
  unfold tabE at h
  split at h
  · rename_i hl
    split at h
    · rename_i ha
      refine ⟨hl, fun k hk => ?_⟩
      have m := List.all_eq_true.1 ha (t[k]'(by omega)) (List.getElem_mem _)
      have e : t.getD k 0 = t[k]'(by omega) := by simp [List.getD, show k < t.length by omega]
      unfold in16 at m
      simp at m
      unfold tvF
      rw [e]
      omega
    · omega
  · omega
theorem tab_TbB {t : List Int} {w : World} {a : Option Addr} {n c : Nat} (hP : ArgP w t a n c) (h : tabE t = 0) : n = 16 ∧ TbB w a (tvF t) := by
  obtain ⟨hl, hv⟩ := tabE_zero h
  have hn := hP.len
  obtain ⟨g, off, e, hg, -⟩ := hP.cells 0 (by omega)
  refine ⟨by omega, fun k hk => (hv k hk).2, g, off, e, hg, fun k hk => ?_⟩
  obtain ⟨g', off', e', hg', hc⟩ := hP.cells k (by omega)
  rw [e] at e'
  cases e'
  rw [hc]
  have e2 : t.getD k 0 = t[k]'(by omega) := by simp [List.getD, show k < t.length by omega]
  rw [← (hv k hk).1, e2]
theorem shape_sidesB {W H : Int} {xs : List Int} (h : shapeF W H xs = 0) : ∃ Wn Hn : Nat, W = (Wn : Int) ∧ H = (Hn : Int) ∧ Wn ≤ 100 ∧ Hn ≤ 100 ∧ xs.length = Wn * Hn ∧ ∀ k, 0 ≤ xs.getD k 0 ∧ xs.getD k 0 ≤ 1 := by
  unfold shapeF at h
  split at h
  · rename_i hs
    split at h
    · rename_i hl
      split at h
      · rename_i ha
        simp only [Bool.and_eq_true] at hs
        unfold sideB at hs
        simp at hs
        refine ⟨W.toNat, H.toNat, by omega, by omega, by omega, by omega, ?_, fun k => ?_⟩
        · have e : ((W.toNat * H.toNat : Nat) : Int) = W * H := by rw [Int.natCast_mul, Int.toNat_of_nonneg (by omega), Int.toNat_of_nonneg (by omega)]
          omega
        · by_cases q : k < xs.length
          · have := List.all_eq_true.1 ha xs[k] (List.getElem_mem q)
            have e : xs.getD k 0 = xs[k] := by simp [List.getD, q]
            rw [e]
            unfold cellB at this
            simp at this
            omega
          · have e : xs.getD k 0 = 0 := by simp [List.getD, q]
            rw [e]; omega
      · omega
    · omega
  · omega
theorem runE_zero {t : List Int} {W H : Int} {xs : List Int} {ph k : Int} (h : runE t W H xs ph k = 0) : tabE t = 0 ∧ ∃ Wn Hn V U p n : Nat, W = (Wn : Int) ∧ H = (Hn : Int) ∧ Wn ≤ 100 ∧ Hn ≤ 100 ∧ Evn Wn Hn V U ∧ ph = (p : Int) ∧ p ≤ 1 ∧ k = (n : Int) ∧ n ≤ 100000 ∧ xs.length = Wn * Hn ∧ (∀ i, 0 ≤ xs.getD i 0 ∧ xs.getD i 0 ≤ 1) ∧ shapeF W H xs = 0 := by
  unfold runE at h
  by_cases h1 : tabE t ≠ 0
  · rw [if_pos h1] at h; exact absurd h h1
  · rw [if_neg h1] at h
    by_cases h2 : shapeF W H xs ≠ 0
    · rw [if_pos h2] at h; exact absurd h h2
    · rw [if_neg h2] at h
      have s0 : shapeF W H xs = 0 := by omega
      by_cases h3 : W % 2 ≠ 0 ∨ H % 2 ≠ 0
      · rw [if_pos h3] at h; omega
      · rw [if_neg h3] at h
        by_cases h4 : ph ≠ 0 ∧ ph ≠ 1
        · rw [if_pos h4] at h; omega
        · rw [if_neg h4] at h
          by_cases h5 : k < 0 ∨ 100000 < k
          · rw [if_pos h5] at h; omega
          · obtain ⟨Wn, Hn, rfl, rfl, hW, hH, hn, hx⟩ := shape_sidesB s0
            exact ⟨by omega, Wn, Hn, Wn / 2, Hn / 2, ph.toNat, k.toNat, rfl, rfl, hW, hH, ⟨by omega, by omega⟩, by omega, by omega, by omega, by omega, hn, hx, s0⟩
theorem cf_list {xs : List Int} (hx : ∀ i, 0 ≤ xs.getD i 0 ∧ xs.getD i 0 ≤ 1) : xs = (List.range xs.length).map fun i => (cfF xs i : Int) := by
  refine List.ext_getElem (by simp) fun i h1 h2 => ?_
  have := hx i
  have e : xs.getD i 0 = xs[i] := by simp [List.getD, h1]
  simp only [List.getElem_map, List.getElem_range]
  unfold cfF
  rw [e] at this ⊢
  omega
theorem cf_le {xs : List Int} (hx : ∀ i, 0 ≤ xs.getD i 0 ∧ xs.getD i 0 ≤ 1) (i : Nat) : cfF xs i ≤ 1 := by unfold cfF; have := hx i; omega
/-- The cells behind so many steps. -/
def runL8 (t : List Int) (W H ph : Nat) (xs : List Int) (n : Nat) : List Int := (List.range (W * H)).map fun i => (runB (tvF t) W H ph (cfF xs) n i : Int)
def RunOut (W H : Nat) (ys : List Int) (w : World) (e : Ending) (w' : World) : Prop := ∃ a n c, e = .returned (.tuple #[.agg #[.int .i64 (W : Int), .int .i64 (H : Int), .slice a n c], .nilIface]) ∧ ArgP w' ys a n c ∧ Below w.heap.size w w'
theorem CA_arg {w : World} {g n c : Nat} {f : Nat → Nat} (h : CA w g n f) (hm : n ≤ maxLen) : ArgP w ((List.range n).map fun i => (f i : Int)) (some ⟨g, 0, none⟩) n c :=
  ⟨by simp, hm, fun k hk => ⟨g, 0, rfl, h.lt, by
    have hk' : k < n := by simpa using hk
    rw [Nat.zero_add, (h.cell hk').1]
    simp⟩⟩
theorem run_good (t : List Int) (b : Option Addr) (m d : Nat) (W H : Nat) (xs : List Int) (a : Option Addr) (n c : Nat) (ph k : Nat) (w : World) (hT : ArgP w t b m d) (hP : ArgP w xs a n c) (hE : runE t (W : Int) (H : Int) xs (ph : Int) (k : Int) = 0) :
    Calls Tryd.prog 24 #[.slice b m d, .agg #[.int .i64 (W : Int), .int .i64 (H : Int), .slice a n c], .int .i64 (ph : Int), .int .i64 (k : Int)] w (RunOut W H (runL8 t W H ph xs k) w) := by
  obtain ⟨t0, Wn, Hn, V, U, p, kn, e1, e2, hW, hH, ev, e3, hp, e4, hk, hn, hx, s0⟩ := runE_zero hE
  obtain rfl : W = Wn := by omega
  obtain rfl : H = Hn := by omega
  obtain rfl : ph = p := by omega
  obtain rfl : k = kn := by omega
  obtain ⟨m16, tb⟩ := tab_TbB hT t0
  subst m16
  have nl : n = W * H := hP.len.trans hn
  subst nl
  have n10 : W * H ≤ 10000 := Nat.mul_le_mul hW hH
  rcases Nat.eq_zero_or_pos (W * H) with z | z
  · have xz : xs = [] := List.eq_nil_of_length_eq_zero (by omega)
    subst xz
    rw [z] at hP ⊢
    refine (run_none t b d W H V U a c ph k (tvF t) w hT hP hE ev hp hW hH hk tb z).mono ?_
    rintro e w' ⟨rfl, bl⟩
    refine ⟨none, 0, 0, rfl, ?_, bl⟩
    unfold runL8
    rw [z]
    exact ⟨rfl, Nat.zero_le _, fun k hk => by simp at hk⟩
  · cases a with
    | none =>
      obtain ⟨g, off, e, _⟩ := hP.cells 0 (by omega)
      cases e
    | some ad =>
      have xl := cf_list hx
      rw [hn] at xl
      refine (run_some t b d W H V U xs ad c ph k (tvF t) (cfF xs) w hT hP hE ev hp hW hH hk tb (cf_le hx) xl z).mono ?_
      rintro e w' ⟨gC, cap, rfl, ca, _, bl⟩
      exact ⟨_, _, cap, rfl, CA_arg ca (by unfold maxLen; omega), bl⟩
end Go.Proofs.YtfeddccbhmbkmaaDoor

namespace Go.Proofs.YtfeddccbhmbkmaaDoor
open Go.RowKit
set_option linter.unusedVariables false
theorem wrap64_small (n : Nat) (h : n ≤ 1000000) : wrap64 (n : Int) = (n : Int) := by simp [wrap64]; omega
theorem dx_ph {ph s x : Nat} (hp : ph ≤ 1) : (x + phS ph s) % 2 = (x + ph + s) % 2 := by unfold phS; split <;> omega
theorem runB_next (tv : Nat → Nat) (W H ph : Nat) (f : Nat → Nat) (s : Nat) : runB tv W H ph f (s + 1) = newB tv W H (phS ph s) (runB tv W H ph f s) := by
  rw [runB]
  unfold phS
  split <;> rfl
theorem col_of {V x ps e : Nat} (hx : x < 2 * V) (hp : ps ≤ 1) : (x + 2 * V - (x + ps) % 2 + e) % (2 * V) = (ps + 2 * bX V ps x + e) % (2 * V) := by
  unfold bX
  by_cases h : x < (x + ps) % 2
  · rw [if_pos h]
    congr 1
    omega
  · rw [if_neg h, show x + 2 * V - (x + ps) % 2 + e = (x - (x + ps) % 2 + e) + 2 * V by omega, Nat.add_mod_right]
    congr 1
    omega
/-- Where the k-th cell of the block of the cell x, y stands, as the reference reckons. -/
def plcR (W H ps x y k : Nat) : Nat := ((y + H - (y + ps) % 2 + k / 2) % H) * W + (x + W - (x + ps) % 2 + k % 2) % W
theorem ref_plc {W H V U ps x y k : Nat} (e : Evn W H V U) (hp : ps ≤ 1) (hx : x < W) (hy : y < H) : plcR W H ps x y k = plc W H ps (bI W H ps (y * W + x)) k := by
  obtain ⟨e1, e2⟩ := e.half
  have d1 : (y * W + x) / W = y := by rw [Nat.mul_comm, Nat.mul_add_div (by omega), Nat.div_eq_of_lt hx, Nat.add_zero]
  have m1 : (y * W + x) % W = x := by rw [Nat.mul_comm, Nat.mul_add_mod]; exact Nat.mod_eq_of_lt hx
  have hx2 : x < 2 * V := by rw [← e.w]; exact hx
  have hy2 : y < 2 * U := by rw [← e.h]; exact hy
  have b1 := (bX_of hx2 hp).1
  have dv : (bX U ps y * V + bX V ps x) / V = bX U ps y := by rw [Nat.mul_comm, Nat.mul_add_div (by omega), Nat.div_eq_of_lt b1, Nat.add_zero]
  have md : (bX U ps y * V + bX V ps x) % V = bX V ps x := by rw [Nat.mul_comm, Nat.mul_add_mod, Nat.mod_eq_of_lt b1]
  have c1 := col_of (e := k % 2) hx2 hp
  have c2 := col_of (e := k / 2) hy2 hp
  rw [← e.w] at c1
  rw [← e.h] at c2
  unfold plcR plc bI
  rw [d1, m1, e1, e2, dv, md, c1, c2]
theorem plcR_lt {W H V U ps x y k : Nat} (e : Evn W H V U) (hp : ps ≤ 1) (hx : x < W) (hy : y < H) (hk : k < 4) : plcR W H ps x y k < W * H := by
  rw [ref_plc e hp hx hy]
  have hi : y * W + x < W * H := by
    have := Nat.mul_le_mul_right W (show y + 1 ≤ H from hy)
    rw [Nat.add_mul, Nat.mul_comm H W] at this
    omega
  exact (of_plc e hp (plc_of e hp hi).1 hk).1
/-- The block's number, so far as it is reckoned. -/
def sumR (f : Nat → Nat) (W H ps x y : Nat) : Nat → Nat
  | 0 => 0
  | k + 1 => sumR f W H ps x y k + 2 ^ k * f (plcR W H ps x y k)
theorem sumR_lt {f : Nat → Nat} (hf : ∀ i, f i ≤ 1) (W H ps x y : Nat) : ∀ k, sumR f W H ps x y k < 2 ^ k
  | 0 => by simp [sumR]
  | k + 1 => by
    have ih := sumR_lt hf W H ps x y k
    rw [sumR, Nat.pow_succ]
    rcases (show f (plcR W H ps x y k) = 0 ∨ f (plcR W H ps x y k) = 1 by have := hf (plcR W H ps x y k); omega) with h | h <;> rw [h] <;> omega
theorem sumR_four {W H V U ps x y : Nat} (e : Evn W H V U) (hp : ps ≤ 1) (hx : x < W) (hy : y < H) (f : Nat → Nat) : sumR f W H ps x y 4 = nbB f W H ps (bI W H ps (y * W + x)) := by
  unfold nbB
  rw [← ref_plc e hp hx hy, ← ref_plc e hp hx hy, ← ref_plc e hp hx hy, ← ref_plc e hp hx hy]
  simp [sumR]
theorem new_ref {W H V U ps x y : Nat} (e : Evn W H V U) (hp : ps ≤ 1) (hx : x < W) (hy : y < H) (tv f : Nat → Nat) : newB tv W H ps f (y * W + x) = tv (sumR f W H ps x y 4) / 2 ^ ((y + ps) % 2 * 2 + (x + ps) % 2) % 2 := by
  have d1 : (y * W + x) / W = y := by rw [Nat.mul_comm, Nat.mul_add_div (by omega), Nat.div_eq_of_lt hx, Nat.add_zero]
  have m1 : (y * W + x) % W = x := by rw [Nat.mul_comm, Nat.mul_add_mod]; exact Nat.mod_eq_of_lt hx
  rw [newB, sumR_four e hp hx hy, dg, bK, d1, m1]
/-- A step, so far as it is done. -/
def prtB (g : Nat → Nat) (m k : Nat) : Nat := if k < m then g k else 0
theorem prtB_next (g : Nat → Nat) (m k : Nat) : (if k = m then g m else prtB g m k) = prtB g (m + 1) k := by
  unfold prtB
  by_cases h : k = m
  · subst h; rw [if_pos rfl, if_pos (by omega)]
  · rw [if_neg h]
    by_cases q : k < m
    · rw [if_pos q, if_pos (by omega)]
    · rw [if_neg q, if_neg (by omega)]
theorem ArgP.keepB {w w' : World} {xs : List Int} {a : Option Addr} {n c : Nat} (h : ArgP w xs a n c) (hk : 0 < xs.length → ∀ g off, a = some ⟨g, off, none⟩ → w'.heap[g]? = w.heap[g]?) : ArgP w' xs a n c :=
  ⟨h.len, h.max, fun k hk' => by
    obtain ⟨g, off, e, hg, hc⟩ := h.cells k hk'
    have b := hk (by omega) g off e
    refine ⟨g, off, e, ?_, (World.cell?_of_block (w := w) (a := ⟨g, off + k, none⟩) b).trans hc⟩
    rcases Nat.lt_or_ge g w'.heap.size with u | u
    · exact u
    · rw [Array.getElem?_eq_none u, Array.getElem?_eq_getElem hg] at b; cases b⟩
end Go.Proofs.YtfeddccbhmbkmaaDoor

