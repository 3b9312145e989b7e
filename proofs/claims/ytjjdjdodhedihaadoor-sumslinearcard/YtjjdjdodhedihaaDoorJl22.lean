/-
  What the last text of this claim leans on, part 22: Sf1, Sf2.
-/
import Derived.Test.YtjjdjdodhedihaaDoorJl19
import Derived.Test.YtjjdjdodhedihaaDoorJl21
import Derived.Laws.IdiomCopy
namespace Go.Proofs.YtjjdjdodhedihaaDoor
open Go.RowKit
set_option linter.unusedVariables false

/-- So many times the cells that stand by places to the right, added to the first i sums. -/
def addL (us xs : List Int) (num sh : Int) (i : Nat) : List Int := (List.range us.length).map fun (k : Nat) => if k < i then us.getD k 0 + num * rat xs ((k : Int) + sh) else us.getD k 0
theorem addL_length (us xs : List Int) (num sh : Int) (i : Nat) : (addL us xs num sh i).length = us.length := by simp [addL]
theorem addL_zero (us xs : List Int) (num sh : Int) : addL us xs num sh 0 = us := by
  apply List.ext_getElem (by simp [addL])
  intro k h1 h2
  simp [addL, List.getD, h2]
theorem addL_at {us xs : List Int} {num sh : Int} {i : Nat} (h : i < us.length) : (addL us xs num sh i).getD i 0 = us.getD i 0 := by simp [addL, List.getD, h]
theorem addL_set {us xs : List Int} {num sh : Int} {i : Nat} (h : i < us.length) : (addL us xs num sh i).set i (us.getD i 0 + num * rat xs ((i : Int) + sh)) = addL us xs num sh (i + 1) := by
  apply List.ext_getElem (by simp [addL])
  intro k h1 h2
  rw [List.getElem_set]
  simp only [addL, List.getElem_map, List.getElem_range]
  by_cases e : i = k
  · subst e; rw [if_pos rfl, if_pos (by omega)]
  · rw [if_neg e]
    by_cases d : k < i
    · rw [if_pos d, if_pos (by omega)]
    · rw [if_neg d, if_neg (by omega)]
theorem turn_mod (b : Int) (n : Nat) (hn : 0 < n) : -(n : Int) < b.tmod n ∧ b.tmod n < n ∧ (b.tmod n + n).tmod n = b % n := by
  have h1 := Int.tmod_lt_of_pos b (show (0 : Int) < n by omega)
  have h2 : -(n : Int) < b.tmod n := by
    have := Int.tmod_lt_of_pos (-b) (show (0 : Int) < n by omega)
    rw [Int.neg_tmod] at this
    omega
  refine ⟨h2, h1, ?_⟩
  rw [Int.tmod_eq_emod_of_nonneg (by omega)]
  have h3 := Int.tmod_add_mul_tdiv b (n : Int)
  rw [show b = (b.tmod n + n) + (n : Int) * (b.tdiv n - 1) by rw [Int.mul_sub]; omega, Int.add_mul_emod_self_left]
  have h4 := Int.tmod_add_mul_tdiv (b.tmod n + n + (n : Int) * (b.tdiv n - 1)) (n : Int)
  rw [show (b.tmod ↑n + ↑n + ↑n * (b.tdiv ↑n - 1)) = b by rw [Int.mul_sub]; omega]

set_option maxRecDepth 100000 in
set_option maxHeartbeats 6400000 in
theorem addTurned_any (gs gr L c1 c2 : Nat) (us xs : List Int) (sh num : Int) (w : World) (hs : Cel w gs us) (hr : Cel w gr xs) (ne : gs ≠ gr) (l1 : us.length = L) (l2 : xs.length = L) (h0 : 0 < L) (hl : L ≤ 1000) (hx : cellsOk ((4 : Nat) : Int) xs) (hu : ∀ x ∈ us, 0 ≤ x ∧ x ≤ 1000000) (n0 : 0 ≤ num) (n4 : num ≤ 4) (sb : -1000000 ≤ sh ∧ sh ≤ 1000000) :
    Calls Tryd.prog 115 #[.slice (some ⟨gs, 0, none⟩) L c1, .slice (some ⟨gr, 0, none⟩) L c2, .int .i64 sh, .int .i64 num] w fun e w' => e = .returned (.tuple #[]) ∧ Cel w' gs (addL us xs num sh L) ∧ Rd gs w w' := by
  obtain ⟨t1, t2, t3⟩ := turn_mod sh L h0
  obtain ⟨b, hb⟩ : ∃ b, sh.tmod (L : Int) = b := ⟨_, rfl⟩
  rw [hb] at t1 t2 t3
  obtain ⟨a0, ha0⟩ : ∃ a0 : Nat, sh % (L : Int) = (a0 : Int) := ⟨(sh % (L : Int)).toNat, by have := Int.emod_nonneg sh (show (L : Int) ≠ 0 by omega); omega⟩
  have al : a0 < L := by have := Int.emod_lt_of_pos sh (show (0 : Int) < L by omega); omega
  rw [ha0] at t3
  have n2 : ¬ (L : Int) = 0 := by omega
  have HS := hide' hs
  have HR := hide' hr
  have HX := hide' hx
  have HU := hide' hu
  have L1 := hide' l1
  have L2 := hide' l2
  have A0 := hide' ha0
  have NE := hide' ne
  clear hs hr hx hu l1 l2 ha0 ne
  go_enter Tryd.func115, Tryd.ntmps115
  go_wp2
  go_loopw [9, 22] (fun tv iv wr => ∃ (i t : Nat), iv = .int .i64 (i : Int) ∧ tv = .int .i64 (t : Int) ∧ i ≤ L ∧ t < L ∧ Hid (((i : Int) + sh) % (L : Int) = (t : Int) ∧ Cel wr gs (addL us xs num sh i) ∧ Cel wr gr xs ∧ Rd gs w wr)) (fun _ iv _ => L - (intOf iv).toNat)
  case atStart => exact ⟨0, a0, rfl, rfl, by omega, al, hide' ⟨by simpa using A0.out, by rw [addL_zero]; exact HS.out, HR.out, Rd.refl _ _⟩⟩
  case round =>
    obtain ⟨i, t, rfl, rfl, hi, ht, H⟩ := hrel
    by_cases d : (i : Int) < (L : Int)
    · have il : i < us.length := by rw [L1.out]; omega
      have cs := H.out.2.1.cells i (by rw [addL_length]; exact il)
      have cf := H.out.2.1.fz i
      have cr := H.out.2.2.1.cells t (by rw [L2.out]; exact ht)
      rw [addL_at il] at cs
      have RT := hide' (show rat xs ((i : Int) + sh) = xs.getD t 0 by unfold rat; rw [L2.out, H.out.1, Int.toNat_natCast])
      have SET := hide' (addL_set (xs := xs) (num := num) (sh := sh) il)
      rw [RT.out] at SET
      have ub := HU.out (us.getD i 0) (by rw [List.getD_eq_getElem?_getD, List.getElem?_eq_getElem il]; exact List.getElem_mem il)
      have xb := cellsOk_at HX.out (k := t) (by rw [L2.out]; exact ht)
      obtain ⟨u, hu⟩ : ∃ u, us.getD i 0 = u := ⟨_, rfl⟩
      obtain ⟨x, hx⟩ : ∃ x, xs.getD t 0 = x := ⟨_, rfl⟩
      rw [hu] at cs ub SET
      rw [hx] at cr xb SET
      obtain ⟨y, hy⟩ : ∃ y, num * x = y := ⟨_, rfl⟩
      have yb : 0 ≤ y ∧ y ≤ 16 := by
        obtain ⟨n', rfl⟩ : ∃ n' : Nat, num = n' := ⟨num.toNat, by omega⟩
        obtain ⟨x', rfl⟩ : ∃ x' : Nat, x = x' := ⟨x.toNat, by omega⟩
        have : n' * x' ≤ 4 * 4 := Nat.mul_le_mul (by omega) (by omega)
        rw [← hy, ← Int.natCast_mul]
        omega
      have gne : ¬ gs = gr := NE.out
      have gne' : ¬ gr = gs := fun q => NE.out q.symm
      rw [hy] at SET
      clear hu hx
      by_cases e : t + 1 = L
      · have e1 : ((t : Int) + 1 == (L : Int)) = true := by rw [beq_iff_eq]; omega
        have NM := hide' (show (((i + 1 : Nat) : Int) + sh) % (L : Int) = ((0 : Nat) : Int) by
          have := H.out.1
          rw [show ((i + 1 : Nat) : Int) + sh = ((i : Int) + sh) + 1 by push_cast; omega, Int.add_emod, this]
          rw [show ((t : Int) + 1 % (L : Int)) = (t : Int) + (1 % (L : Int)) from rfl]
          rcases Nat.lt_or_ge 1 L with q | q
          · rw [Int.emod_eq_of_lt (a := 1) (by omega) (by omega), show (t : Int) + 1 = (L : Int) by omega]; simp
          · rw [show (L : Int) = 1 by omega]; simp)
        clear e
        go_wp2
        go_region
        go_wp2
        exact ⟨⟨i + 1, 0, by go_num, rfl, by omega, by omega, hide' ⟨NM.out, by rw [← SET.out]; exact (H.out.2.1.set i _ (by rw [addL_length]; exact il)).block (Nat.le_refl _) rfl, (H.out.2.2.1.block (by simp) (heap_setCell_other _ _ _ _ _ (fun q => NE.out q.symm))).block (Nat.le_refl _) rfl, rd_drew (rd_set1 H.out.2.2.2 i _)⟩⟩, by simp [intOf]; omega⟩
      · have e1 : ((t : Int) + 1 == (L : Int)) = false := by rw [beq_eq_false_iff_ne]; omega
        have NM := hide' (show (((i + 1 : Nat) : Int) + sh) % (L : Int) = ((t + 1 : Nat) : Int) by
          have := H.out.1
          rw [show ((i + 1 : Nat) : Int) + sh = ((i : Int) + sh) + 1 by push_cast; omega, Int.add_emod, this, Int.emod_eq_of_lt (a := 1) (by omega) (by omega), Int.emod_eq_of_lt (by omega) (by omega)]
          push_cast
          rfl)
        have tl : t + 1 < L := by omega
        clear e
        go_wp2
        go_region
        go_wp2
        exact ⟨⟨i + 1, t + 1, by go_num, by go_num, by omega, tl, hide' ⟨NM.out, by rw [← SET.out]; exact (H.out.2.1.set i _ (by rw [addL_length]; exact il)).block (Nat.le_refl _) rfl, (H.out.2.2.1.block (by simp) (heap_setCell_other _ _ _ _ _ (fun q => NE.out q.symm))).block (Nat.le_refl _) rfl, rd_drew (rd_set1 H.out.2.2.2 i _)⟩⟩, by simp [intOf]; omega⟩
    · have FI := hide' (show Cel wr gs (addL us xs num sh L) ∧ Rd gs w wr by rw [show L = i by omega]; exact ⟨H.out.2.1, H.out.2.2.2⟩)
      go_wp2
      go_end0
      exact ⟨rfl, FI.out.1, FI.out.2⟩
end Go.Proofs.YtjjdjdodhedihaaDoor

namespace Go.Proofs.YtjjdjdodhedihaaDoor
open Go.RowKit
set_option linter.unusedVariables false

/-- The sums behind the first i numbers. -/
def sumsL (R a : Nat) (cs xs : List Int) (i : Nat) : List Int := (List.range xs.length).map fun (k : Nat) => opF (coefF cs) (shF R a) i (rat xs) (k : Int)
theorem sumsL_length (R a : Nat) (cs xs : List Int) (i : Nat) : (sumsL R a cs xs i).length = xs.length := by simp [sumsL]
theorem sumsL_zero (R a : Nat) (cs xs : List Int) : sumsL R a cs xs 0 = List.replicate xs.length 0 := by
  apply List.ext_getElem (by simp [sumsL])
  intro k h1 h2
  simp [sumsL, opF_zero]
theorem sumsL_at {R a : Nat} {cs xs : List Int} {i k : Nat} (h : k < xs.length) : (sumsL R a cs xs i).getD k 0 = opF (coefF cs) (shF R a) i (rat xs) (k : Int) := by simp [sumsL, List.getD, h]
theorem sumsL_next (R a : Nat) (cs xs : List Int) (i : Nat) : addL (sumsL R a cs xs i) xs (cs.getD i 0) (shF R a i) xs.length = sumsL R a cs xs (i + 1) := by
  apply List.ext_getElem (by simp [addL, sumsL])
  intro k h1 h2
  have hk : k < xs.length := by simpa [sumsL] using h2
  simp only [addL, List.getElem_map, List.getElem_range]
  rw [if_pos hk, sumsL_at hk]
  simp only [sumsL, List.getElem_map, List.getElem_range]
  rw [opF_succ]
  rfl
theorem sumsL_skip {R a : Nat} {cs xs : List Int} {i : Nat} (h : cs.getD i 0 = 0) : sumsL R a cs xs (i + 1) = sumsL R a cs xs i := by
  apply List.ext_getElem (by simp [sumsL])
  intro k h1 h2
  simp only [sumsL, List.getElem_map, List.getElem_range]
  rw [opF_succ, show coefF cs i = 0 from h, Int.zero_mul, Int.add_zero]
theorem sumsL_step (S R a : Nat) (cs xs : List Int) : ((sumsL R a cs xs (2 * R + 1)).map fun x => x % (S : Int)) = stepA S R a cs xs := by
  unfold sumsL stepA
  rw [List.map_map]
  rfl
theorem opF_bound {c s : Nat → Int} {u : Int → Int} (hc : ∀ i, 0 ≤ c i ∧ c i ≤ 3) (hu : ∀ j, 0 ≤ u j ∧ u j ≤ 3) : ∀ (k : Nat) (j : Int), 0 ≤ opF c s k u j ∧ opF c s k u j ≤ 9 * k
  | 0, j => by rw [opF_zero]; omega
  | k + 1, j => by
    have ih := opF_bound (s := s) hc hu k j
    have a := hc k
    have b := hu (j + s k)
    rw [opF_succ]
    obtain ⟨x, hx⟩ : ∃ x : Nat, c k = x := ⟨(c k).toNat, by omega⟩
    obtain ⟨y, hy⟩ : ∃ y : Nat, u (j + s k) = y := ⟨(u (j + s k)).toNat, by omega⟩
    rw [hx] at a ⊢
    rw [hy] at b ⊢
    have : x * y ≤ 3 * 3 := Nat.mul_le_mul (by omega) (by omega)
    rw [← Int.natCast_mul]
    push_cast
    omega
theorem setCells_size (g : Nat) : ∀ (vs : List Value) (o : Nat) (w : World), (w.setCells g o vs).heap.size = w.heap.size
  | [], o, w => rfl
  | v :: r, o, w => by
    show ((w.setCell ⟨g, o, none⟩ v).setCells g (o + 1) r).heap.size = _
    rw [setCells_size g r (o + 1), World.size_setCell]
theorem setCells_rd (g : Nat) : ∀ (vs : List Value) (o : Nat) (w0 w : World), Rd g w0 w → Rd g w0 (w.setCells g o vs)
  | [], o, w0, w, h => h
  | v :: r, o, w0, w, h => setCells_rd g r (o + 1) w0 _ (rd_set1 h o v)
theorem cleared {w : World} {g L : Nat} {us : List Int} (h : Cel w g us) (hl : us.length = L) : Cel (w.setCells g 0 (List.replicate L (.int .i64 0))) g (List.replicate L 0) := by
  refine ⟨by rw [setCells_size]; exact h.lt, fun k hk => ?_, fun k => by rw [World.frozen?_setCells]; exact h.fz k⟩
  rw [List.length_replicate] at hk
  have q := World.cell?_setCells_in g (List.replicate L (.int .i64 0)) 0 w (fun j hj => by rw [Nat.zero_add, h.cells j (by rw [List.length_replicate] at hj; omega)]; rfl) k (by rw [List.length_replicate]; exact hk)
  rw [Nat.zero_add] at q
  rw [q, List.getElem_replicate]
  simp [List.getD, hk]
theorem zeros_ints (n : Nat) : (Builtin.zeroCells #[.int .i64 0] n).toList = List.replicate n (.int .i64 0) := by
  unfold Builtin.zeroCells
  apply List.ext_getElem
  · simp
  · intro k h1 h2
    simp [Nat.mod_one]
/-- clear at a list of ints. -/
theorem clear_run (g L c : Nat) (us : List Int) (w : World) (ty : TypeId) (h : Cel w g us) (hl : us.length = L) (h0 : 0 < L) : (Builtin.clear_ #[22] ty #[.slice (some ⟨g, 0, none⟩) L c]).run Tryd.prog w = .ok (.tuple #[]) (w.setCells g 0 (List.replicate L (.int .i64 0))) := by
  obtain ⟨k, rfl⟩ : ∃ k, L = k + 1 := ⟨L - 1, by omega⟩
  have hst := run_storeCells_cells (P := Tryd.prog) g 0 (List.replicate (k + 1) (.int .i64 0)) 0 w (fun j hj => by rw [show 0 + 0 + j = j by omega, h.cells j (by rw [List.length_replicate] at hj; omega)]; rfl) (fun j hj => h.fz _) (fun v hv => by rw [List.eq_of_mem_replicate hv]; rfl)
  obtain ⟨i0, hi0, hz0, hz1, hz2⟩ := info_parts info_int
  unfold Builtin.clear_
  simp [go_sem]
  rw [zeros_ints, hst]
  rfl
end Go.Proofs.YtjjdjdodhedihaaDoor

