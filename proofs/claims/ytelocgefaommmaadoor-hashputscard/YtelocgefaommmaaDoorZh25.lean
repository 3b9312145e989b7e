/-
  What the last text of this claim leans on, part 25: Hf1, Hf2.
-/
import Derived.Test.YtelocgefaommmaaDoorZh24
import Derived.Test.YtelocgefaommmaaDoorZh3
namespace Go.Proofs.YtelocgefaommmaaDoor
open Go.RowKit
set_option linter.unusedVariables false
/-- A space's cells. -/
def spC (b s : Int) (pt : Value) (t L : Int) (fr fd kp : Int) : Obj := .cells #[.int .i64 1, .int .i64 b, .int .i64 s, .int .i64 0, .int .i64 0, .slice none 0 0, .string ⟨#[]⟩, .int .u32 0, .int .i32 0, .int .u32 0, .pointer none, pt, .int .i32 t, .int .i64 L, .int .i64 fr, .int .i64 fd, .int .i64 kp] 58 (0, 0)
/-- A space as it lies, of which F tells what lives. -/
def SpA (w : World) (spb B : Nat) (b s : Int) (M : Int) (F : Int → Int → Int) (K : Nat) : Prop :=
  B ≤ spb ∧ ∃ (sb t L : Nat) (fr fd : Int) (n g cap : Nat) (qs : List Sq) (kp : Nat), w.heap[spb]? = some (spC b s (.pointer (some ⟨sb, 0, none⟩)) t L fr fd kp) ∧ FldA w B sb t L fr fd M F n g cap qs ∧ qs.length ≤ K ∧ kp ≤ K
def KeP (spb B : Nat) (b s : Int) (M : Int) (F : Int → Int → Int) (K : Nat) (w : World) (e : Ending) (w' : World) : Prop := e = .returned (.tuple #[]) ∧ SpA w' spb B b s M F K ∧ Below B w w'
theorem sp_set {w : World} {spb : Nat} {b s : Int} {pt pt2 : Value} {t L fr fd kp t2 L2 fr2 fd2 : Int} (h : w.heap[spb]? = some (spC b s pt t L fr fd kp)) :
    (((((w.setCell ⟨spb, 11, none⟩ pt2).setCell ⟨spb, 12, none⟩ (.int .i32 t2)).setCell ⟨spb, 13, none⟩ (.int .i64 L2)).setCell ⟨spb, 14, none⟩ (.int .i64 fr2)).setCell ⟨spb, 15, none⟩ (.int .i64 fd2)).heap[spb]? = some (spC b s pt2 t2 L2 fr2 fd2 kp) := by
  unfold spC at *
  have h0 := heap_setCell_same w spb 11 _ _ pt2 h
  have h1 := heap_setCell_same _ spb 12 _ _ (.int .i32 t2) h0
  have h2 := heap_setCell_same _ spb 13 _ _ (.int .i64 L2) h1
  have h3 := heap_setCell_same _ spb 14 _ _ (.int .i64 fr2) h2
  have h4 := heap_setCell_same _ spb 15 _ _ (.int .i64 fd2) h3
  rw [h4]; rfl
theorem sp_kept {w : World} {spb : Nat} {b s : Int} {pt : Value} {t L fr fd kp kp2 : Int} (h : w.heap[spb]? = some (spC b s pt t L fr fd kp)) : (w.setCell ⟨spb, 16, none⟩ (.int .i64 kp2)).heap[spb]? = some (spC b s pt t L fr fd kp2) := by
  unfold spC at *
  rw [heap_setCell_same w spb 16 _ _ (.int .i64 kp2) h]; rfl
theorem five_oth {w : World} {g k : Nat} (hk : k ≠ g) (o1 o2 o3 o4 o5 : Nat) (x0 x1 x2 x3 x4 : Value) : (((((w.setCell ⟨g, o1, none⟩ x0).setCell ⟨g, o2, none⟩ x1).setCell ⟨g, o3, none⟩ x2).setCell ⟨g, o4, none⟩ x3).setCell ⟨g, o5, none⟩ x4).heap[k]? = w.heap[k]? := by
  rw [Below.heap_setCell _ _ _ _ (by simpa using hk), Below.heap_setCell _ _ _ _ (by simpa using hk), Below.heap_setCell _ _ _ _ (by simpa using hk), Below.heap_setCell _ _ _ _ (by simpa using hk), Below.heap_setCell _ _ _ _ (by simpa using hk)]
set_option maxRecDepth 100000 in
set_option maxHeartbeats 12800000 in
theorem keep_any (spb B sb t L : Nat) (b s : Int) (pt : Value) (t1 L1 fr1 fd1 kp1 : Int) (fr fd M : Int) (F : Int → Int → Int) (n g cap : Nat) (qs : List Sq) (w : World) (hs : w.heap[spb]? = some (spC b s pt t1 L1 fr1 fd1 kp1)) (h : FldA w B sb t L fr fd M F n g cap qs) (h16 : 16 ≤ M) (hM : M ≤ 100000) (hB : B ≤ spb) (hl : qs.length + n ≤ 1900000) (N : Nat) (hN : ∀ k, sideI k ≤ 2 * M → k ≤ N) (N10 : N ≤ 10) (K : Nat) (hK : 1 + cntQ N ≤ K) :
    Calls Tryd.prog 11 #[.pointer (some ⟨spb, 0, none⟩), .agg #[.pointer (some ⟨sb, 0, none⟩), .int .i32 (t : Int), .int .i64 (L : Int), .int .i64 fr, .int .i64 fd]] w (KeP spb B b s M F K w) := by
  obtain ⟨w2, hw2⟩ : ∃ w2, w.alloc (.cells #[.pointer (some ⟨sb, 0, none⟩), .int .i32 (t : Int), .int .i64 (L : Int), .int .i64 fr, .int .i64 fd] 56) = w2 := ⟨_, rfl⟩
  have HW2 := hide' hw2
  have B2 := hide' (show Below w.heap.size w w2 by rw [← hw2]; exact (Below.refl _ _).alloc (Nat.le_refl _) _)
  have F2 := hide' (show w2.heap[w.heap.size]? = some (.cells #[.pointer (some ⟨sb, 0, none⟩), .int .i32 (t : Int), .int .i64 (L : Int), .int .i64 fr, .int .i64 fd] 56 (0, 0)) by rw [← hw2]; exact heap_alloc_new _ _)
  have S2 := hide' ((B2.out.block _ (lt_of_block hs)).trans hs)
  have A2 := hide' (show FldA w2 B sb t L fr fd M F n g cap qs from ⟨h.stk.below B2.out, h.wf, h.lev, h.one, h.hi, h.r1, h.r2, h.d1, h.d2, h.val⟩)
  have HH := hide' (And.intro h16 (And.intro hM (And.intro hB (And.intro hl (And.intro hN (And.intro N10 hK))))))
  have LS := hide' (lt_of_block hs)
  have c0 := cell_of_row w2 _ 0 _ _ _ F2.out
  have c1 := cell_of_row w2 _ 1 _ _ _ F2.out
  have c2 := cell_of_row w2 _ 2 _ _ _ F2.out
  have c3 := cell_of_row w2 _ 3 _ _ _ F2.out
  have c4 := cell_of_row w2 _ 4 _ _ _ F2.out
  simp at c0 c1 c2 c3 c4
  clear hw2 hs h h16 hM hB hl hN N10 hK
  go_enter Tryd.func11, Tryd.ntmps11
  go_upto_region 1 with fail
  rw [HW2.out]
  go_wp2_with fail
  refine (trimmed_any B sb t L fr fd M F n g cap qs w2 A2.out HH.out.1 (by have := HH.out.2.1; omega) (by have := B2.out.size; have := HH.out.2.2.1; have := LS.out; omega) HH.out.2.2.2.1).mono ?_
  rintro e w3 ⟨sb3, t3, L3, fr3, fd3, n3, g3, cap3, qs3, rfl, f3, l3, b3, k3⟩
  have sn := A2.out.stk.ne_four S2.out (by decide) (by decide)
  have S3 := hide' ((k3.keep spb (lt_of_block S2.out) sn.1 sn.2).trans S2.out)
  have A3 := hide' f3
  have B3 := hide' ((B2.out.mono (by have := HH.out.2.2.1; have := LS.out; omega)).trans b3)
  have QL := hide' l3
  clear f3 l3 b3 k3 sn c0 c1 c2 c3 c4
  go_wp2_with fail
  refine (newStock_any w3).mono ?_
  rintro e w4 ⟨ts, gt, rfl, hts, b4⟩
  have S4 := hide' ((b4.block _ (lt_of_block S3.out)).trans S3.out)
  have T4 := hide' hts
  have A4 := hide' (A3.out.stk.below b4)
  have LT3 := hide' A3.out.stk.lt
  have B4 := hide' b4
  clear hts b4
  go_wp2_with fail
  have n10 := HH.out.2.2.2.2.1 n3 (by have := A3.out.r1; have := A3.out.r2; omega)
  have c10 := cntQ_mono n10
  have N10 := HH.out.2.2.2.2.2.1
  have cten := cntQ_mono N10
  rw [cntQ_ten] at cten
  refine (moved_any sb3 g3 cap3 ts w3.heap.size gt 1 qs3 [zQ] n3 t3 L3 fr3 fd3 w4 (A4.out.weakB (Nat.zero_le _)) T4.out LT3.out B4.out.size (by have := QL.out; have := HH.out.2.2.2.1; omega) (by simp; omega) A3.out.wf).mono ?_
  rintro e w5 ⟨g5, cap5, rs5, t5, rfl, s5, wf5, v5, l5, b5⟩
  have hB := HH.out.2.2.1
  have bsz := And.intro B2.out.size (And.intro B3.out.size B4.out.size)
  have ls := LS.out
  have S5 := hide' ((b5.block _ (by have := lt_of_block S3.out; omega)).trans S4.out)
  have ns := s5.ne_four S5.out (by decide) (by decide)
  have R5 := hide' s5
  have NS := hide' ns
  have W5 := hide' (And.intro wf5 v5)
  have LN5 := hide' (show rs5.length ≤ K by have : [zQ].length = 1 := rfl; have := HH.out.2.2.2.2.2.2; omega)
  have B5 := hide' (show Below B w w5 from B3.out.trans ((B4.out.mono (by omega)).trans (b5.mono (by omega))))
  obtain ⟨w6, hw6⟩ : ∃ w6, ((((w5.setCell ⟨spb, 11, none⟩ (.pointer (some ⟨ts, 0, none⟩))).setCell ⟨spb, 12, none⟩ (.int .i32 (t5 : Int))).setCell ⟨spb, 13, none⟩ (.int .i64 (L3 : Int))).setCell ⟨spb, 14, none⟩ (.int .i64 fr3)).setCell ⟨spb, 15, none⟩ (.int .i64 fd3) = w6 := ⟨_, rfl⟩
  have S6 := hide' (show w6.heap[spb]? = some (spC b s (.pointer (some ⟨ts, 0, none⟩)) (t5 : Int) (L3 : Int) fr3 fd3 kp1) by rw [← hw6]; exact sp_set S5.out)
  have R6 := hide' (show StkA w6 ts w3.heap.size g5 cap5 rs5 by rw [← hw6]; exact R5.out.keep (five_oth (fun e => NS.out.1 e.symm) _ _ _ _ _ _ _ _ _ _) (five_oth (fun e => NS.out.2 e.symm) _ _ _ _ _ _ _ _ _ _))
  have B6 := hide' (show Below B w w6 by rw [← hw6]; exact ((((B5.out.setCell hB _).setCell hB _).setCell hB _).setCell hB _).setCell hB _)
  have HW6 := hide' hw6
  have k0 := S5.out
  unfold spC at k0
  have d11 := cell_of_row w5 spb 11 _ _ _ k0
  have d12 := cell_of_row w5 spb 12 _ _ _ k0
  have d13 := cell_of_row w5 spb 13 _ _ _ k0
  have d14 := cell_of_row w5 spb 14 _ _ _ k0
  have d15 := cell_of_row w5 spb 15 _ _ _ k0
  have f11 := frozen_of_row w5 spb 11 _ _ k0
  have f12 := frozen_of_row w5 spb 12 _ _ k0
  have f13 := frozen_of_row w5 spb 13 _ _ k0
  have f14 := frozen_of_row w5 spb 14 _ _ k0
  have f15 := frozen_of_row w5 spb 15 _ _ k0
  simp at d11 d12 d13 d14 d15
  clear s5 wf5 v5 l5 b5 ns hw6 k0 hB bsz ls n10 c10 N10 cten
  go_upto_region 2 with fail
  rw [HW6.out]
  clear d11 d12 d13 d14 d15 f11 f12 f13 f14 f15
  have k0 := S6.out
  unfold spC at k0
  have d11 := cell_of_row w6 spb 11 _ _ _ k0
  have d16 := cell_of_row w6 spb 16 _ _ _ k0
  have f16 := frozen_of_row w6 spb 16 _ _ k0
  have e0 := cell_of_row w6 ts 0 _ _ _ R6.out.blk
  obtain ⟨rn, hrn⟩ : ∃ n, rs5.length = n := ⟨_, rfl⟩
  rw [hrn] at e0
  simp at d11 d16 e0
  obtain ⟨X, hX⟩ : ∃ X, w6.setCell ⟨spb, 16, none⟩ (.int .i64 (rn : Int)) = X := ⟨_, rfl⟩
  have HX := hide' hX
  have FIN := hide' (show KeP spb B b s M F K w (.returned (.tuple #[])) X from by
    have a3 := A3.out
    have hB := HH.out.2.2.1
    have s6 := R6.out.ne_four k0 (by decide) (by decide)
    have bz : B ≤ w3.heap.size := by have := B3.out.size; have := LS.out; omega
    refine ⟨rfl, ⟨hB, ts, t5, L3, fr3, fd3, n3, g5, cap5, rs5, rn, by rw [← hX]; exact sp_kept S6.out, ⟨by rw [← hX]; exact (R6.out.weakB bz).set s6.1 s6.2 _, W5.out.1, a3.lev, a3.one, a3.hi, a3.r1, a3.r2, a3.d1, a3.d2, fun u v => by rw [W5.out.2]; exact a3.val u v⟩, LN5.out, by rw [← hrn]; exact LN5.out⟩, by rw [← hX]; exact B6.out.setCell hB _⟩)
  clear k0 hX hrn
  go_wp2
  rw [HX.out]
  go_end0
  exact FIN.out
end Go.Proofs.YtelocgefaommmaaDoor

namespace Go.Proofs.YtelocgefaommmaaDoor
open Go.RowKit
set_option linter.unusedVariables false
set_option maxHeartbeats 3200000 in
theorem isFar_no (x : Int) (w : World) (h : -1000000000000 ≤ x ∧ x ≤ 1000000000000) : Calls Tryd.prog 15 #[.int .i64 x] w fun e w' => e = .returned (.bool false) ∧ w' = w := by
  have h1 : ¬ x < -1000000000000 := by omega
  have h2 : ¬ 1000000000000 < x := by omega
  go_enter Tryd.func15, Tryd.ntmps15
  go_wp2
  go_ret
  exact ⟨rfl, rfl⟩
set_option maxHeartbeats 3200000 in
theorem isSide_20 (w : World) : Calls Tryd.prog 17 #[.int .i64 20] w fun e w' => e = .returned (.bool true) ∧ w' = w := by
  go_enter Tryd.func17, Tryd.ntmps17
  go_wp2
  go_ret
  exact ⟨rfl, rfl⟩
/-- A rule that New refuses. -/
def NoNew (o : Out) : Prop := ¬ Good o ∨ (Good o ∧ o.kind ≠ 1) ∨ (Good o ∧ o.kind = 1 ∧ ∃ b : Nat, o.born = (b : Int) ∧ b ≤ 511 ∧ b % 2 = 1)
def YesNew (o : Out) : Prop := Good o ∧ o.kind = 1 ∧ ∃ b : Nat, o.born = (b : Int) ∧ b ≤ 511 ∧ b % 2 = 0
theorem new_cases (o : Out) : NoNew o ∨ YesNew o := by
  by_cases g : Good o
  · by_cases k : o.kind = 1
    · have : ∃ b : Nat, o.born = (b : Int) ∧ b ≤ 511 := by
        rcases g with ⟨_, h1, _⟩ | ⟨h, _⟩ | ⟨h, _⟩
        · unfold bitsB at h1
          simp at h1
          exact ⟨o.born.toNat, by omega, by omega⟩
        · omega
        · omega
      obtain ⟨b, e, l⟩ := this
      by_cases p : b % 2 = 1
      · exact Or.inl (Or.inr (Or.inr ⟨g, k, b, e, l, p⟩))
      · exact Or.inr ⟨g, k, b, e, l, by omega⟩
    · exact Or.inl (Or.inr (Or.inl ⟨g, k⟩))
  · exact Or.inl (Or.inl g)
theorem and_one {b : Nat} (h : b ≤ 511) : bits .and .i64 (b : Int) 1 = ((b % 2 : Nat) : Int) := by
  have : ∀ b : Fin 512, bits .and .i64 ((b.val : Nat) : Int) 1 = ((b.val % 2 : Nat) : Int) := by decide +kernel
  exact this ⟨b, by omega⟩
set_option maxRecDepth 100000 in
set_option maxHeartbeats 6400000 in
theorem new_no (o : Out) (ta : Option Addr) (tn tc : Nat) (w : World) (hR : ArgR w o ta tn tc) (hn : NoNew o) :
    Calls Tryd.prog 4 #[.agg #[.int .i64 o.kind, .int .i64 o.born, .int .i64 o.stay, .int .i64 o.states, .int .i64 o.radius, .slice ta tn tc, .string o.turns]] w fun e w' => e = .returned (.tuple #[.pointer none, .iface 40 (.int .i64 1)]) ∧ Below w.heap.size w w' := by
  obtain ⟨w1, hw1⟩ : ∃ w1, w.alloc (.cells #[.int .i64 o.kind, .int .i64 o.born, .int .i64 o.stay, .int .i64 o.states, .int .i64 o.radius, .slice ta tn tc, .string o.turns] 24) = w1 := ⟨_, rfl⟩
  have HW1 := hide' hw1
  have B1 := hide' (show Below w.heap.size w w1 by rw [← hw1]; exact (Below.refl _ _).alloc (Nat.le_refl _) _)
  have G1 := hide' (show w1.heap[w.heap.size]? = some (.cells #[.int .i64 o.kind, .int .i64 o.born, .int .i64 o.stay, .int .i64 o.states, .int .i64 o.radius, .slice ta tn tc, .string o.turns] 24 (0, 0)) by rw [← hw1]; exact heap_alloc_new _ _)
  have CC := hide' (Check_any o ta tn tc w1 (hR.below B1.out))
  have x0 := cell_of_row w1 _ 0 _ _ _ G1.out
  have x1 := cell_of_row w1 _ 1 _ _ _ G1.out
  have x2 := cell_of_row w1 _ 2 _ _ _ G1.out
  have x3 := cell_of_row w1 _ 3 _ _ _ G1.out
  have x4 := cell_of_row w1 _ 4 _ _ _ G1.out
  have x5 := cell_of_row w1 _ 5 _ _ _ G1.out
  have x6 := cell_of_row w1 _ 6 _ _ _ G1.out
  simp at x0 x1 x2 x3 x4 x5 x6
  have HN := hide' hn
  clear hw1 hR hn
  go_enter Tryd.func4, Tryd.ntmps4
  go_upto_region 1 with fail
  rw [HW1.out]
  go_wp2_with fail
  refine CC.out.mono ?_
  rintro e w2 ⟨⟨rfl, g⟩ | ⟨rfl, g⟩, b⟩
  · have G2 := (b.block _ (lt_of_block G1.out)).trans G1.out
    have B2 := hide' (B1.out.trans (b.mono B1.out.size))
    clear x0 x1 x2 x3 x4 x5 x6
    have x0 := cell_of_row w2 _ 0 _ _ _ G2
    have x1 := cell_of_row w2 _ 1 _ _ _ G2
    simp at x0 x1
    rcases HN.out with q | ⟨_, q⟩ | ⟨_, q, b', e1, e2, e3⟩
    · exact absurd g q
    · have k1 : (o.kind != 1) = true := by simpa using q
      have k2 : (o.kind == 1) = false := by simpa using q
      clear g q b G2
      go_wp2
      go_ret2
      exact ⟨rfl, B2.out⟩
    · have k1 : (o.kind != 1) = false := by simp [q]
      have k2 : (o.kind == 1) = true := by simp [q]
      have an := and_one e2
      rw [e3] at an
      rw [e1] at x1
      have HQ := hide' q
      clear g q b G2 e1 e2 e3
      go_wp2
      go_ret2
      exact ⟨rfl, B2.out⟩
  · have B2 := hide' (B1.out.trans (b.mono B1.out.size))
    clear x0 x1 x2 x3 x4 x5 x6 b g
    go_wp2
    go_ret2
    exact ⟨rfl, B2.out⟩
def NyP (w : World) (e : Ending) (w' : World) : Prop := ∃ (spb : Nat) (b s : Int), e = .returned (.tuple #[.pointer (some ⟨spb, 0, none⟩), .nilIface]) ∧ SpA w' spb w.heap.size b s 16 (fun _ _ => 0) 22 ∧ Below w.heap.size w w'
theorem side_inv {k N : Nat} {X : Int} (h : sideI k ≤ X) (hX : X < sideI (N + 1)) : k ≤ N := by
  rcases Nat.lt_or_ge N k with c | c
  · exfalso
    have : sideI (N + 1) ≤ sideI k := by
      rw [sideI_nat, sideI_nat]
      have : 2 ^ (N + 1 + 3) ≤ 2 ^ (k + 3) := Nat.pow_le_pow_right (by omega) (by omega)
      omega
    omega
  · exact c
set_option maxRecDepth 100000 in
set_option maxHeartbeats 6400000 in
theorem new_yes (o : Out) (ta : Option Addr) (tn tc : Nat) (w : World) (hR : ArgR w o ta tn tc) (hy : YesNew o) :
    Calls Tryd.prog 4 #[.agg #[.int .i64 o.kind, .int .i64 o.born, .int .i64 o.stay, .int .i64 o.states, .int .i64 o.radius, .slice ta tn tc, .string o.turns]] w (NyP w) := by
  obtain ⟨hg, hk, b, e1, e2, e3⟩ := hy
  obtain ⟨w1, hw1⟩ : ∃ w1, w.alloc (.cells #[.int .i64 o.kind, .int .i64 o.born, .int .i64 o.stay, .int .i64 o.states, .int .i64 o.radius, .slice ta tn tc, .string o.turns] 24) = w1 := ⟨_, rfl⟩
  have HW1 := hide' hw1
  have B1 := hide' (show Below w.heap.size w w1 by rw [← hw1]; exact (Below.refl _ _).alloc (Nat.le_refl _) _)
  have G1 := hide' (show w1.heap[w.heap.size]? = some (.cells #[.int .i64 o.kind, .int .i64 o.born, .int .i64 o.stay, .int .i64 o.states, .int .i64 o.radius, .slice ta tn tc, .string o.turns] 24 (0, 0)) by rw [← hw1]; exact heap_alloc_new _ _)
  have CC := hide' (Check_any o ta tn tc w1 (hR.below B1.out))
  have x0 := cell_of_row w1 _ 0 _ _ _ G1.out
  have x1 := cell_of_row w1 _ 1 _ _ _ G1.out
  have x2 := cell_of_row w1 _ 2 _ _ _ G1.out
  have x3 := cell_of_row w1 _ 3 _ _ _ G1.out
  have x4 := cell_of_row w1 _ 4 _ _ _ G1.out
  have x5 := cell_of_row w1 _ 5 _ _ _ G1.out
  have x6 := cell_of_row w1 _ 6 _ _ _ G1.out
  simp at x0 x1 x2 x3 x4 x5 x6
  have k1 : (o.kind != 1) = false := by simp [hk]
  have k2 : (o.kind == 1) = true := by simp [hk]
  have an := and_one e2
  rw [e3] at an
  have HG := hide' hg
  have E1 := hide' e1
  clear hw1 hR hg hk e1 e2 e3
  go_enter Tryd.func4, Tryd.ntmps4
  go_upto_region 1 with fail
  rw [HW1.out]
  go_wp2_with fail
  refine CC.out.mono ?_
  rintro e w2 ⟨⟨rfl, g⟩ | ⟨rfl, g⟩, bb⟩
  · have G2 := (bb.block _ (lt_of_block G1.out)).trans G1.out
    have B2 := hide' (B1.out.trans (bb.mono B1.out.size))
    clear x0 x1 x2 x3 x4 x5 x6
    have x0 := cell_of_row w2 _ 0 _ _ _ G2
    have x1 := cell_of_row w2 _ 1 _ _ _ G2
    have x2 := cell_of_row w2 _ 2 _ _ _ G2
    simp at x0 x1 x2
    rw [E1.out] at x1
    clear g bb G2
    go_wp2_with fail
    obtain ⟨w3, hw3⟩ : ∃ w3, w2.alloc (.cells #[.int .i64 1, .int .i64 (b : Int), .int .i64 o.stay, .int .i64 0, .int .i64 0, .slice none 0 0, .string ⟨#[]⟩, .int .u32 0, .int .i32 0, .int .u32 0, .pointer none, .pointer none, .int .i32 0, .int .i64 0, .int .i64 0, .int .i64 0, .int .i64 0] 58) = w3 := ⟨_, rfl⟩
    have S3 := hide' (show w3.heap[w2.heap.size]? = some (spC (b : Int) o.stay (.pointer none) 0 0 0 0 0) by rw [← hw3]; exact heap_alloc_new _ _)
    have B3 := hide' (show Below w.heap.size w w3 by rw [← hw3]; exact B2.out.alloc B2.out.size _)
    rw [hw3]
    clear hw3
    refine (emptyField_any w3).mono ?_
    rintro e w4 ⟨sb, g, rfl, hs, b4⟩
    have S4 := hide' ((b4.block _ (lt_of_block S3.out)).trans S3.out)
    have K4 := hide' hs
    have B4 := hide' (B3.out.trans (b4.mono B3.out.size))
    have Z3 := hide' (And.intro B2.out.size (And.intro B3.out.size (lt_of_block S3.out)))
    clear hs b4 x0 x1 x2
    go_wp2_with fail
    have s16 : sideI 1 = 16 := by decide
    refine (keep_any w2.heap.size w.heap.size sb 0 4 (b : Int) o.stay (.pointer none) 0 0 0 0 0 0 0 16 (fun _ _ => 0) 1 g 1 [zQ] w4 S4.out ⟨K4.out.weakB (by have := Z3.out; omega), WFQ.nil _ _, rfl, by omega, by omega, by omega, by omega, by omega, by omega, fun u v => val_nil K4.out.st _ _ _⟩ (by omega) (by omega) (by have := Z3.out; omega) (by decide) 2 (fun k hk => side_inv hk (by decide)) (by omega) 22 (by decide)).mono ?_
    rintro e w5 ⟨rfl, sp5, b5⟩
    have SP := hide' sp5
    have B5 := hide' (B4.out.trans b5)
    clear sp5 b5 s16
    go_wp2
    go_ret2
    exact ⟨w2.heap.size, (b : Int), o.stay, rfl, SP.out, B5.out⟩
  · exact absurd HG.out g
end Go.Proofs.YtelocgefaommmaaDoor

