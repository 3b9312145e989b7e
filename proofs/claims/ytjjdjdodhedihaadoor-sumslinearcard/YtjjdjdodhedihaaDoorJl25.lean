/-
  What the last text of this claim leans on, part 25: Gf3.
-/
import Derived.Test.YtjjdjdodhedihaaDoorJl20
import Derived.Test.YtjjdjdodhedihaaDoorJl24
import Derived.Test.YtjjdjdodhedihaaDoorJl14
namespace Go.Proofs.YtjjdjdodhedihaaDoor
open Go.RowKit
set_option linter.unusedVariables false

theorem copied {w : World} {g L : Nat} {us ws : List Int} (h : Cel w g us) (hl : us.length = L) (hw : ws.length = L) : Cel (w.setCells g 0 (ws.map fun x => Value.int .i64 x)) g ws := by
  refine ⟨by rw [setCells_size]; exact h.lt, fun k hk => ?_, fun k => by rw [World.frozen?_setCells]; exact h.fz k⟩
  have q := World.cell?_setCells_in g (ws.map fun x => Value.int .i64 x) 0 w (fun j hj => by rw [Nat.zero_add, h.cells j (by rw [List.length_map] at hj; omega)]; rfl) k (by rw [List.length_map]; exact hk)
  rw [Nat.zero_add] at q
  rw [q, List.getElem_map]
  simp [List.getD, hk]
theorem copy_run {w : World} {g L c : Nat} {us ws : List Int} {wa : Addr} {wc : Nat} (h : Cel w g us) (hl : us.length = L) (hW : ArgP w ws (some wa) L wc) :
    (Builtin.copy_ #[22, 22] 3 #[.slice (some ⟨g, 0, none⟩) L c, .slice (some wa) L wc]).run Tryd.prog w = .ok (.int .i64 (L : Int)) (w.setCells g 0 (ws.map fun x => Value.int .i64 x)) := by
  have hw := hW.len
  have q := run_copy_cells (P := Tryd.prog) w 22 22 3 3 g 0 L c wa L wc (ws.map fun x => Value.int .i64 x) Tryd.underlying22 (by kernel_rfl) (by rw [List.length_map, ← hw]; exact (Nat.min_self L).symm) (news_ints hW) (fun j hj => by rw [List.length_map] at hj; rw [Nat.zero_add, h.cells j (by omega)]; rfl) (fun j hj => h.fz _) (fun v hv => by obtain ⟨x, -, rfl⟩ := List.mem_map.1 hv; rfl)
  rw [q, List.length_map, ← hw]
  rfl
structure F2 (w1 wr : World) (g1 g2 : Nat) (xs ys : List Int) : Prop where
  bl : Below w1.heap.size w1 wr
  c1 : Cel wr g1 xs
  c2 : Cel wr g2 ys
  l1 : w1.heap.size ≤ g1
  l2 : w1.heap.size ≤ g2
structure F3 (w1 wr : World) (g1 g2 g3 : Nat) (xs ys zs : List Int) : Prop where
  f2 : F2 w1 wr g1 g2 xs ys
  c3 : Cel wr g3 zs
  l3 : w1.heap.size ≤ g3
  n1 : g1 ≠ g3
  n2 : g2 ≠ g3
theorem F2.make {w1 wr : World} {g1 g2 : Nat} {xs ys : List Int} (h : F2 w1 wr g1 g2 xs ys) (L : Nat) (t : TypeId) : F3 w1 (wr.alloc (.cells (madeCells #[.int .i64 0] L) t)) g1 g2 wr.heap.size xs ys (List.replicate L 0) :=
  ⟨⟨h.bl.alloc h.bl.size _, h.c1.block (by simp) (Below.heap_alloc _ _ _ h.c1.lt), h.c2.block (by simp) (Below.heap_alloc _ _ _ h.c2.lt), h.l1, h.l2⟩, Cel.made wr L t, h.bl.size, Nat.ne_of_lt h.c1.lt, Nat.ne_of_lt h.c2.lt⟩
theorem F3.set {w1 wr : World} {g1 g2 g3 : Nat} {xs ys zs : List Int} (h : F3 w1 wr g1 g2 g3 xs ys zs) (i : Nat) (x : Int) (hi : i < zs.length) : F3 w1 (wr.setCell ⟨g3, i, none⟩ (.int .i64 x)) g1 g2 g3 xs ys (zs.set i x) :=
  ⟨⟨h.f2.bl.setCell (p := ⟨g3, i, none⟩) h.l3 _, h.f2.c1.block (by simp) (heap_setCell_other _ _ _ _ _ h.n1), h.f2.c2.block (by simp) (heap_setCell_other _ _ _ _ _ h.n2), h.f2.l1, h.f2.l2⟩, h.c3.set i x hi, h.l3, h.n1, h.n2⟩
theorem F2.drewN {w1 wr : World} {g1 g2 : Nat} {xs ys : List Int} (h : F2 w1 wr g1 g2 xs ys) (q : Nat) : F2 w1 (wr.drewN q) g1 g2 xs ys := ⟨below_drewN h.bl q, h.c1.block (Nat.le_refl _) rfl, h.c2.block (Nat.le_refl _) rfl, h.l1, h.l2⟩
theorem F3.drewN {w1 wr : World} {g1 g2 g3 : Nat} {xs ys zs : List Int} (h : F3 w1 wr g1 g2 g3 xs ys zs) (q : Nat) : F3 w1 (wr.drewN q) g1 g2 g3 xs ys zs := ⟨h.f2.drewN q, h.c3.block (Nat.le_refl _) rfl, h.l3, h.n1, h.n2⟩
theorem F3.drew {w1 wr : World} {g1 g2 g3 : Nat} {xs ys zs : List Int} (h : F3 w1 wr g1 g2 g3 xs ys zs) : F3 w1 wr.drew g1 g2 g3 xs ys zs := ⟨⟨h.f2.bl.drew, h.f2.c1.block (Nat.le_refl _) rfl, h.f2.c2.block (Nat.le_refl _) rfl, h.f2.l1, h.f2.l2⟩, h.c3.block (Nat.le_refl _) rfl, h.l3, h.n1, h.n2⟩
/-- The by-list alone. -/
structure F1 (w1 wr : World) (g1 : Nat) (xs : List Int) : Prop where
  bl : Below w1.heap.size w1 wr
  c1 : Cel wr g1 xs
  l1 : w1.heap.size ≤ g1
theorem F1.make (w1 : World) (L : Nat) (t : TypeId) : F1 w1 (w1.alloc (.cells (madeCells #[.int .i64 0] L) t)) w1.heap.size (List.replicate L 0) := ⟨(Below.refl _ _).alloc (Nat.le_refl _) _, Cel.made w1 L t, Nat.le_refl _⟩
theorem F1.set {w1 wr : World} {g1 : Nat} {xs : List Int} (h : F1 w1 wr g1 xs) (i : Nat) (x : Int) (hi : i < xs.length) : F1 w1 (wr.setCell ⟨g1, i, none⟩ (.int .i64 x)) g1 (xs.set i x) := ⟨h.bl.setCell (p := ⟨g1, i, none⟩) h.l1 _, h.c1.set i x hi, h.l1⟩
theorem F1.drew {w1 wr : World} {g1 : Nat} {xs : List Int} (h : F1 w1 wr g1 xs) : F1 w1 wr.drew g1 xs := ⟨h.bl.drew, h.c1.block (Nat.le_refl _) rfl, h.l1⟩
theorem F1.drewN {w1 wr : World} {g1 : Nat} {xs : List Int} (h : F1 w1 wr g1 xs) (q : Nat) : F1 w1 (wr.drewN q) g1 xs := ⟨below_drewN h.bl q, h.c1.block (Nat.le_refl _) rfl, h.l1⟩
theorem F1.out {w1 wr : World} {g1 L : Nat} {xs ws : List Int} (h : F1 w1 wr g1 xs) (t : TypeId) (hw : ws.length = L) : F2 w1 ((wr.alloc (.cells (madeCells #[.int .i64 0] L) t)).setCells wr.heap.size 0 (ws.map fun x => Value.int .i64 x)) g1 wr.heap.size xs ws := by
  have hr := setCells_rd wr.heap.size (ws.map fun x => Value.int .i64 x) 0 _ _ (Rd.refl wr.heap.size (wr.alloc (.cells (madeCells #[.int .i64 0] L) t)))
  have hs := h.bl.size
  refine ⟨?_, ?_, copied (Cel.made wr L t) (by simp) hw, h.l1, h.bl.size⟩
  · exact ⟨hr.os.trans h.bl.os, hr.tape.trans h.bl.tape, hr.output.trans h.bl.output, by have := hr.size; rw [World.size_alloc] at this; omega, fun k hk => (hr.block k (by rw [World.size_alloc]; omega) (by omega)).trans ((Below.heap_alloc _ _ _ (by omega)).trans (h.bl.block k hk))⟩
  · exact h.c1.block (by have := hr.size; rw [World.size_alloc] at this; omega) ((hr.block g1 (by rw [World.size_alloc]; have := h.c1.lt; omega) (Nat.ne_of_lt h.c1.lt)).trans (Below.heap_alloc _ _ _ h.c1.lt))
theorem pair_div {L j k : Nat} (hk : k < L) : (j * L + k) / L = j := by rw [Nat.mul_comm, Nat.mul_add_div (by omega), Nat.div_eq_of_lt hk, Nat.add_zero]
theorem pair_mod {L j k : Nat} (hk : k < L) : (j * L + k) % L = k := by rw [Nat.mul_comm, Nat.mul_add_mod, Nat.mod_eq_of_lt hk]
theorem tmod_fix {x : Int} {L : Nat} (hL : 0 < L) : (x.tmod (L : Int) < 0 → x.tmod (L : Int) + L = x % (L : Int)) ∧ (¬ x.tmod (L : Int) < 0 → x.tmod (L : Int) = x % (L : Int)) := by
  have a := Int.emod_nonneg x (show (L : Int) ≠ 0 by omega)
  have b := Int.emod_lt_of_pos x (show (0 : Int) < L by omega)
  have c := Int.emod_add_mul_ediv x (L : Int)
  have d := Int.tmod_add_mul_tdiv x (L : Int)
  have e := Int.tmod_lt_of_pos x (show (0 : Int) < L by omega)
  have f : -(L : Int) < x.tmod (L : Int) := Int.lt_tmod_of_pos x (by omega)
  have g : (x.tmod (L : Int) - x % (L : Int)) = (L : Int) * (x / (L : Int) - x.tdiv (L : Int)) := by rw [Int.mul_sub]; omega
  have small : ∀ z : Int, -(2 * (L : Int)) < (L : Int) * z → (L : Int) * z < L → z = 0 ∨ z = -1 := fun z h1 h2 => by
    rcases Int.lt_or_le z (-1) with q | q
    · have : (L : Int) * z ≤ (L : Int) * (-2) := Int.mul_le_mul_of_nonneg_left (by omega) (by omega)
      omega
    · rcases Int.lt_or_le 0 z with r | r
      · have : (L : Int) * 1 ≤ (L : Int) * z := Int.mul_le_mul_of_nonneg_left (by omega) (by omega)
        omega
      · omega
  have s := small (x / (L : Int) - x.tdiv (L : Int)) (by rw [← g]; omega) (by rw [← g]; omega)
  constructor
  · intro h
    rcases s with s | s
    · rw [s, Int.mul_zero] at g; omega
    · rw [s] at g; omega
  · intro h
    rcases s with s | s
    · rw [s, Int.mul_zero] at g; omega
    · rw [s] at g; omega

theorem mul9 {a b : Int} (ha : 0 ≤ a) (ha3 : a ≤ 3) (hb : 0 ≤ b) (hb3 : b ≤ 3) : 0 ≤ a * b ∧ a * b ≤ 9 := by
  refine ⟨Int.mul_nonneg ha hb, ?_⟩
  have h1 : a * b ≤ 3 * b := Int.mul_le_mul_of_nonneg_right ha3 hb
  omega
theorem add_tmod (j k L : Nat) : ((j : Int) + (k : Int)).tmod (L : Int) = (((j + k) % L : Nat) : Int) := by
  rw [Int.tmod_eq_emod_of_nonneg (by omega), Int.natCast_emod]
  push_cast
  rfl
def FarPost (Z : List Int) (L : Nat) (w : World) (e : Ending) (w' : World) : Prop := (∃ g, e = .returned (.slice (some ⟨g, 0, none⟩) L L) ∧ Cel w' g Z) ∧ Below w.heap.size w w'

set_option maxRecDepth 100000 in
set_option maxHeartbeats 12800000 in
theorem far_full (S R L K n0 : Nat) (cs ws : List Int) (ta : Option Addr) (tn tc : Nat) (ca : Option Addr) (cc : Nat) (wa : Addr) (wc : Nat) (w : World) (s2 : 2 ≤ S) (s4 : S ≤ 4) (r10 : R ≤ 10) (hK : 2 * R + 1 = K) (hC : ArgP w cs ca K cc) (hco : cellsOk S cs) (hW : ArgP w ws (some wa) L wc) (hwo : cellsOk S ws) (L0 : 0 < L) (L1 : L ≤ 1000) (hn : n0 ≤ 1000000000000000000) :
    Calls Tryd.prog 22 #[.agg #[.int .i64 2, .int .i64 0, .int .i64 0, .int .i64 (S : Int), .int .i64 (R : Int), .slice ta tn tc, .string ⟨#[]⟩], .slice ca K cc, .slice (some wa) L wc, .int .i64 (n0 : Int)] w (FarPost (manyA S R 1 cs n0 ws) L w) := by
  obtain ⟨w1, hw1⟩ : ∃ w1, w.alloc (.cells #[.int .i64 2, .int .i64 0, .int .i64 0, .int .i64 (S : Int), .int .i64 (R : Int), .slice ta tn tc, .string ⟨#[]⟩] 24) = w1 := ⟨_, rfl⟩
  have BB := hide' (show Below w.heap.size w w1 by rw [← hw1]; exact (Below.refl _ _).alloc (Nat.le_refl _) _)
  have RX := hide' (show RB w.heap.size S R (.slice ta tn tc) w1 by rw [← hw1]; exact RB.new w S R _ _)
  have AC := hide' (hC.below BB.out)
  have AW := hide' (hW.below BB.out)
  have CLn := hide' hC.len
  have WLn := hide' hW.len
  have CO := hide' hco
  have n2 : ¬ (S : Int) = 0 := by omega
  have nL : ¬ (L : Int) = 0 := by omega
  have nLb : ((L : Int) == 0) = false := by simp; omega
  have K21 : K ≤ 21 := by omega
  obtain ⟨Z, hZ⟩ : ∃ Z, manyA S R 1 cs n0 ws = Z := ⟨_, rfl⟩
  have START := hide' (show FarInv S L Z n0 (byAt S R L cs K) ws by rw [← hZ, ← hK]; exact FarInv.start (by omega) L0 hwo hW.len.symm)
  have ZOK := hide' (show cellsOk S Z ∧ Z.length = L by
    rw [← hZ]
    refine ⟨?_, by rw [manyA_length]; exact hW.len.symm⟩
    exact manyA_ok (by omega) _ _ hwo)
  have HMK := hide' (fun W => run_make_row' (P := Tryd.prog) 22 3 (.int .i64 0) 8 Tryd.underlying22 info_int rfl .i64 .i64 L (by omega) (by omega) W)
  have BOK := hide' (fun i => byAt_ok (S := S) (R := R) (L := L) (cs := cs) (by omega) i)
  have BLN := hide' (fun i => byAt_length S R L cs i)
  obtain ⟨PP, hPP⟩ : ∃ PP, FarPost Z L w = PP := ⟨_, rfl⟩
  have HPP := hide' hPP
  rw [hZ, hPP]
  clear hC hW hco hwo hK hZ hPP
  obtain ⟨x0, x1, x2, x3, x4, x5, x6⟩ := RX.out
  have hmk := HMK.out w1
  go_enter Tryd.func22, Tryd.ntmps22
  go_wp2
  skip
  clear x0 x1 x2 x3 x4 x5 x6 hw1 hmk
  go_loopw [11] (fun iv wr => ∃ i : Nat, iv = .int .i64 (i : Int) ∧ i ≤ K ∧ F1 w1 wr w1.heap.size (byAt S R L cs i)) (fun iv _ => K - (intOf iv).toNat)
  case atStart => exact ⟨0, rfl, by omega, F1.make w1 L 3⟩
  case round =>
    obtain ⟨i, rfl, hi, H⟩ := hrel
    have FH := hide' H
    obtain ⟨V, hV⟩ : ∃ V, V = wr := ⟨_, rfl⟩
    subst hV
    clear H
    obtain ⟨x0, x1, x2, x3, x4, x5, x6⟩ := RX.out.next FH.out.bl
    by_cases d : (i : Int) < (K : Int)
    · obtain ⟨gc, oc, rfl, hc⟩ := (AC.out.below FH.out.bl).at (k := i) (by omega)
      have ck := cellsOk_at CO.out (k := i) (by have := CLn.out; omega)
      obtain ⟨cv, hcv⟩ : ∃ cv, cs.getD i 0 = cv := ⟨_, rfl⟩
      rw [hcv] at hc ck
      obtain ⟨m, hm⟩ : ∃ m, (((i : Int) - R) % (L : Int)).toNat = m := ⟨_, rfl⟩
      have ea := Int.emod_nonneg ((i : Int) - R) nL
      have eb := Int.emod_lt_of_pos ((i : Int) - R) (show (0 : Int) < L by omega)
      have em : ((i : Int) - R) % (L : Int) = (m : Int) := by omega
      have mL : m < L := by omega
      have hb := FH.out.c1.cells m (by rw [BLN.out]; exact mL)
      have fz := FH.out.c1.fz m
      have bk := cellsOk_at (BOK.out i) (k := m) (by rw [BLN.out]; exact mL)
      obtain ⟨bv, hbv⟩ : ∃ bv, (byAt S R L cs i).getD m 0 = bv := ⟨_, rfl⟩
      rw [hbv] at hb bk
      have e3 : (bv + cv).tmod (S : Int) = (bv + cv) % (S : Int) := Int.tmod_eq_emod_of_nonneg (by omega)
      obtain ⟨nv, hnv⟩ : ∃ nv, (bv + cv) % (S : Int) = nv := ⟨_, rfl⟩
      have NB := hide' (show byAt S R L cs (i + 1) = (byAt S R L cs i).set m nv by rw [byAt, hm, hbv, hcv, hnv])
      have nvb : 0 ≤ nv ∧ nv < (S : Int) := by rw [← hnv]; exact ⟨Int.emod_nonneg _ n2, Int.emod_lt_of_pos _ (by omega)⟩
      rw [hnv] at e3
      have NF := hide' (show ∀ q, F1 w1 ((V.drewN q).setCell ⟨w1.heap.size, m, none⟩ (.int .i64 nv)) w1.heap.size (byAt S R L cs (i + 1)) from fun q => by rw [NB.out]; exact (FH.out.drewN q).set m nv (by rw [BLN.out]; exact mL))
      have NF2 := hide' (show F1 w1 (V.setCell ⟨w1.heap.size, m, none⟩ (.int .i64 nv)) w1.heap.size (byAt S R L cs (i + 1)) by rw [NB.out]; exact FH.out.set m nv (by rw [BLN.out]; exact mL))
      obtain ⟨f1, f2⟩ := tmod_fix (x := (i : Int) - R) L0
      rw [em] at f1 f2
      obtain ⟨tm, htm⟩ : ∃ tm, ((i : Int) - R).tmod (L : Int) = tm := ⟨_, rfl⟩
      rw [htm] at f1 f2
      have tb : -1000 < tm ∧ tm < 1000 := by rw [← htm]; have := Int.tmod_lt_of_pos ((i : Int) - R) (show (0 : Int) < L by omega); have : -(L : Int) < ((i : Int) - R).tmod (L : Int) := Int.lt_tmod_of_pos _ (by omega); omega
      clear hcv hbv hnv hm ea eb em
      by_cases dt : tm < 0
      · have e5 := f1 dt
        clear f1 f2
        go_wp2
        skip
        go_region
        go_wp2
        exact ⟨⟨i + 1, by go_num, by omega, by first | exact NF2.out.drew | exact NF2.out | exact NF.out _ | exact NF2.out.drewN _⟩, by simp [intOf]; omega⟩
      · have e5 := f2 dt
        clear f1 f2
        subst e5
        go_wp2
        go_region
        go_wp2
        exact ⟨⟨i + 1, by go_num, by omega, by first | exact NF2.out.drew | exact NF2.out | exact NF.out _ | exact NF2.out.drewN _⟩, by simp [intOf]; omega⟩
    · have iK : i = K := by omega
      subst iK
      have hmk := HMK.out V
      have hcp := copy_run (c := L) (Cel.made V L 3) (by simp) ((AW.out.below FH.out.bl).below ((Below.refl V.heap.size V).alloc (Nat.le_refl _) (.cells (madeCells #[.int .i64 0] L) 3)))
      obtain ⟨U, hU⟩ : ∃ U, (V.alloc (.cells (madeCells #[.int .i64 0] L) 3)).setCells V.heap.size 0 (ws.map fun x => Value.int .i64 x) = U := ⟨_, rfl⟩
      rw [hU] at hcp
      have FO := hide' (show F2 w1 U w1.heap.size V.heap.size (byAt S R L cs i) ws by rw [← hU]; exact FH.out.out 3 WLn.out.symm)
      clear hU
      go_wp2
      clear x0 x1 x2 x3 x4 x5 x6 hmk hcp
      skip
      go_loopw [3, 10, 13] (fun nv bv ov wr => ∃ (m gb go : Nat) (b out : List Int), nv = .int .i64 (m : Int) ∧ bv = .slice (some ⟨gb, 0, none⟩) L L ∧ ov = .slice (some ⟨go, 0, none⟩) L L ∧ m ≤ 1000000000000000000 ∧ F2 w1 wr gb go b out ∧ Hid (FarInv S L Z m b out)) (fun nv _ _ _ => (intOf nv).toNat)
      case atStart => exact ⟨n0, w1.heap.size, V.heap.size, _, _, rfl, rfl, rfl, hn, FO.out, START⟩
      case round =>
        obtain ⟨m, gb, go, b, out, rfl, rfl, rfl, hm, HF, INV⟩ := hrel
        have F0 := hide' HF
        obtain ⟨M, hM⟩ : ∃ M, M = wr := ⟨_, rfl⟩
        subst hM
        clear HF
        by_cases d : (0 : Int) < (m : Int)
        · have hmk := HMK.out M
          obtain ⟨h, hh⟩ : ∃ h, m / 2 = h := ⟨_, rfl⟩
          have e6 : (m : Int).tdiv 2 = (h : Int) := by rw [Int.tdiv_eq_ediv_of_nonneg (by omega), ← hh]; simp
          have hl : h < m := by omega
          have BL := hide' INV.out.1
          have BO := hide' INV.out.2.1
          by_cases r : m % 2 = 1
          · have e2 : (m : Int).tmod 2 = 1 := by rw [Int.tmod_eq_emod_of_nonneg (by omega)]; omega
            have OL := hide' INV.out.2.2.1
            have OO := hide' INV.out.2.2.2.1
            have INV2 := hide' (show FarInv S L Z (2 * h) b (nextAt S L b out (L * L)) from FarInv.odd (by omega) L0 (show FarInv S L Z (2 * h + 1) b out by rw [show 2 * h + 1 = m by omega]; exact INV.out))
            clear hh r
            go_wp2
            skip
            clear hmk
            have F3S := hide' (F0.out.make L 3)
            go_loopw [15] (fun jv wr => ∃ j : Nat, jv = .int .i64 (j : Int) ∧ j ≤ L ∧ F3 w1 wr gb go M.heap.size b out (nextAt S L b out (j * L))) (fun jv _ => L - (intOf jv).toNat)
            case atStart => exact ⟨0, rfl, by omega, by rw [Nat.zero_mul]; exact F3S.out⟩
            case round =>
              obtain ⟨j, rfl, hj, HT⟩ := hrel
              have FT := hide' HT
              obtain ⟨A1, hA⟩ : ∃ A, A = wr := ⟨_, rfl⟩
              subst hA
              clear HT
              by_cases dj : (j : Int) < (L : Int)
              · go_wp2
                go_loopw [16] (fun kv wr => ∃ k : Nat, kv = .int .i64 (k : Int) ∧ k ≤ L ∧ F3 w1 wr gb go M.heap.size b out (nextAt S L b out (j * L + k))) (fun kv _ => L - (intOf kv).toNat)
                case atStart => exact ⟨0, rfl, by omega, FT.out⟩
                case round =>
                  obtain ⟨k, rfl, hk, HU⟩ := hrel
                  have FU := hide' HU
                  obtain ⟨D, hD⟩ : ∃ D, D = wr := ⟨_, rfl⟩
                  subst hD
                  clear HU
                  obtain ⟨x0, x1, x2, x3, x4, x5, x6⟩ := RX.out.next FU.out.f2.bl
                  by_cases dk : (k : Int) < (L : Int)
                  · obtain ⟨mm, hmm⟩ : ∃ mm, (j + k) % L = mm := ⟨_, rfl⟩
                    have mL : mm < L := by rw [← hmm]; exact Nat.mod_lt _ L0
                    have e4 := add_tmod j k L
                    rw [hmm] at e4
                    have tl := nextAt_length S L b out (j * L + k)
                    have h1 := FU.out.c3.cells j (by rw [tl]; omega)
                    have fz := FU.out.c3.fz j
                    have h2 := FU.out.f2.c1.cells k (by rw [BL.out]; omega)
                    have h3 := FU.out.f2.c2.cells mm (by rw [OL.out]; omega)
                    have b1 := cellsOk_at (nextAt_ok (S := S) (L := L) (b := b) (out := out) (by omega) (j * L + k)) (k := j) (by rw [tl]; omega)
                    have b2 := cellsOk_at BO.out (k := k) (by rw [BL.out]; omega)
                    have b3 := cellsOk_at OO.out (k := mm) (by rw [OL.out]; omega)
                    obtain ⟨v1, g1⟩ : ∃ v1, (nextAt S L b out (j * L + k)).getD j 0 = v1 := ⟨_, rfl⟩
                    obtain ⟨v2, g2⟩ : ∃ v2, b.getD k 0 = v2 := ⟨_, rfl⟩
                    obtain ⟨v3, g3⟩ : ∃ v3, out.getD mm 0 = v3 := ⟨_, rfl⟩
                    rw [g1] at h1 b1
                    rw [g2] at h2 b2
                    rw [g3] at h3 b3
                    have p9 := mul9 b2.1 (by omega) b3.1 (by omega)
                    obtain ⟨pr, hpr⟩ : ∃ pr, v2 * v3 = pr := ⟨_, rfl⟩
                    rw [hpr] at p9
                    have e3 : (v1 + pr).tmod (S : Int) = (v1 + pr) % (S : Int) := Int.tmod_eq_emod_of_nonneg (by omega)
                    obtain ⟨vv, hvv⟩ : ∃ vv, (v1 + pr) % (S : Int) = vv := ⟨_, rfl⟩
                    have NB := hide' (show nextAt S L b out (j * L + (k + 1)) = (nextAt S L b out (j * L + k)).set j vv by rw [← Nat.add_assoc, nextAt, pair_div (by omega), pair_mod (by omega), hmm, g1, g2, g3, hpr, hvv])
                    have vb : 0 ≤ vv ∧ vv < (S : Int) := by rw [← hvv]; exact ⟨Int.emod_nonneg _ n2, Int.emod_lt_of_pos _ (by omega)⟩
                    rw [hvv] at e3
                    have NF := hide' (show F3 w1 (D.setCell ⟨M.heap.size, j, none⟩ (.int .i64 vv)) gb go M.heap.size b out (nextAt S L b out (j * L + (k + 1))) by rw [NB.out]; exact FU.out.set j vv (by rw [tl]; omega))
                    clear g1 g2 g3 hvv hmm tl
                    go_wp2
                    go_region
                    go_wp2
                    exact ⟨⟨k + 1, by go_num, by omega, NF.out.drew⟩, by simp [intOf]; omega⟩
                  · have kL : k = L := by omega
                    have NJ := hide' (show F3 w1 D gb go M.heap.size b out (nextAt S L b out ((j + 1) * L)) by have := FU.out; rw [kL] at this; rw [Nat.add_mul, Nat.one_mul]; exact this)
                    clear kL
                    go_wp2
                    exact ⟨⟨j + 1, by go_num, by omega, NJ.out⟩, by simp [intOf]; omega⟩
              · have jL : j = L := by omega
                obtain ⟨out2, ho2⟩ : ∃ out2, nextAt S L b out (L * L) = out2 := ⟨_, rfl⟩
                have FN := hide' (show F2 w1 A1 gb M.heap.size b out2 from ⟨FT.out.f2.bl, FT.out.f2.c1, by have := FT.out.c3; rw [jL, ho2] at this; exact this, FT.out.f2.l1, FT.out.l3⟩)
                rw [ho2] at INV2
                clear jL ho2
                have hmk := HMK.out A1
                go_wp2
                skip
                clear hmk
                have F3T := hide' (FN.out.make L 3)
                go_loopw [18] (fun jv wr => ∃ j : Nat, jv = .int .i64 (j : Int) ∧ j ≤ L ∧ F3 w1 wr gb M.heap.size A1.heap.size b out2 (twiceAt S L b (j * L))) (fun jv _ => L - (intOf jv).toNat)
                case atStart => exact ⟨0, rfl, by omega, by rw [Nat.zero_mul]; exact F3T.out⟩
                case round =>
                  obtain ⟨j, rfl, hj, HT⟩ := hrel
                  have FT := hide' HT
                  obtain ⟨A, hA⟩ : ∃ A, A = wr := ⟨_, rfl⟩
                  subst hA
                  clear HT
                  by_cases dj : (j : Int) < (L : Int)
                  · go_wp2
                    go_loopw [19] (fun kv wr => ∃ k : Nat, kv = .int .i64 (k : Int) ∧ k ≤ L ∧ F3 w1 wr gb M.heap.size A1.heap.size b out2 (twiceAt S L b (j * L + k))) (fun kv _ => L - (intOf kv).toNat)
                    case atStart => exact ⟨0, rfl, by omega, FT.out⟩
                    case round =>
                      obtain ⟨k, rfl, hk, HU⟩ := hrel
                      have FU := hide' HU
                      obtain ⟨D, hD⟩ : ∃ D, D = wr := ⟨_, rfl⟩
                      subst hD
                      clear HU
                      obtain ⟨x0, x1, x2, x3, x4, x5, x6⟩ := RX.out.next FU.out.f2.bl
                      by_cases dk : (k : Int) < (L : Int)
                      · obtain ⟨mm, hmm⟩ : ∃ mm, (j + k) % L = mm := ⟨_, rfl⟩
                        have mL : mm < L := by rw [← hmm]; exact Nat.mod_lt _ L0
                        have e4 := add_tmod j k L
                        rw [hmm] at e4
                        have tl := twiceAt_length S L b (j * L + k)
                        have h1 := FU.out.c3.cells mm (by rw [tl]; exact mL)
                        have fz := FU.out.c3.fz mm
                        have h2 := FU.out.f2.c1.cells j (by rw [BL.out]; omega)
                        have h3 := FU.out.f2.c1.cells k (by rw [BL.out]; omega)
                        have b1 := cellsOk_at (twiceAt_ok (S := S) (L := L) (b := b) (by omega) (j * L + k)) (k := mm) (by rw [tl]; exact mL)
                        have b2 := cellsOk_at BO.out (k := j) (by rw [BL.out]; omega)
                        have b3 := cellsOk_at BO.out (k := k) (by rw [BL.out]; omega)
                        obtain ⟨v1, g1⟩ : ∃ v1, (twiceAt S L b (j * L + k)).getD mm 0 = v1 := ⟨_, rfl⟩
                        obtain ⟨v2, g2⟩ : ∃ v2, b.getD j 0 = v2 := ⟨_, rfl⟩
                        obtain ⟨v3, g3⟩ : ∃ v3, b.getD k 0 = v3 := ⟨_, rfl⟩
                        rw [g1] at h1 b1
                        rw [g2] at h2 b2
                        rw [g3] at h3 b3
                        have p9 := mul9 b2.1 (by omega) b3.1 (by omega)
                        obtain ⟨pr, hpr⟩ : ∃ pr, v2 * v3 = pr := ⟨_, rfl⟩
                        rw [hpr] at p9
                        have e3 : (v1 + pr).tmod (S : Int) = (v1 + pr) % (S : Int) := Int.tmod_eq_emod_of_nonneg (by omega)
                        obtain ⟨vv, hvv⟩ : ∃ vv, (v1 + pr) % (S : Int) = vv := ⟨_, rfl⟩
                        have NB := hide' (show twiceAt S L b (j * L + (k + 1)) = (twiceAt S L b (j * L + k)).set mm vv by rw [← Nat.add_assoc, twiceAt, pair_div (by omega), pair_mod (by omega), hmm, g1, g2, g3, hpr, hvv])
                        have vb : 0 ≤ vv ∧ vv < (S : Int) := by rw [← hvv]; exact ⟨Int.emod_nonneg _ n2, Int.emod_lt_of_pos _ (by omega)⟩
                        rw [hvv] at e3
                        have NF := hide' (show F3 w1 (D.setCell ⟨A1.heap.size, mm, none⟩ (.int .i64 vv)) gb M.heap.size A1.heap.size b out2 (twiceAt S L b (j * L + (k + 1))) by rw [NB.out]; exact FU.out.set mm vv (by rw [tl]; exact mL))
                        clear g1 g2 g3 hvv hmm tl
                        go_wp2
                        go_region
                        go_wp2
                        exact ⟨⟨k + 1, by go_num, by omega, NF.out.drew⟩, by simp [intOf]; omega⟩
                      · have kL : k = L := by omega
                        have NJ := hide' (show F3 w1 D gb M.heap.size A1.heap.size b out2 (twiceAt S L b ((j + 1) * L)) by have := FU.out; rw [kL] at this; rw [Nat.add_mul, Nat.one_mul]; exact this)
                        clear kL
                        go_wp2
                        exact ⟨⟨j + 1, by go_num, by omega, NJ.out⟩, by simp [intOf]; omega⟩
                  · have jL : j = L := by omega
                    have NI := hide' (show FarInv S L Z h (twiceAt S L b (L * L)) out2 from FarInv.even (by omega) L0 INV2.out)
                    have NF := hide' (show F2 w1 A A1.heap.size M.heap.size (twiceAt S L b (L * L)) out2 from ⟨FT.out.f2.bl, by have := FT.out.c3; rw [jL] at this; exact this, FT.out.f2.c2, FT.out.l3, FT.out.f2.l2⟩)
                    clear jL
                    go_wp2
                    exact ⟨⟨h, A1.heap.size, M.heap.size, twiceAt S L b (L * L), out2, rfl, rfl, rfl, by omega, NF.out, NI⟩, by simp [intOf]; omega⟩
          · have e2 : (m : Int).tmod 2 = 0 := by rw [Int.tmod_eq_emod_of_nonneg (by omega)]; omega
            have INV2 := hide' (show FarInv S L Z (2 * h) b out by rw [show 2 * h = m by omega]; exact INV.out)
            clear hh r
            go_wp2
            skip
            clear hmk
            have F3T := hide' (F0.out.make L 3)
            go_loopw [18] (fun jv wr => ∃ j : Nat, jv = .int .i64 (j : Int) ∧ j ≤ L ∧ F3 w1 wr gb go M.heap.size b out (twiceAt S L b (j * L))) (fun jv _ => L - (intOf jv).toNat)
            case atStart => exact ⟨0, rfl, by omega, by rw [Nat.zero_mul]; exact F3T.out⟩
            case round =>
              obtain ⟨j, rfl, hj, HT⟩ := hrel
              have FT := hide' HT
              obtain ⟨A, hA⟩ : ∃ A, A = wr := ⟨_, rfl⟩
              subst hA
              clear HT
              by_cases dj : (j : Int) < (L : Int)
              · go_wp2
                go_loopw [19] (fun kv wr => ∃ k : Nat, kv = .int .i64 (k : Int) ∧ k ≤ L ∧ F3 w1 wr gb go M.heap.size b out (twiceAt S L b (j * L + k))) (fun kv _ => L - (intOf kv).toNat)
                case atStart => exact ⟨0, rfl, by omega, FT.out⟩
                case round =>
                  obtain ⟨k, rfl, hk, HU⟩ := hrel
                  have FU := hide' HU
                  obtain ⟨D, hD⟩ : ∃ D, D = wr := ⟨_, rfl⟩
                  subst hD
                  clear HU
                  obtain ⟨x0, x1, x2, x3, x4, x5, x6⟩ := RX.out.next FU.out.f2.bl
                  by_cases dk : (k : Int) < (L : Int)
                  · obtain ⟨mm, hmm⟩ : ∃ mm, (j + k) % L = mm := ⟨_, rfl⟩
                    have mL : mm < L := by rw [← hmm]; exact Nat.mod_lt _ L0
                    have e4 := add_tmod j k L
                    rw [hmm] at e4
                    have tl := twiceAt_length S L b (j * L + k)
                    have h1 := FU.out.c3.cells mm (by rw [tl]; exact mL)
                    have fz := FU.out.c3.fz mm
                    have h2 := FU.out.f2.c1.cells j (by rw [BL.out]; omega)
                    have h3 := FU.out.f2.c1.cells k (by rw [BL.out]; omega)
                    have b1 := cellsOk_at (twiceAt_ok (S := S) (L := L) (b := b) (by omega) (j * L + k)) (k := mm) (by rw [tl]; exact mL)
                    have b2 := cellsOk_at BO.out (k := j) (by rw [BL.out]; omega)
                    have b3 := cellsOk_at BO.out (k := k) (by rw [BL.out]; omega)
                    obtain ⟨v1, g1⟩ : ∃ v1, (twiceAt S L b (j * L + k)).getD mm 0 = v1 := ⟨_, rfl⟩
                    obtain ⟨v2, g2⟩ : ∃ v2, b.getD j 0 = v2 := ⟨_, rfl⟩
                    obtain ⟨v3, g3⟩ : ∃ v3, b.getD k 0 = v3 := ⟨_, rfl⟩
                    rw [g1] at h1 b1
                    rw [g2] at h2 b2
                    rw [g3] at h3 b3
                    have p9 := mul9 b2.1 (by omega) b3.1 (by omega)
                    obtain ⟨pr, hpr⟩ : ∃ pr, v2 * v3 = pr := ⟨_, rfl⟩
                    rw [hpr] at p9
                    have e3 : (v1 + pr).tmod (S : Int) = (v1 + pr) % (S : Int) := Int.tmod_eq_emod_of_nonneg (by omega)
                    obtain ⟨vv, hvv⟩ : ∃ vv, (v1 + pr) % (S : Int) = vv := ⟨_, rfl⟩
                    have NB := hide' (show twiceAt S L b (j * L + (k + 1)) = (twiceAt S L b (j * L + k)).set mm vv by rw [← Nat.add_assoc, twiceAt, pair_div (by omega), pair_mod (by omega), hmm, g1, g2, g3, hpr, hvv])
                    have vb : 0 ≤ vv ∧ vv < (S : Int) := by rw [← hvv]; exact ⟨Int.emod_nonneg _ n2, Int.emod_lt_of_pos _ (by omega)⟩
                    rw [hvv] at e3
                    have NF := hide' (show F3 w1 (D.setCell ⟨M.heap.size, mm, none⟩ (.int .i64 vv)) gb go M.heap.size b out (twiceAt S L b (j * L + (k + 1))) by rw [NB.out]; exact FU.out.set mm vv (by rw [tl]; exact mL))
                    clear g1 g2 g3 hvv hmm tl
                    go_wp2
                    go_region
                    go_wp2
                    exact ⟨⟨k + 1, by go_num, by omega, NF.out.drew⟩, by simp [intOf]; omega⟩
                  · have kL : k = L := by omega
                    have NJ := hide' (show F3 w1 D gb go M.heap.size b out (twiceAt S L b ((j + 1) * L)) by have := FU.out; rw [kL] at this; rw [Nat.add_mul, Nat.one_mul]; exact this)
                    clear kL
                    go_wp2
                    exact ⟨⟨j + 1, by go_num, by omega, NJ.out⟩, by simp [intOf]; omega⟩
              · have jL : j = L := by omega
                have NI := hide' (show FarInv S L Z h (twiceAt S L b (L * L)) out from FarInv.even (by omega) L0 INV2.out)
                have NF := hide' (show F2 w1 A M.heap.size go (twiceAt S L b (L * L)) out from ⟨FT.out.f2.bl, by have := FT.out.c3; rw [jL] at this; exact this, FT.out.f2.c2, FT.out.l3, FT.out.f2.l2⟩)
                clear jL
                go_wp2
                exact ⟨⟨h, M.heap.size, go, twiceAt S L b (L * L), out, rfl, rfl, rfl, by omega, NF.out, NI⟩, by simp [intOf]; omega⟩
        · have m0 : m = 0 := by omega
          subst m0
          have OZ := hide' (FarInv.fin ZOK.out.1 ZOK.out.2 INV.out)
          go_wp2
          rw [← HPP.out]
          refine ⟨⟨go, rfl, ?_⟩, BB.out.trans (F0.out.bl.mono BB.out.size)⟩
          rw [← OZ.out]
          exact F0.out.c2
end Go.Proofs.YtjjdjdodhedihaaDoor

