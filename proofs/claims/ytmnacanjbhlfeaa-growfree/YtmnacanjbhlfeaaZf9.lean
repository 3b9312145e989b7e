/-
  What the last text of this claim leans on, part 9: Gz5, Gz6.
-/
import Derived.Test.YtmnacanjbhlfeaaZf8
namespace Go.Proofs.Ytmnacanjbhlfeaa
open Go.RowKit
set_option linter.unusedVariables false
set_option linter.unusedSimpArgs false
set_option maxRecDepth 100000 in
set_option maxHeartbeats 25600000 in
theorem sizesBehind_any (xs : List (List UInt8)) (a : Option Addr) (k c m : Nat) (w : World) (hA : ArgX w xs a k c) (ok : imF xs = 0) (hm : m ≤ 60) :
    Calls Try.prog 17 #[.slice a k c, .int .i64 (m : Int)] w fun e w' => e = .returned (.slice (some ⟨w.heap.size, 0, none⟩) (m + 1) (m + 1)) ∧ SzS w w' ((m + 1) * 8) (szA xs) := by
  have IK := imF_ok ok
  have KL := hA.len
  rw [← KL] at IK
  obtain ⟨k1, k8, OK⟩ := IK
  have HA := hide' hA
  have TG := hide' (fun r i (h : i < k) (V : World) => together_any (szV xs r) (xs.getD i []) k V (fun x => szV_le xs r x) k8 (OK i h).2 (by have := (OK i h).1; omega))
  have NX := hide' (fun r i (h : i < k) => szV_next (xs := xs) (fun j hj => by rw [← KL] at hj ⊢; exact (OK j hj).2) r (i := i) (by rw [← KL]; exact h))
  have KLH := hide' KL
  have FI := hide' (fun j => szP_first xs (by omega) j)
  have OV := hide' (fun r j => szP_over xs r j)
  rw [← KL] at FI OV
  clear hA ok OK KL
  obtain ⟨M, hM⟩ : ∃ M, m + 1 = M := ⟨_, rfl⟩
  have eM : (m : Int) + 1 = (M : Int) := by omega
  have mk := make_per M (by omega) w
  obtain ⟨w1, hw1⟩ : ∃ w1, w.alloc (.cells (arrF (M * 8) (uF fun _ => 0)) 40) = w1 := ⟨_, rfl⟩
  rw [hw1] at mk
  have X0 := hide' (show SzS w w1 (M * 8) (fun _ => 0) from ⟨by rw [← hw1]; exact (Below.refl _ _).alloc (Nat.le_refl _) _, by rw [← hw1]; exact heap_alloc_new _ _⟩)
  clear hw1
  rw [hM]
  go_enter Try.func17, Try.ntmps17
  go_wp2
  clear mk
  go_loopw [6, 15] (fun _ iv wr => ∃ i : Nat, iv = .int .i64 (i : Int) ∧ i ≤ k ∧ Hid (SzS w wr (M * 8) (fun j => if j < i then 1 else 0))) (fun _ iv _ => k - (intOf iv).toNat)
  case atStart => exact ⟨0, rfl, by omega, hide' (X0.out.ext (fun j => by rw [if_neg (by omega)]))⟩
  case round =>
    obtain ⟨i, rfl, hi, H⟩ := hrel
    by_cases d : (i : Int) < (k : Int)
    · have i0 : (0 : Int) ≤ (i : Int) := by omega
      have i8 : (i : Int) < 8 := by omega
      have M0 : (0 : Int) < (M : Int) := by omega
      have c0 := H.out.cell (show i < M * 8 by omega)
      have f0 := frozen_of_row wr _ i _ _ H.out.row
      have NS := hide' ((H.out.set i 1).ext (G := fun j => if j < i + 1 then 1 else 0) (fun j => by
        by_cases e : j = i
        · rw [if_pos e, if_pos (by omega)]
        · rw [if_neg e]
          by_cases q : j < i
          · rw [if_pos q, if_pos (by omega)]
          · rw [if_neg q, if_neg (by omega)]))
      go_wp2
      exact ⟨⟨i + 1, by go_num, by omega, NS⟩, by simp [intOf]; omega⟩
    · obtain rfl : i = k := by omega
      have X1 := hide' (H.out.ext (G := szP xs 0 0) FI.out)
      clear H d
      go_wp2
      go_loopw [7, 8, 9, 24] (fun _ _ _ rv wr => ∃ r : Nat, rv = .int .i64 (r : Int) ∧ r ≤ m ∧ Hid (SzS w wr (M * 8) (szP xs r 0))) (fun _ _ _ rv _ => m - (intOf rv).toNat)
      case atStart => exact ⟨0, rfl, by omega, X1⟩
      case round =>
        obtain ⟨r, rfl, hr, H⟩ := hrel
        by_cases d : (r : Int) < (m : Int)
        · go_wp2
          obtain ⟨VV, rfl⟩ : ∃ VV, VV = wr := ⟨_, rfl⟩
          go_loopw [8, 9, 29] (fun _ _ iv wr => ∃ j : Nat, iv = .int .i64 (j : Int) ∧ j ≤ i ∧ Hid (SzS w wr (M * 8) (szP xs r j))) (fun _ _ iv _ => i - (intOf iv).toNat)
          case atStart => exact ⟨0, rfl, by omega, H⟩
          case round =>
            obtain ⟨j, rfl, hj, K⟩ := hrel
            by_cases e : (j : Int) < (i : Int)
            · have j0 : (0 : Int) ≤ (j : Int) := by omega
              have j8 : (j : Int) < 8 := by omega
              have r0 : (0 : Int) ≤ (r : Int) := by omega
              have rM : (r : Int) < (M : Int) := by omega
              obtain ⟨R, hR⟩ : ∃ R, r + 1 = R := ⟨_, rfl⟩
              have eR : (r : Int) + 1 = (R : Int) := by omega
              have R0 : (0 : Int) ≤ (R : Int) := by omega
              have wR := wrap_natP R (by omega)
              have RM : (R : Int) < (M : Int) := by omega
              obtain ⟨g, off, ea, -, hc⟩ := (HA.out.below K.out.below).cells j (by rw [← KLH.out]; omega)
              subst ea
              have TC := hide' (TG.out r j (by omega))
              rw [NX.out r j (by omega), hR, show arrF 8 (uF (szV xs r)) = #[.int .u64 ((szV xs r 0 : Nat) : Int), .int .u64 ((szV xs r 1 : Nat) : Int), .int .u64 ((szV xs r 2 : Nat) : Int), .int .u64 ((szV xs r 3 : Nat) : Int), .int .u64 ((szV xs r 4 : Nat) : Int), .int .u64 ((szV xs r 5 : Nat) : Int), .int .u64 ((szV xs r 6 : Nat) : Int), .int .u64 ((szV xs r 7 : Nat) : Int)] from rfl] at TC
              obtain ⟨x, hx⟩ : ∃ x, xs.getD j [] = x := ⟨_, rfl⟩
              rw [hx] at hc TC
              have cc : ∀ y, y < 8 → wr.cell? ⟨w.heap.size, r * 8 + y, none⟩ = some (.int .u64 ((szV xs r y : Nat) : Int)) := fun y hy => by rw [K.out.cell (by omega), szP_row xs r j y hy]
              have d0 := cc 0 (by omega)
              have d1 := cc 1 (by omega)
              have d2 := cc 2 (by omega)
              have d3 := cc 3 (by omega)
              have d4 := cc 4 (by omega)
              have d5 := cc 5 (by omega)
              have d6 := cc 6 (by omega)
              have d7 := cc 7 (by omega)
              rw [Nat.add_zero] at d0
              have KC := hide' (fun (V : World) (h : Below wr.heap.size wr V) => (K.out.keep h).cell (show R * 8 + j < M * 8 by omega))
              have KF := hide' (fun (V : World) (h : Below wr.heap.size wr V) => frozen_of_row V _ (R * 8 + j) _ _ (K.out.keep h).row)
              have KN := hide' (fun (V : World) (h : Below wr.heap.size wr V) => ((K.out.keep h).set (R * 8 + j) (szV xs R j)).ext (G := szP xs r (j + 1)) (fun t => by rw [← hR]; exact szP_put xs r j t (by omega)))
              clear hx cc K
              go_wp2
              go_region_with (go_at_call 18; refine (TC.out _).mono ?_; rintro o w4 ⟨rfl, b4⟩; have B4 := hide' (show Below wr.heap.size wr w4 from (below_drewN (Below.refl _ _) 1).trans b4); have c9 := KC.out w4 B4.out; have f9 := KF.out w4 B4.out)
              all_goals go_wp2
              all_goals exact ⟨⟨j + 1, by go_num, by omega, hide' (KN.out _ B4.out)⟩, by simp [intOf]; omega⟩
            · obtain rfl : j = i := by omega
              have KO := hide' (K.out.ext (G := szP xs (r + 1) 0) (fun t => OV.out r t))
              clear K
              go_wp2
              exact ⟨⟨r + 1, by go_num, by omega, KO⟩, by simp [intOf]; omega⟩
        · obtain rfl : r = m := by omega
          have E := hide' (show SzS w wr (M * 8) (szA xs) from ⟨H.out.below, by
            rw [H.out.row, arrF_ext (n := M * 8) (f := uF (szP xs r 0)) (g := uF (szA xs)) (fun j hj => by unfold uF szP; rw [if_pos (Or.inl (by omega))])]⟩)
          go_wp2
          go_ret
          exact ⟨rfl, E.out⟩
end Go.Proofs.Ytmnacanjbhlfeaa

namespace Go.Proofs.Ytmnacanjbhlfeaa
open Go.RowKit
set_option linter.unusedVariables false
set_option linter.unusedSimpArgs false
/-- Where a letter of the word behind r rounds stands. -/
theorem it_at {xs : List (List UInt8)} {r : Nat} {l : List UInt8} {i t : Nat} (hi : i < l.length) (h1 : smW (szT xs r) (l.take i) ≤ t) (h2 : t - smW (szT xs r) (l.take i) < szT xs r ((l.getD i 0).toNat - 97)) :
    (itW xs r l).getD t 0 = (itW xs r [l.getD i 0]).getD (t - smW (szT xs r) (l.take i)) 0 := by
  have e : l = l.take i ++ ([l.getD i 0] ++ l.drop (i + 1)) := by
    rw [List.getD, List.getElem?_eq_getElem hi]
    simp
  have a1 := itW_len xs r (l.take i)
  have a2 : (itW xs r [l.getD i 0]).length = szT xs r ((l.getD i 0).toNat - 97) := by rw [itW_len, smW_cons, smW_nil]; rfl
  have e2 : itW xs r l = itW xs r (l.take i) ++ (itW xs r [l.getD i 0] ++ itW xs r (l.drop (i + 1))) := by
    rw [← itW_append, ← itW_append, ← e]
  obtain ⟨ch, hch⟩ : ∃ ch, l.getD i 0 = ch := ⟨_, rfl⟩
  rw [hch] at a2 e2 h2 ⊢
  rw [e2, List.getD, List.getD, List.getElem?_append_right (by omega), a1, List.getElem?_append_left (by omega)]
theorem rune_text (x : Nat) (c : UInt8) (hc : c.toNat = x) (h1 : 97 ≤ x) (h2 : x < 105) (w : World) : (convert 21 9 (.int .i32 (x : Int))).run Try.prog w = .ok (.string ⟨#[c]⟩) w := by
  have e : c = x.toUInt8 := by
    apply UInt8.toNat_inj.1
    rw [hc]
    simp
    omega
  subst e
  obtain ⟨y, rfl⟩ : ∃ y, x = y + 97 := ⟨x - 97, by omega⟩
  have y8 : y < 8 := by omega
  clear h1 h2 hc
  match y, y8 with
  | 0, _ => exact (show (convert 21 9 (.int .i32 97)).run Try.prog w = .ok (.string ⟨#[97]⟩) w by kernel_rfl)
  | 1, _ => exact (show (convert 21 9 (.int .i32 98)).run Try.prog w = .ok (.string ⟨#[98]⟩) w by kernel_rfl)
  | 2, _ => exact (show (convert 21 9 (.int .i32 99)).run Try.prog w = .ok (.string ⟨#[99]⟩) w by kernel_rfl)
  | 3, _ => exact (show (convert 21 9 (.int .i32 100)).run Try.prog w = .ok (.string ⟨#[100]⟩) w by kernel_rfl)
  | 4, _ => exact (show (convert 21 9 (.int .i32 101)).run Try.prog w = .ok (.string ⟨#[101]⟩) w by kernel_rfl)
  | 5, _ => exact (show (convert 21 9 (.int .i32 102)).run Try.prog w = .ok (.string ⟨#[102]⟩) w by kernel_rfl)
  | 6, _ => exact (show (convert 21 9 (.int .i32 103)).run Try.prog w = .ok (.string ⟨#[103]⟩) w by kernel_rfl)
  | 7, _ => exact (show (convert 21 9 (.int .i32 104)).run Try.prog w = .ok (.string ⟨#[104]⟩) w by kernel_rfl)
/-- Sizes as they are read. -/
def LkS (w : World) (xs : List (List UInt8)) (g r : Nat) : Prop := g < w.heap.size ∧ ∀ q y, q ≤ r → y < 8 → w.cell? ⟨g, q * 8 + y, none⟩ = some (.int .u64 ((szV xs q y : Nat) : Int))
theorem LkS.below {w V : World} {xs : List (List UInt8)} {g r : Nat} (h : LkS w xs g r) (b : Below w.heap.size w V) : LkS V xs g r :=
  ⟨Nat.lt_of_lt_of_le h.1 b.size, fun q y hq hy => (b.cell h.1).trans (h.2 q y hq hy)⟩
theorem LkS.less {w : World} {xs : List (List UInt8)} {g r : Nat} (h : LkS w xs g (r + 1)) : LkS w xs g r := ⟨h.1, fun q y hq hy => h.2 q y (by omega) hy⟩
/-- What lies there while letters are passed by. -/
structure LoS (w wr : World) (l : List UInt8) (i : Nat) : Prop where
  below : Below w.heap.size w wr
  it : wr.heap[w.heap.size]? = some (.stringIter ⟨l.toArray⟩ i)
theorem LoS.turn {w wr : World} {l : List UInt8} {i : Nat} (h : LoS w wr l i) (p : Nat) : LoS w (wr.iterAt w.heap.size ⟨l.toArray⟩ p) l p := ⟨Lib.below_iterAt h.below (Nat.le_refl _) _ _, Lib.iterAt_heap _ _ _ _ _ h.it⟩
theorem LoS.keep {w wr V : World} {l : List UInt8} {i : Nat} (h : LoS w wr l i) (b : Below wr.heap.size wr V) : LoS w V l i := ⟨h.below.trans (b.mono h.below.size), (b.block _ (lt_of_block h.it)).trans h.it⟩
/-- What look does, r rounds behind. -/
def LookP (xs : List (List UInt8)) (a : Option Addr) (k c g cap r : Nat) : Prop := ∀ (l : List UInt8) (t : Nat) (w : World), ArgX w xs a k c → l.all (ltB k) = true → l.length ≤ 40000 → LkS w xs g r → t < (itW xs r l).length → t < 9223372036854775808 →
  Calls Try.prog 19 #[.slice a k c, .string ⟨l.toArray⟩, .slice (some ⟨g, 0, none⟩) (r + 1) cap, .int .u64 (t : Int)] w fun e w' => e = .returned (.string ⟨#[(itW xs r l).getD t 0]⟩) ∧ Below w.heap.size w w'
set_option maxRecDepth 100000 in
set_option maxHeartbeats 25600000 in
theorem look_step (xs : List (List UInt8)) (a : Option Addr) (k c g cap r : Nat) (ok : imF xs = 0) (hk : k = xs.length) (hr : r < cap) (hcap : cap ≤ 100) (IH : ∀ r', r = r' + 1 → LookP xs a k c g cap r') : LookP xs a k c g cap r := by
  intro l t w hA hlt hl hL ht ht63
  have IK := imF_ok ok
  rw [← hk] at IK
  obtain ⟨k1, k8, OK⟩ := IK
  have HA := hide' hA
  have HLK := hide' hL
  have HK := hide' hk
  have O12 := hide' OK
  have NM := hide' (fun (x : Nat) (V : World) (h : 97 ≤ x) (hx : x ≤ 2147483647) => numberOf_any x V h hx)
  have AL := hide' (fun j (hj : j < l.length) => ltB_at hlt hj)
  have SN := hide' (fun i (hi : i < l.length) => smW_next (szT xs r) hi)
  have IA := hide' (fun i (hi : i < l.length) (h1 : smW (szT xs r) (l.take i) ≤ t) h2 => it_at (xs := xs) (r := r) (t := t) hi h1 h2)
  have EN := hide' (show t < smW (szT xs r) l by rw [← itW_len]; exact ht)
  have IHH := hide' IH
  obtain ⟨A, hAn⟩ : ∃ A, (itW xs r l).getD t 0 = A := ⟨_, rfl⟩
  simp only [hAn] at IA
  rw [hAn]
  clear hA hL hlt ht hAn ok OK hk IH
  obtain ⟨R, hR⟩ : ∃ R, r + 1 = R := ⟨_, rfl⟩
  rw [hR]
  have eR : (R : Int) - 1 = (r : Int) := by omega
  obtain ⟨w1, hw1⟩ : ∃ w1, w.iter ⟨l.toArray⟩ 0 = w1 := ⟨_, rfl⟩
  have X0 := hide' (show LoS w w1 l 0 from ⟨by rw [← hw1]; exact (Below.refl _ _).alloc (Nat.le_refl _) _, by rw [← hw1]; exact World.iter_heap w _ 0⟩)
  go_enter Try.func19, Try.ntmps19
  go_wp2
  try rw [hw1]
  clear hw1
  go_loopw [3, 11, 12, 39, 46] (fun tv _ _ _ _ wr => ∃ i u : Nat, tv = .int .u64 (u : Int) ∧ i ≤ l.length ∧ Hid (smW (szT xs r) (l.take i) + u = t) ∧ Hid (LoS w wr l i)) (fun _ _ _ _ _ wr => l.length - wr.iterPos w.heap.size)
  case atStart => exact ⟨0, t, rfl, by omega, hide' (by simp [smW]), X0⟩
  case round =>
    obtain ⟨i, u, rfl, hi, HB, HS⟩ := hrel
    have hit := HS.out.it
    rw [iterPos_of hit]
    by_cases d : i < l.length
    · obtain ⟨gi, GI⟩ := byte_at l d
      have rg := AL.out i d
      have hnx : ∀ ty, (Instr.next (.pointer (some ⟨w.heap.size, 0, none⟩)) true ty).run Try.prog wr = _ := fun ty => Lib.run_next_ascii_at wr w.heap.size _ i ty hit gi (by rw [GI]; omega)
      rw [GI] at hnx
      have SNX := hide' (SN.out i d)
      have hb := HB.out
      have IAX := hide' (fun (h2 : u < szT xs r ((l.getD i 0).toNat - 97)) => show A = (itW xs r [l.getD i 0]).getD u 0 by
        have := IA.out i d (by omega) (by rw [show t - smW (szT xs r) (l.take i) = u by omega]; exact h2)
        rw [show t - smW (szT xs r) (l.take i) = u by omega] at this
        exact this)
      have I1 := hide' (fun r' => itW_one xs r' (l.getD i 0))
      have RT := hide' (fun (x : Nat) (h : (l.getD i 0).toNat = x) (h1 : 97 ≤ x) (h2 : x < 105) (V : World) => rune_text x (l.getD i 0) h h1 h2 V)
      obtain ⟨ch, hch⟩ : ∃ ch, l.getD i 0 = ch := ⟨_, rfl⟩
      rw [hch] at hnx rg SNX IAX I1 RT
      obtain ⟨x, hx⟩ : ∃ x, ch.toNat = x := ⟨_, rfl⟩
      rw [hx] at hnx rg SNX IAX I1
      have TT := hide' (HS.out.turn (i + 1))
      obtain ⟨W, hW⟩ : ∃ W, wr.iterAt w.heap.size ⟨l.toArray⟩ (i + 1) = W := ⟨_, rfl⟩
      rw [hW] at hnx TT
      obtain ⟨r1, r2⟩ := rg
      have rt := fun V => RT.out x hx r1 (by omega) V
      clear hx hW GI gi hit HS hch RT
      have NC := hide' (fun (V : World) => NM.out x V r1 (by omega))
      obtain ⟨y, hy⟩ : ∃ y, x - 97 = y := ⟨_, rfl⟩
      rw [hy] at NC SNX IAX I1
      have yk : y < k := by omega
      have y0 : (0 : Int) ≤ (y : Int) := by omega
      have y8 : (y : Int) < 8 := by omega
      have yK : (y : Int) < (k : Int) := by omega
      have r0 : (0 : Int) ≤ (r : Int) := by omega
      have rR : (r : Int) < (R : Int) := by omega
      have c1 := (HLK.out.below TT.out.below).2 r y (Nat.le_refl _) (by omega)
      have VE := hide' (show szV xs r y = min 9223372036854775808 (szT xs r y) by unfold szV; rw [if_pos (by rw [← HK.out]; exact yk)])
      have vle := szV_le xs r y
      obtain ⟨v, hv⟩ : ∃ v, szV xs r y = v := ⟨_, rfl⟩
      rw [hv] at c1 VE vle
      have ut : u < 9223372036854775808 := by omega
      clear hv hy hb
      by_cases q : (v : Int) ≤ (u : Int)
      · have NS := hide' (show smW (szT xs r) (l.take (i + 1)) + (u - v) = t by have := VE.out; rw [SNX.out]; have := HB.out; omega)
        obtain ⟨z, hz⟩ : ∃ z, u - v = z := ⟨_, rfl⟩
        rw [hz] at NS
        have ez : (u : Int) - (v : Int) = (z : Int) := by omega
        have zb : z < 9223372036854775808 := by omega
        clear hz
        go_wp2
        go_quiet ((go_at_call 28; exact Calls.quiet_of_same (NC.out _)))
        go_wp2
        have T2 := hide' (TT.out.keep (below_drewN (Below.refl _ _) nq))
        exact ⟨⟨i + 1, z, rfl, by omega, NS, T2⟩, by rw [iterPos_of T2.out.it]; omega⟩
      · have UL := hide' (IAX.out (by have := VE.out; omega))
        rcases r with _ | r'
        · have u0 : u = 0 := by have := VE.out; simp [szT] at this; omega
          have FA := hide' (show A = ch by rw [UL.out, u0]; rfl)
          clear u0 UL eR r0 rR
          obtain rfl : R = 1 := by omega
          rw [Nat.zero_mul, Nat.zero_add] at c1
          clear hR
          go_wp2
          go_quiet ((go_at_call 28; exact Calls.quiet_of_same (NC.out _)))
          go_wp2
          go_ret
          exact ⟨by rw [FA.out]; rfl, (TT.out.keep (below_drewN (Below.refl _ _) nq)).below⟩
        · have LP := hide' (IHH.out r' rfl)
          have o12 := O12.out y yk
          have UE := hide' (show A = (itW xs r' (xs.getD y [])).getD u 0 by rw [UL.out, I1.out])
          have UB := hide' (show u < (itW xs r' (xs.getD y [])).length by
            rw [itW_len]
            have h1 := VE.out
            have h2 : szT xs (r' + 1) y = smW (szT xs r') (xs.getD y []) := rfl
            omega)
          have AC := hide' (fun (V : World) (h : Below w.heap.size w V) => (HA.out.below h).cells y (by rw [← HK.out]; exact yk))
          have LC := hide' (fun (V : World) (h : Below w.heap.size w V) => LP.out (xs.getD y []) u V (HA.out.below h) o12.2 (by omega) (HLK.out.below h).less UB.out ut)
          obtain ⟨x1, hx1⟩ : ∃ x1, xs.getD y [] = x1 := ⟨_, rfl⟩
          rw [hx1] at UE AC LC
          rw [← UE.out] at LC
          clear hx1 o12 UB UE
          obtain ⟨g2, off2, ea, -, hc2⟩ := AC.out W TT.out.below
          subst ea
          have rc : (((r' + 1 : Nat)) : Int) ≤ (cap : Int) := by omega
          go_wp2
          go_quiet ((go_at_call 28; exact Calls.quiet_of_same (NC.out _)))
          have T2 := hide' (TT.out.keep (below_drewN (Below.refl _ _) nq)).below
          have hc3 : (W.drewN nq).cell? ⟨g2, off2 + y, none⟩ = some (.string ⟨x1.toArray⟩) := hc2
          obtain ⟨V, hV⟩ : ∃ V, W.drewN nq = V := ⟨_, rfl⟩
          rw [hV] at T2 hc3
          rw [hV]
          clear hV hc2 c1 AC
          go_wp2
          go_region_with (first
            | (go_at_call 28; refine (NC.out _).mono ?_; rintro o w4 ⟨rfl, rfl⟩)
            | (go_at_call 19; refine (LC.out _ (below_drewN T2.out 1)).mono ?_; rintro o w4 ⟨rfl, b4⟩; have B4 := hide' ((below_drewN T2.out 1).trans (b4.mono (below_drewN T2.out 1).size))))
          all_goals go_wp2
          all_goals go_ret
          all_goals exact ⟨rfl, B4.out⟩
    · exfalso
      obtain rfl : i = l.length := by omega
      have h1 := HB.out
      have h2 := EN.out
      rw [List.take_length] at h1
      omega
theorem look_any (xs : List (List UInt8)) (a : Option Addr) (k c g cap : Nat) (ok : imF xs = 0) (hk : k = xs.length) (hcap : cap ≤ 100) : ∀ r, r < cap → LookP xs a k c g cap r
  | 0, hr => look_step xs a k c g cap 0 ok hk hr hcap (fun r' e => by omega)
  | r + 1, hr => look_step xs a k c g cap (r + 1) ok hk hr hcap (fun r' e => by
    obtain rfl : r = r' := by omega
    exact look_any xs a k c g cap ok hk hcap r (by omega))
end Go.Proofs.Ytmnacanjbhlfeaa

