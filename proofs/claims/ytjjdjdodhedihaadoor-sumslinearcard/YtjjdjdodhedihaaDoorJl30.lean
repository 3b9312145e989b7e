/-
  What the last text of this claim leans on, part 30: Sb1.
-/
import Derived.Test.YtjjdjdodhedihaaDoorJl16
import Derived.Test.YtjjdjdodhedihaaDoorJl14
namespace Go.Proofs.YtjjdjdodhedihaaDoor
open Go.RowKit
set_option linter.unusedVariables false

/-- The weights are no greater than 1000. -/
def Wts (wt : List Int) : Prop := ∀ i, -(1000 : Int) ≤ wt.getD i 0 ∧ wt.getD i 0 ≤ 1000
/-- What keeps holds. -/
structure KS (w wr : World) (S R : Nat) (vt vw : Value) (n g : Nat) (hs : List Int) : Prop where
  rb : RB w.heap.size S R vt wr
  cw : Blk wr (w.heap.size + 1) #[vw] 22
  cn : Blk wr (w.heap.size + 1 + 1) #[.int .i64 (n : Int)] 3
  cl : Cel wr g hs
  bl : Below w.heap.size w wr
  gl : w.heap.size + 3 ≤ g
theorem KS.below {w wr wr' : World} {S R : Nat} {vt vw : Value} {n g : Nat} {hs : List Int} (h : KS w wr S R vt vw n g hs) (hb : Below wr.heap.size wr wr') : KS w wr' S R vt vw n g hs :=
  ⟨h.rb.next hb, h.cw.of (hb.block _ h.cw.lt), h.cn.of (hb.block _ h.cn.lt), h.cl.below hb, h.bl.trans (hb.mono h.bl.size), h.gl⟩
theorem KS.set {w wr : World} {S R : Nat} {vt vw : Value} {n g : Nat} {hs : List Int} (h : KS w wr S R vt vw n g hs) (k : Nat) (x : Int) (hk : k < hs.length) : KS w (wr.setCell ⟨g, k, none⟩ (.int .i64 x)) S R vt vw n g (hs.set k x) := by
  have gl := h.gl
  exact ⟨h.rb.block (heap_setCell_other _ _ _ _ _ (by omega)), h.cw.of (heap_setCell_other _ _ _ _ _ (by omega)), h.cn.of (heap_setCell_other _ _ _ _ _ (by omega)), h.cl.set k x hk, h.bl.setCell (p := ⟨g, k, none⟩) (by show w.heap.size ≤ g; omega) _, gl⟩

set_option maxRecDepth 100000 in
set_option maxHeartbeats 6400000 in
theorem keeps1_any (S R n x pw pr pn : Nat) (T wt : List Int) (ta : Option Addr) (tn tc : Nat) (wa : Option Addr) (wn wc : Nat) (w : World) (hok : cellsOk S T) (hR : RB pr S R (.slice ta tn tc) w) (hW : w.cell? ⟨pw, 0, none⟩ = some (.slice wa wn wc)) (hN : w.cell? ⟨pn, 0, none⟩ = some (.int .i64 (n : Int))) (hT : ArgP w T ta tn tc) (hA : ArgP w wt wa wn wc) (hs : wn = S) (hx : x < tn) (hn : 0 < n) (hxn : x / n < S) (hw : Wts wt) (s4 : S ≤ 4) (t4 : tn ≤ 4096) (n4 : n ≤ 4096) :
    Calls Tryd.prog 91 #[.int .i64 (x : Int), .pointer (some ⟨pw, 0, none⟩), .pointer (some ⟨pr, 0, none⟩), .pointer (some ⟨pn, 0, none⟩)] w fun e w' => e = .returned (.int .i64 (chg n T wt x)) ∧ ∃ q, w' = w.drewN q := by
  obtain ⟨y, hy⟩ : ∃ y, x / n = y := ⟨_, rfl⟩
  rw [hy] at hxn
  have e1 : (x : Int).tdiv (n : Int) = (y : Int) := by rw [Int.tdiv_eq_ediv_of_nonneg (by omega), ← hy]; simp
  have n1 : ¬ (n : Int) = 0 := by omega
  have xl : x < T.length := by rw [← hT.len]; exact hx
  have t0 := cellsOk_at hok xl
  obtain ⟨z, hz⟩ : ∃ z : Nat, T.getD x 0 = (z : Int) := ⟨(T.getD x 0).toNat, by omega⟩
  have zS : z < S := by omega
  obtain ⟨gt, ot, ea, ht⟩ := hT.at (k := x) (by omega)
  obtain ⟨gw, ow, eb, hw1⟩ := hA.at (k := z) (by omega)
  obtain ⟨gw', ow', eb', hw2⟩ := hA.at (k := y) (by omega)
  rw [eb] at eb'
  injection eb' with eb'
  injection eb' with q1 q2
  subst q1 q2 ea eb
  rw [hz] at ht
  obtain ⟨a, ha⟩ : ∃ a, wt.getD z 0 = a := ⟨_, rfl⟩
  obtain ⟨b, hb⟩ : ∃ b, wt.getD y 0 = b := ⟨_, rfl⟩
  have ba := hw z
  have bb := hw y
  rw [ha] at hw1 ba
  rw [hb] at hw2 bb
  have CH := hide' (show chg n T wt x = a - b by unfold chg; rw [hz, hy, Int.toNat_natCast, ha, hb])
  obtain ⟨x0, x1, x2, x3, x4, x5, x6⟩ := hR
  rw [CH.out]
  clear ha hb hz hy hT hA t0 xl
  go_enter Tryd.func91, Tryd.ntmps91
  go_wp2_with fail
  go_quiet (fail)
  go_wp2
  go_ret
  exact ⟨rfl, _, rfl⟩

/-- What sums.keeps answers. -/
def KeepsPost (S n : Nat) (T wt : List Int) (w : World) (e : Ending) (w' : World) : Prop := (∃ b : Bool, e = .returned (.bool b) ∧ (b = true ↔ KeepsP S n T wt)) ∧ Below w.heap.size w w'

set_option maxRecDepth 100000 in
set_option maxHeartbeats 6400000 in
theorem keeps_any (S R n : Nat) (T wt : List Int) (ta : Option Addr) (tn tc : Nat) (wa : Option Addr) (wn wc : Nat) (w : World) (hL : LineOk S R T) (hT : ArgP w T ta tn tc) (hA : ArgP w wt wa wn wc) (hs : wn = S) (hw : Wts wt) (hn : S ^ (2 * R) = n) :
    Calls Tryd.prog 53 #[.agg #[.int .i64 2, .int .i64 0, .int .i64 0, .int .i64 (S : Int), .int .i64 (R : Int), .slice ta tn tc, .string ⟨#[]⟩], .slice wa wn wc] w (KeepsPost S n T wt w) := by
  have s2 := hL.s2
  have s4 := hL.s4
  have tl := hT.len
  have t4 : tn ≤ 4096 := by rw [hT.len]; exact hL.max
  have n0 : 0 < n := by rw [← hn]; exact Nat.pow_pos (by omega)
  have hTn : tn = n * S := by rw [tl, hL.len, ← hn, Nat.pow_succ]
  have ntn : n ≤ tn := by rw [hTn]; exact Nat.le_mul_of_pos_right _ (by omega)
  have n4 : n ≤ 4096 := Nat.le_trans (by rw [hTn]; exact Nat.le_mul_of_pos_right _ (by omega)) t4
  have hq : (tn : Int).tdiv (S : Int) = (n : Int) := by
    rw [hTn, Int.tdiv_eq_ediv_of_nonneg (by omega), Int.natCast_mul]; exact Int.mul_ediv_cancel _ (by omega)
  have sz : ¬ (S : Int) = 0 := by omega
  have nz : ¬ (n : Int) = 0 := by omega
  obtain ⟨w2, hw2⟩ : ∃ w2, (w.alloc (.cells #[.int .i64 2, .int .i64 0, .int .i64 0, .int .i64 (S : Int), .int .i64 (R : Int), .slice ta tn tc, .string ⟨#[]⟩] 24)).alloc (.cells #[.slice wa wn wc] 22) = w2 := ⟨_, rfl⟩
  have z2 : w2.heap.size = w.heap.size + 2 := by rw [← hw2]; simp
  have BB := hide' (show Below w.heap.size w w2 by rw [← hw2]; exact ((Below.refl _ _).alloc (Nat.le_refl _) _).alloc (by simp) _)
  have RX := hide' (show RB w.heap.size S R (.slice ta tn tc) w2 by rw [← hw2]; exact (RB.new w S R _ _).alloc _)
  have CW := hide' (show Blk w2 (w.heap.size + 1) #[.slice wa wn wc] 22 by
    rw [← hw2]; have := Blk.new (w.alloc (.cells #[.int .i64 2, .int .i64 0, .int .i64 0, .int .i64 (S : Int), .int .i64 (R : Int), .slice ta tn tc, .string ⟨#[]⟩] 24)) #[.slice wa wn wc] 22; rw [World.size_alloc] at this; exact this)
  have AT := hide' hT
  have AA := hide' hA
  have C1 := hide' (fun (g : Nat) (hs' : List Int) (x : Nat) (hx : x < tn) (wr : World) (h : KS w wr S R (.slice ta tn tc) (.slice wa wn wc) n g hs') => keeps1_any S R n x (w.heap.size + 1) w.heap.size (w.heap.size + 1 + 1) T wt ta tn tc wa wn wc wr hL.ok h.rb (h.cw.cell 0) (h.cn.cell 0) (hT.below h.bl) (hA.below h.bl) hs hx n0 (Nat.div_lt_of_lt_mul (by rw [← hTn]; exact hx)) hw s4 t4 n4)
  have HW := hide' hw
  clear hs
  have TL := hide' (show T.length = n * S by rw [← tl, hTn])
  have HTn := hide' hTn
  clear hL hT hA hn tl hw hTn
  obtain ⟨x0, x1, x2, x3, x4, x5, x6⟩ := RX.out
  have c0 := CW.out.cell 0
  have hmk := run_make_row' (P := Tryd.prog) 22 3 (.int .i64 0) 8 Tryd.underlying22 info_int rfl .i64 .i64 n (by omega) (by omega)
  go_enter Tryd.func53, Tryd.ntmps53
  go_wp2
  clear x0 x1 x2 x3 x4 x5 x6 c0
  have P0 := hide' (show KS w ((w2.alloc (.cells #[.int .i64 (n : Int)] 3)).alloc (.cells (madeCells #[.int .i64 0] n) 3)) S R (.slice ta tn tc) (.slice wa wn wc) n (w.heap.size + 1 + 1 + 1) (List.replicate n 0) from by
    have b1 : Below w2.heap.size w2 (w2.alloc (.cells #[.int .i64 (n : Int)] 3)) := (Below.refl _ _).alloc (Nat.le_refl _) _
    have m := Cel.made (w2.alloc (.cells #[.int .i64 (n : Int)] 3)) n 3
    have nb := Blk.new w2 #[.int .i64 (n : Int)] 3
    rw [World.size_alloc, z2] at m
    rw [z2] at nb
    exact ⟨(RX.out.alloc _).alloc _, (CW.out.alloc _).alloc _, nb.alloc _, m, (BB.out.alloc BB.out.size _).alloc (by simp; omega) _, by omega⟩)

  go_loopw [8] (fun iv wr => ∃ (k : Nat) (hs' : List Int), iv = .int .i64 (k : Int) ∧ 1 ≤ k ∧ k ≤ n ∧ Hid (KS w wr S R (.slice ta tn tc) (.slice wa wn wc) n (w.heap.size + 1 + 1 + 1) hs' ∧ HtUpto S n T wt hs' k)) (fun iv _ => n - (intOf iv).toNat)
  case atStart => exact ⟨1, List.replicate n 0, rfl, by omega, by omega, hide' ⟨P0.out, by simp, by simp [List.getD, n0], fun j j0 j1 => by omega⟩⟩
  case round =>
    clear P0
    obtain ⟨k, hs', rfl, k1, kn, HH⟩ := hrel
    obtain ⟨x0, x1, x2, x3, x4, x5, x6⟩ := HH.out.1.rb
    have cn := HH.out.1.cn.cell 0
    by_cases d : (k : Int) < (n : Int)
    · obtain ⟨y, hy⟩ : ∃ y, k / S = y := ⟨_, rfl⟩
      have e1 : (k : Int).tdiv (S : Int) = (y : Int) := by rw [Int.tdiv_eq_ediv_of_nonneg (by omega), ← hy]; simp
      have yk : y < k := by rw [← hy]; exact Nat.div_lt_self (by omega) (by omega)
      have HL := hide' HH.out.2.len
      have cy := HH.out.1.cl.cells y (by rw [HL.out]; omega)
      have ck := HH.out.1.cl.cells k (by rw [HL.out]; omega)
      have fk := HH.out.1.cl.fz k
      have by_ := HH.out.2.bound s2 HW.out y yk
      obtain ⟨v, hv⟩ : ∃ v, hs'.getD y 0 = v := ⟨_, rfl⟩
      rw [hv] at cy by_
      have PT := hide' (HH.out.2.put s2 (by omega) (show k < n by omega))
      rw [hy, hv] at PT
      have yB : y ≤ 4096 := by omega
      have bc := chg_bound (n := n) (M := 1000) (T := T) HW.out k
      obtain ⟨u, hu⟩ : ∃ u, chg n T wt k = u := ⟨_, rfl⟩
      have CC := hide' (fun (wr' : World) (h : KS w wr' S R (.slice ta tn tc) (.slice wa wn wc) n (w.heap.size + 1 + 1 + 1) hs') => C1.out _ hs' k (by omega) wr' h)
      rw [hu] at PT bc
      simp only [hu] at CC
      clear hu hv hy
      have KD := hide' (HH.out.1.below (Below.refl _ _).drew)
      go_upto_region 7 with fail
      go_region_with
        ((go_at_call 91; refine (CC.out _ KD.out).mono ?_; rintro e w6 ⟨rfl, q, rfl⟩))
      all_goals
        go_wp2
        exact ⟨⟨k + 1, hs'.set k (v + u), by go_num, by omega, by omega, hide' ⟨(HH.out.1.below (below_drewN (Below.refl _ _) (1 + q))).set k (v + u) (by rw [HL.out]; omega), PT.out⟩⟩, by simp [intOf]; omega⟩
    · have H2 := hide' (show HtUpto S n T wt hs' n by rw [show n = k by omega]; exact (show k = n by omega) ▸ HH.out.2)
      have KK := hide' HH.out.1
      clear HH
      go_wp2
      go_loopw [41] (fun iv wr => ∃ j : Nat, iv = .int .i64 (j : Int) ∧ j ≤ tn ∧ Hid (KS w wr S R (.slice ta tn tc) (.slice wa wn wc) n (w.heap.size + 1 + 1 + 1) hs' ∧ ∀ i, i < j → chg n T wt i = hs'.getD (i % n) 0 - hs'.getD (i / S) 0)) (fun iv _ => tn - (intOf iv).toNat)
      case atStart => exact ⟨0, rfl, by omega, hide' ⟨KK.out, fun i hi => absurd hi (by omega)⟩⟩
      case round =>
        clear KK x0 x1 x2 x3 x4 x5 x6 cn
        obtain ⟨j, rfl, hj, HH⟩ := hrel
        obtain ⟨x0, x1, x2, x3, x4, x5, x6⟩ := HH.out.1.rb
        have cn := HH.out.1.cn.cell 0
        by_cases dj : (j : Int) < (tn : Int)
        · obtain ⟨y, hy⟩ : ∃ y, j / S = y := ⟨_, rfl⟩
          obtain ⟨z, hz⟩ : ∃ z, j % n = z := ⟨_, rfl⟩
          have e1 : (j : Int).tdiv (S : Int) = (y : Int) := by rw [Int.tdiv_eq_ediv_of_nonneg (by omega), ← hy]; simp
          have e2 : (j : Int).tmod (n : Int) = (z : Int) := by rw [Int.tmod_eq_emod_of_nonneg (by omega), ← hz]; simp
          have yn : y < n := by rw [← hy]; exact Nat.div_lt_of_lt_mul (by rw [Nat.mul_comm, ← HTn.out]; omega)
          have zn : z < n := by rw [← hz]; exact Nat.mod_lt _ n0
          have HL := hide' H2.out.len
          have cy := HH.out.1.cl.cells y (by rw [HL.out]; omega)
          have cz := HH.out.1.cl.cells z (by rw [HL.out]; omega)
          have by_ := H2.out.bound s2 HW.out y yn
          have bz_ := H2.out.bound s2 HW.out z zn
          have CC := hide' (fun (wr' : World) (h : KS w wr' S R (.slice ta tn tc) (.slice wa wn wc) n (w.heap.size + 1 + 1 + 1) hs') => C1.out _ hs' j (by omega) wr' h)
          have bc := chg_bound (n := n) (M := 1000) (T := T) HW.out j
          have NO := hide' (show chg n T wt j ≠ hs'.getD z 0 - hs'.getD y 0 → ¬ KeepsP S n T wt from fun h => keeps_no H2.out s2 TL.out n0 (show j < T.length by rw [TL.out, ← HTn.out]; omega) (by rw [hy, hz]; exact h))
          have YE := hide' (show chg n T wt j = hs'.getD z 0 - hs'.getD y 0 → ∀ i, i < j + 1 → chg n T wt i = hs'.getD (i % n) 0 - hs'.getD (i / S) 0 from fun h i hi => by
            by_cases e : i = j
            · subst e; rw [hy, hz]; exact h
            · exact HH.out.2 i (by omega))
          obtain ⟨v, hv⟩ : ∃ v, hs'.getD y 0 = v := ⟨_, rfl⟩
          obtain ⟨v', hv'⟩ : ∃ v', hs'.getD z 0 = v' := ⟨_, rfl⟩
          obtain ⟨u, hu⟩ : ∃ u, chg n T wt j = u := ⟨_, rfl⟩
          rw [hv] at cy by_ NO YE
          rw [hv'] at cz bz_ NO YE
          rw [hu] at bc NO YE
          simp only [hu] at CC
          have yB : y ≤ 4096 := by omega
          have zB : z ≤ 4096 := by omega
          clear hu hv hv' hy hz
          by_cases eq : u = v' - v
          · have q1 : (u != v' - v) = false := by simp [eq]
            have YF := hide' (YE.out eq)
            clear NO YE eq
            go_wp2_with fail
            go_quiet ((go_at_call 91; exact Calls.quiet_of (CC.out _ (HH.out.1.below (below_drewN (Below.refl _ _) _)))))
            go_wp2
            exact ⟨⟨j + 1, by go_num, by omega, hide' ⟨HH.out.1.below (below_drewN (Below.refl _ _) _), YF.out⟩⟩, by simp [intOf]; omega⟩
          · have q1 : (u != v' - v) = true := by simp [eq]
            have NF := hide' (NO.out eq)
            clear NO YE eq
            go_wp2_with fail
            go_quiet ((go_at_call 91; exact Calls.quiet_of (CC.out _ (HH.out.1.below (below_drewN (Below.refl _ _) _)))))
            go_wp2
            go_ret
            exact ⟨⟨false, rfl, by simp [NF.out]⟩, below_drewN HH.out.1.bl _⟩
        · have YF := hide' (keeps_yes (S := S) (n := n) (T := T) (wt := wt) (hs := hs') (fun i hi => HH.out.2 i (by rw [TL.out, ← HTn.out] at hi; omega)))
          go_wp2
          go_ret
          exact ⟨⟨true, rfl, by simp [YF.out]⟩, HH.out.1.bl⟩
end Go.Proofs.YtjjdjdodhedihaaDoor

