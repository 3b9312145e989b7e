/-
  What the last text of this claim leans on, part 19: Af1, Af5.
-/
import Derived.Test.YtdkomlgkkepioaaDoorJw8
import Derived.Test.YtdkomlgkkepioaaDoorJw11
import Derived.BigQuiet
namespace Go.Proofs.YtdkomlgkkepioaaDoor
open Go.RowKit
set_option linter.unusedVariables false
set_option maxRecDepth 100000 in
theorem refPlace_any (x y : Int) (w : World) : Calls Tryd.prog 66 #[.int .i64 x, .int .i64 y] w fun e w' => e = .returned (.bool (nearA x y)) ∧ w' = w := by
  by_cases h1 : -1000000 ≤ x
  · by_cases h2 : x ≤ 1000000
    · by_cases h3 : -1000000 ≤ y
      · by_cases h4 : y ≤ 1000000
        · have NE := hide' (show nearA x y = true by unfold nearA; simp [h1, h2, h3, h4])
          go_enter Tryd.func66, Tryd.ntmps66
          go_wp2
          go_ret
          rw [NE.out]; exact ⟨rfl, rfl⟩
        · have NE := hide' (show nearA x y = false by unfold nearA; simp [h1, h2, h3, h4])
          go_enter Tryd.func66, Tryd.ntmps66
          go_wp2
          go_ret
          rw [NE.out]; exact ⟨rfl, rfl⟩
      · have NE := hide' (show nearA x y = false by unfold nearA; simp [h1, h2, h3])
        go_enter Tryd.func66, Tryd.ntmps66
        go_wp2
        go_ret
        rw [NE.out]; exact ⟨rfl, rfl⟩
    · have NE := hide' (show nearA x y = false by unfold nearA; simp [h1, h2])
      go_enter Tryd.func66, Tryd.ntmps66
      go_wp2
      go_ret
      rw [NE.out]; exact ⟨rfl, rfl⟩
  · have NE := hide' (show nearA x y = false by unfold nearA; simp [h1])
    go_enter Tryd.func66, Tryd.ntmps66
    go_wp2
    go_ret
    rw [NE.out]; exact ⟨rfl, rfl⟩
theorem Below_drewN {B : Nat} {w V : World} (h : Below B w V) (k : Nat) : Below B w (V.drewN k) := ⟨h.os, h.tape, h.output, h.size, h.block⟩
theorem plcA_iff (u v t x y z : Int) : plcA (u, v, t) (x, y, z) < 0 ↔ (v < y ∨ (v = y ∧ u < x)) := by
  unfold plcA cmpA
  simp only
  split
  · split
    · constructor <;> intro <;> omega
    · split <;> constructor <;> intro <;> omega
  · split
    · constructor <;> intro <;> omega
    · split <;> constructor <;> intro <;> omega
set_option maxRecDepth 100000 in
set_option maxHeartbeats 6400000 in
theorem refSpots_any (L : Int) (xs : List SpotT) (a : Option Addr) (n c : Nat) (w : World) (hP : ArgS w xs a n c) :
    Calls Tryd.prog 25 #[.slice a n c, .int .i64 L] w fun e w' => e = .returned (.int .i64 (spotE L xs : Int)) ∧ Below w.heap.size w w' := by
  have HL := hide' hP.len
  have nm := hP.max
  have HP := hide' (fun (V : World) (h : Below w.heap.size w V) => hP.below h)
  have HN := hide' (fun x y V => refPlace_any x y V)
  clear hP
  go_enter Tryd.func25, Tryd.ntmps25
  go_wp2
  go_loopw [5] (fun kv wr => ∃ k : Nat, kv = .int .i64 (k : Int) ∧ k ≤ n ∧ Hid (Below w.heap.size w wr) ∧ Hid (∀ j (h : j < xs.length), j < k → spotB L xs[j] = true)) (fun kv _ => n - (intOf kv).toNat)
  case atStart => exact ⟨0, rfl, by omega, hide' (Below.refl _ _), hide' (fun j h hj => by omega)⟩
  case round =>
    obtain ⟨k, rfl, hk, BW, HA⟩ := hrel
    by_cases d : (k : Int) < (n : Int)
    · have hkl : k < xs.length := by have := HL.out; omega
      obtain ⟨g, off, rfl, hg, c0, c1, c2⟩ := (HP.out wr BW.out).cells k hkl
      obtain ⟨⟨x, y, z⟩, hx⟩ : ∃ x, xs[k] = x := ⟨_, rfl⟩
      rw [hx] at c0 c1 c2
      simp only at c0 c1 c2
      have HX := hide' hx
      have i0 : (0 : Int) ≤ (k : Int) := by omega
      clear hx
      have NN := hide' (fun V => HN.out x y V)
      cases hn : nearA x y
      · have X := hide' (show spotE L xs = 1 from allS_bad hkl (by rw [HX.out]; simp [spotB, hn]))
        rw [hn] at NN
        clear hn
        go_wp2_with fail
        go_region_with (go_at_call 66; refine (NN.out _).mono ?_; rintro e w2 ⟨rfl, rfl⟩)
        all_goals
          go_wp2
          go_ret
          rw [X.out]
          exact ⟨rfl, BW.out.drew⟩
      · rw [hn] at NN
        by_cases z1 : z < 1
        · have X := hide' (show spotE L xs = 1 from allS_bad hkl (by rw [HX.out]; simp [spotB, hn]; omega))
          clear hn
          go_wp2_with fail
          go_region_with (go_at_call 66; refine (NN.out _).mono ?_; rintro e w2 ⟨rfl, rfl⟩)
          all_goals
            go_wp2
            go_ret
            rw [X.out]
            exact ⟨rfl, BW.out.drew⟩
        · by_cases z2 : L ≤ z
          · have X := hide' (show spotE L xs = 1 from allS_bad hkl (by rw [HX.out]; simp [spotB, hn]; omega))
            clear hn
            go_wp2_with fail
            go_region_with (go_at_call 66; refine (NN.out _).mono ?_; rintro e w2 ⟨rfl, rfl⟩)
            all_goals
              go_wp2
              go_ret
              rw [X.out]
              exact ⟨rfl, BW.out.drew⟩
          · have X := hide' (show spotB L xs[k] = true by rw [HX.out]; simp [spotB, hn]; omega)
            clear hn
            go_wp2_with fail
            go_region_with (go_at_call 66; refine (NN.out _).mono ?_; rintro e w2 ⟨rfl, rfl⟩)
            all_goals
              go_wp2
              refine ⟨⟨k + 1, by go_num, by omega, hide' BW.out.drew, hide' fun j h hj => ?_⟩, by simp [intOf]; omega⟩
              by_cases e : j = k
              · subst e; exact X.out
              · exact HA.out j h (by omega)
    · have AA := hide' (allS_ok (fun j h => HA.out j h (by have := HL.out; omega)))
      obtain ⟨V0, rfl⟩ : ∃ V0, V0 = wr := ⟨_, rfl⟩
      clear HA
      go_wp2
      go_loopw [7] (fun kv wr => ∃ k : Nat, kv = .int .i64 (k : Int) ∧ 1 ≤ k ∧ (k ≤ n ∨ k = 1) ∧ Hid (Below w.heap.size w wr) ∧ Hid (∀ j, 1 ≤ j → j < xs.length → j < k → plcA (xs.getD (j - 1) (0, 0, 0)) (xs.getD j (0, 0, 0)) < 0)) (fun kv _ => n - (intOf kv).toNat)
      case atStart => exact ⟨1, rfl, by omega, Or.inr rfl, BW, hide' (fun j h1 h2 hj => by omega)⟩
      case round =>
        obtain ⟨i, rfl, hi, hi2, BX, HA⟩ := hrel
        clear hi2
        by_cases di : (i : Int) < (n : Int)
        · have hil : i < xs.length := by have := HL.out; omega
          have hil1 : i - 1 < xs.length := by omega
          obtain ⟨g, off, rfl, hg, c0, c1, c2⟩ := (HP.out wr BX.out).cells i hil
          obtain ⟨g', off', e', hg', b0, b1, b2⟩ := (HP.out wr BX.out).cells (i - 1) hil1
          cases e'
          obtain ⟨j, hj⟩ : ∃ j, i - 1 = j := ⟨_, rfl⟩
          obtain ⟨⟨x, y, z⟩, hx⟩ : ∃ x, xs[i] = x := ⟨_, rfl⟩
          obtain ⟨⟨u, v, t⟩, hu⟩ : ∃ x, xs[i - 1] = x := ⟨_, rfl⟩
          rw [hx] at c0 c1 c2
          rw [hu, hj] at b0 b1 b2
          simp only at c0 c1 c2 b0 b1 b2
          have ij : i = j + 1 := by omega
          have PE := hide' (show plcA (xs.getD (i - 1) (0, 0, 0)) (xs.getD i (0, 0, 0)) = plcA (u, v, t) (x, y, z) by rw [getD_at hil, getD_at hil1, hx, hu])
          have PI := hide' (plcA_iff u v t x y z)
          have jn : (j : Int) < (n : Int) := by omega
          have wj : IntKind.i64.wrap ((i : Int) - 1) = (j : Int) := by simp [IntKind.wrap, IntKind.bits, IntKind.signed]; omega
          have i0 : (0 : Int) ≤ (i : Int) := by omega
          have j0 : (0 : Int) ≤ (j : Int) := by omega
          have BD := hide' (fun k => Below_drewN BX.out k)
          have HH := hide' (And.intro hil hil1)
          clear ij hx hu hj hil hil1
          by_cases q1 : y < v
          · have RE := hide' (ris_bad (L := L) AA.out hi HH.out.1 (by rw [PE.out, PI.out]; omega))
            have p1 : decide (y < v) = true := by simpa using q1
            clear q1
            go_wp2
            go_quiet (fail)
            go_wp2
            go_ret
            rw [RE.out]
            exact ⟨rfl, BD.out _⟩
          · have p1 : decide (y < v) = false := by simpa using q1
            by_cases q2 : y = v
            · have p2 : (y == v) = true := by simpa using q2
              by_cases q3 : x ≤ u
              · have RE := hide' (ris_bad (L := L) AA.out hi HH.out.1 (by rw [PE.out, PI.out]; omega))
                have p3 : decide (x ≤ u) = true := by simpa using q3
                clear q1 q2 q3
                go_wp2
                go_quiet (fail)
                go_wp2
                go_ret
                rw [RE.out]
                exact ⟨rfl, BD.out _⟩
              · have NR := hide' (show ∀ j', 1 ≤ j' → j' < xs.length → j' < i + 1 → plcA (xs.getD (j' - 1) (0, 0, 0)) (xs.getD j' (0, 0, 0)) < 0 from fun j' h1 h2 h3 => by
                  by_cases e : j' = i
                  · subst e; rw [PE.out, PI.out]; omega
                  · exact HA.out j' h1 h2 (by omega))
                have p3 : decide (x ≤ u) = false := by simpa using q3
                clear q1 q2 q3
                go_wp2
                go_quiet (fail)
                go_wp2
                exact ⟨⟨i + 1, by go_num, by omega, Or.inl (by omega), hide' (BD.out _), NR⟩, by simp [intOf]; omega⟩
            · have NR := hide' (show ∀ j', 1 ≤ j' → j' < xs.length → j' < i + 1 → plcA (xs.getD (j' - 1) (0, 0, 0)) (xs.getD j' (0, 0, 0)) < 0 from fun j' h1 h2 h3 => by
                by_cases e : j' = i
                · subst e; rw [PE.out, PI.out]; omega
                · exact HA.out j' h1 h2 (by omega))
              have p2 : (y == v) = false := by simp; exact q2
              clear q1 q2
              go_wp2
              go_quiet (fail)
              go_wp2
              exact ⟨⟨i + 1, by go_num, by omega, Or.inl (by omega), hide' (BD.out _), NR⟩, by simp [intOf]; omega⟩
        · have RE := hide' (ris_ok (L := L) AA.out (fun k h1 h2 => HA.out k h1 h2 (by have := HL.out; omega)))
          go_wp2
          go_ret
          rw [RE.out]
          exact ⟨rfl, BX.out⟩
end Go.Proofs.YtdkomlgkkepioaaDoor

namespace Go.Proofs.YtdkomlgkkepioaaDoor
open Go.RowKit
set_option linter.unusedVariables false
theorem antErr_one {o : Out} {xs : List SpotT} {x y d k : Int} {f f' : Nat} (h : AntErr o xs x y d k f) (h' : AntErr o xs x y d k f') : f = f' := by
  unfold AntErr at h h'
  unfold AntOk at h h'
  rcases h with ⟨a, e⟩ | ⟨a, b, e⟩ | ⟨a, b, c, e⟩ | ⟨a, b, c, p, e⟩ | ⟨⟨a, b, c, p⟩, e⟩ <;> rcases h' with ⟨a', e'⟩ | ⟨a', b', e'⟩ | ⟨a', b', c', e'⟩ | ⟨a', b', c', p', e'⟩ | ⟨⟨a', b', c', p'⟩, e'⟩ <;> first | (exact absurd a' a) | (exact absurd a a') | (exact absurd b' b) | (exact absurd b b') | (exact absurd c' c) | (exact absurd c c') | (exact absurd p' p) | (exact absurd p p') | (rw [e, e'])
set_option maxRecDepth 100000 in
set_option maxHeartbeats 6400000 in
theorem refFaultW_any (o : Out) (a : Option Addr) (n c : Nat) (xs : List SpotT) (b : Option Addr) (m e : Nat) (x y d k : Int) (w : World) (hR : ArgR w o a n c) (hS : ArgS w xs b m e) :
    Calls Tryd.prog 26 #[.agg #[.int .i64 o.kind, .int .i64 o.born, .int .i64 o.stay, .int .i64 o.states, .int .i64 o.radius, .slice a n c, .string o.turns], .slice b m e, .agg #[.int .i64 x, .int .i64 y, .int .i64 d], .int .i64 k] w fun e' w' => ∃ f, AntErr o xs x y d k f ∧ e' = .returned (.int .i64 (f : Int)) ∧ Below w.heap.size w w' := by
  obtain ⟨w1, hw1⟩ : ∃ w1, (w.alloc (.cells #[.int .i64 o.kind, .int .i64 o.born, .int .i64 o.stay, .int .i64 o.states, .int .i64 o.radius, .slice a n c, .string o.turns] 24)).alloc (.cells #[.int .i64 x, .int .i64 y, .int .i64 d] 50) = w1 := ⟨_, rfl⟩
  have BB := hide' (show Below w.heap.size w w1 by rw [← hw1]; exact ((Below.refl _ _).alloc (Nat.le_refl _) _).alloc (by simp) _)
  have g1 : w1.heap[w.heap.size]? = some (.cells #[.int .i64 o.kind, .int .i64 o.born, .int .i64 o.stay, .int .i64 o.states, .int .i64 o.radius, .slice a n c, .string o.turns] 24 (0, 0)) := by rw [← hw1, Below.heap_alloc _ _ _ (by simp)]; exact heap_alloc_new _ _
  have g2 : w1.heap[w.heap.size + 1]? = some (.cells #[.int .i64 x, .int .i64 y, .int .i64 d] 50 (0, 0)) := by rw [← hw1]; exact heap_atX _ _ _ (by simp)
  have SV := hide' (fun (V : World) (h : Below w1.heap.size w1 V) => show V.cell? ⟨w.heap.size, 0, none⟩ = some (.int .i64 o.kind) ∧ V.cell? ⟨w.heap.size, 1, none⟩ = some (.int .i64 o.born) ∧ V.cell? ⟨w.heap.size, 2, none⟩ = some (.int .i64 o.stay) ∧ V.cell? ⟨w.heap.size, 3, none⟩ = some (.int .i64 o.states) ∧ V.cell? ⟨w.heap.size, 4, none⟩ = some (.int .i64 o.radius) ∧ V.cell? ⟨w.heap.size, 5, none⟩ = some (.slice a n c) ∧ V.cell? ⟨w.heap.size, 6, none⟩ = some (.string o.turns) ∧ V.cell? ⟨w.heap.size + 1, 0, none⟩ = some (.int .i64 x) ∧ V.cell? ⟨w.heap.size + 1, 1, none⟩ = some (.int .i64 y) ∧ V.cell? ⟨w.heap.size + 1, 2, none⟩ = some (.int .i64 d) from by
    have e1 := (h.block _ (lt_of_block g1)).trans g1
    have e2 := (h.block _ (lt_of_block g2)).trans g2
    exact ⟨cell_of_row V _ 0 _ _ _ e1, cell_of_row V _ 1 _ _ _ e1, cell_of_row V _ 2 _ _ _ e1, cell_of_row V _ 3 _ _ _ e1, cell_of_row V _ 4 _ _ _ e1, cell_of_row V _ 5 _ _ _ e1, cell_of_row V _ 6 _ _ _ e1, cell_of_row V _ 0 _ _ _ e2, cell_of_row V _ 1 _ _ _ e2, cell_of_row V _ 2 _ _ _ e2⟩)
  have BW := hide' (fun (V : World) (h : Below w1.heap.size w1 V) => BB.out.trans (h.mono BB.out.size))
  have CK := hide' (Fault_any o a n c w1 (hR.below BB.out))
  have SP := hide' (fun (V : World) (h : Below w1.heap.size w1 V) => refSpots_any (o.turns.size : Int) xs b m e V (hS.below (BW.out V h)))
  have TM := hR.tmax
  have NR := hide' (fun V => refPlace_any x y V)
  obtain ⟨c0, c1, c2, c3, c4, c5, c6, d0, d1, d2⟩ := SV.out w1 (Below.refl _ _)
  clear hR hS g1 g2
  go_enter Tryd.func26, Tryd.ntmps26
  go_upto_region 1 with fail
  clear hw1
  go_wp2_with fail
  refine CK.out.mono ?_
  rintro e' w2 ⟨he, b'⟩
  have C2 := hide' b'
  clear b' c0 c1 c2 c3 c4 c5 c6 d0 d1 d2
  obtain ⟨c0, c1, c2, c3, c4, c5, c6, d0, d1, d2⟩ := SV.out w2 C2.out
  rcases he with ⟨rfl, g⟩ | ⟨rfl, g⟩
  · have GO := hide' g
    clear g
    by_cases k3 : o.kind = 3
    · have k3b : (o.kind == 3) = true := by simp [k3]
      have K3 := hide' k3
      rw [k3] at c0
      clear k3
      have SE := hide' (SP.out w2 C2.out)
      by_cases s0 : spotE (o.turns.size : Int) xs = 0
      · have S0 := hide' s0
        rw [s0] at SE
        clear s0
        go_wp2_with fail
        refine SE.out.mono ?_
        rintro e' w3 ⟨rfl, b'⟩
        have C3 := hide' (C2.out.trans (b'.mono C2.out.size))
        clear b' c0 c1 c2 c3 c4 c5 c6 d0 d1 d2
        obtain ⟨c0, c1, c2, c3, c4, c5, c6, d0, d1, d2⟩ := SV.out w3 C3.out
        cases hn : nearA x y
        · rw [hn] at NR
          have F := hide' (show AntErr o xs x y d k 1 from Or.inr (Or.inr (Or.inr (Or.inl ⟨GO.out, K3.out, S0.out, (fun q => by rw [hn] at q; cases q.1), rfl⟩))))
          clear hn
          go_wp2_with fail
          refine (NR.out _).mono ?_
          rintro e' w4 ⟨rfl, rfl⟩
          go_wp2
          go_ret
          exact ⟨1, F.out, rfl, BW.out _ C3.out⟩
        · rw [hn] at NR
          have HN := hide' hn
          clear hn
          by_cases p1 : d < 0
          · have F := hide' (show AntErr o xs x y d k 1 from Or.inr (Or.inr (Or.inr (Or.inl ⟨GO.out, K3.out, S0.out, fun q => by omega, rfl⟩))))
            go_wp2_with fail
            refine (NR.out _).mono ?_
            rintro e' w4 ⟨rfl, rfl⟩
            go_wp2
            go_ret
            exact ⟨1, F.out, rfl, BW.out _ C3.out⟩
          · by_cases p2 : 3 < d
            · have F := hide' (show AntErr o xs x y d k 1 from Or.inr (Or.inr (Or.inr (Or.inl ⟨GO.out, K3.out, S0.out, fun q => by omega, rfl⟩))))
              go_wp2_with fail
              refine (NR.out _).mono ?_
              rintro e' w4 ⟨rfl, rfl⟩
              go_wp2
              go_ret
              exact ⟨1, F.out, rfl, BW.out _ C3.out⟩
            · by_cases q1 : k < 0
              · have F := hide' (show AntErr o xs x y d k 1 from Or.inr (Or.inr (Or.inr (Or.inl ⟨GO.out, K3.out, S0.out, fun q => by omega, rfl⟩))))
                go_wp2_with fail
                refine (NR.out _).mono ?_
                rintro e' w4 ⟨rfl, rfl⟩
                go_wp2
                go_ret
                exact ⟨1, F.out, rfl, BW.out _ C3.out⟩
              · by_cases q2 : 100000 < k
                · have F := hide' (show AntErr o xs x y d k 1 from Or.inr (Or.inr (Or.inr (Or.inl ⟨GO.out, K3.out, S0.out, fun q => by omega, rfl⟩))))
                  go_wp2_with fail
                  refine (NR.out _).mono ?_
                  rintro e' w4 ⟨rfl, rfl⟩
                  go_wp2
                  go_ret
                  exact ⟨1, F.out, rfl, BW.out _ C3.out⟩
                · have F := hide' (show AntErr o xs x y d k 0 from Or.inr (Or.inr (Or.inr (Or.inr ⟨⟨GO.out, K3.out, S0.out, HN.out, by omega, by omega, by omega, by omega⟩, rfl⟩))))
                  go_wp2_with fail
                  refine (NR.out _).mono ?_
                  rintro e' w4 ⟨rfl, rfl⟩
                  go_wp2
                  go_ret
                  exact ⟨0, F.out, rfl, BW.out _ C3.out⟩
      · have F := hide' (show AntErr o xs x y d k (spotE (o.turns.size : Int) xs) from Or.inr (Or.inr (Or.inl ⟨GO.out, K3.out, s0, rfl⟩)))
        have EP : ¬ (spotE (o.turns.size : Int) xs : Int) = 0 := by omega
        have EQ : ((spotE (o.turns.size : Int) xs : Int) == 0) = false := by simpa using EP
        clear s0
        go_wp2_with fail
        refine SE.out.mono ?_
        rintro e' w3 ⟨rfl, b'⟩
        have C3 := hide' (C2.out.trans (b'.mono C2.out.size))
        clear b'
        go_wp2
        go_ret
        exact ⟨_, F.out, rfl, BW.out _ C3.out⟩
    · have F := hide' (show AntErr o xs x y d k 1 from Or.inr (Or.inl ⟨GO.out, k3, rfl⟩))
      have k3b : (o.kind == 3) = false := by simp [k3]
      go_wp2
      go_ret
      exact ⟨1, F.out, rfl, BW.out _ C2.out⟩
  · have F := hide' (show AntErr o xs x y d k 1 from Or.inl ⟨g, rfl⟩)
    clear g
    go_wp2
    go_ret
    exact ⟨1, F.out, rfl, BW.out _ C2.out⟩
set_option maxRecDepth 100000 in
theorem antCheck_any (xs : List SpotT) (a : Option Addr) (n c : Nat) (w : World) (hP : ArgS w xs a n c) :
    Calls Tryd.prog 24 #[.slice a n c] w fun e w' => e = .returned (errOf (spotE 26 xs)) ∧ Below w.heap.size w w' := by
  have CK := hide' (checkSpots_any 26 xs a n c w hP)
  clear hP
  go_enter Tryd.func24, Tryd.ntmps24
  go_wp2_with fail
  refine CK.out.mono ?_
  rintro e w1 ⟨rfl, b1⟩
  go_wp2
  go_ret
  exact ⟨rfl, b1⟩
end Go.Proofs.YtdkomlgkkepioaaDoor

