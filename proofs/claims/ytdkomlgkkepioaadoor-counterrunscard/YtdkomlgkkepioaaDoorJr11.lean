/-
  What the last text of this claim leans on, part 11: Cd1.
-/
import Derived.Test.YtdkomlgkkepioaaDoorJr5
namespace Go.Proofs.YtdkomlgkkepioaaDoor
open Go.RowKit
set_option linter.unusedVariables false
theorem insB_1 (L a t e : Int) : insB L (1, a, t, e) = (decide (0 ≤ a) && decide (a ≤ 3) && decide (0 ≤ t) && decide (t < L) && decide (e = 0)) := by
  rw [Bool.eq_iff_iff]
  unfold insB okI numI usN
  simp
  omega
theorem insB_2 (L a t e : Int) : insB L (2, a, t, e) = (decide (0 ≤ a) && decide (a ≤ 3) && decide (0 ≤ t) && decide (t < L) && decide (0 ≤ e) && decide (e < L)) := by
  rw [Bool.eq_iff_iff]
  unfold insB okI numI usN
  simp
  omega
theorem insB_3 (L a t e : Int) : insB L (3, a, t, e) = (decide (a = 0) && decide (t = 0) && decide (e = 0)) := by
  rw [Bool.eq_iff_iff]
  unfold insB okI numI usN
  simp
  omega
theorem insB_o (L o a t e : Int) (h1 : ¬ o = 1) (h2 : ¬ o = 2) (h3 : ¬ o = 3) : insB L (o, a, t, e) = false := by
  unfold insB
  simp
  omega
set_option maxRecDepth 100000 in
set_option maxHeartbeats 12800000 in
theorem refCode_any (xs : List InsT) (a : Option Addr) (n c : Nat) (w : World) (hP : ArgI w xs a n c) :
    Calls Tryd.prog 34 #[.slice a n c] w fun e w' => e = .returned (.int .i64 (codeE xs : Int)) ∧ Below w.heap.size w w' := by
  have HL := hide' hP.len
  have nm := hP.max
  by_cases n1 : n < 1
  · have F := hide' (show codeE xs = 4 by unfold codeE; rw [if_pos]; have := HL.out; omega)
    have m1 : (n : Int) < 1 := by omega
    have m2 : ¬ 12 < (n : Int) := by omega
    clear n1 hP
    go_enter Tryd.func34, Tryd.ntmps34
    go_wp2
    go_ret
    rw [F.out]; exact ⟨rfl, Below.refl _ _⟩
  · by_cases n2 : 12 < n
    · have F := hide' (show codeE xs = 4 by unfold codeE; rw [if_pos]; have := HL.out; omega)
      have m1 : ¬ (n : Int) < 1 := by omega
      have m2 : 12 < (n : Int) := by omega
      clear n1 n2 hP
      go_enter Tryd.func34, Tryd.ntmps34
      go_wp2
      go_ret
      rw [F.out]; exact ⟨rfl, Below.refl _ _⟩
    · have m1 : ¬ (n : Int) < 1 := by omega
      have m2 : ¬ 12 < (n : Int) := by omega
      have HP := hide' (fun (V : World) (h : Below w.heap.size w V) => hP.below h)
      have N12 := hide' (And.intro n1 n2)
      clear hP n1 n2
      go_enter Tryd.func34, Tryd.ntmps34
      go_wp2
      go_loopw [3] (fun kv wr => ∃ k : Nat, kv = .int .i64 (k : Int) ∧ k ≤ n ∧ Hid (Below w.heap.size w wr) ∧ Hid (∀ j (h : j < xs.length), j < k → insB (xs.length : Int) xs[j] = true)) (fun kv _ => n - (intOf kv).toNat)
      case atStart => exact ⟨0, rfl, by omega, hide' (Below.refl _ _), hide' (fun j h hj => by omega)⟩
      case round =>
        obtain ⟨k, rfl, hk, BW, HA⟩ := hrel
        by_cases d : (k : Int) < (n : Int)
        · have hkl : k < xs.length := by have := HL.out; omega
          obtain ⟨g, off, rfl, hg, c0, c1, c2, c3⟩ := (HP.out wr BW.out).cells k hkl
          obtain ⟨⟨x, y, z, t⟩, hx⟩ : ∃ x, xs[k] = x := ⟨_, rfl⟩
          rw [hx] at c0 c1 c2 c3
          simp only at c0 c1 c2 c3
          have k0 : (0 : Int) ≤ (k : Int) := by omega
          obtain ⟨w2, hw2⟩ : ∃ w2, wr.alloc (.cells #[.int .i64 x, .int .i64 y, .int .i64 z, .int .i64 t] 146) = w2 := ⟨_, rfl⟩
          have BN := hide' (show Below w.heap.size w w2 from by rw [← hw2]; exact BW.out.alloc BW.out.size _)
          have r2 := hide' (show w2.heap[wr.heap.size]? = some (.cells #[.int .i64 x, .int .i64 y, .int .i64 z, .int .i64 t] 146 (0, 0)) by rw [← hw2]; exact heap_alloc_new _ _)
          have e0 := cell_of_row w2 _ 0 _ _ _ r2.out
          have e1 := cell_of_row w2 _ 1 _ _ _ r2.out
          have e2 := cell_of_row w2 _ 2 _ _ _ r2.out
          have e3 := cell_of_row w2 _ 3 _ _ _ r2.out
          simp at e0 e1 e2 e3
          have BAD := hide' (show insB (n : Int) (x, y, z, t) = false → codeE xs = 1 from fun q => by have := N12.out; have := HL.out; exact code_bad (by omega) (by omega) hkl (by rw [← HL.out, hx]; exact q))
          have GOOD := hide' (show insB (n : Int) (x, y, z, t) = true → ∀ j (h : j < xs.length), j < k + 1 → insB (xs.length : Int) xs[j] = true from fun q j h hj => by
            by_cases e : j = k
            · subst e; rw [← HL.out, hx]; exact q
            · exact HA.out j h (by omega))
          clear hx
          by_cases o1 : x = 1
          · subst o1
            by_cases q5 : y < 0
            · have X := hide' (BAD.out (by rw [insB_1]; simp; omega))
              go_upto_region 7 with fail
              clear hw2
              go_wp2
              go_ret
              rw [X.out]; exact ⟨rfl, BN.out⟩
            · by_cases q4 : 3 < y
              · have X := hide' (BAD.out (by rw [insB_1]; simp; omega))
                go_upto_region 7 with fail
                clear hw2
                go_wp2
                go_ret
                rw [X.out]; exact ⟨rfl, BN.out⟩
              · by_cases q3 : z < 0
                · have X := hide' (BAD.out (by rw [insB_1]; simp; omega))
                  go_upto_region 7 with fail
                  clear hw2
                  go_wp2
                  go_ret
                  rw [X.out]; exact ⟨rfl, BN.out⟩
                · by_cases q2 : (n : Int) ≤ z
                  · have X := hide' (BAD.out (by rw [insB_1]; simp; omega))
                    go_upto_region 7 with fail
                    clear hw2
                    go_wp2
                    go_ret
                    rw [X.out]; exact ⟨rfl, BN.out⟩
                  · by_cases q1 : ¬ t = 0
                    · have X := hide' (BAD.out (by rw [insB_1]; simp; omega))
                      have y1 : (t == 0) = false := by simpa using q1
                      go_upto_region 7 with fail
                      clear hw2
                      go_wp2
                      go_ret
                      rw [X.out]; exact ⟨rfl, BN.out⟩
                    · have HQt := hide' (Decidable.not_not.1 q1)
                      have y1 : (t == 0) = true := by have := HQt.out; simpa using this
                      clear q1
                      have X := hide' (GOOD.out (by have := HQt.out; rw [insB_1]; simp; omega))
                      go_upto_region 7 with fail
                      clear hw2
                      go_wp2
                      exact ⟨⟨k + 1, by go_num, by omega, BN, X⟩, by simp [intOf]; omega⟩
          · have z1 : (x == 1) = false := by simpa using o1
            by_cases o2 : x = 2
            · subst o2
              by_cases q6 : y < 0
              · have X := hide' (BAD.out (by rw [insB_2]; simp; omega))
                go_upto_region 7 with fail
                clear hw2
                go_wp2
                go_ret
                rw [X.out]; exact ⟨rfl, BN.out⟩
              · by_cases q5 : 3 < y
                · have X := hide' (BAD.out (by rw [insB_2]; simp; omega))
                  go_upto_region 7 with fail
                  clear hw2
                  go_wp2
                  go_ret
                  rw [X.out]; exact ⟨rfl, BN.out⟩
                · by_cases q4 : z < 0
                  · have X := hide' (BAD.out (by rw [insB_2]; simp; omega))
                    go_upto_region 7 with fail
                    clear hw2
                    go_wp2
                    go_ret
                    rw [X.out]; exact ⟨rfl, BN.out⟩
                  · by_cases q3 : (n : Int) ≤ z
                    · have X := hide' (BAD.out (by rw [insB_2]; simp; omega))
                      go_upto_region 7 with fail
                      clear hw2
                      go_wp2
                      go_ret
                      rw [X.out]; exact ⟨rfl, BN.out⟩
                    · by_cases q2 : t < 0
                      · have X := hide' (BAD.out (by rw [insB_2]; simp; omega))
                        go_upto_region 7 with fail
                        clear hw2
                        go_wp2
                        go_ret
                        rw [X.out]; exact ⟨rfl, BN.out⟩
                      · by_cases q1 : (n : Int) ≤ t
                        · have X := hide' (BAD.out (by rw [insB_2]; simp; omega))
                          go_upto_region 7 with fail
                          clear hw2
                          go_wp2
                          go_ret
                          rw [X.out]; exact ⟨rfl, BN.out⟩
                        · have X := hide' (GOOD.out (by rw [insB_2]; simp; omega))
                          go_upto_region 7 with fail
                          clear hw2
                          go_wp2
                          exact ⟨⟨k + 1, by go_num, by omega, BN, X⟩, by simp [intOf]; omega⟩
            · have z2 : (x == 2) = false := by simpa using o2
              by_cases o3 : x = 3
              · subst o3
                by_cases q3 : ¬ y = 0
                · have X := hide' (BAD.out (by rw [insB_3]; simp; omega))
                  have y3 : (y == 0) = false := by simpa using q3
                  go_upto_region 7 with fail
                  clear hw2
                  go_wp2
                  go_ret
                  rw [X.out]; exact ⟨rfl, BN.out⟩
                · have HQy := hide' (Decidable.not_not.1 q3)
                  have y3 : (y == 0) = true := by have := HQy.out; simpa using this
                  clear q3
                  by_cases q2 : ¬ z = 0
                  · have X := hide' (BAD.out (by have := HQy.out; rw [insB_3]; simp; omega))
                    have y2 : (z == 0) = false := by simpa using q2
                    go_upto_region 7 with fail
                    clear hw2
                    go_wp2
                    go_ret
                    rw [X.out]; exact ⟨rfl, BN.out⟩
                  · have HQz := hide' (Decidable.not_not.1 q2)
                    have y2 : (z == 0) = true := by have := HQz.out; simpa using this
                    clear q2
                    by_cases q1 : ¬ t = 0
                    · have X := hide' (BAD.out (by have := HQy.out; have := HQz.out; rw [insB_3]; simp; omega))
                      have y1 : (t == 0) = false := by simpa using q1
                      go_upto_region 7 with fail
                      clear hw2
                      go_wp2
                      go_ret
                      rw [X.out]; exact ⟨rfl, BN.out⟩
                    · have HQt := hide' (Decidable.not_not.1 q1)
                      have y1 : (t == 0) = true := by have := HQt.out; simpa using this
                      clear q1
                      have X := hide' (GOOD.out (by have := HQy.out; have := HQz.out; have := HQt.out; rw [insB_3]; simp; omega))
                      go_upto_region 7 with fail
                      clear hw2
                      go_wp2
                      exact ⟨⟨k + 1, by go_num, by omega, BN, X⟩, by simp [intOf]; omega⟩
              · have z3 : (x == 3) = false := by simpa using o3
                have X := hide' (BAD.out (insB_o _ _ _ _ _ o1 o2 o3))
                go_upto_region 7 with fail
                clear hw2
                go_wp2
                go_ret
                rw [X.out]; exact ⟨rfl, BN.out⟩
        · have X := hide' (show codeE xs = 0 from by have := N12.out; have := HL.out; exact code_ok (by omega) (by omega) (fun j h => HA.out j h (by omega)))
          go_wp2
          go_ret
          rw [X.out]
          exact ⟨rfl, BW.out⟩
end Go.Proofs.YtdkomlgkkepioaaDoor

