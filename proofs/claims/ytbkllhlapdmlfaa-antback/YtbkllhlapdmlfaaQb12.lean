/-
  What the last text of this claim leans on, part 12: Ga9, Aa2.
-/
import Derived.Test.YtbkllhlapdmlfaaQb4
import Derived.Test.YtbkllhlapdmlfaaQb11
import Derived.Test.YtbkllhlapdmlfaaQb1
import Derived.Deep.CutRange
namespace Go.Proofs.Ytbkllhlapdmlfaa
open Go.RowKit
set_option linter.unusedVariables false
/-- What is wrong with a run. -/
def runGE (K W H : Int) (xs cs : List Int) (k : Int) : Nat := if gasE K W H xs ≠ 0 then gasE K W H xs else if k < 0 ∨ 100000 < k then 1 else if cs.all cellB then (if K = 6 ∧ cs.length = 0 then 3 else 0) else 1
theorem gasE_kind {K W H : Int} {xs : List Int} (h : gasE K W H xs = 0) : K = 4 ∨ K = 6 := by
  unfold gasE at h
  by_cases q : K = 4 ∨ K = 6
  · exact q
  · rw [if_neg q] at h; omega
set_option maxRecDepth 100000 in
set_option maxHeartbeats 6400000 in
theorem checkRun_G (K W H : Int) (xs : List Int) (a : Option Addr) (n c : Nat) (cs : List Int) (b' : Option Addr) (m d' : Nat) (k : Int) (w : World) (hP : ArgP w xs a n c) (hC : ArgP w cs b' m d') :
    Calls Try.prog 17 #[.agg #[.int .i64 K, .int .i64 W, .int .i64 H, .slice a n c], .slice b' m d', .int .i64 k] w fun e w' => e = .returned (errOf (runGE K W H xs cs k)) ∧ Below w.heap.size w w' := by
  obtain ⟨w1, hw1⟩ : ∃ w1, w.alloc (.cells #[.int .i64 K, .int .i64 W, .int .i64 H, .slice a n c] 24) = w1 := ⟨_, rfl⟩
  have BB := hide' (show Below w.heap.size w w1 by rw [← hw1]; exact (Below.refl _ _).alloc (Nat.le_refl _) _)
  have g1 : w1.heap[w.heap.size]? = some (.cells #[.int .i64 K, .int .i64 W, .int .i64 H, .slice a n c] 24 (0, 0)) := by rw [← hw1]; exact heap_alloc_new _ _
  have SV := hide' (fun (V : World) (h : Below w1.heap.size w1 V) => show V.cell? ⟨w.heap.size, 0, none⟩ = some (.int .i64 K) ∧ V.cell? ⟨w.heap.size, 1, none⟩ = some (.int .i64 W) ∧ V.cell? ⟨w.heap.size, 2, none⟩ = some (.int .i64 H) ∧ V.cell? ⟨w.heap.size, 3, none⟩ = some (.slice a n c) from by
    have e1 := (h.block _ (lt_of_block g1)).trans g1
    exact ⟨cell_of_row V _ 0 _ _ _ e1, cell_of_row V _ 1 _ _ _ e1, cell_of_row V _ 2 _ _ _ e1, cell_of_row V _ 3 _ _ _ e1⟩)
  have CC := hide' (Check_G K W H xs a n c w1 (hP.below BB.out))
  have HC := hide' (fun (V : World) (hV : Below w.heap.size w V) => hC.below hV)
  have HL := hide' hC.len
  have hmax := hC.max
  unfold maxLen at hmax
  obtain ⟨c0, c1, c2, c3⟩ := SV.out w1 (Below.refl _ _)
  clear hP hC g1
  by_cases g0 : gasE K W H xs = 0
  · have kind := gasE_kind g0
    rw [g0, show errOf 0 = .nilIface from rfl] at CC
    by_cases k0 : k < 0
    · have F := hide' (show errOf (runGE K W H xs cs k) = .iface 74 (.int .i64 1) by unfold runGE; rw [if_neg (by omega), if_pos (by omega)]; rfl)
      clear kind g0
      go_enter Try.func17, Try.ntmps17
      go_upto_region 1 with fail
      clear hw1
      go_wp2_with fail
      refine CC.out.mono ?_
      rintro e w2 ⟨rfl, b⟩
      have B2 := hide' (BB.out.trans (b.mono BB.out.size))
      clear c0 c1 c2 c3
      obtain ⟨c0, c1, c2, c3⟩ := SV.out w2 b
      clear b
      go_wp2
      go_ret
      rw [F.out]
      exact ⟨rfl, B2.out⟩
    · by_cases k1 : 100000 < k
      · have F := hide' (show errOf (runGE K W H xs cs k) = .iface 74 (.int .i64 1) by unfold runGE; rw [if_neg (by omega), if_pos (by omega)]; rfl)
        clear kind g0
        go_enter Try.func17, Try.ntmps17
        go_upto_region 1 with fail
        clear hw1
        go_wp2_with fail
        refine CC.out.mono ?_
        rintro e w2 ⟨rfl, b⟩
        have B2 := hide' (BB.out.trans (b.mono BB.out.size))
        clear c0 c1 c2 c3
        obtain ⟨c0, c1, c2, c3⟩ := SV.out w2 b
        clear b
        go_wp2
        go_ret
        rw [F.out]
        exact ⟨rfl, B2.out⟩
      · have FN := hide' (fun (h : cs.all cellB = false) => show errOf (runGE K W H xs cs k) = .iface 74 (.int .i64 1) by unfold runGE; rw [if_neg (by omega), if_neg (by omega), if_neg (by rw [h]; simp)]; rfl)
        by_cases k6 : K = 6
        · have m6 : (K == 6) = true := by simp [k6]
          by_cases mz : m = 0
          · have z0 : ((m : Int) == 0) = true := by simp [mz]
            have FO := hide' (fun (h : cs.all cellB = true) => show errOf (runGE K W H xs cs k) = .iface 74 (.int .i64 3) by unfold runGE; rw [if_neg (by omega), if_neg (by omega), if_pos h, if_pos ⟨k6, by rw [← HL.out, mz]⟩]; rfl)
            clear kind g0 k6 mz
            go_enter Try.func17, Try.ntmps17
            go_upto_region 1 with fail
            clear hw1
            go_wp2_with fail
            refine CC.out.mono ?_
            rintro e w2 ⟨rfl, b⟩
            have B2 := hide' (BB.out.trans (b.mono BB.out.size))
            clear c0 c1 c2 c3
            obtain ⟨c0, c1, c2, c3⟩ := SV.out w2 b
            clear b
            go_wp2
            go_loop [24] (fun kv => ∃ k : Nat, kv = .int .i64 (k : Int) ∧ k ≤ m ∧ ∀ j (h : j < cs.length), j < k → cellB cs[j] = true) (fun kv => m - (intOf kv).toNat)
            case atStart => exact ⟨0, rfl, by omega, fun j h hj => by omega⟩
            case round =>
              obtain ⟨k, rfl, hk, hall⟩ := hrel
              have HA := hide' hall
              clear hall
              by_cases d : (k : Int) < (m : Int)
              · have hkl : k < cs.length := by have := HL.out; omega
                obtain ⟨g, off, rfl, hg, hc⟩ := (HC.out w2 B2.out).cells k hkl
                obtain ⟨x, hx⟩ : ∃ x, cs[k] = x := ⟨_, rfl⟩
                rw [hx] at hc
                have HX := hide' hx
                clear hx
                by_cases x0 : x = 0
                · have m2 : (x != 0) = false := by simp [x0]
                  have X := hide' (show cellB x = true by unfold cellB; simp [x0])
                  clear x0
                  go_wp2
                  refine ⟨⟨k + 1, by go_num, by omega, fun j h hj => ?_⟩, by simp [intOf]; omega⟩
                  by_cases e : j = k
                  · subst e; rw [HX.out]; exact X.out
                  · exact HA.out j h (by omega)
                · have m2 : (x != 0) = true := by simp [x0]
                  by_cases x1 : x = 1
                  · have m3 : (x != 1) = false := by simp [x1]
                    have X := hide' (show cellB x = true by unfold cellB; simp [x1])
                    clear x0 x1
                    go_wp2
                    refine ⟨⟨k + 1, by go_num, by omega, fun j h hj => ?_⟩, by simp [intOf]; omega⟩
                    by_cases e : j = k
                    · subst e; rw [HX.out]; exact X.out
                    · exact HA.out j h (by omega)
                  · have m3 : (x != 1) = true := by simp [x1]
                    have X := hide' (show cellB x = false by unfold cellB; simp [x0, x1])
                    clear x0 x1
                    go_wp2
                    go_ret
                    rw [FN.out (all_bad hkl (by rw [HX.out]; exact X.out))]
                    exact ⟨rfl, B2.out⟩
              · have HA2 := hide' (all_ok (fun j h => HA.out j h (by have := HL.out; omega)))
                go_wp2
                go_ret
                rw [FO.out HA2.out]
                exact ⟨rfl, B2.out⟩
          · have z0 : ((m : Int) == 0) = false := by simp [mz]
            have FO := hide' (fun (h : cs.all cellB = true) => show errOf (runGE K W H xs cs k) = .nilIface by unfold runGE; rw [if_neg (by omega), if_neg (by omega), if_pos h, if_neg (fun q => mz (by rw [HL.out]; exact q.2))]; rfl)
            clear kind g0 k6 mz
            go_enter Try.func17, Try.ntmps17
            go_upto_region 1 with fail
            clear hw1
            go_wp2_with fail
            refine CC.out.mono ?_
            rintro e w2 ⟨rfl, b⟩
            have B2 := hide' (BB.out.trans (b.mono BB.out.size))
            clear c0 c1 c2 c3
            obtain ⟨c0, c1, c2, c3⟩ := SV.out w2 b
            clear b
            go_wp2
            go_loop [24] (fun kv => ∃ k : Nat, kv = .int .i64 (k : Int) ∧ k ≤ m ∧ ∀ j (h : j < cs.length), j < k → cellB cs[j] = true) (fun kv => m - (intOf kv).toNat)
            case atStart => exact ⟨0, rfl, by omega, fun j h hj => by omega⟩
            case round =>
              obtain ⟨k, rfl, hk, hall⟩ := hrel
              have HA := hide' hall
              clear hall
              by_cases d : (k : Int) < (m : Int)
              · have hkl : k < cs.length := by have := HL.out; omega
                obtain ⟨g, off, rfl, hg, hc⟩ := (HC.out w2 B2.out).cells k hkl
                obtain ⟨x, hx⟩ : ∃ x, cs[k] = x := ⟨_, rfl⟩
                rw [hx] at hc
                have HX := hide' hx
                clear hx
                by_cases x0 : x = 0
                · have m2 : (x != 0) = false := by simp [x0]
                  have X := hide' (show cellB x = true by unfold cellB; simp [x0])
                  clear x0
                  go_wp2
                  refine ⟨⟨k + 1, by go_num, by omega, fun j h hj => ?_⟩, by simp [intOf]; omega⟩
                  by_cases e : j = k
                  · subst e; rw [HX.out]; exact X.out
                  · exact HA.out j h (by omega)
                · have m2 : (x != 0) = true := by simp [x0]
                  by_cases x1 : x = 1
                  · have m3 : (x != 1) = false := by simp [x1]
                    have X := hide' (show cellB x = true by unfold cellB; simp [x1])
                    clear x0 x1
                    go_wp2
                    refine ⟨⟨k + 1, by go_num, by omega, fun j h hj => ?_⟩, by simp [intOf]; omega⟩
                    by_cases e : j = k
                    · subst e; rw [HX.out]; exact X.out
                    · exact HA.out j h (by omega)
                  · have m3 : (x != 1) = true := by simp [x1]
                    have X := hide' (show cellB x = false by unfold cellB; simp [x0, x1])
                    clear x0 x1
                    go_wp2
                    go_ret
                    rw [FN.out (all_bad hkl (by rw [HX.out]; exact X.out))]
                    exact ⟨rfl, B2.out⟩
              · have HA2 := hide' (all_ok (fun j h => HA.out j h (by have := HL.out; omega)))
                go_wp2
                go_ret
                rw [FO.out HA2.out]
                exact ⟨rfl, B2.out⟩
        · have m6 : (K == 6) = false := by simp [k6]
          have FO := hide' (fun (h : cs.all cellB = true) => show errOf (runGE K W H xs cs k) = .nilIface by unfold runGE; rw [if_neg (by omega), if_neg (by omega), if_pos h, if_neg (fun q => k6 q.1)]; rfl)
          clear kind g0 k6
          go_enter Try.func17, Try.ntmps17
          go_upto_region 1 with fail
          clear hw1
          go_wp2_with fail
          refine CC.out.mono ?_
          rintro e w2 ⟨rfl, b⟩
          have B2 := hide' (BB.out.trans (b.mono BB.out.size))
          clear c0 c1 c2 c3
          obtain ⟨c0, c1, c2, c3⟩ := SV.out w2 b
          clear b
          go_wp2
          go_loop [24] (fun kv => ∃ k : Nat, kv = .int .i64 (k : Int) ∧ k ≤ m ∧ ∀ j (h : j < cs.length), j < k → cellB cs[j] = true) (fun kv => m - (intOf kv).toNat)
          case atStart => exact ⟨0, rfl, by omega, fun j h hj => by omega⟩
          case round =>
            obtain ⟨k, rfl, hk, hall⟩ := hrel
            have HA := hide' hall
            clear hall
            by_cases d : (k : Int) < (m : Int)
            · have hkl : k < cs.length := by have := HL.out; omega
              obtain ⟨g, off, rfl, hg, hc⟩ := (HC.out w2 B2.out).cells k hkl
              obtain ⟨x, hx⟩ : ∃ x, cs[k] = x := ⟨_, rfl⟩
              rw [hx] at hc
              have HX := hide' hx
              clear hx
              by_cases x0 : x = 0
              · have m2 : (x != 0) = false := by simp [x0]
                have X := hide' (show cellB x = true by unfold cellB; simp [x0])
                clear x0
                go_wp2
                refine ⟨⟨k + 1, by go_num, by omega, fun j h hj => ?_⟩, by simp [intOf]; omega⟩
                by_cases e : j = k
                · subst e; rw [HX.out]; exact X.out
                · exact HA.out j h (by omega)
              · have m2 : (x != 0) = true := by simp [x0]
                by_cases x1 : x = 1
                · have m3 : (x != 1) = false := by simp [x1]
                  have X := hide' (show cellB x = true by unfold cellB; simp [x1])
                  clear x0 x1
                  go_wp2
                  refine ⟨⟨k + 1, by go_num, by omega, fun j h hj => ?_⟩, by simp [intOf]; omega⟩
                  by_cases e : j = k
                  · subst e; rw [HX.out]; exact X.out
                  · exact HA.out j h (by omega)
                · have m3 : (x != 1) = true := by simp [x1]
                  have X := hide' (show cellB x = false by unfold cellB; simp [x0, x1])
                  clear x0 x1
                  go_wp2
                  go_ret
                  rw [FN.out (all_bad hkl (by rw [HX.out]; exact X.out))]
                  exact ⟨rfl, B2.out⟩
            · have HA2 := hide' (all_ok (fun j h => HA.out j h (by have := HL.out; omega)))
              go_wp2
              go_ret
              rw [FO.out HA2.out]
              exact ⟨rfl, B2.out⟩
  · have F := hide' (show errOf (runGE K W H xs cs k) = errOf (gasE K W H xs) by unfold runGE; rw [if_pos g0])
    have EI := hide' (errOf_posB g0)
    rw [EI.out] at CC
    clear g0
    go_enter Try.func17, Try.ntmps17
    go_upto_region 1 with fail
    clear hw1
    go_wp2_with fail
    refine CC.out.mono ?_
    rintro e w2 ⟨rfl, b⟩
    have B2 := hide' (BB.out.trans (b.mono BB.out.size))
    clear c0 c1 c2 c3
    obtain ⟨c0, c1, c2, c3⟩ := SV.out w2 b
    clear b
    go_wp2
    go_ret
    rw [F.out, EI.out]
    exact ⟨rfl, B2.out⟩
end Go.Proofs.Ytbkllhlapdmlfaa

namespace Go.Proofs.Ytbkllhlapdmlfaa
open Go.RowKit
set_option linter.unusedVariables false
def nearA (x y : Int) : Bool := decide (-1000000 ≤ x) && decide (x ≤ 1000000) && decide (-1000000 ≤ y) && decide (y ≤ 1000000)
set_option maxRecDepth 100000 in
theorem isNear_any (x y : Int) (w : World) : Calls Try.prog 40 #[.int .i64 x, .int .i64 y] w fun e w' => e = .returned (.bool (nearA x y)) ∧ w' = w := by
  by_cases h1 : -1000000 ≤ x
  · by_cases h2 : x ≤ 1000000
    · by_cases h3 : -1000000 ≤ y
      · by_cases h4 : y ≤ 1000000
        · have NE := hide' (show nearA x y = true by unfold nearA; simp [h1, h2, h3, h4])
          go_enter Try.func40, Try.ntmps40
          go_wp2
          go_ret
          rw [NE.out]; exact ⟨rfl, rfl⟩
        · have NE := hide' (show nearA x y = false by unfold nearA; simp [h1, h2, h3, h4])
          go_enter Try.func40, Try.ntmps40
          go_wp2
          go_ret
          rw [NE.out]; exact ⟨rfl, rfl⟩
      · have NE := hide' (show nearA x y = false by unfold nearA; simp [h1, h2, h3])
        go_enter Try.func40, Try.ntmps40
        go_wp2
        go_ret
        rw [NE.out]; exact ⟨rfl, rfl⟩
    · have NE := hide' (show nearA x y = false by unfold nearA; simp [h1, h2])
      go_enter Try.func40, Try.ntmps40
      go_wp2
      go_ret
      rw [NE.out]; exact ⟨rfl, rfl⟩
  · have NE := hide' (show nearA x y = false by unfold nearA; simp [h1])
    go_enter Try.func40, Try.ntmps40
    go_wp2
    go_ret
    rw [NE.out]; exact ⟨rfl, rfl⟩
def cmpA (a b : Int) : Int := if a < b then -1 else if b < a then 1 else 0
set_option maxRecDepth 100000 in
theorem isNaN_any (x : Int) (w : World) : Calls Try.prog 67 #[.int .i64 x] w fun e w' => e = .returned (.bool false) ∧ w' = w := by
  go_enter Try.func67, Try.ntmps67
  go_wp2
  go_ret
  exact ⟨rfl, rfl⟩
set_option maxRecDepth 100000 in
theorem cmpInt_any (a b : Int) (w : World) : Calls Try.prog 51 #[.int .i64 a, .int .i64 b] w fun e w' => e = .returned (.int .i64 (cmpA a b)) ∧ w' = w := by
  have HN := fun x V => isNaN_any x V
  by_cases h1 : a < b
  · have CE := hide' (show cmpA a b = -1 by unfold cmpA; rw [if_pos h1])
    go_enter Try.func51, Try.ntmps51
    go_wp2_with (go_at_call 67; refine (HN _ _).mono ?_; rintro e w' ⟨rfl, rfl⟩)
    go_ret
    rw [CE.out]; exact ⟨rfl, rfl⟩
  · by_cases h2 : b < a
    · have CE := hide' (show cmpA a b = 1 by unfold cmpA; rw [if_neg h1, if_pos h2])
      go_enter Try.func51, Try.ntmps51
      go_wp2_with (go_at_call 67; refine (HN _ _).mono ?_; rintro e w' ⟨rfl, rfl⟩)
      go_ret
      rw [CE.out]; exact ⟨rfl, rfl⟩
    · have CE := hide' (show cmpA a b = 0 by unfold cmpA; rw [if_neg h1, if_neg h2])
      go_enter Try.func51, Try.ntmps51
      go_wp2_with (go_at_call 67; refine (HN _ _).mono ?_; rintro e w' ⟨rfl, rfl⟩)
      go_ret
      rw [CE.out]; exact ⟨rfl, rfl⟩
/-- A spot: right, down, colour. -/
abbrev SpotT := Int × Int × Int
def plcA (p q : SpotT) : Int := if p.2.1 = q.2.1 then cmpA p.1 q.1 else cmpA p.2.1 q.2.1
def spV (p : SpotT) : Array Value := #[.int .i64 p.1, .int .i64 p.2.1, .int .i64 p.2.2]
set_option maxRecDepth 100000 in
theorem byPlace_any (p q : SpotT) (w : World) : Calls Try.prog 45 #[.agg (spV p), .agg (spV q)] w fun e w' => e = .returned (.int .i64 (plcA p q)) ∧ w' = (w.alloc (.cells (spV p) 73)).alloc (.cells (spV q) 73) := by
  obtain ⟨a1, a2, a3⟩ := p
  obtain ⟨b1, b2, b3⟩ := q
  have HC := fun x y V => cmpInt_any x y V
  unfold spV
  by_cases h1 : a2 = b2
  · subst h1
    have CE := hide' (show plcA (a1, a2, a3) (b1, a2, b3) = cmpA a1 b1 by unfold plcA; rw [if_pos rfl])
    go_enter Try.func45, Try.ntmps45
    go_wp2_with (go_at_call 51; refine (HC _ _ _).mono ?_; rintro e w' ⟨rfl, rfl⟩)
    go_ret
    rw [CE.out]; exact ⟨rfl, rfl⟩
  · have CE := hide' (show plcA (a1, a2, a3) (b1, b2, b3) = cmpA a2 b2 by unfold plcA; rw [if_neg h1])
    have n1 : (a2 == b2) = false := by simp [h1]
    go_enter Try.func45, Try.ntmps45
    go_wp2_with (go_at_call 51; refine (HC _ _ _).mono ?_; rintro e w' ⟨rfl, rfl⟩)
    go_ret
    rw [CE.out]; exact ⟨rfl, rfl⟩
end Go.Proofs.Ytbkllhlapdmlfaa

