/-
  What the last text of this claim leans on, part 8: Aa3, Aa4, Ab1, Gb1.
-/
import Derived.Test.YtdkomlgkkepioaaDoorJw7
import Derived.Test.YtdkomlgkkepioaaDoorJw3
import Derived.Test.YtdkomlgkkepioaaDoorJw2
import Derived.Deep.RegionHeld3
import Derived.Maps.OwnSet
import Derived.Maps.OwnOps
import Derived.WideKeyArgs
import Derived.DeepKeys4
import Derived.Laws.ComplexArith
namespace Go.Proofs.YtdkomlgkkepioaaDoor
open Go.RowKit
set_option linter.unusedVariables false
/-- Spots that lie in a row. -/
structure ArgS (w : World) (xs : List SpotT) (a : Option Addr) (n c : Nat) : Prop where
  len : n = xs.length
  max : n ≤ 9223372036854775807
  cells : ∀ k (h : k < xs.length), ∃ g off, a = some ⟨g, off, none⟩ ∧ g < w.heap.size ∧ w.cell? ⟨g, off + k * 3, none⟩ = some (.int .i64 xs[k].1) ∧ w.cell? ⟨g, off + k * 3 + 1, none⟩ = some (.int .i64 xs[k].2.1) ∧ w.cell? ⟨g, off + k * 3 + 2, none⟩ = some (.int .i64 xs[k].2.2)
theorem ArgS.below {w w' : World} {xs : List SpotT} {a : Option Addr} {n c : Nat} (h : ArgS w xs a n c) (hb : Below w.heap.size w w') : ArgS w' xs a n c :=
  ⟨h.len, h.max, fun k hk => by
    obtain ⟨g, off, e, hg, h1, h2, h3⟩ := h.cells k hk
    have b := hb.block g hg
    exact ⟨g, off, e, Nat.lt_of_lt_of_le hg hb.size, (World.cell?_of_block (w := w) (a := ⟨g, off + k * 3, none⟩) b).trans h1, (World.cell?_of_block (w := w) (a := ⟨g, off + k * 3 + 1, none⟩) b).trans h2, (World.cell?_of_block (w := w) (a := ⟨g, off + k * 3 + 2, none⟩) b).trans h3⟩⟩
def spotB (L : Int) (p : SpotT) : Bool := nearA p.1 p.2.1 && decide (1 ≤ p.2.2) && decide (p.2.2 < L)
def risB (xs : List SpotT) : Bool := (List.range (xs.length - 1)).all fun i => decide (plcA (xs.getD i (0, 0, 0)) (xs.getD (i + 1) (0, 0, 0)) < 0)
/-- What is wrong with spots. -/
def spotE (L : Int) (xs : List SpotT) : Nat := if xs.all (spotB L) then (if risB xs then 0 else 3) else 1
theorem allS_bad {L : Int} {xs : List SpotT} {k : Nat} (hk : k < xs.length) (h : spotB L xs[k] = false) : spotE L xs = 1 := by
  unfold spotE
  rw [if_neg]
  intro q
  have := List.all_eq_true.1 q xs[k] (List.getElem_mem hk)
  rw [h] at this; cases this
theorem allS_ok {L : Int} {xs : List SpotT} (h : ∀ k (hk : k < xs.length), spotB L xs[k] = true) : xs.all (spotB L) = true := by
  refine List.all_eq_true.2 fun x hx => ?_
  obtain ⟨k, hk, rfl⟩ := List.getElem_of_mem hx
  exact h k hk
theorem ris_bad {L : Int} {xs : List SpotT} (ha : xs.all (spotB L) = true) {k : Nat} (h1 : 1 ≤ k) (hk : k < xs.length) (h : ¬ plcA (xs.getD (k - 1) (0, 0, 0)) (xs.getD k (0, 0, 0)) < 0) : spotE L xs = 3 := by
  unfold spotE
  rw [if_pos ha, if_neg]
  intro q
  have := List.all_eq_true.1 q (k - 1) (List.mem_range.2 (by omega))
  rw [show k - 1 + 1 = k by omega] at this
  exact h (of_decide_eq_true this)
theorem ris_ok {L : Int} {xs : List SpotT} (ha : xs.all (spotB L) = true) (h : ∀ k, 1 ≤ k → k < xs.length → plcA (xs.getD (k - 1) (0, 0, 0)) (xs.getD k (0, 0, 0)) < 0) : spotE L xs = 0 := by
  unfold spotE
  rw [if_pos ha, if_pos]
  refine List.all_eq_true.2 fun i hi => ?_
  have hi := List.mem_range.1 hi
  have := h (i + 1) (by omega) (by omega)
  rw [show i + 1 - 1 = i by omega] at this
  exact decide_eq_true this
theorem getD_at {xs : List SpotT} {k : Nat} (h : k < xs.length) : xs.getD k (0, 0, 0) = xs[k] := by simp [List.getD, h]
set_option maxRecDepth 100000 in
set_option maxHeartbeats 3200000 in
theorem checkSpots_any (L : Int) (xs : List SpotT) (a : Option Addr) (n c : Nat) (w : World) (hP : ArgS w xs a n c) :
    Calls Tryd.prog 65 #[.slice a n c, .int .i64 L] w fun e w' => e = .returned (errOf (spotE L xs)) ∧ Below w.heap.size w w' := by
  have HL := hide' hP.len
  have nm := hP.max
  have HP := hide' (fun (V : World) (h : Below w.heap.size w V) => hP.below h)
  have HN := hide' (fun x y V => isNear_any x y V)
  have HB := hide' (fun p q V => byPlace_any p q V)
  clear hP
  go_enter Tryd.func65, Tryd.ntmps65
  go_wp2
  go_loopw [10] (fun kv wr => ∃ k : Nat, kv = .int .i64 (k : Int) ∧ k ≤ n ∧ Hid (Below w.heap.size w wr) ∧ Hid (∀ j (h : j < xs.length), j < k → spotB L xs[j] = true)) (fun kv _ => n - (intOf kv).toNat)
  case atStart => exact ⟨0, rfl, by omega, hide' (Below.refl _ _), hide' (fun j h hj => by omega)⟩
  case round =>
    obtain ⟨k, rfl, hk, BW, HA⟩ := hrel
    by_cases d : (k : Int) < (n : Int)
    · have hkl : k < xs.length := by have := HL.out; omega
      obtain ⟨g, off, rfl, hg, c0, c1, c2⟩ := (HP.out wr BW.out).cells k hkl
      obtain ⟨⟨x, y, z⟩, hx⟩ : ∃ x, xs[k] = x := ⟨_, rfl⟩
      rw [hx] at c0 c1 c2
      simp only at c0 c1 c2
      have HX := hide' hx
      have BN := hide' (show Below w.heap.size w (wr.alloc (.cells #[.int .i64 x, .int .i64 y, .int .i64 z] 136)) from BW.out.alloc BW.out.size _)
      clear hx
      have NN := hide' (fun V => HN.out x y V)
      cases hn : nearA x y
      · have X := hide' (show spotE L xs = 1 from allS_bad hkl (by rw [HX.out]; simp [spotB, hn]))
        rw [hn] at NN
        clear hn
        go_wp2_with fail
        refine (NN.out _).mono ?_
        rintro e w2 ⟨rfl, rfl⟩
        go_wp2
        go_ret
        rw [X.out]
        exact ⟨rfl, BN.out⟩
      · rw [hn] at NN
        by_cases z1 : z < 1
        · have X := hide' (show spotE L xs = 1 from allS_bad hkl (by rw [HX.out]; simp [spotB, hn]; omega))
          clear hn
          go_wp2_with fail
          refine (NN.out _).mono ?_
          rintro e w2 ⟨rfl, rfl⟩
          go_wp2
          go_ret
          rw [X.out]
          exact ⟨rfl, BN.out⟩
        · by_cases z2 : L ≤ z
          · have X := hide' (show spotE L xs = 1 from allS_bad hkl (by rw [HX.out]; simp [spotB, hn]; omega))
            clear hn
            go_wp2_with fail
            refine (NN.out _).mono ?_
            rintro e w2 ⟨rfl, rfl⟩
            go_wp2
            go_ret
            rw [X.out]
            exact ⟨rfl, BN.out⟩
          · have X := hide' (show spotB L xs[k] = true by rw [HX.out]; simp [spotB, hn]; omega)
            clear hn
            go_wp2_with fail
            refine (NN.out _).mono ?_
            rintro e w2 ⟨rfl, rfl⟩
            go_wp2
            refine ⟨⟨k + 1, by go_num, by omega, BN, hide' fun j h hj => ?_⟩, by simp [intOf]; omega⟩
            by_cases e : j = k
            · subst e; exact X.out
            · exact HA.out j h (by omega)
    · have AA := hide' (allS_ok (fun j h => HA.out j h (by have := HL.out; omega)))
      obtain ⟨V0, rfl⟩ : ∃ V0, V0 = wr := ⟨_, rfl⟩
      clear HA
      go_wp2
      go_loopw [7] (fun kv wr => ∃ k : Nat, kv = .int .i64 (k : Int) ∧ 1 ≤ k ∧ (k ≤ n ∨ k = 1) ∧ Hid (Below w.heap.size w wr) ∧ Hid (∀ j, 1 ≤ j → j < xs.length → j < k → plcA (xs.getD (j - 1) (0, 0, 0)) (xs.getD j (0, 0, 0)) < 0)) (fun kv _ => n - (intOf kv).toNat)
      case atStart => exact ⟨1, rfl, by omega, Or.inr rfl, BW, hide' (fun j h1 h2 hj => by omega)⟩
      case round =>
        obtain ⟨i, rfl, hi, hi2, BX, HA⟩ := hrel
        clear hi2
        by_cases di : (i : Int) < (n : Int)
        · have hil : i < xs.length := by have := HL.out; omega
          have hil1 : i - 1 < xs.length := by omega
          obtain ⟨g, off, rfl, hg, c0, c1, c2⟩ := (HP.out wr BX.out).cells i hil
          obtain ⟨g', off', e', hg', b0, b1, b2⟩ := (HP.out wr BX.out).cells (i - 1) hil1
          cases e'
          obtain ⟨j, hj⟩ : ∃ j, i - 1 = j := ⟨_, rfl⟩
          obtain ⟨⟨x, y, z⟩, hx⟩ : ∃ x, xs[i] = x := ⟨_, rfl⟩
          obtain ⟨⟨u, v, t⟩, hu⟩ : ∃ x, xs[i - 1] = x := ⟨_, rfl⟩
          rw [hx] at c0 c1 c2
          rw [hu, hj] at b0 b1 b2
          simp only at c0 c1 c2 b0 b1 b2
          have ij : i = j + 1 := by omega
          have PE := hide' (show plcA (xs.getD (i - 1) (0, 0, 0)) (xs.getD i (0, 0, 0)) = plcA (u, v, t) (x, y, z) by rw [getD_at hil, getD_at hil1, hx, hu])
          have BP := hide' (HB.out (u, v, t) (x, y, z))
          unfold spV at BP
          obtain ⟨r, hr⟩ : ∃ r, plcA (u, v, t) (x, y, z) = r := ⟨_, rfl⟩
          rw [hr] at BP PE
          simp only at BP
          have jn : (j : Int) < (n : Int) := by omega
          have wj : IntKind.i64.wrap ((i : Int) - 1) = (j : Int) := by simp [IntKind.wrap, IntKind.bits, IntKind.signed]; omega
          have wj2 : wrap64 ((i : Int) - 1) = (j : Int) := by simp [wrap64]; omega
          have i0 : (0 : Int) ≤ (i : Int) := by omega
          have j0 : (0 : Int) ≤ (j : Int) := by omega
          have IJ := hide' ij
          clear ij
          have BR := hide' (show Below wr.heap.size wr ((wr.alloc (.cells #[.int .i64 u, .int .i64 v, .int .i64 t] 136)).alloc (.cells #[.int .i64 x, .int .i64 y, .int .i64 z] 136)).drew from (((Below.refl _ _).alloc (Nat.le_refl _) _).alloc (by simp) _).drew)
          have BD := hide' (BX.out.trans (BR.out.mono BX.out.size))
          have SV := hide' (fun (V : World) (h : Below wr.heap.size wr V) => show V.cell? ⟨g, off + i * 3, none⟩ = some (.int .i64 x) ∧ V.cell? ⟨g, off + i * 3 + 1, none⟩ = some (.int .i64 y) ∧ V.cell? ⟨g, off + i * 3 + 2, none⟩ = some (.int .i64 z) ∧ V.cell? ⟨g, off + j * 3, none⟩ = some (.int .i64 u) ∧ V.cell? ⟨g, off + j * 3 + 1, none⟩ = some (.int .i64 v) ∧ V.cell? ⟨g, off + j * 3 + 2, none⟩ = some (.int .i64 t) from ⟨(World.cell?_of_block (w := wr) (a := ⟨g, off + i * 3, none⟩) (h.block g hg)).trans c0, (World.cell?_of_block (w := wr) (a := ⟨g, off + i * 3 + 1, none⟩) (h.block g hg)).trans c1, (World.cell?_of_block (w := wr) (a := ⟨g, off + i * 3 + 2, none⟩) (h.block g hg)).trans c2, (World.cell?_of_block (w := wr) (a := ⟨g, off + j * 3, none⟩) (h.block g hg)).trans b0, (World.cell?_of_block (w := wr) (a := ⟨g, off + j * 3 + 1, none⟩) (h.block g hg)).trans b1, (World.cell?_of_block (w := wr) (a := ⟨g, off + j * 3 + 2, none⟩) (h.block g hg)).trans b2⟩)
          have HH := hide' (And.intro hil hil1)
          have SS := hide' (And.intro c0 (And.intro c1 (And.intro c2 (And.intro b0 (And.intro b1 b2)))))
          clear hx hu hr hj hil hil1
          go_wp2
          go_region_held3 (fun V => V.cell? ⟨g, off + i * 3, none⟩ = some (.int .i64 x) ∧ V.cell? ⟨g, off + i * 3 + 1, none⟩ = some (.int .i64 y) ∧ V.cell? ⟨g, off + i * 3 + 2, none⟩ = some (.int .i64 z) ∧ V.cell? ⟨g, off + j * 3, none⟩ = some (.int .i64 u) ∧ V.cell? ⟨g, off + j * 3 + 1, none⟩ = some (.int .i64 v) ∧ V.cell? ⟨g, off + j * 3 + 2, none⟩ = some (.int .i64 t)) (first | exact SV.out _ BR.out | exact SS.out | exact SV.out _ (Below.refl _ _) | exact SV.out _ ((Below.refl _ _).drew) | fail)
            (first | (go_at_call 117; refine (BP.out _).mono ?_; rintro e' w9 ⟨rfl, rfl⟩) | fail)
          clear c0 c1 c2 b0 b1 b2
          by_cases r0 : r < 0
          · have NR := hide' (show ∀ j', 1 ≤ j' → j' < xs.length → j' < i + 1 → plcA (xs.getD (j' - 1) (0, 0, 0)) (xs.getD j' (0, 0, 0)) < 0 from fun j' h1 h2 h3 => by
              by_cases e : j' = i
              · subst e; rw [PE.out]; exact r0
              · exact HA.out j' h1 h2 (by omega))
            go_wp2
            exact ⟨⟨i + 1, by go_num, by omega, Or.inl (by omega), BD, NR⟩, by simp [intOf]; omega⟩
          · have RE := hide' (ris_bad (L := L) AA.out hi HH.out.1 (by rw [PE.out]; exact r0))
            have r1 : (0 : Int) ≤ r := by omega
            go_wp2
            go_ret
            rw [RE.out]
            exact ⟨rfl, BD.out⟩
        · have RE := hide' (ris_ok (L := L) AA.out (fun k h1 h2 => HA.out k h1 h2 (by have := HL.out; omega)))
          go_wp2
          go_ret
          rw [RE.out]
          exact ⟨rfl, BX.out⟩
end Go.Proofs.YtdkomlgkkepioaaDoor

namespace Go.Proofs.YtdkomlgkkepioaaDoor
open Go.RowKit
set_option linter.unusedVariables false
def AntOk (o : Out) (xs : List SpotT) (x y d k : Int) : Prop := Good o ∧ o.kind = 3 ∧ spotE (o.turns.size : Int) xs = 0 ∧ nearA x y = true ∧ 0 ≤ d ∧ d ≤ 3 ∧ 0 ≤ k ∧ k ≤ 100000
/-- What is told of a walk. -/
def AntErr (o : Out) (xs : List SpotT) (x y d k : Int) (f : Nat) : Prop := (¬ Good o ∧ f = 1) ∨ (Good o ∧ o.kind ≠ 3 ∧ f = 1) ∨ (Good o ∧ o.kind = 3 ∧ spotE (o.turns.size : Int) xs ≠ 0 ∧ f = spotE (o.turns.size : Int) xs) ∨ (Good o ∧ o.kind = 3 ∧ spotE (o.turns.size : Int) xs = 0 ∧ ¬ (nearA x y = true ∧ 0 ≤ d ∧ d ≤ 3 ∧ 0 ≤ k ∧ k ≤ 100000) ∧ f = 1) ∨ (AntOk o xs x y d k ∧ f = 0)
set_option maxRecDepth 100000 in
set_option maxHeartbeats 6400000 in
theorem checkWalk_any (o : Out) (a : Option Addr) (n c : Nat) (xs : List SpotT) (b : Option Addr) (m e : Nat) (x y d k : Int) (w : World) (hR : ArgR w o a n c) (hS : ArgS w xs b m e) :
    Calls Tryd.prog 67 #[.agg #[.int .i64 o.kind, .int .i64 o.born, .int .i64 o.stay, .int .i64 o.states, .int .i64 o.radius, .slice a n c, .string o.turns], .slice b m e, .agg #[.int .i64 x, .int .i64 y, .int .i64 d], .int .i64 k] w fun e' w' => ∃ f, AntErr o xs x y d k f ∧ e' = .returned (errOf f) ∧ Below w.heap.size w w' := by
  obtain ⟨w1, hw1⟩ : ∃ w1, (w.alloc (.cells #[.int .i64 o.kind, .int .i64 o.born, .int .i64 o.stay, .int .i64 o.states, .int .i64 o.radius, .slice a n c, .string o.turns] 24)).alloc (.cells #[.int .i64 x, .int .i64 y, .int .i64 d] 50) = w1 := ⟨_, rfl⟩
  have BB := hide' (show Below w.heap.size w w1 by rw [← hw1]; exact ((Below.refl _ _).alloc (Nat.le_refl _) _).alloc (by simp) _)
  have g1 : w1.heap[w.heap.size]? = some (.cells #[.int .i64 o.kind, .int .i64 o.born, .int .i64 o.stay, .int .i64 o.states, .int .i64 o.radius, .slice a n c, .string o.turns] 24 (0, 0)) := by rw [← hw1, Below.heap_alloc _ _ _ (by simp)]; exact heap_alloc_new _ _
  have g2 : w1.heap[w.heap.size + 1]? = some (.cells #[.int .i64 x, .int .i64 y, .int .i64 d] 50 (0, 0)) := by rw [← hw1]; exact heap_atX _ _ _ (by simp)
  have SV := hide' (fun (V : World) (h : Below w1.heap.size w1 V) => show V.cell? ⟨w.heap.size, 0, none⟩ = some (.int .i64 o.kind) ∧ V.cell? ⟨w.heap.size, 1, none⟩ = some (.int .i64 o.born) ∧ V.cell? ⟨w.heap.size, 2, none⟩ = some (.int .i64 o.stay) ∧ V.cell? ⟨w.heap.size, 3, none⟩ = some (.int .i64 o.states) ∧ V.cell? ⟨w.heap.size, 4, none⟩ = some (.int .i64 o.radius) ∧ V.cell? ⟨w.heap.size, 5, none⟩ = some (.slice a n c) ∧ V.cell? ⟨w.heap.size, 6, none⟩ = some (.string o.turns) ∧ V.cell? ⟨w.heap.size + 1, 0, none⟩ = some (.int .i64 x) ∧ V.cell? ⟨w.heap.size + 1, 1, none⟩ = some (.int .i64 y) ∧ V.cell? ⟨w.heap.size + 1, 2, none⟩ = some (.int .i64 d) from by
    have e1 := (h.block _ (lt_of_block g1)).trans g1
    have e2 := (h.block _ (lt_of_block g2)).trans g2
    exact ⟨cell_of_row V _ 0 _ _ _ e1, cell_of_row V _ 1 _ _ _ e1, cell_of_row V _ 2 _ _ _ e1, cell_of_row V _ 3 _ _ _ e1, cell_of_row V _ 4 _ _ _ e1, cell_of_row V _ 5 _ _ _ e1, cell_of_row V _ 6 _ _ _ e1, cell_of_row V _ 0 _ _ _ e2, cell_of_row V _ 1 _ _ _ e2, cell_of_row V _ 2 _ _ _ e2⟩)
  have BW := hide' (fun (V : World) (h : Below w1.heap.size w1 V) => BB.out.trans (h.mono BB.out.size))
  have CK := hide' (Check_any o a n c w1 (hR.below BB.out))
  have SP := hide' (fun (V : World) (h : Below w1.heap.size w1 V) => checkSpots_any (o.turns.size : Int) xs b m e V (hS.below (BW.out V h)))
  have TM := hR.tmax
  have NR := hide' (fun V => isNear_any x y V)
  obtain ⟨c0, c1, c2, c3, c4, c5, c6, d0, d1, d2⟩ := SV.out w1 (Below.refl _ _)
  clear hR hS g1 g2
  go_enter Tryd.func67, Tryd.ntmps67
  go_upto_region 1 with fail
  clear hw1
  go_wp2_with fail
  refine CK.out.mono ?_
  rintro e' w2 ⟨he, b'⟩
  have C2 := hide' b'
  clear b' c0 c1 c2 c3 c4 c5 c6 d0 d1 d2
  obtain ⟨c0, c1, c2, c3, c4, c5, c6, d0, d1, d2⟩ := SV.out w2 C2.out
  rcases he with ⟨rfl, g⟩ | ⟨rfl, g⟩
  · have GO := hide' g
    clear g
    by_cases k3 : o.kind = 3
    · have k3b : (o.kind == 3) = true := by simp [k3]
      have K3 := hide' k3
      rw [k3] at c0
      clear k3
      have SE := hide' (SP.out w2 C2.out)
      by_cases s0 : spotE (o.turns.size : Int) xs = 0
      · have S0 := hide' s0
        rw [s0, show errOf 0 = .nilIface from rfl] at SE
        clear s0
        go_wp2_with fail
        refine SE.out.mono ?_
        rintro e' w3 ⟨rfl, b'⟩
        have C3 := hide' (C2.out.trans (b'.mono C2.out.size))
        clear b' c0 c1 c2 c3 c4 c5 c6 d0 d1 d2
        obtain ⟨c0, c1, c2, c3, c4, c5, c6, d0, d1, d2⟩ := SV.out w3 C3.out
        cases hn : nearA x y
        · rw [hn] at NR
          have F := hide' (show AntErr o xs x y d k 1 from Or.inr (Or.inr (Or.inr (Or.inl ⟨GO.out, K3.out, S0.out, (fun q => by rw [hn] at q; cases q.1), rfl⟩))))
          clear hn
          go_wp2_with fail
          refine (NR.out _).mono ?_
          rintro e' w4 ⟨rfl, rfl⟩
          go_wp2
          go_ret
          exact ⟨1, F.out, rfl, BW.out _ C3.out⟩
        · rw [hn] at NR
          have HN := hide' hn
          clear hn
          by_cases p1 : d < 0
          · have F := hide' (show AntErr o xs x y d k 1 from Or.inr (Or.inr (Or.inr (Or.inl ⟨GO.out, K3.out, S0.out, fun q => by omega, rfl⟩))))
            go_wp2_with fail
            refine (NR.out _).mono ?_
            rintro e' w4 ⟨rfl, rfl⟩
            go_wp2
            go_ret
            exact ⟨1, F.out, rfl, BW.out _ C3.out⟩
          · by_cases p2 : 3 < d
            · have F := hide' (show AntErr o xs x y d k 1 from Or.inr (Or.inr (Or.inr (Or.inl ⟨GO.out, K3.out, S0.out, fun q => by omega, rfl⟩))))
              go_wp2_with fail
              refine (NR.out _).mono ?_
              rintro e' w4 ⟨rfl, rfl⟩
              go_wp2
              go_ret
              exact ⟨1, F.out, rfl, BW.out _ C3.out⟩
            · by_cases q1 : k < 0
              · have F := hide' (show AntErr o xs x y d k 1 from Or.inr (Or.inr (Or.inr (Or.inl ⟨GO.out, K3.out, S0.out, fun q => by omega, rfl⟩))))
                go_wp2_with fail
                refine (NR.out _).mono ?_
                rintro e' w4 ⟨rfl, rfl⟩
                go_wp2
                go_ret
                exact ⟨1, F.out, rfl, BW.out _ C3.out⟩
              · by_cases q2 : 100000 < k
                · have F := hide' (show AntErr o xs x y d k 1 from Or.inr (Or.inr (Or.inr (Or.inl ⟨GO.out, K3.out, S0.out, fun q => by omega, rfl⟩))))
                  go_wp2_with fail
                  refine (NR.out _).mono ?_
                  rintro e' w4 ⟨rfl, rfl⟩
                  go_wp2
                  go_ret
                  exact ⟨1, F.out, rfl, BW.out _ C3.out⟩
                · have F := hide' (show AntErr o xs x y d k 0 from Or.inr (Or.inr (Or.inr (Or.inr ⟨⟨GO.out, K3.out, S0.out, HN.out, by omega, by omega, by omega, by omega⟩, rfl⟩))))
                  go_wp2_with fail
                  refine (NR.out _).mono ?_
                  rintro e' w4 ⟨rfl, rfl⟩
                  go_wp2
                  go_ret
                  exact ⟨0, F.out, rfl, BW.out _ C3.out⟩
      · have F := hide' (show AntErr o xs x y d k (spotE (o.turns.size : Int) xs) from Or.inr (Or.inr (Or.inl ⟨GO.out, K3.out, s0, rfl⟩)))
        have EP := hide' (errOf_posB s0)
        rw [EP.out] at SE
        clear s0
        go_wp2_with fail
        refine SE.out.mono ?_
        rintro e' w3 ⟨rfl, b'⟩
        have C3 := hide' (C2.out.trans (b'.mono C2.out.size))
        clear b'
        go_wp2
        go_ret
        exact ⟨_, F.out, by rw [EP.out]; rfl, BW.out _ C3.out⟩
    · have F := hide' (show AntErr o xs x y d k 1 from Or.inr (Or.inl ⟨GO.out, k3, rfl⟩))
      have k3b : (o.kind == 3) = false := by simp [k3]
      go_wp2
      go_ret
      exact ⟨1, F.out, rfl, BW.out _ C2.out⟩
  · have F := hide' (show AntErr o xs x y d k 1 from Or.inl ⟨g, rfl⟩)
    clear g
    go_wp2
    go_ret
    exact ⟨1, F.out, rfl, BW.out _ C2.out⟩
end Go.Proofs.YtdkomlgkkepioaaDoor

namespace Go.Proofs.YtdkomlgkkepioaaDoor
open Go.RowKit
open Go.Maps (Keyed)
set_option linter.unusedVariables false
theorem laidOutC : laidOutB Tryd.prog = true := by kernel_rfl
theorem typesC : Tryd.prog.types.size = 378 := by kernel_rfl
theorem rowC : (216 : TypeId) < Tryd.prog.types.size := of_decide_eq_true (by kernel_rfl)
theorem cellsC : Tryd.prog.cellsOf 216 = 2 := by kernel_rfl
theorem cellsI : Tryd.prog.cellsOf 3 = 1 := by kernel_rfl
theorem deepC : Tryd.prog.keyType 216 = true := by kernel_rfl
theorem wideC : (match Tryd.prog.underlying 216 with | some (.array _ _) | some (.struct _) => true | _ => false) = true := by rw [Tryd.underlying216]
set_option maxRecDepth 100000 in
theorem lawC : Keyed Tryd.prog 216 := Keyed.of_law (deep_law_laid laidOutC (m := 2) (by omega) rowC (by kernel_rfl) wideC)
theorem formedC {x y : Int} : (Value.agg #[.int .i64 x, .int .i64 y]).formed Tryd.prog 216 = true := by simp [Value.formed, Tryd.underlying216, cellsC]
def kC (x y : Int) : Lit := .string (keyBytes [.int .i64 x, .int .i64 y])
def inC (x : Int) : Prop := -3000000 ≤ x ∧ x ≤ 3000000
theorem wfC {x : Int} (h : inC x) : (Lit.int .i64 x).wf = true := by unfold inC at h; exact WalkArith.wf_i64 (by omega)
theorem key_cell {x y : Int} (hx : inC x) (hy : inC y) : keyOf Tryd.prog 216 (.agg #[.int .i64 x, .int .i64 y]) = some (kC x y) := by
  have h1 := wfC hx
  have h2 := wfC hy
  unfold keyOf kC
  rw [Tryd.underlying216]
  simp only [deepC, formedC, Bool.and_self, if_true]
  have h3 : Tryd.prog.keyLits (Tryd.prog.types.size + 1) 216 (Value.agg #[.int .i64 x, .int .i64 y]).cells.toList = some [.int .i64 x, .int .i64 y] := by
    obtain ⟨n, hn⟩ : ∃ n, Tryd.prog.types.size = n + 1 := ⟨378 - 1, by rw [typesC]⟩
    rw [hn]
    simp [Program.keyLits, Tryd.underlying216, Tryd.underlying3, Value.cells, cellsI, cellsC, h1, h2]
  rw [h3]
  rfl
theorem kC_inj {x y u v : Int} (hx : inC x) (hy : inC y) (hu : inC u) (hv : inC v) (h : kC x y = kC u v) : x = u ∧ y = v := by
  have := lawC.inj (key_cell hx hy) ((key_cell hu hv).trans (by rw [h]))
  simpa using this
end Go.Proofs.YtdkomlgkkepioaaDoor

namespace Go.Proofs.YtdkomlgkkepioaaDoor
open Go.RowKit
set_option linter.unusedVariables false
/-- The bits of a whole number. -/
def fI (n : Int) : Nat := floatOfInt .f64 n
end Go.Proofs.YtdkomlgkkepioaaDoor

