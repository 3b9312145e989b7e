/-
  What the last text of this claim leans on, part 10: Cf1, Cg3, Ci0.
-/
import Derived.Test.YtdkomlgkkepioaaDoorJr8
import Derived.Test.YtdkomlgkkepioaaDoorJr1
namespace Go.Proofs.YtdkomlgkkepioaaDoor
open Go.RowKit
set_option linter.unusedVariables false
theorem primI_at (m : Nat) (hm : m ≤ 28) (i : Nat) (hi : i < m) : ∃ h : i < (primI m).length, (primI m)[i] = (prN i : Int) := by
  have hl : primT.length = 28 := by decide
  have h1 : i < (primI m).length := by unfold primI; simp [hl]; omega
  refine ⟨h1, ?_⟩
  unfold primI prN
  simp [List.getD, show i < primT.length by omega]
set_option maxRecDepth 100000 in
set_option maxHeartbeats 12800000 in
theorem refFractions_any (xs : List InsT) (a : Option Addr) (n c : Nat) (w : World) (hP : ArgI w xs a n c) (hc : codeE xs = 0) :
    Calls Tryd.prog 40 #[.slice a n c] w fun e w' => ∃ B a q, w.heap.size ≤ B ∧ e = .returned (.slice a (fraL xs).length q) ∧ w'.ownsRow B 166 2 (.slice a (fraL xs).length q) (fraL xs).length (flF (fraL xs)) ∧ Below w.heap.size w w' := by
  obtain ⟨n1, n12, hx⟩ := code_at hc
  have HX := hide' hx
  have HL := hide' hP.len
  have nl := hP.len
  have m12 : n ≤ 12 := by omega
  have m1 : 1 ≤ n := by omega
  have HP := hide' (fun (V : World) (h : Below w.heap.size w V) => hP.below h)
  obtain ⟨i0, hi0, hz⟩ := Option.map_eq_some_iff.1 info_fra
  simp only [Prod.mk.injEq] at hz
  obtain ⟨hz0, hz1, hz2⟩ := hz
  obtain ⟨m, hm⟩ : ∃ m, 4 + 2 * n = m := ⟨_, rfl⟩
  have f1 : (4 : Int) + 2 * (n : Int) = (m : Int) := by omega
  have m28 : m ≤ 28 := by omega
  have PC := hide' (refPrimes_any m m28 w)
  have HM := hide' hm
  clear hP hc n1 n12 hx nl hm
  go_enter Tryd.func40, Tryd.ntmps40
  go_wp2_with fail
  refine PC.out.mono ?_
  rintro e w1 ⟨pa, pq, rfl, hA, b1⟩
  have C1 := hide' b1
  have z1 : w.heap.size ≤ w1.heap.size := b1.size
  obtain ⟨pg, po, rfl, hpg, PA⟩ : ∃ pg po, pa = some ⟨pg, po, none⟩ ∧ pg < w1.heap.size ∧ Hid (∀ V, Below w1.heap.size w1 V → ∀ i, i < m → V.cell? ⟨pg, po + i, none⟩ = some (.int .i64 (prN i : Int))) := by
    have hm := HM.out
    obtain ⟨pg, po, rfl, hg, _⟩ := hA.cells 0 (primI_at m m28 0 (by omega)).1
    refine ⟨pg, po, rfl, hg, hide' fun V hV i hi => ?_⟩
    obtain ⟨g', o', e', hg', hc'⟩ := (hA.below hV).cells i (primI_at m m28 i hi).1
    cases e'
    rw [(primI_at m m28 i hi).2] at hc'
    exact hc'
  clear hA b1 f1
  go_wp2
  go_loopw [4, 5] (fun ov kv wr => ∃ (k N : Nat) (oa : Option Addr) (q : Nat), kv = .int .i64 (k : Int) ∧ ov = .slice oa N q ∧ k ≤ n ∧ N ≤ 24 ∧ Hid ((linesF xs k).length = N ∧ wr.ownsRow w1.heap.size 166 2 (.slice oa N q) N (flF (linesF xs k))) ∧ Hid (Below w1.heap.size w1 wr)) (fun _ kv _ => n - (intOf kv).toNat)
  case atStart => exact ⟨0, 0, none, 0, rfl, rfl, by omega, by omega, hide' ⟨rfl, World.ownsRow_nil w1 w1.heap.size 166 2⟩, hide' (Below.refl _ _)⟩
  case round =>
    obtain ⟨k, N, oa, q, rfl, rfl, hk, N24, OW, BW⟩ := hrel
    by_cases d : (k : Int) < (n : Int)
    · have hkl : k < xs.length := by have := HL.out; omega
      obtain ⟨g, off, rfl, hg, c0, c1, c2, c3⟩ := (HP.out wr (C1.out.trans (BW.out.mono z1))).cells k hkl
      have hi := ins_parts (HX.out k hkl)
      have LN := hide' (ln_at hkl)
      obtain ⟨⟨x, y, z, u⟩, hx⟩ : ∃ x, xs[k] = x := ⟨_, rfl⟩
      rw [hx] at c0 c1 c2 c3 hi LN
      simp only at c0 c1 c2 c3 hi
      have k0 : (0 : Int) ≤ (k : Int) := by omega
      obtain ⟨y, rfl⟩ : ∃ j : Nat, y = (j : Int) := ⟨y.toNat, by omega⟩
      obtain ⟨z, rfl⟩ : ∃ j : Nat, z = (j : Int) := ⟨z.toNat, by omega⟩
      obtain ⟨u, rfl⟩ : ∃ j : Nat, u = (j : Int) := ⟨u.toNat, by omega⟩
      have hlen := HL.out
      have y4 : y < 4 := by omega
      have zn : z < n := by omega
      have un : u < n := by omega
      have hm := HM.out
      have s0 := PA.out wr BW.out (4 + 2 * k) (by omega)
      have s1 := PA.out wr BW.out (5 + 2 * z) (by omega)
      have s2 := PA.out wr BW.out (5 + 2 * u) (by omega)
      have s3 := PA.out wr BW.out y (by omega)
      obtain ⟨pz, hpz⟩ : ∃ p, prN (5 + 2 * z) = p := ⟨_, rfl⟩
      obtain ⟨pu, hpu⟩ : ∃ p, prN (5 + 2 * u) = p := ⟨_, rfl⟩
      obtain ⟨pk, hpk⟩ : ∃ p, prN (4 + 2 * k) = p := ⟨_, rfl⟩
      obtain ⟨py, hpy⟩ : ∃ p, prN y = p := ⟨_, rfl⟩
      have pyl : py ≤ 107 := by rw [← hpy]; exact prN_le _
      have pzl : pz ≤ 107 := by rw [← hpz]; exact prN_le _
      have pkl : pk ≤ 107 := by rw [← hpk]; exact prN_le _
      have m1 : py * pz ≤ 107 * 107 := Nat.mul_le_mul pyl pzl
      have m2 : pk * py ≤ 107 * 107 := Nat.mul_le_mul pkl pyl
      have w5 : IntKind.i64.wrap ((py : Int) * (pz : Int)) = ((py * pz : Nat) : Int) := by rw [← Int.natCast_mul]; simp [IntKind.wrap, IntKind.bits, IntKind.signed]; omega
      have w6 : IntKind.i64.wrap ((pk : Int) * (py : Int)) = ((pk * py : Nat) : Int) := by rw [← Int.natCast_mul]; simp [IntKind.wrap, IntKind.bits, IntKind.signed]; omega
      obtain ⟨A1, hA1⟩ : ∃ A, py * pz = A := ⟨_, rfl⟩
      obtain ⟨A2, hA2⟩ : ∃ A, pk * py = A := ⟨_, rfl⟩
      rw [hA1] at w5
      rw [hA2] at w6
      have LF := hide' (show linesF xs (k + 1) = linesF xs k ++ lineF k (x, (y : Int), (z : Int), (u : Int)) by rw [linesF, LN.out])
      have LI := hide' (show lineF k (x, (y : Int), (z : Int), (u : Int)) = if x = 1 then [natF A1 pk] else if x = 2 then [natF pz A2, natF pu pk] else [] by unfold lineF; simp only [Int.toNat_natCast, hpy, hpz, hpu, hpk, hA1, hA2])
      have LL := hide' (linesF_len xs (k + 1))
      rw [hpk] at s0
      rw [hpz] at s1
      rw [hpu] at s2
      rw [hpy] at s3
      obtain ⟨j0, hj0⟩ : ∃ j, 4 + 2 * k = j := ⟨_, rfl⟩
      obtain ⟨j1, hj1⟩ : ∃ j, 5 + 2 * z = j := ⟨_, rfl⟩
      obtain ⟨j2, hj2⟩ : ∃ j, 5 + 2 * u = j := ⟨_, rfl⟩
      rw [hj0] at s0
      rw [hj1] at s1
      rw [hj2] at s2
      have t0 : (4 : Int) + 2 * (k : Int) = (j0 : Int) := by omega
      have t1 : (5 : Int) + 2 * (z : Int) = (j1 : Int) := by omega
      have t2 : (5 : Int) + 2 * (u : Int) = (j2 : Int) := by omega
      have v0 : IntKind.i64.wrap (2 * (k : Int)) = 2 * (k : Int) := by simp [IntKind.wrap, IntKind.bits, IntKind.signed]; omega
      have v1 : IntKind.i64.wrap (2 * (z : Int)) = 2 * (z : Int) := by simp [IntKind.wrap, IntKind.bits, IntKind.signed]; omega
      have v2 : IntKind.i64.wrap (2 * (u : Int)) = 2 * (u : Int) := by simp [IntKind.wrap, IntKind.bits, IntKind.signed]; omega
      have r0 : (j0 : Int) < (m : Int) := by omega
      have r1 : (j1 : Int) < (m : Int) := by omega
      have r2 : (j2 : Int) < (m : Int) := by omega
      have r3 : (y : Int) < (m : Int) := by omega
      have q0 : (0 : Int) ≤ (j0 : Int) := by omega
      have q1 : (0 : Int) ≤ (j1 : Int) := by omega
      have q2 : (0 : Int) ≤ (j2 : Int) := by omega
      have q3 : (0 : Int) ≤ (y : Int) := by omega
      have OR := hide' (fun k hk => (own_range OW.out.2 k hk).1)
      have zr := BW.out.size
      clear hlen hm hx hi hpy hpz hpu hpk hA1 hA2 pyl pzl pkl m1 m2 hj0 hj1 hj2
      by_cases x1 : x = 1
      · subst x1
        have L1 := hide' (show linesF xs (k + 1) = linesF xs k ++ [((A1 : Int), (pk : Int))] by rw [LF.out, LI.out]; rfl)
        have N1 : N + 1 ≤ 24 := by have := LL.out; rw [L1.out, List.length_append, OW.out.1] at this; simp at this; omega
        clear LI
        go_wp2_with (at_builtin; go_loud (refine wpList_append_own _ rfl _ _ 71 rfl w1.heap.size 166 i0 _ 2 16 Tryd.underlying71 hi0 hz0 hz1 hz2 rfl (by decide) _ N _ rfl (OW.out.2.alloc _) ⟨wr.heap.size, 0, none⟩ 1 1 (flF [((A1 : Int), (pk : Int))]) rfl rfl (news_two wr _ _) (one_flF _) (by unfold maxLen; omega) (by omega) (by simp; omega) ?_; intro v' w3 ho hg hn; go_frame))
        obtain ⟨a', q', rfl⟩ := own_slice ho
        exact ⟨⟨k + 1, N + 1, a', q', by go_num, rfl, by omega, N1, hide' ⟨by rw [L1.out, List.length_append, OW.out.1]; rfl, by rw [L1.out, flF_append]; exact ho⟩, hide' ((BW.out.alloc zr _).grown hg (by simp; omega) OR.out)⟩, by simp [intOf]; omega⟩
      · by_cases x2 : x = 2
        · subst x2
          have L1 := hide' (show linesF xs (k + 1) = linesF xs k ++ [((pz : Int), (A2 : Int)), ((pu : Int), (pk : Int))] by rw [LF.out, LI.out]; rfl)
          have N1 : N + 2 ≤ 24 := by have := LL.out; rw [L1.out, List.length_append, OW.out.1] at this; simp at this; omega
          clear LI
          go_wp2_with (at_builtin; go_loud (refine wpList_append_own _ rfl _ _ 71 rfl w1.heap.size 166 i0 _ 2 16 Tryd.underlying71 hi0 hz0 hz1 hz2 rfl (by decide) _ N _ rfl (OW.out.2.alloc _) ⟨wr.heap.size, 0, none⟩ 2 2 (flF [((pz : Int), (A2 : Int)), ((pu : Int), (pk : Int))]) rfl rfl (news_four wr _ _ _ _) (one_flF _) (by unfold maxLen; omega) (by omega) (by simp; omega) ?_; intro v' w3 ho hg hn; go_frame))
          obtain ⟨a', q', rfl⟩ := own_slice ho
          exact ⟨⟨k + 1, N + 2, a', q', by go_num, rfl, by omega, N1, hide' ⟨by rw [L1.out, List.length_append, OW.out.1]; rfl, by rw [L1.out, flF_append]; exact ho⟩, hide' ((BW.out.alloc zr _).grown hg (by simp; omega) OR.out)⟩, by simp [intOf]; omega⟩
        · have b1 : (x == 1) = false := by simpa using x1
          have b2 : (x == 2) = false := by simpa using x2
          have L1 := hide' (show linesF xs (k + 1) = linesF xs k by rw [LF.out, LI.out, if_neg x1, if_neg x2]; simp)
          clear LI x1 x2
          go_wp2
          exact ⟨⟨k + 1, N, oa, q, by go_num, rfl, by omega, N24, hide' ⟨by rw [L1.out, OW.out.1], by rw [L1.out]; exact OW.out.2⟩, BW⟩, by simp [intOf]; omega⟩
    · obtain rfl : k = n := by omega
      have NL := hide' (show linesF xs xs.length = linesF xs k by rw [← HL.out])
      have LE := hide' (OW.out.1)
      go_wp2
      go_loopw [4, 10] (fun ov kv wr => ∃ (j M : Nat) (oa : Option Addr) (q : Nat), kv = .int .i64 (j : Int) ∧ ov = .slice oa M q ∧ j ≤ k ∧ M = N + j ∧ Hid (wr.ownsRow w1.heap.size 166 2 (.slice oa M q) M (flF (linesF xs k ++ endsF j))) ∧ Hid (Below w1.heap.size w1 wr)) (fun _ kv _ => k - (intOf kv).toNat)
      case atStart => exact ⟨0, N, oa, q, rfl, rfl, by omega, by omega, hide' (by rw [endsF, List.append_nil]; exact OW.out.2), BW⟩
      case round =>
        obtain ⟨j, M, oa, q, rfl, rfl, hj, hM, OW, BW⟩ := hrel
        have M36 : M ≤ 36 := by omega
        by_cases d : (j : Int) < (k : Int)
        · have OR := hide' (own_range OW.out)
          have zr := BW.out.size
          have hm := HM.out
          obtain ⟨pz, hpz⟩ : ∃ p, prN (5 + 2 * j) = p := ⟨_, rfl⟩
          obtain ⟨pk, hpk⟩ : ∃ p, prN (4 + 2 * j) = p := ⟨_, rfl⟩
          have L1 := hide' (show linesF xs k ++ endsF (j + 1) = (linesF xs k ++ endsF j) ++ [((pk : Int), (pz : Int))] by rw [endsF, hpz, hpk]; simp [natF])
          have SV := hide' (fun (V : World) (h : Below w1.heap.size w1 V) => show V.cell? ⟨pg, po + (4 + 2 * j), none⟩ = some (.int .i64 (pk : Int)) ∧ V.cell? ⟨pg, po + (5 + 2 * j), none⟩ = some (.int .i64 (pz : Int)) from ⟨by rw [← hpk]; exact PA.out V h _ (by omega), by rw [← hpz]; exact PA.out V h _ (by omega)⟩)
          obtain ⟨j0, hj0⟩ : ∃ i, 4 + 2 * j = i := ⟨_, rfl⟩
          obtain ⟨j1, hj1⟩ : ∃ i, 5 + 2 * j = i := ⟨_, rfl⟩
          rw [hj0, hj1] at SV
          have t0 : (4 : Int) + 2 * (j : Int) = (j0 : Int) := by omega
          have t1 : (5 : Int) + 2 * (j : Int) = (j1 : Int) := by omega
          have v0 : IntKind.i64.wrap (2 * (j : Int)) = 2 * (j : Int) := by simp [IntKind.wrap, IntKind.bits, IntKind.signed]; omega
          have r0 : (j0 : Int) < (m : Int) := by omega
          have r1 : (j1 : Int) < (m : Int) := by omega
          have q0 : (0 : Int) ≤ (j0 : Int) := by omega
          have q1 : (0 : Int) ≤ (j1 : Int) := by omega
          have x0 : IntKind.i64.wrap (j0 : Int) = (j0 : Int) := by simp [IntKind.wrap, IntKind.bits, IntKind.signed]; omega
          have x1 : IntKind.i64.wrap (j1 : Int) = (j1 : Int) := by simp [IntKind.wrap, IntKind.bits, IntKind.signed]; omega
          have HM1 := hide' (show M + 1 = N + (j + 1) by omega)
          have BG := hide' (fun (o : Obj) (U : World) (h : (wr.alloc o).drew.grownBy U (.slice oa M q : Value).ownBlock) => show Below w1.heap.size w1 U from (BW.out.alloc zr o).drew.grown h (by simp; omega) (fun k hk => (OR.out k hk).1))
          clear hpz hpk hM hm hj0 hj1
          go_upto_region 18 with fail
          go_region_held3 (fun V => V.cell? ⟨pg, po + j0, none⟩ = some (.int .i64 (pk : Int)) ∧ V.cell? ⟨pg, po + j1, none⟩ = some (.int .i64 (pz : Int))) (first | exact SV.out _ BW.out | exact SV.out _ BW.out.drew | exact SV.out _ (BW.out.alloc zr _).drew | exact SV.out _ (BG.out _ _ hgrow) | fail)
            (first | (refine step_append_lies _ (by rfl) _ _ _ (by rfl) w1.heap.size 166 i0 _ 2 16 Tryd.underlying71 hi0 hz0 hz1 hz2 rfl (by omega) (.slice oa M q) M (flF (linesF xs k ++ endsF j)) (by rfl) ((OW.out.alloc _).drew) ⟨wr.heap.size, 0, none⟩ 1 1 (flF [((pk : Int), (pz : Int))]) (by rfl) (by rfl) (news_two wr _ _) (one_flF _) (by omega) (by unfold maxLen; omega) (by omega) (by simp; omega) (wr.heap.size + 1) (by simp) ?_; intro gg cap U1 hown1 hgrow hat hlt) | fail)
          go_wp2
          exact ⟨⟨j + 1, M + 1, some ⟨gg, 0, none⟩, cap, by go_num, rfl, by omega, HM1.out, hide' (by rw [L1.out, flF_append]; exact hown1), hide' (BG.out _ _ hgrow)⟩, by simp [intOf]; omega⟩
        · obtain rfl : j = k := by omega
          have FL := hide' (show fraL xs = linesF xs j ++ endsF j by unfold fraL; rw [NL.out, ← HL.out])
          have FN := hide' (show (fraL xs).length = M by rw [FL.out, List.length_append, LE.out, endsF_len]; omega)
          clear hM
          go_wp2
          go_ret
          exact ⟨w1.heap.size, z1, oa, q, by rw [FN.out]; rfl, by rw [FN.out, FL.out]; exact OW.out, C1.out.trans (BW.out.mono z1)⟩
end Go.Proofs.YtdkomlgkkepioaaDoor

namespace Go.Proofs.YtdkomlgkkepioaaDoor
open Go.RowKit
set_option linter.unusedVariables false
theorem ArgF.cel {w : World} {xs : List FraT} {a : Option Addr} {n c : Nat} (h : ArgF w xs a n c) (k : Nat) (hk : k < xs.length) : ∃ g off, a = some ⟨g, off, none⟩ ∧ w.cell? ⟨g, off + k * 2, none⟩ = some (.int .i64 xs[k].1) ∧ w.cell? ⟨g, off + k * 2 + 1, none⟩ = some (.int .i64 xs[k].2) := by
  obtain ⟨g, o, e, _, h1, h2⟩ := h.cells k hk
  exact ⟨g, o, e, h1, h2⟩
set_option maxRecDepth 100000 in
set_option maxHeartbeats 6400000 in
theorem sameF_any (xs : List FraT) (a b : Option Addr) (n c d : Nat) (w : World) (hA : ArgF w xs a n c) (hB : ArgF w xs b n d) :
    Calls Tryd.prog 41 #[.slice a n c, .slice b n d] w fun e w' => e = .returned (.bool true) ∧ Below w.heap.size w w' := by
  have HL := hide' hA.len
  have HM := hide' hA.max
  have HA := hide' (fun (V : World) (h : Below w.heap.size w V) => hA.below (B := 0) h)
  have HB := hide' (fun (V : World) (h : Below w.heap.size w V) => hB.below (B := 0) h)
  clear hA hB
  go_enter Tryd.func41, Tryd.ntmps41
  go_wp2
  go_loopw [5] (fun kv wr => ∃ (k : Nat), kv = .int .i64 (k : Int) ∧ k ≤ n ∧ Hid (Below w.heap.size w wr)) (fun kv _ => n - (intOf kv).toNat)
  case atStart => exact ⟨0, rfl, by omega, hide' (Below.refl _ _)⟩
  case round =>
    obtain ⟨k, rfl, hk, BW⟩ := hrel
    have hm := HM.out
    by_cases d : (k : Int) < (n : Int)
    · have hkl : k < xs.length := by have := HL.out; omega
      obtain ⟨g, off, rfl, -, -⟩ := (HA.out wr BW.out).cel k hkl
      obtain ⟨g', off', rfl, -, -⟩ := (HB.out wr BW.out).cel k hkl
      have CV := hide' (fun (V : World) (h : Below w.heap.size w V) => show (V.cell? ⟨g, off + k * 2, none⟩ = some (.int .i64 xs[k].1) ∧ V.cell? ⟨g, off + k * 2 + 1, none⟩ = some (.int .i64 xs[k].2)) ∧ (V.cell? ⟨g', off' + k * 2, none⟩ = some (.int .i64 xs[k].1) ∧ V.cell? ⟨g', off' + k * 2 + 1, none⟩ = some (.int .i64 xs[k].2)) from by
        obtain ⟨_, _, e1, h1, h2⟩ := (HA.out V h).cel k hkl
        cases e1
        obtain ⟨_, _, e2, h3, h4⟩ := (HB.out V h).cel k hkl
        cases e2
        exact ⟨⟨h1, h2⟩, h3, h4⟩)
      obtain ⟨⟨x, y⟩, hx⟩ : ∃ x, xs[k] = x := ⟨_, rfl⟩
      rw [hx] at CV
      simp only at CV
      have k0 : (0 : Int) ≤ (k : Int) := by omega
      clear hx
      go_upto_region 6 with fail
      go_region_held3 (fun V => (V.cell? ⟨g, off + k * 2, none⟩ = some (.int .i64 x) ∧ V.cell? ⟨g, off + k * 2 + 1, none⟩ = some (.int .i64 y)) ∧ (V.cell? ⟨g', off' + k * 2, none⟩ = some (.int .i64 x) ∧ V.cell? ⟨g', off' + k * 2 + 1, none⟩ = some (.int .i64 y))) (first | exact CV.out _ BW.out | exact CV.out _ BW.out.drew | fail) (fail)
      go_wp2
      exact ⟨⟨k + 1, by go_num, by omega, hide' BW.out.drew⟩, by simp [intOf]; omega⟩
    · go_wp2
      go_ret
      exact ⟨rfl, BW.out⟩
end Go.Proofs.YtdkomlgkkepioaaDoor

namespace Go.Proofs.YtdkomlgkkepioaaDoor
open Go.RowKit
set_option linter.unusedVariables false

theorem list_ne_len {xs ys : List Int} (h : xs.length ≠ ys.length) : decide (xs = ys) = false := by
  simp; intro e; exact h (by rw [e])
theorem list_ne_at {xs ys : List Int} {k : Nat} (hx : k < xs.length) (hy : k < ys.length) (h : xs[k] ≠ ys[k]) : decide (xs = ys) = false := by
  simp; intro e; subst e; exact h rfl

set_option maxHeartbeats 1600000 in
theorem Ints_any (xs ys : List Int) (a b : Option Addr) (n c m d : Nat) (w : World) (hA : ArgP w xs a n c) (hB : ArgP w ys b m d) :
    Calls Tryd.prog 43 #[.slice a n c, .slice b m d] w fun e w' => e = .returned (.bool (decide (xs = ys))) ∧ ∃ q, w' = w.drewN q := by
  have HA := hide' hA
  have HB := hide' hB
  have hlx := hA.len
  have hly := hB.len
  have hma := hA.max
  have hmb := hB.max
  have LX := hide' hlx
  have LY := hide' hly
  unfold maxLen at hma hmb
  by_cases hnm : n = m
  · subst hnm
    clear hA hB hlx hly
    have EQ := hide' (fun (h : ∀ j (h1 : j < xs.length) (h2 : j < ys.length), xs[j] = ys[j]) => show decide (xs = ys) = true by
      simp; exact List.ext_getElem (by rw [← LX.out, ← LY.out]) fun j h1 h2 => h j h1 h2)
    go_enter Tryd.func43, Tryd.ntmps43
    go_wp2
    go_loopw [5] (fun iv wr => ∃ k q : Nat, iv = .int .i64 (k : Int) ∧ k ≤ n ∧ wr = w.drewN q ∧ Hid (∀ j (h1 : j < xs.length) (h2 : j < ys.length), j < k → xs[j] = ys[j])) (fun iv _ => n - (intOf iv).toNat)
    case atStart => exact ⟨0, 0, rfl, by omega, rfl, fun j h1 h2 h => by omega⟩
    case round =>
      obtain ⟨k, q, rfl, hk, rfl, HK⟩ := hrel
      by_cases hkn : (k : Int) < (n : Int)
      · have l1 : k < xs.length := by have := LX.out; omega
        have l2 : k < ys.length := by have := LY.out; omega
        obtain ⟨ga, oa, rfl, -, c1⟩ := HA.out.cells k l1
        obtain ⟨gb, ob, rfl, -, c2⟩ := HB.out.cells k l2
        obtain ⟨x, hx⟩ : ∃ x, xs[k] = x := ⟨_, rfl⟩
        obtain ⟨y, hy⟩ : ∃ y, ys[k] = y := ⟨_, rfl⟩
        rw [hx] at c1
        rw [hy] at c2
        have HX := hide' hx
        have HY := hide' hy
        clear hx hy
        by_cases e : x = y
        · subst e
          have m1 : (x != x) = false := by simp
          go_wp2
          go_quiet (fail)
          go_wp2
          refine ⟨⟨k + 1, q + nq, by go_num, by omega, rfl, fun j h1 h2 h => ?_⟩, by simp [intOf]; omega⟩
          by_cases ej : j = k
          · subst ej; rw [HX.out, HY.out]
          · exact HK.out j h1 h2 (by omega)
        · have m1 : (x != y) = true := by simp [e]
          have F := hide' (list_ne_at l1 l2 (by rw [HX.out, HY.out]; exact e))
          clear e
          go_wp2
          go_quiet (fail)
          go_wp2
          go_ret
          exact ⟨by rw [F.out]; rfl, q + nq, by simp [World.drewN, Nat.add_assoc]⟩
      · have F := hide' (EQ.out fun j h1 h2 => HK.out j h1 h2 (by have := LX.out; omega))
        go_wp2
        go_ret
        exact ⟨by rw [F.out]; rfl, q, rfl⟩
  · have m1 : ((n : Int) != (m : Int)) = true := by simp; omega
    have F := hide' (list_ne_len (xs := xs) (ys := ys) (by rw [← hlx, ← hly]; exact hnm))
    clear hA hB hlx hly hnm
    go_enter Tryd.func43, Tryd.ntmps43
    go_wp2
    go_ret
    exact ⟨by rw [F.out]; rfl, 0, rfl⟩

end Go.Proofs.YtdkomlgkkepioaaDoor

