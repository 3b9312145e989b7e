/-
  What the last text of this claim leans on, part 31: Gu3.
-/
import Derived.Test.YtdbgdfodoceadaaDoorZg30
import Derived.Test.YtdbgdfodoceadaaDoorZg23
namespace Go.Proofs.YtdbgdfodoceadaaDoor
open Go.RowKit
set_option linter.unusedVariables false
/-- The sum of the first of the nine around on rings, the midst left out. -/
def torN (W H : Nat) (xs : List Int) (x y : Nat) : Nat → Int
  | 0 => 0
  | t + 1 => torN W H xs x y t + if t = 4 then 0 else torC W H xs x y (t / 3) (t % 3)
theorem torN_le {W H : Nat} {xs : List Int} (hx : ∀ k, 0 ≤ xs.getD k 0 ∧ xs.getD k 0 ≤ 1) (x y : Nat) : ∀ t, 0 ≤ torN W H xs x y t ∧ torN W H xs x y t ≤ (t : Int)
  | 0 => ⟨Int.le_refl _, Int.le_refl _⟩
  | t + 1 => by
    have ih := torN_le (W := W) (H := H) hx x y t
    have h2 : 0 ≤ torC W H xs x y (t / 3) (t % 3) ∧ torC W H xs x y (t / 3) (t % 3) ≤ 1 := hx _
    rw [torN]
    push_cast
    split <;> omega
theorem torN_nine {W H x y : Nat} (xs : List Int) (xl : x < W) (yl : y < H) : torN W H xs x y 9 = torS W H xs x y 9 := by
  have m := torS_mid (H := H) xs xl yl
  unfold torS
  rw [← m]
  simp [torN, sumG]
  omega
def torPre (born stay W H : Nat) (xs : List Int) (m : Nat) : List Int := (List.range m).map (torV born stay W H xs)
theorem torPre_length (born stay W H : Nat) (xs : List Int) (m : Nat) : (torPre born stay W H xs m).length = m := by simp [torPre]
theorem torPre_step (born stay W H : Nat) (xs : List Int) (y x : Nat) (hx : x < W) : torPre born stay W H xs (y * W + x) ++ [((becN born stay (xs.getD (y * W + x) 0) (torS W H xs x y 9).toNat : Nat) : Int)] = torPre born stay W H xs (y * W + x + 1) := by
  unfold torPre
  rw [List.range_succ, List.map_append, List.map_cons, List.map_nil]
  have m1 : (y * W + x) % W = x := by rw [Nat.mul_comm, Nat.mul_add_mod]; exact Nat.mod_eq_of_lt hx
  have d1 : (y * W + x) / W = y := by rw [Nat.mul_comm, Nat.mul_add_div (by omega), Nat.div_eq_of_lt hx, Nat.add_zero]
  rw [torV, m1, d1]
set_option maxRecDepth 100000 in
set_option maxHeartbeats 12800000 in
theorem refTorus_any (kd st ra : Int) (born stay : Nat) (ta : Option Addr) (tn tc : Nat) (sb : ByteArray) (W H : Nat) (xs : List Int) (a : Option Addr) (n c : Nat) (w : World) (hb : born ≤ 511) (hs : stay ≤ 511) (hP : ArgP w xs a n c) (hn : n = W * H) (hx : ∀ k, 0 ≤ xs.getD k 0 ∧ xs.getD k 0 ≤ 1) (hW : W ≤ 100) (hH : H ≤ 100) :
    Calls Tryd.prog 13 #[.agg #[.int .i64 kd, .int .i64 (born : Int), .int .i64 (stay : Int), .int .i64 st, .int .i64 ra, .slice ta tn tc, .string sb], .agg #[.int .i64 (W : Int), .int .i64 (H : Int), .slice a n c]] w fun e w' => ∃ v, e = .returned (.agg #[.int .i64 (W : Int), .int .i64 (H : Int), v]) ∧ Tab w' v (torL born stay W H xs) ∧ Fresh w v ∧ Below w.heap.size w w' := by
  obtain ⟨w4, hw4⟩ : ∃ w4, (((w.alloc (.cells #[.int .i64 kd, .int .i64 (born : Int), .int .i64 (stay : Int), .int .i64 st, .int .i64 ra, .slice ta tn tc, .string sb] 24)).alloc (.cells #[.int .i64 (W : Int), .int .i64 (H : Int), .slice a n c] 26)).alloc (.cells #[.int .i64 0, .int .i64 0, .slice none 0 0] 26)).alloc (.cells #[.int .i64 (W : Int), .int .i64 (H : Int), .slice none 0 0] 26) = w4 := ⟨_, rfl⟩
  have BB : Below w.heap.size w w4 := by rw [← hw4]; repeat (first | exact Below.refl _ _ | refine Below.alloc ?_ (by simp; try omega) _)
  have g0 : w4.heap[w.heap.size]? = some (.cells #[.int .i64 kd, .int .i64 (born : Int), .int .i64 (stay : Int), .int .i64 st, .int .i64 ra, .slice ta tn tc, .string sb] 24 (0, 0)) := by rw [← hw4, Below.heap_alloc _ _ _ (by simp; try omega), Below.heap_alloc _ _ _ (by simp; try omega), Below.heap_alloc _ _ _ (by simp; try omega)]; exact heap_atX _ _ _ (by simp)
  have g1 : w4.heap[w.heap.size + 1]? = some (.cells #[.int .i64 (W : Int), .int .i64 (H : Int), .slice a n c] 26 (0, 0)) := by rw [← hw4, Below.heap_alloc _ _ _ (by simp; try omega), Below.heap_alloc _ _ _ (by simp; try omega)]; exact heap_atX _ _ _ (by simp)
  have g2 : w4.heap[w.heap.size + 1 + 1]? = some (.cells #[.int .i64 0, .int .i64 0, .slice none 0 0] 26 (0, 0)) := by rw [← hw4, Below.heap_alloc _ _ _ (by simp; try omega)]; exact heap_atX _ _ _ (by simp)
  have g3 : w4.heap[w.heap.size + 1 + 1 + 1]? = some (.cells #[.int .i64 (W : Int), .int .i64 (H : Int), .slice none 0 0] 26 (0, 0)) := by rw [← hw4]; exact heap_atX _ _ _ (by simp)
  have X0 : NT w w4 w4 (W : Int) (H : Int) (.slice none 0 0) (torPre born stay W H xs 0) := ⟨fun _ _ => rfl, ⟨cell_of_row w4 _ 0 _ _ _ g3, cell_of_row w4 _ 1 _ _ _ g3, cell_of_row w4 _ 2 _ _ _ g3, fun k => frozen_of_row w4 _ k _ _ g3⟩, ⟨by simp [torPre], Or.inl ⟨rfl, by simp [torPre]⟩⟩, BB, by rw [← hw4]; simp⟩
  have XZ := hide' X0
  have G0 := hide' g0
  have G1 := hide' g1
  have G2 := hide' g2
  have HP := hide' hP
  have HN := hide' hn
  have HX := hide' hx
  have HB := hide' hb
  have HS := hide' hs
  have n4 : n ≤ 10000 := by rw [hn]; exact Nat.mul_le_mul hW hH
  obtain ⟨w3, hw3⟩ : ∃ w3, ((w.alloc (.cells #[.int .i64 kd, .int .i64 (born : Int), .int .i64 (stay : Int), .int .i64 st, .int .i64 ra, .slice ta tn tc, .string sb] 24)).alloc (.cells #[.int .i64 (W : Int), .int .i64 (H : Int), .slice a n c] 26)).alloc (.cells #[.int .i64 0, .int .i64 0, .slice none 0 0] 26) = w3 := ⟨_, rfl⟩
  rw [hw3] at hw4
  have h1 : w3.heap[w.heap.size + 1]? = some (.cells #[.int .i64 (W : Int), .int .i64 (H : Int), .slice a n c] 26 (0, 0)) := by rw [← hw3, Below.heap_alloc _ _ _ (by simp; try omega)]; exact heap_atX _ _ _ (by simp)
  have s3 : w3.heap.size = w.heap.size + 1 + 1 + 1 := by rw [← hw3]; simp
  have b0 := cell_of_row w3 _ 0 _ _ _ h1
  have b1 := cell_of_row w3 _ 1 _ _ _ h1
  simp at b0 b1
  have RV := hide' (fun (V : World) (hV : ∀ k, k < w.heap.size + 1 + 1 + 1 → V.heap[k]? = w4.heap[k]?) => show V.cell? ⟨w.heap.size, 0, none⟩ = some (.int .i64 kd) ∧ V.cell? ⟨w.heap.size, 1, none⟩ = some (.int .i64 (born : Int)) ∧ V.cell? ⟨w.heap.size, 2, none⟩ = some (.int .i64 (stay : Int)) ∧ V.cell? ⟨w.heap.size, 3, none⟩ = some (.int .i64 st) ∧ V.cell? ⟨w.heap.size, 4, none⟩ = some (.int .i64 ra) ∧ V.cell? ⟨w.heap.size, 5, none⟩ = some (.slice ta tn tc) ∧ V.cell? ⟨w.heap.size, 6, none⟩ = some (.string sb) from
    have e := (hV _ (by omega)).trans G0.out
    ⟨cell_of_row V _ 0 _ _ _ e, cell_of_row V _ 1 _ _ _ e, cell_of_row V _ 2 _ _ _ e, cell_of_row V _ 3 _ _ _ e, cell_of_row V _ 4 _ _ _ e, cell_of_row V _ 5 _ _ _ e, cell_of_row V _ 6 _ _ _ e⟩)
  have GV := hide' (fun (V : World) (hV : ∀ k, k < w.heap.size + 1 + 1 + 1 → V.heap[k]? = w4.heap[k]?) => show V.cell? ⟨w.heap.size + 1, 0, none⟩ = some (.int .i64 (W : Int)) ∧ V.cell? ⟨w.heap.size + 1, 1, none⟩ = some (.int .i64 (H : Int)) ∧ V.cell? ⟨w.heap.size + 1, 2, none⟩ = some (.slice a n c) from
    have e := (hV _ (by omega)).trans G1.out
    ⟨cell_of_row V _ 0 _ _ _ e, cell_of_row V _ 1 _ _ _ e, cell_of_row V _ 2 _ _ _ e⟩)
  obtain ⟨i0, hi, hz0, hz1, hz2⟩ := info_parts info_int
  have HW4 := hide' hw4
  clear g0 g1 g2 g3 X0 BB hP hn hx hb hs hw4
  go_enter Tryd.func13, Tryd.ntmps13
  go_wp2
  rw [HW4.out]
  clear HW4 hw3 b0 b1 s3 h1
  go_loopw [6] (fun yv wr => ∃ (y : Nat) (v : Value), yv = .int .i64 (y : Int) ∧ y ≤ H ∧ Hid (NT w w4 wr (W : Int) (H : Int) v (torPre born stay W H xs (y * W)))) (fun yv _ => ((H : Int) - intOf yv).toNat)
  case atStart => exact ⟨0, _, by go_num, by omega, hide' (by rw [Nat.zero_mul]; exact XZ.out)⟩
  case round =>
    obtain ⟨y, v, rfl, hy, HY⟩ := hrel
    obtain ⟨V1, rfl⟩ : ∃ V1, V1 = wr := ⟨_, rfl⟩
    obtain ⟨b0, b1, b2⟩ := GV.out V1 HY.out.keep
    by_cases dy : (y : Int) < (H : Int)
    · go_wp2
      clear b0 b1 b2
      go_loopw [7] (fun xv wr => ∃ (x : Nat) (v : Value), xv = .int .i64 (x : Int) ∧ x ≤ W ∧ Hid (NT w w4 wr (W : Int) (H : Int) v (torPre born stay W H xs (y * W + x)))) (fun xv _ => ((W : Int) - intOf xv).toNat)
      case atStart => exact ⟨0, v, by go_num, by omega, HY⟩
      case round =>
        obtain ⟨x, v, rfl, hxx, HV⟩ := hrel
        obtain ⟨V2, rfl⟩ : ∃ V2, V2 = wr := ⟨_, rfl⟩
        obtain ⟨b0, b1, b2⟩ := GV.out V2 HV.out.keep
        by_cases dx : (x : Int) < (W : Int)
        · go_wp2
          clear b0 b1 b2
          go_loopw [8, 9] (fun nv dv wr => ∃ (i : Nat) (u : Int), dv = .int .i64 ((i : Int) - 1) ∧ nv = .int .i64 u ∧ i ≤ 3 ∧ 0 ≤ u ∧ u ≤ 9 ∧ Hid (u = torN W H xs x y (i * 3)) ∧ Hid (NT w w4 wr (W : Int) (H : Int) v (torPre born stay W H xs (y * W + x)))) (fun _ dv _ => ((2 : Int) - intOf dv).toNat)
          case atStart => exact ⟨0, 0, by go_num, rfl, by omega, by omega, by omega, hide' rfl, HV⟩
          case round =>
            obtain ⟨i, u, rfl, rfl, hi3, u1, u2, HU, HV3⟩ := hrel
            obtain ⟨V3, rfl⟩ : ∃ V3, V3 = wr := ⟨_, rfl⟩
            by_cases di : (i : Int) - 1 ≤ 1
            · go_wp2
              go_loopw [8, 10] (fun nv dv wr => ∃ (j : Nat) (u : Int), dv = .int .i64 ((j : Int) - 1) ∧ nv = .int .i64 u ∧ j ≤ 3 ∧ 0 ≤ u ∧ u ≤ 9 ∧ Hid (u = torN W H xs x y (i * 3 + j)) ∧ Hid (NT w w4 wr (W : Int) (H : Int) v (torPre born stay W H xs (y * W + x)))) (fun _ dv _ => ((2 : Int) - intOf dv).toNat)
              case atStart => exact ⟨0, u, by go_num, rfl, by omega, u1, u2, HU, HV3⟩
              case round =>
                obtain ⟨j, u, rfl, rfl, hj3, u3, u4, HU4, HV4⟩ := hrel
                obtain ⟨V4, rfl⟩ : ∃ V4, V4 = wr := ⟨_, rfl⟩
                by_cases dj : (j : Int) - 1 ≤ 1
                · obtain ⟨b0, b1, b2⟩ := GV.out V4 HV4.out.keep
                  have dv : (i * 3 + j) / 3 = i := by omega
                  have md : (i * 3 + j) % 3 = j := by omega
                  have nW : ¬ (W : Int) = 0 := by omega
                  have nH : ¬ (H : Int) = 0 := by omega
                  obtain ⟨r, hr⟩ : ∃ r, (y + (H - 1 + i)) % H = r := ⟨_, rfl⟩
                  obtain ⟨s, hs⟩ : ∃ s, (x + (W - 1 + j)) % W = s := ⟨_, rfl⟩
                  have rl : r < H := by rw [← hr]; exact Nat.mod_lt _ (by omega)
                  have sl : s < W := by rw [← hs]; exact Nat.mod_lt _ (by omega)
                  have e1 : ((y : Int) + ((i : Int) - 1) + (H : Int)).tmod (H : Int) = (r : Int) := by
                    rw [show (y : Int) + ((i : Int) - 1) + (H : Int) = ((y + (H - 1 + i) : Nat) : Int) by push_cast; omega, Int.tmod_eq_emod_of_nonneg (by omega), ← hr, Int.natCast_emod]
                  have e2 : ((x : Int) + ((j : Int) - 1) + (W : Int)).tmod (W : Int) = (s : Int) := by
                    rw [show (x : Int) + ((j : Int) - 1) + (W : Int) = ((x + (W - 1 + j) : Nat) : Int) by push_cast; omega, Int.tmod_eq_emod_of_nonneg (by omega), ← hs, Int.natCast_emod]
                  by_cases mid : i = 1 ∧ j = 1
                  · obtain ⟨rfl, rfl⟩ := mid
                    have NU := hide' (show u = torN W H xs x y (1 * 3 + (1 + 1)) by rw [show 1 * 3 + (1 + 1) = (1 * 3 + 1) + 1 from rfl, torN, ← HU4.out, if_pos rfl]; omega)
                    clear hr hs dv md
                    go_wp2
                    exact ⟨⟨1 + 1, u, by go_num, rfl, by omega, u3, u4, NU, HV4⟩, by simp [intOf]⟩
                  · have n4' : i * 3 + j ≠ 4 := by omega
                    obtain ⟨b, hb⟩ : ∃ b : Nat, (r : Int) * (W : Int) = (b : Int) := ⟨r * W, by simp⟩
                    have il := torI (W := W) (H := H) (x := x) (y := y) (i := i) (j := j) (by omega) (by omega)
                    rw [hr, hs] at il
                    obtain ⟨t, ht⟩ : ∃ t, r * W + s = t := ⟨_, rfl⟩
                    have bs : (b : Int) + (s : Int) = (t : Int) := by
                      have : ((r * W : Nat) : Int) = (b : Int) := by rw [← hb]; simp
                      omega
                    rw [ht] at il
                    have bl : t < n := by rw [HN.out]; exact il
                    obtain ⟨g3, o3, e3, hc⟩ := (HP.out.below HV4.out.below).atP (k := t) bl
                    subst e3
                    obtain ⟨z, hz⟩ : ∃ z, xs.getD t 0 = z := ⟨_, rfl⟩
                    have zb := HX.out t
                    rw [hz] at hc zb
                    have NU := hide' (show u + z = torN W H xs x y (i * 3 + (j + 1)) by rw [← Nat.add_assoc, torN, ← HU4.out, if_neg n4', dv, md, torC, hr, hs, ht, hz])
                    have bd := torN_le (W := W) (H := H) HX.out x y (i * 3 + (j + 1))
                    rw [← NU.out] at bd
                    have bd2 : u + z ≤ 9 := by have := bd.2; push_cast at this; omega
                    have bd1 := bd.1
                    have b4 : b ≤ 10000 := by omega
                    have tst : ((j : Int) - 1 != 0) = true ∨ (((j : Int) - 1 != 0) = false ∧ ((i : Int) - 1 != 0) = true) := by
                      by_cases t : j = 1
                      · right; exact ⟨by simp; omega, by simp; omega⟩
                      · left; simp; omega
                    clear hz n4' mid bd dv md hr hs ht il
                    rcases tst with t1 | ⟨t1, t2⟩
                    · go_wp2
                      exact ⟨⟨j + 1, u + z, by go_num, rfl, by omega, bd1, bd2, NU, HV4⟩, by simp [intOf]; omega⟩
                    · go_wp2
                      exact ⟨⟨j + 1, u + z, by go_num, rfl, by omega, bd1, bd2, NU, HV4⟩, by simp [intOf]; omega⟩
                · have j3 : j = 3 := by omega
                  have NU := hide' (show u = torN W H xs x y ((i + 1) * 3) by rw [HU4.out, j3]; congr 1; omega)
                  clear j3
                  go_wp2
                  exact ⟨⟨i + 1, u, by go_num, rfl, by omega, u3, u4, NU, HV4⟩, by simp [intOf]; omega⟩
            · have i3 : i = 3 := by omega
              have xlt : x < W := by omega
              have ylt : y < H := by omega
              have tb := torS_nat HX.out xlt ylt
              have U9 : u = torS W H xs x y 9 := by rw [HU.out, i3, ← torN_nine xs xlt ylt]
              obtain ⟨m, hm⟩ : ∃ m : Nat, torS W H xs x y 9 = (m : Int) := ⟨(torS W H xs x y 9).toNat, by omega⟩
              have NB := hide' (torPre_step born stay W H xs y x xlt)
              rw [hm, Int.toNat_natCast] at NB
              rw [hm] at U9 tb
              subst U9
              have m9 : m ≤ 9 := by omega
              have ql : y * W + x < n := by rw [HN.out]; exact mk_lt xlt ylt
              obtain ⟨p, hp⟩ : ∃ p, y * W + x = p := ⟨_, rfl⟩
              obtain ⟨b, hb⟩ : ∃ b : Nat, (y : Int) * (W : Int) = (b : Int) := ⟨y * W, by simp⟩
              have bs : (b : Int) + (x : Int) = (p : Int) := by
                have : ((y * W : Nat) : Int) = (b : Int) := by rw [← hb]; simp
                omega
              have hlen : y * W + x < 10000 := by omega
              rw [hp] at ql NB
              obtain ⟨g3, o3, e3, hc⟩ := (HP.out.below HV3.out.below).atP (k := p) ql
              subst e3
              obtain ⟨z, hz⟩ : ∃ z, xs.getD p 0 = z := ⟨_, rfl⟩
              rw [hz] at hc NB
              have b4 : b ≤ 10000 := by omega
              have BCX := hide' (fun (V : World) => refBecomes_any kd z st ra born stay ta tn tc sb m V HB.out HS.out m9)
              obtain ⟨x0, hx0⟩ : ∃ x0 : Int, ((becN born stay z m : Nat) : Int) = x0 := ⟨_, rfl⟩
              rw [hx0] at NB BCX
              have HPP := hide' hp
              have SV := hide' (fun (V : World) (hV : ∀ k, k < w.heap.size + 1 + 1 + 1 → V.heap[k]? = w4.heap[k]?) (hB : Below w.heap.size w V) => show V.cell? ⟨w.heap.size, 0, none⟩ = some (.int .i64 kd) ∧ V.cell? ⟨w.heap.size, 1, none⟩ = some (.int .i64 (born : Int)) ∧ V.cell? ⟨w.heap.size, 2, none⟩ = some (.int .i64 (stay : Int)) ∧ V.cell? ⟨w.heap.size, 3, none⟩ = some (.int .i64 st) ∧ V.cell? ⟨w.heap.size, 4, none⟩ = some (.int .i64 ra) ∧ V.cell? ⟨w.heap.size, 5, none⟩ = some (.slice ta tn tc) ∧ V.cell? ⟨w.heap.size, 6, none⟩ = some (.string sb) ∧ V.cell? ⟨w.heap.size + 1, 0, none⟩ = some (.int .i64 (W : Int)) ∧ V.cell? ⟨w.heap.size + 1, 1, none⟩ = some (.int .i64 (H : Int)) ∧ V.cell? ⟨w.heap.size + 1, 2, none⟩ = some (.slice (some ⟨g3, o3, none⟩) n c) ∧ V.cell? ⟨g3, o3 + p, none⟩ = some (.int .i64 z) from by
                obtain ⟨c0, c1, c2', c3, c4, c5, c6⟩ := RV.out V hV
                obtain ⟨b0, b1, b2⟩ := GV.out V hV
                obtain ⟨g4, o4, e4, hc4⟩ := (HP.out.below hB).atP (k := p) ql
                injection e4 with e4
                injection e4 with e41 e42 e43
                subst e41
                subst e42
                rw [hz] at hc4
                exact ⟨c0, c1, c2', c3, c4, c5, c6, b0, b1, b2, hc4⟩)
              clear i3 hz hm HU hx0 tb hp hlen
              have wb := wrap_natP b (by omega)
              have wp' := wrap_natP p (by omega)
              have pn : (p : Int) < (n : Int) := by omega
              have pn1 : ¬ (n : Int) ≤ (p : Int) := by omega
              have pn0 : ¬ n ≤ p := by omega
              have p0' : ¬ (p : Int) < 0 := by omega
              have p1' : (0 : Int) ≤ (p : Int) := by omega
              have wb2 : IntKind.i64.wrap ((y : Int) * (W : Int)) = (b : Int) := by rw [hb]; exact wb
              have wp2 : IntKind.i64.wrap ((b : Int) + (x : Int)) = (p : Int) := by rw [bs]; exact wp'
              obtain ⟨b0, b1, b2⟩ := GV.out V3 HV3.out.keep
              obtain ⟨c0, c1, c2', c3, c4, c5, c6⟩ := RV.out V3 HV3.out.keep
              go_wp2
              go_region_held3 (fun V => V.cell? ⟨w.heap.size, 0, none⟩ = some (.int .i64 kd) ∧ V.cell? ⟨w.heap.size, 1, none⟩ = some (.int .i64 (born : Int)) ∧ V.cell? ⟨w.heap.size, 2, none⟩ = some (.int .i64 (stay : Int)) ∧ V.cell? ⟨w.heap.size, 3, none⟩ = some (.int .i64 st) ∧ V.cell? ⟨w.heap.size, 4, none⟩ = some (.int .i64 ra) ∧ V.cell? ⟨w.heap.size, 5, none⟩ = some (.slice ta tn tc) ∧ V.cell? ⟨w.heap.size, 6, none⟩ = some (.string sb) ∧ V.cell? ⟨w.heap.size + 1, 0, none⟩ = some (.int .i64 (W : Int)) ∧ V.cell? ⟨w.heap.size + 1, 1, none⟩ = some (.int .i64 (H : Int)) ∧ V.cell? ⟨w.heap.size + 1, 2, none⟩ = some (.slice (some ⟨g3, o3, none⟩) n c) ∧ V.cell? ⟨g3, o3 + p, none⟩ = some (.int .i64 z)) (first | exact SV.out _ S2.out.keep S2.out.below | exact SV.out V3.drew HV3.out.keep ⟨HV3.out.below.os, HV3.out.below.tape, HV3.out.below.output, HV3.out.below.size, HV3.out.below.block⟩ | fail)
                (first
                  | (go_at_call 44; refine (BCX.out _).mono ?_; rintro e w2 ⟨rfl, b2'⟩; have S2 := hide' (HV3.out.next (show Below V3.heap.size V3 w2 from ⟨b2'.os, b2'.tape, b2'.output, b2'.size, b2'.block⟩)); clear b2')
                  | fail)
              rw [HPP.out] at S2
              have d2 := S2.out.q.c2
              have z2 := S2.out.sz
              have OW := hide' S2.out.own
              obtain ⟨sa, sn, sc, rfl⟩ := ownsRow_slice OW.out
              have HLE := hide' (torPre_length born stay W H xs p)
              clear c0 c1 c2' c3 c4 c5 c6 b0 b1 b2
              go_wp2_with (at_builtin; refine wpList_append_own _ rfl _ _ 22 rfl (w.heap.size + 1 + 1 + 1 + 1) 3 i0 (.int .i64 0) 1 8 Tryd.underlying22 hi hz0 hz1 hz2 rfl (by decide) (.slice sa sn sc) _ _ rfl (OW.out.alloc _) ⟨w2.heap.size, 0, none⟩ 1 1 [.int .i64 x0] rfl rfl (cell_one_new _ _ _) (fun x hx => by simp at hx; subst hx; rfl) (by rw [HLE.out]; unfold maxLen; omega) (by rw [HLE.out]; omega) (by simp; omega) ?_; intro v' w3 hown' hgrow3 hnil3; obtain ⟨va, vn, vc, rfl⟩ := ownsRow_slice hown'; obtain ⟨x5, x6⟩ := S2.out.mid x0 hgrow3; have G3 := hide' hgrow3; have O3 := hide' hown'; clear hgrow3 hown' hnil3)
              refine ⟨⟨x + 1, .slice va vn vc, by go_num, by omega, hide' ?_⟩, by simp [intOf]; omega⟩
              have hp := S2.out.push x0 G3.out O3.out
              rw [NB.out, ← HPP.out] at hp
              rw [← Nat.add_assoc]
              exact hp
        · have x2 : x = W := by omega
          have NV := hide' (show NT w w4 V2 (W : Int) (H : Int) v (torPre born stay W H xs ((y + 1) * W)) by
            have e : (y + 1) * W = y * W + x := by rw [Nat.add_mul, Nat.one_mul, x2]
            rw [e]; exact HV.out)
          clear x2
          go_wp2
          exact ⟨⟨y + 1, v, by go_num, by omega, NV⟩, by simp [intOf]; omega⟩
    · have yH : y = H := by omega
      have HF := HY.out
      have em : y * W = W * H := by rw [yH, Nat.mul_comm]
      rw [em] at HF
      have q0 := HF.q.c0
      have q1 := HF.q.c1
      have q2 := HF.q.c2
      have TT := hide' (show Tab V1 v (torL born stay W H xs) from ownsRow_tab HF.own)
      have OB := hide' (ownsRow_block HF.own)
      have BW := hide' HF.below
      have e2 := (HF.keep _ (by omega)).trans G2.out
      have r0 := cell_of_row V1 _ 0 _ _ _ e2
      have r1 := cell_of_row V1 _ 1 _ _ _ e2
      have r2 := cell_of_row V1 _ 2 _ _ _ e2
      simp at r0 r1 r2
      have f0 := frozen_of_row V1 _ 0 _ _ e2
      have f1 := frozen_of_row V1 _ 1 _ _ e2
      have f2 := frozen_of_row V1 _ 2 _ _ e2
      have l2 := lt_of_block e2
      obtain ⟨sa, sn, sc, rfl⟩ := ownsRow_slice HF.own
      clear yH HF em e2
      go_wp2
      refine bodyPost_ret (v := .agg #[.int .i64 (W : Int), .int .i64 (H : Int), .slice sa sn sc]) (by simp [results, Tryd.results13, go_sem, r0, r1, r2]) rfl ?_
      refine ⟨_, rfl, ?_, fun g k c h => (by have := OB.out g (by rw [h]; rfl); omega), ((BW.out.setCell (by simp; omega) _).setCell (by simp; omega) _).setCell (by simp; omega) _⟩
      refine tab_keep TT.out (fun g k cap h => ?_)
      have gn : w.heap.size + 1 + 1 + 1 + 1 ≤ g := OB.out g (by rw [h]; rfl)
      rw [Below.heap_setCell _ _ _ _ (by simp; omega), Below.heap_setCell _ _ _ _ (by simp; omega), Below.heap_setCell _ _ _ _ (by simp; omega)]
end Go.Proofs.YtdbgdfodoceadaaDoor

