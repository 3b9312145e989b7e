/-
  What the last text of this claim leans on, part 6: Cb9.
-/
import Derived.Test.YtdkomlgkkepioaaDoorJp5
import Derived.BigQuiet
namespace Go.Proofs.YtdkomlgkkepioaaDoor
open Go.RowKit
set_option linter.unusedVariables false
def PlaR (A : Nat × Nat × Nat) (w : World) (e : Ending) (w' : World) : Prop := e = .returned (.tuple #[.int .i64 (A.1 : Int), .int .i64 (A.2.1 : Int), .int .i64 (A.2.2 : Int)]) ∧ Below w.heap.size w w'
theorem playE_bad {xs : List FraT} {n f : Int} (h : n < 1 ∨ f < 0 ∨ 100000 < f) : playE xs n f = 1 := by
  unfold playE fuelE
  split
  · split
    · rfl
    · rw [if_pos (by omega)]
  · rfl
theorem i64Q (a b c : Nat) (h : a / b = c) (ha : a < 9223372036854775808) : IntKind.i64.wrap ((a : Int) / (b : Int)) = (c : Int) := by
  rw [show (a : Int) / (b : Int) = ((a / b : Nat) : Int) from rfl, h]
  have : c ≤ a := by rw [← h]; exact Nat.div_le_self _ _
  simp [IntKind.wrap, IntKind.bits, IntKind.signed]; omega
theorem Below_drewN9 {B : Nat} {w V : World} (h : Below B w V) (k : Nat) : Below B w (V.drewN k) := ⟨h.os, h.tape, h.output, h.size, h.block⟩
set_option maxRecDepth 100000 in
set_option maxHeartbeats 6400000 in
theorem refPlays_num (xs : List FraT) (a : Option Addr) (m c : Nat) (n f : Int) (w : World) (hr : n < 1 ∨ f < 0 ∨ 100000 < f) :
    Calls Tryd.prog 45 #[.slice a m c, .int .i64 n, .int .i64 f] w (PlaR (plyA xs n f) w) := by
  have A := hide' (show plyA xs n f = (0, 0, 1) by unfold plyA; rw [playE_bad hr, if_pos (by decide)])
  by_cases n1 : n < 1
  · have d1 : decide (n < 1) = true := by simpa using n1
    go_enter Tryd.func45, Tryd.ntmps45
    go_wp2
    refine bodyPost_ret (v := .tuple #[.int .i64 0, .int .i64 0, .int .i64 1]) (by simp [results, Tryd.results45, go_sem]) rfl ?_
    exact ⟨by rw [A.out]; rfl, Below.refl _ _⟩
  · by_cases f1 : f < 0
    · go_enter Tryd.func45, Tryd.ntmps45
      go_wp2
      refine bodyPost_ret (v := .tuple #[.int .i64 0, .int .i64 0, .int .i64 1]) (by simp [results, Tryd.results45, go_sem]) rfl ?_
      exact ⟨by rw [A.out]; rfl, Below.refl _ _⟩
    · have f2 : 100000 < f := by omega
      clear hr
      go_enter Tryd.func45, Tryd.ntmps45
      go_wp2
      refine bodyPost_ret (v := .tuple #[.int .i64 0, .int .i64 0, .int .i64 1]) (by simp [results, Tryd.results45, go_sem]) rfl ?_
      exact ⟨by rw [A.out]; rfl, Below.refl _ _⟩
set_option maxRecDepth 100000 in
set_option maxHeartbeats 12800000 in
theorem refPlays_ok (xs : List FraT) (a : Option Addr) (m c n0 f : Nat) (w : World) (hP : ArgF w xs a m c) (n1 : 1 ≤ n0) (nM : n0 < 9223372036854775808) (f1 : f ≤ 100000) :
    Calls Tryd.prog 45 #[.slice a m c, .int .i64 (n0 : Int), .int .i64 (f : Int)] w (PlaR (plyA xs (n0 : Int) (f : Int)) w) := by
  have HL := hide' hP.len
  have nm := hP.max
  have HP := hide' (fun (V : World) (h : Below w.heap.size w V) => hP.below (B := 0) h)
  have FT := hide' hP.fit
  have DV := hide' (fun a b V => divisor_any a b V)
  have i1 : ¬ (n0 : Int) < 1 := by omega
  have i2 : ¬ (f : Int) < 0 := by omega
  have i3 : ¬ (100000 : Int) < (f : Int) := by omega
  clear hP
  go_enter Tryd.func45, Tryd.ntmps45
  go_wp2
  go_loopw [9] (fun kv wr => ∃ k : Nat, kv = .int .i64 (k : Int) ∧ k ≤ m ∧ w = wr ∧ Hid (∀ j (h : j < xs.length), j < k → fraB xs[j] = true)) (fun kv _ => m - (intOf kv).toNat)
  case atStart => exact ⟨0, rfl, by omega, rfl, hide' (fun j h hj => by omega)⟩
  case round =>
    obtain ⟨k, rfl, hk, rfl, HA⟩ := hrel
    by_cases d : (k : Int) < (m : Int)
    · have hkl : k < xs.length := by have := HL.out; omega
      obtain ⟨g, off, rfl, hg, c0, c1⟩ := (HP.out w (Below.refl _ _)).cells k hkl
      obtain ⟨⟨x, y⟩, hx⟩ : ∃ x, xs[k] = x := ⟨_, rfl⟩
      rw [hx] at c0 c1
      simp only at c0 c1
      have HX := hide' hx
      have k0 : (0 : Int) ≤ (k : Int) := by omega
      clear hx
      have BAD := hide' (show fraB (x, y) = false → plyA xs (n0 : Int) (f : Int) = (0, 0, 1) from fun q => by
        have : playE xs (n0 : Int) (f : Int) = 1 := by
          unfold playE
          rw [if_neg]
          intro al
          have := List.all_eq_true.1 al xs[k] (List.getElem_mem hkl)
          rw [HX.out, q] at this
          cases this
        unfold plyA; rw [this, if_pos (by decide)])
      by_cases x1 : x < 1
      · have X := hide' (BAD.out (by unfold fraB; simp; omega))
        go_wp2
        refine bodyPost_ret (v := .tuple #[.int .i64 0, .int .i64 0, .int .i64 1]) (by simp [results, Tryd.results45, go_sem]) rfl ?_
        exact ⟨by rw [X.out]; rfl, Below.refl _ _⟩
      · by_cases y1 : y < 1
        · have X := hide' (BAD.out (by unfold fraB; simp; omega))
          go_wp2
          refine bodyPost_ret (v := .tuple #[.int .i64 0, .int .i64 0, .int .i64 1]) (by simp [results, Tryd.results45, go_sem]) rfl ?_
          exact ⟨by rw [X.out]; rfl, Below.refl _ _⟩
        · have X := hide' (show fraB xs[k] = true by rw [HX.out]; unfold fraB; simp; omega)
          go_wp2
          refine ⟨⟨k + 1, by go_num, by omega, by simp, hide' fun j h hj => ?_⟩, by simp [intOf]; omega⟩
          by_cases e : j = k
          · subst e; exact X.out
          · exact HA.out j h (by omega)
    · have AL := hide' (show xs.all fraB = true from List.all_eq_true.2 fun p hp => by
        obtain ⟨j, hj, rfl⟩ := List.getElem_of_mem hp
        exact HA.out j hj (by have := HL.out; omega))
      have FB := hide' (show ∀ k (h : k < xs.length), ∃ u l : Nat, xs[k] = ((u : Int), (l : Int)) ∧ 0 < u ∧ 0 < l ∧ u < 9223372036854775808 ∧ l < 9223372036854775808 from fun k h => by
        have := List.all_eq_true.1 AL.out xs[k] (List.getElem_mem h)
        have hf := FT.out k h
        unfold fraB at this
        simp at this
        exact ⟨xs[k].1.toNat, xs[k].2.toNat, by rw [Int.toNat_of_nonneg (by omega), Int.toNat_of_nonneg (by omega)], by omega, by omega, by omega, by omega⟩)
      have PA := hide' (show plyA xs (n0 : Int) (f : Int) = if (goG xs f n0 0).2.2 = 0 then goG xs f n0 0 else (0, 0, (goG xs f n0 0).2.2) from by
        unfold plyA
        rw [if_neg, Int.toNat_natCast, Int.toNat_natCast]
        unfold playE fuelE
        rw [if_pos AL.out, if_neg (by omega), if_neg (by omega)]
        simp)
      obtain ⟨R, hR⟩ : ∃ R, goG xs f n0 0 = R := ⟨_, rfl⟩
      rw [hR] at PA
      have GS0 := hide' (show goG xs (f - 0) n0 0 = R from hR)
      have HN0 := hide' nM
      clear hR HA
      go_wp2
      go_loopw [1, 11] (fun nv kv wr => ∃ n k : Nat, nv = .int .i64 (n : Int) ∧ kv = .int .i64 (k : Int) ∧ k ≤ f ∧ Hid (Below w.heap.size w wr) ∧ Hid (goG xs (f - k) n k = R) ∧ Hid (n < 9223372036854775808)) (fun _ kv _ => f - (intOf kv).toNat)
      case atStart => exact ⟨n0, 0, rfl, rfl, by omega, hide' (Below.refl _ _), GS0, HN0⟩
      case round =>
        obtain ⟨n, k, rfl, rfl, hk, BW, GS, HN⟩ := hrel
        obtain ⟨V0, rfl⟩ : ∃ V0, V0 = wr := ⟨_, rfl⟩
        go_wp2
        go_loopw [12, 13] (fun sv iv wr => ∃ i : Nat, iv = .int .i64 (i : Int) ∧ i ≤ m ∧ Hid (Below w.heap.size w wr) ∧ Hid ((sv = .int .i64 (-1) ∧ ∀ j (h : j < xs.length), j < i → fitsF n xs[j].1.toNat xs[j].2.toNat = false) ∨ (∃ j : Nat, sv = .int .i64 (j : Int) ∧ ∃ h : j < xs.length, fitsF n xs[j].1.toNat xs[j].2.toNat = true ∧ ∀ j' (h : j' < xs.length), j' < j → fitsF n xs[j'].1.toNat xs[j'].2.toNat = false))) (fun _ iv _ => m - (intOf iv).toNat)
        case atStart => exact ⟨0, rfl, by omega, BW, hide' (Or.inl ⟨rfl, fun j h hj => by omega⟩)⟩
        case round =>
          obtain ⟨i, rfl, hi, BX, HS⟩ := hrel
          obtain ⟨V1, rfl⟩ : ∃ V1, V1 = wr := ⟨_, rfl⟩
          rcases HS.out with ⟨rfl, nf⟩ | ⟨j, rfl, jl, jf, jn⟩
          · have NF := hide' nf
            clear HS nf
            by_cases di : (i : Int) < (m : Int)
            · have il : i < xs.length := by have := HL.out; omega
              obtain ⟨g, off, rfl, hg, c0, c1⟩ := (HP.out V1 BX.out).cells i il
              obtain ⟨u, l, hx, u0, l0, um, lm⟩ := FB.out i il
              rw [hx] at c0 c1
              simp only at c0 c1
              have i0 : (0 : Int) ≤ (i : Int) := by omega
              have FX := hide' (show fitsF n xs[i].1.toNat xs[i].2.toNat = (n * u % l == 0) by rw [hx]; unfold fitsF; simp)
              obtain ⟨e1, -, l'0, -⟩ := fits_gcd (n := n) u0 l0
              have E1 := hide' e1
              have dp := Nat.gcd_pos_of_pos_left l u0
              have DD := hide' (fun V => DV.out u l V)
              obtain ⟨dd, hdd⟩ : ∃ d, Nat.gcd u l = d := ⟨_, rfl⟩
              rw [hdd] at l'0 E1 dp DD
              obtain ⟨l', hl'⟩ : ∃ l', l / dd = l' := ⟨_, rfl⟩
              rw [hl'] at E1 l'0
              have l'm : l' ≤ l := by rw [← hl']; exact Nat.div_le_self _ _
              have ql := i64Q l dd l' hl' (by omega)
              have ddz : ¬ dd = 0 := by omega
              have l'z : ¬ l' = 0 := by omega
              obtain ⟨r, hr⟩ : ∃ r, n % l' = r := ⟨_, rfl⟩
              rw [hr] at E1
              have qr : (n : Int) % (l' : Int) = (r : Int) := by rw [← hr]; rfl
              have BD := hide' (fun k => Below_drewN9 BX.out k)
              clear hx hl' hr l'm l'0 dp e1 hdd
              by_cases r0 : r = 0
              · have X := hide' (show fitsF n xs[i].1.toNat xs[i].2.toNat = true by rw [FX.out]; simpa using E1.out.2 r0)
                subst r0
                go_wp2
                go_quiet (first | (go_at_call 94; exact Calls.quiet_of_same (DD.out _)))
                go_wp2
                exact ⟨⟨i + 1, by go_num, by omega, hide' (BD.out _), hide' (Or.inr ⟨i, rfl, il, X.out, NF.out⟩)⟩, by simp [intOf]; omega⟩
              · have X := hide' (show fitsF n xs[i].1.toNat xs[i].2.toNat = false by rw [FX.out]; have : ¬ n * u % l = 0 := fun q => r0 (E1.out.1 q); simpa using this)
                have rz : (r == 0) = false := by simpa using r0
                go_wp2
                go_quiet (first | (go_at_call 94; exact Calls.quiet_of_same (DD.out _)))
                go_wp2
                refine ⟨⟨i + 1, by go_num, by omega, hide' (BD.out _), hide' (Or.inl ⟨rfl, fun j h hj => ?_⟩)⟩, by simp [intOf]; omega⟩
                by_cases e : j = i
                · subst e; exact X.out
                · exact NF.out j h (by omega)
            · have FR := hide' (first_none (n := n) (xs := xs) (fun j hj => NF.out j hj (by have := HL.out; omega)))
              have X := hide' (show R = (n, k, 0) from by
                have gs := GS.out
                rw [goG_end FR.out] at gs
                exact gs.symm)
              have FIN := hide' (show ∀ V, Below w.heap.size w V → PlaR (plyA xs (n0 : Int) (f : Int)) w (.returned (.tuple #[.int .i64 (n : Int), .int .i64 (k : Int), .int .i64 0])) V from fun V hb => ⟨by rw [PA.out, X.out]; rfl, hb⟩)
              go_wp2
              refine bodyPost_ret (v := .tuple #[.int .i64 (n : Int), .int .i64 (k : Int), .int .i64 0]) (by simp [results, Tryd.results45, go_sem]) rfl ?_
              exact FIN.out _ BX.out
          · have JH := hide' (show ∃ h : j < xs.length, fitsF n xs[j].1.toNat xs[j].2.toNat = true ∧ ∀ j' (h : j' < xs.length), j' < j → fitsF n xs[j'].1.toNat xs[j'].2.toNat = false from ⟨jl, jf, jn⟩)
            clear HS jf jn jl
            by_cases di : (i : Int) < (m : Int)
            all_goals
              have jl' := JH.out.1
              obtain ⟨g, off, rfl, hg, c0, c1⟩ := (HP.out V1 BX.out).cells j jl'
              obtain ⟨u, l, hx, u0, l0, um, lm⟩ := FB.out j jl'
              rw [hx] at c0 c1
              simp only at c0 c1
              have jm : (j : Int) < (m : Int) := by have := HL.out; omega
              have j0 : (0 : Int) ≤ (j : Int) := by omega
              have jn : ¬ (j : Int) < 0 := by omega
              have FR := hide' (first_at jl' JH.out.2.2 JH.out.2.1)
              have FIT := hide' (show n * u % l = 0 by have := JH.out.2.1; rw [hx] at this; unfold fitsF at this; simpa using this)
              have NXF := hide' (show nextF n xs[j] = n * u / l by unfold nextF; rw [hx]; simp)
              obtain ⟨-, e2, l'0, u'0⟩ := fits_gcd (n := n) u0 l0
              have E2 := hide' (e2 FIT.out)
              have dp := Nat.gcd_pos_of_pos_left l u0
              have DD := hide' (fun V => DV.out u l V)
              obtain ⟨dd, hdd⟩ : ∃ d, Nat.gcd u l = d := ⟨_, rfl⟩
              rw [hdd] at l'0 u'0 E2 dp DD
              obtain ⟨l', hl'⟩ : ∃ l', l / dd = l' := ⟨_, rfl⟩
              obtain ⟨u', hu'⟩ : ∃ u', u / dd = u' := ⟨_, rfl⟩
              rw [hl', hu'] at E2
              rw [hl'] at l'0
              rw [hu'] at u'0
              have l'm : l' ≤ l := by rw [← hl']; exact Nat.div_le_self _ _
              have u'm : u' ≤ u := by rw [← hu']; exact Nat.div_le_self _ _
              have ql := i64Q l dd l' hl' (by omega)
              have qu := i64Q u dd u' hu' (by omega)
              obtain ⟨mm, hmm⟩ : ∃ mm, n / l' = mm := ⟨_, rfl⟩
              have mmn : mm ≤ n := by rw [← hmm]; exact Nat.div_le_self _ _
              have nM9 := HN.out
              have qm := i64Q n l' mm hmm (by omega)
              obtain ⟨tt, htt⟩ : ∃ tt, 4611686018427387904 / u' = tt := ⟨_, rfl⟩
              have ttm : tt ≤ 4611686018427387904 := by rw [← htt]; exact Nat.div_le_self _ _
              have qt : IntKind.i64.wrap ((4611686018427387904 : Int) / (u' : Int)) = (tt : Int) := i64Q 4611686018427387904 u' tt htt (by omega)
              have qt0 : (4611686018427387904 : Int) / (u' : Int) = (tt : Int) := by rw [← htt]; rfl
              rw [hmm] at E2
              have FG := full_gcd (m := mm) u'0
              rw [htt] at FG
              have ddz : ¬ dd = 0 := by omega
              have l'z : ¬ l' = 0 := by omega
              have u'z : ¬ u' = 0 := by omega
              have EE := hide' (show nextF n xs[j] = mm * u' by rw [NXF.out, E2.out])
              have HF := hide' FG
              have BD := hide' (fun k => Below_drewN9 BX.out k)
              clear hx hl' hu' hmm htt FG l'm u'm mmn l'0 u'0 dp e2 hdd
              by_cases kf : (f : Int) ≤ (k : Int)
              · have X := hide' (show R = (n, k, 6) from by
                  have gs := GS.out
                  rw [show f - k = 0 by omega, goG_long FR.out] at gs
                  exact gs.symm)
                have FIN := hide' (show ∀ V, Below w.heap.size w V → PlaR (plyA xs (n0 : Int) (f : Int)) w (.returned (.tuple #[.int .i64 0, .int .i64 0, .int .i64 6])) V from fun V hb => ⟨by rw [PA.out, X.out]; rfl, hb⟩)
                go_wp2
                refine bodyPost_ret (v := .tuple #[.int .i64 0, .int .i64 0, .int .i64 6]) (by simp [results, Tryd.results45, go_sem]) rfl ?_
                exact FIN.out _ BX.out
              · have kf' : ¬ (f : Int) ≤ (k : Int) := kf
                by_cases fu : tt < mm
                · have X := hide' (show R = (n, k, 4) from by
                    have gs := GS.out
                    rw [show f - k = (f - (k + 1)) + 1 by omega, goG_full FR.out (by rw [EE.out]; exact HF.out.1 fu)] at gs
                    exact gs.symm)
                  have FIN := hide' (show ∀ V, Below w.heap.size w V → PlaR (plyA xs (n0 : Int) (f : Int)) w (.returned (.tuple #[.int .i64 0, .int .i64 0, .int .i64 4])) V from fun V hb => ⟨by rw [PA.out, X.out]; rfl, hb⟩)
                  have fui : (tt : Int) < (mm : Int) := by omega
                  clear fu
                  go_wp2
                  go_quiet (first | (go_at_call 94; exact Calls.quiet_of_same (DD.out _)))
                  go_wp2
                  refine bodyPost_ret (v := .tuple #[.int .i64 0, .int .i64 0, .int .i64 4]) (by simp [results, Tryd.results45, go_sem]) rfl ?_
                  exact FIN.out _ (BD.out _)
                · have pm : mm * u' ≤ 4611686018427387904 := by
                    rcases Nat.lt_or_ge 4611686018427387904 (mm * u') with h | h
                    · exact absurd (HF.out.2 h) fu
                    · exact h
                  have NG := hide' (show goG xs (f - (k + 1)) (mm * u') (k + 1) = R from by
                    have gs := GS.out
                    rw [show f - k = (f - (k + 1)) + 1 by omega, goG_next FR.out (by rw [EE.out]; omega), EE.out] at gs
                    exact gs)
                  have fui : ¬ (tt : Int) < (mm : Int) := by omega
                  have wm : IntKind.i64.wrap ((mm : Int) * (u' : Int)) = ((mm * u' : Nat) : Int) := by rw [← Int.natCast_mul]; simp [IntKind.wrap, IntKind.bits, IntKind.signed]; omega
                  obtain ⟨q, hq⟩ : ∃ q, mm * u' = q := ⟨_, rfl⟩
                  rw [hq] at NG wm pm
                  have QM := hide' (show q < 9223372036854775808 by omega)
                  have k1 : k + 1 ≤ f := by omega
                  clear fu hq
                  go_wp2
                  go_quiet (first | (go_at_call 94; exact Calls.quiet_of_same (DD.out _)))
                  go_wp2
                  exact ⟨⟨q, k + 1, rfl, by go_num, k1, hide' (BD.out _), NG, QM⟩, by simp [intOf]; omega⟩
end Go.Proofs.YtdkomlgkkepioaaDoor

