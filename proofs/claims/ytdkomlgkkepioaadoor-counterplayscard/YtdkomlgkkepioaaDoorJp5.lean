/-
  What the last text of this claim leans on, part 5: Cb7, Cb8.
-/
import Derived.Test.YtdkomlgkkepioaaDoorJp4
namespace Go.Proofs.YtdkomlgkkepioaaDoor
open Go.RowKit
set_option linter.unusedVariables false
/-- What goOn answers. -/
def WentG (R : Nat × Nat × Nat) (gb B : Nat) (sl : Value) (w : World) (e : Ending) (w' : World) : Prop :=
  Below B w w' ∧ ((R.2.2 = 0 ∧ e = .returned (.tuple #[.int .i64 (R.2.1 : Int), .nilIface]) ∧ GaB w' gb sl R.1) ∨ (R.2.2 ≠ 0 ∧ e = .returned (.tuple #[.int .i64 0, .iface 94 (.int .i64 (R.2.2 : Int))])))
set_option maxRecDepth 100000 in
set_option maxHeartbeats 6400000 in
theorem goOnG_any (xs : List FraT) (a : Option Addr) (m c : Nat) (gb fuel B n : Nat) (eb : Addr) (w : World) (hm : GaB w gb (.slice a m c) n) (hB : B ≤ gb) (hBw : B ≤ w.heap.size)
    (hP : ∀ V, Below B w V → ArgF V xs a m c) (hE : ∀ V, Below B w V → EndT V eb) (al : xs.all fraB = true) (hn : n < 9223372036854775808) (hf : fuel ≤ 100000) :
    Calls Tryd.prog 87 #[.int .i64 (fuel : Int), .func (.func 93) #[.pointer (some ⟨gb, 0, none⟩)] #[]] w (WentG (goG xs fuel n 0) gb B (.slice a m c) w) := by
  obtain ⟨R, hR⟩ : ∃ R, goG xs fuel n 0 = R := ⟨_, rfl⟩
  rw [hR]
  have HS := hide' (show ∃ n', goG xs (fuel - 0) n' 0 = R ∧ n' < 9223372036854775808 ∧ GaB w gb (.slice a m c) n' from ⟨n, hR, hn, hm⟩)
  have HP := hide' hP
  have HE := hide' hE
  have AL := hide' al
  have HB := hide' hB
  have HW := hide' hBw
  have IS := hide' (fun V => is_same eb V)
  have IN := hide' (fun V => is_nil eb V)
  have IE := hide' (fun m V => is_errno m eb V)
  clear hm hP hE al hR hn hB hBw n
  go_enter Tryd.func87, Tryd.ntmps87
  go_wp2
  go_loopw [6] (fun kv wr => ∃ k : Nat, kv = .int .i64 (k : Int) ∧ k ≤ fuel ∧ Hid (Below B w wr) ∧ Hid (∃ n', goG xs (fuel - k) n' k = R ∧ n' < 9223372036854775808 ∧ GaB wr gb (.slice a m c) n')) (fun kv _ => fuel - (intOf kv).toNat)
  case atStart => exact ⟨0, rfl, by omega, hide' (Below.refl _ _), HS⟩
  case round =>
    obtain ⟨k, rfl, hk, BW, HSk⟩ := hrel
    obtain ⟨n, gs, ok, ms⟩ := HSk.out
    have ST := hide' (gameStep_any xs a m c gb B n eb wr ms (HP.out wr BW.out) (HE.out wr BW.out) ok HB.out AL.out)
    have GS := hide' gs
    have MS := hide' ms
    have ET := HE.out wr BW.out
    have EV := hide' (fun V (hb : Below wr.heap.size wr V) => ET.below hb ET.lt)
    have EW := hide' (fun V (hb : Below B wr V) => HE.out V (BW.out.trans hb))
    have BV := hide' (fun V (hb : Below wr.heap.size wr V) => BW.out.trans (hb.mono (Nat.le_trans HW.out BW.out.size)))
    clear gs ms ET HSk ok
    go_wp2_with fail
    refine ST.out.mono ?_
    rintro e w1 (⟨h1, rfl, b1⟩ | ⟨p, h1, h2, rfl, b1⟩ | ⟨p, h1, h2, rfl, m1, b1⟩)
    · have gs := GS.out
      rw [goG_end h1] at gs
      have FIN := hide' (show WentG R gb B (.slice a m c) w (.returned (.tuple #[.int .i64 (k : Int), .nilIface])) w1 from by
        rw [← gs]
        exact ⟨BV.out w1 b1, Or.inl ⟨rfl, rfl, MS.out.below b1 MS.out.lt⟩⟩)
      have E1 : w1.cell? ⟨3, 0, none⟩ = some (.iface 344 (.pointer (some eb))) := EV.out w1 b1
      clear gs h1
      go_wp2_with (go_at_call 129; refine (IS.out _).mono ?_; rintro e w2 ⟨rfl, rfl⟩)
      go_ret2
      exact FIN.out
    · have NX := hide' (show (k = fuel ∧ (n, k, 6) = R) ∨ (k ≠ fuel ∧ (n, k, 4) = R) from by
        have gs := GS.out
        by_cases kf : k = fuel
        · left; subst kf; rw [Nat.sub_self, goG_long h1] at gs; exact ⟨rfl, gs⟩
        · right; rw [show fuel - k = (fuel - (k + 1)) + 1 by omega, goG_full h1 h2] at gs; exact ⟨kf, gs⟩)
      have E1 : w1.cell? ⟨3, 0, none⟩ = some (.iface 344 (.pointer (some eb))) := EV.out w1 b1
      clear h1 h2
      by_cases kf : (k : Int) = (fuel : Int)
      · have FIN := hide' (show WentG R gb B (.slice a m c) w (.returned (.tuple #[.int .i64 0, .iface 94 (.int .i64 6)])) w1 from by
          rcases NX.out with ⟨-, h⟩ | ⟨h, -⟩
          · rw [← h]
            exact ⟨BV.out w1 b1, Or.inr ⟨by simp, rfl⟩⟩
          · exact absurd (Int.ofNat.inj kf) h)
        go_wp2_with (go_at_call 129; refine (IE.out _ _).mono ?_; rintro e w2 ⟨rfl, rfl⟩)
        go_ret2
        exact FIN.out
      · have kf' : ¬ (fuel : Int) = (k : Int) := fun q => kf q.symm
        have FIN := hide' (show WentG R gb B (.slice a m c) w (.returned (.tuple #[.int .i64 0, .iface 94 (.int .i64 4)])) w1 from by
          rcases NX.out with ⟨h, -⟩ | ⟨-, h⟩
          · exact absurd (by rw [h]) kf
          · rw [← h]
            exact ⟨BV.out w1 b1, Or.inr ⟨by simp, rfl⟩⟩)
        go_wp2_with (go_at_call 129; refine (IE.out _ _).mono ?_; rintro e w2 ⟨rfl, rfl⟩)
        go_ret2
        exact FIN.out
    · have NX := hide' (show (k = fuel ∧ (n, k, 6) = R) ∨ (k ≠ fuel ∧ goG xs (fuel - (k + 1)) (nextF n p) (k + 1) = R) from by
        have gs := GS.out
        by_cases kf : k = fuel
        · left; subst kf; rw [Nat.sub_self, goG_long h1] at gs; exact ⟨rfl, gs⟩
        · right; rw [show fuel - k = (fuel - (k + 1)) + 1 by omega, goG_next h1 h2] at gs; exact ⟨kf, gs⟩)
      have E1 : w1.cell? ⟨3, 0, none⟩ = some (.iface 344 (.pointer (some eb))) := EW.out w1 b1
      have N2 := hide' (show nextF n p < 9223372036854775808 by omega)
      have M1 := hide' m1
      clear h1 h2 m1
      by_cases kf : (k : Int) = (fuel : Int)
      · have FIN := hide' (show WentG R gb B (.slice a m c) w (.returned (.tuple #[.int .i64 0, .iface 94 (.int .i64 6)])) w1 from by
          rcases NX.out with ⟨-, h⟩ | ⟨h, -⟩
          · rw [← h]
            exact ⟨BW.out.trans b1, Or.inr ⟨by simp, rfl⟩⟩
          · exact absurd (Int.ofNat.inj kf) h)
        go_wp2_with (go_at_call 129; refine (IN.out _).mono ?_; rintro e w2 ⟨rfl, rfl⟩)
        go_ret2
        exact FIN.out
      · have kf' : ¬ (fuel : Int) = (k : Int) := fun q => kf q.symm
        have kn : k ≠ fuel := fun q => kf (by rw [q])
        have NG := hide' (show goG xs (fuel - (k + 1)) (nextF n p) (k + 1) = R from by rcases NX.out with ⟨h, -⟩ | ⟨-, h⟩; exact absurd h kn; exact h)
        have k1 : k + 1 ≤ fuel := by omega
        have B9 := hide' (BW.out.trans b1)
        clear kn
        go_wp2_with (go_at_call 129; refine (IN.out _).mono ?_; rintro e w2 ⟨rfl, rfl⟩)
        exact ⟨⟨k + 1, by go_num, k1, B9, hide' ⟨_, NG.out, N2.out, M1.out⟩⟩, by simp [intOf]; omega⟩
/-- What a game comes to, or what is wrong. -/
def plyA (xs : List FraT) (n f : Int) : Nat × Nat × Nat :=
  if playE xs n f ≠ 0 then (0, 0, playE xs n f)
  else if (goG xs f.toNat n.toNat 0).2.2 = 0 then goG xs f.toNat n.toNat 0 else (0, 0, (goG xs f.toNat n.toNat 0).2.2)
def PlaC (A : Nat × Nat × Nat) (w : World) (e : Ending) (w' : World) : Prop := e = .returned (.tuple #[.int .i64 (A.1 : Int), .int .i64 (A.2.1 : Int), errOf A.2.2]) ∧ Below w.heap.size w w'
theorem playE_ok {xs : List FraT} {n f : Int} (h : playE xs n f = 0) : xs.all fraB = true ∧ 1 ≤ n ∧ 0 ≤ f ∧ f ≤ 100000 := by
  unfold playE fuelE at h
  split at h
  · rename_i al
    split at h
    · cases h
    · split at h
      · cases h
      · exact ⟨al, by omega, by omega, by omega⟩
  · cases h
set_option maxRecDepth 100000 in
set_option maxHeartbeats 6400000 in
theorem counterPlay_bad (xs : List FraT) (a : Option Addr) (m c : Nat) (n f : Int) (w : World) (hP : ArgF w xs a m c) (hr : playE xs n f ≠ 0) :
    Calls Tryd.prog 44 #[.slice a m c, .int .i64 n, .int .i64 f] w (PlaC (plyA xs n f) w) := by
  have CK := hide' (checkPlay_any xs a m c n f w hP)
  have A := hide' (show plyA xs n f = (0, 0, playE xs n f) by unfold plyA; rw [if_pos hr])
  rw [errOf_is hr] at CK
  have E := hide' (errOf_is hr)
  clear hP hr
  go_enter Tryd.func44, Tryd.ntmps44
  go_wp2_with fail
  refine CK.out.mono ?_
  rintro e w1 ⟨rfl, b1⟩
  go_wp2
  refine bodyPost_ret (v := .tuple #[.int .i64 0, .int .i64 0, .iface 94 (.int .i64 (playE xs n f : Int))]) (by simp [results, Tryd.results44, go_sem]) rfl ?_
  refine ⟨?_, b1⟩
  rw [A.out]; simp only; rw [E.out]; rfl
set_option maxRecDepth 100000 in
set_option maxHeartbeats 6400000 in
theorem counterPlay_ok (xs : List FraT) (a : Option Addr) (m c : Nat) (n f : Int) (eb : Addr) (w : World) (hP : ArgF w xs a m c) (hE : EndT w eb) (hn : n ≤ 9223372036854775807) (hr : playE xs n f = 0) :
    Calls Tryd.prog 44 #[.slice a m c, .int .i64 n, .int .i64 f] w (PlaC (plyA xs n f) w) := by
  have CK := hide' (checkPlay_any xs a m c n f w hP)
  obtain ⟨al, n1, f0, f1⟩ := playE_ok hr
  rw [hr, show errOf 0 = .nilIface from rfl] at CK
  obtain ⟨f, rfl⟩ : ∃ k : Nat, f = (k : Int) := ⟨f.toNat, by omega⟩
  obtain ⟨n, rfl⟩ : ∃ k : Nat, n = (k : Int) := ⟨n.toNat, by omega⟩
  have A := hide' (show plyA xs (n : Int) (f : Int) = if (goG xs f n 0).2.2 = 0 then goG xs f n 0 else (0, 0, (goG xs f n 0).2.2) by unfold plyA; rw [if_neg (by simp [hr]), Int.toNat_natCast, Int.toNat_natCast])
  have GO := hide' (fun (w1 : World) (b1 : Below w.heap.size w w1) (gb : Nat) (V : World) (g : GaB V gb (.slice a m c) n) (hb : Below w.heap.size w V) (hw : w.heap.size ≤ gb) => goOnG_any xs a m c gb f w.heap.size n eb V g hw hb.size (fun U hU => hP.below (B := 0) (hb.trans hU)) (fun U hU => hE.below (hb.trans hU) hE.lt) al (by omega) (by omega))
  obtain ⟨R, hR⟩ : ∃ R, goG xs f n 0 = R := ⟨_, rfl⟩
  rw [hR] at GO A
  clear hR hP hE hr al f0 n1
  go_enter Tryd.func44, Tryd.ntmps44
  go_wp2_with fail
  refine CK.out.mono ?_
  rintro e w1 ⟨rfl, b1⟩
  obtain ⟨w2, hw2⟩ : ∃ w2, w1.alloc (.cells #[.slice a m c, .int .i64 (n : Int)] 176) = w2 := ⟨_, rfl⟩
  have B2 := hide' (show Below w.heap.size w w2 by rw [← hw2]; exact b1.alloc b1.size _)
  have G2 := hide' (show GaB w2 w1.heap.size (.slice a m c) n from ⟨by rw [← hw2]; exact heap_alloc_new _ _⟩)
  have GQ := hide' (GO.out w1 b1 w1.heap.size w2 G2.out B2.out b1.size)
  have HW2 := hide' hw2
  clear hw2 b1
  go_upto_region 5 with fail
  rw [HW2.out]
  go_wp2_with fail
  refine GQ.out.mono ?_
  rintro e w4 ⟨b4, ⟨r0, rfl, m4⟩ | ⟨r0, rfl⟩⟩
  · rw [if_pos r0] at A
    have B4 := hide' (B2.out.trans b4)
    have s1 := cell_of_row w4 _ 1 _ _ _ m4.row
    simp at s1
    have E0 := hide' r0
    clear m4 b4 r0
    go_wp2
    refine bodyPost_ret (v := .tuple #[.int .i64 (R.1 : Int), .int .i64 (R.2.1 : Int), .nilIface]) (by simp [results, Tryd.results44, go_sem]) rfl ?_
    refine ⟨?_, B4.out⟩
    rw [A.out, E0.out]; rfl
  · rw [if_neg r0] at A
    have E := hide' (errOf_is r0)
    have B4 := hide' (B2.out.trans b4)
    clear b4 r0
    go_wp2
    refine bodyPost_ret (v := .tuple #[.int .i64 0, .int .i64 0, .iface 94 (.int .i64 (R.2.2 : Int))]) (by simp [results, Tryd.results44, go_sem]) rfl ?_
    refine ⟨?_, B4.out⟩
    rw [A.out]; simp only; rw [E.out]; rfl
end Go.Proofs.YtdkomlgkkepioaaDoor

namespace Go.Proofs.YtdkomlgkkepioaaDoor
open Go.RowKit
set_option linter.unusedVariables false
theorem gcd_parts {u l : Nat} (hu : 0 < u) : ∃ u' l', u = Nat.gcd u l * u' ∧ l = Nat.gcd u l * l' ∧ Nat.Coprime l' u' ∧ 0 < Nat.gcd u l := by
  have g0 : 0 < Nat.gcd u l := Nat.gcd_pos_of_pos_left l hu
  refine ⟨u / Nat.gcd u l, l / Nat.gcd u l, (Nat.mul_div_cancel' (Nat.gcd_dvd_left u l)).symm, (Nat.mul_div_cancel' (Nat.gcd_dvd_right u l)).symm, ?_, g0⟩
  exact (Nat.coprime_div_gcd_div_gcd g0).symm
theorem fits_gcd {n u l : Nat} (hu : 0 < u) (hl : 0 < l) : (n * u % l = 0 ↔ n % (l / Nat.gcd u l) = 0) ∧ (n * u % l = 0 → n * u / l = n / (l / Nat.gcd u l) * (u / Nat.gcd u l)) ∧ 0 < l / Nat.gcd u l ∧ 0 < u / Nat.gcd u l := by
  obtain ⟨u', l', e1, e2, co, g0⟩ := gcd_parts (l := l) hu
  obtain ⟨g, hg⟩ : ∃ g, Nat.gcd u l = g := ⟨_, rfl⟩
  rw [hg] at e1 e2 g0 ⊢
  clear hg
  subst e1 e2
  have l0 : 0 < l' := Nat.pos_of_ne_zero fun z => by rw [z] at hl; simp at hl
  have u0 : 0 < u' := Nat.pos_of_ne_zero fun z => by rw [z] at hu; simp at hu
  rw [Nat.mul_div_cancel_left _ g0, Nat.mul_div_cancel_left _ g0]
  have e : n * (g * u') = g * (n * u') := by rw [← Nat.mul_assoc, Nat.mul_comm n g, Nat.mul_assoc]
  have key : n * (g * u') % (g * l') = 0 ↔ n % l' = 0 := by
    rw [e, Nat.mul_mod_mul_left]
    constructor
    · intro h
      have h1 : n * u' % l' = 0 := by rcases Nat.mul_eq_zero.1 h with k | k; omega; exact k
      exact Nat.mod_eq_zero_of_dvd (co.dvd_of_dvd_mul_right (Nat.dvd_of_mod_eq_zero h1))
    · intro h
      have : l' ∣ n * u' := Nat.dvd_mul_right_of_dvd (Nat.dvd_of_mod_eq_zero h) u'
      rw [Nat.mod_eq_zero_of_dvd this]; simp
  refine ⟨key, fun h => ?_, l0, u0⟩
  obtain ⟨m, rfl⟩ := Nat.dvd_of_mod_eq_zero (key.1 h)
  rw [Nat.mul_div_cancel_left _ l0, e, Nat.mul_div_mul_left _ _ g0, Nat.mul_assoc, Nat.mul_div_cancel_left _ l0]
theorem full_gcd {m u' : Nat} (h : 0 < u') : (4611686018427387904 / u' < m) ↔ 4611686018427387904 < m * u' := Nat.div_lt_iff_lt_mul h
set_option maxRecDepth 100000 in
set_option maxHeartbeats 3200000 in
theorem divisor_any (a b : Nat) (w : World) : Calls Tryd.prog 94 #[.int .i64 (a : Int), .int .i64 (b : Int)] w fun e w' => e = .returned (.int .i64 ((Nat.gcd a b : Nat) : Int)) ∧ w' = w := by
  obtain ⟨G, hG⟩ : ∃ G, Nat.gcd a b = G := ⟨_, rfl⟩
  rw [hG]
  have HG := hide' hG
  clear hG
  go_enter Tryd.func94, Tryd.ntmps94
  go_wp2
  go_loopw [0, 1] (fun av bv wr => ∃ x y : Nat, av = .int .i64 (x : Int) ∧ bv = .int .i64 (y : Int) ∧ Hid (Nat.gcd x y = G) ∧ w = wr) (fun _ bv _ => (intOf bv).toNat)
  case atStart => exact ⟨a, b, rfl, rfl, HG, rfl⟩
  case round =>
    obtain ⟨x, y, rfl, rfl, HX, rfl⟩ := hrel
    by_cases y0 : y = 0
    · subst y0
      have X := hide' (show x = G by have := HX.out; rwa [Nat.gcd_zero_right] at this)
      have z0 : ¬ (0 : Int) < 0 := by omega
      go_wp2
      go_ret
      rw [X.out]; exact ⟨rfl, rfl⟩
    · have y1 : (0 : Int) < (y : Int) := by omega
      have yz : (y == 0) = false := by simpa using y0
      have NX := hide' (show Nat.gcd y (x % y) = G by rw [Nat.gcd_comm, ← HX.out, Nat.gcd_comm x y, Nat.gcd_rec y x])
      have lt := Nat.mod_lt x (show 0 < y by omega)
      have q1 : (x : Int) % (y : Int) = ((x % y : Nat) : Int) := rfl
      obtain ⟨r, hr⟩ : ∃ r, x % y = r := ⟨_, rfl⟩
      rw [hr] at NX lt q1
      have Q1 := hide' q1
      clear hr q1
      go_wp2
      rw [Q1.out]
      exact ⟨⟨y, r, rfl, rfl, NX, trivial⟩, by simp [intOf]; omega⟩
end Go.Proofs.YtdkomlgkkepioaaDoor

