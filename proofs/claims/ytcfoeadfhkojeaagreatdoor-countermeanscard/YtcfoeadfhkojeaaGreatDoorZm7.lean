/-
  What the last text of this claim leans on, part 7: Cb2.
-/
import Derived.Test.YtcfoeadfhkojeaaGreatDoorZm6
import Derived.Deep.CutRange
namespace Go.Proofs.YtcfoeadfhkojeaaGreatDoor
open Go.RowKit
set_option linter.unusedVariables false
theorem natI (a b : Nat) (h : a * b < 18446744073709551616) : IntKind.u64.wrap ((a : Int) * (b : Int)) = ((a * b : Nat) : Int) := by rw [← Int.natCast_mul]; exact wrapU _ h
theorem mulI (b : Nat) (h : 4294967296 * b < 18446744073709551616) : IntKind.u64.wrap (4294967296 * (b : Int)) = ((4294967296 * b : Nat) : Int) := by rw [show (4294967296 : Int) * (b : Int) = ((4294967296 * b : Nat) : Int) by simp]; exact wrapU _ h
theorem addI (a b : Nat) (h : a + b < 18446744073709551616) : IntKind.u64.wrap ((a : Int) + (b : Int)) = ((a + b : Nat) : Int) := by rw [← Int.natCast_add]; exact wrapU _ h
theorem subI (a b c : Nat) (h : a = b + c) (hc : c < 18446744073709551616) : IntKind.u64.wrap ((a : Int) - (b : Int)) = (c : Int) := by rw [show (a : Int) - (b : Int) = (c : Int) by omega]; exact wrapU _ hc
theorem quoI (a b : Nat) (ha : a < 18446744073709551616) : IntKind.u64.wrap ((a : Int) / (b : Int)) = ((a / b : Nat) : Int) := by
  rw [show (a : Int) / (b : Int) = ((a / b : Nat) : Int) from rfl]
  exact wrapU _ (Nat.lt_of_le_of_lt (Nat.div_le_self _ _) ha)
/-- What Div64 answers. -/
def Div64P (u v1 v0 d1 d0 s : Nat) (w : World) (e : Ending) (w' : World) : Prop := ∃ q1 q0, DgIs u v1 v0 d1 4294967296 q1 ∧ DgIs (u * 4294967296 + d1 - q1 * (v1 * 4294967296 + v0)) v1 v0 d0 4294967296 q0 ∧ e = .returned (.tuple #[.int .u64 ((q1 * 4294967296 + q0 : Nat) : Int), .int .u64 ((((u * 4294967296 + d1 - q1 * (v1 * 4294967296 + v0)) * 4294967296 + d0 - q0 * (v1 * 4294967296 + v0)) / 2 ^ s : Nat) : Int)]) ∧ w' = w
set_option maxRecDepth 100000 in
set_option maxHeartbeats 12800000 in
theorem div64_core (hi lo y s Y v1 v0 H L1 u T d1 d0 : Nat) (w : World) (LZ : Hid (Calls Tryz.prog 63 #[.int .u64 (y : Int)] w fun e w' => e = .returned (.int .i64 (s : Int)) ∧ w' = w))
    (y1 : ¬ y = 0) (y3 : ¬ (y : Int) ≤ (hi : Int)) (h1 : ¬ hi = 0) (s63 : s ≤ 63)
    (e1 : IntKind.u64.wrap (s : Int) = (s : Int)) (m1 : min s 64 = s) (e2 : IntKind.u64.wrap ((y : Int) * 2 ^ s) = (Y : Int)) (e3 : (Y : Int) / 4294967296 = (v1 : Int)) (e4 : bits .and .u64 (Y : Int) 4294967295 = (v0 : Int))
    (e5 : IntKind.u64.wrap ((hi : Int) * 2 ^ s) = (H : Int)) (e6 : IntKind.u64.wrap (64 - (s : Int)) = ((64 - s : Nat) : Int)) (m2 : min (64 - s) 64 = 64 - s) (e7 : (lo : Int) / 2 ^ (64 - s) = (L1 : Int)) (e8 : bits .or .u64 (H : Int) (L1 : Int) = (u : Int))
    (e9 : IntKind.u64.wrap ((lo : Int) * 2 ^ s) = (T : Int)) (e10 : (T : Int) / 4294967296 = (d1 : Int)) (e11 : bits .and .u64 (T : Int) 4294967295 = (d0 : Int))
    (HY : Hid ((Y : Int) = ((v1 * 4294967296 + v0 : Nat) : Int))) (v1h : 4294967296 ≤ 2 * v1) (v1B : v1 < 4294967296) (v0B : v0 < 4294967296) (d1B : d1 < 4294967296) (d0B : d0 < 4294967296) (HU : Hid (u < v1 * 4294967296 + v0)) :
    Calls Tryz.prog 52 #[.int .u64 (hi : Int), .int .u64 (lo : Int), .int .u64 (y : Int)] w (Div64P u v1 v0 d1 d0 s w) := by
  have uM : u < 18446744073709551616 := by have := HU.out; omega
  have vz : ¬ v1 = 0 := by omega
  have STu := hide' (Dg.start (d := d1) v1h v1B v0B d1B HU.out)
  have g1 := quoI u v1 uM
  obtain ⟨q0', hq0⟩ : ∃ z0, u / v1 = z0 := ⟨_, rfl⟩
  obtain ⟨r0, hr0⟩ : ∃ r0, u % v1 = r0 := ⟨_, rfl⟩
  have hdm := Nat.div_add_mod u v1
  rw [hq0, hr0] at STu hdm
  rw [hq0] at g1
  have g2 : IntKind.u64.wrap ((q0' : Int) * (v1 : Int)) = ((q0' * v1 : Nat) : Int) := natI q0' v1 (by rw [Nat.mul_comm]; omega)
  obtain ⟨zv, hzv⟩ : ∃ zv, q0' * v1 = zv := ⟨_, rfl⟩
  rw [hzv] at g2
  have g3 : IntKind.u64.wrap ((u : Int) - (zv : Int)) = (r0 : Int) := subI u zv r0 (by rw [← hzv, Nat.mul_comm]; omega) (by have := STu.out.lt; omega)
  clear hzv hdm hq0 hr0
  go_enter Tryz.func52, Tryz.ntmps52
  go_wp2_with (go_at_call 63; refine LZ.out.mono ?_; rintro e w2 ⟨rfl, h2⟩; subst h2)
  clear g1 g2 g3
  go_loopw [15, 16] (fun qv rv wr => ∃ q r : Nat, qv = .int .u64 (q : Int) ∧ rv = .int .u64 (r : Int) ∧ Hid (Dg u v1 v0 d1 4294967296 q r) ∧ w2 = wr) (fun qv rv _ => 4294967296 - (intOf rv).toNat)
  case atStart => exact ⟨_, _, rfl, rfl, STu, rfl⟩
  case round =>
    obtain ⟨q, r, rfl, rfl, DG, rfl⟩ := hrel
    have rB := DG.out.lt
    have qle := DG.out.le
    by_cases t1 : 4294967296 ≤ q
    · have t1i : (4294967296 : Int) ≤ (q : Int) := by omega
      obtain ⟨g1, g2, g3, g4⟩ := DG.out.next d1B HU.out (Or.inl t1)
      obtain ⟨q', hq'⟩ : ∃ q', q - 1 = q' := ⟨_, rfl⟩
      rw [hq'] at g2 g3 g4
      obtain ⟨r', hr'⟩ : ∃ r', r + v1 = r' := ⟨_, rfl⟩
      rw [hr'] at g2
      have e21 : IntKind.u64.wrap ((q : Int) - 1) = (q' : Int) := subI q 1 q' (by omega) (by omega)
      have e22 : IntKind.u64.wrap ((r : Int) + (v1 : Int)) = (r' : Int) := by rw [addI r v1 (by omega), hr']
      have r'M : r' < 18446744073709551616 := by omega
      have rlt : r < r' := by omega
      by_cases t3 : 4294967296 ≤ r'
      · have D9 := hide' (Dg.brk v0B g2 g3 g4 t3)
        have t3i : (4294967296 : Int) ≤ (r' : Int) := by omega
        clear g1 g2 g3 g4 hr' hq' DG t3
        have DQ := D9
        have qB := DQ.out.lt d1B HU.out
        have x1 := DQ.out.rem
        obtain ⟨x, hx⟩ : ∃ x, u * 4294967296 + d1 - q' * (v1 * 4294967296 + v0) = x := ⟨_, rfl⟩
        rw [hx] at x1
        have xl : x < 18446744073709551616 := by omega
        have hle := DQ.out.1
        obtain ⟨k1, k2, k3, f31, f32, f33, f34⟩ := wrap_stage (P := u * 4294967296) (d := d1) (Q := q' * (v1 * 4294967296 + v0)) (x := x) (by omega) xl
        rw [Int.natCast_mul q', ← HY.out] at f33
        rw [Int.natCast_mul u] at f31
        have f35 : IntKind.u64.wrap ((u : Int) * 4294967296) = (k1 : Int) := f31
        have HX := hide' (And.intro x1 hx)
        have STx := hide' (Dg.start (d := d0) v1h v1B v0B d0B x1)
        have g1 := quoI x v1 xl
        obtain ⟨z0, hz0⟩ : ∃ z0, x / v1 = z0 := ⟨_, rfl⟩
        obtain ⟨r0, hr0⟩ : ∃ r0, x % v1 = r0 := ⟨_, rfl⟩
        have hdm := Nat.div_add_mod x v1
        rw [hz0, hr0] at STx hdm
        rw [hz0] at g1
        have g2 : IntKind.u64.wrap ((z0 : Int) * (v1 : Int)) = ((z0 * v1 : Nat) : Int) := natI z0 v1 (by rw [Nat.mul_comm]; omega)
        obtain ⟨zv, hzv⟩ : ∃ zv, z0 * v1 = zv := ⟨_, rfl⟩
        rw [hzv] at g2
        have g3 : IntKind.u64.wrap ((x : Int) - (zv : Int)) = (r0 : Int) := subI x zv r0 (by rw [← hzv, Nat.mul_comm]; omega) (by have := STx.out.lt; omega)
        have QB := hide' qB
        clear f31 hzv hdm hz0 hr0 hle hx x1 qB D9
        go_wp2
        clear f32 f33 f34 f35 g1 g2 g3
        go_loopw [16, 18] (fun rv qv wr => ∃ z r : Nat, qv = .int .u64 (z : Int) ∧ rv = .int .u64 (r : Int) ∧ Hid (Dg x v1 v0 d0 4294967296 z r) ∧ w2 = wr) (fun rv qv _ => 4294967296 - (intOf rv).toNat)
        case atStart => exact ⟨_, _, rfl, rfl, STx, rfl⟩
        case round =>
          obtain ⟨z, r, rfl, rfl, DG, rfl⟩ := hrel
          have rB := DG.out.lt
          have qle := DG.out.le
          by_cases t1 : 4294967296 ≤ z
          · have t1i : (4294967296 : Int) ≤ (z : Int) := by omega
            obtain ⟨g1, g2, g3, g4⟩ := DG.out.next d0B HX.out.1 (Or.inl t1)
            obtain ⟨z', hz'⟩ : ∃ z', z - 1 = z' := ⟨_, rfl⟩
            rw [hz'] at g2 g3 g4
            obtain ⟨r', hr'⟩ : ∃ r', r + v1 = r' := ⟨_, rfl⟩
            rw [hr'] at g2
            have e21 : IntKind.u64.wrap ((z : Int) - 1) = (z' : Int) := subI z 1 z' (by omega) (by omega)
            have e22 : IntKind.u64.wrap ((r : Int) + (v1 : Int)) = (r' : Int) := by rw [addI r v1 (by omega), hr']
            have r'M : r' < 18446744073709551616 := by omega
            have rlt : r < r' := by omega
            by_cases t3 : 4294967296 ≤ r'
            · have D9 := hide' (Dg.brk v0B g2 g3 g4 t3)
              have t3i : (4294967296 : Int) ≤ (r' : Int) := by omega
              clear g1 g2 g3 g4 hr' hz' DG t3
              have D0 := D9
              have qB := QB.out
              clear D9
              have zB := D0.out.lt d0B HX.out.1
              have x2 := D0.out.rem
              obtain ⟨t, ht⟩ : ∃ t, x * 4294967296 + d0 - z' * (v1 * 4294967296 + v0) = t := ⟨_, rfl⟩
              rw [ht] at x2
              have tl : t < 18446744073709551616 := by omega
              have hle := D0.out.1
              have f1 : IntKind.u64.wrap ((q' : Int) * 4294967296) = ((q' * 4294967296 : Nat) : Int) := natI q' 4294967296 (by omega)
              have f2 := addI (q' * 4294967296) z' (by omega)
              obtain ⟨k1, k2, k3, f31, f32, f33, f34⟩ := wrap_stage (P := x * 4294967296) (d := d0) (Q := z' * (v1 * 4294967296 + v0)) (x := t) (by omega) tl
              rw [Int.natCast_mul z', ← HY.out] at f33
              rw [Int.natCast_mul x] at f31
              have f35 : IntKind.u64.wrap ((x : Int) * 4294967296) = (k1 : Int) := f31
              have f4 : (t : Int) / 2 ^ s = ((t / 2 ^ s : Nat) : Int) := by rw [Int.natCast_ediv, Int.natCast_pow]; rfl
              have FIN := hide' (show Div64P u v1 v0 d1 d0 s w2 (.returned (.tuple #[.int .u64 ((q' * 4294967296 + z' : Nat) : Int), .int .u64 ((t / 2 ^ s : Nat) : Int)])) w2 from ⟨q', z', DQ.out, by rw [HX.out.2]; exact D0.out, by rw [HX.out.2, ht], rfl⟩)
              obtain ⟨A, hA⟩ : ∃ A, q' * 4294967296 + z' = A := ⟨_, rfl⟩
              obtain ⟨C, hC⟩ : ∃ C, t / 2 ^ s = C := ⟨_, rfl⟩
              rw [hC] at f4 FIN
              rw [hA] at f2 FIN
              obtain ⟨A0, hA0⟩ : ∃ A0, q' * 4294967296 = A0 := ⟨_, rfl⟩
              rw [hA0] at f1 f2
              clear f31 hA hC hA0 ht hle x2 zB D0
              go_wp2
              go_ret2
              exact FIN.out
            · have D9 := hide' (show Dg x v1 v0 d0 4294967296 z' r' from ⟨g2, by omega, g3, by omega⟩)
              have t3i : ¬ (4294967296 : Int) ≤ (r' : Int) := by omega
              have r'B : r' < 4294967296 := by omega
              clear g1 g2 g3 g4 hr' hz' DG t3
              go_wp2
              exact ⟨⟨z', r', rfl, rfl, D9, by simp⟩, by simp [intOf]; omega⟩
          · have t1i : ¬ (4294967296 : Int) ≤ (z : Int) := by omega
            have m5 : z * v0 < 18446744073709551616 := Nat.lt_of_le_of_lt (Nat.mul_le_mul (show z ≤ 4294967296 by omega) (Nat.le_of_lt_succ v0B)) (by decide)
            have c1 := natI z v0 m5
            obtain ⟨pv, hpv⟩ : ∃ pv, z * v0 = pv := ⟨_, rfl⟩
            rw [hpv] at c1
            have c2 := mulI r (by omega)
            obtain ⟨br, hbr⟩ : ∃ br, 4294967296 * r = br := ⟨_, rfl⟩
            rw [hbr] at c2
            have c3 := addI br d0 (by omega)
            obtain ⟨bd, hbd⟩ : ∃ bd, br + d0 = bd := ⟨_, rfl⟩
            rw [hbd] at c3
            by_cases t2 : bd < pv
            · have t2i : (bd : Int) < (pv : Int) := by omega
              have TT := hide' (show 4294967296 * r + d0 < z * v0 by rw [hbr, hbd, hpv]; exact t2)
              clear hpv hbr hbd t2 m5
              obtain ⟨g1, g2, g3, g4⟩ := DG.out.next d0B HX.out.1 (Or.inr TT.out)
              obtain ⟨z', hz'⟩ : ∃ z', z - 1 = z' := ⟨_, rfl⟩
              rw [hz'] at g2 g3 g4
              obtain ⟨r', hr'⟩ : ∃ r', r + v1 = r' := ⟨_, rfl⟩
              rw [hr'] at g2
              have e21 : IntKind.u64.wrap ((z : Int) - 1) = (z' : Int) := subI z 1 z' (by omega) (by omega)
              have e22 : IntKind.u64.wrap ((r : Int) + (v1 : Int)) = (r' : Int) := by rw [addI r v1 (by omega), hr']
              have r'M : r' < 18446744073709551616 := by omega
              have rlt : r < r' := by omega
              by_cases t3 : 4294967296 ≤ r'
              · have D9 := hide' (Dg.brk v0B g2 g3 g4 t3)
                have t3i : (4294967296 : Int) ≤ (r' : Int) := by omega
                clear g1 g2 g3 g4 hr' hz' DG t3
                have D0 := D9
                have qB := QB.out
                clear D9
                have zB := D0.out.lt d0B HX.out.1
                have x2 := D0.out.rem
                obtain ⟨t, ht⟩ : ∃ t, x * 4294967296 + d0 - z' * (v1 * 4294967296 + v0) = t := ⟨_, rfl⟩
                rw [ht] at x2
                have tl : t < 18446744073709551616 := by omega
                have hle := D0.out.1
                have f1 : IntKind.u64.wrap ((q' : Int) * 4294967296) = ((q' * 4294967296 : Nat) : Int) := natI q' 4294967296 (by omega)
                have f2 := addI (q' * 4294967296) z' (by omega)
                obtain ⟨k1, k2, k3, f31, f32, f33, f34⟩ := wrap_stage (P := x * 4294967296) (d := d0) (Q := z' * (v1 * 4294967296 + v0)) (x := t) (by omega) tl
                rw [Int.natCast_mul z', ← HY.out] at f33
                rw [Int.natCast_mul x] at f31
                have f35 : IntKind.u64.wrap ((x : Int) * 4294967296) = (k1 : Int) := f31
                have f4 : (t : Int) / 2 ^ s = ((t / 2 ^ s : Nat) : Int) := by rw [Int.natCast_ediv, Int.natCast_pow]; rfl
                have FIN := hide' (show Div64P u v1 v0 d1 d0 s w2 (.returned (.tuple #[.int .u64 ((q' * 4294967296 + z' : Nat) : Int), .int .u64 ((t / 2 ^ s : Nat) : Int)])) w2 from ⟨q', z', DQ.out, by rw [HX.out.2]; exact D0.out, by rw [HX.out.2, ht], rfl⟩)
                obtain ⟨A, hA⟩ : ∃ A, q' * 4294967296 + z' = A := ⟨_, rfl⟩
                obtain ⟨C, hC⟩ : ∃ C, t / 2 ^ s = C := ⟨_, rfl⟩
                rw [hC] at f4 FIN
                rw [hA] at f2 FIN
                obtain ⟨A0, hA0⟩ : ∃ A0, q' * 4294967296 = A0 := ⟨_, rfl⟩
                rw [hA0] at f1 f2
                clear f31 hA hC hA0 ht hle x2 zB D0
                go_wp2
                go_ret2
                exact FIN.out
              · have D9 := hide' (show Dg x v1 v0 d0 4294967296 z' r' from ⟨g2, by omega, g3, by omega⟩)
                have t3i : ¬ (4294967296 : Int) ≤ (r' : Int) := by omega
                have r'B : r' < 4294967296 := by omega
                clear g1 g2 g3 g4 hr' hz' DG t3
                go_wp2
                exact ⟨⟨z', r', rfl, rfl, D9, by simp⟩, by simp [intOf]; omega⟩
            · have t2i : ¬ (bd : Int) < (pv : Int) := by omega
              have D9 := hide' (DG.out.fin (by rw [hbr, hbd, hpv]; omega))
              clear hpv hbr hbd t2 m5 DG
              have D0 := D9
              have qB := QB.out
              clear D9
              have zB := D0.out.lt d0B HX.out.1
              have x2 := D0.out.rem
              obtain ⟨t, ht⟩ : ∃ t, x * 4294967296 + d0 - z * (v1 * 4294967296 + v0) = t := ⟨_, rfl⟩
              rw [ht] at x2
              have tl : t < 18446744073709551616 := by omega
              have hle := D0.out.1
              have f1 : IntKind.u64.wrap ((q' : Int) * 4294967296) = ((q' * 4294967296 : Nat) : Int) := natI q' 4294967296 (by omega)
              have f2 := addI (q' * 4294967296) z (by omega)
              obtain ⟨k1, k2, k3, f31, f32, f33, f34⟩ := wrap_stage (P := x * 4294967296) (d := d0) (Q := z * (v1 * 4294967296 + v0)) (x := t) (by omega) tl
              rw [Int.natCast_mul z, ← HY.out] at f33
              rw [Int.natCast_mul x] at f31
              have f35 : IntKind.u64.wrap ((x : Int) * 4294967296) = (k1 : Int) := f31
              have f4 : (t : Int) / 2 ^ s = ((t / 2 ^ s : Nat) : Int) := by rw [Int.natCast_ediv, Int.natCast_pow]; rfl
              have FIN := hide' (show Div64P u v1 v0 d1 d0 s w2 (.returned (.tuple #[.int .u64 ((q' * 4294967296 + z : Nat) : Int), .int .u64 ((t / 2 ^ s : Nat) : Int)])) w2 from ⟨q', z, DQ.out, by rw [HX.out.2]; exact D0.out, by rw [HX.out.2, ht], rfl⟩)
              obtain ⟨A, hA⟩ : ∃ A, q' * 4294967296 + z = A := ⟨_, rfl⟩
              obtain ⟨C, hC⟩ : ∃ C, t / 2 ^ s = C := ⟨_, rfl⟩
              rw [hC] at f4 FIN
              rw [hA] at f2 FIN
              obtain ⟨A0, hA0⟩ : ∃ A0, q' * 4294967296 = A0 := ⟨_, rfl⟩
              rw [hA0] at f1 f2
              clear f31 hA hC hA0 ht hle x2 zB D0
              go_wp2
              go_ret2
              exact FIN.out
      · have D9 := hide' (show Dg u v1 v0 d1 4294967296 q' r' from ⟨g2, by omega, g3, by omega⟩)
        have t3i : ¬ (4294967296 : Int) ≤ (r' : Int) := by omega
        have r'B : r' < 4294967296 := by omega
        clear g1 g2 g3 g4 hr' hq' DG t3
        go_wp2
        exact ⟨⟨q', r', rfl, rfl, D9, by simp⟩, by simp [intOf]; omega⟩
    · have t1i : ¬ (4294967296 : Int) ≤ (q : Int) := by omega
      have m5 : q * v0 < 18446744073709551616 := Nat.lt_of_le_of_lt (Nat.mul_le_mul (show q ≤ 4294967296 by omega) (Nat.le_of_lt_succ v0B)) (by decide)
      have c1 := natI q v0 m5
      obtain ⟨pv, hpv⟩ : ∃ pv, q * v0 = pv := ⟨_, rfl⟩
      rw [hpv] at c1
      have c2 := mulI r (by omega)
      obtain ⟨br, hbr⟩ : ∃ br, 4294967296 * r = br := ⟨_, rfl⟩
      rw [hbr] at c2
      have c3 := addI br d1 (by omega)
      obtain ⟨bd, hbd⟩ : ∃ bd, br + d1 = bd := ⟨_, rfl⟩
      rw [hbd] at c3
      by_cases t2 : bd < pv
      · have t2i : (bd : Int) < (pv : Int) := by omega
        have TT := hide' (show 4294967296 * r + d1 < q * v0 by rw [hbr, hbd, hpv]; exact t2)
        clear hpv hbr hbd t2 m5
        obtain ⟨g1, g2, g3, g4⟩ := DG.out.next d1B HU.out (Or.inr TT.out)
        obtain ⟨q', hq'⟩ : ∃ q', q - 1 = q' := ⟨_, rfl⟩
        rw [hq'] at g2 g3 g4
        obtain ⟨r', hr'⟩ : ∃ r', r + v1 = r' := ⟨_, rfl⟩
        rw [hr'] at g2
        have e21 : IntKind.u64.wrap ((q : Int) - 1) = (q' : Int) := subI q 1 q' (by omega) (by omega)
        have e22 : IntKind.u64.wrap ((r : Int) + (v1 : Int)) = (r' : Int) := by rw [addI r v1 (by omega), hr']
        have r'M : r' < 18446744073709551616 := by omega
        have rlt : r < r' := by omega
        by_cases t3 : 4294967296 ≤ r'
        · have D9 := hide' (Dg.brk v0B g2 g3 g4 t3)
          have t3i : (4294967296 : Int) ≤ (r' : Int) := by omega
          clear g1 g2 g3 g4 hr' hq' DG t3
          have DQ := D9
          have qB := DQ.out.lt d1B HU.out
          have x1 := DQ.out.rem
          obtain ⟨x, hx⟩ : ∃ x, u * 4294967296 + d1 - q' * (v1 * 4294967296 + v0) = x := ⟨_, rfl⟩
          rw [hx] at x1
          have xl : x < 18446744073709551616 := by omega
          have hle := DQ.out.1
          obtain ⟨k1, k2, k3, f31, f32, f33, f34⟩ := wrap_stage (P := u * 4294967296) (d := d1) (Q := q' * (v1 * 4294967296 + v0)) (x := x) (by omega) xl
          rw [Int.natCast_mul q', ← HY.out] at f33
          rw [Int.natCast_mul u] at f31
          have f35 : IntKind.u64.wrap ((u : Int) * 4294967296) = (k1 : Int) := f31
          have HX := hide' (And.intro x1 hx)
          have STx := hide' (Dg.start (d := d0) v1h v1B v0B d0B x1)
          have g1 := quoI x v1 xl
          obtain ⟨z0, hz0⟩ : ∃ z0, x / v1 = z0 := ⟨_, rfl⟩
          obtain ⟨r0, hr0⟩ : ∃ r0, x % v1 = r0 := ⟨_, rfl⟩
          have hdm := Nat.div_add_mod x v1
          rw [hz0, hr0] at STx hdm
          rw [hz0] at g1
          have g2 : IntKind.u64.wrap ((z0 : Int) * (v1 : Int)) = ((z0 * v1 : Nat) : Int) := natI z0 v1 (by rw [Nat.mul_comm]; omega)
          obtain ⟨zv, hzv⟩ : ∃ zv, z0 * v1 = zv := ⟨_, rfl⟩
          rw [hzv] at g2
          have g3 : IntKind.u64.wrap ((x : Int) - (zv : Int)) = (r0 : Int) := subI x zv r0 (by rw [← hzv, Nat.mul_comm]; omega) (by have := STx.out.lt; omega)
          have QB := hide' qB
          clear f31 hzv hdm hz0 hr0 hle hx x1 qB D9
          go_wp2
          clear f32 f33 f34 f35 g1 g2 g3
          go_loopw [16, 18] (fun rv qv wr => ∃ z r : Nat, qv = .int .u64 (z : Int) ∧ rv = .int .u64 (r : Int) ∧ Hid (Dg x v1 v0 d0 4294967296 z r) ∧ w2 = wr) (fun rv qv _ => 4294967296 - (intOf rv).toNat)
          case atStart => exact ⟨_, _, rfl, rfl, STx, rfl⟩
          case round =>
            obtain ⟨z, r, rfl, rfl, DG, rfl⟩ := hrel
            have rB := DG.out.lt
            have qle := DG.out.le
            by_cases t1 : 4294967296 ≤ z
            · have t1i : (4294967296 : Int) ≤ (z : Int) := by omega
              obtain ⟨g1, g2, g3, g4⟩ := DG.out.next d0B HX.out.1 (Or.inl t1)
              obtain ⟨z', hz'⟩ : ∃ z', z - 1 = z' := ⟨_, rfl⟩
              rw [hz'] at g2 g3 g4
              obtain ⟨r', hr'⟩ : ∃ r', r + v1 = r' := ⟨_, rfl⟩
              rw [hr'] at g2
              have e21 : IntKind.u64.wrap ((z : Int) - 1) = (z' : Int) := subI z 1 z' (by omega) (by omega)
              have e22 : IntKind.u64.wrap ((r : Int) + (v1 : Int)) = (r' : Int) := by rw [addI r v1 (by omega), hr']
              have r'M : r' < 18446744073709551616 := by omega
              have rlt : r < r' := by omega
              by_cases t3 : 4294967296 ≤ r'
              · have D9 := hide' (Dg.brk v0B g2 g3 g4 t3)
                have t3i : (4294967296 : Int) ≤ (r' : Int) := by omega
                clear g1 g2 g3 g4 hr' hz' DG t3
                have D0 := D9
                have qB := QB.out
                clear D9
                have zB := D0.out.lt d0B HX.out.1
                have x2 := D0.out.rem
                obtain ⟨t, ht⟩ : ∃ t, x * 4294967296 + d0 - z' * (v1 * 4294967296 + v0) = t := ⟨_, rfl⟩
                rw [ht] at x2
                have tl : t < 18446744073709551616 := by omega
                have hle := D0.out.1
                have f1 : IntKind.u64.wrap ((q' : Int) * 4294967296) = ((q' * 4294967296 : Nat) : Int) := natI q' 4294967296 (by omega)
                have f2 := addI (q' * 4294967296) z' (by omega)
                obtain ⟨k1, k2, k3, f31, f32, f33, f34⟩ := wrap_stage (P := x * 4294967296) (d := d0) (Q := z' * (v1 * 4294967296 + v0)) (x := t) (by omega) tl
                rw [Int.natCast_mul z', ← HY.out] at f33
                rw [Int.natCast_mul x] at f31
                have f35 : IntKind.u64.wrap ((x : Int) * 4294967296) = (k1 : Int) := f31
                have f4 : (t : Int) / 2 ^ s = ((t / 2 ^ s : Nat) : Int) := by rw [Int.natCast_ediv, Int.natCast_pow]; rfl
                have FIN := hide' (show Div64P u v1 v0 d1 d0 s w2 (.returned (.tuple #[.int .u64 ((q' * 4294967296 + z' : Nat) : Int), .int .u64 ((t / 2 ^ s : Nat) : Int)])) w2 from ⟨q', z', DQ.out, by rw [HX.out.2]; exact D0.out, by rw [HX.out.2, ht], rfl⟩)
                obtain ⟨A, hA⟩ : ∃ A, q' * 4294967296 + z' = A := ⟨_, rfl⟩
                obtain ⟨C, hC⟩ : ∃ C, t / 2 ^ s = C := ⟨_, rfl⟩
                rw [hC] at f4 FIN
                rw [hA] at f2 FIN
                obtain ⟨A0, hA0⟩ : ∃ A0, q' * 4294967296 = A0 := ⟨_, rfl⟩
                rw [hA0] at f1 f2
                clear f31 hA hC hA0 ht hle x2 zB D0
                go_wp2
                go_ret2
                exact FIN.out
              · have D9 := hide' (show Dg x v1 v0 d0 4294967296 z' r' from ⟨g2, by omega, g3, by omega⟩)
                have t3i : ¬ (4294967296 : Int) ≤ (r' : Int) := by omega
                have r'B : r' < 4294967296 := by omega
                clear g1 g2 g3 g4 hr' hz' DG t3
                go_wp2
                exact ⟨⟨z', r', rfl, rfl, D9, by simp⟩, by simp [intOf]; omega⟩
            · have t1i : ¬ (4294967296 : Int) ≤ (z : Int) := by omega
              have m5 : z * v0 < 18446744073709551616 := Nat.lt_of_le_of_lt (Nat.mul_le_mul (show z ≤ 4294967296 by omega) (Nat.le_of_lt_succ v0B)) (by decide)
              have c1 := natI z v0 m5
              obtain ⟨pv, hpv⟩ : ∃ pv, z * v0 = pv := ⟨_, rfl⟩
              rw [hpv] at c1
              have c2 := mulI r (by omega)
              obtain ⟨br, hbr⟩ : ∃ br, 4294967296 * r = br := ⟨_, rfl⟩
              rw [hbr] at c2
              have c3 := addI br d0 (by omega)
              obtain ⟨bd, hbd⟩ : ∃ bd, br + d0 = bd := ⟨_, rfl⟩
              rw [hbd] at c3
              by_cases t2 : bd < pv
              · have t2i : (bd : Int) < (pv : Int) := by omega
                have TT := hide' (show 4294967296 * r + d0 < z * v0 by rw [hbr, hbd, hpv]; exact t2)
                clear hpv hbr hbd t2 m5
                obtain ⟨g1, g2, g3, g4⟩ := DG.out.next d0B HX.out.1 (Or.inr TT.out)
                obtain ⟨z', hz'⟩ : ∃ z', z - 1 = z' := ⟨_, rfl⟩
                rw [hz'] at g2 g3 g4
                obtain ⟨r', hr'⟩ : ∃ r', r + v1 = r' := ⟨_, rfl⟩
                rw [hr'] at g2
                have e21 : IntKind.u64.wrap ((z : Int) - 1) = (z' : Int) := subI z 1 z' (by omega) (by omega)
                have e22 : IntKind.u64.wrap ((r : Int) + (v1 : Int)) = (r' : Int) := by rw [addI r v1 (by omega), hr']
                have r'M : r' < 18446744073709551616 := by omega
                have rlt : r < r' := by omega
                by_cases t3 : 4294967296 ≤ r'
                · have D9 := hide' (Dg.brk v0B g2 g3 g4 t3)
                  have t3i : (4294967296 : Int) ≤ (r' : Int) := by omega
                  clear g1 g2 g3 g4 hr' hz' DG t3
                  have D0 := D9
                  have qB := QB.out
                  clear D9
                  have zB := D0.out.lt d0B HX.out.1
                  have x2 := D0.out.rem
                  obtain ⟨t, ht⟩ : ∃ t, x * 4294967296 + d0 - z' * (v1 * 4294967296 + v0) = t := ⟨_, rfl⟩
                  rw [ht] at x2
                  have tl : t < 18446744073709551616 := by omega
                  have hle := D0.out.1
                  have f1 : IntKind.u64.wrap ((q' : Int) * 4294967296) = ((q' * 4294967296 : Nat) : Int) := natI q' 4294967296 (by omega)
                  have f2 := addI (q' * 4294967296) z' (by omega)
                  obtain ⟨k1, k2, k3, f31, f32, f33, f34⟩ := wrap_stage (P := x * 4294967296) (d := d0) (Q := z' * (v1 * 4294967296 + v0)) (x := t) (by omega) tl
                  rw [Int.natCast_mul z', ← HY.out] at f33
                  rw [Int.natCast_mul x] at f31
                  have f35 : IntKind.u64.wrap ((x : Int) * 4294967296) = (k1 : Int) := f31
                  have f4 : (t : Int) / 2 ^ s = ((t / 2 ^ s : Nat) : Int) := by rw [Int.natCast_ediv, Int.natCast_pow]; rfl
                  have FIN := hide' (show Div64P u v1 v0 d1 d0 s w2 (.returned (.tuple #[.int .u64 ((q' * 4294967296 + z' : Nat) : Int), .int .u64 ((t / 2 ^ s : Nat) : Int)])) w2 from ⟨q', z', DQ.out, by rw [HX.out.2]; exact D0.out, by rw [HX.out.2, ht], rfl⟩)
                  obtain ⟨A, hA⟩ : ∃ A, q' * 4294967296 + z' = A := ⟨_, rfl⟩
                  obtain ⟨C, hC⟩ : ∃ C, t / 2 ^ s = C := ⟨_, rfl⟩
                  rw [hC] at f4 FIN
                  rw [hA] at f2 FIN
                  obtain ⟨A0, hA0⟩ : ∃ A0, q' * 4294967296 = A0 := ⟨_, rfl⟩
                  rw [hA0] at f1 f2
                  clear f31 hA hC hA0 ht hle x2 zB D0
                  go_wp2
                  go_ret2
                  exact FIN.out
                · have D9 := hide' (show Dg x v1 v0 d0 4294967296 z' r' from ⟨g2, by omega, g3, by omega⟩)
                  have t3i : ¬ (4294967296 : Int) ≤ (r' : Int) := by omega
                  have r'B : r' < 4294967296 := by omega
                  clear g1 g2 g3 g4 hr' hz' DG t3
                  go_wp2
                  exact ⟨⟨z', r', rfl, rfl, D9, by simp⟩, by simp [intOf]; omega⟩
              · have t2i : ¬ (bd : Int) < (pv : Int) := by omega
                have D9 := hide' (DG.out.fin (by rw [hbr, hbd, hpv]; omega))
                clear hpv hbr hbd t2 m5 DG
                have D0 := D9
                have qB := QB.out
                clear D9
                have zB := D0.out.lt d0B HX.out.1
                have x2 := D0.out.rem
                obtain ⟨t, ht⟩ : ∃ t, x * 4294967296 + d0 - z * (v1 * 4294967296 + v0) = t := ⟨_, rfl⟩
                rw [ht] at x2
                have tl : t < 18446744073709551616 := by omega
                have hle := D0.out.1
                have f1 : IntKind.u64.wrap ((q' : Int) * 4294967296) = ((q' * 4294967296 : Nat) : Int) := natI q' 4294967296 (by omega)
                have f2 := addI (q' * 4294967296) z (by omega)
                obtain ⟨k1, k2, k3, f31, f32, f33, f34⟩ := wrap_stage (P := x * 4294967296) (d := d0) (Q := z * (v1 * 4294967296 + v0)) (x := t) (by omega) tl
                rw [Int.natCast_mul z, ← HY.out] at f33
                rw [Int.natCast_mul x] at f31
                have f35 : IntKind.u64.wrap ((x : Int) * 4294967296) = (k1 : Int) := f31
                have f4 : (t : Int) / 2 ^ s = ((t / 2 ^ s : Nat) : Int) := by rw [Int.natCast_ediv, Int.natCast_pow]; rfl
                have FIN := hide' (show Div64P u v1 v0 d1 d0 s w2 (.returned (.tuple #[.int .u64 ((q' * 4294967296 + z : Nat) : Int), .int .u64 ((t / 2 ^ s : Nat) : Int)])) w2 from ⟨q', z, DQ.out, by rw [HX.out.2]; exact D0.out, by rw [HX.out.2, ht], rfl⟩)
                obtain ⟨A, hA⟩ : ∃ A, q' * 4294967296 + z = A := ⟨_, rfl⟩
                obtain ⟨C, hC⟩ : ∃ C, t / 2 ^ s = C := ⟨_, rfl⟩
                rw [hC] at f4 FIN
                rw [hA] at f2 FIN
                obtain ⟨A0, hA0⟩ : ∃ A0, q' * 4294967296 = A0 := ⟨_, rfl⟩
                rw [hA0] at f1 f2
                clear f31 hA hC hA0 ht hle x2 zB D0
                go_wp2
                go_ret2
                exact FIN.out
        · have D9 := hide' (show Dg u v1 v0 d1 4294967296 q' r' from ⟨g2, by omega, g3, by omega⟩)
          have t3i : ¬ (4294967296 : Int) ≤ (r' : Int) := by omega
          have r'B : r' < 4294967296 := by omega
          clear g1 g2 g3 g4 hr' hq' DG t3
          go_wp2
          exact ⟨⟨q', r', rfl, rfl, D9, by simp⟩, by simp [intOf]; omega⟩
      · have t2i : ¬ (bd : Int) < (pv : Int) := by omega
        have D9 := hide' (DG.out.fin (by rw [hbr, hbd, hpv]; omega))
        clear hpv hbr hbd t2 m5 DG
        have DQ := D9
        have qB := DQ.out.lt d1B HU.out
        have x1 := DQ.out.rem
        obtain ⟨x, hx⟩ : ∃ x, u * 4294967296 + d1 - q * (v1 * 4294967296 + v0) = x := ⟨_, rfl⟩
        rw [hx] at x1
        have xl : x < 18446744073709551616 := by omega
        have hle := DQ.out.1
        obtain ⟨k1, k2, k3, f31, f32, f33, f34⟩ := wrap_stage (P := u * 4294967296) (d := d1) (Q := q * (v1 * 4294967296 + v0)) (x := x) (by omega) xl
        rw [Int.natCast_mul q, ← HY.out] at f33
        rw [Int.natCast_mul u] at f31
        have f35 : IntKind.u64.wrap ((u : Int) * 4294967296) = (k1 : Int) := f31
        have HX := hide' (And.intro x1 hx)
        have STx := hide' (Dg.start (d := d0) v1h v1B v0B d0B x1)
        have g1 := quoI x v1 xl
        obtain ⟨z0, hz0⟩ : ∃ z0, x / v1 = z0 := ⟨_, rfl⟩
        obtain ⟨r0, hr0⟩ : ∃ r0, x % v1 = r0 := ⟨_, rfl⟩
        have hdm := Nat.div_add_mod x v1
        rw [hz0, hr0] at STx hdm
        rw [hz0] at g1
        have g2 : IntKind.u64.wrap ((z0 : Int) * (v1 : Int)) = ((z0 * v1 : Nat) : Int) := natI z0 v1 (by rw [Nat.mul_comm]; omega)
        obtain ⟨zv, hzv⟩ : ∃ zv, z0 * v1 = zv := ⟨_, rfl⟩
        rw [hzv] at g2
        have g3 : IntKind.u64.wrap ((x : Int) - (zv : Int)) = (r0 : Int) := subI x zv r0 (by rw [← hzv, Nat.mul_comm]; omega) (by have := STx.out.lt; omega)
        have QB := hide' qB
        clear f31 hzv hdm hz0 hr0 hle hx x1 qB D9
        go_wp2
        clear f32 f33 f34 f35 g1 g2 g3
        go_loopw [16, 18] (fun rv qv wr => ∃ z r : Nat, qv = .int .u64 (z : Int) ∧ rv = .int .u64 (r : Int) ∧ Hid (Dg x v1 v0 d0 4294967296 z r) ∧ w2 = wr) (fun rv qv _ => 4294967296 - (intOf rv).toNat)
        case atStart => exact ⟨_, _, rfl, rfl, STx, rfl⟩
        case round =>
          obtain ⟨z, r, rfl, rfl, DG, rfl⟩ := hrel
          have rB := DG.out.lt
          have qle := DG.out.le
          by_cases t1 : 4294967296 ≤ z
          · have t1i : (4294967296 : Int) ≤ (z : Int) := by omega
            obtain ⟨g1, g2, g3, g4⟩ := DG.out.next d0B HX.out.1 (Or.inl t1)
            obtain ⟨z', hz'⟩ : ∃ z', z - 1 = z' := ⟨_, rfl⟩
            rw [hz'] at g2 g3 g4
            obtain ⟨r', hr'⟩ : ∃ r', r + v1 = r' := ⟨_, rfl⟩
            rw [hr'] at g2
            have e21 : IntKind.u64.wrap ((z : Int) - 1) = (z' : Int) := subI z 1 z' (by omega) (by omega)
            have e22 : IntKind.u64.wrap ((r : Int) + (v1 : Int)) = (r' : Int) := by rw [addI r v1 (by omega), hr']
            have r'M : r' < 18446744073709551616 := by omega
            have rlt : r < r' := by omega
            by_cases t3 : 4294967296 ≤ r'
            · have D9 := hide' (Dg.brk v0B g2 g3 g4 t3)
              have t3i : (4294967296 : Int) ≤ (r' : Int) := by omega
              clear g1 g2 g3 g4 hr' hz' DG t3
              have D0 := D9
              have qB := QB.out
              clear D9
              have zB := D0.out.lt d0B HX.out.1
              have x2 := D0.out.rem
              obtain ⟨t, ht⟩ : ∃ t, x * 4294967296 + d0 - z' * (v1 * 4294967296 + v0) = t := ⟨_, rfl⟩
              rw [ht] at x2
              have tl : t < 18446744073709551616 := by omega
              have hle := D0.out.1
              have f1 : IntKind.u64.wrap ((q : Int) * 4294967296) = ((q * 4294967296 : Nat) : Int) := natI q 4294967296 (by omega)
              have f2 := addI (q * 4294967296) z' (by omega)
              obtain ⟨k1, k2, k3, f31, f32, f33, f34⟩ := wrap_stage (P := x * 4294967296) (d := d0) (Q := z' * (v1 * 4294967296 + v0)) (x := t) (by omega) tl
              rw [Int.natCast_mul z', ← HY.out] at f33
              rw [Int.natCast_mul x] at f31
              have f35 : IntKind.u64.wrap ((x : Int) * 4294967296) = (k1 : Int) := f31
              have f4 : (t : Int) / 2 ^ s = ((t / 2 ^ s : Nat) : Int) := by rw [Int.natCast_ediv, Int.natCast_pow]; rfl
              have FIN := hide' (show Div64P u v1 v0 d1 d0 s w2 (.returned (.tuple #[.int .u64 ((q * 4294967296 + z' : Nat) : Int), .int .u64 ((t / 2 ^ s : Nat) : Int)])) w2 from ⟨q, z', DQ.out, by rw [HX.out.2]; exact D0.out, by rw [HX.out.2, ht], rfl⟩)
              obtain ⟨A, hA⟩ : ∃ A, q * 4294967296 + z' = A := ⟨_, rfl⟩
              obtain ⟨C, hC⟩ : ∃ C, t / 2 ^ s = C := ⟨_, rfl⟩
              rw [hC] at f4 FIN
              rw [hA] at f2 FIN
              obtain ⟨A0, hA0⟩ : ∃ A0, q * 4294967296 = A0 := ⟨_, rfl⟩
              rw [hA0] at f1 f2
              clear f31 hA hC hA0 ht hle x2 zB D0
              go_wp2
              go_ret2
              exact FIN.out
            · have D9 := hide' (show Dg x v1 v0 d0 4294967296 z' r' from ⟨g2, by omega, g3, by omega⟩)
              have t3i : ¬ (4294967296 : Int) ≤ (r' : Int) := by omega
              have r'B : r' < 4294967296 := by omega
              clear g1 g2 g3 g4 hr' hz' DG t3
              go_wp2
              exact ⟨⟨z', r', rfl, rfl, D9, by simp⟩, by simp [intOf]; omega⟩
          · have t1i : ¬ (4294967296 : Int) ≤ (z : Int) := by omega
            have m5 : z * v0 < 18446744073709551616 := Nat.lt_of_le_of_lt (Nat.mul_le_mul (show z ≤ 4294967296 by omega) (Nat.le_of_lt_succ v0B)) (by decide)
            have c1 := natI z v0 m5
            obtain ⟨pv, hpv⟩ : ∃ pv, z * v0 = pv := ⟨_, rfl⟩
            rw [hpv] at c1
            have c2 := mulI r (by omega)
            obtain ⟨br, hbr⟩ : ∃ br, 4294967296 * r = br := ⟨_, rfl⟩
            rw [hbr] at c2
            have c3 := addI br d0 (by omega)
            obtain ⟨bd, hbd⟩ : ∃ bd, br + d0 = bd := ⟨_, rfl⟩
            rw [hbd] at c3
            by_cases t2 : bd < pv
            · have t2i : (bd : Int) < (pv : Int) := by omega
              have TT := hide' (show 4294967296 * r + d0 < z * v0 by rw [hbr, hbd, hpv]; exact t2)
              clear hpv hbr hbd t2 m5
              obtain ⟨g1, g2, g3, g4⟩ := DG.out.next d0B HX.out.1 (Or.inr TT.out)
              obtain ⟨z', hz'⟩ : ∃ z', z - 1 = z' := ⟨_, rfl⟩
              rw [hz'] at g2 g3 g4
              obtain ⟨r', hr'⟩ : ∃ r', r + v1 = r' := ⟨_, rfl⟩
              rw [hr'] at g2
              have e21 : IntKind.u64.wrap ((z : Int) - 1) = (z' : Int) := subI z 1 z' (by omega) (by omega)
              have e22 : IntKind.u64.wrap ((r : Int) + (v1 : Int)) = (r' : Int) := by rw [addI r v1 (by omega), hr']
              have r'M : r' < 18446744073709551616 := by omega
              have rlt : r < r' := by omega
              by_cases t3 : 4294967296 ≤ r'
              · have D9 := hide' (Dg.brk v0B g2 g3 g4 t3)
                have t3i : (4294967296 : Int) ≤ (r' : Int) := by omega
                clear g1 g2 g3 g4 hr' hz' DG t3
                have D0 := D9
                have qB := QB.out
                clear D9
                have zB := D0.out.lt d0B HX.out.1
                have x2 := D0.out.rem
                obtain ⟨t, ht⟩ : ∃ t, x * 4294967296 + d0 - z' * (v1 * 4294967296 + v0) = t := ⟨_, rfl⟩
                rw [ht] at x2
                have tl : t < 18446744073709551616 := by omega
                have hle := D0.out.1
                have f1 : IntKind.u64.wrap ((q : Int) * 4294967296) = ((q * 4294967296 : Nat) : Int) := natI q 4294967296 (by omega)
                have f2 := addI (q * 4294967296) z' (by omega)
                obtain ⟨k1, k2, k3, f31, f32, f33, f34⟩ := wrap_stage (P := x * 4294967296) (d := d0) (Q := z' * (v1 * 4294967296 + v0)) (x := t) (by omega) tl
                rw [Int.natCast_mul z', ← HY.out] at f33
                rw [Int.natCast_mul x] at f31
                have f35 : IntKind.u64.wrap ((x : Int) * 4294967296) = (k1 : Int) := f31
                have f4 : (t : Int) / 2 ^ s = ((t / 2 ^ s : Nat) : Int) := by rw [Int.natCast_ediv, Int.natCast_pow]; rfl
                have FIN := hide' (show Div64P u v1 v0 d1 d0 s w2 (.returned (.tuple #[.int .u64 ((q * 4294967296 + z' : Nat) : Int), .int .u64 ((t / 2 ^ s : Nat) : Int)])) w2 from ⟨q, z', DQ.out, by rw [HX.out.2]; exact D0.out, by rw [HX.out.2, ht], rfl⟩)
                obtain ⟨A, hA⟩ : ∃ A, q * 4294967296 + z' = A := ⟨_, rfl⟩
                obtain ⟨C, hC⟩ : ∃ C, t / 2 ^ s = C := ⟨_, rfl⟩
                rw [hC] at f4 FIN
                rw [hA] at f2 FIN
                obtain ⟨A0, hA0⟩ : ∃ A0, q * 4294967296 = A0 := ⟨_, rfl⟩
                rw [hA0] at f1 f2
                clear f31 hA hC hA0 ht hle x2 zB D0
                go_wp2
                go_ret2
                exact FIN.out
              · have D9 := hide' (show Dg x v1 v0 d0 4294967296 z' r' from ⟨g2, by omega, g3, by omega⟩)
                have t3i : ¬ (4294967296 : Int) ≤ (r' : Int) := by omega
                have r'B : r' < 4294967296 := by omega
                clear g1 g2 g3 g4 hr' hz' DG t3
                go_wp2
                exact ⟨⟨z', r', rfl, rfl, D9, by simp⟩, by simp [intOf]; omega⟩
            · have t2i : ¬ (bd : Int) < (pv : Int) := by omega
              have D9 := hide' (DG.out.fin (by rw [hbr, hbd, hpv]; omega))
              clear hpv hbr hbd t2 m5 DG
              have D0 := D9
              have qB := QB.out
              clear D9
              have zB := D0.out.lt d0B HX.out.1
              have x2 := D0.out.rem
              obtain ⟨t, ht⟩ : ∃ t, x * 4294967296 + d0 - z * (v1 * 4294967296 + v0) = t := ⟨_, rfl⟩
              rw [ht] at x2
              have tl : t < 18446744073709551616 := by omega
              have hle := D0.out.1
              have f1 : IntKind.u64.wrap ((q : Int) * 4294967296) = ((q * 4294967296 : Nat) : Int) := natI q 4294967296 (by omega)
              have f2 := addI (q * 4294967296) z (by omega)
              obtain ⟨k1, k2, k3, f31, f32, f33, f34⟩ := wrap_stage (P := x * 4294967296) (d := d0) (Q := z * (v1 * 4294967296 + v0)) (x := t) (by omega) tl
              rw [Int.natCast_mul z, ← HY.out] at f33
              rw [Int.natCast_mul x] at f31
              have f35 : IntKind.u64.wrap ((x : Int) * 4294967296) = (k1 : Int) := f31
              have f4 : (t : Int) / 2 ^ s = ((t / 2 ^ s : Nat) : Int) := by rw [Int.natCast_ediv, Int.natCast_pow]; rfl
              have FIN := hide' (show Div64P u v1 v0 d1 d0 s w2 (.returned (.tuple #[.int .u64 ((q * 4294967296 + z : Nat) : Int), .int .u64 ((t / 2 ^ s : Nat) : Int)])) w2 from ⟨q, z, DQ.out, by rw [HX.out.2]; exact D0.out, by rw [HX.out.2, ht], rfl⟩)
              obtain ⟨A, hA⟩ : ∃ A, q * 4294967296 + z = A := ⟨_, rfl⟩
              obtain ⟨C, hC⟩ : ∃ C, t / 2 ^ s = C := ⟨_, rfl⟩
              rw [hC] at f4 FIN
              rw [hA] at f2 FIN
              obtain ⟨A0, hA0⟩ : ∃ A0, q * 4294967296 = A0 := ⟨_, rfl⟩
              rw [hA0] at f1 f2
              clear f31 hA hC hA0 ht hle x2 zB D0
              go_wp2
              go_ret2
              exact FIN.out
end Go.Proofs.YtcfoeadfhkojeaaGreatDoor

