/-
  What the last text of this claim leans on, part 30: Gq4.
-/
import Derived.Test.YtlpdobfjgpedaaaDoorZe10
import Derived.Test.YtlpdobfjgpedaaaDoorZe7
namespace Go.Proofs.YtlpdobfjgpedaaaDoor
open Go.RowKit
set_option linter.unusedVariables false

theorem testBit_bitN (n i : Nat) : n.testBit i = (bitN n i == 1) := by
  rw [Nat.testBit_eq_decide_div_mod_eq, bitN]
  rfl
theorem maskN_neg {b : Nat} (hb : b ≤ 1) : IntKind.u64.wrap (-(b : Int)) = ((maskN (b == 1) : Nat) : Int) := by
  rw [IntKind.wrap_u64]
  have : b = 0 ∨ b = 1 := by omega
  rcases this with rfl | rfl <;> rfl
theorem maskN_lt (t : Bool) : maskN t < 18446744073709551616 := by cases t <;> decide
theorem or_bits {b s : Nat} (hb : b ≤ 1) (hs : s ≤ 1) (h : ¬ (b = 0 ∧ s = 0)) : ∃ o : Nat, bits .or .i64 (b : Int) (s : Int) = (o : Int) ∧ ((o : Int) == 0) = false := by
  have h1 : b = 0 ∨ b = 1 := by omega
  have h2 : s = 0 ∨ s = 1 := by omega
  refine ⟨1, ?_, rfl⟩
  rcases h1 with rfl | rfl <;> rcases h2 with rfl | rfl <;> first | (exact absurd ⟨rfl, rfl⟩ h) | decide
theorem chosenN_none {born stay h d0 d1 d2 d3 k : Nat} (hb : bitN born k = 0) (hs : bitN stay k = 0) : chosenN born stay h d0 d1 d2 d3 (k + 1) = chosenN born stay h d0 d1 d2 d3 k := by
  rw [chosenN, testBit_bitN, testBit_bitN, hb, hs]
  simp [maskN]
theorem digM_step {k i t d : Nat} (x : Nat) (hx : k / 2 ^ i % 2 = x) : t &&& digM (k.testBit i) d = if x = 1 then t &&& d else t &&& (18446744073709551615 - d) := by
  rw [testBit_bitN, bitN, hx, digM]
  by_cases h : x = 1
  · simp [h]
  · simp [h]
set_option maxRecDepth 100000 in
set_option maxHeartbeats 12800000 in
theorem chosen_any (kd st ra : Int) (born stay : Nat) (ta : Option Addr) (tn tc : Nat) (s : ByteArray) (h d0 d1 d2 d3 : Nat) (w : World) (hb : born ≤ 511) (hs : stay ≤ 511) (hh : h < 18446744073709551616) (h0 : d0 < 18446744073709551616) (h1 : d1 < 18446744073709551616) (h2 : d2 < 18446744073709551616) (h3 : d3 < 18446744073709551616) :
    Calls Tryd.prog 87 #[.agg #[.int .i64 kd, .int .i64 (born : Int), .int .i64 (stay : Int), .int .i64 st, .int .i64 ra, .slice ta tn tc, .string s], .int .u64 (h : Int), .agg #[.int .u64 (d0 : Int), .int .u64 (d1 : Int), .int .u64 (d2 : Int), .int .u64 (d3 : Int)]] w fun e w' => e = .returned (.int .u64 ((chosenN born stay h d0 d1 d2 d3 9 : Nat) : Int)) ∧ Below w.heap.size w w' := by
  obtain ⟨w1, hw1⟩ : ∃ w1, (w.alloc (.cells #[.int .i64 kd, .int .i64 (born : Int), .int .i64 (stay : Int), .int .i64 st, .int .i64 ra, .slice ta tn tc, .string s] 24)).alloc (.cells #[.int .u64 (d0 : Int), .int .u64 (d1 : Int), .int .u64 (d2 : Int), .int .u64 (d3 : Int)] 178) = w1 := ⟨_, rfl⟩
  have BB := hide' (show Below w.heap.size w w1 by rw [← hw1]; exact ((Below.refl _ _).alloc (Nat.le_refl _) _).alloc (by simp) _)
  have y1 : w1.cell? ⟨w.heap.size, 1, none⟩ = some (.int .i64 (born : Int)) := by rw [← hw1, World.cell?_alloc_old _ _ _ (by simp), World.cell?_alloc_at _ _ _ _ rfl]; rfl
  have y2 : w1.cell? ⟨w.heap.size, 2, none⟩ = some (.int .i64 (stay : Int)) := by rw [← hw1, World.cell?_alloc_old _ _ _ (by simp), World.cell?_alloc_at _ _ _ _ rfl]; rfl
  have z0 : w1.cell? ⟨w.heap.size + 1, 0, none⟩ = some (.int .u64 (d0 : Int)) := by rw [← hw1, World.cell?_alloc_at _ _ _ _ (by simp)]; rfl
  have z1 : w1.cell? ⟨w.heap.size + 1, 1, none⟩ = some (.int .u64 (d1 : Int)) := by rw [← hw1, World.cell?_alloc_at _ _ _ _ (by simp)]; rfl
  have z2 : w1.cell? ⟨w.heap.size + 1, 2, none⟩ = some (.int .u64 (d2 : Int)) := by rw [← hw1, World.cell?_alloc_at _ _ _ _ (by simp)]; rfl
  have z3 : w1.cell? ⟨w.heap.size + 1, 3, none⟩ = some (.int .u64 (d3 : Int)) := by rw [← hw1, World.cell?_alloc_at _ _ _ _ (by simp)]; rfl
  have i0 : ∀ w, (Instr.index 178 (.agg #[.int .u64 (d0 : Int), .int .u64 (d1 : Int), .int .u64 (d2 : Int), .int .u64 (d3 : Int)]) (.int .i64 0)).run Tryd.prog w = .ok (.int .u64 (d0 : Int)) w := fun _ => by kernel_rfl
  have i1 : ∀ w, (Instr.index 178 (.agg #[.int .u64 (d0 : Int), .int .u64 (d1 : Int), .int .u64 (d2 : Int), .int .u64 (d3 : Int)]) (.int .i64 1)).run Tryd.prog w = .ok (.int .u64 (d1 : Int)) w := fun _ => by kernel_rfl
  have i2 : ∀ w, (Instr.index 178 (.agg #[.int .u64 (d0 : Int), .int .u64 (d1 : Int), .int .u64 (d2 : Int), .int .u64 (d3 : Int)]) (.int .i64 2)).run Tryd.prog w = .ok (.int .u64 (d2 : Int)) w := fun _ => by kernel_rfl
  have i3 : ∀ w, (Instr.index 178 (.agg #[.int .u64 (d0 : Int), .int .u64 (d1 : Int), .int .u64 (d2 : Int), .int .u64 (d3 : Int)]) (.int .i64 3)).run Tryd.prog w = .ok (.int .u64 (d3 : Int)) w := fun _ => by kernel_rfl
  obtain ⟨res, hres⟩ : ∃ res, chosenN born stay h d0 d1 d2 d3 9 = res := ⟨_, rfl⟩
  have RES := hide' hres
  have HB := hide' hb
  have HS := hide' hs
  rw [hres]
  clear hres
  go_enter Tryd.func87, Tryd.ntmps87
  go_wp2
  go_loopw [7, 14] (fun ov kv wr => ∃ (k q o : Nat), kv = .int .i64 (k : Int) ∧ ov = .int .u64 (o : Int) ∧ k ≤ 9 ∧ wr = w1.drewN q ∧ o < 18446744073709551616 ∧ Hid (o = chosenN born stay h d0 d1 d2 d3 k)) (fun _ kv _ => 9 - (intOf kv).toNat)
  case atStart => exact ⟨0, 0, 0, rfl, rfl, by omega, rfl, by omega, hide' rfl⟩
  case round =>
    obtain ⟨k, q, o, rfl, rfl, hk, rfl, ol, HO⟩ := hrel
    by_cases d : (k : Int) < 9
    · have kl : k < 9 := by omega
      have a1 := and_bit' born k HB.out
      have a2 := and_bit' stay k HS.out
      obtain ⟨b, hbb⟩ : ∃ b, born / 2 ^ k % 2 = b := ⟨_, rfl⟩
      obtain ⟨t, htt⟩ : ∃ t, stay / 2 ^ k % 2 = t := ⟨_, rfl⟩
      have bl : b ≤ 1 := by omega
      have tl : t ≤ 1 := by omega
      rw [hbb] at a1
      rw [htt] at a2
      by_cases z : b = 0 ∧ t = 0
      · obtain ⟨rfl, rfl⟩ := z
        have NX := hide' (show o = chosenN born stay h d0 d1 d2 d3 (k + 1) by rw [chosenN_none (by rw [bitN, hbb]) (by rw [bitN, htt])]; exact HO.out)
        clear hbb htt
        go_wp2
        go_quiet (fail)
        go_wp2
        exact ⟨⟨k + 1, q + nq, o, by go_num, rfl, by omega, rfl, ol, NX⟩, by simp [intOf]; omega⟩
      · obtain ⟨oo, o1, o2⟩ := or_bits bl tl z
        have c1 : IntKind.u64.wrap (b : Int) = (b : Int) := by rw [IntKind.wrap_u64]; omega
        have c2 : IntKind.u64.wrap (t : Int) = (t : Int) := by rw [IntKind.wrap_u64]; omega
        have n1 := maskN_neg bl
        have n2 := maskN_neg tl
        obtain ⟨mb, hmb⟩ : ∃ mb, maskN (b == 1) = mb := ⟨_, rfl⟩
        obtain ⟨mt, hmt⟩ : ∃ mt, maskN (t == 1) = mt := ⟨_, rfl⟩
        have mbl : mb < 18446744073709551616 := by rw [← hmb]; exact maskN_lt _
        have mtl : mt < 18446744073709551616 := by rw [← hmt]; exact maskN_lt _
        rw [hmb] at n1
        rw [hmt] at n2
        have x1 := u64_andNot_nat mb h mbl hh
        have x2 := u64_and_nat mt h mtl hh
        have x1l : mb &&& (18446744073709551615 - h) < 18446744073709551616 := Nat.and_lt_two_pow (n := 64) _ (by omega)
        have x2l : mt &&& h < 18446744073709551616 := Nat.and_lt_two_pow (n := 64) _ hh
        have x3 := u64_or_nat _ _ x1l x2l
        have x3l := Nat.or_lt_two_pow (n := 64) x1l x2l
        obtain ⟨p1, hp1⟩ : ∃ p1, mb &&& (18446744073709551615 - h) = p1 := ⟨_, rfl⟩
        obtain ⟨p2, hp2⟩ : ∃ p2, mt &&& h = p2 := ⟨_, rfl⟩
        rw [hp1] at x1 x3 x3l
        rw [hp2] at x2 x3 x3l
        obtain ⟨p3, hp3⟩ : ∃ p3, p1 ||| p2 = p3 := ⟨_, rfl⟩
        rw [hp3] at x3 x3l
        have NXT := hide' (show ∀ u, u = thoseN k d0 d1 d2 d3 4 → (o ||| (u &&& p3)) = chosenN born stay h d0 d1 d2 d3 (k + 1) from fun u hu => by
          rw [chosenN, testBit_bitN, testBit_bitN, bitN, bitN, hbb, htt, hmb, hmt, hp1, hp2, hp3, ← hu, ← HO.out])
        clear hbb htt hmb hmt hp1 hp2 hp3 x1l x2l z
        go_wp2
        go_quiet (fail)
        go_wp2
        go_loopw [11, 32] (fun tv iv wr => ∃ (i u : Nat), iv = .int .i64 (i : Int) ∧ tv = .int .u64 (u : Int) ∧ i ≤ 4 ∧ wr = w1.drewN (q + nq) ∧ u < 18446744073709551616 ∧ Hid (u = thoseN k d0 d1 d2 d3 i)) (fun _ iv _ => 4 - (intOf iv).toNat)
        case atStart => exact ⟨0, 18446744073709551615, rfl, rfl, by omega, rfl, by omega, hide' rfl⟩
        case round =>
          obtain ⟨i, u, rfl, rfl, hi, rfl, ul, HU⟩ := hrel
          have kk : k ≤ 511 := by omega
          have i5 : i = 0 ∨ i = 1 ∨ i = 2 ∨ i = 3 ∨ i = 4 := by omega
          rcases i5 with rfl | rfl | rfl | rfl | rfl
          · have g0 := and_bit' k 0 kk
            obtain ⟨x, hx⟩ : ∃ x, k / 2 ^ 0 % 2 = x := ⟨_, rfl⟩
            rw [hx] at g0
            have g1 : bits BinOp.and IntKind.i64 ((k : Int)) 1 = (x : Int) := by rw [← g0]; simp
            have ST := hide' (show u &&& digM (k.testBit 0) d0 = thoseN k d0 d1 d2 d3 (0 + 1) by rw [thoseN, ← HU.out]; rfl)
            rw [digM_step x hx] at ST
            have xl : x ≤ 1 := by omega
            clear hx g0
            by_cases xx : x = 1
            · subst xx
              have y3 := u64_and_nat u d0 ul h0
              have y3l : u &&& d0 < 18446744073709551616 := Nat.and_lt_two_pow (n := 64) _ h0
              obtain ⟨v, hv⟩ : ∃ v, u &&& d0 = v := ⟨_, rfl⟩
              rw [if_pos rfl, hv] at ST
              rw [hv] at y3 y3l
              clear hv
              go_wp2
              exact ⟨⟨0 + 1, v, by go_num, rfl, by omega, by first | trivial | rfl, y3l, ST⟩, by simp [intOf]⟩
            · have x0 : x = 0 := by omega
              subst x0
              have y3 := u64_andNot_nat u d0 ul h0
              have y3l : u &&& (18446744073709551615 - d0) < 18446744073709551616 := Nat.and_lt_two_pow (n := 64) _ (by omega)
              obtain ⟨v, hv⟩ : ∃ v, u &&& (18446744073709551615 - d0) = v := ⟨_, rfl⟩
              rw [if_neg (by decide), hv] at ST
              rw [hv] at y3 y3l
              clear hv
              go_wp2
              exact ⟨⟨0 + 1, v, by go_num, rfl, by omega, by first | trivial | rfl, y3l, ST⟩, by simp [intOf]⟩
          · have g0 := and_bit' k 1 kk
            obtain ⟨x, hx⟩ : ∃ x, k / 2 ^ 1 % 2 = x := ⟨_, rfl⟩
            rw [hx] at g0
            have g1 : bits BinOp.and IntKind.i64 ((k : Int) / 2) 1 = (x : Int) := by rw [← g0]; simp
            have ST := hide' (show u &&& digM (k.testBit 1) d1 = thoseN k d0 d1 d2 d3 (1 + 1) by rw [thoseN, ← HU.out]; rfl)
            rw [digM_step x hx] at ST
            have xl : x ≤ 1 := by omega
            clear hx g0
            by_cases xx : x = 1
            · subst xx
              have y3 := u64_and_nat u d1 ul h1
              have y3l : u &&& d1 < 18446744073709551616 := Nat.and_lt_two_pow (n := 64) _ h1
              obtain ⟨v, hv⟩ : ∃ v, u &&& d1 = v := ⟨_, rfl⟩
              rw [if_pos rfl, hv] at ST
              rw [hv] at y3 y3l
              clear hv
              go_wp2
              exact ⟨⟨1 + 1, v, by go_num, rfl, by omega, by first | trivial | rfl, y3l, ST⟩, by simp [intOf]⟩
            · have x0 : x = 0 := by omega
              subst x0
              have y3 := u64_andNot_nat u d1 ul h1
              have y3l : u &&& (18446744073709551615 - d1) < 18446744073709551616 := Nat.and_lt_two_pow (n := 64) _ (by omega)
              obtain ⟨v, hv⟩ : ∃ v, u &&& (18446744073709551615 - d1) = v := ⟨_, rfl⟩
              rw [if_neg (by decide), hv] at ST
              rw [hv] at y3 y3l
              clear hv
              go_wp2
              exact ⟨⟨1 + 1, v, by go_num, rfl, by omega, by first | trivial | rfl, y3l, ST⟩, by simp [intOf]⟩
          · have g0 := and_bit' k 2 kk
            obtain ⟨x, hx⟩ : ∃ x, k / 2 ^ 2 % 2 = x := ⟨_, rfl⟩
            rw [hx] at g0
            have g1 : bits BinOp.and IntKind.i64 ((k : Int) / 4) 1 = (x : Int) := by rw [← g0]; simp
            have ST := hide' (show u &&& digM (k.testBit 2) d2 = thoseN k d0 d1 d2 d3 (2 + 1) by rw [thoseN, ← HU.out]; rfl)
            rw [digM_step x hx] at ST
            have xl : x ≤ 1 := by omega
            clear hx g0
            by_cases xx : x = 1
            · subst xx
              have y3 := u64_and_nat u d2 ul h2
              have y3l : u &&& d2 < 18446744073709551616 := Nat.and_lt_two_pow (n := 64) _ h2
              obtain ⟨v, hv⟩ : ∃ v, u &&& d2 = v := ⟨_, rfl⟩
              rw [if_pos rfl, hv] at ST
              rw [hv] at y3 y3l
              clear hv
              go_wp2
              exact ⟨⟨2 + 1, v, by go_num, rfl, by omega, by first | trivial | rfl, y3l, ST⟩, by simp [intOf]⟩
            · have x0 : x = 0 := by omega
              subst x0
              have y3 := u64_andNot_nat u d2 ul h2
              have y3l : u &&& (18446744073709551615 - d2) < 18446744073709551616 := Nat.and_lt_two_pow (n := 64) _ (by omega)
              obtain ⟨v, hv⟩ : ∃ v, u &&& (18446744073709551615 - d2) = v := ⟨_, rfl⟩
              rw [if_neg (by decide), hv] at ST
              rw [hv] at y3 y3l
              clear hv
              go_wp2
              exact ⟨⟨2 + 1, v, by go_num, rfl, by omega, by first | trivial | rfl, y3l, ST⟩, by simp [intOf]⟩
          · have g0 := and_bit' k 3 kk
            obtain ⟨x, hx⟩ : ∃ x, k / 2 ^ 3 % 2 = x := ⟨_, rfl⟩
            rw [hx] at g0
            have g1 : bits BinOp.and IntKind.i64 ((k : Int) / 8) 1 = (x : Int) := by rw [← g0]; simp
            have ST := hide' (show u &&& digM (k.testBit 3) d3 = thoseN k d0 d1 d2 d3 (3 + 1) by rw [thoseN, ← HU.out]; rfl)
            rw [digM_step x hx] at ST
            have xl : x ≤ 1 := by omega
            clear hx g0
            by_cases xx : x = 1
            · subst xx
              have y3 := u64_and_nat u d3 ul h3
              have y3l : u &&& d3 < 18446744073709551616 := Nat.and_lt_two_pow (n := 64) _ h3
              obtain ⟨v, hv⟩ : ∃ v, u &&& d3 = v := ⟨_, rfl⟩
              rw [if_pos rfl, hv] at ST
              rw [hv] at y3 y3l
              clear hv
              go_wp2
              exact ⟨⟨3 + 1, v, by go_num, rfl, by omega, by first | trivial | rfl, y3l, ST⟩, by simp [intOf]⟩
            · have x0 : x = 0 := by omega
              subst x0
              have y3 := u64_andNot_nat u d3 ul h3
              have y3l : u &&& (18446744073709551615 - d3) < 18446744073709551616 := Nat.and_lt_two_pow (n := 64) _ (by omega)
              obtain ⟨v, hv⟩ : ∃ v, u &&& (18446744073709551615 - d3) = v := ⟨_, rfl⟩
              rw [if_neg (by decide), hv] at ST
              rw [hv] at y3 y3l
              clear hv
              go_wp2
              exact ⟨⟨3 + 1, v, by go_num, rfl, by omega, by first | trivial | rfl, y3l, ST⟩, by simp [intOf]⟩
          · have N1 := hide' (NXT.out u HU.out)
            have y4 := u64_and_nat u p3 ul x3l
            have y4l : u &&& p3 < 18446744073709551616 := Nat.and_lt_two_pow (n := 64) _ x3l
            obtain ⟨v, hv⟩ : ∃ v, u &&& p3 = v := ⟨_, rfl⟩
            rw [hv] at y4 y4l N1
            have y5 := u64_or_nat o v ol y4l
            have y5l : o ||| v < 18446744073709551616 := Nat.or_lt_two_pow (n := 64) ol y4l
            obtain ⟨v2, hv2⟩ : ∃ v2, o ||| v = v2 := ⟨_, rfl⟩
            rw [hv2] at y5 y5l N1
            clear hv hv2
            go_wp2
            exact ⟨⟨k + 1, q + nq, v2, by go_num, rfl, by omega, rfl, y5l, N1⟩, by simp [intOf]; omega⟩
    · have k9 : k = 9 := by omega
      have E : o = res := by rw [HO.out, k9]; exact RES.out
      clear k9
      subst E
      go_wp2
      go_ret
      exact ⟨rfl, below_drewN BB.out _⟩
end Go.Proofs.YtlpdobfjgpedaaaDoor

