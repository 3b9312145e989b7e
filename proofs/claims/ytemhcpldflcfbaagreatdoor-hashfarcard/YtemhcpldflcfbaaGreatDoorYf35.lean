/-
  What the last text of this claim leans on, part 35: Hj9, Ho1, Ho2.
-/
import Derived.Test.YtemhcpldflcfbaaGreatDoorYf24
import Derived.Test.YtemhcpldflcfbaaGreatDoorYf34
import Derived.BigRegion
import Derived.Defers
import Derived.Laws.Pointers
import Derived.Laws.LoneSync
import Derived.RegionCalls
namespace Go.Proofs.YtemhcpldflcfbaaGreatDoor
open Go.RowKit
set_option linter.unusedVariables false
set_option linter.unusedSimpArgs false
def dblL (z : List Value) : Nat → List Value
 | 0 => z
 | k + 1 => List.append (dblL z k) (dblL z k)
theorem dbl_rep (v : Value) (n : Nat) : ∀ k, dblL (List.replicate n v) k = List.replicate (2 ^ k * n) v
 | 0 => by show List.replicate n v = _; rw [Nat.pow_zero, Nat.one_mul]
 | k + 1 => by
  show dblL _ k ++ dblL _ k = _
  rw [dbl_rep v n k, List.replicate_append_replicate, ← Nat.add_mul, Nat.pow_succ, Nat.mul_two]
theorem zero_table : Tryz.zeroCells181 = arrQ 65536 (fun _ => .int .u16 0) := by
 have h : Tryz.zeroCells181 = (dblL (List.replicate 64 (.int .u16 0)) 10).toArray := rfl
 rw [h, dbl_rep]
 unfold arrQ
 rw [List.map_const', List.length_range]
theorem or_u16 {a b : Nat} (ha : a < 1024) (hb : b < 1024) : bits .or .u16 (a : Int) (b : Int) = ((a ||| b : Nat) : Int) := by
 have hx : a ||| b < 2 ^ 10 := Nat.or_lt_two_pow ha hb
 have t : ∀ x : Nat, x < 1024 → (BitVec.ofInt 16 (x : Int)).toNat = x := fun x h => by
  rw [BitVec.ofInt_natCast, BitVec.toNat_ofNat]; exact Nat.mod_eq_of_lt (by omega)
 show IntKind.u16.wrap ((BitVec.ofInt 16 (a : Int) ||| BitVec.ofInt 16 (b : Int)).toNat : Int) = _
 rw [BitVec.toNat_or, t a ha, t b hb]
 simp [IntKind.wrap, IntKind.signed, IntKind.bits]
 omega
def hQ (f : Nat → Nat) (k : Nat) : Value := .int .u16 ((f k : Nat) : Int)
def RlB (V : World) (b : Nat) (k : Int) (born stay : Nat) (st ra : Int) (ta : Option Addr) (tn tc : Nat) (s : ByteArray) : Prop := V.heap[b]? = some (.cells #[.int .i64 k, .int .i64 (born : Int), .int .i64 (stay : Int), .int .i64 st, .int .i64 ra, .slice ta tn tc, .string s] 24 (0, 0))
def tbF (born stay c i k : Nat) : Nat := if k < c then tbE born stay k 4 else if k = c then tbE born stay c i else 0
def TbO' (born stay : Nat) (w : World) (e : Ending) (w' : World) : Prop := ∃ tb, e = .returned (.pointer (some ⟨tb, 0, none⟩)) ∧ TtA w' tb (fun c => tbE born stay c 4) ∧ w.heap.size ≤ tb ∧ tb < w'.heap.size ∧ Below w.heap.size w w'
set_option maxRecDepth 100000 in
set_option maxHeartbeats 6400000 in
theorem tableOf_any (born stay : Nat) (k st ra : Int) (ta : Option Addr) (tn tc : Nat) (s : ByteArray) (w : World) (hb : born ≤ 511) (hs : stay ≤ 511) : Calls Tryz.prog 56 #[.agg #[.int .i64 k, .int .i64 (born : Int), .int .i64 (stay : Int), .int .i64 st, .int .i64 ra, .slice ta tn tc, .string s]] w (TbO' born stay w) := by
 obtain ⟨w1, hw1⟩ : ∃ x, w.alloc (.cells #[.int .i64 k, .int .i64 (born : Int), .int .i64 (stay : Int), .int .i64 st, .int .i64 ra, .slice ta tn tc, .string s] 24) = x := ⟨_, rfl⟩
 have r1 : RlB w1 w.heap.size k born stay st ra ta tn tc s := by rw [← hw1]; exact heap_alloc_new _ _
 have b1 : Below w.heap.size w w1 := by rw [← hw1]; exact (Below.refl _ _).alloc (Nat.le_refl _) _
 have z1 : w1.heap.size = w.heap.size + 1 := by rw [← hw1]; simp
 obtain ⟨w2, hw2⟩ : ∃ x, w1.alloc (.cells Tryz.zeroCells181 181) = x := ⟨_, rfl⟩
 have A2 := hide' (show ArV w2 (w.heap.size + 1) 65536 181 (hQ fun _ => 0) by
  have := heap_alloc_new w1 (.cells Tryz.zeroCells181 181)
  rw [hw2, z1, zero_table] at this
  exact this)
 have b2 : Below w1.heap.size w1 w2 := by rw [← hw2]; exact (Below.refl _ _).alloc (Nat.le_refl _) _
 have R2 := hide' (show RlB w2 w.heap.size k born stay st ra ta tn tc s from (b2.block _ (by omega)).trans r1)
 have B2 := hide' (b1.trans (b2.mono (by omega)))
 have HW := hide' (And.intro hw1 hw2)
 clear hw1 hw2 r1 b1 b2 z1
 go_enter Tryz.func56, Tryz.ntmps56
 go_upto_region 2 with fail
 obtain ⟨q1, q2⟩ := HW.out
 rw [q1, q2]
 clear q1 q2 HW
 obtain ⟨tb, htb⟩ : ∃ x, w.heap.size + 1 = x := ⟨_, rfl⟩
 rw [htb] at A2 ⊢
 have TB := hide' htb
 clear htb
 go_wp2
 go_loopw [4, 5, 6, 7, 8, 9, 10, 12] (fun _ _ _ _ _ _ _ cv wr => ∃ (c : Nat), cv = .int .i64 (c : Int) ∧ c ≤ 65536 ∧ Hid (ArV wr tb 65536 181 (hQ (tbF born stay c 0))) ∧ Hid (RlB wr w.heap.size k born stay st ra ta tn tc s) ∧ Hid (Below w.heap.size w wr)) (fun _ _ _ _ _ _ _ cv _ => 65536 - (intOf cv).toNat)
 case atStart => exact ⟨0, rfl, by omega, hide' (A2.out.ext fun k _ => by unfold hQ tbF; rw [if_neg (by omega)]; split <;> rfl), R2, B2⟩
 case round =>
  clear A2 R2 B2
  obtain ⟨c, rfl, hc, AC, RC, BC⟩ := hrel
  by_cases dc : (c : Int) < 65536
  ·have cl : c < 65536 := by omega
   have cc0 : (0 : Int) ≤ (c : Int) := by omega
   go_wp2
   go_loopw [5, 6, 7, 8, 9, 10, 15] (fun _ _ _ _ _ _ iv wr => ∃ (i : Nat), iv = .int .i64 (i : Int) ∧ i ≤ 4 ∧ Hid (ArV wr tb 65536 181 (hQ (tbF born stay c i))) ∧ Hid (RlB wr w.heap.size k born stay st ra ta tn tc s) ∧ Hid (Below w.heap.size w wr)) (fun _ _ _ _ _ _ iv _ => 4 - (intOf iv).toNat)
   case atStart => exact ⟨0, rfl, by omega, AC, RC, BC⟩
   case round =>
    clear AC RC BC
    obtain ⟨i, rfl, hi, AI, RI, BI⟩ := hrel
    by_cases di : (i : Int) < 4
    ·have il : i < 4 := by omega
     have xe : (i : Int) % 2 = ((i % 2 : Nat) : Int) := by omega
     have ye : (i : Int) / 2 = ((i / 2 : Nat) : Int) := by omega
     have TE : tcE i = 4 * (i / 2) + i % 2 := rfl
     have TS := hide' (show tbE born stay c (i + 1) = tbE born stay c i ||| (tvE born stay c i <<< (8 * (i / 2) + i % 2)) from rfl)
     have TV := hide' (show tvE born stay c i = ((if c >>> (tcE i + 5) &&& 1 = 1 then stay else born) >>> tnE c i) &&& 1 from rfl)
     have TN := hide' (show tnE c i = popD (c &&& 1879 <<< tcE i) 16 from rfl)
     have t1 := tv_le born stay c i
     have t2 := tb_lt born stay c i (by omega)
     obtain ⟨x, hx⟩ : ∃ x, i % 2 = x := ⟨_, rfl⟩
     obtain ⟨y, hy⟩ : ∃ y, i / 2 = y := ⟨_, rfl⟩
     have xl : x ≤ 1 := by omega
     have yl : y ≤ 1 := by omega
     rw [hx] at xe TE TS
     rw [hy] at ye TE TS
     obtain ⟨p, hp⟩ : ∃ p, tcE i = p := ⟨_, rfl⟩
     rw [hp] at TE TV TN
     have pl : p ≤ 5 := by omega
     have ep : 4 * (y : Int) + (x : Int) = (p : Int) := by omega
     have rl : 1879 <<< p ≤ 60128 := by
      rw [Nat.shiftLeft_eq]
      have : 2 ^ p ≤ 2 ^ 5 := Nat.pow_le_pow_right (by decide) pl
      omega
     have rs : IntKind.u64.wrap (1879 * (2 : Int) ^ p) = ((1879 <<< p : Nat) : Int) := by
      have := shl_u64 1879 p ((2 : Int) ^ p) (by push_cast; rfl)
      rw [Nat.mod_eq_of_lt (by omega)] at this
      exact this
     obtain ⟨r, hr⟩ : ∃ r, 1879 <<< p = r := ⟨_, rfl⟩
     rw [hr] at rl rs TN
     have ca : bits .and .u64 (c : Int) (r : Int) = ((c &&& r : Nat) : Int) := u64_and_nat c r (by omega) (by omega)
     have cr : c &&& r ≤ c := Nat.and_le_left
     obtain ⟨d, hd⟩ : ∃ d, c &&& r = d := ⟨_, rfl⟩
     rw [hd] at ca cr TN
     have OC := hide' (fun V => oc_any d V (by omega))
     have e16 := oc_pop 16 d (by omega) (by omega)
     have n16 : popD d 16 ≤ 16 := cnt_le _ _
     rw [e16] at OC
     rw [← TN.out] at OC n16
     obtain ⟨n, hn⟩ : ∃ n, tnE c i = n := ⟨_, rfl⟩
     rw [hn] at OC n16 TV
     have cs : (c : Int) / (2 : Int) ^ (p + 5) = ((c >>> (p + 5) : Nat) : Int) := by
      rw [Nat.shiftRight_eq_div_pow, Int.natCast_ediv]
      push_cast
      rfl
     have cl5 : c >>> (p + 5) ≤ c := shr_leH c (p + 5)
     obtain ⟨h, hh⟩ : ∃ h, c >>> (p + 5) = h := ⟨_, rfl⟩
     rw [hh] at cs cl5 TV
     have ha : bits .and .i64 (h : Int) 1 = ((h &&& 1 : Nat) : Int) := and_i64K (a := h) 1 (by omega) (by decide)
     clear hx hy hp hr hd e16 TN hn hh TE
     have wp5 : IntKind.i64.wrap ((p : Int) + 5) = (p : Int) + 5 := by simp [IntKind.wrap, IntKind.signed, IntKind.bits]; omega
     have h1 : h &&& 1 ≤ 1 := Nat.and_le_right
     obtain ⟨g, hg⟩ : ∃ g, h &&& 1 = g := ⟨_, rfl⟩
     rw [hg] at ha h1 TV
     have rb := RI.out
     clear hg
     have dI : (d : Int) < 65536 := by omega
     obtain ⟨v, hv⟩ : ∃ v, tvE born stay c i = v := ⟨_, rfl⟩
     obtain ⟨o, ho⟩ : ∃ o, tbE born stay c i = o := ⟨_, rfl⟩
     obtain ⟨q, hq⟩ : ∃ q, 8 * y + x = q := ⟨_, rfl⟩
     rw [hv] at TS t1
     rw [ho] at TS t2
     rw [hq] at TS
     have q9 : q ≤ 9 := by omega
     have eq8 : 8 * (y : Int) + (x : Int) = (q : Int) := by omega
     have vl : v <<< q < 1024 := by
      rw [Nat.shiftLeft_eq]
      have : 2 ^ q ≤ 2 ^ 9 := Nat.pow_le_pow_right (by decide) q9
      exact Nat.lt_of_le_of_lt (Nat.mul_le_mul t1 this) (by decide)
     have vs : IntKind.u16.wrap ((v : Int) * (2 : Int) ^ q) = ((v <<< q : Nat) : Int) := by
      rw [Nat.shiftLeft_eq] at vl ⊢
      rw [show ((v : Int) * (2 : Int) ^ q) = ((v * 2 ^ q : Nat) : Int) by push_cast; rfl]
      generalize v * 2 ^ q = t at vl ⊢
      simp [IntKind.wrap, IntKind.signed, IntKind.bits]
      omega
     obtain ⟨sv, hsv⟩ : ∃ sv, v <<< q = sv := ⟨_, rfl⟩
     rw [hsv] at TS vl vs
     have os := or_u16 t2 vl
     obtain ⟨nw, hnw⟩ : ∃ nw, o ||| sv = nw := ⟨_, rfl⟩
     rw [hnw] at TS os
     have CW := hide' (show wr.cell? ⟨tb, c, none⟩ = some (.int .u16 (o : Int)) by
      rw [AI.out.cell cl]; unfold hQ tbF; rw [if_neg (by omega), if_pos rfl, ho])
     have FW := hide' (AI.out.frozen c)
     have k1 := hide' (cell_of_row wr _ 1 _ _ _ rb)
     have k2 := hide' (cell_of_row wr _ 2 _ _ _ rb)
     have HO := hide' (And.intro hv ho)
     clear ho hq hsv hnw rb
     go_upto_region 9 with fail
     rw [xe]
     clear xe ye
     go_upto_region 11 with (first | (go_at_call 95; refine (OC.out _).mono ?_; rintro e w3 ⟨rfl, rfl⟩))
     have k3 := k1.out
     have k4 := k2.out
     clear rs ca
     have : g = 0 ∨ g = 1 := by omega
     rcases this with rfl | rfl
     ·rw [if_neg (by decide)] at TV
      have bs : (born : Int) / (2 : Int) ^ n = ((born >>> n : Nat) : Int) := by
       rw [Nat.shiftRight_eq_div_pow, Int.natCast_ediv]
       push_cast
       rfl
      have bl : born >>> n ≤ born := shr_leH born n
      obtain ⟨z, hz⟩ : ∃ z, born >>> n = z := ⟨_, rfl⟩
      rw [hz] at bs bl TV
      have ba : bits .and .i64 (z : Int) 1 = ((z &&& 1 : Nat) : Int) := and_i64K (a := z) 1 (by omega) (by decide)
      rw [← TV.out, hv] at ba
      clear hz
      have c1 := CW.out
      have c2 := FW.out
      have vw : IntKind.u16.wrap (v : Int) = (v : Int) := by simp [IntKind.wrap, IntKind.signed, IntKind.bits]; omega
      go_upto_region 14 with fail
      clear k3 k4 cs ha ep wp5
      go_region
      obtain ⟨w5, hw5⟩ : ∃ w5, (w3.setCell ⟨tb, c, none⟩ (.int .u16 (nw : Int))).drew = w5 := ⟨_, rfl⟩
      have tg := TB.out
      have AN := hide' (show ArV w5 tb 65536 181 (hQ (tbF born stay c (i + 1))) by
       rw [← hw5]
       exact (AI.out.set c (.int .u16 (nw : Int))).ext fun k _ => by
        show (if k = c then Value.int .u16 (nw : Int) else hQ (tbF born stay c i) k) = _
        unfold hQ tbF
        by_cases e : k = c
        ·rw [if_pos e, if_neg (by omega), if_pos e, TS.out]
        ·rw [if_neg e, if_neg e, if_neg e])
      have RN := hide' (show RlB w5 w.heap.size k born stay st ra ta tn tc s by
       rw [← hw5]
       exact (set_other (k := c) (v := .int .u16 (nw : Int)) (show w.heap.size ≠ tb by omega)).trans RI.out)
      have BN := hide' (show Below w.heap.size w w5 by
       rw [← hw5]
       exact (BI.out.setCell (by simp; omega) _).drew)
      rw [hw5]
      clear hw5 tg c1 c2 bs ba vw os vs eq8
      go_wp2
      exact ⟨⟨i + 1, by go_num, by omega, AN, RN, BN⟩, by simp [intOf]; omega⟩
     ·rw [if_pos rfl] at TV
      have bs : (stay : Int) / (2 : Int) ^ n = ((stay >>> n : Nat) : Int) := by
       rw [Nat.shiftRight_eq_div_pow, Int.natCast_ediv]
       push_cast
       rfl
      have bl : stay >>> n ≤ stay := shr_leH stay n
      obtain ⟨z, hz⟩ : ∃ z, stay >>> n = z := ⟨_, rfl⟩
      rw [hz] at bs bl TV
      have ba : bits .and .i64 (z : Int) 1 = ((z &&& 1 : Nat) : Int) := and_i64K (a := z) 1 (by omega) (by decide)
      rw [← TV.out, hv] at ba
      clear hz
      have c1 := CW.out
      have c2 := FW.out
      have vw : IntKind.u16.wrap (v : Int) = (v : Int) := by simp [IntKind.wrap, IntKind.signed, IntKind.bits]; omega
      go_upto_region 14 with fail
      clear k3 k4 cs ha ep wp5
      go_region
      obtain ⟨w5, hw5⟩ : ∃ w5, (w3.setCell ⟨tb, c, none⟩ (.int .u16 (nw : Int))).drew = w5 := ⟨_, rfl⟩
      have tg := TB.out
      have AN := hide' (show ArV w5 tb 65536 181 (hQ (tbF born stay c (i + 1))) by
       rw [← hw5]
       exact (AI.out.set c (.int .u16 (nw : Int))).ext fun k _ => by
        show (if k = c then Value.int .u16 (nw : Int) else hQ (tbF born stay c i) k) = _
        unfold hQ tbF
        by_cases e : k = c
        ·rw [if_pos e, if_neg (by omega), if_pos e, TS.out]
        ·rw [if_neg e, if_neg e, if_neg e])
      have RN := hide' (show RlB w5 w.heap.size k born stay st ra ta tn tc s by
       rw [← hw5]
       exact (set_other (k := c) (v := .int .u16 (nw : Int)) (show w.heap.size ≠ tb by omega)).trans RI.out)
      have BN := hide' (show Below w.heap.size w w5 by
       rw [← hw5]
       exact (BI.out.setCell (by simp; omega) _).drew)
      rw [hw5]
      clear hw5 tg c1 c2 bs ba vw os vs eq8
      go_wp2
      exact ⟨⟨i + 1, by go_num, by omega, AN, RN, BN⟩, by simp [intOf]; omega⟩
    ·obtain rfl : i = 4 := by omega
     have A3 := hide' (AI.out.ext (f' := hQ (tbF born stay (c + 1) 0)) fun k _ => by
      unfold hQ tbF
      by_cases e : k < c
      ·rw [if_pos e, if_pos (by omega)]
      ·rw [if_neg e]
       by_cases e2 : k = c
       ·rw [if_pos e2, if_pos (by omega), e2]
       ·rw [if_neg e2, if_neg (by omega)]
        split <;> rfl)
     go_wp2
     exact ⟨⟨c + 1, by go_num, by omega, A3, RI, BI⟩, by simp [intOf]; omega⟩
  ·obtain rfl : c = 65536 := by omega
   have TT := hide' (show TtA wr tb (fun c => tbE born stay c 4) from ⟨fun c hc => by rw [AC.out.cell hc]; unfold hQ tbF; rw [if_pos hc], fun c => tb_lt born stay c 4 (by decide)⟩)
   have lt := AC.out.lt
   go_wp2
   go_ret
   exact ⟨tb, rfl, TT.out, by have := TB.out; omega, lt, BC.out⟩
theorem race_dis (w : World) : (callFunc 129 #[]).run Tryz.prog w = .ok (.value (.tuple #[])) w := run_call_mark0 Tryz.func129 (by kernel_rfl) (by kernel_rfl) (by kernel_rfl) .disable (by kernel_rfl) w
theorem race_en (w : World) : (callFunc 131 #[]).run Tryz.prog w = .ok (.value (.tuple #[])) w := run_call_mark0 Tryz.func131 (by kernel_rfl) (by kernel_rfl) (by kernel_rfl) .enable (by kernel_rfl) w
theorem race_acq (a : Addr) (w : World) : (callFunc 132 #[.pointer (some a)]).run Tryz.prog w = .ok (.value (.tuple #[])) w := run_call_marked Tryz.func132 (by kernel_rfl) (by kernel_rfl) (by kernel_rfl) .acquire (by kernel_rfl) a w
theorem race_rel (a : Addr) (w : World) : (callFunc 134 #[.pointer (some a)]).run Tryz.prog w = .ok (.value (.tuple #[])) w := run_call_marked Tryz.func134 (by kernel_rfl) (by kernel_rfl) (by kernel_rfl) .releaseMerge (by kernel_rfl) a w
set_option maxRecDepth 100000 in
set_option maxHeartbeats 1600000 in
theorem store_defO (a : Addr) (x : Value) (u : FrameMode) (w : World) (hc : w.cell? a = some x) (hz : w.frozen? a = false) :
  CallsD Tryz.prog 94 #[.pointer (some a), .bool true] u w fun e u' w' => u' = u ∧ (e = .returned (.tuple #[]) ∧ w' = w.drew.setCell a (.int .u32 1)) := by
 have hc' : w.drew.cell? a = some x := by go_simp
 have hz' : w.drew.frozen? a = false := by go_simp
 have hst := run_call_store (P := Tryz.prog) Tryz.func115 (by kernel_rfl) (by kernel_rfl) (by kernel_rfl) (by kernel_rfl) (k := .u32) (y := 1) hc' hz'
 go_enter_d Tryz.func94, Tryz.ntmps94
 go_wp2
 go_region_calls
 all_goals (go_end0; exact ⟨rfl, rfl⟩)
set_option maxRecDepth 100000 in
set_option maxHeartbeats 1600000 in
theorem unlock_in (a : Addr) (w : World) (hc : w.cell? a = some (.int .i32 1)) (hz : w.frozen? a = false) :
  Calls Tryz.prog 114 #[.pointer (some a)] w fun e w' => e = .returned (.tuple #[]) ∧ w' = w.setCell a (.int .i32 0) := by
 have hd := race_dis
 have he := race_en
 have hr := race_rel
 have hadd := run_call_add (P := Tryz.prog) Tryz.func135 (by kernel_rfl) (by kernel_rfl) (by kernel_rfl) .i32 (by kernel_rfl) (y := -1) (s := 0) hc hz (by simp [go_sem]; rfl)
 have hcv := run_convert_to_unsafe (P := Tryz.prog) (src := 231) (dst := 162) Tryz.underlying231 Tryz.underlying162 (by kernel_rfl) hc
 go_enter Tryz.func114, Tryz.ntmps114
 go_wp2
 go_end0
 exact ⟨rfl, rfl⟩
set_option maxRecDepth 100000 in
set_option maxHeartbeats 1600000 in
theorem unlock_defO (a : Addr) (u : FrameMode) (w : World) (hc : w.cell? a = some (.int .i32 1)) (hz : w.frozen? a = false) :
  CallsD Tryz.prog 93 #[.pointer (some a)] u w fun e u' w' => u' = u ∧ (e = .returned (.tuple #[]) ∧ w' = w.setCell a (.int .i32 0)) := by
 have UC := hide' (unlock_in a w hc hz)
 go_enter_d Tryz.func93, Tryz.ntmps93
 go_wp2_with (go_at_call 114; refine UC.out.mono ?_; rintro e w' ⟨rfl, rfl⟩)
 go_end0
 exact ⟨rfl, rfl⟩
set_option maxRecDepth 100000 in
set_option maxHeartbeats 1600000 in
theorem lock_in (a : Addr) (w : World) (hc : w.cell? a = some (.int .i32 0)) (hz : w.frozen? a = false) :
  Calls Tryz.prog 113 #[.pointer (some a)] w fun e w' => e = .returned (.tuple #[]) ∧ w' = w.setCell a (.int .i32 1) := by
 have hd := race_dis
 have he := race_en
 have ha := race_acq
 have hcas := run_call_cas_hit (P := Tryz.prog) Tryz.func130 (by kernel_rfl) (by kernel_rfl) (by kernel_rfl) .i32 (by kernel_rfl) (y := 1) hc hz
 have hc' : (w.setCell a (.int .i32 1)).cell? a = some (.int .i32 1) := World.cell?_setCell_same w a _ hc
 have hcv := run_convert_to_unsafe (P := Tryz.prog) (src := 231) (dst := 162) Tryz.underlying231 Tryz.underlying162 (by kernel_rfl) hc'
 go_enter Tryz.func113, Tryz.ntmps113
 go_wp2
 first | go_end0 | (simp only [Exit.inBlock, Exit.then]; refine bodyPost_ret (results_none rfl _ _ _) rfl ?_) | refine bodyPost_ret (results_none rfl _ _ _) rfl ?_
 exact ⟨rfl, rfl⟩
set_option maxRecDepth 100000 in
set_option maxHeartbeats 1600000 in
theorem lock_freeO (a : Addr) (w : World) (hc : w.cell? a = some (.int .i32 0)) (hz : w.frozen? a = false) :
  Calls Tryz.prog 92 #[.pointer (some a)] w fun e w' => e = .returned (.tuple #[]) ∧ w' = w.setCell a (.int .i32 1) := by
 have LC := hide' (lock_in a w hc hz)
 go_enter Tryz.func92, Tryz.ntmps92
 go_wp2_with (go_at_call 113; refine LC.out.mono ?_; rintro e w' ⟨rfl, rfl⟩)
 go_end0
 exact ⟨rfl, rfl⟩
def FiP (spb born stay : Nat) (w : World) (e : Ending) (w' : World) : Prop := e = .returned (.tuple #[]) ∧ ∃ tb w1, Below w.heap.size w w1 ∧ TtA w1 tb (fun c => tbE born stay c 4) ∧ w.heap.size ≤ tb ∧ tb < w1.heap.size ∧ w' = w1.setCell ⟨spb, 10, none⟩ (.pointer (some ⟨tb, 0, none⟩))
set_option maxRecDepth 100000 in
set_option maxHeartbeats 3200000 in
theorem fill_any (spb : Nat) (born stay : Nat) (pt : Value) (t L fr fd kp : Int) (x7 x8 x10 : Value) (w : World) (hs : w.heap[spb]? = some (.cells #[.int .i64 1, .int .i64 (born : Int), .int .i64 (stay : Int), .int .i64 0, .int .i64 0, .slice none 0 0, .string ⟨#[]⟩, x7, x8, .int .u32 0, x10, pt, .int .i32 t, .int .i64 L, .int .i64 fr, .int .i64 fd, .int .i64 kp] 74 (0, 0))) (hb : born ≤ 511) (ht : stay ≤ 511) :
  Calls Tryz.prog 29 #[.pointer (some ⟨spb, 0, none⟩)] w (FiP spb born stay w) := by
 have HS := hide' hs
 have TC := hide' (tableOf_any born stay 1 0 0 none 0 0 ⟨#[]⟩ w hb ht)
 have c0 := cell_of_row w spb 0 _ _ _ hs
 have c1 := cell_of_row w spb 1 _ _ _ hs
 have c2 := cell_of_row w spb 2 _ _ _ hs
 have c3 := cell_of_row w spb 3 _ _ _ hs
 have c4 := cell_of_row w spb 4 _ _ _ hs
 have c5 := cell_of_row w spb 5 _ _ _ hs
 have c6 := cell_of_row w spb 6 _ _ _ hs
 simp at c0 c1 c2 c3 c4 c5 c6
 clear hs hb ht
 go_enter Tryz.func29, Tryz.ntmps29
 go_wp2_with fail
 refine TC.out.mono ?_
 rintro o w1 ⟨tb, rfl, h1, h2, h3, h4⟩
 have S1 := (h4.block _ (lt_of_block HS.out)).trans HS.out
 have z := cell_of_row w1 spb 10 _ _ _ S1
 have y := frozen_of_row w1 spb 10 _ _ S1
 simp at z
 have FIN := hide' (show FiP spb born stay w (.returned (.tuple #[])) (w1.setCell ⟨spb, 10, none⟩ (.pointer (some ⟨tb, 0, none⟩))) from ⟨rfl, tb, w1, h4, h1, h2, h3, rfl⟩)
 clear h1 h2 h3 h4 S1 c0 c1 c2 c3 c4 c5 c6
 go_wp2
 go_end0
 exact FIN.out
set_option maxRecDepth 100000 in
set_option maxHeartbeats 1600000 in
theorem load_boolO (a : Addr) (w : World) (hc : w.cell? a = some (.int .u32 0)) : Calls Tryz.prog 54 #[.pointer (some a)] w fun e w' => e = .returned (.bool false) ∧ w' = w := by
 have hl := run_call_load (P := Tryz.prog) Tryz.func91 (by kernel_rfl) (by kernel_rfl) (by kernel_rfl) .u32 (by kernel_rfl) (w := w) (a := a) (x := 0) hc
 go_enter Tryz.func54, Tryz.ntmps54
 go_wp2
 go_ret
 exact ⟨rfl, rfl⟩
def DoP (spb born stay : Nat) (pt : Value) (t L fr fd kp : Int) (w : World) (e : Ending) (w' : World) : Prop := e = .returned (.tuple #[]) ∧ ∃ tb, w'.heap[spb]? = some (.cells #[.int .i64 1, .int .i64 (born : Int), .int .i64 (stay : Int), .int .i64 0, .int .i64 0, .slice none 0 0, .string ⟨#[]⟩, .int .u32 1, .int .i32 0, .int .u32 0, .pointer (some ⟨tb, 0, none⟩), pt, .int .i32 t, .int .i64 L, .int .i64 fr, .int .i64 fd, .int .i64 kp] 74 (0, 0)) ∧ TtA w' tb (fun c => tbE born stay c 4) ∧ w.heap.size ≤ tb ∧ tb < w'.heap.size ∧ (w'.os = w.os ∧ w'.tape = w.tape ∧ w'.output = w.output ∧ w.heap.size ≤ w'.heap.size) ∧ ∀ q, q < w.heap.size → q ≠ spb → w'.heap[q]? = w.heap[q]?
set_option maxRecDepth 100000 in
set_option maxHeartbeats 3200000 in
theorem slow_anyO (spb : Nat) (born stay : Nat) (pt : Value) (t L fr fd kp : Int) (x10 : Value) (w : World) (hs : w.heap[spb]? = some (.cells #[.int .i64 1, .int .i64 (born : Int), .int .i64 (stay : Int), .int .i64 0, .int .i64 0, .slice none 0 0, .string ⟨#[]⟩, .int .u32 0, .int .i32 0, .int .u32 0, x10, pt, .int .i32 t, .int .i64 L, .int .i64 fr, .int .i64 fd, .int .i64 kp] 74 (0, 0))) (hb : born ≤ 511) (ht : stay ≤ 511) :
  Calls Tryz.prog 55 #[.pointer (some ⟨spb, 7, none⟩), .func (.func 29) #[.pointer (some ⟨spb, 0, none⟩)] #[]] w (DoP spb born stay pt t L fr fd kp w) := by
 have HS := hide' hs
 have h8 := cell_of_row w spb 8 _ _ _ hs
 have f8 := frozen_of_row w spb 8 _ _ hs
 simp at h8
 have LC := hide' (lock_freeO ⟨spb, 8, none⟩ w h8 f8)
 obtain ⟨w1, hw1⟩ : ∃ x, w.setCell ⟨spb, 8, none⟩ (.int .i32 1) = x := ⟨_, rfl⟩
 rw [hw1] at LC
 have S1 := hide' (show w1.heap[spb]? = some (.cells #[.int .i64 1, .int .i64 (born : Int), .int .i64 (stay : Int), .int .i64 0, .int .i64 0, .slice none 0 0, .string ⟨#[]⟩, .int .u32 0, .int .i32 1, .int .u32 0, x10, pt, .int .i32 t, .int .i64 L, .int .i64 fr, .int .i64 fd, .int .i64 kp] 74 (0, 0)) by rw [← hw1, heap_setCell_same _ _ _ _ _ _ hs]; rfl)
 have E1 := hide' (show (w1.os = w.os ∧ w1.tape = w.tape ∧ w1.output = w.output ∧ w1.heap.size = w.heap.size) ∧ ∀ q, q ≠ spb → w1.heap[q]? = w.heap[q]? by rw [← hw1]; exact ⟨⟨rfl, rfl, rfl, World.size_setCell _ _ _⟩, fun q hq => Below.heap_setCell _ _ _ _ hq⟩)
 have h7 := cell_of_row w1 spb 7 _ _ _ S1.out
 simp at h7
 have LB := hide' (load_boolO ⟨spb, 7, none⟩ w1 h7)
 have FC := hide' (fill_any spb born stay pt t L fr fd kp _ _ _ w1 S1.out hb ht)
 have hnot : ∀ (x : Bool) (w : World), (Op.unary .not (.bool x)).run Tryz.prog w = .ok (.bool (!x)) w := fun _ _ => rfl
 clear hs hw1 hb ht h8 f8 h7
 go_enter_defers Tryz.func55, Tryz.ntmps55
 go_wp2_with (go_at_call 92; refine LC.out.mono ?_; rintro e w' ⟨rfl, e1⟩; rw [e1]; clear e1)
 go_wp2_with (go_at_call 54; refine LB.out.mono ?_; rintro e w' ⟨rfl, e1⟩; rw [e1]; clear e1)
 go_wp2_with (go_at_call 29; refine FC.out.mono ?_; rintro e w2 ⟨rfl, tb, w3, b3, t3, l3, m3, e2⟩; have E2 := hide' e2; clear e2)
 have e2 := E2.out
 have S3 := hide' ((b3.block spb (lt_of_block S1.out)).trans S1.out)
 have S2 := hide' (show w2.heap[spb]? = some (.cells #[.int .i64 1, .int .i64 (born : Int), .int .i64 (stay : Int), .int .i64 0, .int .i64 0, .slice none 0 0, .string ⟨#[]⟩, .int .u32 0, .int .i32 1, .int .u32 0, .pointer (some ⟨tb, 0, none⟩), pt, .int .i32 t, .int .i64 L, .int .i64 fr, .int .i64 fd, .int .i64 kp] 74 (0, 0)) by rw [e2, heap_setCell_same _ _ _ _ _ _ S3.out]; rfl)
 have sp := E1.out.1.2.2.2
 have FIN := hide' (show DoP spb born stay pt t L fr fd kp w (.returned (.tuple #[])) ((w2.drew.setCell ⟨spb, 7, none⟩ (.int .u32 1)).setCell ⟨spb, 8, none⟩ (.int .i32 0)) from by
  have lt : spb < w.heap.size := lt_of_block HS.out
  have sb : ∀ q, q ≠ spb → ((w2.drew.setCell ⟨spb, 7, none⟩ (.int .u32 1)).setCell ⟨spb, 8, none⟩ (.int .i32 0)).heap[q]? = w3.heap[q]? := fun q hq => by
   rw [Below.heap_setCell _ _ _ _ (by simpa using hq), Below.heap_setCell _ _ _ _ (by simpa using hq)]
   show w2.heap[q]? = _
   rw [e2, Below.heap_setCell _ _ _ _ (by simpa using hq)]
  have z : ((w2.drew.setCell ⟨spb, 7, none⟩ (.int .u32 1)).setCell ⟨spb, 8, none⟩ (.int .i32 0)).heap.size = w3.heap.size := by
   rw [World.size_setCell, World.size_setCell]
   show w2.heap.size = _
   rw [e2, World.size_setCell]
  have s7 : (w2.drew.setCell ⟨spb, 7, none⟩ (.int .u32 1)).heap[spb]? = some (.cells #[.int .i64 1, .int .i64 (born : Int), .int .i64 (stay : Int), .int .i64 0, .int .i64 0, .slice none 0 0, .string ⟨#[]⟩, .int .u32 1, .int .i32 1, .int .u32 0, .pointer (some ⟨tb, 0, none⟩), pt, .int .i32 t, .int .i64 L, .int .i64 fr, .int .i64 fd, .int .i64 kp] 74 (0, 0)) := by
   rw [heap_setCell_same _ _ _ _ _ _ (show w2.drew.heap[spb]? = _ from S2.out)]; rfl
  refine ⟨rfl, tb, by rw [heap_setCell_same _ _ _ _ _ _ s7]; rfl, ⟨fun c hc => (World.cell?_of_block (a := ⟨tb, c, none⟩) (sb tb (by omega))).trans (t3.cell c hc), t3.low⟩, by omega, by omega, ⟨?_, ?_, ?_, by have := b3.size; omega⟩, fun q h1 h2 => (sb q h2).trans ((b3.block q (by omega)).trans (E1.out.2 q h2))⟩
  ·show w2.os = _; rw [e2]; exact b3.os.trans E1.out.1.1
  ·show w2.tape = _; rw [e2]; exact b3.tape.trans E1.out.1.2.1
  ·show w2.output = _; rw [e2]; exact b3.output.trans E1.out.1.2.2.1)
 have g7 := cell_of_row w2 spb 7 _ _ _ S2.out
 have v7 := frozen_of_row w2 spb 7 _ _ S2.out
 have g8 := cell_of_row w2 spb 8 _ _ _ S2.out
 have v8 := frozen_of_row w2 spb 8 _ _ S2.out
 simp at g7 g8
 clear b3 t3 l3 m3 e2 sp
 go_wp2
 refine leaves_cons (f := 94) (args := #[.pointer (some ⟨spb, 7, none⟩), .bool true]) (by simp) (by simp [go_sem]) ?_
 refine (store_defO ⟨spb, 7, none⟩ (.int .u32 0) .returning w2 g7 v7).mono ?_
 rintro e u' w'' ⟨rfl, rfl, rfl⟩
 refine leaves_cons (f := 93) (args := #[.pointer (some ⟨spb, 8, none⟩)]) (by simp [settle]) (by simp [go_sem]) ?_
 refine (unlock_defO ⟨spb, 8, none⟩ _ _ ?_ (by simp [v8])).mono ?_
 ·refine (World.cell?_setCell_other _ ⟨spb, 7, none⟩ ⟨spb, 8, none⟩ _ (by simp)).trans ?_
  rw [World.cell?_drew]
  exact g8
 rintro e u' w'' ⟨rfl, rfl, rfl⟩
 simp [Leaves, settle, results, Tryz.results55]
 exact FIN.out
set_option maxRecDepth 100000 in
set_option maxHeartbeats 3200000 in
theorem do_anyO (spb : Nat) (born stay : Nat) (pt : Value) (t L fr fd kp : Int) (x10 : Value) (w : World) (hs : w.heap[spb]? = some (.cells #[.int .i64 1, .int .i64 (born : Int), .int .i64 (stay : Int), .int .i64 0, .int .i64 0, .slice none 0 0, .string ⟨#[]⟩, .int .u32 0, .int .i32 0, .int .u32 0, x10, pt, .int .i32 t, .int .i64 L, .int .i64 fr, .int .i64 fd, .int .i64 kp] 74 (0, 0))) (hb : born ≤ 511) (ht : stay ≤ 511) :
  Calls Tryz.prog 28 #[.pointer (some ⟨spb, 7, none⟩), .func (.func 29) #[.pointer (some ⟨spb, 0, none⟩)] #[]] w (DoP spb born stay pt t L fr fd kp w) := by
 have h7 := cell_of_row w spb 7 _ _ _ hs
 simp at h7
 have LB := hide' (load_boolO ⟨spb, 7, none⟩ w h7)
 have SL := hide' (slow_anyO spb born stay pt t L fr fd kp x10 w hs hb ht)
 have hnot : ∀ (x : Bool) (w : World), (Op.unary .not (.bool x)).run Tryz.prog w = .ok (.bool (!x)) w := fun _ _ => rfl
 clear hs hb ht h7
 go_enter Tryz.func28, Tryz.ntmps28
 go_wp2_with (go_at_call 54; refine LB.out.mono ?_; rintro e w' ⟨rfl, e1⟩; rw [e1]; clear e1)
 go_wp2_with fail
 refine SL.out.mono ?_
 rintro e w2 ⟨rfl, h2⟩
 go_wp2
 go_end0
 exact ⟨rfl, h2⟩
end Go.Proofs.YtemhcpldflcfbaaGreatDoor
