/-
  What the last text of this claim leans on, part 20: Wi3, Rk2.
-/
import Derived.Test.YtjngjnkecnnmeaaDoorJb16
import Derived.Test.YtjngjnkecnnmeaaDoorJb17
import Derived.Test.YtjngjnkecnnmeaaDoorJb19
import Derived.Test.YtjngjnkecnnmeaaDoorJb3
namespace Go.Proofs.YtjngjnkecnnmeaaDoor
open Go.RowKit
set_option linter.unusedVariables false

theorem refTurn_any (p : Pat) (k : Nat) (a : Option Addr) (c : Nat) (w : World) (hP : ArgP w p.xs a p.xs.length c) (hp : p.ok) (lW : p.W ≤ 100) (lH : p.H ≤ 100) (hk : k < 8) :
    Calls Tryd.prog 38 #[.agg #[.int .i64 (p.W : Int), .int .i64 (p.H : Int), .slice a p.xs.length c], .int .i64 (k : Int)] w (TurnedPost (p.turn k) w) := by
  rw [turn_is p hp k hk]
  obtain ⟨W, H, xs⟩ := p
  rcases (by omega : k = 0 ∨ k = 1 ∨ k = 2 ∨ k = 3 ∨ k = 4 ∨ k = 5 ∨ k = 6 ∨ k = 7) with rfl | rfl | rfl | rfl | rfl | rfl | rfl | rfl
  · exact refTurn_0 W H xs a _ c w hP lW lH hp
  · exact refTurn_1 W H xs a _ c w hP lW lH hp
  · exact refTurn_2 W H xs a _ c w hP lW lH hp
  · exact refTurn_3 W H xs a _ c w hP lW lH hp
  · exact refTurn_4 W H xs a _ c w hP lW lH hp
  · exact refTurn_5 W H xs a _ c w hP lW lH hp
  · exact refTurn_6 W H xs a _ c w hP lW lH hp
  · exact refTurn_7 W H xs a _ c w hP lW lH hp
def RefCanonPost (p : Pat) (w : World) (e : Ending) (w' : World) : Prop :=
  ∃ v, e = .returned (.agg #[.int .i64 ((canonP p).W : Int), .int .i64 ((canonP p).H : Int), v]) ∧ Tab w' v (canonP p).xs ∧ Fresh w v ∧ Below w.heap.size w w'

set_option maxRecDepth 100000 in
set_option maxHeartbeats 1600000 in
theorem refCanon (W H : Nat) (xs : List Int) (a : Option Addr) (n c : Nat) (w : World) (hP : ArgP w xs a n c) (lW : W ≤ 100) (lH : H ≤ 100) (hn : n = W * H) :
    Calls Tryd.prog 37 #[.agg #[.int .i64 (W : Int), .int .i64 (H : Int), .slice a n c]] w (RefCanonPost ⟨W, H, xs⟩ w) := by
  have AP0 := hide' ((hP.alloc (.cells #[.int .i64 (W : Int), .int .i64 (H : Int), .slice a n c] 51)).alloc (.cells #[.int .i64 0, .int .i64 0, .slice none 0 0] 51))
  have RX0 := TB.new (w.alloc (.cells #[.int .i64 (W : Int), .int .i64 (H : Int), .slice a n c] 51)) (.int .i64 0) (.int .i64 0) (.slice none 0 0) 51
  rw [World.size_alloc] at RX0
  have RX := hide' RX0
  have HN := hide' hn
  have FQ0 := hide' (trim_fits ⟨W, H, xs⟩ lW lH)
  obtain ⟨q, hq⟩ : ∃ q, (trimP ⟨W, H, xs⟩).1 = q := ⟨_, rfl⟩
  have HQ := hide' hq
  have CP := hide' (show canonP ⟨W, H, xs⟩ = bestP q 7 by unfold canonP; rw [hq])
  rw [hq] at FQ0
  have FQ := FQ0
  clear hP RX0 hn hq FQ0
  go_enter Tryd.func37, Tryd.ntmps37
  go_wp2_with fail
  refine (refTrim W H xs a n c _ AP0.out lW lH HN.out).mono ?_
  rintro e w1 ⟨va, rfl, ta, fr, b1⟩
  rw [HQ.out] at ta ⊢
  have hz1 := b1.size
  simp only [World.size_alloc] at hz1
  have C0 := hide' (CN.start (RX.out.next b1) ta (fun g k c e => by have := fr g k c e; simp only [World.size_alloc] at this; omega) (show Below w.heap.size w w1 from (((Below.refl _ _).alloc (Nat.le_refl _) _).alloc (by simp) _).trans (b1.mono (by simp only [World.size_alloc]; omega))) (by omega) 51 51)
  obtain ⟨aa, ca, rfl, -⟩ := ta.arg FQ.out.max
  obtain ⟨l0, hl0⟩ : ∃ x, (trimP ⟨W, H, xs⟩).2.1 = x := ⟨_, rfl⟩
  obtain ⟨t0, ht0⟩ : ∃ x, (trimP ⟨W, H, xs⟩).2.2 = x := ⟨_, rfl⟩
  rw [hl0, ht0]
  clear ta fr b1 hl0 ht0
  go_wp2
  go_loopw [7] (fun kv wr => ∃ (m : Nat) (v : Value), kv = .int .i64 (m : Int) ∧ 1 ≤ m ∧ m ≤ 8 ∧ CN w wr w1.heap.size q (bestP q (m - 1)) (.slice aa q.xs.length ca) v) (fun kv _ => 8 - (intOf kv).toNat)
  case atStart => exact ⟨1, _, rfl, by omega, by omega, C0.out⟩
  case round =>
    obtain ⟨m, vb, rfl, hm1, hm8, cn⟩ := hrel
    have FB := hide' (best_fits FQ.out (m - 1) (by omega))
    have B1 := hide' (fun h => best_yes (q := q) hm1 h)
    have B2 := hide' (fun h => best_no (q := q) hm1 h)
    obtain ⟨b, hb⟩ : ∃ b, bestP q (m - 1) = b := ⟨_, rfl⟩
    have HB := hide' hb
    rw [hb] at cn FB B1 B2
    obtain ⟨ab, cb, rfl, -⟩ := cn.tb.arg FB.out.max
    have CNH := hide' cn
    clear C0 hb
    by_cases d : (m : Int) < 8
    · have FT := hide' (turn_fits FQ.out m (by omega))
      obtain ⟨_, _, e0, ap⟩ := cn.ta.arg FQ.out.max
      injection e0 with e1 _ e2
      subst e1 e2
      have AP := hide' ap
      obtain ⟨x0, x1, x2, -⟩ := cn.qb
      clear cn ap
      go_wp2_with fail
      refine (refTurn_any q m _ _ _ AP.out FQ.out.ok FQ.out.w FQ.out.h (by omega)).mono ?_
      rintro e w2 ⟨v2, rfl, tb2, fr2, b2⟩
      have hzr := CNH.out.sz
      have hlo := CNH.out.lo
      have hz2 := b2.size
      obtain ⟨t, ht⟩ : ∃ t, q.turn m = t := ⟨_, rfl⟩
      rw [ht] at FT B1 B2 tb2 ⊢
      obtain ⟨a2, c2, rfl, -⟩ := tb2.arg FT.out.max
      have NV := hide' (fun g k c e => (⟨by have := fr2 g k c e; omega, by have := fr2 g k c e; omega⟩ : w.heap.size + 2 ≤ g ∧ g ≠ w1.heap.size + 1))
      have C2 := hide' ((CNH.out.next b2).next ((Below.refl _ _).alloc (Nat.le_refl _) (.cells #[.int .i64 (t.W : Int), .int .i64 (t.H : Int), .slice a2 t.xs.length c2] 51)))
      have T2 := hide' (tb2.nextB ((Below.refl _ _).alloc (Nat.le_refl _) (.cells #[.int .i64 (t.W : Int), .int .i64 (t.H : Int), .slice a2 t.xs.length c2] 51)))
      have X2 := hide' (TB.new w2 (.int .i64 (t.W : Int)) (.int .i64 (t.H : Int)) (.slice a2 t.xs.length c2) 51)
      obtain ⟨y0, y1, y2, -⟩ := C2.out.fb
      obtain ⟨z0, z1, z2, -⟩ := X2.out
      have hsz2 : (w2.alloc (.cells #[.int .i64 (t.W : Int), .int .i64 (t.H : Int), .slice a2 t.xs.length c2] 51)).heap.size = w2.heap.size + 1 := by simp
      have HT := hide' ht
      obtain ⟨_, _, e0, ap2⟩ := T2.out.arg FT.out.max
      injection e0 with e1 _ e2
      subst e1 e2
      obtain ⟨_, _, e0, apb⟩ := C2.out.tb.arg FB.out.max
      injection e0 with e1 _ e2
      subst e1 e2
      have AP2 := hide' ap2
      have APB := hide' apb
      clear x0 x1 x2 b2 tb2 fr2 ht ap2 apb
      go_wp2_with fail
      refine (ahead_any t b _ _ _ _ _ AP2.out APB.out FT.out.ok FB.out.ok FT.out.w FT.out.h).mono ?_
      rintro e w4 ⟨rfl, b4⟩
      have C4 := hide' (C2.out.next b4)
      have T4 := hide' (T2.out.nextB b4)
      obtain ⟨z0, z1, z2, -⟩ := X2.out.next b4
      obtain ⟨y0, y1, y2, yf⟩ := C4.out.fb
      have g0 := yf 0
      have g1 := yf 1
      have g2 := yf 2
      clear b4 yf
      by_cases i1 : cmpP t b < 0
      · have E := hide' (B1.out i1)
        have k1 : aheadB t b = true := by simp [aheadB, i1]
        clear i1
        go_wp2
        refine ⟨⟨m + 1, .slice a2 t.xs.length c2, by go_num, by omega, by omega, ?_⟩, by simp [intOf]; omega⟩
        rw [Nat.add_sub_cancel, E.out]
        exact C4.out.put t _ T4.out NV.out
      · have E := hide' (B2.out (by omega))
        have k1 : aheadB t b = false := by simp [aheadB]; omega
        clear i1
        go_wp2
        refine ⟨⟨m + 1, .slice ab b.xs.length cb, by go_num, by omega, by omega, ?_⟩, by simp [intOf]; omega⟩
        rw [Nat.add_sub_cancel, E.out]
        exact C4.out
    · have E := hide' (show bestP q 7 = b by rw [← HB.out, show m - 1 = 7 by omega])
      obtain ⟨y0, y1, y2, -⟩ := cn.fb
      obtain ⟨r0, r1, r2, rf⟩ := cn.rb
      have f0 := rf 0
      have f1 := rf 1
      have f2 := rf 2
      clear cn rf
      go_wp2
      refine bodyPost_ret (v := .agg #[.int .i64 (b.W : Int), .int .i64 (b.H : Int), .slice ab b.xs.length cb]) (by simp [results, Tryd.results37, go_sem, r0, r1, r2]) rfl ?_
      have hn2 := CNH.out.nb
      refine ⟨.slice ab b.xs.length cb, by rw [CP.out, E.out], ?_, fun g k c e => by have := hn2 g k c e; omega, ((CNH.out.below.setCell (by simp) _).setCell (by simp) _).setCell (by simp) _⟩
      rw [CP.out, E.out]
      exact CNH.out.tb.keep (by simp) (fun g k c e => stored_blk _ _ _ _ _ _ (by have := hn2 g k c e; omega))
end Go.Proofs.YtjngjnkecnnmeaaDoor

namespace Go.Proofs.YtjngjnkecnnmeaaDoor
open Go.RowKit

set_option maxHeartbeats 800000 in
theorem life_no (b : Nat) (s : ByteArray) (w : World) (h : At b s 1 w) (hs : s.size ≤ maxLen) (h1 : 1 ≤ s.size) (a : Nat) (hno : lifeS s = .inr a) :
    Calls Tryd.prog 140 #[.pointer (some ⟨b, 0, none⟩)] w fun e w' => e = .panicked oops ∧ At b s a w' ∧ Rd b w w' := by
  unfold lifeS at hno
  have H0 : Hid (At b s 1 w) := h
  clear h
  cases hA : inR s (ris s 1).2 47 47 with
  | false =>
    simp [hA] at hno
    subst hno
    go_enter Tryd.func140, Tryd.ntmps140
    go_wp2_with fail
    refine (bits_any b s 1 _ (H0.out.alloc _) hs h1).mono ?_
    rintro e w1 ⟨rfl, a1, r1, l1⟩
    have A1 := hide a1
    clear a1
    go_wp2_with fail
    refine (expect_no b s (ris s 1).2 47 _ A1.out l1 hA).mono ?_
    rintro e w2 ⟨rfl, a2, r2⟩
    go_wp2
    exact ⟨rfl, rfl, a2, (r1.trans r2).un⟩
  | true =>
  cases hB : inR s ((ris s 1).2 + 1) 83 83 with
  | false =>
    simp [hA, hB] at hno
    subst hno
    have hb1 := (inR_true.1 hA).1
    go_enter Tryd.func140, Tryd.ntmps140
    go_wp2_with fail
    refine (bits_any b s 1 _ (H0.out.alloc _) hs h1).mono ?_
    rintro e w1 ⟨rfl, a1, r1, l1⟩
    have A1 := hide a1
    clear a1
    go_wp2_with fail
    refine (expect_yes b s (ris s 1).2 47 _ A1.out hs hA).mono ?_
    rintro e w2 ⟨rfl, a2, r2⟩
    have A2 := hide a2
    clear a2
    go_wp2_with fail
    refine (expect_no b s ((ris s 1).2 + 1) 83 _ A2.out (by omega) hB).mono ?_
    rintro e w3 ⟨rfl, a3, r3⟩
    go_wp2
    exact ⟨rfl, rfl, a3, ((r1.trans r2).trans r3).un⟩
  | true => simp [hA, hB] at hno

set_option maxHeartbeats 400000 in
theorem numbered_no (b : Nat) (s : ByteArray) (w : World) (h : At b s 1 w) (hs : s.size ≤ maxLen) (h1 : 1 ≤ s.size) (a : Nat) (hno : numberedS s = .inr a) :
    Calls Tryd.prog 141 #[.pointer (some ⟨b, 0, none⟩)] w fun e w' => e = .panicked oops ∧ At b s a w' ∧ Rd b w w' := by
  unfold numberedS at hno
  have H0 : Hid (At b s 1 w) := h
  clear h
  cases hA : numOk s 1 0 255 with
  | true => simp [hA] at hno
  | false =>
    simp [hA] at hno
    subst hno
    go_enter Tryd.func141, Tryd.ntmps141
    go_wp2_with fail
    refine (number_no b s 1 0 255 0 255 _ (H0.out.alloc _) hs h1 rfl rfl (by omega) hA).mono ?_
    rintro e w1 ⟨rfl, a1, r1⟩
    go_wp2
    exact ⟨rfl, rfl, a1, r1.un⟩

theorem num_le (s : ByteArray) (i least most : Nat) (h : numOk s i least most = true) : (num s i).1 ≤ most ∧ least ≤ (num s i).1 := by
  simp [numOk] at h
  omega

theorem i64_and_nat (a b : Nat) (ha : a < 4294967296) (hb : b < 4294967296) : bits .and .i64 (a : Int) (b : Int) = ((a &&& b : Nat) : Int) := by
  have hx : a &&& b < 2 ^ 32 := Nat.and_lt_two_pow _ (by omega)
  show IntKind.i64.wrap ((BitVec.ofInt 64 (a : Int) &&& BitVec.ofInt 64 (b : Int)).toNat : Int) = _
  rw [BitVec.toNat_and, ofInt_u64 a (by omega), ofInt_u64 b (by omega)]
  simp [IntKind.wrap, IntKind.bits, IntKind.signed]
  omega

theorem and_bit (n k : Nat) (hn : n ≤ 255) : bits BinOp.and IntKind.i64 ((n : Int) / 2 ^ k) 1 = bitOf n k := by
  rw [show ((n : Int) / 2 ^ k) = ((n / 2 ^ k : Nat) : Int) by simp]
  have hl : n / 2 ^ k ≤ n := Nat.div_le_self _ _
  have := i64_and_nat (n / 2 ^ k) 1 (by omega) (by omega)
  simp only [Nat.and_one_is_mod] at this
  exact this

set_option maxHeartbeats 1000000 in
theorem numbered_any (b : Nat) (s : ByteArray) (w : World) (h : At b s 1 w) (hs : s.size ≤ maxLen) (h1 : 1 ≤ s.size) (o : Out) (p : Nat) (hok : numberedS s = .inl (o, p)) :
    Calls Tryd.prog 141 #[.pointer (some ⟨b, 0, none⟩)] w fun e w' => ∃ v, e = .returned (o.val v) ∧ Tab w' v o.table ∧ Fresh w v ∧ At b s p w' ∧ Rd b w w' ∧ p ≤ s.size := by
  unfold numberedS at hok
  cases hA : numOk s 1 0 255 with
  | false => simp [hA] at hok
  | true =>
  simp [hA] at hok
  obtain ⟨rfl, rfl⟩ := hok
  have H0 : Hid (At b s 1 w) := h
  have hlt := h.lt
  clear h
  have hn := (num_le s 1 0 255 hA).1
  obtain ⟨N, hN⟩ : ∃ N, N = entOf 2 1 := ⟨_, rfl⟩
  have hN8 : N = 8 := hN.trans (by decide)
  have hNl : N ≤ 8 := by omega
  have hmk := run_make_row' (P := Tryd.prog) 22 3 (.int .i64 0) 8 Tryd.underlying22 info_int rfl .i64 .i64 N (by omega) (by omega)
  have HN := hide hN
  have HN8 := hide hN8
  clear hN hN8
  go_enter Tryd.func141, Tryd.ntmps141
  go_wp2_with fail
  refine (number_ok b s 1 0 255 0 255 _ (H0.out.alloc _) hs h1 rfl rfl (by omega) hA).mono ?_
  rintro e w1 ⟨rfl, a1, r1, l1⟩
  have A1 := hide a1
  have L1 := hide l1
  clear a1 l1
  go_wp2_with fail
  refine (entries_any 2 1 2 1 _ rfl rfl (by omega) (by omega) (by omega)).mono ?_
  rw [← unhide HN]
  rintro e w2 ⟨rfl, rfl⟩
  have hz : w.heap.size + 1 ≤ w2.heap.size := by have := r1.size; simpa using this
  have hb2 : b < w2.heap.size := by omega
  have F0 := hide (Fill.start w2 N (bitOf (num s 1).1) (.int .i64 0) 3)
  have A2 := hide (A1.out.alloc (.cells (madeCells #[.int .i64 0] N) 3))
  have R2 := hide (show Rd b (w.alloc (.cells zeroCells 24)) (w2.alloc (.cells (madeCells #[.int .i64 0] N) 3)) from Rd.alloc r1 _)
  clear r1
  go_wp2
  go_loopw [12] (fun iv wr => ∃ k : Nat, iv = .int .i64 (k : Int) ∧ k ≤ N ∧ Fill w2.heap.size N k (bitOf (num s 1).1) wr ∧ At b s (num s 1).2 wr ∧ Rd b (w.alloc (.cells zeroCells 24)) wr) (fun iv _ => N - (intOf iv).toNat)
  case atStart => exact ⟨0, rfl, by omega, F0.out, A2.out, R2.out⟩
  case round =>
    obtain ⟨k, rfl, hk, fk, ak, rk⟩ := hrel
    clear hmk
    have FK := hide fk
    have AK := hide ak
    have RK := hide rk
    by_cases hkN : (k : Int) < (N : Int)
    · obtain ⟨v, hv, -⟩ := fk.cells k (by omega)
      have hf := fk.fz k
      clear fk ak rk
      go_wp2
      rw [show bits BinOp.and IntKind.i64 (((num s 1).1 : Int) / 2 ^ k) 1 = bitOf (num s 1).1 k from and_bit _ _ hn]
      exact ⟨⟨k + 1, by go_num, by omega, FK.out.step (by omega), AK.out.setOther (p := ⟨w2.heap.size, k, none⟩) (by simp; omega) _, RK.out.setNew (p := ⟨w2.heap.size, k, none⟩) (by simp; omega) _⟩, by simp [intOf]; omega⟩
    · obtain ⟨hc, hf⟩ := rk.made hlt
      have c0 := hc 0
      have c1 := hc 1
      have c2 := hc 2
      have c3 := hc 3
      have c4 := hc 4
      have c5 := hc 5
      have c6 := hc 6
      simp [zeroCells] at c0 c1 c2 c3 c4 c5 c6
      have HK : Hid (k = N) := (by omega : k = N)
      clear hc fk ak rk
      go_wp2
      refine bodyPost_ret (v := Out.val ⟨2, 0, 0, 2, 1, (List.range 8).map (bitOf (num s 1).1), ⟨#[]⟩⟩ (.slice (some ⟨w2.heap.size, 0, none⟩) N N)) (by simp [results, Tryd.results141, go_sem, Out.val, c0, c1, c2, c3, c4, c5, c6]) rfl ?_
      refine ⟨_, rfl, ?_, Fresh.mk (by omega), set7_at AK.out (by omega), set7_rd RK.out.un (by omega), L1.out⟩
      have ff := FK.out
      rw [HK.out] at ff
      have t := ff.tab (cap := N)
      show Tab _ _ ((List.range 8).map (bitOf (num s 1).1))
      rw [show (List.range 8) = List.range N by rw [HN8.out]]
      have hne : ∀ g c, Value.slice (some ⟨w2.heap.size, 0, none⟩) N N = .slice (some ⟨g, 0, none⟩) ((List.range N).map (bitOf (num s 1).1)).length c → g ≠ w.heap.size := by
        intro g c q; injection q with q1; injection q1 with q2; injection q2 with q3; omega
      exact ((((((t.other _ hne).other _ hne).other _ hne).other _ hne).other _ hne).other _ hne).other _ hne
end Go.Proofs.YtjngjnkecnnmeaaDoor

