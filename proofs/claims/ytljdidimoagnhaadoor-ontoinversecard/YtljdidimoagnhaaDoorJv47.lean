/-
  What the last text of this claim leans on, part 47: Of8, Ll8.
-/
import Derived.Test.YtljdidimoagnhaaDoorJv46
namespace Go.Proofs.YtljdidimoagnhaaDoor
open Go.RowKit
set_option linter.unusedVariables false

theorem window_at (S long x : Nat) (W : World) (s2 : 2 ≤ S) (s4 : S ≤ 4) (hl : long ≤ 4096) (hx : x ≤ 100000) :
    Calls Tryd.prog 87 #[.int .i64 (S : Int), .int .i64 (long : Int), .int .i64 (x : Int)] W fun e W' => e = .returned (.slice (some ⟨W.heap.size, 0, none⟩) long long) ∧ Cel W' W.heap.size (winL S long x) ∧ Below W.heap.size W W' := by
  refine (Window_big S long x W s2 s4 hl hx).mono ?_
  rintro e W' ⟨rfl, h⟩
  refine ⟨rfl, ⟨h.lt, fun k hk => ?_, h.fz⟩, h.below⟩
  rw [winL_length] at hk
  obtain ⟨v, hv, hv'⟩ := h.cells k hk
  rw [winL_at hk, hv, hv' (Nat.zero_le _)]
theorem apply_at (S R long x L g : Nat) (T : List Int) (ta : Option Addr) (tn tc : Nat) (W : World) (hL : LineOk S R T) (hT : ArgP W T ta tn tc) (s0 : 0 < S) (hl : long ≤ 4096) (hLL : L = long - 2 * R) (hL0 : 0 < L) (hC : Cel W g (winL S long x)) :
    Calls Tryd.prog 51 #[.agg #[.int .i64 2, .int .i64 0, .int .i64 0, .int .i64 (S : Int), .int .i64 (R : Int), .slice ta tn tc, .string ⟨#[]⟩], .slice (some ⟨g, 0, none⟩) long long] W fun e W' => (∃ g' cap, e = .returned (.slice (some ⟨g', 0, none⟩) L cap) ∧ ∀ k, k < L → W'.cell? ⟨g', k, none⟩ = some (.int .i64 ((applyL S R T (winL S long x)).getD k 0))) ∧ Below W.heap.size W W' := by
  have h := refApply_any S R T ta tn tc (winL S long x) (some ⟨g, 0, none⟩) long W hL hT ⟨rfl, by rw [winL_length]; unfold maxLen; omega, fun k hk => ⟨g, 0, rfl, hC.lt, by
    have := hC.cells k hk
    rw [List.getD_eq_getElem?_getD, List.getElem?_eq_getElem hk] at this
    rw [Nat.zero_add]
    exact this⟩⟩ (winL_ok s0) (by rw [winL_length]; omega)
  rw [winL_length] at h
  refine h.mono ?_
  rintro e W' ⟨v, rfl, ht, hf, hb⟩
  refine ⟨?_, hb⟩
  have ll : (applyL S R T (winL S long x)).length = L := by rw [applyL_length, winL_length, hLL]
  rcases ht with ⟨e0, _⟩ | ⟨g', cap, rfl, hg, hc⟩
  · rw [e0] at ll; simp at ll; omega
  · refine ⟨g', cap, by rw [ll], fun k hk => ?_⟩
    rw [hc k (by omega), List.getD_eq_getElem?_getD, List.getElem?_eq_getElem (by omega)]
    rfl
theorem horner_facts {S R q : Nat} {T : List Int} (hL : LineOk S R T) (hT : T.length = S ^ (2 * R + 1)) (hE : S ^ (2 * q + 1) ≤ 4096) :
    ∃ od hr : Nat → Nat → Nat, (∀ x k, k < 2 * q + 1 → (applyL S R T (winL S (2 * q + 1 + 2 * R) x)).getD k 0 = ((od x k : Nat) : Int)) ∧ (∀ x k, k < 2 * q + 1 → od x k ≤ 4) ∧ (∀ x, hr x 0 = 0) ∧ (∀ x k, k < 2 * q + 1 → hr x (k + 1) = hr x k * S + od x k) ∧ (∀ x k, k ≤ 2 * q + 1 → hr x k ≤ 4096) ∧ (∀ x, hr x (2 * q + 1) = shortN S T x (2 * q + 1)) := by
  have s2 := hL.s2
  have s4 := hL.s4
  have hB : ∀ x k, k < 2 * q + 1 → 0 ≤ (applyL S R T (winL S (2 * q + 1 + 2 * R) x)).getD k 0 ∧ (applyL S R T (winL S (2 * q + 1 + 2 * R) x)).getD k 0 < (S : Int) := fun x k hk => by
    rw [apply_win (n := 0) (by omega) hT hk]
    exact cellsOk_at hL.ok (Nat.mod_lt _ (by rw [hT]; exact Nat.pow_pos (by omega)))
  have hW : ∀ x k, k ≤ 2 * q + 1 → 0 ≤ wn (S : Int) (fun t => (applyL S R T (winL S (2 * q + 1 + 2 * R) x)).getD t 0) 0 k := fun x k hk => wn_nonneg (by omega) fun d hd => by rw [Nat.zero_add]; exact (hB x d (by omega)).1
  refine ⟨fun x k => ((applyL S R T (winL S (2 * q + 1 + 2 * R) x)).getD k 0).toNat, fun x k => (wn (S : Int) (fun t => (applyL S R T (winL S (2 * q + 1 + 2 * R) x)).getD t 0) 0 k).toNat, fun x k hk => ?_, fun x k hk => ?_, fun x => rfl, fun x k hk => ?_, fun x k hk => ?_, fun x => ?_⟩
  · have := hB x k hk; dsimp only; omega
  · have := hB x k hk; dsimp only; omega
  · have h1 := hB x k hk
    have h2 := hW x k (by omega)
    have h3 := hW x (k + 1) hk
    show (wn (S : Int) _ 0 (k + 1)).toNat = _
    apply Int.ofNat_inj.1
    rw [Int.toNat_of_nonneg h3]
    push_cast
    rw [Int.toNat_of_nonneg h2, Int.toNat_of_nonneg h1.1, wn, Nat.zero_add]
  · have h1 := wn_lt (S := (S : Int)) (f := fun t => (applyL S R T (winL S (2 * q + 1 + 2 * R) x)).getD t 0) (i := 0) (m := k) (by omega) fun d hd => by rw [Nat.zero_add]; exact hB x d (by omega)
    have h2 : S ^ k ≤ S ^ (2 * q + 1) := Nat.pow_le_pow_right (by omega) hk
    have h3 : (S : Int) ^ k = ((S ^ k : Nat) : Int) := by push_cast; rfl
    rw [h3] at h1
    dsimp only
    omega
  · show (wn (S : Int) _ 0 (2 * q + 1)).toNat = _
    rw [at_short (n := 0) (by omega) hL.ok hT]
    simp
theorem keep_cell {w w' : World} {a : Addr} {v : Value} (hb : Below w.heap.size w w') (h : w.cell? a = some v) : w'.cell? a = some v := by
  have hlt : a.block < w.heap.size := by
    rcases Nat.lt_or_ge a.block w.heap.size with k | k
    · exact k
    · simp [World.cell?, Array.getElem?_eq_none k] at h
  exact (World.cell?_of_block (hb.block _ hlt)).trans h
def UndoneRef (u : Option (List Int)) (E : Nat) (w : World) (e : Ending) (w' : World) : Prop :=
  ((u = none ∧ e = .returned (.tuple #[.slice none 0 0, .bool false])) ∨ ∃ t g, u = some t ∧ e = .returned (.tuple #[.slice (some ⟨g, 0, none⟩) E E, .bool true]) ∧ Cel w' g t ∧ w.heap.size ≤ g) ∧ Below w.heap.size w w'

set_option maxRecDepth 100000 in
set_option maxHeartbeats 6400000 in
theorem refUndone_any (S R n q : Nat) (T : List Int) (ta : Option Addr) (tn tc : Nat) (w : World) (hL : LineOk S R T) (hT : ArgP w T ta tn tc) (hn : S ^ (2 * R) = n) (hn16 : n ≤ 16) (hE : S ^ (2 * q + 1) ≤ 4096) (hq : q ≤ 40) :
    Calls Tryd.prog 73 #[.agg #[.int .i64 2, .int .i64 0, .int .i64 0, .int .i64 (S : Int), .int .i64 (R : Int), .slice ta tn tc, .string ⟨#[]⟩], .int .i64 (q : Int)] w (UndoneRef (undoL S T (2 * q + 1) (S ^ (q + R)) (S ^ (2 * q + 1) * n)) (S ^ (2 * q + 1)) w) := by
  obtain ⟨w1, hw1⟩ : ∃ w1, w.alloc (.cells #[.int .i64 2, .int .i64 0, .int .i64 0, .int .i64 (S : Int), .int .i64 (R : Int), .slice ta tn tc, .string ⟨#[]⟩] 24) = w1 := ⟨_, rfl⟩
  have BB := hide' (show Below w.heap.size w w1 by rw [← hw1]; exact (Below.refl _ _).alloc (Nat.le_refl _) _)
  have RX := hide' (show RB w.heap.size S R (.slice ta tn tc) w1 by rw [← hw1]; exact RB.new w S R _ _)
  have AT := hide' hT
  have s2 := hL.s2
  have s4 := hL.s4
  have r10 := hL.r10
  have hpl : plc S R = n := by rw [plc_end (by omega), hn]
  have hsz : sizeV S q = S ^ (2 * q + 1) := by unfold sizeV; rw [if_pos hE]
  have hTl : T.length = S ^ (2 * R + 1) := hL.len
  have PL := hide' (fun (W : World) => refPlaces_any S R T ta tn tc W hL)
  have SZ := hide' (fun (W : World) => refSize S q W s2 s4 (by omega))
  rw [hpl] at PL
  rw [hsz] at SZ
  obtain ⟨od, hr, o1, o2, o3, o4, o5, o6⟩ := horner_facts (q := q) hL hTl hE
  obtain ⟨long, hlong⟩ : ∃ long, 2 * q + 1 + 2 * R = long := ⟨_, rfl⟩
  have WD := hide' (fun (x : Nat) (W : World) (hx : x ≤ 100000) => window_at S long x W s2 s4 (by omega) hx)
  have AP := hide' (fun (x g : Nat) (W : World) (h : ArgP W T ta tn tc) (hc : Cel W g (winL S long x)) => apply_at S R long x (2 * q + 1) g T ta tn tc W hL h (by omega) (by omega) (by omega) (by omega) hc)
  have MW := hide' (fun x => show (winL S long x).getD (q + R) 0 = ((x / S ^ (q + R) % S : Nat) : Int) by rw [winL_at (by omega), ← hlong, mid_win])
  rw [hlong] at o1
  have SL := hide' (show ∀ x, shortN S T x (2 * q + 1) < S ^ (2 * q + 1) from fun x => shortN_lt (by omega) hL.ok x _)
  have UL := hide' (show ∀ x t, undoL S T (2 * q + 1) (S ^ (q + R)) x = some t → t.length = S ^ (2 * q + 1) from fun x t h => undoL_length x t h)
  have UN := hide' (show ∀ x d, undoL S T (2 * q + 1) (S ^ (q + R)) x = none → undoL S T (2 * q + 1) (S ^ (q + R)) (x + d) = none from fun x d h => undoL_none h d)
  have U0 := hide' (show undoL S T (2 * q + 1) (S ^ (q + R)) 0 = some (List.replicate (S ^ (2 * q + 1)) (-1)) from rfl)
  have US := hide' (show ∀ x t, undoL S T (2 * q + 1) (S ^ (q + R)) x = some t → undoL S T (2 * q + 1) (S ^ (q + R)) (x + 1) = if t.getD (shortN S T x (2 * q + 1)) 0 ≠ -1 ∧ t.getD (shortN S T x (2 * q + 1)) 0 ≠ ((x / S ^ (q + R) % S : Nat) : Int) then none else some (t.set (shortN S T x (2 * q + 1)) ((x / S ^ (q + R) % S : Nat) : Int)) from fun x t h => by rw [undoL, h])
  generalize undoL S T (2 * q + 1) (S ^ (q + R)) = U at UL UN U0 US ⊢
  obtain ⟨sh, hsh⟩ : ∃ sh : Nat → Nat, ∀ x, shortN S T x (2 * q + 1) = sh x := ⟨fun x => shortN S T x (2 * q + 1), fun _ => rfl⟩
  simp only [hsh] at SL US o6
  clear hsh
  obtain ⟨E, hEE⟩ : ∃ E, S ^ (2 * q + 1) = E := ⟨_, rfl⟩
  obtain ⟨M, hMM⟩ : ∃ M, S ^ (q + R) = M := ⟨_, rfl⟩
  obtain ⟨zf, hzf⟩ : ∃ zf : Nat → Nat, ∀ x, x / M % S = zf x := ⟨fun x => x / M % S, fun _ => rfl⟩
  rw [hEE] at hE SL UL U0 SZ ⊢
  rw [hMM] at US MW
  simp only [hzf] at US MW
  have zl : ∀ x, zf x ≤ 4 := fun x => by rw [← hzf]; have := Nat.mod_lt (x / M) (show 0 < S by omega); omega
  obtain ⟨N, hN⟩ : ∃ N, E * n = N := ⟨_, rfl⟩
  have N6 : N ≤ 65536 := by rw [← hN]; exact Nat.mul_le_mul hE hn16
  have qN : (E : Int) * (n : Int) = (N : Int) := by rw [← hN]; simp
  rw [hN]
  obtain ⟨L, hLL⟩ : ∃ L, 2 * q + 1 = L := ⟨_, rfl⟩
  rw [hLL] at o1 o2 o4 o5 o6 AP
  have l1 : 2 * (q : Int) + 1 = (L : Int) := by omega
  have l2 : (L : Int) + 2 * (R : Int) = (long : Int) := by omega
  have l3 : q + R < long := by omega
  have l4 : long ≤ 200 := by omega
  have l5 : L ≤ 100 := by omega
  obtain ⟨mi, hmi⟩ : ∃ mi, q + R = mi := ⟨_, rfl⟩
  have l6 : (q : Int) + (R : Int) = (mi : Int) := by omega
  rw [hmi] at MW l3
  have hmk := run_make_row' (P := Tryd.prog) 22 3 (.int .i64 0) 8 Tryd.underlying22 info_int rfl .i64 .i64 E (by omega) (by omega)
  have O1 := hide' o1
  have O2 := hide' o2
  have O3 := hide' o3
  have O4 := hide' o4
  have O5 := hide' o5
  have O6 := hide' o6
  have ZL := hide' zl
  clear hEE hMM hN hL hT hn o1 o2 o3 o4 o5 o6 hzf zl hlong hLL hmi hTl hpl hsz
  obtain ⟨x0, x1, x2, x3, x4, x5, x6⟩ := RX.out
  go_enter Tryd.func73, Tryd.ntmps73
  go_wp2_with fail
  refine (SZ.out _).mono ?_
  rintro e w2 ⟨rfl, rfl⟩
  go_wp2_with fail
  refine (PL.out _).mono ?_
  rintro e w2 ⟨rfl, b2⟩
  have P0 := hide' (show QS w (w2.alloc (.cells (madeCells #[.int .i64 0] E) 3)) S R (.slice ta tn tc) w2.heap.size (List.replicate E 0) from ⟨(RX.out.next b2).alloc _, (BB.out.trans (b2.mono BB.out.size)).alloc (Nat.le_trans BB.out.size b2.size) _, Cel.made w2 E _, Nat.lt_of_lt_of_le RX.out.lt b2.size⟩)
  obtain ⟨g, hg⟩ : ∃ g, w2.heap.size = g := ⟨_, rfl⟩
  rw [hg] at P0
  clear x0 x1 x2 x3 x4 x5 x6 hw1 b2 RX BB SZ PL
  go_wp2
  try rw [hg]
  go_loopw [9] (fun iv wr => ∃ i : Nat, iv = .int .i64 (i : Int) ∧ i ≤ E ∧ Hid (QS w wr S R (.slice ta tn tc) g (mixL (List.replicate E (-1)) (List.replicate E 0) i))) (fun iv _ => E - (intOf iv).toNat)
  case atStart => exact ⟨0, rfl, by omega, hide' (by rw [mixL_zero]; exact P0.out)⟩
  case round =>
    clear P0 hg
    obtain ⟨i, rfl, hi, HH⟩ := hrel
    by_cases d : (i : Int) < (E : Int)
    · have HC := HH.out.cl.cells i (by rw [mixL_length]; simp; omega)
      have HF := HH.out.cl.fz i
      go_wp2
      refine ⟨⟨i + 1, by go_num, by omega, hide' ?_⟩, by simp [intOf]; omega⟩
      have := HH.out.set i (-1) (by rw [mixL_length]; simp; omega)
      rw [mixL_set _ _ _ (show (List.replicate E (-1 : Int)).getD i 0 = -1 by simp [List.getD, show i < E by omega])] at this
      exact this
    · have P1 := hide' (show QS w wr S R (.slice ta tn tc) g (List.replicate E (-1)) by
        have := HH.out
        rw [show i = (List.replicate E (0 : Int)).length by simp; omega, mixL_full _ _ (by simp)] at this
        exact this)
      clear HH
      obtain ⟨x0, x1, x2, x3, x4, x5, x6⟩ := P1.out.rb
      go_wp2
      clear x0 x1 x2 x3 x4 x5 x6
      go_loopw [11] (fun iv wr => ∃ (x : Nat) (t : List Int), iv = .int .i64 (x : Int) ∧ x ≤ N ∧ Hid (U x = some t ∧ QS w wr S R (.slice ta tn tc) g t)) (fun iv _ => N - (intOf iv).toNat)
      case atStart => exact ⟨0, _, rfl, by omega, hide' ⟨U0.out, P1.out⟩⟩
      case round =>
        clear P1
        obtain ⟨x, t, rfl, hx, H1⟩ := hrel
        by_cases d : (x : Int) < (N : Int)
        · obtain ⟨x0, x1, x2, x3, x4, x5, x6⟩ := H1.out.2.rb
          go_wp2_with fail
          refine (WD.out x _ (by omega)).mono ?_
          rintro e w3 ⟨rfl, c3, b3⟩
          have H3 := hide' (show QS w w3 S R (.slice ta tn tc) g t from H1.out.2.below b3)
          have C3 := hide' c3
          obtain ⟨gw, hgw⟩ : ∃ gw, wr.heap.size = gw := ⟨_, rfl⟩
          rw [hgw] at C3
          rw [hgw]
          clear x0 x1 x2 x3 x4 x5 x6 c3 b3
          obtain ⟨x0, x1, x2, x3, x4, x5, x6⟩ := H3.out.rb
          go_wp2_with fail
          refine (AP.out x gw _ (AT.out.below H3.out.bl) C3.out).mono ?_
          rintro e w4 ⟨⟨go, cap, rfl, hc4⟩, b4⟩
          have H4 := hide' (show QS w w4 S R (.slice ta tn tc) g t from H3.out.below b4)
          have C4 := hide' (C3.out.below b4)
          have A4 := hide' (show ∀ k, k < L → w4.cell? ⟨go, k, none⟩ = some (.int .i64 ((od x k : Nat) : Int)) from fun k hk => by rw [hc4 k hk, O1.out x k hk])
          clear x0 x1 x2 x3 x4 x5 x6 hc4 b4 hgw H3 C3
          go_wp2
          go_loopw [14, 15] (fun av kv wr => ∃ k a : Nat, av = .int .i64 (a : Int) ∧ kv = .int .i64 (k : Int) ∧ k ≤ L ∧ a ≤ 4096 ∧ Hid (a = hr x k ∧ Below w4.heap.size w4 wr)) (fun _ kv _ => L - (intOf kv).toNat)
          case atStart => exact ⟨0, 0, rfl, rfl, by omega, by omega, hide' ⟨(O3.out x).symm, Below.refl _ _⟩⟩
          case round =>
            obtain ⟨k, a, rfl, rfl, hk, ha, HA⟩ := hrel
            obtain ⟨x0, x1, x2, x3, x4, x5, x6⟩ := H4.out.rb.next HA.out.2
            by_cases dk : (k : Int) < (L : Int)
            · have kL : k < L := by omega
              have ck : wr.cell? ⟨go, k, none⟩ = some (.int .i64 ((od x k : Nat) : Int)) := (keep_cell HA.out.2 (A4.out k kL))
              obtain ⟨y, hy⟩ : ∃ y, od x k = y := ⟨_, rfl⟩
              rw [hy] at ck
              have yl : y ≤ 4 := by rw [← hy]; exact O2.out x k kL
              obtain ⟨aS, haS⟩ : ∃ aS, a * S = aS := ⟨_, rfl⟩
              have aSl : aS ≤ 16384 := by rw [← haS]; exact Nat.mul_le_mul ha s4
              have m1 : (a : Int) * (S : Int) = (aS : Int) := by rw [← haS]; simp
              obtain ⟨a', ha'⟩ : ∃ a', aS + y = a' := ⟨_, rfl⟩
              have m2 : (aS : Int) + (y : Int) = (a' : Int) := by omega
              have HX := hide' (show a' = hr x (k + 1) by rw [O4.out x k kL, ← HA.out.1, haS, hy, ha'])
              have a'l : a' ≤ 4096 := by rw [HX.out]; exact O5.out x (k + 1) kL
              clear hy haS ha'
              go_wp2
              go_region
              go_wp2
              exact ⟨⟨k + 1, a', by go_num, by go_num, by omega, by omega, hide' ⟨HX.out, HA.out.2.drew⟩⟩, by simp [intOf]; omega⟩
            · have HB := hide' (show a = sh x by rw [HA.out.1, ← O6.out x, show k = L by omega])
              have H5 := hide' (H4.out.below HA.out.2)
              have C5 := hide' (C4.out.below HA.out.2)
              have cw : wr.cell? ⟨gw, mi, none⟩ = some (.int .i64 ((zf x : Nat) : Int)) := by rw [C5.out.cells mi (by rw [winL_length]; exact l3), MW.out]
              have zS : zf x ≤ 4 := ZL.out x
              have bE : a < E := by rw [HB.out]; exact SL.out x
              have US1 := hide' (US.out x t H1.out.1)
              have TL := hide' (UL.out x t H1.out.1)
              rw [← HB.out] at US1
              obtain ⟨z, hz⟩ : ∃ z, zf x = z := ⟨_, rfl⟩
              rw [hz] at US1 cw zS
              obtain ⟨v, hv⟩ : ∃ v, t.getD a 0 = v := ⟨_, rfl⟩
              have cv := H5.out.cl.cells a (by rw [TL.out]; exact bE)
              have cf := H5.out.cl.fz a
              rw [hv] at cv US1
              clear hv hz HB HA H4 C4 A4
              by_cases dv : v = -1
              · have NX := hide' (show U (x + 1) = some (t.set a (z : Int)) by rw [US1.out, if_neg (fun q => q.1 dv)])
                have ev : (v != -1) = false := by simp [dv]
                have eq1 : (v == -1) = true := by simp [dv]
                clear dv US1
                go_wp2
                (try (go_region; go_wp2))
                exact ⟨⟨x + 1, t.set a (z : Int), by go_num, by omega, hide' ⟨NX.out, by first | exact H5.out.set a _ (by rw [TL.out]; exact bE) | exact H5.out.drew.set a _ (by rw [TL.out]; exact bE)⟩⟩, by simp [intOf]; omega⟩
              · by_cases dz : v = (z : Int)
                · have NX := hide' (show U (x + 1) = some (t.set a (z : Int)) by rw [US1.out, if_neg (fun q => q.2 dz)])
                  have ev : (v != -1) = true := by simp [dv]
                  have ez : (v != (z : Int)) = false := by simp [dz]
                  clear dv dz US1
                  go_wp2
                  (try (go_region; go_wp2))
                  exact ⟨⟨x + 1, t.set a (z : Int), by go_num, by omega, hide' ⟨NX.out, by first | exact H5.out.set a _ (by rw [TL.out]; exact bE) | exact H5.out.drew.set a _ (by rw [TL.out]; exact bE)⟩⟩, by simp [intOf]; omega⟩
                · have NX := hide' (show U (x + 1) = none by rw [US1.out, if_pos ⟨dv, dz⟩])
                  have FI := hide' (show U N = none by have := UN.out (x + 1) (N - (x + 1)) NX.out; rw [show x + 1 + (N - (x + 1)) = N by omega] at this; exact this)
                  have ev : (v != -1) = true := by simp [dv]
                  have ez : (v != (z : Int)) = true := by simp [dz]
                  clear dv dz US1
                  go_wp2
                  (try (go_region; go_wp2))
                  go_ret2
                  first | exact ⟨Or.inl ⟨FI.out, rfl⟩, H5.out.bl⟩ | exact ⟨Or.inl ⟨FI.out, rfl⟩, H5.out.bl.drew⟩
        · have E1 := hide' (show U N = some t by rw [show N = x by omega]; exact H1.out.1)
          have H2 := hide' H1.out.2
          clear H1
          go_wp2
          go_ret2
          exact ⟨Or.inr ⟨t, g, E1.out, rfl, H2.out.cl, Nat.le_of_lt H2.out.lt⟩, H2.out.bl⟩
end Go.Proofs.YtljdidimoagnhaaDoor

namespace Go.Proofs.YtljdidimoagnhaaDoor
open Go.RowKit
set_option linter.unusedVariables false

set_option maxRecDepth 100000 in
set_option maxHeartbeats 6400000 in
theorem refWiden (S R K : Nat) (Ta : List Int) (ta : Option Addr) (na ca : Nat) (w : World) (hLa : LineOk S R Ta) (hTa : ArgP w Ta ta na ca) (hk : R ≤ K) (hsz : S ^ (2 * K + 1) ≤ 4096) :
    Calls Tryd.prog 59 #[.agg #[.int .i64 2, .int .i64 0, .int .i64 0, .int .i64 (S : Int), .int .i64 (R : Int), .slice ta na ca, .string ⟨#[]⟩], .int .i64 (K : Int)] w (RuleRef S K (madeL S K fun ds => (applyL S R Ta ((ds.drop (K - R)).take (2 * R + 1))).getD 0 0) w) := by
  obtain ⟨i0, hi, hz0, hz1, hz2⟩ := info_parts info_int
  have ra10 := hLa.r10
  have s2 := hLa.s2
  have s4 := hLa.s4
  have k10 : K ≤ 10 := pow_small s2 hsz
  obtain ⟨M, hM⟩ : ∃ M, K - R = M := ⟨_, rfl⟩
  have q1 : (K : Int) - (R : Int) = (M : Int) := by omega
  have HMe := hide' (show K = R + M by omega)
  have m1 : M ≤ 10 := by omega
  obtain ⟨FF, hFF⟩ : ∃ FF : List Int → Int, (fun ds : List Int => (applyL S R Ta ((ds.drop M).take (2 * R + 1))).getD 0 0) = FF := ⟨_, rfl⟩
  have FH := hide' hFF
  rw [hM, hFF]
  obtain ⟨N, hN⟩ : ∃ N, S ^ (2 * K + 1) = N := ⟨_, rfl⟩
  have NE := hide' hN
  have SV := hide' (show sizeV S K = N by unfold sizeV; rw [if_pos hsz, hN])
  have n4 : N ≤ 4096 := by rw [← hN]; exact hsz
  obtain ⟨L, hL⟩ : ∃ L, 2 * K + 1 = L := ⟨_, rfl⟩
  have HLe := hide' hL
  have q3 : 2 * (K : Int) + 1 = (L : Int) := by omega
  obtain ⟨H, hH⟩ : ∃ H, L - M = H := ⟨_, rfl⟩
  have q4 : (L : Int) - (M : Int) = (H : Int) := by omega
  have HHe := hide' (show H - M = 2 * R + 1 by omega)
  have v1 : ¬ L = M := by omega
  have v2 : H ≤ L := by omega
  have v3 : M ≤ H := by omega
  have v4 : L ≤ 21 := by omega
  have u1 : IntKind.i64.wrap (M : Int) = (M : Int) := wrap_natL M (by omega)
  have u2 : IntKind.i64.wrap (H : Int) = (H : Int) := wrap_natL H (by omega)
  have u3 : IntKind.i64.wrap (L : Int) = (L : Int) := wrap_natL L (by omega)
  obtain ⟨out, hout⟩ : ∃ out, madeL S K FF = out := ⟨_, rfl⟩
  have OUT := hide' hout
  have OL := hide' (show out.length = N by rw [← hout, madeL_length, hN])
  rw [hout]
  obtain ⟨w3, hw3⟩ : ∃ w3, (w.alloc (.cells #[.int .i64 2, .int .i64 0, .int .i64 0, .int .i64 (S : Int), .int .i64 (R : Int), .slice ta na ca, .string ⟨#[]⟩] 24)).alloc (.cells #[.int .i64 0, .int .i64 0, .int .i64 0, .int .i64 0, .int .i64 0, .slice none 0 0, .string ⟨#[]⟩] 24) = w3 := ⟨_, rfl⟩
  have z3 : w3.heap.size = w.heap.size + 2 := by rw [← hw3]; simp
  obtain ⟨w0, hw0⟩ : ∃ w0, w3.alloc (.cells #[.int .i64 2, .int .i64 0, .int .i64 0, .int .i64 (S : Int), .int .i64 (K : Int), .slice none 0 0, .string ⟨#[]⟩] 24) = w0 := ⟨_, rfl⟩
  have B3 := hide' (show Below w.heap.size w w3 by rw [← hw3]; exact ((Below.refl _ _).alloc (Nat.le_refl _) _).alloc (by simp) _)
  have b0 := hide' (show Below w3.heap.size w3 w0 by rw [← hw0]; exact (Below.refl _ _).alloc (Nat.le_refl _) _)
  have B0 := hide' (B3.out.trans (b0.out.mono B3.out.size))
  have ZZ := hide' (show ZB (w.heap.size + 1) w0 by
    have h := ZB.new (w.alloc (.cells #[.int .i64 2, .int .i64 0, .int .i64 0, .int .i64 (S : Int), .int .i64 (R : Int), .slice ta na ca, .string ⟨#[]⟩] 24)) 24
    rw [World.size_alloc, hw3] at h
    exact h.next b0.out)
  have XA3 := hide' (show RB w.heap.size S R (.slice ta na ca) w3 by
    have h := RB.new w S R (.slice ta na ca) 24
    rw [← hw3]
    exact h.block (Below.heap_alloc _ _ _ (by simp)))
  have XA := hide' (XA3.out.next b0.out)
  have M0 := hide' (show CM w0 w0 (w.heap.size + 2) S K (.slice none 0 0) (out.take 0) by rw [← hw0]; exact CM.start w3 _ S K z3 _)
  have ATa := hide' (hTa.below B0.out)
  have TBa := hide' (hTa.blk (by have := hTa.len; have := hLa.pos; omega))
  have HLa := hide' hLa
  have HW0 := hide' hw0
  clear hLa hTa hsz hFF hN hL hout hw0 hH hM
  obtain ⟨x0, x1, x2, x3, x4, x5, x6⟩ := XA3.out
  go_enter Tryd.func59, Tryd.ntmps59
  obtain ⟨y0, y1, y2, y3, y4, y5, y6⟩ := (show RB w.heap.size S R (.slice ta na ca) (w3.alloc (.cells #[.int .i64 2, .int .i64 0, .int .i64 0, .int .i64 (S : Int), .int .i64 (K : Int), .slice none 0 0, .string ⟨#[]⟩] 24)) from XA3.out.alloc _)
  go_wp2_with fail
  rw [HW0.out]
  clear hw3
  refine (refSize S K _ s2 s4 (by omega)).mono ?_
  rw [SV.out]
  rintro e w4 ⟨rfl, rfl⟩
  clear x0 x1 x2 x3 x4 x5 x6 y0 y1 y2 y3 y4 y5 y6
  go_wp2
  go_loopw [7] (fun iv wr => ∃ (i : Nat) (v : Value), iv = .int .i64 (i : Int) ∧ i ≤ N ∧ CM w4 wr (w.heap.size + 2) S K v (out.take i)) (fun iv _ => N - (intOf iv).toNat)
  case atStart => exact ⟨0, _, rfl, by omega, M0.out⟩
  case round =>
    obtain ⟨i, v, rfl, hi', cm⟩ := hrel
    have MM := hide' cm
    have hle : (out.take i).length = i := by rw [List.length_take]; have := OL.out; omega
    have HLI := hide' hle
    obtain ⟨sa, sc, e0⟩ := ownsRow_len cm.own
    rw [hle] at e0
    subst e0
    clear cm M0 hle
    by_cases d : (i : Int) < (N : Int)
    · obtain ⟨x, hx⟩ : ∃ x, out.getD i 0 = x := ⟨_, rfl⟩
      have TN := hide' (take_next (xs := out) (i := i) (by have := OL.out; omega) hx)
      have VAL := hide' (show (applyL S R Ta (((spellL S L i).drop M).take (2 * R + 1))).getD 0 0 = x by rw [← hx, ← OUT.out, madeL_at S K FF (by rw [NE.out]; omega), ← FH.out, HLe.out])
      clear hx
      obtain ⟨x0, x1, x2, x3, x4, x5, x6⟩ := XA.out.block (MM.out.below.block _ (by omega))
      go_wp2_with fail
      refine (Window_ref S L i _ s2 s4 (by omega) (by omega)).mono ?_
      rintro e w5 ⟨rfl, fd⟩
      have C5 := hide' (spell_win S L i fd)
      have b5 := fd.below
      have M5 := hide' (MM.out.next b5)
      have s5 := b5.size
      clear fd x0 x1 x2 x3 x4 x5 x6
      have BW5 := hide' (M5.out.below)
      obtain ⟨x0, x1, x2, x3, x4, x5, x6⟩ := XA.out.block (BW5.out.block _ (by omega))
      have AT5 := hide' (show ArgP w5 Ta ta na ca from below_arg ATa.out TBa.out BW5.out (by omega))
      have D0 := hide' (show Below w5.heap.size w5 w5.drew from (Below.refl _ _).drew)
      obtain ⟨xs, hxs⟩ : ∃ xs, ((spellL S L i).drop M).take (2 * R + 1) = xs := ⟨_, rfl⟩
      have XL := hide' (show xs.length = H - M by rw [← hxs, HHe.out]; simp [spellL_length]; have := HLe.out; have := HMe.out; omega)
      have AW := hide' (show ArgP w5 xs (some ⟨wr.heap.size, M, none⟩) xs.length (L - M) by
        rw [XL.out, ← hxs, HHe.out]
        exact C5.out.mid (by rw [spellL_length]; have := HLe.out; have := HMe.out; omega) (by unfold maxLen; omega))
      have OX := hide' (show cellsOk S xs by rw [← hxs]; exact mid_ok (spellL_ok S L i s2) M _)
      rw [hxs] at VAL
      have YL := hide' (show (applyL S R Ta xs).length = 1 by rw [applyL_length, XL.out, HHe.out]; omega)
      have KA := hide' (show Calls Tryd.prog 51 #[.agg #[.int .i64 2, .int .i64 0, .int .i64 0, .int .i64 (S : Int), .int .i64 (R : Int), .slice ta na ca, .string ⟨#[]⟩], .slice (some ⟨wr.heap.size, M, none⟩) (H - M) (L - M)] w5.drew (ListRef (applyL S R Ta xs) w5.drew) by
        have h := refApply_any S R Ta ta na ca xs (some ⟨wr.heap.size, M, none⟩) (L - M) w5.drew HLa.out (AT5.out.below D0.out) (AW.out.below D0.out) OX.out (by rw [XL.out]; omega)
        rw [XL.out] at h
        exact h)
      clear b5 hxs
      go_wp2
      go_region_with
        (go_at_call 51; refine KA.out.mono ?_; rintro e w7 ⟨v7, rfl, t7, -, b7⟩; obtain ⟨a7, c7, rfl, p7⟩ := t7.argL (by rw [YL.out]; unfold maxLen; omega); rw [YL.out] at p7 ⊢; obtain ⟨g7, o7, rfl, k7⟩ := p7.at (k := 0) (by omega); rw [VAL.out, Nat.add_zero] at k7; have M7 := hide' ((M5.out.next D0.out).next b7); have hz7 := M7.out.sz; have d5 := M7.out.rb.c5; have y5 := M7.out.fz 5; have HO := hide' M7.out.own; have d6 : ∀ x, (w7.alloc x).cell? ⟨w.heap.size + 2, 5, none⟩ = some (.slice sa i sc) := fun x => (World.cell?_alloc_lt w7 x ⟨w.heap.size + 2, 5, none⟩ (by simp; omega)).trans d5; clear t7 p7 b7)
      all_goals
        clear x0 x1 x2 x3 x4 x5 x6
        go_wp2
        go_region_law (refine step_append_lies _ (by rfl) _ _ _ (by rfl) (w.heap.size + 2 + 1) 3 i0 _ 1 8 Tryd.underlying22 hi hz0 hz1 hz2 rfl (by omega) (.slice sa i sc) _ _ (by rfl) ((HO.out.alloc _).drew) ⟨w7.heap.size, 0, none⟩ 1 1 [.int .i64 x] (by rfl) (by rfl) (World.news_of_block (cs := #[.int .i64 x]) (t := 3) (fr := (0, 0)) (heap_alloc_new w7 _)) (by simp [Value.oneCell']) (by omega) (by rw [HLI.out]; unfold maxLen; omega) (by rw [HLI.out]; omega) (by simp; omega) (w7.heap.size + 1) (by simp) ?_; intro gg cap w8 hown1 hgrow hat hlt; have z5 := (M7.out.mid (grownBy_drew hgrow)).1; have z6 := (M7.out.mid (grownBy_drew hgrow)).2)
        all_goals
          go_wp2
          have hp := M7.out.push (grownBy_drew hgrow) hown1
          rw [HLI.out] at hp
          refine ⟨⟨i + 1, .slice (some ⟨gg, 0, none⟩) (i + 1) cap, by go_num, by omega, ?_⟩, by simp [intOf]; omega⟩
          rw [TN.out]
          have mm : min i out.length = i := by have := OL.out; omega
          rw [mm]
          exact hp
    · obtain ⟨c0, c1, c2, c3, c4, c5, c6⟩ := MM.out.rb
      have TK := hide' (show out.take i = out by rw [show i = out.length by have := OL.out; omega, List.take_length])
      have zb := ZZ.out.block (MM.out.below.block _ (by omega))
      obtain ⟨r0, r1, r2, r3, r4, r5, r6, rf⟩ := zb
      have f0 := rf 0
      have f1 := rf 1
      have f2 := rf 2
      have f3 := rf 3
      have f4 := rf 4
      have f5 := rf 5
      have f6 := rf 6
      have BF := hide' (B0.out.trans (MM.out.below.mono (by omega)))
      have ho := MM.out.own
      rw [TK.out] at ho
      have HO := hide' ho
      clear rf ho
      go_wp2
      refine bodyPost_ret (v := .agg #[.int .i64 2, .int .i64 0, .int .i64 0, .int .i64 (S : Int), .int .i64 (K : Int), .slice sa i sc, .string ⟨#[]⟩]) (by simp [results, Tryd.results59, go_sem, r0, r1, r2, r3, r4, r5, r6]) rfl ?_
      obtain ⟨a9, c9, e9, rd9⟩ := own_reads HO.out
      have hb9 := ownsRow_lt HO.out
      injection e9 with e1 e2 e3
      subst e1 e3
      refine ⟨sa, sc, by rw [e2], reads_of_block rd9 (fun g eg => seven_heap _ _ _ _ _ _ _ _ _ _ (by have := (hb9 g (by rw [eg]; rfl)).1; omega)), fun g eg => by have := (hb9 g (by rw [eg]; rfl)).1; omega, seven_below BF.out (by omega) _ _ _ _ _ _ _⟩
end Go.Proofs.YtljdidimoagnhaaDoor

