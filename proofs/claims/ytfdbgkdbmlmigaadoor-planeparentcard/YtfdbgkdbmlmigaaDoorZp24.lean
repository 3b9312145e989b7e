/-
  What the last text of this claim leans on, part 24: Ps3.
-/
import Derived.Test.YtfdbgkdbmlmigaaDoorZp23
namespace Go.Proofs.YtfdbgkdbmlmigaaDoor
open Go.RowKit
set_option linter.unusedVariables false
theorem FiOk.n49 {C : FiC} (O : FiOk C) : C.N ≤ 49 := by
  rw [O.n, O.w2, O.h2]
  exact Nat.mul_le_mul (show C.W + 2 ≤ 7 by have := O.w5; omega) (show C.H + 2 ≤ 7 by have := O.h5; omega)
theorem wrap_nearS {x : Int} (h1 : -1000000000 ≤ x) (h2 : x ≤ 1000000000) : IntKind.i64.wrap x = x := by simp [IntKind.wrap, IntKind.bits, IntKind.signed]; omega
theorem becN_le' {born stay W2 X2 Y2 : Nat} {g : Nat → Nat} : midP born stay g W2 X2 Y2 ≤ 1 := by
  unfold midP becN bitN
  split <;> omega
/-- Between the two tries of a place. -/
def InvS (C : FiC) (p P1 t S : Nat) (g : Nat → Nat) (bv : Nat → Value) (tb : Nat → Nat) (c : Nat) (wr : World) (g' : Nat → Nat) (bv' : Nat → Value) (tb' : Nat → Nat) : Prop := FiS C wr g' bv' tb' ∧ (∀ i, i < p → g' i = g i) ∧ bv' p = .slice (some ⟨t, 0, none⟩) S S ∧ tb' p = t ∧ (∀ j, j < c → C.ok (updB g p j) p → NoneB C.N C.ok (updB g p j) P1) ∧ (∀ i, i < p → bv' i = bv i ∧ tb' i = tb i)
theorem upd_same {g g' : Nat → Nat} {p c : Nat} (ag : ∀ i, i < p → g' i = g i) : ∀ i, i < p + 1 → updB g' p c i = updB g p c i := fun i hi => by
  unfold updB
  split
  · rfl
  · exact ag i (by omega)
theorem InvS.no {C : FiC} {p P1 t S : Nat} {g : Nat → Nat} {bv : Nat → Value} {tb : Nat → Nat} {c : Nat} {wr : World} {g' : Nat → Nat} {bv' : Nat → Value} {tb' : Nat → Nat} (h : InvS C p P1 t S g bv tb c wr g' bv' tb') {X1 : World} (F : FiS C X1 (updB g' p c) bv' tb') (hk : ¬ C.ok (updB g p c) p) : InvS C p P1 t S g bv tb (c + 1) X1 (updB g' p c) bv' tb' := by
  obtain ⟨_, ag, e1, e2, non, kp⟩ := h
  refine ⟨F, fun i hi => by rw [upd_same ag i (by omega)]; simp [updB, show i ≠ p by omega], e1, e2, fun j hj ok => ?_, kp⟩
  by_cases q : j = c
  · subst q; exact absurd ok hk
  · exact non j (by omega) ok
theorem InvS.none {C : FiC} {p P1 t S : Nat} {g : Nat → Nat} {bv : Nat → Value} {tb : Nat → Nat} {c : Nat} {wr : World} {g' : Nat → Nat} {bv' : Nat → Value} {tb' : Nat → Nat} (h : InvS C p P1 t S g bv tb c wr g' bv' tb') (hP : P1 = p + 1) {X1 : World} {g2 : Nat → Nat} {bv2 : Nat → Value} {tb2 : Nat → Nat} (F : FiS C X1 g2 bv2 tb2) (k2 : ∀ i, i < P1 → bv2 i = bv' i ∧ tb2 i = tb' i) (a2 : ∀ i, i < P1 → g2 i = updB g' p c i) (n2 : NoneB C.N C.ok (updB g' p c) P1) : InvS C p P1 t S g bv tb (c + 1) X1 g2 bv2 tb2 := by
  obtain ⟨_, ag, e1, e2, non, kp⟩ := h
  refine ⟨F, fun i hi => by rw [a2 i (by omega), upd_same ag i (by omega)]; simp [updB, show i ≠ p by omega], (k2 p (by omega)).1.trans e1, (k2 p (by omega)).2.trans e2, fun j hj ok => ?_, fun i hi => ⟨(k2 i (by omega)).1.trans (kp i hi).1, (k2 i (by omega)).2.trans (kp i hi).2⟩⟩
  by_cases q : j = c
  · subst q; exact none_from (fun i hi => upd_same ag i (by omega)) n2
  · exact non j (by omega) ok
theorem InvS.best {C : FiC} {p P1 t S : Nat} {g : Nat → Nat} {bv : Nat → Value} {tb : Nat → Nat} {c : Nat} {wr : World} {g' : Nat → Nat} {bv' : Nat → Value} {tb' : Nat → Nat} (h : InvS C p P1 t S g bv tb c wr g' bv' tb') (hP : P1 = p + 1) (hp : p < C.N) (c1 : c ≤ 1) {X1 : World} {g2 : Nat → Nat} {bv2 : Nat → Value} {tb2 : Nat → Nat} (F : FiS C X1 g2 bv2 tb2) (k2 : ∀ i, i < P1 → bv2 i = bv' i ∧ tb2 i = tb' i) (hk : C.ok (updB g p c) p) (b2 : BestB C.N C.ok (updB g' p c) P1 g2) : SetOut C p g bv tb (.returned (.bool true)) X1 := by
  obtain ⟨_, ag, e1, e2, non, kp⟩ := h
  refine ⟨g2, bv2, tb2, F, fun i hi => ⟨(k2 i (by omega)).1.trans (kp i hi).1, (k2 i (by omega)).2.trans (kp i hi).2⟩, Or.inl ⟨rfl, ?_⟩⟩
  have b3 := best_from (h := updB g p c) (fun i hi => upd_same ag i (by omega)) b2
  subst hP
  rcases Nat.eq_zero_or_pos c with q | q
  · subst q; exact best_zero (okP_loc _ _ _ _ _) hp hk b3
  · obtain rfl : c = 1 := by omega
    exact best_one (okP_loc _ _ _ _ _) hp (fun h => non 0 (by omega) h) hk b3
set_option maxRecDepth 100000 in
set_option maxHeartbeats 12800000 in
theorem set_a (C : FiC) (O : FiOk C) (V : World) (g : Nat → Nat) (bv : Nat → Value) (tb : Nat → Nat) (h : FiS C V g bv tb) (p P1 : Nat) (hp : p < C.N) (hP : P1 = p + 1) (hv : bv p ≠ .slice none 0 0)
    (ih : ∀ V g bv tb, FiS C V g bv tb → Calls Tryd.prog 11 #[.pointer (some ⟨C.fb, 0, none⟩), .int .i64 (P1 : Int)] V (SetOut C P1 g bv tb)) :
    Calls Tryd.prog 11 #[.pointer (some ⟨C.fb, 0, none⟩), .int .i64 (p : Int)] V (SetOut C p g bv tb) := by
  have HPP := hide' hP
  obtain ⟨f12, f13, f14⟩ := h.fcell
  have HS := hide' h
  have N49 := O.n49
  have w7 : C.W2 ≤ 7 := by have := O.w2; have := O.w5; omega
  have KY := hide' (key_any C.fb C.qb C.N C.W2 p g V f14 f12 (fun i hi => h.qcell (by omega)) (fun i hi => h.bit i (by omega)) (by omega) N49 w7)
  have np : ¬ (p : Int) = (C.N : Int) := by omega
  have np2 : ¬ p = C.N := by omega
  have IH := hide' ih
  obtain ⟨S, hS⟩ : ∃ S, 2 ^ C.m = S := ⟨_, rfl⟩
  obtain ⟨t, ht⟩ : ∃ t, tb p = t := ⟨_, rfl⟩
  have bp : V.cell? ⟨C.bb, p, none⟩ = some (.slice (some ⟨t, 0, none⟩) S S) := by
    rw [h.bcell hp]
    rcases h.tab p hp with e | ⟨e, _⟩
    · exact absurd e hv
    · rw [e, ht, hS]
  have KB := hide' (show kyN g (2 * C.W2 + 2) p (2 * C.W2 + 2) < S by rw [← hS]; exact kyN_lt (fun i hi => h.bit i (by omega)) _ (Nat.le_refl _))
  have HK := hide' (show ∃ d : Nat → Bool, V.heap[t]? = some (.cells (arrF S fun i => .bool (d i)) 4 (0, 0)) ∧ ∀ i, i < S → d i = true → DeadT C.N C.ok C.m p i from by
    rcases h.tab p hp with e | ⟨_, _, d, e1, e2⟩
    · exact absurd e hv
    · rw [ht, hS] at e1; rw [hS] at e2; exact ⟨d, e1, e2⟩)
  obtain ⟨k, hk⟩ : ∃ k, kyN g (2 * C.W2 + 2) p (2 * C.W2 + 2) = k := ⟨_, rfl⟩
  rw [hk] at KY KB
  have HHK := hide' hk
  obtain ⟨d, hd1, hd2⟩ := HK.out
  have HD1 := hide' hd1
  have HD2 := hide' hd2
  have ct : V.cell? ⟨t, k, none⟩ = some (.bool (d k)) := by rw [cell_of_row V _ k _ _ _ hd1, arrF_get _ KB.out]
  have S16 := hide' (show S ≤ 65536 by rw [← hS]; unfold FiC.m; exact Nat.le_trans (Nat.pow_le_pow_right (by omega) (show 2 * C.W2 + 2 ≤ 16 by omega)) (by omega))
  have HT := hide' ht
  have HSS := hide' hS
  have HV := hide' hv
  have OO := hide' O
  clear h ih hv hk hd1 hd2 HK ht hS O hP
  have q95 : ∀ (w : World) (a : Option Addr) (n c n' c' : Nat), (binOp .eql 54 (.slice a n c) (.slice none n' c')).run Tryd.prog w = .ok (.bool a.isNone) w := fun w a n c n' c' => Lib.run_eql_slice_nil w _ _ a n c n' c' Tryd.underlying54
  go_enter Tryd.func11, Tryd.ntmps11
  go_wp2_with fail
  refine KY.out.mono ?_
  rintro e w2 ⟨rfl, he, b⟩
  have HS2 := hide' (HS.out.heap he b)
  obtain ⟨f12', f13', f14'⟩ := HS2.out.fcell
  have bp2 : w2.cell? ⟨C.bb, p, none⟩ = some (.slice (some ⟨t, 0, none⟩) S S) := by
    rw [← bp]; simp only [World.cell?, he]
  have ct2 : w2.cell? ⟨t, k, none⟩ = some (.bool (d k)) := by
    rw [← ct]; simp only [World.cell?, he]
  have hpN : (p : Int) < (C.N : Int) := by omega
  have kS : (k : Int) < (S : Int) := by have := KB.out; omega
  have kS2 := KB.out
  have S16' := S16.out
  clear f12 f13 f14 bp ct
  cases hdk : d k with
  | true =>
    rw [hdk] at ct2
    go_wp2
    go_ret
    exact ⟨g, bv, tb, HS2.out, fun _ _ => ⟨rfl, rfl⟩, Or.inr ⟨rfl, fun _ _ => rfl, HD2.out k KB.out hdk g (fun i hi => HS2.out.bit i (by omega)) HHK.out⟩⟩
  | false =>
    rw [hdk] at ct2
    obtain ⟨X, hX⟩ : ∃ X, p % C.W2 = X := ⟨_, rfl⟩
    obtain ⟨Y, hY⟩ : ∃ Y, p / C.W2 = Y := ⟨_, rfl⟩
    have eX : (p : Int) % (C.W2 : Int) = (X : Int) := by rw [← hX]; simp
    have eY : (p : Int) / (C.W2 : Int) = (Y : Int) := by rw [← hY]; simp
    have w0 : ¬ C.W2 = 0 := by have := OO.out.w2; omega
    have w0' : ¬ (C.W2 : Int) = 0 := by omega
    have Y49 : Y ≤ 49 := by rw [← hY]; exact Nat.le_trans (Nat.div_le_self _ _) (by omega)
    have X7 : X < C.W2 := by rw [← hX]; exact Nat.mod_lt _ (by omega)
    have HXY := hide' (And.intro hX hY)
    have PXY := hide' (show p = Y * C.W2 + X by rw [← hX, ← hY, Nat.mul_comm]; exact (Nat.div_add_mod _ _).symm)
    have INV0 := hide' (show FiS C w2 g bv tb ∧ (∀ i, i < p → g i = g i) ∧ bv p = .slice (some ⟨t, 0, none⟩) S S ∧ tb p = t ∧ (∀ j, j < 0 → C.ok (updB g p j) p → NoneB C.N C.ok (updB g p j) P1) ∧ (∀ i, i < p → bv i = bv i ∧ tb i = tb i) from ⟨HS2.out, fun _ _ => rfl, by
      have h2 := HS2.out.bcell hp
      rw [bp2] at h2
      exact (Option.some.inj h2).symm, HT.out, fun j hj => by omega, fun _ _ => ⟨rfl, rfl⟩⟩)
    clear hX hY
    go_wp2
    rw [eX]
    clear f12' f13' f14' bp2 ct2 b he eX eY
    go_loopw [10] (fun cv wr => ∃ (c : Nat) (g' : Nat → Nat) (bv' : Nat → Value) (tb' : Nat → Nat), cv = .int .i64 (c : Int) ∧ c ≤ 2 ∧ Hid (InvS C p P1 t S g bv tb c wr g' bv' tb')) (fun cv _ => 2 - (intOf cv).toNat)
    case atStart => exact ⟨0, g, bv, tb, rfl, by omega, hide' ⟨INV0.out.1, fun _ _ => rfl, INV0.out.2.2.1, INV0.out.2.2.2.1, fun j hj => by omega, fun _ _ => ⟨rfl, rfl⟩⟩⟩
    case round =>
      obtain ⟨c, g', bv', tb', rfl, hc, INV⟩ := hrel
      by_cases dc : (c : Int) < 2
      · have c1 : c ≤ 1 := by omega
        have F := INV.out.1
        obtain ⟨f12, f13, f14⟩ := F.fcell
        have qp := F.qcell hp
        have qf := frozen_of_row wr _ p _ _ F.cel
        have FP := hide' (F.put hp c1)
        obtain ⟨X1, hX1⟩ : ∃ X1, wr.setCell ⟨C.qb, p, none⟩ (.int .i64 (c : Int)) = X1 := ⟨_, rfl⟩
        rw [hX1] at FP
        have HX1 := hide' hX1
        have eP : (p : Int) + 1 = (P1 : Int) := by have := HPP.out; omega
        clear F hX1
        by_cases x2 : (2 : Int) ≤ (X : Int)
        · by_cases y2 : (2 : Int) ≤ (Y : Int)
          · obtain ⟨X2, hX2⟩ : ∃ X2, X = X2 + 2 := ⟨X - 2, by omega⟩
            obtain ⟨Y2, hY2⟩ : ∃ Y2, Y = Y2 + 2 := ⟨Y - 2, by omega⟩
            obtain ⟨L, hL⟩ : ∃ L, Y2 * C.W = L := ⟨_, rfl⟩
            obtain ⟨L1, hL1⟩ : ∃ L1, L + X = L1 := ⟨_, rfl⟩
            obtain ⟨I, hI⟩ : ∃ I, L + X2 = I := ⟨_, rfl⟩
            have xW : X2 < C.W := by have := OO.out.w2; omega
            have yH : Y2 < C.H := by
              have h1 : Y < C.H2 := by
                rw [← HXY.out.2]
                exact Nat.div_lt_of_lt_mul (by rw [← OO.out.n]; exact hp)
              have := OO.out.h2
              omega
            have I1 : I < C.W * C.H := by
              have := Nat.mul_le_mul_right C.W (show Y2 + 1 ≤ C.H by omega)
              rw [Nat.add_mul, Nat.one_mul, Nat.mul_comm C.H] at this
              omega
            have I25 : C.W * C.H ≤ 25 := Nat.mul_le_mul OO.out.w5 OO.out.h5
            have pnl : C.pn = C.W * C.H := OO.out.arg.len.trans OO.out.xl
            obtain ⟨z, hz⟩ : ∃ z, C.xs.getD I 0 = z := ⟨_, rfl⟩
            obtain ⟨pg, po, epa, -, -⟩ := OO.out.arg.cells I (by rw [OO.out.xl]; exact I1)
            have SV1 := hide' (fun (V : World) (h : FiS C V (updB g' p c) bv' tb') => show V.cell? ⟨C.fb, 0, none⟩ = some (.int .i64 C.k) ∧ V.cell? ⟨C.fb, 1, none⟩ = some (.int .i64 (C.born : Int)) ∧ V.cell? ⟨C.fb, 2, none⟩ = some (.int .i64 (C.stay : Int)) ∧ V.cell? ⟨C.fb, 3, none⟩ = some (.int .i64 C.st) ∧ V.cell? ⟨C.fb, 4, none⟩ = some (.int .i64 C.ra) ∧ V.cell? ⟨C.fb, 5, none⟩ = some (.slice C.ta C.tn C.tc) ∧ V.cell? ⟨C.fb, 6, none⟩ = some (.string C.s) ∧ V.cell? ⟨C.fb, 10, none⟩ = some (.int .i64 (C.W2 : Int)) ∧ V.cell? ⟨C.fb, 11, none⟩ = some (.int .i64 (C.H2 : Int)) ∧ V.cell? ⟨C.fb, 12, none⟩ = some (.slice (some ⟨C.qb, 0, none⟩) C.N C.N) from ⟨cell_of_row V _ 0 _ _ _ h.fin, cell_of_row V _ 1 _ _ _ h.fin, cell_of_row V _ 2 _ _ _ h.fin, cell_of_row V _ 3 _ _ _ h.fin, cell_of_row V _ 4 _ _ _ h.fin, cell_of_row V _ 5 _ _ _ h.fin, cell_of_row V _ 6 _ _ _ h.fin, cell_of_row V _ 10 _ _ _ h.fin, cell_of_row V _ 11 _ _ _ h.fin, cell_of_row V _ 12 _ _ _ h.fin⟩)
            have SV2 := hide' (fun (V : World) (h : FiS C V (updB g' p c) bv' tb') => show V.cell? ⟨C.fb, 7, none⟩ = some (.int .i64 (C.W : Int)) ∧ V.cell? ⟨C.fb, 9, none⟩ = some (.slice (some ⟨pg, po, none⟩) C.pn C.pq) ∧ V.cell? ⟨pg, po + I, none⟩ = some (.int .i64 z) from ⟨cell_of_row V _ 7 _ _ _ h.fin, by rw [← epa]; exact cell_of_row V _ 9 _ _ _ h.fin, by
              obtain ⟨pg', po', e', _, h'⟩ := (OO.out.arg.below (h.bel.mono OO.out.bs)).cells I (by rw [OO.out.xl]; exact I1)
              rw [epa] at e'
              cases e'
              rw [h', ← hz]
              congr 2
              simp [List.getD_eq_getElem?_getD, OO.out.xl, I1]⟩)
            have PP := PXY.out
            have pe : (Y2 + 2) * C.W2 + (X2 + 2) = p := by rw [← hX2, ← hY2]; exact PP.symm
            obtain ⟨q, hq⟩ : ∃ q, midP C.born C.stay (updB g p c) C.W2 X2 Y2 = q := ⟨_, rfl⟩
            have q1 : q ≤ 1 := by rw [← hq]; exact becN_le' ..
            have ME := hide' (fun (V : World) (h : FiS C V (updB g' p c) bv' tb') => show Calls Tryd.prog 20 #[.agg #[.int .i64 C.k, .int .i64 (C.born : Int), .int .i64 (C.stay : Int), .int .i64 C.st, .int .i64 C.ra, .slice C.ta C.tn C.tc, .string C.s], .agg #[.int .i64 (C.W2 : Int), .int .i64 (C.H2 : Int), .slice (some ⟨C.qb, 0, none⟩) C.N C.N], .int .i64 (X2 : Int), .int .i64 (Y2 : Int)] V (fun e w' => e = .returned (.int .i64 (q : Int)) ∧ Below V.heap.size V w') from by
              have t := middle_any C.k C.st C.ra C.born C.stay C.ta C.tn C.tc C.s C.W2 C.H2 (clG C.N (updB g' p c)) (some ⟨C.qb, 0, none⟩) C.N C.N X2 Y2 V (h.argQ N49) ((clG_len ..).trans OO.out.n) (clG_bits h.bit) (by have := OO.out.w2; omega) (by have := OO.out.h2; omega) (by omega) (by have := OO.out.h2; have := OO.out.h5; omega) OO.out.b5 OO.out.s5
              rw [mid_clG (g := updB g p c) (by rw [pe]; exact hp) (fun i hi => upd_same INV.out.2.1 i (by omega)), hq] at t
              exact t)
            have OKI := hide' (show C.ok (updB g p c) p ↔ (q : Int) = z from by
              unfold FiC.ok okP
              rw [HXY.out.1, HXY.out.2, show X - 2 = X2 by omega, show Y - 2 = Y2 by omega, show C.W2 - 2 = C.W by have := OO.out.w2; omega, hq, hL, hI]
              show (2 ≤ X → 2 ≤ Y → (q : Int) = C.xs.getD I 0) ↔ (q : Int) = z
              rw [hz]
              exact ⟨fun h => h (by omega) (by omega), fun h _ _ => h⟩)
            have FD := hide' (FP.out.heap (V' := X1.drew) rfl ((Below.refl _ _).drew))
            have g1 : IntKind.i64.wrap ((X : Int) - 2) = (X2 : Int) := by rw [show (X : Int) - 2 = (X2 : Int) by omega]; exact wrap_nearS (by omega) (by omega)
            have g2 : IntKind.i64.wrap ((Y : Int) - 2) = (Y2 : Int) := by rw [show (Y : Int) - 2 = (Y2 : Int) by omega]; exact wrap_nearS (by omega) (by omega)
            have g3 : IntKind.i64.wrap ((Y2 : Int) * (C.W : Int)) = (L : Int) := by rw [show (Y2 : Int) * (C.W : Int) = (L : Int) by rw [← hL]; simp]; exact wrap_nearS (by omega) (by omega)
            have g4 : IntKind.i64.wrap ((L : Int) + (X : Int)) = (L1 : Int) := by rw [show (L : Int) + (X : Int) = (L1 : Int) by omega]; exact wrap_nearS (by omega) (by omega)
            have g5 : IntKind.i64.wrap ((L1 : Int) - 2) = (I : Int) := by rw [show (L1 : Int) - 2 = (I : Int) by omega]; exact wrap_nearS (by omega) (by omega)
            have I0 : (0 : Int) ≤ (I : Int) := by omega
            have Ip : (I : Int) < (C.pn : Int) := by omega
            have Ip' : I < C.pn := by omega
            clear hX2 hY2 hL hL1 hI xW yH I1 I25 pnl hz epa PP pe hq
            by_cases okq : (q : Int) = z
            · have OKC := hide' (OKI.out.2 okq)
              subst okq
              go_upto_region 21 with fail
              rw [HX1.out]
              go_region_held3 (fun V => V.cell? ⟨C.fb, 0, none⟩ = some (.int .i64 C.k) ∧ V.cell? ⟨C.fb, 1, none⟩ = some (.int .i64 (C.born : Int)) ∧ V.cell? ⟨C.fb, 2, none⟩ = some (.int .i64 (C.stay : Int)) ∧ V.cell? ⟨C.fb, 3, none⟩ = some (.int .i64 C.st) ∧ V.cell? ⟨C.fb, 4, none⟩ = some (.int .i64 C.ra) ∧ V.cell? ⟨C.fb, 5, none⟩ = some (.slice C.ta C.tn C.tc) ∧ V.cell? ⟨C.fb, 6, none⟩ = some (.string C.s) ∧ V.cell? ⟨C.fb, 10, none⟩ = some (.int .i64 (C.W2 : Int)) ∧ V.cell? ⟨C.fb, 11, none⟩ = some (.int .i64 (C.H2 : Int)) ∧ V.cell? ⟨C.fb, 12, none⟩ = some (.slice (some ⟨C.qb, 0, none⟩) C.N C.N)) (first | exact SV1.out _ F6.out | exact SV1.out _ FD.out | exact SV1.out _ FP.out | fail)
                (first
                  | (go_at_call 20; refine (ME.out _ FD.out).mono ?_; rintro e w6 ⟨rfl, b6⟩; have F6 := hide' (FD.out.below b6); clear b6)
                  | fail)
              have F6D := hide' (F6.out.heap (V' := w6.drew) rfl ((Below.refl _ _).drew))
              go_wp2
              go_region_held3 (fun V => V.cell? ⟨C.fb, 7, none⟩ = some (.int .i64 (C.W : Int)) ∧ V.cell? ⟨C.fb, 9, none⟩ = some (.slice (some ⟨pg, po, none⟩) C.pn C.pq) ∧ V.cell? ⟨pg, po + I, none⟩ = some (.int .i64 (q : Int))) (first | exact SV2.out _ F6D.out | exact SV2.out _ F6.out | fail) (fail)
              obtain ⟨w7, hw7⟩ : ∃ w7, w6.drew = w7 := ⟨_, rfl⟩
              have F7 := hide' (show FiS C w7 (updB g' p c) bv' tb' by rw [← hw7]; exact F6D.out)
              rw [hw7]
              clear hw7
              go_wp2_with fail
              refine (IH.out w7 _ _ _ F7.out).mono ?_
              rintro e w8 ⟨g2, bv2, tb2, F2, k2, ⟨rfl, b2⟩ | ⟨rfl, a2, n2⟩⟩
              · have SO := hide' (INV.out.best HPP.out hp c1 F2 k2 OKC.out b2)
                clear F2 k2 b2
                go_wp2
                go_ret
                exact SO.out
              · have NX := hide' (INV.out.none HPP.out F2 k2 a2 n2)
                clear F2 k2 a2 n2
                go_wp2
                exact ⟨⟨c + 1, g2, bv2, tb2, by go_num, by omega, NX⟩, by simp [intOf]; omega⟩
            · have NX := hide' (fun (w7 : World) (F7 : FiS C w7 (updB g' p c) bv' tb') => INV.out.no F7 (fun h => okq (OKI.out.1 h)))
              go_upto_region 21 with fail
              rw [HX1.out]
              go_region_held3 (fun V => V.cell? ⟨C.fb, 0, none⟩ = some (.int .i64 C.k) ∧ V.cell? ⟨C.fb, 1, none⟩ = some (.int .i64 (C.born : Int)) ∧ V.cell? ⟨C.fb, 2, none⟩ = some (.int .i64 (C.stay : Int)) ∧ V.cell? ⟨C.fb, 3, none⟩ = some (.int .i64 C.st) ∧ V.cell? ⟨C.fb, 4, none⟩ = some (.int .i64 C.ra) ∧ V.cell? ⟨C.fb, 5, none⟩ = some (.slice C.ta C.tn C.tc) ∧ V.cell? ⟨C.fb, 6, none⟩ = some (.string C.s) ∧ V.cell? ⟨C.fb, 10, none⟩ = some (.int .i64 (C.W2 : Int)) ∧ V.cell? ⟨C.fb, 11, none⟩ = some (.int .i64 (C.H2 : Int)) ∧ V.cell? ⟨C.fb, 12, none⟩ = some (.slice (some ⟨C.qb, 0, none⟩) C.N C.N)) (first | exact SV1.out _ F6.out | exact SV1.out _ FD.out | exact SV1.out _ FP.out | fail)
                (first
                  | (go_at_call 20; refine (ME.out _ FD.out).mono ?_; rintro e w6 ⟨rfl, b6⟩; have F6 := hide' (FD.out.below b6); clear b6)
                  | fail)
              have F6D := hide' (F6.out.heap (V' := w6.drew) rfl ((Below.refl _ _).drew))
              go_wp2
              go_region_held3 (fun V => V.cell? ⟨C.fb, 7, none⟩ = some (.int .i64 (C.W : Int)) ∧ V.cell? ⟨C.fb, 9, none⟩ = some (.slice (some ⟨pg, po, none⟩) C.pn C.pq) ∧ V.cell? ⟨pg, po + I, none⟩ = some (.int .i64 z)) (first | exact SV2.out _ F6D.out | exact SV2.out _ F6.out | fail) (fail)
              go_wp2
              exact ⟨⟨c + 1, updB g' p c, bv', tb', by go_num, by omega, hide' (NX.out _ F6D.out)⟩, by simp [intOf]; omega⟩
          · have OKC := hide' (show C.ok (updB g p c) p from fun a b => by rw [HXY.out.2] at b; omega)
            go_upto_region 24 with fail
            rw [HX1.out]
            go_wp2_with fail
            refine (IH.out X1 _ _ _ FP.out).mono ?_
            rintro e w8 ⟨g2, bv2, tb2, F2, k2, ⟨rfl, b2⟩ | ⟨rfl, a2, n2⟩⟩
            · have SO := hide' (INV.out.best HPP.out hp c1 F2 k2 OKC.out b2)
              clear F2 k2 b2
              go_wp2
              go_ret
              exact SO.out
            · have NX := hide' (INV.out.none HPP.out F2 k2 a2 n2)
              clear F2 k2 a2 n2
              go_wp2
              exact ⟨⟨c + 1, g2, bv2, tb2, by go_num, by omega, NX⟩, by simp [intOf]; omega⟩
        · have OKC := hide' (show C.ok (updB g p c) p from fun a b => by rw [HXY.out.1] at a; omega)
          go_upto_region 24 with fail
          rw [HX1.out]
          go_wp2_with fail
          refine (IH.out X1 _ _ _ FP.out).mono ?_
          rintro e w8 ⟨g2, bv2, tb2, F2, k2, ⟨rfl, b2⟩ | ⟨rfl, a2, n2⟩⟩
          · have SO := hide' (INV.out.best HPP.out hp c1 F2 k2 OKC.out b2)
            clear F2 k2 b2
            go_wp2
            go_ret
            exact SO.out
          · have NX := hide' (INV.out.none HPP.out F2 k2 a2 n2)
            clear F2 k2 a2 n2
            go_wp2
            exact ⟨⟨c + 1, g2, bv2, tb2, by go_num, by omega, NX⟩, by simp [intOf]; omega⟩
      · obtain rfl : c = 2 := by omega
        obtain ⟨F, ag, ebv, etb, non, kp⟩ := INV.out
        obtain ⟨f12, f13, f14⟩ := F.fcell
        have bpw := F.bcell hp
        rw [ebv] at bpw
        have NN := hide' (show NoneB C.N C.ok g p from none_both (okP_loc _ _ _ _ _) hp (fun h => by have := non 0 (by omega) h; rw [HPP.out] at this; exact this) (fun h => by have := non 1 (by omega) h; rw [HPP.out] at this; exact this))
        have DD := hide' (show DeadT C.N C.ok C.m p k from by
          have := deadT_of (T := C.N) (fun i hi => HS2.out.bit i (by omega)) NN.out
          rw [HHK.out] at this
          exact this)
        have vne : bv' p ≠ .slice none 0 0 := by rw [ebv]; simp
        have MK := hide' (F.mark hp (by rw [HSS.out]; exact KB.out) vne DD.out)
        rw [etb] at MK
        obtain ⟨d', hd'⟩ : ∃ d' : Nat → Bool, wr.heap[t]? = some (.cells (arrF S fun i => .bool (d' i)) 4 (0, 0)) := by
          rcases F.tab p hp with e | ⟨_, _, d', e1, _⟩
          · exact absurd e vne
          · rw [etb, HSS.out] at e1; exact ⟨d', e1⟩
        have ctw : wr.cell? ⟨t, k, none⟩ = some (.bool (d' k)) := by rw [cell_of_row wr _ k _ _ _ hd', arrF_get _ KB.out]
        have cfw := frozen_of_row wr _ k _ _ hd'
        have AG := hide' (And.intro ag kp)
        clear F ag ebv etb non kp hd' INV vne
        go_wp2
        go_ret
        exact ⟨g', bv', tb', MK.out, AG.out.2, Or.inr ⟨rfl, AG.out.1, NN.out⟩⟩
end Go.Proofs.YtfdbgkdbmlmigaaDoor

