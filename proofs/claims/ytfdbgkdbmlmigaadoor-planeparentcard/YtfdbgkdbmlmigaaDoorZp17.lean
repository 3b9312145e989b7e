/-
  What the last text of this claim leans on, part 17: Pp7.
-/
import Derived.Test.YtfdbgkdbmlmigaaDoorZp16
namespace Go.Proofs.YtfdbgkdbmlmigaaDoor
open Go.RowKit
set_option linter.unusedVariables false
/-- What fill answers. -/
def FillOut (c : SeC) (V : World) (n d : Nat) (rv : Value) (rs : List Nat) (e : Ending) (V' : World) : Prop :=
  (∃ rv' rs' n', e = .returned (.bool true) ∧ FSt c V' n' rv' rs' ∧ rs'.length = c.H2 ∧ (∀ v ∈ rs', v < 2 ^ c.W2) ∧ BestB c.T c.ok (gR c.W2 rs) (rs.length * c.W2) (gR c.W2 rs')) ∨
  (∃ rv' n', e = .returned (.bool false) ∧ FSt c V' n' rv' rs ∧ KpR V V' ∧ n' ≤ n + cF d ∧ NoneB c.T c.ok (gR c.W2 rs) (rs.length * c.W2))
theorem here_nil (rs : List Nat) : (if rs.length = 0 then (0 : Int) else (hereL rs : Int)) = (hereL rs : Int) := by
  split
  · rename_i h
    have : rs = [] := List.eq_nil_of_length_eq_zero h
    subst this; rfl
  · rfl
/-- The cells of a search that are read. -/
theorem FSt.cells {c : SeC} {V : World} {n : Nat} {rv : Value} {rs : List Nat} (h : FSt c V n rv rs) : V.cell? ⟨c.sb, 7, none⟩ = some (.int .i64 (c.W2 : Int)) ∧ V.cell? ⟨c.sb, 8, none⟩ = some (.int .i64 (c.H2 : Int)) ∧ V.cell? ⟨c.sb, 9, none⟩ = some (.slice c.wa c.wn c.wc) ∧ V.cell? ⟨c.sb, 10, none⟩ = some rv ∧ V.cell? ⟨c.sb, 11, none⟩ = some (.map (some c.mb)) ∧ V.frozen? ⟨c.sb, 10, none⟩ = false :=
  ⟨cell_of_row V _ 7 _ _ _ h.ser, cell_of_row V _ 8 _ _ _ h.ser, cell_of_row V _ 9 _ _ _ h.ser, cell_of_row V _ 10 _ _ _ h.ser, cell_of_row V _ 11 _ _ _ h.ser, frozen_of_row V _ 10 _ _ h.ser⟩
theorem info_intP : (Tryd.prog.info? 3).map (fun i => (i.zero, i.size, i.bytes)) = some (some (.int .i64 0), 1, 8) := by kernel_rfl
theorem own_sl {w : World} {base : Nat} {e : TypeId} {size n : Nat} {v : Value} {xs : List Value} (h : w.ownsRow base e size v n xs) : ∃ a q, v = .slice a n q := by
  rcases h.2 with ⟨rfl, rfl⟩ | ⟨g, cap, cur, rfl, -⟩
  · exact ⟨none, 0, rfl⟩
  · exact ⟨_, cap, rfl⟩
theorem zeroU (w : World) : (zeroValue 65).run Tryd.prog w = .ok (.agg #[]) w := by kernel_rfl
set_option maxRecDepth 100000 in
set_option maxHeartbeats 6400000 in
theorem fill_end (c : SeC) (hc : SeOk c) (V : World) (n : Nat) (rv : Value) (rs : List Nat) (hm : rs.length = c.H2) (h : FSt c V n rv rs) (hs : ∀ v ∈ rs, v < 2 ^ c.W2) : Calls Tryd.prog 14 #[.pointer (some ⟨c.sb, 0, none⟩)] V (FillOut c V n 0 rv rs) := by
  obtain ⟨a, q, rfl, -, -⟩ := h.slice
  obtain ⟨c7, c8, c9, c10, c11, f10⟩ := h.cells
  have OUT := hide' (show FillOut c V n 0 (.slice a rs.length q) rs (.returned (.bool true)) V.drew from Or.inl ⟨_, rs, n, rfl, h.below hc (Below.refl _ _).drew, hm, hs, by rw [hm]; exact best_end _ _ _⟩)
  obtain ⟨sb, hsb⟩ : ∃ sb, c.sb = sb := ⟨_, rfl⟩
  obtain ⟨H, hH⟩ : ∃ H, c.H2 = H := ⟨_, rfl⟩
  rw [hH] at hm
  rw [hsb, hH] at c8
  rw [hsb, hm] at c10
  rw [hsb]
  rw [hm] at OUT ⊢
  clear h hs c7 c9 c11 f10 hm hsb hH
  go_enter Tryd.func14, Tryd.ntmps14
  go_wp2
  go_region
  go_wp2
  go_ret
  exact OUT.out
set_option maxRecDepth 100000 in
set_option maxHeartbeats 12800000 in
theorem fill_step (c : SeC) (hc : SeOk c) (d : Nat)
    (ih : ∀ (V : World) (n : Nat) (rv : Value) (rs : List Nat), rs.length + d = c.H2 → FSt c V n rv rs → (∀ v ∈ rs, v < 2 ^ c.W2) → n + cF d ≤ 70368744177664 → Calls Tryd.prog 14 #[.pointer (some ⟨c.sb, 0, none⟩)] V (FillOut c V n d rv rs))
    (V : World) (n : Nat) (rv : Value) (rs : List Nat) (hm : rs.length + (d + 1) = c.H2) (h : FSt c V n rv rs) (hs : ∀ v ∈ rs, v < 2 ^ c.W2) (hn : n + cF (d + 1) ≤ 70368744177664) :
    Calls Tryd.prog 14 #[.pointer (some ⟨c.sb, 0, none⟩)] V (FillOut c V n (d + 1) rv rs) := by
  obtain ⟨a, q, rfl, -, -⟩ := h.slice
  obtain ⟨c7, c8, c9, c10, c11, f10⟩ := h.cells
  have h7 := hc.h7
  have w7 := hc.w7
  have w2 := hc.w2
  obtain ⟨m, hmm⟩ : ∃ m, rs.length = m := ⟨_, rfl⟩
  have HF := hide' h
  have F1 := hide' (h.below hc (Below.refl _ _).drew)
  have EN := hide' (ends_anyP c.k c.st c.ra c.born c.stay c.ta c.tn c.tc c.s c.W2 c.H2 (.slice c.wa c.wn c.wc) (.map (some c.mb)) c.sb rs a rs.length q V.drew F1.out.ser F1.out.rowL.1 rfl (by omega))
  rw [here_nil] at EN
  have ABV : aboveL rs < 128 := by
    unfold aboveL
    split
    · omega
    · have := hs _ (show rs.getD (rs.length - 2) 0 ∈ rs by rw [show rs.getD (rs.length - 2) 0 = rs[rs.length - 2]'(by omega) by simp [List.getD, show rs.length - 2 < rs.length by omega]]; exact List.getElem_mem _)
      have : 2 ^ c.W2 ≤ 2 ^ 7 := Nat.pow_le_pow_right (by omega) hc.w7
      omega
  have HEV : hereL rs < 128 := by
    unfold hereL
    by_cases e : rs.length = 0
    · have : rs = [] := List.eq_nil_of_length_eq_zero e
      subst this; decide
    · have := hs _ (show rs.getD (rs.length - 1) 0 ∈ rs by rw [show rs.getD (rs.length - 1) 0 = rs[rs.length - 1]'(by omega) by simp [List.getD, show rs.length - 1 < rs.length by omega]]; exact List.getElem_mem _)
      have : 2 ^ c.W2 ≤ 2 ^ 7 := Nat.pow_le_pow_right (by omega) hc.w7
      omega
  have HS := hide' hs
  have HN := hide' hn
  have HM := hide' hm
  have IH := hide' ih
  have mH : ¬ m = c.H2 := by omega
  obtain ⟨ab, hab⟩ : ∃ x, aboveL rs = x := ⟨_, rfl⟩
  obtain ⟨he, hhe⟩ : ∃ x, hereL rs = x := ⟨_, rfl⟩
  obtain ⟨H, hH⟩ : ∃ H, c.H2 = H := ⟨_, rfl⟩
  obtain ⟨sb, hsb⟩ : ∃ sb, c.sb = sb := ⟨_, rfl⟩
  rw [hab, hhe, hmm, hsb] at EN
  rw [hab] at ABV
  rw [hhe] at HEV
  rw [hsb, hH] at c8
  rw [hsb, hmm] at c10
  rw [hH] at mH h7
  rw [hsb, hmm]
  have mH' : ((m : Int) == (H : Int)) = false := by rw [beq_eq_false_iff_ne]; omega
  have AB := hide' hab
  have HE := hide' hhe
  have HMM := hide' hmm
  have HHH := hide' hH
  have HSB := hide' hsb
  clear h hs hn hm ih c7 c9 c11 f10 hab hhe hmm hH hsb mH
  go_enter Tryd.func14, Tryd.ntmps14
  go_wp2
  go_region
  go_wp2_with fail
  refine EN.out.mono ?_
  rintro e w2' ⟨rfl, b2⟩
  have F2 := hide' (F1.out.below hc b2)
  have K2 := hide' ((KpR.below (show Below V.heap.size V V.drew from (Below.refl _ _).drew)).trans (KpR.below b2))
  obtain ⟨w3, hw3⟩ : ∃ w3, w2'.alloc (.cells #[.int .i64 (m : Int), .int .i64 (ab : Int), .int .i64 (he : Int)] 63) = w3 := ⟨_, rfl⟩
  have b3 : Below w2'.heap.size w2' w3 := by rw [← hw3]; exact (Below.refl _ _).alloc (Nat.le_refl _) _
  have F3 := hide' (F2.out.below hc b3)
  have K3 := hide' (K2.out.trans (KpR.below b3))
  have L3 := hide' (show w3.heap[w2'.heap.size]? = some (.cells #[.int .i64 (m : Int), .int .i64 (ab : Int), .int .i64 (he : Int)] 63 (0, 0)) by rw [← hw3]; exact heap_alloc_new _ _)
  obtain ⟨lb, hlb⟩ : ∃ lb, w2'.heap.size = lb := ⟨_, rfl⟩
  rw [hlb] at L3
  have HLB := hide' hlb
  have HW3 := hide' hw3
  clear hw3 hlb c8 c10 b2 b3
  go_upto_region 4 with fail
  rw [HW3.out, HLB.out]
  obtain ⟨D, mD, mI, mK⟩ := F3.out.map
  obtain ⟨-, -, -, -, c11, -⟩ := F3.out.cells
  rw [HSB.out] at c11
  have l0 := cell_of_row w3 _ 0 _ _ _ L3.out
  have l1 := cell_of_row w3 _ 1 _ _ _ L3.out
  have l2 := cell_of_row w3 _ 2 _ _ _ L3.out
  simp at l0 l1 l2
  have m7 : m ≤ 7 := by have := HM.out; have := HMM.out; have := HHH.out; omega
  obtain ⟨w4, hw4⟩ : ∃ w4, w3.alloc (.cells #[] 65) = w4 := ⟨_, rfl⟩
  have b4 : Below w3.heap.size w3 w4 := by rw [← hw4]; exact (Below.refl _ _).alloc (Nat.le_refl _) _
  have F4 := hide' (F3.out.below hc b4)
  have K4 := hide' (K3.out.trans (KpR.below b4))
  have L4 := hide' ((b4.block lb (lt_of_block L3.out)).trans L3.out)
  have LK := hide' (fun (X : World) (hX : X.ownsMap Tryd.prog 63 unitElem c.mb n D) => show (Instr.lookup 58 (.map (some c.mb)) (.agg #[.int .i64 (m : Int), .int .i64 (ab : Int), .int .i64 (he : Int)]) true).run Tryd.prog X = .ok (.tuple #[.agg #[], .bool (Maps.has D (kE m ab he))]) X from by
    obtain ⟨uv, ups, hrun, hru⟩ := hX.look_ok (t := 58) lawE Tryd.underlying58 (zeroU _) unitElem_mk (key_ends (x := m) (y := ab) (z := he) (by omega) (by omega) (by omega))
    obtain ⟨rfl, -⟩ := unitElem_inv hru
    exact hrun)
  have k1 := LK.out w3.drew mD.drew
  have k2 := LK.out w4.drew (by rw [← hw4]; exact (mD.alloc _).drew)
  have t0 := cell_of_row w4 _ 0 _ _ _ L4.out
  have t1 := cell_of_row w4 _ 1 _ _ _ L4.out
  have t2 := cell_of_row w4 _ 2 _ _ _ L4.out
  simp at t0 t1 t2
  have t11 := F4.out.cells.2.2.2.2.1
  rw [HSB.out] at t11
  have MD := hide' (And.intro mD (And.intro mI mK))
  obtain ⟨hk, hhk⟩ : ∃ hk, Maps.has D (kE m ab he) = hk := ⟨_, rfl⟩
  rw [hhk] at k1 k2
  have HK := hide' hhk
  clear mD mI mK hhk b4 LK
  go_region
  obtain ⟨w5, hw5⟩ : ∃ w5, w4.drew = w5 := ⟨_, rfl⟩
  have b5 : Below w4.heap.size w4 w5 := by rw [← hw5]; exact (Below.refl _ _).drew
  have F5 := hide' (F4.out.below hc b5)
  have K5 := hide' (K4.out.trans (KpR.below b5))
  have L5 := hide' ((b5.block lb (lt_of_block L4.out)).trans L4.out)
  rw [hw5]
  clear b5 hw5 hw4 k1 k2 t0 t1 t2 t11 l0 l1 l2 c11
  cases hk with
  | true =>
    have NN := hide' (show NoneB c.T c.ok (gR c.W2 rs) (rs.length * c.W2) from by rw [HMM.out]; exact MD.out.2.2 m ab he (by omega) (by omega) (by omega) HK.out rs HMM.out AB.out HE.out)
    go_wp2
    go_ret
    rw [← HMM.out]
    exact Or.inr ⟨_, n, rfl, F5.out, K5.out, by omega, NN.out⟩
  | false =>
    have c7 := F5.out.cells.1
    rw [HSB.out] at c7
    obtain ⟨P2, hP2⟩ : ∃ P2, 2 ^ c.W2 = P2 := ⟨_, rfl⟩
    have P128 : P2 ≤ 128 := by rw [← hP2]; exact Nat.pow_le_pow_right (by omega) hc.w7
    -- LOOP
    obtain ⟨it, hit, hz⟩ := Option.map_eq_some_iff.1 info_intP
    simp only [Prod.mk.injEq] at hz
    obtain ⟨hz0, hz1, hz2⟩ := hz
    have HP2 := hide' hP2
    have ew : wrap64 ((2 : Int) ^ c.W2) = (P2 : Int) := by
      have e1 : (2 : Int) ^ c.W2 = (P2 : Int) := by rw [← hP2]; simp
      rw [e1]; unfold wrap64; omega
    have EW := hide' ew
    clear ew hP2
    go_wp2
    rw [EW.out]
    go_loopw [34] (fun vv wr => ∃ (v n1 : Nat) (rv1 : Value), vv = .int .i64 (v : Int) ∧ v ≤ P2 ∧ Hid (FSt c wr n1 rv1 rs) ∧ Hid (KpR w5 wr) ∧ Hid (n1 ≤ n + v * cF d) ∧ Hid (∀ u, u < v → rowOk c.ok (setR (gR c.W2 rs) c.W2 m u) c.W2 m → NoneB c.T c.ok (setR (gR c.W2 rs) c.W2 m u) (m * c.W2 + c.W2))) (fun vv _ => P2 - (intOf vv).toNat)
    case atStart => exact ⟨0, n, _, rfl, by omega, F5, hide' (KpR.refl _), hide' (by omega), hide' (fun u hu => by omega)⟩
    case round =>
      obtain ⟨v, n1, rv1, rfl, hv, FW, KW, NB, DN⟩ := hrel
      by_cases dv : (v : Int) < (P2 : Int)
      · obtain ⟨a1, q1, rfl, -, -⟩ := FW.out.slice
        have LL := hide' (KW.out lb _ L5.out)
        by_cases m2 : 2 ≤ m
        · obtain ⟨i, hi⟩ : ∃ i, m - 2 = i := ⟨_, rfl⟩
          obtain ⟨wg, hwa, wcl⟩ := FW.out.wantC hc (y := i) (by have := HM.out; have := HMM.out; omega)
          obtain ⟨U, hU⟩ : ∃ U, c.wt i = U := ⟨_, rfl⟩
          have U128 : U < 128 := by rw [← hU]; exact hc.small i
          have CV := hide' (fun (V : World) (hb : Below wr.heap.size wr V) => show V.cell? ⟨lb, 0, none⟩ = some (.int .i64 (m : Int)) ∧ V.cell? ⟨lb, 1, none⟩ = some (.int .i64 (ab : Int)) ∧ V.cell? ⟨lb, 2, none⟩ = some (.int .i64 (he : Int)) ∧ V.cell? ⟨sb, 9, none⟩ = some (.slice (some ⟨wg, 0, none⟩) c.wn c.wc) ∧ V.cell? ⟨wg, i, none⟩ = some (.int .i64 (U : Int)) from
            ⟨cell_of_row V _ 0 _ _ _ ((hb.block _ (lt_of_block LL.out)).trans LL.out), cell_of_row V _ 1 _ _ _ ((hb.block _ (lt_of_block LL.out)).trans LL.out), cell_of_row V _ 2 _ _ _ ((hb.block _ (lt_of_block LL.out)).trans LL.out), by rw [← HSB.out, ← hwa]; exact (FW.out.below hc hb).cells.2.2.1, by
              obtain ⟨g', e', h'⟩ := (FW.out.below hc hb).wantC hc (y := i) (by have := HM.out; have := HMM.out; omega)
              rw [hwa] at e'; cases e'; rw [h', hU]⟩)
          have MKK := hide' (fun (X : World) (hb : Below wr.heap.size wr X) => makes_any c.k c.st c.ra c.born c.stay c.ta c.tn c.tc c.s c.W2 c.H2 (.slice c.wa c.wn c.wc) (.slice a1 rs.length q1) (.map (some c.mb)) c.sb ab he v U X (FW.out.below hc hb).ser hc.born hc.stay hc.w2 hc.w7 ABV HEV (by omega) U128)
          have RI := hide' (show rowOk c.ok (setR (gR c.W2 rs) c.W2 m v) c.W2 m ↔ mkAll c.born c.stay ab he v U (c.W2 - 2) = true from by
            have := row_iff (born := c.born) (stay := c.stay) (v := v) (pc := c.pc) (wt := c.wt) hc.w2 (rs := rs) (by rw [HMM.out]; exact m2) (fun x hx => by
              refine hc.cells (rs.length - 2) x ?_ hx
              have := HM.out; have := HMM.out; omega)
            rw [AB.out, HE.out, HMM.out, hi, hU] at this
            exact this)
          rw [HSB.out] at MKK
          obtain ⟨bv, hbv⟩ : ∃ bv, mkAll c.born c.stay ab he v U (c.W2 - 2) = bv := ⟨_, rfl⟩
          rw [hbv] at MKK RI
          have mm2 : (2 : Int) ≤ (m : Int) := by omega
          have e2 : (m : Int) - 2 = (i : Int) := by omega
          have ei : IntKind.i64.wrap (i : Int) = (i : Int) := by simp [IntKind.wrap, IntKind.bits, IntKind.signed]; omega
          have i0 : (0 : Int) ≤ (i : Int) := by omega
          have il : (i : Int) < (c.wn : Int) := by have := hc.wn; have := HM.out; have := HMM.out; omega
          clear hi hwa wcl hU hbv
          go_wp2
          go_region_held3 (fun V => V.cell? ⟨lb, 0, none⟩ = some (.int .i64 (m : Int)) ∧ V.cell? ⟨lb, 1, none⟩ = some (.int .i64 (ab : Int)) ∧ V.cell? ⟨lb, 2, none⟩ = some (.int .i64 (he : Int)) ∧ V.cell? ⟨sb, 9, none⟩ = some (.slice (some ⟨wg, 0, none⟩) c.wn c.wc) ∧ V.cell? ⟨wg, i, none⟩ = some (.int .i64 (U : Int))) (first | exact CV.out _ B6.out | exact CV.out _ (Below.refl _ _) | exact CV.out _ (Below.refl _ _).drew | fail)
            (first
              | (go_at_call 24; refine (MKK.out _ (Below.refl _ _).drew).mono ?_; rintro e w6 ⟨rfl, b6⟩; have B6 := hide' (show Below wr.heap.size wr w6 from (show Below wr.heap.size wr wr.drew from (Below.refl _ _).drew).trans b6); clear b6)
              | fail)
          cases bv with
          | false =>
            have FX := hide' (FW.out.below hc B6.out)
            have KX := hide' (KW.out.trans (KpR.below B6.out))
            have NR := hide' (show ¬ rowOk c.ok (setR (gR c.W2 rs) c.W2 m v) c.W2 m from fun q => by have := RI.out.1 q; cases this)
            go_wp2
            exact ⟨⟨v + 1, n1, _, by go_num, by omega, FX, KX, hide' (by have := NB.out; rw [Nat.add_mul]; omega), hide' (fun u hu hr => by
              by_cases e : u = v
              · subst e; exact absurd hr NR.out
              · exact DN.out u (by omega) hr)⟩, by simp [intOf]; omega⟩
          | true =>
            have RO := hide' (RI.out.2 rfl)
            have BX := hide' B6.out
            have FX := hide' (FW.out.below hc BX.out)
            have KX := hide' (KW.out.trans (KpR.below BX.out))
            clear BX
            obtain ⟨-, -, -, x10, -, xf⟩ := FX.out.cells
            rw [HSB.out, HMM.out] at x10
            rw [HSB.out] at xf
            have OWX := hide' FX.out.row
            rw [HMM.out] at OWX
            have NW : ∀ j u, [Value.int .i64 (v : Int)][j]? = some u → (w6.alloc (.cells #[.int .i64 (v : Int)] 3)).cell? ((⟨w6.heap.size, 0, none⟩ : Addr).add j) = some u := World.news_of_block (cs := #[.int .i64 (v : Int)]) (heap_alloc_new w6 _)
            have PSH := hide' (fun (X7 : World) (r7 : Value) (hg : (w6.alloc (.cells #[.int .i64 (v : Int)] 3)).grownBy X7 (Value.slice a1 rs.length q1).ownBlock) (ho : X7.ownsRow c.Z 3 1 r7 (rs.length + 1) (rs.map (fun x : Nat => Value.int .i64 (x : Int)) ++ [.int .i64 (v : Int)])) => FX.out.push hc hg ho)
            have SX := hide' (fun (X7 : World) (hg : (w6.alloc (.cells #[.int .i64 (v : Int)] 3)).grownBy X7 (Value.slice a1 rs.length q1).ownBlock) => show X7.heap[sb]? = some (.cells (c.arr (.slice a1 rs.length q1)) 60 (0, 0)) from by
              rw [← HSB.out]
              exact (hg.block c.sb (by have := lt_of_block FX.out.ser; simp; omega) (fun e => own_not FX.out.row hc.sbZ e.symm)).trans ((heap_alloc_old w6 _ (lt_of_block FX.out.ser)).trans FX.out.ser))
            rw [HMM.out] at PSH SX
            have zX : c.Z ≤ w6.heap.size := FX.out.siz
            have IHV := hide' (fun (Y : World) (n2 : Nat) (r2 : Value) (hF : FSt c Y n2 r2 (rs ++ [v])) (hn2 : n2 + cF d ≤ 70368744177664) => IH.out Y n2 r2 (rs ++ [v]) (by simp; have := HM.out; omega) hF (fun u hu => by
              rcases List.mem_append.1 hu with h1 | h1
              · exact HS.out u h1
              · simp at h1; subst h1; rw [HP2.out]; omega) hn2)
            rw [HSB.out] at IHV
            go_wp2_with (at_builtin; go_loud (refine wpList_append_own _ rfl _ _ 22 rfl c.Z 3 it (.int .i64 0) 1 8 Tryd.underlying22 hit hz0 hz1 hz2 rfl (by decide) _ m _ rfl (OWX.out.alloc _) ⟨w6.heap.size, 0, none⟩ 1 1 [Value.int .i64 (v : Int)] rfl rfl NW (fun u hu => by simp at hu; subst hu; rfl) (by unfold maxLen; omega) (by omega) (by simp; omega) ?_; intro v' w7 ho hg hnn; obtain ⟨a7, q7, rfl⟩ := own_sl ho; have y10 := cell_of_row w7 _ 10 _ _ _ (SX.out w7 hg); simp [SeC.arr, seV] at y10; have yf := frozen_of_row w7 _ 10 _ _ (SX.out w7 hg); go_frame))
            obtain ⟨F8, K8⟩ := PSH.out w7 _ hg ho
            have HF8 := hide' F8
            have HK8 := hide' (KX.out.trans K8)
            have n1b : n1 + cF d ≤ 70368744177664 := by
              have h1 := NB.out
              have h2 := HN.out
              rw [cF] at h2
              have h3 : v * cF d + cF d ≤ 128 * cF d := by
                have := Nat.mul_le_mul_right (cF d) (show v + 1 ≤ 128 by omega)
                rw [Nat.add_mul, Nat.one_mul] at this
                exact this
              omega
            rw [HSB.out] at HF8 HK8
            clear F8 K8 ho hg hnn y10 yf x10 xf NW
            go_wp2_with fail
            refine (IHV.out _ n1 _ HF8.out n1b).mono ?_
            have mT : m * c.W2 + c.W2 ≤ c.T := by
              unfold SeC.T
              have := Nat.mul_le_mul_right c.W2 (show m + 1 ≤ c.H2 by have := HM.out; have := HMM.out; omega)
              rw [Nat.add_mul, Nat.one_mul] at this
              exact this
            have SA := hide' (set_app (w := c.W2) (by omega) rs v)
            rw [HMM.out] at SA
            have LA : (rs ++ [v]).length * c.W2 = m * c.W2 + c.W2 := by rw [List.length_append, HMM.out]; simp [Nat.add_mul]
            have HLA := hide' LA
            have HMT := hide' mT
            have v2 : v < 2 ^ c.W2 := by rw [HP2.out]; omega
            have HV2 := hide' v2
            clear LA mT v2
            rintro e w9 (⟨rv', rs', n', rfl, hF, hl, hsm, hB⟩ | ⟨rv', n', rfl, hF, hK, hn', hN⟩)
            · have OUT := hide' (show FillOut c V n (d + 1) (.slice a m q) rs (.returned (.bool true)) w9 from Or.inl ⟨rv', rs', n', rfl, hF, hl, hsm, by
                rw [HMM.out]
                rw [HLA.out] at hB
                exact best_row (okP_loc c.born c.stay c.W2 c.pc c.T) HMT.out HV2.out DN.out RO.out (best_congr (fun i hi => (SA.out i hi).symm) hB)⟩)
              clear hF hl hsm hB
              go_wp2
              go_ret
              exact OUT.out
            · obtain ⟨a9, q9, rfl, q9a, -⟩ := hF.slice
              rw [List.length_append] at hF q9a
              simp only [List.length_cons, List.length_nil, Nat.zero_add] at hF q9a
              have KN := hide' (HK8.out.trans hK)
              have L9 := hide' (KN.out lb _ L5.out)
              have z0 := cell_of_row w9 _ 0 _ _ _ L9.out
              simp at z0
              obtain ⟨-, -, -, z10, -, zf⟩ := hF.cells
              obtain ⟨FP, KP⟩ := hF.pop hc
              rw [HSB.out, HMM.out] at z10
              rw [HSB.out] at zf
              have NN := hide' (show NoneB c.T c.ok (setR (gR c.W2 rs) c.W2 m v) (m * c.W2 + c.W2) from by rw [HLA.out] at hN; exact none_congr (fun i hi => (SA.out i hi).symm) hN)
              have NN' := hide' hn'
              have HFP := hide' FP
              have HKP := hide' (KN.out.trans KP)
              rw [HSB.out, HMM.out] at HFP HKP
              have Q0 : ¬ q9 = 0 := by omega
              have mq : (m : Int) ≤ (q9 : Int) := by have := HMM.out; omega
              have mi0 : (0 : Int) ≤ (m : Int) := by omega
              have mw : IntKind.i64.wrap (m : Int) = (m : Int) := by simp [IntKind.wrap, IntKind.bits, IntKind.signed]; omega
              clear hF hK hn' hN FP KP
              go_wp2
              go_region
              go_wp2
              exact ⟨⟨v + 1, n', _, by go_num, by omega, HFP, HKP, hide' (by have h1 := NB.out; have h2 := NN'.out; rw [Nat.add_mul]; omega), hide' (fun u hu hr => by
                by_cases e : u = v
                · subst e; exact NN.out
                · exact DN.out u (by omega) hr)⟩, by simp [intOf]; omega⟩
        · have mm2 : ¬ (2 : Int) ≤ (m : Int) := by omega
          have RO := hide' (show rowOk c.ok (setR (gR c.W2 rs) c.W2 m v) c.W2 m from row_free (by omega))
          have l0 := cell_of_row wr _ 0 _ _ _ LL.out
          simp at l0
          have md : decide ((2 : Int) ≤ (m : Int)) = false := by simp; omega
          have md' : decide (2 ≤ m) = false := by simp; omega
          go_wp2
          go_region
          clear md md'
          clear l0
          obtain ⟨w6, hw6⟩ : ∃ w6, wr.drew = w6 := ⟨_, rfl⟩
          rw [hw6]
          have BX := hide' (show Below wr.heap.size wr w6 by rw [← hw6]; exact (Below.refl _ _).drew)
          clear hw6
          have FX := hide' (FW.out.below hc BX.out)
          have KX := hide' (KW.out.trans (KpR.below BX.out))
          clear BX
          obtain ⟨-, -, -, x10, -, xf⟩ := FX.out.cells
          rw [HSB.out, HMM.out] at x10
          rw [HSB.out] at xf
          have OWX := hide' FX.out.row
          rw [HMM.out] at OWX
          have NW : ∀ j u, [Value.int .i64 (v : Int)][j]? = some u → (w6.alloc (.cells #[.int .i64 (v : Int)] 3)).cell? ((⟨w6.heap.size, 0, none⟩ : Addr).add j) = some u := World.news_of_block (cs := #[.int .i64 (v : Int)]) (heap_alloc_new w6 _)
          have PSH := hide' (fun (X7 : World) (r7 : Value) (hg : (w6.alloc (.cells #[.int .i64 (v : Int)] 3)).grownBy X7 (Value.slice a1 rs.length q1).ownBlock) (ho : X7.ownsRow c.Z 3 1 r7 (rs.length + 1) (rs.map (fun x : Nat => Value.int .i64 (x : Int)) ++ [.int .i64 (v : Int)])) => FX.out.push hc hg ho)
          have SX := hide' (fun (X7 : World) (hg : (w6.alloc (.cells #[.int .i64 (v : Int)] 3)).grownBy X7 (Value.slice a1 rs.length q1).ownBlock) => show X7.heap[sb]? = some (.cells (c.arr (.slice a1 rs.length q1)) 60 (0, 0)) from by
            rw [← HSB.out]
            exact (hg.block c.sb (by have := lt_of_block FX.out.ser; simp; omega) (fun e => own_not FX.out.row hc.sbZ e.symm)).trans ((heap_alloc_old w6 _ (lt_of_block FX.out.ser)).trans FX.out.ser))
          rw [HMM.out] at PSH SX
          have zX : c.Z ≤ w6.heap.size := FX.out.siz
          have IHV := hide' (fun (Y : World) (n2 : Nat) (r2 : Value) (hF : FSt c Y n2 r2 (rs ++ [v])) (hn2 : n2 + cF d ≤ 70368744177664) => IH.out Y n2 r2 (rs ++ [v]) (by simp; have := HM.out; omega) hF (fun u hu => by
            rcases List.mem_append.1 hu with h1 | h1
            · exact HS.out u h1
            · simp at h1; subst h1; rw [HP2.out]; omega) hn2)
          rw [HSB.out] at IHV
          go_wp2_with (at_builtin; go_loud (refine wpList_append_own _ rfl _ _ 22 rfl c.Z 3 it (.int .i64 0) 1 8 Tryd.underlying22 hit hz0 hz1 hz2 rfl (by decide) _ m _ rfl (OWX.out.alloc _) ⟨w6.heap.size, 0, none⟩ 1 1 [Value.int .i64 (v : Int)] rfl rfl NW (fun u hu => by simp at hu; subst hu; rfl) (by unfold maxLen; omega) (by omega) (by simp; omega) ?_; intro v' w7 ho hg hnn; obtain ⟨a7, q7, rfl⟩ := own_sl ho; have y10 := cell_of_row w7 _ 10 _ _ _ (SX.out w7 hg); simp [SeC.arr, seV] at y10; have yf := frozen_of_row w7 _ 10 _ _ (SX.out w7 hg); go_frame))
          obtain ⟨F8, K8⟩ := PSH.out w7 _ hg ho
          have HF8 := hide' F8
          have HK8 := hide' (KX.out.trans K8)
          have n1b : n1 + cF d ≤ 70368744177664 := by
            have h1 := NB.out
            have h2 := HN.out
            rw [cF] at h2
            have h3 : v * cF d + cF d ≤ 128 * cF d := by
              have := Nat.mul_le_mul_right (cF d) (show v + 1 ≤ 128 by omega)
              rw [Nat.add_mul, Nat.one_mul] at this
              exact this
            omega
          rw [HSB.out] at HF8 HK8
          clear F8 K8 ho hg hnn y10 yf x10 xf NW
          go_wp2_with fail
          refine (IHV.out _ n1 _ HF8.out n1b).mono ?_
          have mT : m * c.W2 + c.W2 ≤ c.T := by
            unfold SeC.T
            have := Nat.mul_le_mul_right c.W2 (show m + 1 ≤ c.H2 by have := HM.out; have := HMM.out; omega)
            rw [Nat.add_mul, Nat.one_mul] at this
            exact this
          have SA := hide' (set_app (w := c.W2) (by omega) rs v)
          rw [HMM.out] at SA
          have LA : (rs ++ [v]).length * c.W2 = m * c.W2 + c.W2 := by rw [List.length_append, HMM.out]; simp [Nat.add_mul]
          have HLA := hide' LA
          have HMT := hide' mT
          have v2 : v < 2 ^ c.W2 := by rw [HP2.out]; omega
          have HV2 := hide' v2
          clear LA mT v2
          rintro e w9 (⟨rv', rs', n', rfl, hF, hl, hsm, hB⟩ | ⟨rv', n', rfl, hF, hK, hn', hN⟩)
          · have OUT := hide' (show FillOut c V n (d + 1) (.slice a m q) rs (.returned (.bool true)) w9 from Or.inl ⟨rv', rs', n', rfl, hF, hl, hsm, by
              rw [HMM.out]
              rw [HLA.out] at hB
              exact best_row (okP_loc c.born c.stay c.W2 c.pc c.T) HMT.out HV2.out DN.out RO.out (best_congr (fun i hi => (SA.out i hi).symm) hB)⟩)
            clear hF hl hsm hB
            go_wp2
            go_ret
            exact OUT.out
          · obtain ⟨a9, q9, rfl, q9a, -⟩ := hF.slice
            rw [List.length_append] at hF q9a
            simp only [List.length_cons, List.length_nil, Nat.zero_add] at hF q9a
            have KN := hide' (HK8.out.trans hK)
            have L9 := hide' (KN.out lb _ L5.out)
            have z0 := cell_of_row w9 _ 0 _ _ _ L9.out
            simp at z0
            obtain ⟨-, -, -, z10, -, zf⟩ := hF.cells
            obtain ⟨FP, KP⟩ := hF.pop hc
            rw [HSB.out, HMM.out] at z10
            rw [HSB.out] at zf
            have NN := hide' (show NoneB c.T c.ok (setR (gR c.W2 rs) c.W2 m v) (m * c.W2 + c.W2) from by rw [HLA.out] at hN; exact none_congr (fun i hi => (SA.out i hi).symm) hN)
            have NN' := hide' hn'
            have HFP := hide' FP
            have HKP := hide' (KN.out.trans KP)
            rw [HSB.out, HMM.out] at HFP HKP
            have Q0 : ¬ q9 = 0 := by omega
            have mq : (m : Int) ≤ (q9 : Int) := by have := HMM.out; omega
            have mi0 : (0 : Int) ≤ (m : Int) := by omega
            have mw : IntKind.i64.wrap (m : Int) = (m : Int) := by simp [IntKind.wrap, IntKind.bits, IntKind.signed]; omega
            clear hF hK hn' hN FP KP
            go_wp2
            go_region
            go_wp2
            exact ⟨⟨v + 1, n', _, by go_num, by omega, HFP, HKP, hide' (by have h1 := NB.out; have h2 := NN'.out; rw [Nat.add_mul]; omega), hide' (fun u hu hr => by
              by_cases e : u = v
              · subst e; exact NN.out
              · exact DN.out u (by omega) hr)⟩, by simp [intOf]; omega⟩
      · obtain rfl : v = P2 := by omega
        have mT : m * c.W2 + c.W2 ≤ c.T := by
          unfold SeC.T
          have := Nat.mul_le_mul_right c.W2 (show m + 1 ≤ c.H2 by have := HM.out; have := HMM.out; omega)
          rw [Nat.add_mul, Nat.one_mul] at this
          exact this
        have NN := hide' (show NoneB c.T c.ok (gR c.W2 rs) (m * c.W2) from none_row (okP_loc c.born c.stay c.W2 c.pc c.T) mT (fun u hu => DN.out u (by rw [← HP2.out]; exact hu)))
        have DD := hide' (show DeadR c.T c.W2 c.ok m ab he from by
          have := dead_of (T := c.T) (born := c.born) (stay := c.stay) (pc := c.pc) (w := c.W2) (by omega) (rs := rs) (by rw [HMM.out]; exact NN.out)
          rw [HMM.out, AB.out, HE.out] at this
          exact this)
        have LL := hide' (KW.out lb _ L5.out)
        obtain ⟨D1, o1, i1, k1⟩ := FW.out.map
        have n1b : n1 + 1 ≤ n + cF (d + 1) := by
          have h1 := NB.out
          rw [cF]
          have h3 := Nat.mul_le_mul_right (cF d) P128
          omega
        have n1m : n1 < maxLen := by have := HN.out; unfold maxLen; omega
        obtain ⟨w8, hrun, hown, htu⟩ := (show wr.drew.ownsMap Tryd.prog 63 unitElem c.mb n1 D1 from o1.drew).store (t := 58) lawE Tryd.underlying58 n1m (key_ends (x := m) (y := ab) (z := he) (by omega) (by omega) (by omega)) unitElem_mk
        obtain ⟨FK, KK⟩ := (FW.out.below hc (Below.refl _ _).drew).know (D := D1) hc hown (i1.put _ _) (fun r x y hr hx hy hh => by
          by_cases e : kE r x y = kE m ab he
          · obtain ⟨rfl, rfl, rfl⟩ := kE_inj hr hx hy (by omega) (by omega) (by omega) e
            exact DD.out
          · rw [Maps.has_put_other e] at hh; exact k1 r x y hr hx hy hh) htu
        have KF := hide' ((K5.out.trans KW.out).trans ((KpR.below (show Below wr.heap.size wr wr.drew from (Below.refl _ _).drew)).trans KK))
        have OUT := hide' (show FillOut c V n (d + 1) (.slice a m q) rs (.returned (.bool false)) w8 from Or.inr ⟨rv1, n1 + 1, rfl, FK, KF.out, n1b, by rw [HMM.out]; exact NN.out⟩)
        have l0 := cell_of_row wr _ 0 _ _ _ LL.out
        have l1 := cell_of_row wr _ 1 _ _ _ LL.out
        have l2 := cell_of_row wr _ 2 _ _ _ LL.out
        simp at l0 l1 l2
        have c11 := FW.out.cells.2.2.2.2.1
        rw [HSB.out] at c11
        clear o1 i1 k1 hown htu FK KK n1b n1m mT
        go_wp2
        go_region
        go_wp2
        go_ret
        exact OUT.out
/-- A search from whatever rows are chosen. -/
theorem fill_any (c : SeC) (hc : SeOk c) : ∀ (d : Nat) (V : World) (n : Nat) (rv : Value) (rs : List Nat), rs.length + d = c.H2 → FSt c V n rv rs → (∀ v ∈ rs, v < 2 ^ c.W2) → n + cF d ≤ 70368744177664 → Calls Tryd.prog 14 #[.pointer (some ⟨c.sb, 0, none⟩)] V (FillOut c V n d rv rs)
  | 0, V, n, rv, rs, hm, h, hs, _ => fill_end c hc V n rv rs (by omega) h hs
  | d + 1, V, n, rv, rs, hm, h, hs, hn => fill_step c hc d (fill_any c hc d) V n rv rs hm h hs hn
end Go.Proofs.YtfdbgkdbmlmigaaDoor

