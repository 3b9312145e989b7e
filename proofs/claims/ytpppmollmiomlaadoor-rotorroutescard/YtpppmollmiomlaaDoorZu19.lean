/-
  What the last text of this claim leans on, part 19: Rw9, Rt9.
-/
import Derived.Test.YtpppmollmiomlaaDoorZu18
namespace Go.Proofs.YtpppmollmiomlaaDoor
open Go.RowKit
set_option linter.unusedVariables false
set_option linter.unusedSimpArgs false
set_option maxRecDepth 100000 in
theorem isPlaceR_any (P x : Int) (ea : Option Addr) (n c : Nat) (w : World) :
    Calls Tryd.prog 26 #[.agg #[.int .i64 P, .slice ea n c], .int .i64 x] w fun e w' => e = .returned (.bool (inB P x)) ∧ Below w.heap.size w w' := by
  obtain ⟨w1, hw1⟩ : ∃ w1, w.alloc (.cells #[.int .i64 P, .slice ea n c] 24) = w1 := ⟨_, rfl⟩
  have HW1 := hide' hw1
  have B1 := hide' (show Below w.heap.size w w1 by rw [← hw1]; exact (Below.refl _ _).alloc (Nat.le_refl _) _)
  have R1 : w1.heap[w.heap.size]? = some (.cells #[.int .i64 P, .slice ea n c] 24 (0, 0)) := by rw [← hw1]; exact heap_alloc_new _ _
  have y0 := cell_of_row w1 _ 0 _ _ _ R1
  simp at y0
  clear hw1 R1
  obtain ⟨z, hz⟩ : ∃ z, inB P x = z := ⟨_, rfl⟩
  have Y := hide' (fun (h : 0 ≤ x) (h2 : x < P) => show z = true by rw [← hz]; exact inB_yes h h2)
  have N := hide' (fun (h : ¬ (0 ≤ x ∧ x < P)) => show z = false by rw [← hz]; exact inB_no h)
  rw [hz]
  clear hz
  go_enter Tryd.func26, Tryd.ntmps26
  go_upto_region 1 with fail
  rw [HW1.out]
  by_cases q1 : 0 ≤ x
  · by_cases q2 : x < P
    · go_wp2
      go_ret
      rw [Y.out q1 q2]
      exact ⟨by simp [q1, q2], B1.out⟩
    · go_wp2
      go_ret
      rw [N.out (by omega)]
      exact ⟨by simp [q1, q2], B1.out⟩
  · go_wp2
    go_ret
    rw [N.out (by omega)]
    exact ⟨by simp [q1], B1.out⟩
set_option maxRecDepth 100000 in
set_option maxHeartbeats 3200000 in
theorem sumR_any (cs : List Int) (ca : Option Addr) (cn cc : Nat) (w : World) (hC : ArgP w cs ca cn cc) (n2 : cn ≤ 10) (hc : ∀ k, k < cn → 0 ≤ cs.getD k 0 ∧ cs.getD k 0 ≤ 10000) :
    Calls Tryd.prog 22 #[.slice ca cn cc] w fun e w' => e = .returned (.int .i64 (smS cn fun k => cs.getD k 0)) ∧ w' = w := by
  have HC := hide' hC
  have HL := hide' hC.len
  have HR := hide' hc
  have BD := hide' (fun i (hi : i ≤ cn) => show 0 ≤ smS i (fun k => cs.getD k 0) ∧ smS i (fun k => cs.getD k 0) ≤ 10000 * i from ⟨smS_nonneg fun k hk => (hc k (by omega)).1, smS_le_mul fun k hk => (hc k (by omega)).2⟩)
  clear hC hc
  go_enter Tryd.func22, Tryd.ntmps22
  go_wp2
  go_loopw [3, 8] (fun ov iv wr => ∃ i : Nat, ov = .int .i64 (smS i fun k => cs.getD k 0) ∧ iv = .int .i64 (i : Int) ∧ i ≤ cn ∧ wr = w) (fun _ iv _ => cn - (intOf iv).toNat)
  case atStart => exact ⟨0, rfl, rfl, by omega, rfl⟩
  case round =>
    obtain ⟨i, rfl, rfl, hi, rfl⟩ := hrel
    by_cases d : (i : Int) < (cn : Int)
    · have hl : i < cs.length := by have := HL.out; omega
      obtain ⟨g, off, rfl, -, c0⟩ := HC.out.cells i hl
      rw [← at_getD hl] at c0
      have b1 := BD.out i (by omega)
      have b2 := HR.out i (by omega)
      have E := hide' (show smS (i + 1) (fun k => cs.getD k 0) = smS i (fun k => cs.getD k 0) + cs.getD i 0 from rfl)
      obtain ⟨x, hx⟩ : ∃ x, cs.getD i 0 = x := ⟨_, rfl⟩
      obtain ⟨z, hz⟩ : ∃ z, smS i (fun k => cs.getD k 0) = z := ⟨_, rfl⟩
      rw [hx] at c0 b2 E
      rw [hz] at b1 E ⊢
      obtain ⟨y, hy⟩ : ∃ y, z + x = y := ⟨_, rfl⟩
      have wy : IntKind.i64.wrap y = y := by simp [IntKind.wrap, IntKind.bits, IntKind.signed]; omega
      rw [hy] at E
      clear hx hz b1 b2
      go_wp2
      exact ⟨⟨i + 1, by rw [E.out], by go_num, by omega, by trivial⟩, by simp [intOf]; omega⟩
    · obtain rfl : i = cn := by omega
      go_wp2
      go_ret
      exact ⟨rfl, rfl⟩
def mayI (s : Int) (d : Nat) (k : Nat) (x : Int) : Prop := ((k : Int) = s ∧ x = 0) ∨ (¬ (k : Int) = s ∧ 0 ≤ x ∧ x < (d : Int))
theorem may_I (s d k : Nat) (x : Int) : mayB s d k x ↔ mayI (s : Int) d k x := by unfold mayB mayI; omega
/-- What is wrong with signs. -/
def SnG (P s : Int) (xs : List EgT) (ss : List Int) (f : Nat) : Prop := (¬ (ss.length : Int) = P ∧ f = 3) ∨ ((ss.length : Int) = P ∧ (∃ k, k < ss.length ∧ ¬ mayI s (dgF xs k) k (ss.getD k 0)) ∧ f = 1) ∨ ((ss.length : Int) = P ∧ (∀ k, k < ss.length → mayI s (dgF xs k) k (ss.getD k 0)) ∧ f = 0)
def SgG (P : Int) (xs : List EgT) (s : Int) (ss : List Int) (f : Nat) : Prop := (¬ f = 0 ∧ SiG P xs s f) ∨ (SiG P xs s 0 ∧ SnG P s xs ss f)
theorem SnG.only {P s : Int} {xs : List EgT} {ss : List Int} {f g : Nat} (h : SnG P s xs ss f) (k : SnG P s xs ss g) : f = g := by
  unfold SnG at h k
  rcases h with h | h | h <;> rcases k with k | k | k
  all_goals first | omega | skip
  · obtain ⟨j, h1, h2⟩ := h.2.1; exact absurd (k.2.1 j h1) h2
  · obtain ⟨j, h1, h2⟩ := k.2.1; exact absurd (h.2.1 j h1) h2
theorem SgG.only {P : Int} {xs : List EgT} {s : Int} {ss : List Int} {f g : Nat} (h : SgG P xs s ss f) (k : SgG P xs s ss g) : f = g := by
  unfold SgG at h k
  rcases h with h | h <;> rcases k with k | k
  · exact h.2.only k.2
  · exact absurd (h.2.only k.1) h.1
  · exact absurd (k.2.only h.1) k.1
  · exact h.2.only k.2
/-- Signs as numbers. -/
def sgN (ss : List Int) (k : Nat) : Nat := (ss.getD k 0).toNat
theorem SgG.good {P : Int} {xs : List EgT} {s : Int} {ss : List Int} (h : SgG P xs s ss 0) : ∃ Q t : Nat, P = (Q : Int) ∧ s = (t : Int) ∧ RtOk Q t xs (sgN ss) ∧ ss = lsN Q (sgN ss) := by
  rcases h with h | ⟨h, k⟩
  · exact absurd rfl h.1
  · obtain ⟨h1, h2, h3⟩ := h.good
    obtain ⟨Q, rfl, hO⟩ := h1.good
    obtain ⟨t, rfl⟩ := Int.eq_ofNat_of_zero_le h2
    unfold SnG at k
    have k : (ss.length : Int) = (Q : Int) ∧ ∀ k, k < ss.length → mayI (t : Int) (dgF xs k) k (ss.getD k 0) := by
      rcases k with k | k | k
      · omega
      · omega
      · exact ⟨k.1, k.2.1⟩
    have nn : ∀ k, k < ss.length → 0 ≤ ss.getD k 0 := fun k' hk => by
      have := k.2 k' hk
      unfold mayI at this
      omega
    refine ⟨Q, t, rfl, rfl, ⟨hO, by omega, fun j hj js => ?_, ?_, fun j hj => ?_⟩, ?_⟩
    · have := k.2 j (by omega)
      unfold mayI at this
      unfold sgN
      omega
    · have := k.2 t (by omega)
      unfold mayI at this
      unfold sgN
      omega
    · unfold sgN
      rw [show ss.getD j 0 = 0 by simp [List.getD, show ss.length ≤ j by omega]]
      rfl
    · apply List.ext_getElem
      · rw [lsN_len]; omega
      · intro i h1 h2
        have e := nn i h1
        rw [at_getD h1] at e
        simp only [lsN, List.getElem_map, List.getElem_range, sgN]
        rw [at_getD h1]
        omega
def WithOut (w : World) (P : Int) (xs : List EgT) (s : Int) (ss : List Int) (F : Nat → Prop) (e : Ending) (w' : World) : Prop :=
  ∃ f, F f ∧ Below w.heap.size w w' ∧ ((¬ f = 0 ∧ e = .returned (.tuple #[.pointer none, errOf f])) ∨ (f = 0 ∧ ∃ (Q t pb wb sb sc tb : Nat) (v : Nat → Value), P = (Q : Int) ∧ s = (t : Int) ∧ RtOk Q t xs (sgN ss) ∧ ss = lsN Q (sgN ss) ∧ e = .returned (.tuple #[.pointer (some ⟨pb, 0, none⟩), .nilIface]) ∧ BdR w' pb w.heap.size Q t wb sb sc tb v (wyO xs) (lsN Q (sgN ss)) (lsN Q fun _ => 0)))
theorem rep_lsN (Q : Nat) : List.replicate Q (0 : Int) = lsN Q fun _ => 0 := by simp [lsN, List.map_const']
set_option maxRecDepth 100000 in
set_option maxHeartbeats 6400000 in
theorem withSigns_any (P : Int) (xs : List EgT) (ea : Option Addr) (n c : Nat) (s : Int) (ss : List Int) (ca : Option Addr) (cn cc : Nat) (w : World) (hE : ArgE w xs ea n c) (hC : ArgP w ss ca cn cc) :
    Calls Tryd.prog 17 #[.agg #[.int .i64 P, .slice ea n c], .int .i64 s, .slice ca cn cc] w (WithOut w P xs s ss (SgG P xs s ss)) := by
  obtain ⟨w1, hw1⟩ : ∃ w1, w.alloc (.cells #[.int .i64 P, .slice ea n c] 24) = w1 := ⟨_, rfl⟩
  have HW1 := hide' hw1
  have B1 := hide' (show Below w.heap.size w w1 by rw [← hw1]; exact (Below.refl _ _).alloc (Nat.le_refl _) _)
  have R1 := hide' (show w1.heap[w.heap.size]? = some (.cells #[.int .i64 P, .slice ea n c] 24 (0, 0)) by rw [← hw1]; exact heap_alloc_new _ _)
  have CK := hide' (Check_any P xs ea n c w1 (hE.below B1.out))
  have IP := hide' (fun x V => isPlaceR_any P x ea n c V)
  have LY := hide' (fun (V : World) (h : Below w.heap.size w V) (Q t : Nat) (hQ : P = (Q : Int)) (ht : s = (t : Int)) (hO : OkG Q xs) (hl : cn = Q) => show Calls Tryd.prog 29 #[.agg #[.int .i64 P, .slice ea n c], .int .i64 s, .slice ca cn cc] V (BoardOut V Q t xs ss) by
    rw [hQ, ht]
    exact layR_any Q t xs ea n c ss ca cn cc V (hE.below h) (hC.below h) hO.p1 hO.p2 (by rw [hE.len]; exact hO.n4) hO.ok hl)
  have HC := hide' (fun (V : World) (h : Below w.heap.size w V) => hC.below h)
  have HL := hide' hC.len
  have nm := hC.max
  unfold maxLen at nm
  have y0 := cell_of_row w1 _ 0 _ _ _ R1.out
  have y1 := cell_of_row w1 _ 1 _ _ _ R1.out
  simp at y0 y1
  clear hw1 hE hC
  go_enter Tryd.func17, Tryd.ntmps17
  go_upto_region 1 with fail
  rw [HW1.out]
  go_wp2_with fail
  refine CK.out.mono ?_
  rintro e w2 ⟨f, hf, rfl, b2⟩
  have HF := hide' hf
  have B2 := hide' (B1.out.trans (b2.mono B1.out.size))
  have R2 := hide' ((b2.block _ (ltS_of_block R1.out)).trans R1.out)
  clear hf b2 y0 y1
  by_cases h0 : f = 0
  · subst h0
    rw [show errOf 0 = .nilIface from rfl]
    have y0 := cell_of_row w2 _ 0 _ _ _ R2.out
    have y1 := cell_of_row w2 _ 1 _ _ _ R2.out
    simp at y0 y1
    go_wp2_with fail
    refine (IP.out s _).mono ?_
    rintro e w3 ⟨rfl, b3⟩
    have B3 := hide' (B2.out.trans (b3.mono B2.out.size))
    have R3 := hide' ((b3.block _ (ltS_of_block R2.out)).trans R2.out)
    clear b3 y0 y1
    by_cases k : 0 ≤ s ∧ s < P
    · rw [inB_yes k.1 k.2]
      obtain ⟨Q, hQ, hO⟩ := HF.out.good
      obtain ⟨t, ht⟩ := Int.eq_ofNat_of_zero_le k.1
      have SI := hide' (SiG.of HF.out k.1 k.2)
      have HQ := hide' hQ
      have HT := hide' ht
      have HO := hide' hO
      have TQ := hide' (show t < Q by omega)
      clear k hQ ht hO
      have y0 := cell_of_row w3 _ 0 _ _ _ R3.out
      have y1 := cell_of_row w3 _ 1 _ _ _ R3.out
      simp at y0 y1
      by_cases k : (cn : Int) = P
      · have e1 : ((cn : Int) != P) = false := by simpa using k
        have HK := hide' (show cn = Q by have := HQ.out; omega)
        have KP := hide' (show (ss.length : Int) = P by have := HL.out; omega)
        have CL := hide' (LY.out w3 B3.out Q t HQ.out HT.out HO.out HK.out)
        clear k
        go_wp2_with fail
        refine CL.out.mono ?_
        rintro e w4 ⟨⟨pb, wb, sb, sc, tb, v, rfl, hB⟩, b4⟩
        have HB := hide' hB
        have B4 := hide' (B3.out.trans (b4.mono B3.out.size))
        clear b4 hB y0 y1
        go_wp2
        go_loopw [34] (fun iv wr => ∃ i : Nat, iv = .int .i64 (i : Int) ∧ i ≤ cn ∧ wr = w4 ∧ Hid (∀ j, j < i → mayI s (dgF xs j) j (ss.getD j 0))) (fun iv _ => cn - (intOf iv).toNat)
        case atStart => exact ⟨0, rfl, by omega, rfl, hide' fun j h => by omega⟩
        case round =>
          obtain ⟨i, rfl, hi, rfl, HA⟩ := hrel
          by_cases d : (i : Int) < (cn : Int)
          · have hl : i < ss.length := by have := HL.out; omega
            obtain ⟨g, off, rfl, hg, c0⟩ := (HC.out wr B4.out).cells i hl
            obtain ⟨x, hx⟩ : ∃ x, ss[i] = x := ⟨_, rfl⟩
            rw [hx] at c0
            have EQ := hide' (show ss.getD i 0 = x by rw [at_getD hl, hx])
            have MS := hide' (maySign_any wr pb w3.heap.size Q t wb sb sc tb v (wyO xs) ss _ HB.out i (by have := HK.out; omega) x)
            rw [wyO_len] at MS
            clear hx
            go_wp2_with fail
            refine MS.out.mono ?_
            rintro e w5 ⟨⟨z, rfl, hz⟩, rfl⟩
            rw [may_I, ← HT.out] at hz
            cases z with
            | true =>
              have NX := hide' (show ∀ j, j < i + 1 → mayI s (dgF xs j) j (ss.getD j 0) from fun j hj => by
                by_cases e : j = i
                · rw [e, EQ.out]; exact hz.1 rfl
                · exact HA.out j (by omega))
              clear hz
              go_wp2
              exact ⟨⟨i + 1, by go_num, by omega, by trivial, NX⟩, by simp [intOf]; omega⟩
            | false =>
              have X := hide' (show ¬ mayI s (dgF xs i) i (ss.getD i 0) from fun h => by rw [EQ.out] at h; have := hz.2 h; cases this)
              clear hz
              go_wp2
              go_ret2
              exact ⟨1, Or.inr ⟨SI.out, Or.inr (Or.inl ⟨KP.out, ⟨i, hl, X.out⟩, rfl⟩)⟩, B4.out, Or.inl ⟨by decide, rfl⟩⟩
          · obtain rfl : i = cn := by omega
            have SG := hide' (show SgG P xs s ss 0 from Or.inr ⟨SI.out, Or.inr (Or.inr ⟨KP.out, fun j hj => HA.out j (by have := HL.out; omega), rfl⟩)⟩)
            go_wp2
            go_ret2
            obtain ⟨Q', t', e1, e2, hR, hs⟩ := SG.out.good
            have q1 : Q' = Q := by have := HQ.out; omega
            have q2 : t' = t := by have := HT.out; omega
            subst q1
            subst q2
            refine ⟨0, SG.out, B4.out, Or.inr ⟨rfl, Q', t', pb, wb, sb, sc, tb, v, e1, e2, hR, hs, rfl, ?_⟩⟩
            have hb := HB.out.mono B3.out.size
            rw [rep_lsN, hs] at hb
            have e3 : sgN (lsN Q' (sgN ss)) = sgN ss := by rw [← hs]
            rw [← hs] at hb
            rw [← hs]
            exact hb
      · have X := hide' (show ¬ (ss.length : Int) = P by have := HL.out; omega)
        have e1 : ((cn : Int) != P) = true := by simpa using k
        clear k
        go_wp2
        go_ret2
        exact ⟨3, Or.inr ⟨SI.out, Or.inl ⟨X.out, rfl⟩⟩, B3.out, Or.inl ⟨by decide, rfl⟩⟩
    · rw [inB_no k]
      have X := hide' (show SiG P xs s 1 from Or.inr (Or.inl ⟨HF.out, k, rfl⟩))
      clear k
      go_wp2
      go_ret2
      exact ⟨1, Or.inl ⟨by decide, X.out⟩, B3.out, Or.inl ⟨by decide, rfl⟩⟩
  · have H0 := hide' h0
    have EF := hide' (errOf_not h0)
    rw [EF.out]
    clear h0
    go_wp2
    go_ret2
    exact ⟨f, Or.inl ⟨H0.out, Or.inl ⟨H0.out, HF.out⟩⟩, B2.out, Or.inl ⟨H0.out, by rw [EF.out]; rfl⟩⟩
end Go.Proofs.YtpppmollmiomlaaDoor

namespace Go.Proofs.YtpppmollmiomlaaDoor
set_option linter.unusedVariables false
theorem arr_nonneg (wy : Nat → Nat → Nat) (d s0 : Nat → Nat) (k j m : Nat) : 0 ≤ arrR wy d s0 k j m := smS_nonneg fun i _ => by split <;> omega
theorem ch_nonneg {n s : Nat} {wy : Nat → Nat → Nat} {d sg : Nat → Nat} {c : Nat → Int} {u : Nat → Nat} (h : WkR n s wy d sg c u) (cs : 0 ≤ c s) : ∀ k, k < n → 0 ≤ chR n s wy d sg c u k := fun k hk => by
  by_cases e : k = s
  · rw [e]
    unfold chR
    rw [h.zero]
    have : 0 ≤ smS n fun i => if i = s then 0 else arrR wy d sg i s (u i) := smS_nonneg fun i _ => by
      split
      · omega
      · exact arr_nonneg ..
    omega
  · exact h.has k hk e
/-- What stands while chips are routed: all of the first places, so many of the next. -/
structure RSt (n s : Nat) (wy : Nat → Nat → Nat) (d sg : Nat → Nat) (c : Nat → Int) (k : Nat) (i : Nat) (u : Nat → Nat) : Prop where
  wk : WkR n s wy d sg c u
  ch : ∀ j, j < n → j ≠ s → chR n s wy d sg c u j = if j < k then 0 else if j = k then c k - i else c j
  zr : ∀ j, n ≤ j → u j = 0
theorem RSt.start {n s : Nat} {wy : Nat → Nat → Nat} {d sg : Nat → Nat} {c : Nat → Int} (hc : ∀ k, k < n → 0 ≤ c k) : RSt n s wy d sg c 0 0 fun _ => 0 :=
  ⟨WkR.start hc, fun j hj js => by
    unfold chR
    rw [smS_congr (g := fun _ => 0) fun k _ => by split <;> rfl, smS_zero]
    dsimp only
    rw [if_neg (by omega)]
    split
    · rename_i e; rw [e]; omega
    · omega, fun _ _ => rfl⟩
theorem RSt.next {n s : Nat} {wy : Nat → Nat → Nat} {d sg : Nat → Nat} {c : Nat → Int} {k i : Nat} {u : Nat → Nat} (h : RSt n s wy d sg c k i u) (e : k ≠ s → c k = i) : RSt n s wy d sg c (k + 1) 0 u :=
  ⟨h.wk, fun j hj js => by
    rw [h.ch j hj js]
    by_cases a : j < k
    · rw [if_pos a, if_pos (by omega)]
    · rw [if_neg a]
      by_cases b : j = k
      · rw [if_pos b, if_pos (by omega), e (by omega)]; omega
      · rw [if_neg b, if_neg (by omega)]
        split
        · rename_i q; rw [q]; omega
        · rfl, h.zr⟩
theorem RSt.done {n s : Nat} {wy : Nat → Nat → Nat} {d sg : Nat → Nat} {c : Nat → Int} {i : Nat} {u : Nat → Nat} (h : RSt n s wy d sg c n i u) : doneR n s wy d sg c u := fun j hj js => by rw [h.ch j hj js, if_pos hj]
theorem RSt.lead {n s : Nat} {wy : Nat → Nat → Nat} {d sg : Nat → Nat} {c : Nat → Int} {k i m : Nat} {u u2 : Nat → Nat} (h : RSt n s wy d sg c k i u) (hk : k < n) (ks : k ≠ s) (o : OnR n s k wy d (sgR d sg u) (chR n s wy d sg c u) m s u2) : RSt n s wy d sg c k (i + 1) fun j => u j + u2 j := by
  obtain ⟨_, _, o3, o4, o5, _⟩ := o
  refine ⟨h.wk.then o3, fun j hj js => ?_, fun j hj => by show u j + u2 j = 0; rw [h.zr j hj, o5 j hj]⟩
  rw [← ch_sg, o4 j hj js, if_neg js, h.ch j hj js]
  by_cases a : j < k
  · rw [if_pos a, if_pos a, if_neg (by omega)]; omega
  · rw [if_neg a, if_neg a]
    by_cases b : j = k
    · rw [if_pos b, if_pos b, if_pos b]; omega
    · rw [if_neg b, if_neg b, if_neg b]; omega
/-- A walk by an order: what is wrong, and how many went from each. -/
def walkU (n s : Nat) (wy : Nat → Nat → Nat) (d sg : Nat → Nat) (c : Nat → Int) : List Int → (Nat → Nat) → Nat × (Nat → Nat)
  | [], u => (0, u)
  | x :: r, u => if x < 0 ∨ (n : Int) ≤ x ∨ x = (s : Int) then (1, u) else if chR n s wy d sg c u x.toNat = 0 then (7, u) else walkU n s wy d sg c r (upR u x.toNat)
theorem walk_off {n s : Nat} {wy : Nat → Nat → Nat} {d sg : Nat → Nat} {c : Nat → Int} {x : Int} {r : List Int} {u : Nat → Nat} (h : x < 0 ∨ (n : Int) ≤ x ∨ x = (s : Int)) : walkU n s wy d sg c (x :: r) u = (1, u) := by rw [walkU, if_pos h]
theorem walk_none {n s : Nat} {wy : Nat → Nat → Nat} {d sg : Nat → Nat} {c : Nat → Int} {x : Nat} {r : List Int} {u : Nat → Nat} (hx : x < n) (xs : x ≠ s) (h : chR n s wy d sg c u x = 0) : walkU n s wy d sg c ((x : Int) :: r) u = (7, u) := by
  rw [walkU, if_neg (by omega), show (x : Int).toNat = x by omega, if_pos h]
theorem walk_go {n s : Nat} {wy : Nat → Nat → Nat} {d sg : Nat → Nat} {c : Nat → Int} {x : Nat} {r : List Int} {u : Nat → Nat} (hx : x < n) (xs : x ≠ s) (h : chR n s wy d sg c u x ≠ 0) : walkU n s wy d sg c ((x : Int) :: r) u = walkU n s wy d sg c r (upR u x) := by
  rw [walkU, if_neg (by omega), show (x : Int).toNat = x by omega, if_neg h]
/-- What stands while chips walk. -/
structure WSt (n s : Nat) (wy : Nat → Nat → Nat) (d sg : Nat → Nat) (c : Nat → Int) (u : Nat → Nat) : Prop where
  wk : WkR n s wy d sg c u
  tot : smS n (chR n s wy d sg c u) = smS n c
  zr : ∀ j, n ≤ j → u j = 0
theorem WSt.start {n s : Nat} {wy : Nat → Nat → Nat} {d sg : Nat → Nat} {c : Nat → Int} (hc : ∀ k, k < n → 0 ≤ c k) : WSt n s wy d sg c fun _ => 0 :=
  ⟨WkR.start hc, smS_congr fun j _ => by
    unfold chR
    rw [smS_congr (g := fun _ => 0) fun k _ => by split <;> rfl, smS_zero]
    dsimp only
    omega, fun _ _ => rfl⟩
theorem WSt.step {n s : Nat} {wy : Nat → Nat → Nat} {d sg : Nat → Nat} {c : Nat → Int} {u : Nat → Nat} {x : Nat} (inn : ∀ k i, k < n → i < d k → wy k i < n) (hd : ∀ k, k < n → k ≠ s → 0 < d k) (h : WSt n s wy d sg c u) (hx : x < n) (xs : x ≠ s) (h0 : chR n s wy d sg c u x ≠ 0) : WSt n s wy d sg c (upR u x) := by
  have ge := h.wk.has x hx xs
  refine ⟨h.wk.one hx xs (by omega), ?_, fun j hj => by unfold upR; rw [if_neg (by omega)]; exact h.zr j hj⟩
  have tw : towR wy d sg x (u x) < n := by unfold towR; exact inn x _ hx (Nat.mod_lt _ (hd x hx xs))
  rw [show chR n s wy d sg c (upR u x) = fun j => (chR n s wy d sg c u j - (if j = x then 1 else 0)) + (if j = towR wy d sg x (u x) then 1 else 0) from funext fun j => by
    rw [ch_upR hx xs]
    congr 1
    by_cases q : towR wy d sg x (u x) = j
    · rw [if_pos q, if_pos q.symm]
    · rw [if_neg q, if_neg (fun e => q e.symm)], smS_add, smS_sub, smS_at, smS_at, if_pos hx, if_pos tw]
  have := h.tot
  omega
theorem WSt.le {n s : Nat} {wy : Nat → Nat → Nat} {d sg : Nat → Nat} {c : Nat → Int} {u : Nat → Nat} (h : WSt n s wy d sg c u) (cs : 0 ≤ c s) {k : Nat} (hk : k < n) : chR n s wy d sg c u k ≤ smS n c := by
  rw [← h.tot]
  exact smS_one (ch_nonneg h.wk cs) hk
/-- What lies there: of the sink nothing. -/
def lfR (n s : Nat) (wy : Nat → Nat → Nat) (d sg : Nat → Nat) (c : Nat → Int) (u : Nat → Nat) (j : Nat) : Nat := if j = s then 0 else (chR n s wy d sg c u j).toNat
end Go.Proofs.YtpppmollmiomlaaDoor

