/-
  What the last text of this claim leans on, part 23: Rr4, LawRa, Rr5.
-/
import Derived.Test.YtpppmollmiomlaaDoorZu22
import Derived.Test.YtpppmollmiomlaaDoorZu20
import Derived.Deep.LoopGhost
namespace Go.Proofs.YtpppmollmiomlaaDoor
open Go.RowKit
set_option linter.unusedVariables false
set_option linter.unusedSimpArgs false
def FaultOut (w : World) (F : Nat → Prop) (e : Ending) (w' : World) : Prop := ∃ f : Nat, F f ∧ e = .returned (.int .i64 (f : Int)) ∧ Below w.heap.size w w'
theorem Fault_any (P : Int) (xs : List EgT) (ea : Option Addr) (n c : Nat) (w : World) (hE : ArgE w xs ea n c) :
    Calls Tryd.prog 15 #[.agg #[.int .i64 P, .slice ea n c]] w (FaultOut w (FaG P xs)) := by
  by_cases q1 : P < 1 ∨ 10 < P
  · refine (Fault_places P ea n c w q1).mono ?_
    rintro e w' ⟨rfl, b⟩
    exact ⟨1, Or.inl ⟨q1, rfl⟩, rfl, b⟩
  · by_cases q2 : 40 < n
    · refine (Fault_full P ea n c w (by omega) (by omega) q2).mono ?_
      rintro e w' ⟨rfl, b⟩
      exact ⟨4, Or.inr (Or.inl ⟨by omega, by rw [← hE.len]; exact q2, rfl⟩), rfl, b⟩
    · by_cases q3 : ∃ j, j < xs.length ∧ badE P (xs.getD j egz)
      · refine (Fault_edge P xs ea n c w hE (by omega) (by omega) (by omega) q3).mono ?_
        rintro e w' ⟨rfl, b⟩
        exact ⟨1, Or.inr (Or.inr (Or.inl ⟨by omega, by rw [← hE.len]; omega, q3, rfl⟩)), rfl, b⟩
      · obtain ⟨Q, rfl⟩ := Int.eq_ofNat_of_zero_le (show 0 ≤ P by omega)
        have ok : ∀ j, j < xs.length → ¬ badE Q (xs.getD j egz) := fun j hj hb => q3 ⟨j, hj, hb⟩
        refine (Fault_ok Q xs ea n c w hE (by omega) (by omega) (by omega) ok _ rfl).mono ?_
        rintro e w' ⟨rfl, b⟩
        refine ⟨_, ?_, rfl, b⟩
        by_cases q4 : ∀ k, k < Q → rcM xs Q k = true
        · rw [if_pos q4]
          exact Or.inr (Or.inr (Or.inr (Or.inl ⟨by omega, by rw [← hE.len]; omega, ok, by simpa [allR] using q4, rfl⟩)))
        · rw [if_neg q4]
          exact Or.inr (Or.inr (Or.inr (Or.inr ⟨by omega, by rw [← hE.len]; omega, ok, by simpa [allR] using q4, rfl⟩)))
theorem dg_same {P : Nat} {xs : List EgT} (h : OkG P xs) (k : Nat) : dgS xs (k : Int) xs.length = (dgF xs k : Int) := by
  have a := wy_len h.edges k
  unfold dgF
  rw [a]
  have key : ∀ i, i ≤ xs.length → dgS xs (k : Int) i = dgL ((xs.take i).map edS) k := fun i => by
    induction i with
    | zero => intro _; rfl
    | succ i ih =>
      intro hi
      have e : (xs.take (i + 1)).map edS = (xs.take i).map edS ++ [edS (xs.getD i egz)] := by
        rw [List.take_succ_eq_append_getElem (by omega), List.map_append, eg_at (by omega)]
        rfl
      have o := h.ok i (by omega)
      unfold badE at o
      rw [e]
      have s : dgL ((xs.take i).map edS ++ [edS (xs.getD i egz)]) k = dgL ((xs.take i).map edS) k + dgE (edS (xs.getD i egz)) k := by simp [dgL]
      rw [s, ← ih (by omega)]
      have z : dgE (edS (xs.getD i egz)) k = if (xs.getD i egz).a = (k : Int) ∨ (xs.getD i egz).b = (k : Int) then (xs.getD i egz).t else 0 := by
        unfold dgE edS
        dsimp only
        by_cases q : (xs.getD i egz).a = (k : Int) ∨ (xs.getD i egz).b = (k : Int)
        · rw [if_pos q, if_pos (by omega)]
        · rw [if_neg q, if_neg (by omega)]
      rw [z]
      rfl
  have := key xs.length (Nat.le_refl _)
  rw [List.take_length] at this
  exact this
theorem OkG.tm {P : Nat} {xs : List EgT} (h : OkG P xs) : tmB xs := ⟨h.n4, fun j hj => by have := h.ok j hj; unfold badE at this; omega⟩
set_option maxRecDepth 100000 in
set_option maxHeartbeats 3200000 in
theorem refSum_any (cs : List Int) (ca : Option Addr) (cn cc : Nat) (w : World) (hC : ArgP w cs ca cn cc) (n2 : cn ≤ 10) (hc : ∀ k, k < cn → 0 ≤ cs.getD k 0 ∧ cs.getD k 0 ≤ 10000) :
    Calls Tryd.prog 9 #[.slice ca cn cc] w fun e w' => e = .returned (.int .i64 (smS cn fun k => cs.getD k 0)) ∧ w' = w := by
  have HC := hide' hC
  have HL := hide' hC.len
  have HR := hide' hc
  have BD := hide' (fun i (hi : i ≤ cn) => show 0 ≤ smS i (fun k => cs.getD k 0) ∧ smS i (fun k => cs.getD k 0) ≤ 10000 * i from ⟨smS_nonneg fun k hk => (hc k (by omega)).1, smS_le_mul fun k hk => (hc k (by omega)).2⟩)
  clear hC hc
  go_enter Tryd.func9, Tryd.ntmps9
  go_wp2
  go_loopw [3, 4] (fun ov iv wr => ∃ i : Nat, ov = .int .i64 (smS i fun k => cs.getD k 0) ∧ iv = .int .i64 (i : Int) ∧ i ≤ cn ∧ wr = w) (fun _ iv _ => cn - (intOf iv).toNat)
  case atStart => exact ⟨0, rfl, rfl, by omega, rfl⟩
  case round =>
    obtain ⟨i, rfl, rfl, hi, rfl⟩ := hrel
    by_cases d : (i : Int) < (cn : Int)
    · have hl : i < cs.length := by have := HL.out; omega
      obtain ⟨g, off, rfl, -, c0⟩ := HC.out.cells i hl
      rw [← at_getD hl] at c0
      have b1 := BD.out i (by omega)
      have b2 := HR.out i (by omega)
      have E := hide' (show smS (i + 1) (fun k => cs.getD k 0) = smS i (fun k => cs.getD k 0) + cs.getD i 0 from rfl)
      obtain ⟨x, hx⟩ : ∃ x, cs.getD i 0 = x := ⟨_, rfl⟩
      obtain ⟨z, hz⟩ : ∃ z, smS i (fun k => cs.getD k 0) = z := ⟨_, rfl⟩
      rw [hx] at c0 b2 E
      rw [hz] at b1 E ⊢
      obtain ⟨y, hy⟩ : ∃ y, z + x = y := ⟨_, rfl⟩
      have wy : IntKind.i64.wrap y = y := by simp [IntKind.wrap, IntKind.bits, IntKind.signed]; omega
      rw [hy] at E
      clear hx hz b1 b2
      go_wp2
      exact ⟨⟨i + 1, by rw [E.out], by go_num, by omega, by trivial⟩, by simp [intOf]; omega⟩
    · obtain rfl : i = cn := by omega
      go_wp2
      go_ret
      exact ⟨rfl, rfl⟩
set_option maxRecDepth 100000 in
set_option maxHeartbeats 6400000 in
theorem refLaid_any (P : Int) (ea : Option Addr) (n c : Nat) (s : Int) (cs : List Int) (ca : Option Addr) (cn cc : Nat) (w : World) (hC : ArgP w cs ca cn cc) :
    Calls Tryd.prog 8 #[.agg #[.int .i64 P, .slice ea n c], .int .i64 s, .slice ca cn cc] w (FaultOut w (LaG P s cs)) := by
  obtain ⟨w1, hw1⟩ : ∃ w1, w.alloc (.cells #[.int .i64 P, .slice ea n c] 24) = w1 := ⟨_, rfl⟩
  have HW1 := hide' hw1
  have B1 := hide' (show Below w.heap.size w w1 by rw [← hw1]; exact (Below.refl _ _).alloc (Nat.le_refl _) _)
  have R1 := hide' (show w1.heap[w.heap.size]? = some (.cells #[.int .i64 P, .slice ea n c] 24 (0, 0)) by rw [← hw1]; exact heap_alloc_new _ _)
  have HC := hide' (hC.below B1.out)
  have HL := hide' hC.len
  have nm := hC.max
  unfold maxLen at nm
  have y0 := cell_of_row w1 _ 0 _ _ _ R1.out
  simp at y0
  clear hw1 hC
  go_enter Tryd.func8, Tryd.ntmps8
  go_upto_region 1 with fail
  rw [HW1.out]
  by_cases k : (cn : Int) = P
  · have HK := hide' (show (cs.length : Int) = P by have := HL.out; omega)
    have e1 : ((cn : Int) != P) = false := by simpa using k
    clear k
    go_wp2
    go_loopw [7] (fun iv wr => ∃ i : Nat, iv = .int .i64 (i : Int) ∧ i ≤ cn ∧ wr = w1 ∧ Hid (∀ j, j < i → ¬ badC s j (cs.getD j 0))) (fun iv _ => cn - (intOf iv).toNat)
    case atStart => exact ⟨0, rfl, by omega, rfl, hide' fun j h => by omega⟩
    case round =>
      obtain ⟨i, rfl, hi, rfl, HA⟩ := hrel
      clear y0
      by_cases d : (i : Int) < (cn : Int)
      · have hl : i < cs.length := by have := HL.out; omega
        obtain ⟨g, off, rfl, hg, c0⟩ := HC.out.cells i hl
        obtain ⟨x, hx⟩ : ∃ x, cs[i] = x := ⟨_, rfl⟩
        rw [hx] at c0
        have EQ := hide' (show cs.getD i 0 = x by rw [at_getD hl, hx])
        have BAD := hide' (show badC s i x → FaultOut w (LaG P s cs) (.returned (.int .i64 1)) wr from fun h => ⟨1, Or.inr (Or.inl ⟨HK.out, ⟨i, hl, by rw [EQ.out]; exact h⟩, rfl⟩), rfl, B1.out⟩)
        have NX := hide' (show ¬ badC s i x → ∀ j, j < i + 1 → ¬ badC s j (cs.getD j 0) from fun h j hj => by
          by_cases e : j = i
          · rw [e, EQ.out]; exact h
          · exact HA.out j (by omega))
        clear hx
        by_cases k1 : x < 0
        · have X := hide' (BAD.out (Or.inl k1))
          go_wp2
          go_ret
          exact X.out
        · by_cases k2 : 10000 < x
          · have X := hide' (BAD.out (Or.inr (Or.inl k2)))
            go_wp2
            go_ret
            exact X.out
          · by_cases k3 : (i : Int) = s
            · have e3 : ((i : Int) == s) = true := by simpa using k3
              by_cases k4 : x = 0
              · have X := hide' (NX.out (by unfold badC; omega))
                have e4 : (x != 0) = false := by simpa using k4
                clear k3 k4
                go_wp2
                exact ⟨⟨i + 1, by go_num, by omega, by trivial, X⟩, by simp [intOf]; omega⟩
              · have X := hide' (BAD.out (Or.inr (Or.inr ⟨k3, k4⟩)))
                have e4 : (x != 0) = true := by simpa using k4
                clear k3 k4
                go_wp2
                go_ret
                exact X.out
            · have e3 : ((i : Int) == s) = false := by simpa using k3
              have X := hide' (NX.out (by unfold badC; omega))
              clear k3
              go_wp2
              exact ⟨⟨i + 1, by go_num, by omega, by trivial, X⟩, by simp [intOf]; omega⟩
      · obtain rfl : i = cn := by omega
        go_wp2
        go_ret
        exact ⟨0, Or.inr (Or.inr ⟨HK.out, fun j hj => HA.out j (by have := HL.out; omega), rfl⟩), rfl, B1.out⟩
  · have X := hide' (show ¬ (cs.length : Int) = P by have := HL.out; omega)
    have e1 : ((cn : Int) != P) = true := by simpa using k
    clear k
    go_wp2
    go_ret
    exact ⟨3, Or.inl ⟨X.out, rfl⟩, rfl, B1.out⟩
set_option maxRecDepth 100000 in
set_option maxHeartbeats 12800000 in
theorem refSigns_any (P : Int) (xs : List EgT) (ea : Option Addr) (n c : Nat) (s : Int) (ss : List Int) (sa : Option Addr) (sn sc : Nat) (w : World) (hE : ArgE w xs ea n c) (hS : ArgP w ss sa sn sc) :
    Calls Tryd.prog 4 #[.agg #[.int .i64 P, .slice ea n c], .int .i64 s, .slice sa sn sc] w (FaultOut w (SgG P xs s ss)) := by
  obtain ⟨w1, hw1⟩ : ∃ w1, w.alloc (.cells #[.int .i64 P, .slice ea n c] 24) = w1 := ⟨_, rfl⟩
  have HW1 := hide' hw1
  have B1 := hide' (show Below w.heap.size w w1 by rw [← hw1]; exact (Below.refl _ _).alloc (Nat.le_refl _) _)
  have R1 := hide' (show w1.heap[w.heap.size]? = some (.cells #[.int .i64 P, .slice ea n c] 24 (0, 0)) by rw [← hw1]; exact heap_alloc_new _ _)
  have RW := hide' (fun (V : World) (h : Below w1.heap.size w1 V) => (h.block _ (ltS_of_block R1.out)).trans R1.out)
  have CK := hide' (Fault_any P xs ea n c w1 (hE.below B1.out))
  have DG := hide' (fun (V : World) (h : Below w.heap.size w V) (k : Int) (ht : tmB xs) => Degree_any P xs ea n c k V (hE.below h) ht)
  have EL := hide' hE.len
  have HS := hide' (fun (V : World) (h : Below w.heap.size w V) => hS.below h)
  have HL := hide' hS.len
  have nm := hS.max
  unfold maxLen at nm
  have y0 := cell_of_row w1 _ 0 _ _ _ R1.out
  have y1 := cell_of_row w1 _ 1 _ _ _ R1.out
  simp at y0 y1
  clear hw1 hE hS
  go_enter Tryd.func4, Tryd.ntmps4
  go_upto_region 1 with fail
  rw [HW1.out]
  go_wp2_with fail
  refine CK.out.mono ?_
  rintro e w2 ⟨f, hf, rfl, b2⟩
  have HF := hide' hf
  have B2 := hide' b2
  have F2 := hide' (B1.out.trans (b2.mono B1.out.size))
  clear hf b2 y0 y1
  by_cases h0 : f = 0
  · subst h0
    have y0 := cell_of_row w2 _ 0 _ _ _ (RW.out w2 B2.out)
    have y1 := cell_of_row w2 _ 1 _ _ _ (RW.out w2 B2.out)
    simp at y0 y1
    have e0 : (((0 : Nat) : Int) != 0) = false := rfl
    by_cases k1 : s < 0
    · have X := hide' (show SgG P xs s ss 1 from Or.inl ⟨by decide, Or.inr (Or.inl ⟨HF.out, by omega, rfl⟩)⟩)
      go_wp2
      go_ret
      exact ⟨1, X.out, rfl, F2.out⟩
    · by_cases k2 : P ≤ s
      · have X := hide' (show SgG P xs s ss 1 from Or.inl ⟨by decide, Or.inr (Or.inl ⟨HF.out, by omega, rfl⟩)⟩)
        go_wp2
        go_ret
        exact ⟨1, X.out, rfl, F2.out⟩
      · have SI := hide' (SiG.of HF.out (show 0 ≤ s by omega) (show s < P by omega))
        obtain ⟨Q, hQ, hO⟩ := HF.out.good
        have HO := hide' hO
        have HQ := hide' hQ
        clear hQ hO
        by_cases k : (sn : Int) = P
        · have e1 : ((sn : Int) != P) = false := by simpa using k
          have KP := hide' (show (ss.length : Int) = P by have := HL.out; omega)
          clear k
          go_wp2
          go_loopw [8] (fun iv wr => ∃ i : Nat, iv = .int .i64 (i : Int) ∧ i ≤ sn ∧ Hid (Below w1.heap.size w1 wr) ∧ Hid (∀ j, j < i → mayI s (dgF xs j) j (ss.getD j 0))) (fun iv _ => sn - (intOf iv).toNat)
          case atStart => exact ⟨0, rfl, by omega, B2, hide' fun j h => by omega⟩
          case round =>
            obtain ⟨i, rfl, hi, BW, HA⟩ := hrel
            have FW := hide' (B1.out.trans (BW.out.mono B1.out.size))
            clear y0 y1
            by_cases d : (i : Int) < (sn : Int)
            · have hl : i < ss.length := by have := HL.out; omega
              have y0 := cell_of_row wr _ 0 _ _ _ (RW.out wr BW.out)
              have y1 := cell_of_row wr _ 1 _ _ _ (RW.out wr BW.out)
              simp at y0 y1
              have DC := hide' (DG.out wr FW.out (i : Int) HO.out.tm)
              rw [EL.out, dg_same HO.out i, ← EL.out] at DC
              go_wp2_with fail
              refine DC.out.mono ?_
              rintro e w4 ⟨rfl, b4⟩
              have B4 := hide' (BW.out.trans (b4.mono BW.out.size))
              have F4 := hide' (B1.out.trans (B4.out.mono B1.out.size))
              clear b4 y0 y1
              obtain ⟨g, off, rfl, hg, c0⟩ := (HS.out w4 F4.out).cells i hl
              obtain ⟨x, hx⟩ : ∃ x, ss[i] = x := ⟨_, rfl⟩
              rw [hx] at c0
              have EQ := hide' (show ss.getD i 0 = x by rw [at_getD hl, hx])
              obtain ⟨m, hm⟩ : ∃ m, dgF xs i = m := ⟨_, rfl⟩
              have BAD := hide' (show ¬ mayI s m i x → FaultOut w (SgG P xs s ss) (.returned (.int .i64 1)) w4 from fun h => ⟨1, Or.inr ⟨SI.out, Or.inr (Or.inl ⟨KP.out, ⟨i, hl, by rw [EQ.out, hm]; exact h⟩, rfl⟩)⟩, rfl, F4.out⟩)
              have NX := hide' (show mayI s m i x → ∀ j, j < i + 1 → mayI s (dgF xs j) j (ss.getD j 0) from fun h j hj => by
                by_cases e : j = i
                · rw [e, EQ.out, hm]; exact h
                · exact HA.out j (by omega))
              rw [hm]
              clear hx hm
              by_cases j1 : x < 0
              · have X := hide' (BAD.out (by unfold mayI; omega))
                go_wp2
                go_ret
                exact X.out
              · by_cases j2 : (i : Int) = s
                · have e2 : ((i : Int) == s) = true := by simpa using j2
                  have e3 : ((i : Int) != s) = false := by simpa using j2
                  by_cases j3 : x = 0
                  · have X := hide' (NX.out (Or.inl ⟨j2, j3⟩))
                    have e4 : (x != 0) = false := by simpa using j3
                    clear j2 j3
                    go_wp2
                    exact ⟨⟨i + 1, by go_num, by omega, B4, X⟩, by simp [intOf]; omega⟩
                  · have X := hide' (BAD.out (by unfold mayI; omega))
                    have e4 : (x != 0) = true := by simpa using j3
                    clear j2 j3
                    go_wp2
                    go_ret
                    exact X.out
                · have e2 : ((i : Int) == s) = false := by simpa using j2
                  have e3 : ((i : Int) != s) = true := by simpa using j2
                  by_cases j3 : (m : Int) ≤ x
                  · have X := hide' (BAD.out (by unfold mayI; omega))
                    clear j2
                    go_wp2
                    go_ret
                    exact X.out
                  · have X := hide' (NX.out (Or.inr ⟨j2, by omega, by omega⟩))
                    clear j2
                    go_wp2
                    exact ⟨⟨i + 1, by go_num, by omega, B4, X⟩, by simp [intOf]; omega⟩
            · obtain rfl : i = sn := by omega
              go_wp2
              go_ret
              exact ⟨0, Or.inr ⟨SI.out, Or.inr (Or.inr ⟨KP.out, fun j hj => HA.out j (by have := HL.out; omega), rfl⟩)⟩, rfl, FW.out⟩
        · have X := hide' (show ¬ (ss.length : Int) = P by have := HL.out; omega)
          have e1 : ((sn : Int) != P) = true := by simpa using k
          clear k
          go_wp2
          go_ret
          exact ⟨3, Or.inr ⟨SI.out, Or.inl ⟨X.out, rfl⟩⟩, rfl, F2.out⟩
  · have H0 := hide' h0
    have e0 : ((f : Int) != 0) = true := by simp; omega
    clear h0
    go_wp2
    go_ret
    exact ⟨f, Or.inl ⟨H0.out, Or.inl ⟨H0.out, HF.out⟩⟩, rfl, F2.out⟩
end Go.Proofs.YtpppmollmiomlaaDoor

namespace Go.Proofs.YtpppmollmiomlaaDoor
open Go.RowKit
set_option linter.unusedVariables false
set_option linter.unusedSimpArgs false
theorem lsN_getD {P : Nat} (f : Nat → Nat) (k : Nat) : (lsN P f).getD k 0 = if k < P then (f k : Int) else 0 := by
  rcases Nat.lt_or_ge k P with h | h
  · rw [if_pos h, List.getD, lsN_get _ h]; rfl
  · rw [if_neg (by omega)]; simp [List.getD, lsN, h]
end Go.Proofs.YtpppmollmiomlaaDoor

namespace Go.Proofs.YtpppmollmiomlaaDoor
open Go.RowKit
set_option linter.unusedVariables false
set_option linter.unusedSimpArgs false
theorem leads_tree {P s : Nat} {xs : List EgT} {sg : Nat → Nat} (ok : SgOk P s xs sg) : (∀ k, k < P → ∃ m, atR s (wyF xs) sg m k = s) ↔ treeR P s (wyF xs) sg :=
  ⟨fun h k hk => by obtain ⟨m, hm⟩ := h k hk; exact LdR.of_at hm, fun h k hk => (h k hk).at⟩
set_option maxRecDepth 100000 in
set_option maxHeartbeats 12800000 in
theorem refTree_any (P s : Nat) (xs : List EgT) (ea : Option Addr) (n c : Nat) (ss : List Int) (sa : Option Addr) (sn sc : Nat) (w : World) (hE : ArgE w xs ea n c) (hS : ArgP w ss sa sn sc) (ok : RtOk P s xs (sgN ss)) (ls : ss = lsN P (sgN ss)) :
    Calls Tryd.prog 7 #[.agg #[.int .i64 (P : Int), .slice ea n c], .int .i64 (s : Int), .slice sa sn sc] w fun e w' => BoolIff (treeR P s (wyF xs) (sgN ss)) e ∧ Below w.heap.size w w' := by
  obtain ⟨w1, hw1⟩ : ∃ w1, w.alloc (.cells #[.int .i64 (P : Int), .slice ea n c] 24) = w1 := ⟨_, rfl⟩
  have HW1 := hide' hw1
  have B1 := hide' (show Below w.heap.size w w1 by rw [← hw1]; exact (Below.refl _ _).alloc (Nat.le_refl _) _)
  have R1 := hide' (show w1.heap[w.heap.size]? = some (.cells #[.int .i64 (P : Int), .slice ea n c] 24 (0, 0)) by rw [← hw1]; exact heap_alloc_new _ _)
  have RW := hide' (fun (V : World) (h : Below w1.heap.size w1 V) => (h.block _ (ltS_of_block R1.out)).trans R1.out)
  have p2 := ok.gr.p2
  have AL := hide' (refAll_any P xs ea n c w1 (hE.below B1.out) ok.gr.p1 p2 (by rw [hE.len]; exact ok.gr.n4) ok.gr.ok)
  have SQ := hide' (show sn = P by rw [hS.len, ls, lsN_len])
  have HS := hide' (fun (V : World) (h : Below w.heap.size w V) (k : Nat) (hk : k < P) => show ∃ g off, sa = some ⟨g, off, none⟩ ∧ V.cell? ⟨g, off + k, none⟩ = some (.int .i64 (sgN ss k : Int)) by
    have l : k < ss.length := by rw [ls, lsN_len]; exact hk
    obtain ⟨g, off, e, _, hc⟩ := (hS.below h).cells k l
    refine ⟨g, off, e, ?_⟩
    rw [hc, ← at_getD l, ls, lsN_getD, if_pos hk]
    rw [← ls])
  have OK := hide' ok
  have SO := hide' ok.sgOk
  have y0 := cell_of_row w1 _ 0 _ _ _ R1.out
  have y1 := cell_of_row w1 _ 1 _ _ _ R1.out
  simp at y0 y1
  clear hw1 hE hS ok ls
  go_enter Tryd.func7, Tryd.ntmps7
  go_upto_region 1 with fail
  rw [HW1.out]
  go_wp2_with fail
  refine AL.out.mono ?_
  rintro e w2 ⟨wb, cap, v, rfl, hA, b2⟩
  have HA := hide' hA
  have B2 := hide' b2
  clear hA b2 y0 y1
  go_wp2
  go_loopw [8] (fun kv wr => ∃ k : Nat, kv = .int .i64 (k : Int) ∧ k ≤ P ∧ Hid (∀ j, j < k → ∃ m, atR s (wyF xs) (sgN ss) m j = s) ∧ Hid (Below w2.heap.size w2 wr)) (fun kv _ => P - (intOf kv).toNat)
  case atStart => exact ⟨0, rfl, by omega, hide' fun j h => by omega, hide' (Below.refl _ _)⟩
  case round =>
    obtain ⟨k, rfl, hk, HK, BW⟩ := hrel
    have KW := hide' (B2.out.trans (BW.out.mono B2.out.size))
    have FW := hide' (B1.out.trans (KW.out.mono B1.out.size))
    have y0 := cell_of_row wr _ 0 _ _ _ (RW.out wr KW.out)
    simp at y0
    by_cases dk : (k : Int) < (P : Int)
    · have ATK := hide' (fun m => SO.out.at (show k < P by omega) m)
      go_wp2
      obtain ⟨wo, hwo⟩ : ∃ wo : World, wo = wr := ⟨_, rfl⟩
      rw [← hwo] at KW FW BW ⊢
      clear y0 hwo
      go_loopw [9, 10] (fun av nv V => ∃ m y : Nat, av = .int .i64 (y : Int) ∧ nv = .int .i64 (m : Int) ∧ m ≤ P + 1 ∧ Hid (y = atR s (wyF xs) (sgN ss) m k) ∧ Hid (∀ i, i < m → atR s (wyF xs) (sgN ss) i k ≠ s) ∧ Hid (Below w2.heap.size w2 V)) (fun _ nv _ => P + 1 - (intOf nv).toNat)
      case atStart => exact ⟨0, k, rfl, rfl, by omega, hide' rfl, hide' fun i h => by omega, BW⟩
      case round =>
        obtain ⟨m, y, rfl, rfl, hm, HY, HN, BV⟩ := hrel
        have KV := hide' (B2.out.trans (BV.out.mono B2.out.size))
        have FV := hide' (B1.out.trans (KV.out.mono B1.out.size))
        by_cases q : y = s
        · have e1 : ((y : Int) != (s : Int)) = false := by rw [q]; simp
          have NX := hide' (show ∀ j, j < k + 1 → ∃ m, atR s (wyF xs) (sgN ss) m j = s from fun j hj => by
            by_cases e : j = k
            · rw [e]; exact ⟨m, by rw [← HY.out]; exact q⟩
            · exact HK.out j (by omega))
          clear q
          go_wp2
          exact ⟨⟨k + 1, by go_num, by omega, NX, BV⟩, by simp [intOf]; omega⟩
        · have e1 : ((y : Int) != (s : Int)) = true := by simp; omega
          have y0 := cell_of_row wr _ 0 _ _ _ (RW.out wr KV.out)
          simp at y0
          by_cases r : (P : Int) < (m : Int)
          · have X := hide' (show ¬ treeR P s (wyF xs) (sgN ss) from fun h => by
              have a := (tree_iff (fun j hj js => SO.out.hop hj js) SO.out.sk).1 h k (by omega)
              exact HN.out P (by omega) a)
            clear q
            go_wp2
            go_ret
            exact ⟨⟨false, rfl, fun h => (by cases h), fun h => absurd h X.out⟩, FV.out⟩
          · have ly := hide' (show y < P by rw [HY.out]; exact ATK.out m)
            have NX := hide' (show wyF xs y (sgN ss y) = atR s (wyF xs) (sgN ss) (m + 1) k by rw [at_next (by rw [← HY.out]; exact q), ← HY.out])
            have NN := hide' (show ∀ i, i < m + 1 → atR s (wyF xs) (sgN ss) i k ≠ s from fun i hi => by
              rcases Nat.lt_or_ge i m with c | c
              · exact HN.out i c
              · obtain rfl : i = m := by omega
                rw [← HY.out]; exact q)
            obtain ⟨g, off, rfl, x1⟩ := HS.out wr FV.out y ly.out
            have HV := HA.out.next BV.out
            have lo := SO.out.low y ly.out q
            obtain ⟨g2, q2, ev, hc⟩ := HV.at ly.out (by rw [wyO_len]; omega)
            have x3 := HV.cell ly.out
            rw [ev, wyO_len] at x3
            have l : sgN ss y < (wyO xs y).length := by rw [wyO_len]; exact lo
            have x4 := hc (sgN ss y) l
            rw [← at_getD l, wyO_at] at x4
            obtain ⟨z, hz⟩ : ∃ z, wyF xs y (sgN ss y) = z := ⟨_, rfl⟩
            obtain ⟨a, ha⟩ : ∃ a, sgN ss y = a := ⟨_, rfl⟩
            obtain ⟨b, hb⟩ : ∃ b, dgF xs y = b := ⟨_, rfl⟩
            rw [hz] at x4 NX
            rw [ha] at x1 x4 lo
            rw [hb] at x3 lo
            have l1 : (y : Int) < (P : Int) := by have := ly.out; omega
            have l2 : (a : Int) < (b : Int) := by omega
            have l3 : (y : Int) < (sn : Int) := by rw [SQ.out]; exact l1
            clear q HV ev hc l hz ha hb lo
            go_upto_region 10 with fail
            go_quiet (fail)
            obtain ⟨w4, hw4⟩ : ∃ w4, wr.drewN nq = w4 := ⟨_, rfl⟩
            have B4 := hide' (show Below w2.heap.size w2 w4 by rw [← hw4]; exact BV.out.trans ((show Below wr.heap.size wr (wr.drewN nq) from ⟨rfl, rfl, rfl, Nat.le_refl _, fun _ _ => rfl⟩).mono BV.out.size))
            rw [hw4]
            clear hw4 x1 x3 x4 l1 l2 l3 y0
            go_wp2
            exact ⟨⟨m + 1, z, rfl, by go_num, by omega, NX, NN, B4⟩, by simp [intOf]; omega⟩
    · have X := hide' ((leads_tree SO.out).1 (fun j hj => HK.out j (by omega)))
      go_wp2
      go_ret
      exact ⟨⟨true, rfl, fun _ => X.out, fun _ => rfl⟩, FW.out⟩
end Go.Proofs.YtpppmollmiomlaaDoor

