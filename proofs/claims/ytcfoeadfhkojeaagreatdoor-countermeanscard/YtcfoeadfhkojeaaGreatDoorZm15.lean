/-
  What the last text of this claim leans on, part 15: Cd2.
-/
import Derived.Test.YtcfoeadfhkojeaaGreatDoorZm5
import Derived.Test.YtcfoeadfhkojeaaGreatDoorZm14
import Derived.Deep.CutRange
namespace Go.Proofs.YtcfoeadfhkojeaaGreatDoor
open Go.RowKit
set_option linter.unusedVariables false
/-- Counters in a list of one's own. -/
structure CoB (w : World) (g : Nat) (c : Nat → Int) : Prop where
  row : ∃ cur, w.heap[g]? = some (.cells cur 3 (0, 0)) ∧ ∀ k, k < 4 → cur[k]? = some (.int .i64 (c k))
theorem CoB.cell {w : World} {g : Nat} {c : Nat → Int} (h : CoB w g c) (k : Nat) (hk : k < 4) : w.cell? ⟨g, k, none⟩ = some (.int .i64 (c k)) := by
  obtain ⟨cur, h1, h2⟩ := h.row
  rw [cell_of_row w _ k _ _ _ h1]; exact h2 k hk
theorem CoB.fro {w : World} {g : Nat} {c : Nat → Int} (h : CoB w g c) (k : Nat) : w.frozen? ⟨g, k, none⟩ = false := by
  obtain ⟨cur, h1, h2⟩ := h.row
  exact frozen_of_row w _ k _ _ h1
theorem CoB.lt {w : World} {g : Nat} {c : Nat → Int} (h : CoB w g c) : g < w.heap.size := by
  obtain ⟨cur, h1, h2⟩ := h.row
  exact lt_of_block h1
theorem CoB.below {w w' : World} {g : Nat} {c : Nat → Int} {B : Nat} (h : CoB w g c) (hb : Below B w w') (hB : g < B) : CoB w' g c := by
  obtain ⟨cur, h1, h2⟩ := h.row
  exact ⟨cur, (hb.block g hB).trans h1, h2⟩
theorem CoB.set {w : World} {g : Nat} {c : Nat → Int} (h : CoB w g c) (k : Nat) (hk : k < 4) (v : Int) : CoB (w.setCell ⟨g, k, none⟩ (.int .i64 v)) g (updM c k v) := by
  obtain ⟨cur, h1, h2⟩ := h.row
  refine ⟨_, heap_setCell_same w g k _ _ _ h1, fun j hj => ?_⟩
  have hs : k < cur.size := by
    rcases Nat.lt_or_ge k cur.size with q | q
    · exact q
    · have := h2 k hk; rw [Array.getElem?_eq_none q] at this; cases this
  unfold updM
  by_cases e : j = k
  · subst e; rw [if_pos rfl, Array.getElem?_setIfInBounds_self_of_lt hs]
  · rw [if_neg e, Array.getElem?_setIfInBounds_ne (fun q => e q.symm)]; exact h2 j hj
theorem CoB.arg {w : World} {g q : Nat} {c : Nat → Int} (h : CoB w g c) : ArgP w (fourM c) (some ⟨g, 0, none⟩) 4 q :=
  ⟨rfl, by unfold maxLen; omega, fun k hk => by
    have hk' : k < 4 := hk
    refine ⟨g, 0, rfl, h.lt, ?_⟩
    rw [Nat.zero_add, h.cell k hk']
    rcases (show k = 0 ∨ k = 1 ∨ k = 2 ∨ k = 3 by omega) with rfl | rfl | rfl | rfl <;> rfl⟩
def RanP (A : List Int × Nat × Nat × Nat) (w : World) (e : Ending) (w' : World) : Prop :=
  ∃ a q, e = .returned (.tuple #[.slice a A.1.length q, .int .i64 (A.2.1 : Int), .int .i64 (A.2.2.1 : Int), .int .i64 (A.2.2.2 : Int)]) ∧ ArgP w' A.1 a A.1.length q ∧ Below w.heap.size w w'
theorem ran_bad {A : List Int × Nat × Nat × Nat} {f : Nat} (h : A = ([], 0, 0, f)) {w w' : World} (hb : Below w.heap.size w w') : RanP A w (.returned (.tuple #[.slice none 0 0, .int .i64 0, .int .i64 0, .int .i64 (f : Int)])) w' := by
  rw [h]; exact ⟨none, 0, rfl, argP_nil _ _ _, hb⟩
set_option maxRecDepth 100000 in
set_option maxHeartbeats 12800000 in
theorem refPlayM_any (xs : List InsT) (a : Option Addr) (n c : Nat) (cs : List Int) (b : Option Addr) (m d : Nat) (f : Int) (w : World) (hP : ArgI w xs a n c) (hC : ArgP w cs b m d) (hc : codeE xs = 0) :
    Calls Tryz.prog 8 #[.slice a n c, .slice b m d, .int .i64 f] w (RanP (cntA xs cs f) w) := by
  have HL := hide' hC.len
  by_cases h4 : m = 4
  · subst h4
    have l4 : cs.length = 4 := by have := HL.out; omega
    obtain ⟨g0, off, rfl, hg0, -⟩ := hC.cells 0 (by omega)
    obtain ⟨i0, hi0, hz⟩ := Option.map_eq_some_iff.1 info_intC
    simp only [Prod.mk.injEq] at hz
    obtain ⟨hz0, hz1, hz2⟩ := hz
    have NW := hide' (show ∀ j u, (cs.map (Value.int .i64))[j]? = some u → w.cell? ((⟨g0, off, none⟩ : Addr).add j) = some u from fun j u hj => by
      have hl : j < cs.length := by
        rcases Nat.lt_or_ge j cs.length with h | h
        · exact h
        · rw [List.getElem?_eq_none (by simpa using h)] at hj; cases hj
      obtain ⟨g', off', e, -, hh⟩ := hC.cells j hl
      cases e
      have ea : (⟨g0, off, none⟩ : Addr).add j = ⟨g0, off + j, none⟩ := by
        unfold Addr.add
        split
        · rename_i hz; subst hz; rfl
        · simp
      rw [ea, hh]
      simp [hl] at hj
      rw [hj])
    have RB := hide' (show ¬ cs.all (fun v => decide (0 ≤ v) && decide (v ≤ 1000000)) = true → cntA xs cs f = ([], 0, 0, 1) from fun q => by
      have : runE xs cs f = 1 := by unfold runE; rw [if_neg (by simp [hc]), if_neg (by omega), if_neg q]
      unfold cntA; rw [this, if_pos (by decide)])
    have RF := hide' (show cs.all (fun v => decide (0 ≤ v) && decide (v ≤ 1000000)) = true → runE xs cs f = fuelE f from fun q => by unfold runE; rw [if_neg (by simp [hc]), if_neg (by omega), if_pos q])
    have HP := hide' (fun (V : World) (h : Below w.heap.size w V) => hP.below h)
    have HC := hide' hc
    have L4 := hide' l4
    clear hP hC hc HL
    go_enter Tryz.func8, Tryz.ntmps8
    go_wp2_with (at_builtin; refine wpList_append_own _ rfl _ _ 23 rfl w.heap.size 3 i0 (.int .i64 0) 1 8 Tryz.underlying23 hi0 hz0 hz1 hz2 rfl (by decide) _ 0 [] rfl (World.ownsRow_nil w w.heap.size 3 1) ⟨g0, off, none⟩ 4 d (cs.map (Value.int .i64)) rfl (by simp [l4]) NW.out (fun u hu => by obtain ⟨y, -, rfl⟩ := List.mem_map.1 hu; rfl) (by unfold maxLen; omega) (by omega) (Nat.le_refl _) ?_; intro v' w1 ho hg hn; go_frame)
    obtain ⟨g, q, rfl, hgw, CB, B1⟩ : ∃ g q, v' = .slice (some ⟨g, 0, none⟩) 4 q ∧ w.heap.size ≤ g ∧ CoB w1 g (begM cs).1 ∧ Below w.heap.size w w1 := by
      rcases ho.2 with ⟨-, e⟩ | ⟨g, cap, cur, rfl, hb, hgg, hn', hm', hs', ht'⟩
      · omega
      · refine ⟨g, cap, rfl, hb, ⟨cur, hgg, fun k hk => ?_⟩, (Below.refl _ _).grown hg (Nat.le_refl _) (fun j hj => by cases hj)⟩
        have e1 := congrArg (fun l => l[k]?) ht'
        rw [List.getElem?_take_of_lt (by omega), Array.getElem?_toList] at e1
        have hk' : k < cs.length := by have := L4.out; omega
        rw [e1]
        simp [begM, List.getD, hk']
    have C1 := hide' CB
    have BB := hide' B1
    have GW := hide' hgw
    clear ho hg hn CB B1 hgw NW
    go_wp2
    go_loopw [11] (fun kv wr => ∃ k : Nat, kv = .int .i64 (k : Int) ∧ k ≤ 4 ∧ w1 = wr ∧ Hid (∀ j, j < k → 0 ≤ cs.getD j 0 ∧ cs.getD j 0 ≤ 1000000)) (fun kv _ => 4 - (intOf kv).toNat)
    case atStart => exact ⟨0, rfl, by omega, rfl, hide' (fun j hj => by omega)⟩
    case round =>
      obtain ⟨k, rfl, hk, rfl, HA⟩ := hrel
      by_cases dk : (k : Int) < 4
      · have ck := C1.out.cell k (by omega)
        obtain ⟨v, hv⟩ : ∃ v, (begM cs).1 k = v := ⟨_, rfl⟩
        rw [hv] at ck
        have HV := hide' (show cs.getD k 0 = v from hv)
        have i0' : (0 : Int) ≤ (k : Int) := by omega
        clear hv
        have BAD := hide' (show ¬ (0 ≤ v ∧ v ≤ 1000000) → cntA xs cs f = ([], 0, 0, 1) from fun q' => RB.out fun al => by
          have hk' : k < cs.length := by have := L4.out; omega
          have := List.all_eq_true.1 al cs[k] (List.getElem_mem hk')
          rw [show cs[k] = v by rw [← HV.out]; simp [List.getD, hk']] at this
          simp at this
          exact q' this)
        by_cases v0 : v < 0
        · have v1 : ¬ 1000000 < v := by omega
          have X := hide' (BAD.out (by omega))
          go_wp2
          refine bodyPost_ret (v := .tuple #[.slice none 0 0, .int .i64 0, .int .i64 0, .int .i64 1]) (by simp [results, Tryz.results8, go_sem]) rfl ?_
          exact ran_bad (f := 1) X.out BB.out
        · by_cases v1 : 1000000 < v
          · have X := hide' (BAD.out (by omega))
            go_wp2
            refine bodyPost_ret (v := .tuple #[.slice none 0 0, .int .i64 0, .int .i64 0, .int .i64 1]) (by simp [results, Tryz.results8, go_sem]) rfl ?_
            exact ran_bad (f := 1) X.out BB.out
          · go_wp2
            refine ⟨⟨k + 1, by go_num, by omega, by simp, hide' fun j hj => ?_⟩, by simp [intOf]; omega⟩
            by_cases e : j = k
            · subst e; rw [HV.out]; omega
            · exact HA.out j (by omega)
      · have AL := hide' (show cs.all (fun v => decide (0 ≤ v) && decide (v ≤ 1000000)) = true from List.all_eq_true.2 fun x hx => by
          obtain ⟨j, hj, rfl⟩ := List.getElem_of_mem hx
          have := HA.out j (by have := L4.out; omega)
          rw [show cs.getD j 0 = cs[j] by simp [List.getD, hj]] at this
          simp; omega)
        have RE := hide' (RF.out AL.out)
        have OKC := hide' (show ∀ k, k < 4 → 0 ≤ (begM cs).1 k ∧ (begM cs).1 k ≤ 1000000 from fun k hk => HA.out k (by omega))
        clear HA
        by_cases f0 : f < 0
        · have f1 : ¬ 100000 < f := by omega
          have X := hide' (show cntA xs cs f = ([], 0, 0, 1) by unfold cntA; rw [RE.out, show fuelE f = 1 by unfold fuelE; rw [if_pos (Or.inl f0)], if_pos (by decide)])
          go_wp2
          refine bodyPost_ret (v := .tuple #[.slice none 0 0, .int .i64 0, .int .i64 0, .int .i64 1]) (by simp [results, Tryz.results8, go_sem]) rfl ?_
          exact ran_bad (f := 1) X.out BB.out
        · by_cases f1 : 100000 < f
          · have X := hide' (show cntA xs cs f = ([], 0, 0, 1) by unfold cntA; rw [RE.out, show fuelE f = 1 by unfold fuelE; rw [if_pos (Or.inr f1)], if_pos (by decide)])
            go_wp2
            refine bodyPost_ret (v := .tuple #[.slice none 0 0, .int .i64 0, .int .i64 0, .int .i64 1]) (by simp [results, Tryz.results8, go_sem]) rfl ?_
            exact ran_bad (f := 1) X.out BB.out
          · obtain ⟨f, rfl⟩ : ∃ k : Nat, f = (k : Int) := ⟨f.toNat, by omega⟩
            have A := hide' (show cntA xs cs (f : Int) = if (goM xs f (begM cs) 0).2.2 = 0 then (fourM (goM xs f (begM cs) 0).1.1, (goM xs f (begM cs) 0).2.1, (goM xs f (begM cs) 0).1.2, 0) else ([], 0, 0, (goM xs f (begM cs) 0).2.2) by unfold cntA; rw [RE.out, show fuelE (f : Int) = 0 by unfold fuelE; rw [if_neg (by omega)], if_neg (by simp), Int.toNat_natCast])
            obtain ⟨R, hR⟩ : ∃ R, goM xs f (begM cs) 0 = R := ⟨_, rfl⟩
            rw [hR] at A
            have CX := hide' (code_at HC.out)
            have S0 := hide' (show ∃ cc : Nat → Int, goM xs (f - 0) (cc, 0) 0 = R ∧ OkM xs (cc, 0) ∧ CoB w1 g cc from ⟨(begM cs).1, hR, ⟨OKC.out, CX.out.1⟩, C1.out⟩)
            have F5 := hide' (show f ≤ 100000 by omega)
            clear hR OKC
            go_wp2
            go_loopw [12, 13] (fun tv kv wr => ∃ t k : Nat, tv = .int .i64 (t : Int) ∧ kv = .int .i64 (k : Int) ∧ k ≤ f ∧ Hid (Below w.heap.size w wr) ∧ Hid (∃ cc : Nat → Int, goM xs (f - k) (cc, t) k = R ∧ OkM xs (cc, t) ∧ CoB wr g cc)) (fun _ kv _ => f - (intOf kv).toNat)
            case atStart => exact ⟨0, 0, rfl, rfl, by omega, BB, S0⟩
            case round =>
              obtain ⟨t, k, rfl, rfl, hk, BW, SS⟩ := hrel
              obtain ⟨cc, gs, ok, cb⟩ := SS.out
              have GS := hide' gs
              have OK := hide' ok
              have CB := hide' cb
              have tl : t < xs.length := ok.2
              obtain ⟨ga, oa, rfl, hga, c0, c1, c2, c3⟩ := (HP.out wr BW.out).cells t tl
              have hi := ins_parts (CX.out.2.2 t tl)
              have LN := hide' (ln_at tl)
              obtain ⟨⟨x, y, z, u⟩, hx⟩ : ∃ x, xs[t] = x := ⟨_, rfl⟩
              rw [hx] at c0 c1 c2 c3 hi LN
              simp only at c0 c1 c2 c3 hi
              have tn : (t : Int) < (n : Int) := by have := (HP.out wr BW.out).len; omega
              have t0 : (0 : Int) ≤ (t : Int) := by omega
              clear hx gs ok cb SS
              by_cases x3 : x = 3
              · subst x3
                have FIN := hide' (show ∀ V, V = wr → RanP (cntA xs cs (f : Int)) w (.returned (.tuple #[.slice (some ⟨g, 0, none⟩) 4 q, .int .i64 (k : Int), .int .i64 (t : Int), .int .i64 0])) V from fun V e => by
                  have gs := GS.out
                  rw [goM_halt (by rw [LN.out])] at gs
                  subst e
                  rw [A.out, ← gs, if_pos rfl]
                  exact ⟨some ⟨g, 0, none⟩, q, rfl, CB.out.arg, BW.out⟩)
                clear hi
                go_wp2
                refine bodyPost_ret (v := .tuple #[.slice (some ⟨g, 0, none⟩) 4 q, .int .i64 (k : Int), .int .i64 (t : Int), .int .i64 0]) (by simp [results, Tryz.results8, go_sem]) rfl ?_
                exact FIN.out _ rfl
              · have x3b : (x == 3) = false := by simpa using x3
                by_cases kf : (f : Int) ≤ (k : Int)
                · have X := hide' (show cntA xs cs (f : Int) = ([], 0, 0, 6) by
                    have gs := GS.out
                    rw [show f - k = 0 by omega, goM_long (by rw [LN.out]; exact x3)] at gs
                    rw [A.out, ← gs, if_neg (by simp)])
                  clear hi
                  go_wp2
                  refine bodyPost_ret (v := .tuple #[.slice none 0 0, .int .i64 0, .int .i64 0, .int .i64 6]) (by simp [results, Tryz.results8, go_sem]) rfl ?_
                  exact ran_bad (f := 6) X.out BW.out
                · obtain ⟨j, rfl⟩ : ∃ j : Nat, y = (j : Int) := ⟨y.toNat, by omega⟩
                  have j4 : j < 4 := by omega
                  have j4i : (j : Int) < (4 : Int) := by omega
                  have j0 : (0 : Int) ≤ (j : Int) := by omega
                  obtain ⟨z, rfl⟩ : ∃ j : Nat, z = (j : Int) := ⟨z.toNat, by omega⟩
                  obtain ⟨u, rfl⟩ : ∃ j : Nat, u = (j : Int) := ⟨u.toNat, by omega⟩
                  have x12 : x = 1 ∨ x = 2 := by omega
                  have X12 := hide' x12
                  have okj : 0 ≤ cc j ∧ cc j ≤ 1000000 := OK.out.1 j j4
                  obtain ⟨w2, hw2⟩ : ∃ w2, wr.alloc (.cells #[.int .i64 x, .int .i64 (j : Int), .int .i64 (z : Int), .int .i64 (u : Int)] 25) = w2 := ⟨_, rfl⟩
                  have B2 := hide' (show Below w.heap.size w w2 from by rw [← hw2]; exact BW.out.alloc BW.out.size _)
                  have r2 := hide' (show w2.heap[wr.heap.size]? = some (.cells #[.int .i64 x, .int .i64 (j : Int), .int .i64 (z : Int), .int .i64 (u : Int)] 25 (0, 0)) by rw [← hw2]; exact heap_alloc_new _ _)
                  have CB2 := hide' (show CoB w2 g cc from by rw [← hw2]; exact CB.out.below ((Below.refl _ _).alloc (Nat.le_refl _) _) CB.out.lt)
                  have gne : wr.heap.size ≠ g := by have := CB.out.lt; omega
                  have e0 := cell_of_row w2 _ 0 _ _ _ r2.out
                  have e1 := cell_of_row w2 _ 1 _ _ _ r2.out
                  have e2 := cell_of_row w2 _ 2 _ _ _ r2.out
                  have e3 := cell_of_row w2 _ 3 _ _ _ r2.out
                  simp at e0 e1 e2 e3
                  have cj := CB2.out.cell j j4
                  have fj := CB2.out.fro j
                  obtain ⟨v, hv⟩ : ∃ v, cc j = v := ⟨_, rfl⟩
                  rw [hv] at cj okj
                  have HV := hide' hv
                  have FU := hide' (show fullM xs (cc, t) = (decide (x = 1) && decide (v = 1000000)) by unfold fullM; simp only [LN.out, Int.toNat_natCast, hv])
                  have NX := hide' (show nextM xs (cc, t) = if x = 1 then (updM cc j (v + 1), z) else if v = 0 then (cc, u) else (updM cc j (v - 1), z) by unfold nextM; simp only [LN.out, Int.toNat_natCast, hv])
                  have L3 := hide' (show ¬ (lnM xs t).1 = 3 by rw [LN.out]; exact x3)
                  have NO := hide' (fun hf : fullM xs (cc, t) = false => next_ok HC.out OK.out (by exact L3.out) hf)
                  have k1 : k + 1 ≤ f := by omega
                  clear hi hv x12
                  have W1 := hide' (show ∀ u', w2.setCell ⟨g, j, none⟩ u' = w2.setCell ⟨g, j, none⟩ u' from fun _ => rfl)
                  by_cases x1 : x = 1
                  · subst x1
                    have wv : IntKind.i64.wrap (v + 1) = v + 1 := by simp [IntKind.wrap, IntKind.bits, IntKind.signed]; omega
                    obtain ⟨w3, hw3⟩ : ∃ w3, w2.setCell ⟨g, j, none⟩ (.int .i64 (v + 1)) = w3 := ⟨_, rfl⟩
                    have CB3 := hide' (show CoB w3 g (updM cc j (v + 1)) from by rw [← hw3]; exact CB2.out.set j j4 (v + 1))
                    have B3 := hide' (show Below w.heap.size w w3 from by rw [← hw3]; exact B2.out.setCell GW.out _)
                    have s1 : w3.cell? ⟨wr.heap.size, 1, none⟩ = some (.int .i64 (j : Int)) := by
                      rw [← hw3, World.cell?_setCell_other _ _ _ _ (fun q' => gne (congrArg Addr.block q').symm)]; exact e1
                    have s2 := CB3.out.cell j j4
                    rw [show updM cc j (v + 1) j = v + 1 by unfold updM; rw [if_pos rfl]] at s2
                    by_cases v9 : v = 1000000
                    · have v8 : 1000000 < v + 1 := by omega
                      have X := hide' (show cntA xs cs (f : Int) = ([], 0, 0, 4) by
                        have gs := GS.out
                        rw [show f - k = (f - (k + 1)) + 1 by omega, goM_full L3.out (by rw [FU.out]; simp; exact v9)] at gs
                        rw [A.out, ← gs, if_neg (by simp)])
                      clear v9
                      go_upto_region 18 with fail
                      clear hw2
                      go_upto_region 21 with fail
                      try rw [hw3]
                      clear hw3 e0 e1 e2 e3 cj fj
                      go_wp2
                      refine bodyPost_ret (v := .tuple #[.slice none 0 0, .int .i64 0, .int .i64 0, .int .i64 4]) (by simp [results, Tryz.results8, go_sem]) rfl ?_
                      exact ran_bad (f := 4) X.out B3.out
                    · have v8 : ¬ 1000000 < v + 1 := by omega
                      have FF := hide' (show fullM xs (cc, t) = false by rw [FU.out]; simp; exact v9)
                      have SN := hide' (show goM xs (f - (k + 1)) (updM cc j (v + 1), z) (k + 1) = R ∧ OkM xs (updM cc j (v + 1), z) from by
                        have gs := GS.out
                        have no := NO.out FF.out
                        rw [show f - k = (f - (k + 1)) + 1 by omega, goM_next L3.out FF.out, NX.out, if_pos rfl] at gs
                        rw [NX.out, if_pos rfl] at no
                        exact ⟨gs, no⟩)
                      clear v9
                      go_upto_region 18 with fail
                      clear hw2
                      go_upto_region 21 with fail
                      try rw [hw3]
                      clear hw3 e0 e1 e2 e3 cj fj
                      go_wp2
                      exact ⟨⟨z, k + 1, rfl, by go_num, k1, B3, hide' ⟨_, SN.out.1, SN.out.2, CB3.out⟩⟩, by simp [intOf]; omega⟩
                  · have x2 : x = 2 := by have := X12.out; omega
                    subst x2
                    have FF := hide' (show fullM xs (cc, t) = false by rw [FU.out]; simp)
                    by_cases v0 : v = 0
                    · subst v0
                      have SN := hide' (show goM xs (f - (k + 1)) (cc, u) (k + 1) = R ∧ OkM xs (cc, u) from by
                        have gs := GS.out
                        have no := NO.out FF.out
                        rw [show f - k = (f - (k + 1)) + 1 by omega, goM_next L3.out FF.out, NX.out, if_neg (by decide), if_pos rfl] at gs
                        rw [NX.out, if_neg (by decide), if_pos rfl] at no
                        exact ⟨gs, no⟩)
                      go_upto_region 18 with fail
                      clear hw2
                      go_wp2
                      exact ⟨⟨u, k + 1, rfl, by go_num, k1, B2, hide' ⟨_, SN.out.1, SN.out.2, CB2.out⟩⟩, by simp [intOf]; omega⟩
                    · have v1 : 0 < v := by omega
                      have wv : IntKind.i64.wrap (v - 1) = v - 1 := by simp [IntKind.wrap, IntKind.bits, IntKind.signed]; omega
                      obtain ⟨w3, hw3⟩ : ∃ w3, w2.setCell ⟨g, j, none⟩ (.int .i64 (v - 1)) = w3 := ⟨_, rfl⟩
                      have CB3 := hide' (show CoB w3 g (updM cc j (v - 1)) from by rw [← hw3]; exact CB2.out.set j j4 (v - 1))
                      have B3 := hide' (show Below w.heap.size w w3 from by rw [← hw3]; exact B2.out.setCell GW.out _)
                      have SN := hide' (show goM xs (f - (k + 1)) (updM cc j (v - 1), z) (k + 1) = R ∧ OkM xs (updM cc j (v - 1), z) from by
                        have gs := GS.out
                        have no := NO.out FF.out
                        rw [show f - k = (f - (k + 1)) + 1 by omega, goM_next L3.out FF.out, NX.out, if_neg (by decide), if_neg v0] at gs
                        rw [NX.out, if_neg (by decide), if_neg v0] at no
                        exact ⟨gs, no⟩)
                      clear v0
                      go_upto_region 18 with fail
                      clear hw2
                      go_wp2
                      try rw [hw3]
                      exact ⟨⟨z, k + 1, rfl, by go_num, k1, B3, hide' ⟨_, SN.out.1, SN.out.2, CB3.out⟩⟩, by simp [intOf]; omega⟩
  · have X := hide' (show cntA xs cs f = ([], 0, 0, 3) by
      have : runE xs cs f = 3 := by unfold runE; rw [if_neg (by simp [hc]), if_pos (by have := HL.out; omega)]
      unfold cntA; rw [this, if_pos (by decide)])
    have m4 : ¬ (m : Int) = 4 := by omega
    clear hP hC hc h4
    go_enter Tryz.func8, Tryz.ntmps8
    go_wp2
    refine bodyPost_ret (v := .tuple #[.slice none 0 0, .int .i64 0, .int .i64 0, .int .i64 3]) (by simp [results, Tryz.results8, go_sem]) rfl ?_
    exact ran_bad (f := 3) X.out (Below.refl _ _)
end Go.Proofs.YtcfoeadfhkojeaaGreatDoor

