/-
  What the last text of this claim leans on, part 18: Ck7, Ck8, Cm2, Wj1.
-/
import Derived.Test.YtcfoeadfhkojeaaGreatDoorZm17
import Derived.Test.YtcfoeadfhkojeaaGreatDoorZm13
import Derived.Test.YtcfoeadfhkojeaaGreatDoorZm1
import Derived.OwnWalk
import Derived.Deep.DeepAppendRoom
import Derived.Shelf.Strings.Builder1
namespace Go.Proofs.YtcfoeadfhkojeaaGreatDoor
open Go.RowKit
set_option linter.unusedVariables false
def szS : Value → Nat
  | .string s => s.size
  | _ => 0
theorem szS_mk (l : List UInt8) : szS (.string ⟨l.toArray⟩) = l.length := by show l.toArray.size = _; simp
/-- Lines, cell by cell. -/
def flI (ys : List InsT) : List Value := ys.flatMap fun p => [.int .i64 p.1, .int .i64 p.2.1, .int .i64 p.2.2.1, .int .i64 p.2.2.2]
theorem flI_append (xs ys : List InsT) : flI (xs ++ ys) = flI xs ++ flI ys := by unfold flI; simp
theorem flI_get : ∀ (ys : List InsT) (k : Nat) (h : k < ys.length), (flI ys)[k * 4]? = some (.int .i64 ys[k].1) ∧ (flI ys)[k * 4 + 1]? = some (.int .i64 ys[k].2.1) ∧ (flI ys)[k * 4 + 2]? = some (.int .i64 ys[k].2.2.1) ∧ (flI ys)[k * 4 + 3]? = some (.int .i64 ys[k].2.2.2)
  | [], k, h => by cases h
  | x :: ys, 0, h => ⟨rfl, rfl, rfl, rfl⟩
  | x :: ys, k + 1, h => by
    have := flI_get ys k (by simpa using h)
    have e : flI (x :: ys) = [.int .i64 x.1, .int .i64 x.2.1, .int .i64 x.2.2.1, .int .i64 x.2.2.2] ++ flI ys := by unfold flI; simp
    rw [e, show (k + 1) * 4 = k * 4 + 4 by omega]
    simpa using this
theorem own_argI {w : World} {base : Nat} {a : Option Addr} {q : Nat} {ys : List InsT} (h : w.ownsRow base 25 4 (.slice a ys.length q) ys.length (flI ys)) : ArgI w ys a ys.length q := by
  rcases h.2 with ⟨e, h0⟩ | ⟨g, cap, cur, e, hb, hg, hn, hm, hs, ht⟩
  · obtain rfl : ys = [] := List.eq_nil_of_length_eq_zero h0
    exact ⟨rfl, by simp, (fun k hk => by cases hk)⟩
  · cases e
    have cm : ys.length ≤ 9223372036854775807 := by unfold maxLen at hm; omega
    refine ⟨rfl, by omega, fun k hk => ?_⟩
    have cl : ∀ i, i < ys.length * 4 → w.cell? ⟨g, i, none⟩ = (flI ys)[i]? := fun i hi => by
      rw [cell_of_row w _ _ _ _ _ hg, ← ht, List.getElem?_take_of_lt (by omega), Array.getElem?_toList]
    obtain ⟨k0, k1, k2, k3⟩ := flI_get ys k hk
    refine ⟨g, 0, rfl, lt_of_block hg, ?_, ?_, ?_, ?_⟩
    · rw [Nat.zero_add, cl _ (by omega)]; exact k0
    · rw [Nat.zero_add, cl _ (by omega)]; exact k1
    · rw [Nat.zero_add, cl _ (by omega)]; exact k2
    · rw [Nat.zero_add, cl _ (by omega)]; exact k3
theorem info_ins : (Tryz.prog.info? 25).map (fun i => (i.zero, i.size, i.bytes)) = some (some (.agg #[.int .i64 0, .int .i64 0, .int .i64 0, .int .i64 0]), 4, 32) := by kernel_rfl
theorem one_flI (ys : List InsT) : ∀ u ∈ flI ys, u.oneCell' = true := fun u hu => by
  unfold flI at hu
  obtain ⟨p, -, hp⟩ := List.mem_flatMap.1 hu
  simp at hp
  rcases hp with rfl | rfl | rfl | rfl <;> rfl
theorem news_ins (V : World) (x : InsT) : ∀ j u, (flI [x])[j]? = some u → (V.alloc (.cells #[.int .i64 x.1, .int .i64 x.2.1, .int .i64 x.2.2.1, .int .i64 x.2.2.2] 25)).cell? ((⟨V.heap.size, 0, none⟩ : Addr).add j) = some u := World.news_of_block (cs := #[.int .i64 x.1, .int .i64 x.2.1, .int .i64 x.2.2.1, .int .i64 x.2.2.2]) (heap_alloc_new V _)
theorem own_below {w V : World} {base : Nat} {e : TypeId} {size n : Nat} {v : Value} {xs : List Value} (h : w.ownsRow base e size v n xs) (hb : Below w.heap.size w V) : V.ownsRow base e size v n xs := by
  refine ⟨h.1, ?_⟩
  rcases h.2 with h | ⟨g, cap, cur, e1, e2, e3, e4⟩
  · exact Or.inl h
  · exact Or.inr ⟨g, cap, cur, e1, e2, (hb.block g (lt_of_block e3)).trans e3, e4⟩
/-- What readLines answers. -/
def RdP (r : List InsT × Bool) (w : World) (e : Ending) (w' : World) : Prop :=
  Below w.heap.size w w' ∧ ((r.2 = true ∧ ∃ a q, e = .returned (.tuple #[.slice a (r.1.take 13).length q, .int .i64 (r.1.length : Int), .nilIface]) ∧ w'.ownsRow w.heap.size 25 4 (.slice a (r.1.take 13).length q) (r.1.take 13).length (flI (r.1.take 13))) ∨ (r.2 = false ∧ e = .returned (.tuple #[.slice none 0 0, .int .i64 (r.1.length : Int), .iface 73 (.int .i64 2)])))
theorem take_few {acc : List InsT} (x : InsT) (h : acc.length ≤ 12) : (acc ++ [x]).take 13 = acc.take 13 ++ [x] := by
  rw [List.take_of_length_le (by simp; omega), List.take_of_length_le (by omega)]
theorem take_many {acc : List InsT} (x : InsT) (h : 13 ≤ acc.length) : (acc ++ [x]).take 13 = acc.take 13 := by rw [List.take_append_of_le_length h]
set_option maxRecDepth 100000 in
set_option maxHeartbeats 12800000 in
theorem readLines_any (L : List UInt8) (w : World) (hl : L.length ≤ 1048576) (hU : UsT w) (hW : WoT w) : Calls Tryz.prog 24 #[.string ⟨L.toArray⟩] w (RdP (linesC L.length L) w) := by
  have HU := hide' (fun (V : World) (h : Below w.heap.size w V) => hU.below h)
  have HW := hide' (fun (V : World) (h : Below w.heap.size w V) => hW.below h)
  have HL := hide' hl
  have EE := hide' (errOf_is (f := 2) (by omega))
  obtain ⟨i0, hi0, hz⟩ := Option.map_eq_some_iff.1 info_ins
  simp only [Prod.mk.injEq] at hz
  obtain ⟨hz0, hz1, hz2⟩ := hz
  have RL := hide' (fun (l : List UInt8) (hl : l.length ≤ 1048576) (V : World) (h1 : UsT V) (h2 : WoT V) => readLine_any l V hl h1 h2)
  clear hU hW hl
  go_enter Tryz.func24, Tryz.ntmps24
  go_wp2
  go_loopw [0, 5, 6] (fun tv cv lv wr => ∃ (rest : List UInt8) (acc : List InsT) (m N : Nat) (oa : Option Addr) (q : Nat), tv = .string ⟨rest.toArray⟩ ∧ cv = .slice oa N q ∧ lv = .int .i64 (m : Int) ∧ rest.length ≤ 1048576 ∧ m + rest.length ≤ 1048576 ∧ N ≤ 13 ∧ Hid (PS L acc rest) ∧ Hid (acc.length = m ∧ (acc.take 13).length = N) ∧ Hid (wr.ownsRow w.heap.size 25 4 (.slice oa N q) N (flI (acc.take 13))) ∧ Hid (Below w.heap.size w wr)) (fun tv _ _ _ => szS tv)
  case atStart => exact ⟨L, [], 0, 0, none, 0, rfl, rfl, rfl, HL.out, by have := HL.out; omega, by omega, hide' (PS.start L), hide' ⟨rfl, rfl⟩, hide' (World.ownsRow_nil w w.heap.size 25 4), hide' (Below.refl _ _)⟩
  case round =>
    obtain ⟨rest, acc, m, N, oa, q, rfl, rfl, rfl, hr, hm, hN, PP, AL, OW, BW⟩ := hrel
    by_cases r0 : rest = []
    · subst r0
      have RR := hide' (PP.out.fin)
      go_wp2
      go_ret3
      refine ⟨BW.out, Or.inl ⟨by rw [RR.out], oa, q, ?_, ?_⟩⟩
      · rw [RR.out]; simp only; rw [AL.out.1, AL.out.2]; rfl
      · rw [RR.out]; simp only; rw [AL.out.2]; exact OW.out
    · have e0 : rest.isEmpty = false := by simpa using r0
      have R0 := hide' r0
      by_cases hi : Lib.indexByte rest 10 = -1
      · have CN := hide' (fun V => cut_no rest V hi)
        have RR := hide' (PP.out.bad r0 (Or.inl hi))
        have RO := hide' (RL.out rest hr)
        clear hi r0
        go_wp2_with fail
        refine (CN.out _).mono ?_
        rintro e w4 ⟨rfl, rfl⟩
        clear e0
        go_wp2_with fail
        refine (RO.out w4 (HU.out w4 BW.out) (HW.out w4 BW.out)).mono ?_
        rintro e w5 ⟨⟨⟨o, a, t, el⟩, hx, rfl⟩ | ⟨hx, rfl⟩, hb⟩
        · simp only [insA]
          clear hx
          have B5 := hide' (BW.out.trans (hb.mono BW.out.size))
          obtain ⟨w6, hw6⟩ : ∃ w6, w5.alloc (.cells #[.int .i64 o, .int .i64 a, .int .i64 t, .int .i64 el] 25) = w6 := ⟨_, rfl⟩
          have B6 := hide' (show Below w.heap.size w w6 by rw [← hw6]; exact B5.out.alloc B5.out.size _)
          go_upto_region 6 with fail
          clear hw6
          go_wp2
          go_ret3
          exact ⟨B6.out, Or.inr ⟨by rw [RR.out], by rw [RR.out]; simp only; rw [AL.out.1]; rfl⟩⟩
        · simp only [insA]
          clear hx
          have B5 := hide' (BW.out.trans (hb.mono BW.out.size))
          rw [EE.out]
          obtain ⟨w6, hw6⟩ : ∃ w6, w5.alloc (.cells #[.int .i64 0, .int .i64 0, .int .i64 0, .int .i64 0] 25) = w6 := ⟨_, rfl⟩
          have B6 := hide' (show Below w.heap.size w w6 by rw [← hw6]; exact B5.out.alloc B5.out.size _)
          have HW6 := hide' hw6
          clear hw6
          go_upto_region 6 with fail
          rw [HW6.out]
          go_wp2
          go_ret3
          exact ⟨B6.out, Or.inr ⟨by rw [RR.out], by rw [RR.out]; simp only; rw [AL.out.1]; rfl⟩⟩
      · obtain ⟨i, hi', il, -⟩ := byte_split hi
        have CY := hide' (fun V => cut_yes rest i V hi' il hr)
        have LS : (rest.take i).length ≤ 1048576 := by rw [List.length_take]; omega
        have LD : (rest.drop (i + 1)).length = rest.length - (i + 1) := by simp
        have RO := hide' (RL.out (rest.take i) LS)
        have NX := hide' (fun x (hx : lineC (rest.take i) = some x) => PP.out.next hi' hx)
        have BD := hide' (fun (hx : lineC (rest.take i) = none) => PP.out.bad r0 (Or.inr ⟨i, hi', hx⟩))
        have SZ := hide' (And.intro il LD)
        obtain ⟨ln, hln⟩ : ∃ ln, rest.take i = ln := ⟨_, rfl⟩
        obtain ⟨rs, hrs⟩ : ∃ rs, rest.drop (i + 1) = rs := ⟨_, rfl⟩
        rw [hln] at CY RO NX BD
        rw [hrs] at CY NX SZ
        clear hi hi' r0 il LS LD hln hrs
        go_wp2_with fail
        refine (CY.out _).mono ?_
        rintro e w4 ⟨rfl, hb4⟩
        have B4 := hide' (BW.out.trans (hb4.mono BW.out.size))
        have O4 := hide' (own_below OW.out hb4)
        clear e0 hb4
        go_wp2_with fail
        refine (RO.out w4 (HU.out w4 B4.out) (HW.out w4 B4.out)).mono ?_
        rintro e w5 ⟨⟨⟨o, a, t, el⟩, hx, rfl⟩ | ⟨hx, rfl⟩, hb⟩
        · simp only [insA]
          have NP := hide' (NX.out _ hx)
          have B5 := hide' (B4.out.trans (hb.mono B4.out.size))
          have O5 := hide' (own_below O4.out hb)
          clear hx hb
          obtain ⟨w6, hw6⟩ : ∃ w6, w5.alloc (.cells #[.int .i64 o, .int .i64 a, .int .i64 t, .int .i64 el] 25) = w6 := ⟨_, rfl⟩
          have B6 := hide' (show Below w.heap.size w w6 by rw [← hw6]; exact B5.out.alloc B5.out.size _)
          have O6 := hide' (show w6.ownsRow w.heap.size 25 4 (.slice oa N q) N (flI (acc.take 13)) by rw [← hw6]; exact O5.out.alloc _)
          have r6 := hide' (show w6.heap[w5.heap.size]? = some (.cells #[.int .i64 o, .int .i64 a, .int .i64 t, .int .i64 el] 25 (0, 0)) by rw [← hw6]; exact heap_alloc_new _ _)
          have d0 := cell_of_row w6 _ 0 _ _ _ r6.out
          have d1 := cell_of_row w6 _ 1 _ _ _ r6.out
          have d2 := cell_of_row w6 _ 2 _ _ _ r6.out
          have d3 := cell_of_row w6 _ 3 _ _ _ r6.out
          simp at d0 d1 d2 d3
          have SZm := hide' (show szS (.string ⟨rs.toArray⟩) < szS (.string ⟨rest.toArray⟩) ∧ rs.length ≤ 1048576 ∧ m + 1 + rs.length ≤ 1048576 by rw [szS_mk, szS_mk]; have := SZ.out; omega)
          go_upto_region 6 with fail
          clear hw6
          by_cases n12 : (N : Int) ≤ 12
          · have A12 := hide' (show acc.length ≤ 12 by have := AL.out; have h2 := this.2; rw [List.length_take] at h2; omega)
            have z6 := B6.out.size
            have OR := hide' (fun k hk => (own_range O6.out k hk).1)
            go_wp2_with (at_builtin; go_loud (refine wpList_append_own _ rfl _ _ 22 rfl w.heap.size 25 i0 _ 4 32 Tryz.underlying22 hi0 hz0 hz1 hz2 rfl (by decide) _ N _ rfl (O6.out.alloc _) ⟨w6.heap.size, 0, none⟩ 1 1 (flI [(o, a, t, el)]) rfl rfl (news_ins w6 (o, a, t, el)) (one_flI _) (by unfold maxLen; omega) (by omega) (by simp; omega) ?_; intro v' w7 ho hg hn; go_frame))
            obtain ⟨a', q', rfl⟩ := own_slice ho
            refine ⟨⟨rs, acc ++ [(o, a, t, el)], m + 1, N + 1, a', q', rfl, rfl, by go_num, SZm.out.2.1, SZm.out.2.2, by omega, NP, hide' ⟨by simp [AL.out.1], by rw [take_few _ A12.out]; simp [AL.out.2]⟩, hide' (by rw [take_few _ A12.out, flI_append]; exact ho), hide' ((B6.out.alloc z6 _).grown hg (by simp; omega) OR.out)⟩, SZm.out.1⟩
          · have A12 := hide' (show 13 ≤ acc.length by have := AL.out; have h2 := this.2; rw [List.length_take] at h2; omega)
            go_wp2
            refine ⟨⟨rs, acc ++ [(o, a, t, el)], m + 1, N, oa, q, rfl, rfl, by go_num, SZm.out.2.1, SZm.out.2.2, by omega, NP, hide' ⟨by simp [AL.out.1], by rw [take_many _ A12.out]; exact AL.out.2⟩, hide' (by rw [take_many _ A12.out]; exact O6.out), B6⟩, SZm.out.1⟩
        · simp only [insA]
          have RR := hide' (BD.out hx)
          have B5 := hide' (B4.out.trans (hb.mono B4.out.size))
          clear hx
          rw [EE.out]
          obtain ⟨w6, hw6⟩ : ∃ w6, w5.alloc (.cells #[.int .i64 0, .int .i64 0, .int .i64 0, .int .i64 0] 25) = w6 := ⟨_, rfl⟩
          have B6 := hide' (show Below w.heap.size w w6 by rw [← hw6]; exact B5.out.alloc B5.out.size _)
          have HW6 := hide' hw6
          clear hw6
          go_upto_region 6 with fail
          rw [HW6.out]
          go_wp2
          go_ret3
          exact ⟨B6.out, Or.inr ⟨by rw [RR.out], by rw [RR.out]; simp only; rw [AL.out.1]; rfl⟩⟩
end Go.Proofs.YtcfoeadfhkojeaaGreatDoor

namespace Go.Proofs.YtcfoeadfhkojeaaGreatDoor
open Go.RowKit
set_option linter.unusedVariables false
/-- What is wrong with a text. -/
def parE (L : List UInt8) : Nat := if (linesC L.length L).2 = true then codeE (linesC L.length L).1 else 2
/-- What Parse answers. -/
def ParP (L : List UInt8) (w : World) (e : Ending) (w' : World) : Prop :=
  Below w.heap.size w w' ∧ ((parE L = 0 ∧ ∃ a q, e = .returned (.tuple #[.slice a (linesC L.length L).1.length q, .int .i64 0, .nilIface]) ∧ ArgI w' (linesC L.length L).1 a (linesC L.length L).1.length q) ∨ (parE L ≠ 0 ∧ e = .returned (.tuple #[.slice none 0 0, .int .i64 ((linesC L.length L).1.length : Int), errOf (parE L)])))
theorem code_take (xs : List InsT) : codeE (xs.take 13) = codeE xs := by
  by_cases h : xs.length ≤ 13
  · rw [List.take_of_length_le h]
  · unfold codeE
    rw [if_pos (by rw [List.length_take]; omega), if_pos (by omega)]
theorem code_small {xs : List InsT} (h : codeE xs = 0) : xs.take 13 = xs := List.take_of_length_le (by have := (code_at h).2.1; omega)
set_option maxRecDepth 100000 in
set_option maxHeartbeats 3200000 in
theorem counterParse_any (L : List UInt8) (w : World) (hl : L.length ≤ 1048576) (hU : UsT w) (hW : WoT w) : Calls Tryz.prog 6 #[.string ⟨L.toArray⟩] w (ParP L w) := by
  have HU := hide' (fun (V : World) (h : Below w.heap.size w V) => hU.below h)
  have RL := hide' (readLines_any L w hl hU hW)
  have PE := hide' (show parE L = if (linesC L.length L).2 = true then codeE (linesC L.length L).1 else 2 from rfl)
  have PD := hide' (fun e w' => show ParP L w e w' = (Below w.heap.size w w' ∧ ((parE L = 0 ∧ ∃ a q, e = .returned (.tuple #[.slice a (linesC L.length L).1.length q, .int .i64 0, .nilIface]) ∧ ArgI w' (linesC L.length L).1 a (linesC L.length L).1.length q) ∨ (parE L ≠ 0 ∧ e = .returned (.tuple #[.slice none 0 0, .int .i64 ((linesC L.length L).1.length : Int), errOf (parE L)])))) from rfl)
  obtain ⟨⟨xs, b⟩, hr⟩ : ∃ r, linesC L.length L = r := ⟨_, rfl⟩
  rw [hr] at RL PE PD
  simp only at PE PD
  clear hU hW hl hr
  go_enter Tryz.func6, Tryz.ntmps6
  go_wp2_with fail
  refine RL.out.mono ?_
  rintro e w1 ⟨b1, ⟨ht, a, q, rfl, ho⟩ | ⟨hf, rfl⟩⟩
  · simp only at ht ho ⊢
    subst ht
    have PE1 := hide' (show parE L = codeE xs by rw [PE.out, if_pos rfl])
    have AR := hide' (own_argI ho)
    have CK := hide' (counterCheck_any (xs.take 13) a (xs.take 13).length q w1 AR.out (HU.out w1 b1))
    rw [code_take] at CK
    have B1 := hide' b1
    by_cases hc : codeE xs = 0
    · have TS := hide' (code_small hc)
      have HC := hide' hc
      rw [hc, show errOf 0 = .nilIface from rfl] at CK
      clear hc b1 ho
      rw [TS.out] at CK AR
      rw [TS.out]
      obtain ⟨n, hn⟩ : ∃ n, xs.length = n := ⟨_, rfl⟩
      rw [hn] at CK AR ⊢
      have HN := hide' hn
      clear hn
      go_wp2_with fail
      refine CK.out.mono ?_
      rintro e w2 ⟨rfl, b2⟩
      have B2 := hide' b2
      clear b2
      go_wp2
      go_ret3
      rw [PD.out]
      exact ⟨B1.out.trans (B2.out.mono B1.out.size), Or.inl ⟨by rw [PE1.out, HC.out], a, q, by rw [HN.out]; rfl, by rw [HN.out]; exact AR.out.below B2.out⟩⟩
    · have HC := hide' hc
      rw [errOf_is hc] at CK
      have EE := hide' (errOf_is hc)
      obtain ⟨m, hm⟩ : ∃ m, xs.length = m := ⟨_, rfl⟩
      rw [hm]
      have HM := hide' hm
      obtain ⟨n, hn⟩ : ∃ n, (xs.take 13).length = n := ⟨_, rfl⟩
      rw [hn] at CK ⊢
      clear hc b1 ho hm hn
      go_wp2_with fail
      refine CK.out.mono ?_
      rintro e w2 ⟨rfl, b2⟩
      have B2 := hide' b2
      clear b2
      go_wp2
      go_ret3
      rw [PD.out]
      refine ⟨B1.out.trans (B2.out.mono B1.out.size), Or.inr ⟨by rw [PE1.out]; exact HC.out, ?_⟩⟩
      rw [PE1.out, EE.out, HM.out]; rfl
  · simp only at hf ⊢
    subst hf
    have PE1 := hide' (show parE L = 2 by rw [PE.out, if_neg (by decide)])
    have EE := hide' (errOf_is (f := 2) (by omega))
    have B1 := hide' b1
    clear b1
    go_wp2
    go_ret3
    rw [PD.out]
    exact ⟨B1.out, Or.inr ⟨by rw [PE1.out]; omega, by rw [PE1.out, EE.out]; rfl⟩⟩
end Go.Proofs.YtcfoeadfhkojeaaGreatDoor

namespace Go.Proofs.YtcfoeadfhkojeaaGreatDoor
open Go.RowKit
set_option linter.unusedVariables false
set_option maxRecDepth 100000 in
theorem dig_small : ∀ n : Fin 12, numB (Lib.decDigits n.val) = true ∧ vlC (Lib.decDigits n.val) = (n.val : Int) := by decide +kernel
theorem dg_num {x : Int} (h0 : 0 ≤ x) (h : x < 12) : numB (dgL x) = true ∧ vlC (dgL x) = x := by
  have := dig_small ⟨x.toNat, by omega⟩
  simp only at this
  unfold dgL
  refine ⟨this.1, this.2.trans (by omega)⟩
theorem dg_digs {x : Int} (h0 : 0 ≤ x) (h : x < 12) : ∀ y ∈ dgL x, digU y = true := dig_all (numB_iff.1 (dg_num h0 h).1).2.2.2
theorem dg_short {x : Int} (h0 : 0 ≤ x) (h : x < 12) : (dgL x).length ≤ 6 := (numB_iff.1 (dg_num h0 h).1).2.1
/-- A line's text without its end. -/
def bodyS (p : InsT) : List UInt8 :=
  if p.1 = 1 then [105, 110, 99] ++ 32 :: (dgL p.2.1 ++ 32 :: dgL p.2.2.1)
  else if p.1 = 2 then [100, 101, 99] ++ 32 :: (dgL p.2.1 ++ 32 :: (dgL p.2.2.1 ++ 32 :: dgL p.2.2.2))
  else [104, 97, 108, 116]
theorem line_body (p : InsT) : lineS p = bodyS p ++ [10] := by
  unfold lineS bodyS
  split
  · simp
  · split
    · simp
    · rfl
theorem index_app10 {p r : List UInt8} (h : ∀ x ∈ p, x ≠ 10) : Lib.indexByte (p ++ 10 :: r) 10 = (p.length : Int) := by
  induction p with
  | nil => rfl
  | cons x p ih =>
    have := ih (fun y hy => h y (by simp [hy]))
    have hx := h x (by simp)
    simp only [List.cons_append, Lib.indexByte, this]
    rw [if_neg (by simpa using hx), if_neg (by simp <;> omega)]
    simp
theorem dig_ne10 {p : List UInt8} (h : ∀ x ∈ p, digU x = true) : ∀ x ∈ p, x ≠ 10 := fun x hx e => by
  have := h x hx; rw [e] at this; exact absurd this (by decide)
/-- A right line's text is read as it. -/
theorem body_reads {L : Int} {p : InsT} (h : insB L p = true) (hL : L ≤ 12) : lineC (bodyS p) = some p ∧ (∀ x ∈ bodyS p, x ≠ 10) ∧ (bodyS p).length ≤ 24 := by
  have hp := ins_parts h
  obtain ⟨o, a, t, e⟩ := p
  simp only at hp
  rcases hp with ⟨rfl, a0, a4, t0, tL, rfl⟩ | ⟨rfl, a0, a4, t0, tL, e0, eL⟩ | ⟨rfl, rfl, rfl, rfl⟩
  · have da := dg_digs a0 (by omega)
    have dt := dg_digs t0 (by omega)
    have na := dg_num a0 (by omega)
    have nt := dg_num t0 (by omega)
    have sa := dg_short a0 (by omega)
    have st := dg_short t0 (by omega)
    simp only [bodyS, if_true]
    refine ⟨?_, ?_, by simp; omega⟩
    · rw [line_two (f0 := [105, 110, 99]) (f1 := dgL a) (f2 := dgL t) (by rw [line_word (by decide) rfl, sp_word (dig_ne da) rfl, spN_none (no_sp dt)]) (by decide), na.1, nt.1, if_pos (by rfl), na.2, nt.2]
    · intro x hx
      simp only [List.mem_append, List.mem_cons] at hx
      rcases hx with hx | rfl | hx | rfl | hx
      · intro e; subst e; revert hx; decide
      · decide
      · exact dig_ne10 da x hx
      · decide
      · exact dig_ne10 dt x hx
  · have da := dg_digs a0 (by omega)
    have dt := dg_digs t0 (by omega)
    have de := dg_digs e0 (by omega)
    have na := dg_num a0 (by omega)
    have nt := dg_num t0 (by omega)
    have ne := dg_num e0 (by omega)
    have sa := dg_short a0 (by omega)
    have st := dg_short t0 (by omega)
    have se := dg_short e0 (by omega)
    simp only [bodyS, if_true]
    rw [if_neg (by decide)]
    refine ⟨?_, ?_, by simp; omega⟩
    · rw [line_three (f0 := [100, 101, 99]) (f1 := dgL a) (f2 := dgL t) (f3 := dgL e) (by rw [line_word (by decide) rfl, sp_word (dig_ne da) rfl, sp_word (dig_ne dt) rfl, spN_none (no_sp de)]) (by decide), na.1, nt.1, ne.1, if_pos (by rfl), na.2, nt.2, ne.2]
    · intro x hx
      simp only [List.mem_append, List.mem_cons] at hx
      rcases hx with hx | rfl | hx | rfl | hx | rfl | hx
      · intro e; subst e; revert hx; decide
      · decide
      · exact dig_ne10 da x hx
      · decide
      · exact dig_ne10 dt x hx
      · decide
      · exact dig_ne10 de x hx
  · exact ⟨by decide, by decide, by decide⟩
/-- The text from a line on. -/
def tailN (xs : List InsT) : Nat → Nat → List UInt8
  | _, 0 => []
  | k, m + 1 => lineS (lnM xs k) ++ tailN xs (k + 1) m
theorem text_tail (xs : List InsT) : ∀ m k, textN xs k ++ tailN xs k m = textN xs (k + m)
  | 0, k => by simp [tailN]
  | m + 1, k => by
    rw [tailN, ← List.append_assoc, show textN xs k ++ lineS (lnM xs k) = textN xs (k + 1) from rfl, text_tail xs m (k + 1), show k + 1 + m = k + (m + 1) by omega]
theorem tail_reads {xs : List InsT} (hx : ∀ k, k < xs.length → lineC (bodyS (lnM xs k)) = some (lnM xs k) ∧ (∀ x ∈ bodyS (lnM xs k), x ≠ 10)) (T : List UInt8) : ∀ m k, k + m = xs.length → PS T (xs.take k) (tailN xs k m) → PS T xs []
  | 0, k, hk, h => by
    have e : xs.take k = xs := List.take_of_length_le (by omega)
    rw [e] at h; exact h
  | m + 1, k, hk, h => by
    obtain ⟨h1, h2⟩ := hx k (by omega)
    have e : tailN xs k (m + 1) = bodyS (lnM xs k) ++ 10 :: tailN xs (k + 1) m := by rw [tailN, line_body]; simp
    rw [e] at h
    have hn := h.next (index_app10 h2) (x := lnM xs k) (by simpa using h1)
    rw [show (bodyS (lnM xs k) ++ 10 :: tailN xs (k + 1) m).drop ((bodyS (lnM xs k)).length + 1) = tailN xs (k + 1) m by simp] at hn
    have e2 : xs.take k ++ [lnM xs k] = xs.take (k + 1) := by
      rw [ln_at (show k < xs.length by omega), List.take_append_getElem]
    rw [e2] at hn
    exact tail_reads hx T m (k + 1) (by omega) hn
theorem tail_len {xs : List InsT} (hx : ∀ k, k < xs.length → (bodyS (lnM xs k)).length ≤ 24) : ∀ m k, k + m = xs.length → (tailN xs k m).length ≤ 25 * m
  | 0, k, hk => by simp [tailN]
  | m + 1, k, hk => by
    have h1 := hx k (by omega)
    have h2 := tail_len hx m (k + 1) (by omega)
    rw [tailN, line_body]
    simp only [List.length_append, List.length_cons, List.length_nil]
    omega
/-- WRITTEN AND READ IS THE SAME. -/
theorem text_back {xs : List InsT} (hc : codeE xs = 0) : linesC (textL xs).length (textL xs) = (xs, true) ∧ parE (textL xs) = 0 ∧ (textL xs).length ≤ 1048576 := by
  obtain ⟨h1, h2, hx⟩ := code_at hc
  have hb : ∀ k, k < xs.length → lineC (bodyS (lnM xs k)) = some (lnM xs k) ∧ (∀ x ∈ bodyS (lnM xs k), x ≠ 10) ∧ (bodyS (lnM xs k)).length ≤ 24 := fun k hk => by
    rw [ln_at hk]; exact body_reads (hx k hk) (by omega)
  have e : tailN xs 0 xs.length = textL xs := by
    have := text_tail xs xs.length 0
    simpa [textN, textL] using this
  have hp : PS (textL xs) (xs.take 0) (tailN xs 0 xs.length) := by rw [e]; exact PS.start _
  have hf := (tail_reads (fun k hk => ⟨(hb k hk).1, (hb k hk).2.1⟩) (textL xs) xs.length 0 (by omega) hp).fin
  have hl := tail_len (fun k hk => (hb k hk).2.2) xs.length 0 (by omega)
  rw [e] at hl
  exact ⟨hf, by unfold parE; rw [hf]; exact hc, by omega⟩
end Go.Proofs.YtcfoeadfhkojeaaGreatDoor

namespace Go.Proofs.YtcfoeadfhkojeaaGreatDoor
open Go.RowKit
set_option linter.unusedVariables false

abbrev Bld (B b : Nat) (bs : List Value) (w : World) : Prop := Lib.IsBuilder 58 5 B b bs w
abbrev BldU (B b : Nat) (bs : List Value) (w : World) : Prop := Lib.BuilderAt 58 5 B b (.pointer (some ⟨b, 0, none⟩)) bs w
theorem size_bld : (Tryz.prog.info? 58).map (·.size) = some 2 := by kernel_rfl
theorem lies_bld : liesAt Tryz.prog Tryz.prog.depth 58 (2 / Tryz.prog.cellsOf 58) 0 58 1 = true := by kernel_rfl

end Go.Proofs.YtcfoeadfhkojeaaGreatDoor

