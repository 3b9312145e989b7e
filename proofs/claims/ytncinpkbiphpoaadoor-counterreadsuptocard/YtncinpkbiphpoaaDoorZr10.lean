/-
  What the last text of this claim leans on, part 10: Ck7, Cl2.
-/
import Derived.Test.YtncinpkbiphpoaaDoorZr9
import Derived.Test.YtncinpkbiphpoaaDoorZr4
import Derived.OwnWalk
import Derived.Deep.DeepAppendRoom
namespace Go.Proofs.YtncinpkbiphpoaaDoor
open Go.RowKit
set_option linter.unusedVariables false
def szS : Value → Nat
  | .string s => s.size
  | _ => 0
theorem szS_mk (l : List UInt8) : szS (.string ⟨l.toArray⟩) = l.length := by show l.toArray.size = _; simp
/-- Lines, cell by cell. -/
def flI (ys : List InsT) : List Value := ys.flatMap fun p => [.int .i64 p.1, .int .i64 p.2.1, .int .i64 p.2.2.1, .int .i64 p.2.2.2]
theorem flI_append (xs ys : List InsT) : flI (xs ++ ys) = flI xs ++ flI ys := by unfold flI; simp
theorem flI_get : ∀ (ys : List InsT) (k : Nat) (h : k < ys.length), (flI ys)[k * 4]? = some (.int .i64 ys[k].1) ∧ (flI ys)[k * 4 + 1]? = some (.int .i64 ys[k].2.1) ∧ (flI ys)[k * 4 + 2]? = some (.int .i64 ys[k].2.2.1) ∧ (flI ys)[k * 4 + 3]? = some (.int .i64 ys[k].2.2.2)
  | [], k, h => by cases h
  | x :: ys, 0, h => ⟨rfl, rfl, rfl, rfl⟩
  | x :: ys, k + 1, h => by
    have := flI_get ys k (by simpa using h)
    have e : flI (x :: ys) = [.int .i64 x.1, .int .i64 x.2.1, .int .i64 x.2.2.1, .int .i64 x.2.2.2] ++ flI ys := by unfold flI; simp
    rw [e, show (k + 1) * 4 = k * 4 + 4 by omega]
    simpa using this
theorem own_argI {w : World} {base : Nat} {a : Option Addr} {q : Nat} {ys : List InsT} (h : w.ownsRow base 34 4 (.slice a ys.length q) ys.length (flI ys)) : ArgI w ys a ys.length q := by
  rcases h.2 with ⟨e, h0⟩ | ⟨g, cap, cur, e, hb, hg, hn, hm, hs, ht⟩
  · obtain rfl : ys = [] := List.eq_nil_of_length_eq_zero h0
    exact ⟨rfl, by simp, (fun k hk => by cases hk)⟩
  · cases e
    have cm : ys.length ≤ 9223372036854775807 := by unfold maxLen at hm; omega
    refine ⟨rfl, by omega, fun k hk => ?_⟩
    have cl : ∀ i, i < ys.length * 4 → w.cell? ⟨g, i, none⟩ = (flI ys)[i]? := fun i hi => by
      rw [cell_of_row w _ _ _ _ _ hg, ← ht, List.getElem?_take_of_lt (by omega), Array.getElem?_toList]
    obtain ⟨k0, k1, k2, k3⟩ := flI_get ys k hk
    refine ⟨g, 0, rfl, lt_of_block hg, ?_, ?_, ?_, ?_⟩
    · rw [Nat.zero_add, cl _ (by omega)]; exact k0
    · rw [Nat.zero_add, cl _ (by omega)]; exact k1
    · rw [Nat.zero_add, cl _ (by omega)]; exact k2
    · rw [Nat.zero_add, cl _ (by omega)]; exact k3
theorem info_ins : (Tryd.prog.info? 34).map (fun i => (i.zero, i.size, i.bytes)) = some (some (.agg #[.int .i64 0, .int .i64 0, .int .i64 0, .int .i64 0]), 4, 32) := by kernel_rfl
theorem one_flI (ys : List InsT) : ∀ u ∈ flI ys, u.oneCell' = true := fun u hu => by
  unfold flI at hu
  obtain ⟨p, -, hp⟩ := List.mem_flatMap.1 hu
  simp at hp
  rcases hp with rfl | rfl | rfl | rfl <;> rfl
theorem news_ins (V : World) (x : InsT) : ∀ j u, (flI [x])[j]? = some u → (V.alloc (.cells #[.int .i64 x.1, .int .i64 x.2.1, .int .i64 x.2.2.1, .int .i64 x.2.2.2] 34)).cell? ((⟨V.heap.size, 0, none⟩ : Addr).add j) = some u := World.news_of_block (cs := #[.int .i64 x.1, .int .i64 x.2.1, .int .i64 x.2.2.1, .int .i64 x.2.2.2]) (heap_alloc_new V _)
theorem own_below {w V : World} {base : Nat} {e : TypeId} {size n : Nat} {v : Value} {xs : List Value} (h : w.ownsRow base e size v n xs) (hb : Below w.heap.size w V) : V.ownsRow base e size v n xs := by
  refine ⟨h.1, ?_⟩
  rcases h.2 with h | ⟨g, cap, cur, e1, e2, e3, e4⟩
  · exact Or.inl h
  · exact Or.inr ⟨g, cap, cur, e1, e2, (hb.block g (lt_of_block e3)).trans e3, e4⟩
/-- What readLines answers. -/
def RdP (r : List InsT × Bool) (w : World) (e : Ending) (w' : World) : Prop :=
  Below w.heap.size w w' ∧ ((r.2 = true ∧ ∃ a q, e = .returned (.tuple #[.slice a (r.1.take 13).length q, .int .i64 (r.1.length : Int), .nilIface]) ∧ w'.ownsRow w.heap.size 34 4 (.slice a (r.1.take 13).length q) (r.1.take 13).length (flI (r.1.take 13))) ∨ (r.2 = false ∧ e = .returned (.tuple #[.slice none 0 0, .int .i64 (r.1.length : Int), .iface 38 (.int .i64 2)])))
theorem take_few {acc : List InsT} (x : InsT) (h : acc.length ≤ 12) : (acc ++ [x]).take 13 = acc.take 13 ++ [x] := by
  rw [List.take_of_length_le (by simp; omega), List.take_of_length_le (by omega)]
theorem take_many {acc : List InsT} (x : InsT) (h : 13 ≤ acc.length) : (acc ++ [x]).take 13 = acc.take 13 := by rw [List.take_append_of_le_length h]
set_option maxRecDepth 100000 in
set_option maxHeartbeats 12800000 in
theorem readLines_any (L : List UInt8) (w : World) (hl : L.length ≤ 1048576) (hU : UsT w) (hW : WoT w) : Calls Tryd.prog 8 #[.string ⟨L.toArray⟩] w (RdP (linesC L.length L) w) := by
  have HU := hide' (fun (V : World) (h : Below w.heap.size w V) => hU.below h)
  have HW := hide' (fun (V : World) (h : Below w.heap.size w V) => hW.below h)
  have HL := hide' hl
  have EE := hide' (errOf_is (f := 2) (by omega))
  obtain ⟨i0, hi0, hz⟩ := Option.map_eq_some_iff.1 info_ins
  simp only [Prod.mk.injEq] at hz
  obtain ⟨hz0, hz1, hz2⟩ := hz
  have RL := hide' (fun (l : List UInt8) (hl : l.length ≤ 1048576) (V : World) (h1 : UsT V) (h2 : WoT V) => readLine_any l V hl h1 h2)
  clear hU hW hl
  go_enter Tryd.func8, Tryd.ntmps8
  go_wp2
  go_loopw [0, 5, 6] (fun tv cv lv wr => ∃ (rest : List UInt8) (acc : List InsT) (m N : Nat) (oa : Option Addr) (q : Nat), tv = .string ⟨rest.toArray⟩ ∧ cv = .slice oa N q ∧ lv = .int .i64 (m : Int) ∧ rest.length ≤ 1048576 ∧ m + rest.length ≤ 1048576 ∧ N ≤ 13 ∧ Hid (PS L acc rest) ∧ Hid (acc.length = m ∧ (acc.take 13).length = N) ∧ Hid (wr.ownsRow w.heap.size 34 4 (.slice oa N q) N (flI (acc.take 13))) ∧ Hid (Below w.heap.size w wr)) (fun tv _ _ _ => szS tv)
  case atStart => exact ⟨L, [], 0, 0, none, 0, rfl, rfl, rfl, HL.out, by have := HL.out; omega, by omega, hide' (PS.start L), hide' ⟨rfl, rfl⟩, hide' (World.ownsRow_nil w w.heap.size 34 4), hide' (Below.refl _ _)⟩
  case round =>
    obtain ⟨rest, acc, m, N, oa, q, rfl, rfl, rfl, hr, hm, hN, PP, AL, OW, BW⟩ := hrel
    by_cases r0 : rest = []
    · subst r0
      have RR := hide' (PP.out.fin)
      go_wp2
      go_ret3
      refine ⟨BW.out, Or.inl ⟨by rw [RR.out], oa, q, ?_, ?_⟩⟩
      · rw [RR.out]; simp only; rw [AL.out.1, AL.out.2]; rfl
      · rw [RR.out]; simp only; rw [AL.out.2]; exact OW.out
    · have e0 : rest.isEmpty = false := by simpa using r0
      have R0 := hide' r0
      by_cases hi : Lib.indexByte rest 10 = -1
      · have CN := hide' (fun V => cut_no rest V hi)
        have RR := hide' (PP.out.bad r0 (Or.inl hi))
        have RO := hide' (RL.out rest hr)
        clear hi r0
        go_wp2_with fail
        refine (CN.out _).mono ?_
        rintro e w4 ⟨rfl, rfl⟩
        clear e0
        go_wp2_with fail
        refine (RO.out w4 (HU.out w4 BW.out) (HW.out w4 BW.out)).mono ?_
        rintro e w5 ⟨⟨⟨o, a, t, el⟩, hx, rfl⟩ | ⟨hx, rfl⟩, hb⟩
        · simp only [insA]
          clear hx
          have B5 := hide' (BW.out.trans (hb.mono BW.out.size))
          obtain ⟨w6, hw6⟩ : ∃ w6, w5.alloc (.cells #[.int .i64 o, .int .i64 a, .int .i64 t, .int .i64 el] 34) = w6 := ⟨_, rfl⟩
          have B6 := hide' (show Below w.heap.size w w6 by rw [← hw6]; exact B5.out.alloc B5.out.size _)
          go_upto_region 6 with fail
          clear hw6
          go_wp2
          go_ret3
          exact ⟨B6.out, Or.inr ⟨by rw [RR.out], by rw [RR.out]; simp only; rw [AL.out.1]; rfl⟩⟩
        · simp only [insA]
          clear hx
          have B5 := hide' (BW.out.trans (hb.mono BW.out.size))
          rw [EE.out]
          obtain ⟨w6, hw6⟩ : ∃ w6, w5.alloc (.cells #[.int .i64 0, .int .i64 0, .int .i64 0, .int .i64 0] 34) = w6 := ⟨_, rfl⟩
          have B6 := hide' (show Below w.heap.size w w6 by rw [← hw6]; exact B5.out.alloc B5.out.size _)
          have HW6 := hide' hw6
          clear hw6
          go_upto_region 6 with fail
          rw [HW6.out]
          go_wp2
          go_ret3
          exact ⟨B6.out, Or.inr ⟨by rw [RR.out], by rw [RR.out]; simp only; rw [AL.out.1]; rfl⟩⟩
      · obtain ⟨i, hi', il, -⟩ := byte_split hi
        have CY := hide' (fun V => cut_yes rest i V hi' il hr)
        have LS : (rest.take i).length ≤ 1048576 := by rw [List.length_take]; omega
        have LD : (rest.drop (i + 1)).length = rest.length - (i + 1) := by simp
        have RO := hide' (RL.out (rest.take i) LS)
        have NX := hide' (fun x (hx : lineC (rest.take i) = some x) => PP.out.next hi' hx)
        have BD := hide' (fun (hx : lineC (rest.take i) = none) => PP.out.bad r0 (Or.inr ⟨i, hi', hx⟩))
        have SZ := hide' (And.intro il LD)
        obtain ⟨ln, hln⟩ : ∃ ln, rest.take i = ln := ⟨_, rfl⟩
        obtain ⟨rs, hrs⟩ : ∃ rs, rest.drop (i + 1) = rs := ⟨_, rfl⟩
        rw [hln] at CY RO NX BD
        rw [hrs] at CY NX SZ
        clear hi hi' r0 il LS LD hln hrs
        go_wp2_with fail
        refine (CY.out _).mono ?_
        rintro e w4 ⟨rfl, hb4⟩
        have B4 := hide' (BW.out.trans (hb4.mono BW.out.size))
        have O4 := hide' (own_below OW.out hb4)
        clear e0 hb4
        go_wp2_with fail
        refine (RO.out w4 (HU.out w4 B4.out) (HW.out w4 B4.out)).mono ?_
        rintro e w5 ⟨⟨⟨o, a, t, el⟩, hx, rfl⟩ | ⟨hx, rfl⟩, hb⟩
        · simp only [insA]
          have NP := hide' (NX.out _ hx)
          have B5 := hide' (B4.out.trans (hb.mono B4.out.size))
          have O5 := hide' (own_below O4.out hb)
          clear hx hb
          obtain ⟨w6, hw6⟩ : ∃ w6, w5.alloc (.cells #[.int .i64 o, .int .i64 a, .int .i64 t, .int .i64 el] 34) = w6 := ⟨_, rfl⟩
          have B6 := hide' (show Below w.heap.size w w6 by rw [← hw6]; exact B5.out.alloc B5.out.size _)
          have O6 := hide' (show w6.ownsRow w.heap.size 34 4 (.slice oa N q) N (flI (acc.take 13)) by rw [← hw6]; exact O5.out.alloc _)
          have r6 := hide' (show w6.heap[w5.heap.size]? = some (.cells #[.int .i64 o, .int .i64 a, .int .i64 t, .int .i64 el] 34 (0, 0)) by rw [← hw6]; exact heap_alloc_new _ _)
          have d0 := cell_of_row w6 _ 0 _ _ _ r6.out
          have d1 := cell_of_row w6 _ 1 _ _ _ r6.out
          have d2 := cell_of_row w6 _ 2 _ _ _ r6.out
          have d3 := cell_of_row w6 _ 3 _ _ _ r6.out
          simp at d0 d1 d2 d3
          have SZm := hide' (show szS (.string ⟨rs.toArray⟩) < szS (.string ⟨rest.toArray⟩) ∧ rs.length ≤ 1048576 ∧ m + 1 + rs.length ≤ 1048576 by rw [szS_mk, szS_mk]; have := SZ.out; omega)
          go_upto_region 6 with fail
          clear hw6
          by_cases n12 : (N : Int) ≤ 12
          · have A12 := hide' (show acc.length ≤ 12 by have := AL.out; have h2 := this.2; rw [List.length_take] at h2; omega)
            have z6 := B6.out.size
            have OR := hide' (fun k hk => (own_range O6.out k hk).1)
            go_wp2_with (at_builtin; go_loud (refine wpList_append_own _ rfl _ _ 22 rfl w.heap.size 34 i0 _ 4 32 Tryd.underlying22 hi0 hz0 hz1 hz2 rfl (by decide) _ N _ rfl (O6.out.alloc _) ⟨w6.heap.size, 0, none⟩ 1 1 (flI [(o, a, t, el)]) rfl rfl (news_ins w6 (o, a, t, el)) (one_flI _) (by unfold maxLen; omega) (by omega) (by simp; omega) ?_; intro v' w7 ho hg hn; go_frame))
            obtain ⟨a', q', rfl⟩ := own_slice ho
            refine ⟨⟨rs, acc ++ [(o, a, t, el)], m + 1, N + 1, a', q', rfl, rfl, by go_num, SZm.out.2.1, SZm.out.2.2, by omega, NP, hide' ⟨by simp [AL.out.1], by rw [take_few _ A12.out]; simp [AL.out.2]⟩, hide' (by rw [take_few _ A12.out, flI_append]; exact ho), hide' ((B6.out.alloc z6 _).grown hg (by simp; omega) OR.out)⟩, SZm.out.1⟩
          · have A12 := hide' (show 13 ≤ acc.length by have := AL.out; have h2 := this.2; rw [List.length_take] at h2; omega)
            go_wp2
            refine ⟨⟨rs, acc ++ [(o, a, t, el)], m + 1, N, oa, q, rfl, rfl, by go_num, SZm.out.2.1, SZm.out.2.2, by omega, NP, hide' ⟨by simp [AL.out.1], by rw [take_many _ A12.out]; exact AL.out.2⟩, hide' (by rw [take_many _ A12.out]; exact O6.out), B6⟩, SZm.out.1⟩
        · simp only [insA]
          have RR := hide' (BD.out hx)
          have B5 := hide' (B4.out.trans (hb.mono B4.out.size))
          clear hx
          rw [EE.out]
          obtain ⟨w6, hw6⟩ : ∃ w6, w5.alloc (.cells #[.int .i64 0, .int .i64 0, .int .i64 0, .int .i64 0] 34) = w6 := ⟨_, rfl⟩
          have B6 := hide' (show Below w.heap.size w w6 by rw [← hw6]; exact B5.out.alloc B5.out.size _)
          have HW6 := hide' hw6
          clear hw6
          go_upto_region 6 with fail
          rw [HW6.out]
          go_wp2
          go_ret3
          exact ⟨B6.out, Or.inr ⟨by rw [RR.out], by rw [RR.out]; simp only; rw [AL.out.1]; rfl⟩⟩
end Go.Proofs.YtncinpkbiphpoaaDoor

namespace Go.Proofs.YtncinpkbiphpoaaDoor
open Go.RowKit
set_option linter.unusedVariables false
/-- What numbers answers. -/
def NmP (r : Option (List Int)) (w : World) (e : Ending) (w' : World) : Prop :=
  Below w.heap.size w w' ∧ ((∃ vs a q, r = some vs ∧ e = .returned (.tuple #[.slice a vs.length q, .bool true]) ∧ ArgP w' vs a vs.length q) ∨ (r = none ∧ e = .returned (.tuple #[.slice none 0 0, .bool false])))
def NmS (l : List UInt8) (i0 i : Nat) (vs : List Int) : Prop := ∃ f, l.length - i ≤ f ∧ numsR l.length (l.drop i0) = (numsR f (l.drop i)).map (vs ++ ·)
theorem NmS.start (l : List UInt8) (i0 : Nat) : NmS l i0 i0 [] := ⟨l.length, by omega, by simp⟩
theorem NmS.fin {l : List UInt8} {i0 : Nat} {vs : List Int} (h : NmS l i0 l.length vs) : numsR l.length (l.drop i0) = some vs := by
  obtain ⟨f, hf, h⟩ := h
  rw [h, List.drop_length, numsR_end]; simp
theorem NmS.next {l : List UInt8} {i0 i : Nat} {vs : List Int} (h : NmS l i0 i vs) (hi : i < l.length) (hc : l.getD i 0 = 32) (hn : numB ((l.drop (i + 1)).takeWhile digU) = true) : NmS l i0 (i + 1 + ((l.drop (i + 1)).takeWhile digU).length) (vs ++ [vlC ((l.drop (i + 1)).takeWhile digU)]) := by
  obtain ⟨f, hf, h⟩ := h
  cases f with
  | zero => omega
  | succ f =>
    refine ⟨f, by omega, ?_⟩
    rw [h, numsR_at hi, if_pos ⟨hc, hn⟩, Option.map_map]
    congr 1
    funext x
    simp
theorem NmS.bad {l : List UInt8} {i0 i : Nat} {vs : List Int} (h : NmS l i0 i vs) (hi : i < l.length) (hb : ¬ l.getD i 0 = 32 ∨ numB ((l.drop (i + 1)).takeWhile digU) = false) : numsR l.length (l.drop i0) = none := by
  obtain ⟨f, hf, h⟩ := h
  cases f with
  | zero => omega
  | succ f =>
    rw [h, numsR_at hi, if_neg]
    · rfl
    · rintro ⟨a, b⟩
      rcases hb with c | c
      · exact c a
      · rw [b] at c; cases c
theorem own_argV {w : World} {base : Nat} {a : Option Addr} {q : Nat} {xs : List Int} (h : w.ownsRow base 3 1 (.slice a xs.length q) xs.length (xs.map (Value.int .i64))) : ArgP w xs a xs.length q := by
  rcases h.2 with ⟨e, h0⟩ | ⟨g, cap, cur, e, hb, hg, hn, hm, hs, ht⟩
  · obtain rfl : xs = [] := List.eq_nil_of_length_eq_zero h0
    exact argP_nil _ _ _
  · cases e
    refine ⟨rfl, by omega, fun k hk => ⟨g, 0, rfl, lt_of_block hg, ?_⟩⟩
    rw [Nat.zero_add, cell_of_row w _ _ _ _ _ hg, ← Array.getElem?_toList, ← List.getElem?_take_of_lt (show k < xs.length * 1 by omega), ht]
    simp [hk]
set_option maxRecDepth 100000 in
set_option maxHeartbeats 6400000 in
theorem refNumbers_any (l : List UInt8) (i0 : Nat) (w : World) (hl : l.length ≤ 1048576) (hi0 : i0 ≤ l.length) : Calls Tryd.prog 16 #[.string ⟨l.toArray⟩, .int .i64 (i0 : Int)] w (NmP (numsR l.length (l.drop i0)) w) := by
  obtain ⟨it, hit, hz⟩ := Option.map_eq_some_iff.1 info_intC
  simp only [Prod.mk.injEq] at hz
  obtain ⟨hz0, hz1, hz2⟩ := hz
  have HL := hide' hl
  have HI := hide' hi0
  have NA := hide' (fun (i : Nat) (h : i ≤ l.length) (V : World) => Number_any ⟨l.toArray⟩ i (i : Int) V rfl (by show l.toArray.size ≤ _; unfold maxLen; simp; omega) (by show i ≤ l.toArray.size; simpa using h))
  clear hl hi0
  go_enter Tryd.func16, Tryd.ntmps16
  go_wp2
  go_loopw [1, 6] (fun iv ov wr => ∃ (i N : Nat) (vs : List Int) (oa : Option Addr) (q : Nat), iv = .int .i64 (i : Int) ∧ ov = .slice oa N q ∧ N ≤ i ∧ i ≤ l.length ∧ Hid (vs.length = N ∧ NmS l i0 i vs) ∧ Hid (wr.ownsRow w.heap.size 3 1 (.slice oa N q) N (vs.map (Value.int .i64))) ∧ Hid (Below w.heap.size w wr)) (fun iv _ _ => l.length - (intOf iv).toNat)
  case atStart => exact ⟨i0, 0, [], none, 0, rfl, rfl, by omega, HI.out, hide' ⟨rfl, NmS.start l i0⟩, hide' (World.ownsRow_nil w w.heap.size 3 1), hide' (Below.refl _ _)⟩
  case round =>
    obtain ⟨i, N, vs, oa, q, rfl, rfl, hN, hi, VS, OW, BW⟩ := hrel
    have hl := HL.out
    by_cases d : (i : Int) < (l.length : Int)
    · have il : i < l.length := by omega
      have i0' : (0 : Int) ≤ (i : Int) := by omega
      have gi : i < (⟨l.toArray⟩ : ByteArray).size := by show i < l.toArray.size; simpa using il
      have GI : ((⟨l.toArray⟩ : ByteArray)[i]'gi).toNat = (l.getD i 0).toNat := by show l[i].toNat = _; simp [List.getD, il]
      by_cases hc : l.getD i 0 = 32
      · have G0 : (((⟨l.toArray⟩ : ByteArray)[i]'gi).toNat : Int) = 32 := by rw [GI, hc]; rfl
        have NM := hide' (NA.out (i + 1) (by omega))
        rw [num_is] at NM
        have PL := hide' (tw_le (l.drop (i + 1)))
        have NXT := hide' (fun hn => VS.out.2.next il hc hn)
        have BAD := hide' (fun hn => VS.out.2.bad il (Or.inr hn))
        have ROK := hide' (fun (X : Int) (h : NumRef ⟨l.toArray⟩ (i + 1) X) hn => numR_ok h hn)
        have RNO := hide' (fun (X : Int) (h : NumRef ⟨l.toArray⟩ (i + 1) X) hn => numR_no h hn)
        simp only at NM
        rw [List.length_drop] at PL
        obtain ⟨p, hp⟩ : ∃ p, (l.drop (i + 1)).takeWhile digU = p := ⟨_, rfl⟩
        rw [hp] at NM PL NXT BAD ROK RNO
        obtain ⟨kk, hkk⟩ : ∃ kk, i + 1 + p.length = kk := ⟨_, rfl⟩
        rw [hkk] at NM NXT
        have KK := hide' hkk
        have kl : kk ≤ l.length := by have := PL.out; omega
        have ki : i < kk := by omega
        clear hc GI hp hkk
        go_wp2_with fail
        refine (NM.out _).mono ?_
        rintro e w3 ⟨X, rfl, hR, rfl⟩
        cases hn : numB p with
        | false =>
          have hX := RNO.out X hR hn
          have BD := hide' (BAD.out hn)
          by_cases x0 : X < 0
          · clear hX hR hn
            go_wp2
            go_ret2
            exact ⟨BW.out, Or.inr ⟨BD.out, rfl⟩⟩
          · have x7 : (i : Int) + 7 < (kk : Int) := by have := KK.out; omega
            clear hX hR hn
            go_wp2
            go_ret2
            exact ⟨BW.out, Or.inr ⟨BD.out, rfl⟩⟩
        | true =>
          obtain ⟨hv, x0', p6⟩ := ROK.out X hR hn
          have NX := hide' (NXT.out hn)
          rw [← hv] at NX
          have x0 : ¬ X < 0 := by omega
          have x7 : ¬ (i : Int) + 7 < (kk : Int) := by have := KK.out; omega
          have NW : ∀ j u, [Value.int .i64 X][j]? = some u → (w3.alloc (.cells #[.int .i64 X] 3)).cell? ((⟨w3.heap.size, 0, none⟩ : Addr).add j) = some u := World.news_of_block (cs := #[.int .i64 X]) (heap_alloc_new w3 _)
          have z0 := BW.out.size
          have OR := hide' (fun k hk => (own_range OW.out k hk).1)
          clear hv hR hn p6 x0'
          go_wp2_with (at_builtin; go_loud (refine wpList_append_own _ rfl _ _ 45 rfl w.heap.size 3 it (.int .i64 0) 1 8 Tryd.underlying45 hit hz0 hz1 hz2 rfl (by decide) _ N _ rfl (OW.out.alloc _) ⟨w3.heap.size, 0, none⟩ 1 1 [Value.int .i64 X] rfl rfl NW (fun u hu => by simp at hu; subst hu; rfl) (by unfold maxLen; omega) (by omega) (by simp; omega) ?_; intro v' w4 ho hg hn; go_frame))
          obtain ⟨a', q', rfl⟩ := own_slice ho
          exact ⟨⟨kk, N + 1, vs ++ [X], a', q', rfl, rfl, by omega, kl, hide' ⟨by simp [VS.out.1], NX.out⟩, hide' (by rw [List.map_append]; exact ho), hide' ((BW.out.alloc z0 _).grown hg (by simp; omega) OR.out)⟩, by simp [intOf]; omega⟩
      · have G0 : ¬ (((⟨l.toArray⟩ : ByteArray)[i]'gi).toNat : Int) = 32 := by
          rw [GI]; intro e; exact hc (UInt8.toNat_inj.1 (show (l.getD i 0).toNat = 32 by omega))
        have BD := hide' (VS.out.2.bad il (Or.inl hc))
        clear hc GI
        go_wp2
        go_ret2
        exact ⟨BW.out, Or.inr ⟨BD.out, rfl⟩⟩
    · obtain rfl : i = l.length := by omega
      have FN := hide' VS.out.2.fin
      go_wp2
      go_ret2
      refine ⟨BW.out, Or.inl ⟨vs, oa, q, FN.out, by rw [VS.out.1]; rfl, ?_⟩⟩
      have := OW.out
      rw [← VS.out.1] at this
      exact own_argV this
end Go.Proofs.YtncinpkbiphpoaaDoor

