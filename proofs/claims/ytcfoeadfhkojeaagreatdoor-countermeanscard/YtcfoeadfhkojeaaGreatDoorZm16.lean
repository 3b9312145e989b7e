/-
  What the last text of this claim leans on, part 16: Ck2, Ck3, Ck4, Ck5, Cl1.
-/
import Derived.Test.YtcfoeadfhkojeaaGreatDoorZm14
import Derived.Test.YtcfoeadfhkojeaaGreatDoorZm15
import Derived.Test.YtcfoeadfhkojeaaGreatDoorZm1
import Derived.Deep.RegionHeld3
namespace Go.Proofs.YtcfoeadfhkojeaaGreatDoor
open Go.RowKit
set_option linter.unusedVariables false
/-- The pieces between blanks, with at most so many cuts. -/
def spN : Nat → List UInt8 → List (List UInt8)
  | 0, l => [l]
  | k + 1, l => if Lib.indexByte l 32 = -1 then [l] else l.take (Lib.indexByte l 32).toNat :: spN k (l.drop ((Lib.indexByte l 32).toNat + 1))
theorem spN_none {k : Nat} {l : List UInt8} (h : Lib.indexByte l 32 = -1) : spN k l = [l] := by cases k with | zero => rfl | succ k => rw [spN, if_pos h]
theorem spN_some {k i : Nat} {l : List UInt8} (h : Lib.indexByte l 32 = (i : Int)) : spN (k + 1) l = l.take i :: spN k (l.drop (i + 1)) := by rw [spN, if_neg (by omega), h]; rfl
structure StB (w : World) (g N : Nat) (f : Nat → List UInt8) : Prop where
  row : ∃ cur, w.heap[g]? = some (.cells cur 9 (0, 0)) ∧ ∀ k, k < N → cur[k]? = some (.string ⟨(f k).toArray⟩)
theorem StB.cell {w : World} {g N : Nat} {f : Nat → List UInt8} (h : StB w g N f) (k : Nat) (hk : k < N) : w.cell? ⟨g, k, none⟩ = some (.string ⟨(f k).toArray⟩) := by
  obtain ⟨cur, h1, h2⟩ := h.row
  rw [cell_of_row w _ k _ _ _ h1]; exact h2 k hk
theorem StB.fro {w : World} {g N : Nat} {f : Nat → List UInt8} (h : StB w g N f) (k : Nat) : w.frozen? ⟨g, k, none⟩ = false := by
  obtain ⟨cur, h1, h2⟩ := h.row
  exact frozen_of_row w _ k _ _ h1
theorem StB.lt {w : World} {g N : Nat} {f : Nat → List UInt8} (h : StB w g N f) : g < w.heap.size := by
  obtain ⟨cur, h1, h2⟩ := h.row
  exact lt_of_block h1
theorem StB.drew {w : World} {g N : Nat} {f : Nat → List UInt8} (h : StB w g N f) : StB w.drew g N f := ⟨h.row⟩
def updS (f : Nat → List UInt8) (k : Nat) (v : List UInt8) : Nat → List UInt8 := fun j => if j = k then v else f j
theorem StB.set {w : World} {g N : Nat} {f : Nat → List UInt8} (h : StB w g N f) (k : Nat) (hk : k < N) (v : List UInt8) : StB (w.setCell ⟨g, k, none⟩ (.string ⟨v.toArray⟩)) g N (updS f k v) := by
  obtain ⟨cur, h1, h2⟩ := h.row
  refine ⟨_, heap_setCell_same w g k _ _ _ h1, fun j hj => ?_⟩
  have hs : k < cur.size := by
    rcases Nat.lt_or_ge k cur.size with q | q
    · exact q
    · have := h2 k hk; rw [Array.getElem?_eq_none q] at this; cases this
  unfold updS
  by_cases e : j = k
  · subst e; rw [if_pos rfl, Array.getElem?_setIfInBounds_self_of_lt hs]
  · rw [if_neg e, Array.getElem?_setIfInBounds_ne (fun q => e q.symm)]; exact h2 j hj
set_option maxRecDepth 100000 in
theorem indexS_sp (l : List UInt8) (w : World) : Calls Tryz.prog 77 #[.string ⟨l.toArray⟩, .string ⟨#[32]⟩] w fun e w' => e = .returned (.int .i64 (Lib.indexByte l 32)) ∧ w' = w := by
  have IX := hide' (fun V => index_sp l V)
  obtain ⟨r, hr⟩ : ∃ r, Lib.indexByte l 32 = r := ⟨_, rfl⟩
  rw [hr] at IX ⊢
  clear hr
  go_enter Tryz.func77, Tryz.ntmps77
  go_wp2_with fail
  refine (IX.out _).mono ?_
  rintro e w' ⟨rfl, rfl⟩
  go_wp2
  go_ret
  exact ⟨rfl, rfl⟩
theorem mk_str (n : Nat) (hn : n ≤ 5) (w : World) : (Instr.makeSlice 99 (.int .i64 (n : Int)) (.int .i64 (n : Int))).run Tryz.prog w = .ok (.slice (some ⟨w.heap.size, 0, none⟩) n n) (w.alloc (.cells (Array.replicate n (.string ⟨#[]⟩)) 9)) := by
  rcases (show n = 0 ∨ n = 1 ∨ n = 2 ∨ n = 3 ∨ n = 4 ∨ n = 5 by omega) with rfl | rfl | rfl | rfl | rfl | rfl <;> kernel_rfl
end Go.Proofs.YtcfoeadfhkojeaaGreatDoor

namespace Go.Proofs.YtcfoeadfhkojeaaGreatDoor
open Go.RowKit
set_option linter.unusedVariables false
def SpOut (ps : List (List UInt8)) (w : World) (e : Ending) (w' : World) : Prop :=
  ∃ g q f, e = .returned (.slice (some ⟨g, 0, none⟩) ps.length q) ∧ ps.length ≤ q ∧ StB w' g q f ∧ ps = (List.range ps.length).map f ∧ w.heap.size ≤ g ∧ Below w.heap.size w w'
theorem wrap64_small (j : Nat) (h : j ≤ 1048576) : wrap64 (j : Int) = (j : Int) := by unfold wrap64; omega
theorem upd_map (f : Nat → List UInt8) (i : Nat) (v : List UInt8) : (List.range (i + 1)).map (updS f i v) = (List.range i).map f ++ [v] := by
  rw [List.range_succ, List.map_append]
  congr 1
  · apply List.map_congr_left
    intro j hj
    have := List.mem_range.1 hj
    unfold updS
    rw [if_neg (by omega)]
  · simp [updS]
theorem sp_end {ps : List (List UInt8)} {i N : Nat} {f : Nat → List UInt8} {r : List UInt8} {g : Nat} {w wr : World} (he : ps = (List.range i).map f ++ [r]) (hi : i < N) (hs : StB wr g N f) (hg : w.heap.size ≤ g) (hb : Below w.heap.size w wr) :
    SpOut ps w (.returned (.slice (some ⟨g, 0, none⟩) (i + 1) N)) (wr.setCell ⟨g, i, none⟩ (.string ⟨r.toArray⟩)) := by
  have hl : ps.length = i + 1 := by rw [he]; simp
  refine ⟨g, N, updS f i r, by rw [hl], by omega, hs.set i hi r, by rw [hl, upd_map]; exact he, hg, hb.setCell (p := ⟨g, i, none⟩) hg _⟩
set_option maxRecDepth 100000 in
set_option maxHeartbeats 6400000 in
theorem genSplit_any (l : List UInt8) (w : World) (N M : Nat) (hN : N = M + 1) (hm : M = 4 ∧ 4 ≤ l.length ∨ M = l.length ∧ l.length < 4) (hl : l.length ≤ 1048576) : Calls Tryz.prog 62 #[.string ⟨l.toArray⟩, .string ⟨#[32]⟩, .int .i64 0, .int .i64 5] w (SpOut (spN M l) w) := by
  have M4 : M ≤ 4 := by omega
  have mk := mk_str N (by omega)
  have L0 : IntKind.i64.wrap ((l.length : Int) + 1) = (l.length : Int) + 1 := by simp [IntKind.wrap, IntKind.bits, IntKind.signed]; omega
  have mn : min (5 : Int) ((l.length : Int) + 1) = (N : Int) := by omega
  have N0 : (0 : Int) ≤ (N : Int) := by omega
  have NM : IntKind.i64.wrap ((N : Int) - 1) = (M : Int) := by simp [IntKind.wrap, IntKind.bits, IntKind.signed]; omega
  have nm : (N : Int) - 1 = (M : Int) := by omega
  have HN := hide' hN
  have HM := hide' hm
  clear hm hN
  go_enter Tryz.func62, Tryz.ntmps62
  go_wp2
  have S0 := hide' (show StB (w.alloc (.cells (Array.replicate N (.string ⟨#[]⟩)) 9)) w.heap.size N (fun _ => []) from ⟨_, heap_alloc_new _ _, fun k hk => by simp [hk]⟩)
  have B0 := hide' (show Below w.heap.size w (w.alloc (.cells (Array.replicate N (.string ⟨#[]⟩)) 9)) from (Below.refl _ _).alloc (Nat.le_refl _) _)
  clear mk
  go_loopw [0, 10] (fun sv iv wr => ∃ (i : Nat) (r : List UInt8) (f : Nat → List UInt8), iv = .int .i64 (i : Int) ∧ sv = .string ⟨r.toArray⟩ ∧ i ≤ M ∧ Hid (r.length ≤ l.length) ∧ Hid (StB wr w.heap.size N f) ∧ Hid (spN M l = (List.range i).map f ++ spN (M - i) r) ∧ Hid (Below w.heap.size w wr)) (fun _ iv _ => M - (intOf iv).toNat)
  case atStart => exact ⟨0, l, fun _ => [], rfl, rfl, by omega, hide' (Nat.le_refl _), S0, hide' (by simp), B0⟩
  case round =>
    obtain ⟨i, r, f, rfl, rfl, hi, RL, SB, SE, BW⟩ := hrel
    have iN : i < N := by have := HN.out; omega
    have i0 : (0 : Int) ≤ (i : Int) := by omega
    have iN' : (i : Int) < (N : Int) := by omega
    have c := SB.out.cell i iN
    have fz := SB.out.fro i
    have j0 : (0 : Int) ≤ (i : Int) + 1 := by omega
    have jN : (i : Int) + 1 ≤ (N : Int) := by omega
    have N5 : N ≤ 5 := by have := HN.out; omega
    by_cases d : (i : Int) < (M : Int)
    · have IX := hide' (fun V => indexS_sp r V)
      by_cases h : Lib.indexByte r 32 = -1
      · have FE := hide' (show spN M l = (List.range i).map f ++ [r] by rw [SE.out, spN_none h])
        rw [h] at IX
        clear h
        go_wp2_with fail
        refine (IX.out _).mono ?_
        rintro e w' ⟨rfl, rfl⟩
        go_wp2
        refine bodyPost_ret (v := .slice (some ⟨w.heap.size, 0, none⟩) (i + 1) N) (by simp [results, Tryz.results62, go_sem]) rfl ?_
        exact sp_end FE.out iN SB.out (Nat.le_refl _) BW.out
      · obtain ⟨j, hj, jr, -⟩ := byte_split h
        have NX := hide' (show spN M l = (List.range (i + 1)).map (updS f i (r.take j)) ++ spN (M - (i + 1)) (r.drop (j + 1)) by rw [SE.out, upd_map, show M - i = (M - (i + 1)) + 1 by omega, spN_some hj]; simp)
        rw [hj] at IX
        have rl := RL.out
        have ja : (0 : Int) ≤ (j : Int) := by omega
        have jb : (j : Int) ≤ (r.length : Int) := by omega
        have jc : (0 : Int) ≤ (j : Int) + 1 := by omega
        have jd : (j : Int) + 1 ≤ (r.length : Int) := by omega
        have jw : IntKind.i64.wrap ((j : Int) + 1) = (j : Int) + 1 := by simp [IntKind.wrap, IntKind.bits, IntKind.signed]; omega
        have JZ := hide' (wrap64_small j (by omega))
        have x1 : (⟨r.toArray⟩ : ByteArray).extract 0 j = ⟨(r.take j).toArray⟩ := by apply ByteArray.ext; simp
        have x2 : (⟨r.toArray⟩ : ByteArray).extract (j + 1) r.length = ⟨(r.drop (j + 1)).toArray⟩ := by apply ByteArray.ext; simp [List.take_of_length_le]
        have SB2 := hide' (SB.out.set i iN (r.take j))
        have BW2 := hide' (show Below w.heap.size w (wr.setCell ⟨w.heap.size, i, none⟩ (.string ⟨(r.take j).toArray⟩)) from BW.out.setCell (p := ⟨w.heap.size, i, none⟩) (Nat.le_refl _) _)
        have RL2 := hide' (show (r.drop (j + 1)).length ≤ l.length by simp; omega)
        clear h hj rl
        go_wp2_with fail
        refine (IX.out _).mono ?_
        rintro e w' ⟨rfl, rfl⟩
        go_wp2
        rotate_left
        · rename_i hh
          exact absurd ⟨by rw [JZ.out]; exact ja, by rw [JZ.out]; exact jb⟩ hh
        rw [JZ.out, Int.toNat_natCast, x1]
        exact ⟨⟨i + 1, r.drop (j + 1), updS f i (r.take j), by go_num, rfl, by omega, RL2, SB2, NX, BW2⟩, by simp [intOf]; omega⟩
    · obtain rfl : i = M := by omega
      · have FE := hide' (show spN i l = (List.range i).map f ++ [r] by rw [SE.out, Nat.sub_self]; rfl)
        go_wp2
        refine bodyPost_ret (v := .slice (some ⟨w.heap.size, 0, none⟩) (i + 1) N) (by simp [results, Tryz.results62, go_sem]) rfl ?_
        exact sp_end FE.out iN SB.out (Nat.le_refl _) BW.out
end Go.Proofs.YtcfoeadfhkojeaaGreatDoor

namespace Go.Proofs.YtcfoeadfhkojeaaGreatDoor
open Go.RowKit
set_option linter.unusedVariables false
theorem spN_more : ∀ (k : Nat) (l : List UInt8), l.length ≤ k → spN (k + 1) l = spN k l
  | 0, l, h => by
    have e : l = [] := List.eq_nil_of_length_eq_zero (by omega)
    subst e
    rfl
  | k + 1, l, h => by
    by_cases q : Lib.indexByte l 32 = -1
    · rw [spN_none q, spN_none q]
    · obtain ⟨i, hi, il, -⟩ := byte_split q
      rw [spN_some hi, spN_some hi, spN_more k _ (by simp; omega)]
theorem spN_few {l : List UInt8} (h : l.length < 4) : spN l.length l = spN 4 l := by
  have g : ∀ d, spN (l.length + d) l = spN l.length l := fun d => by
    induction d with
    | zero => rfl
    | succ d ih => rw [← Nat.add_assoc, spN_more _ _ (by omega), ih]
  have := g (4 - l.length)
  rw [show l.length + (4 - l.length) = 4 by omega] at this
  exact this.symm
set_option maxRecDepth 100000 in
theorem splitN_any (l : List UInt8) (w : World) (hl : l.length ≤ 1048576) : Calls Tryz.prog 47 #[.string ⟨l.toArray⟩, .string ⟨#[32]⟩, .int .i64 5] w (SpOut (spN 4 l) w) := by
  have GS := hide' (fun V => show Calls Tryz.prog 62 #[.string ⟨l.toArray⟩, .string ⟨#[32]⟩, .int .i64 0, .int .i64 5] V (SpOut (spN 4 l) V) from by
    by_cases h : 4 ≤ l.length
    · exact genSplit_any l V 5 4 rfl (Or.inl ⟨rfl, h⟩) hl
    · rw [← spN_few (by omega)]
      exact genSplit_any l V (l.length + 1) l.length rfl (Or.inr ⟨rfl, by omega⟩) hl)
  obtain ⟨ps, hp⟩ : ∃ ps, spN 4 l = ps := ⟨_, rfl⟩
  rw [hp] at GS ⊢
  clear hp
  go_enter Tryz.func47, Tryz.ntmps47
  go_wp2_with fail
  refine (GS.out _).mono ?_
  rintro e w1 ⟨g, q, f, rfl, h1, h2, h3, h4, h5⟩
  have HH := hide' (show SpOut ps w (.returned (.slice (some ⟨g, 0, none⟩) ps.length q)) w1 from ⟨g, q, f, rfl, h1, h2, h3, h4, h5⟩)
  clear h1 h2 h3 h4 h5
  go_wp2
  go_ret
  exact HH.out
end Go.Proofs.YtcfoeadfhkojeaaGreatDoor

namespace Go.Proofs.YtcfoeadfhkojeaaGreatDoor
open Go.RowKit
set_option linter.unusedVariables false
theorem toList_mk (l : List UInt8) : (⟨l.toArray⟩ : ByteArray).toList = l := by rw [ByteArray.toList_eq]
theorem spN_pos (k : Nat) (l : List UInt8) : 0 < (spN k l).length := by
  cases k with
  | zero => simp [spN]
  | succ k => rw [spN]; split <;> simp
theorem opW_lt (l : List UInt8) : opW l < 4 := by
  unfold opW
  split
  · omega
  · split
    · omega
    · split <;> omega
set_option maxRecDepth 100000 in
set_option maxHeartbeats 3200000 in
theorem readLine_word (l : List UInt8) (w : World) (hl : l.length ≤ 1048576) (hU : UsT w) (hW : WoT w) (hr : opW ((spN 4 l).getD 0 []) = 0 ∨ (((spN 4 l).length : Int) ≠ 1 + usN (opW ((spN 4 l).getD 0 [])))) :
    Calls Tryz.prog 38 #[.string ⟨l.toArray⟩] w fun e w' => e = .returned (.tuple #[.agg #[.int .i64 0, .int .i64 0, .int .i64 0, .int .i64 0], errOf 2]) ∧ Below w.heap.size w w' := by
  have E := hide' (errOf_is (f := 2) (by omega))
  have SN := hide' (fun V => splitN_any l V hl)
  have P0 := hide' (spN_pos 4 l)
  obtain ⟨ps, hp⟩ : ∃ ps, spN 4 l = ps := ⟨_, rfl⟩
  rw [hp] at SN P0 hr
  have HU := hide' (fun (V : World) (h : Below w.heap.size w V) => hU.below h)
  have HW := hide' (fun (V : World) (h : Below w.heap.size w V) => hW.below h)
  have HR := hide' hr
  clear hp hU hW hr
  go_enter Tryz.func38, Tryz.ntmps38
  go_wp2_with fail
  refine (SN.out _).mono ?_
  rintro e w1 ⟨g, q, f, rfl, hq, hS, hps, hg, hb⟩
  have B1 := hide' (show Below w.heap.size w w1 from ((Below.refl _ w).alloc (Nat.le_refl _) _).trans (hb.mono (by simp)))
  have R1 := hide' (show w1.heap[w.heap.size]? = some (.cells #[.int .i64 0, .int .i64 0, .int .i64 0, .int .i64 0] 25 (0, 0)) from (hb.block _ (by simp)).trans (heap_alloc_new _ _))
  have p0 := P0.out
  have F0 := hide' (show ps.getD 0 [] = f 0 by rw [hps]; simp [List.getD, p0])
  have c0 := hS.cell 0 (by omega)
  have l0 : (0 : Int) < (ps.length : Int) := by omega
  have OP := hide' (fun V (h : WoT V) => opOf_any ⟨(f 0).toArray⟩ V h)
  rw [toList_mk] at OP
  rw [F0.out] at HR
  have fr := frozen_of_row w1 _ 0 _ _ R1.out
  obtain ⟨o, ho⟩ : ∃ o, opW (f 0) = o := ⟨_, rfl⟩
  rw [ho] at OP HR
  have o4 : o < 4 := by rw [← ho]; exact opW_lt _
  have u1 := HU.out w1 B1.out o o4
  have o0 : (0 : Int) ≤ (o : Int) := by omega
  have o4' : (o : Int) < 4 := by omega
  have U1 := hide' u1
  have FR := hide' fr
  have P1 := hide' p0
  obtain ⟨P, hP⟩ : ∃ P, ps.length = P := ⟨_, rfl⟩
  rw [hP] at l0 ⊢
  have HP := hide' hP
  clear hb hS hps hq ho hg p0 u1 fr o0 o4' hP
  go_wp2_with fail
  refine (OP.out w1 (HW.out w1 B1.out)).mono ?_
  rintro e w2 ⟨rfl, rfl⟩
  have hr := HR.out
  rw [HP.out] at hr
  have f0 := frozen_of_row w2 _ 0 _ _ R1.out
  have f1 := frozen_of_row w2 _ 1 _ _ R1.out
  have f2 := frozen_of_row w2 _ 2 _ _ R1.out
  have f3 := frozen_of_row w2 _ 3 _ _ R1.out
  have d0 := cell_of_row w2 _ 0 _ _ _ R1.out
  have d1 := cell_of_row w2 _ 1 _ _ _ R1.out
  have d2 := cell_of_row w2 _ 2 _ _ _ R1.out
  have d3 := cell_of_row w2 _ 3 _ _ _ R1.out
  simp at d0 d1 d2 d3
  rcases (show o = 0 ∨ o = 1 ∨ o = 2 ∨ o = 3 by omega) with rfl | rfl | rfl | rfl
  · clear hr
    go_wp2
    refine bodyPost_ret (v := .tuple #[.agg #[.int .i64 0, .int .i64 0, .int .i64 0, .int .i64 0], .iface 73 (.int .i64 2)]) (by simp [results, Tryz.results38, go_sem, d0, d1, d2, d3]) rfl ?_
    refine ⟨by rw [E.out]; rfl, ?_⟩
    repeat (first | exact B1.out | refine Below.setCell ?_ (by simp) _)
  · have n1 : ((P : Int) == 3) = false := by
      rcases hr with h | h
      · omega
      · have h' : ¬ (P : Int) = 3 := h
        simpa using h'
    have v1 : w2.cell? ⟨1, 1, none⟩ = some (.int .i64 2) := U1.out
    clear hr
    go_wp2
    refine bodyPost_ret (v := .tuple #[.agg #[.int .i64 0, .int .i64 0, .int .i64 0, .int .i64 0], .iface 73 (.int .i64 2)]) (by simp [results, Tryz.results38, go_sem, d0, d1, d2, d3]) rfl ?_
    refine ⟨by rw [E.out]; rfl, ?_⟩
    repeat (first | exact B1.out | refine Below.setCell ?_ (by simp) _)
  · have n2 : ((P : Int) == 4) = false := by
      rcases hr with h | h
      · omega
      · have h' : ¬ (P : Int) = 4 := h
        simpa using h'
    have v2 : w2.cell? ⟨1, 2, none⟩ = some (.int .i64 3) := U1.out
    clear hr
    go_wp2
    refine bodyPost_ret (v := .tuple #[.agg #[.int .i64 0, .int .i64 0, .int .i64 0, .int .i64 0], .iface 73 (.int .i64 2)]) (by simp [results, Tryz.results38, go_sem, d0, d1, d2, d3]) rfl ?_
    refine ⟨by rw [E.out]; rfl, ?_⟩
    repeat (first | exact B1.out | refine Below.setCell ?_ (by simp) _)
  · have n3 : ((P : Int) == 1) = false := by
      rcases hr with h | h
      · omega
      · have h' : ¬ (P : Int) = 1 := h
        simpa using h'
    have v3 : w2.cell? ⟨1, 3, none⟩ = some (.int .i64 0) := U1.out
    clear hr
    go_wp2
    refine bodyPost_ret (v := .tuple #[.agg #[.int .i64 0, .int .i64 0, .int .i64 0, .int .i64 0], .iface 73 (.int .i64 2)]) (by simp [results, Tryz.results38, go_sem, d0, d1, d2, d3]) rfl ?_
    refine ⟨by rw [E.out]; rfl, ?_⟩
    repeat (first | exact B1.out | refine Below.setCell ?_ (by simp) _)
end Go.Proofs.YtcfoeadfhkojeaaGreatDoor

namespace Go.Proofs.YtcfoeadfhkojeaaGreatDoor
open Go.RowKit
set_option linter.unusedVariables false
def numDec (l : List UInt8) : Decidable (numC l) := by unfold numC digB; infer_instance
def numB (l : List UInt8) : Bool := @decide (numC l) (numDec l)
theorem numB_iff {l : List UInt8} : numB l = true ↔ numC l := @decide_eq_true_iff (numC l) (numDec l)
/-- A piece's number. -/
def vlC (p : List UInt8) : Int := (dvl p p.length : Int)
def allN (ps : List (List UInt8)) : Bool := ps.all numB
/-- What a line says. -/
def lineC (l : List UInt8) : Option InsT :=
  if opW ((spN 4 l).getD 0 []) = 0 ∨ ((spN 4 l).length : Int) ≠ 1 + usN (opW ((spN 4 l).getD 0 [])) then none
  else if allN ((spN 4 l).drop 1) then some ((opW ((spN 4 l).getD 0 []) : Int), (((spN 4 l).drop 1).map vlC).getD 0 0, (((spN 4 l).drop 1).map vlC).getD 1 0, (((spN 4 l).drop 1).map vlC).getD 2 0) else none
def digU (c : UInt8) : Bool := decide (48 ≤ c.toNat) && decide (c.toNat ≤ 57)
theorem dig_all {p : List UInt8} (h : digB p p.length) : ∀ x ∈ p, digU x = true := fun x hx => by
  obtain ⟨k, hk, rfl⟩ := List.getElem_of_mem hx
  have := h k hk
  rw [show p.getD k 0 = p[k] by simp [List.getD, hk]] at this
  simp [digU]; exact this
theorem no_sp {p : List UInt8} (h : ∀ x ∈ p, digU x = true) : Lib.indexByte p 32 = -1 := by
  by_cases q : Lib.indexByte p 32 = -1
  · exact q
  · obtain ⟨i, hi, il, e⟩ := byte_split q
    have := h 32 (by rw [e]; simp)
    exact absurd this (by decide)
theorem index_app {p r : List UInt8} (h : ∀ x ∈ p, x ≠ 32) : Lib.indexByte (p ++ 32 :: r) 32 = (p.length : Int) := by
  induction p with
  | nil => rfl
  | cons x p ih =>
    have := ih (fun y hy => h y (by simp [hy]))
    have hx := h x (by simp)
    simp only [List.cons_append, Lib.indexByte, this]
    rw [if_neg (by simpa using hx), if_neg (by simp <;> omega)]
    simp
theorem dig_ne {p : List UInt8} (h : ∀ x ∈ p, digU x = true) : ∀ x ∈ p, x ≠ 32 := fun x hx e => by
  have := h x hx; rw [e] at this; exact absurd this (by decide)
theorem sp_word {l W r : List UInt8} (h : ∀ x ∈ W, x ≠ 32) (e : l = W ++ 32 :: r) (k : Nat) : spN (k + 1) l = W :: spN k r := by
  have hi := index_app (r := r) h
  rw [← e] at hi
  rw [spN_some hi, e]
  simp
/-- A word that is followed by numbers. -/
theorem line_word {l r : List UInt8} {W : List UInt8} (h : ∀ x ∈ W, x ≠ 32) (e : l = W ++ 32 :: r) : spN 4 l = W :: spN 3 r := sp_word h e 3
/-- The lines of a text up to the first that is none, and whether there is none such. -/
def linesC : Nat → List UInt8 → List InsT × Bool
  | 0, _ => ([], true)
  | f + 1, l => if l = [] then ([], true) else if Lib.indexByte l 10 = -1 then ([], false) else match lineC (l.take (Lib.indexByte l 10).toNat) with
    | none => ([], false)
    | some x => (x :: (linesC f (l.drop ((Lib.indexByte l 10).toNat + 1))).1, (linesC f (l.drop ((Lib.indexByte l 10).toNat + 1))).2)
/-- So many lines are read, and this is left. -/
def PS (L : List UInt8) (acc : List InsT) (rest : List UInt8) : Prop := ∃ f, rest.length ≤ f ∧ linesC L.length L = (acc ++ (linesC f rest).1, (linesC f rest).2)
theorem PS.start (L : List UInt8) : PS L [] L := ⟨L.length, by omega, by simp⟩
theorem PS.next {L : List UInt8} {acc : List InsT} {rest : List UInt8} (h : PS L acc rest) {i : Nat} {x : InsT} (hi : Lib.indexByte rest 10 = (i : Int)) (hx : lineC (rest.take i) = some x) : PS L (acc ++ [x]) (rest.drop (i + 1)) := by
  obtain ⟨f, hf, h⟩ := h
  have hl : i < rest.length := by
    obtain ⟨h3, _⟩ := List.getElem?_eq_some_iff.1 (Lib.indexByte_some hi).1
    exact h3
  cases f with
  | zero => omega
  | succ f =>
    refine ⟨f, by simp; omega, ?_⟩
    rw [h, linesC, if_neg (by intro e; rw [e] at hl; simp at hl), if_neg (by omega), hi, Int.toNat_natCast, hx]
    simp
theorem PS.fin {L : List UInt8} {acc : List InsT} (h : PS L acc []) : linesC L.length L = (acc, true) := by
  obtain ⟨f, hf, h⟩ := h
  rw [h]
  cases f <;> simp [linesC]
theorem PS.bad {L : List UInt8} {acc : List InsT} {rest : List UInt8} (h : PS L acc rest) (h0 : rest ≠ []) (hb : Lib.indexByte rest 10 = -1 ∨ ∃ i : Nat, Lib.indexByte rest 10 = (i : Int) ∧ lineC (rest.take i) = none) : linesC L.length L = (acc, false) := by
  obtain ⟨f, hf, h⟩ := h
  have l0 := List.length_pos_iff.2 h0
  cases f with
  | zero => omega
  | succ f =>
    rw [h, linesC, if_neg h0]
    rcases hb with hb | ⟨i, hi, hx⟩
    · rw [if_pos hb]; simp
    · rw [if_neg (by omega), hi, Int.toNat_natCast, hx]; simp
end Go.Proofs.YtcfoeadfhkojeaaGreatDoor

