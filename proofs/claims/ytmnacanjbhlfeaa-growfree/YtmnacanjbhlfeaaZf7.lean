/-
  What the last text of this claim leans on, part 7: Wj7, Wj0, Gy9, Gz1.
-/
import Derived.Test.YtmnacanjbhlfeaaZf6
import Derived.Test.YtmnacanjbhlfeaaProg
import Derived.Test.YtmnacanjbhlfeaaZf3
import Derived.Lib.OthersKept
import Derived.Shelf.Strings.Builder1
namespace Go.Proofs.Ytmnacanjbhlfeaa
open Go.RowKit
set_option linter.unusedVariables false
theorem own_u8 {w : World} {base size : Nat} {e : TypeId} {v : Value} {n : Nat} {xs : List Value} (h : w.ownsRow base e size v n xs) {g : Nat} (hg : v.ownBlock = some g) : ∃ c fz, w.heap[g]? = some (.cells c e fz) := by
  rcases h.2 with ⟨rfl, _⟩ | ⟨g', cap, cur, rfl, hb, hh, _⟩
  · cases hg
  · simp [Value.ownBlock] at hg; subst hg; exact ⟨cur, (0, 0), hh⟩
set_option maxHeartbeats 1000000 in
set_option maxRecDepth 100000 in
theorem copyCheck_k (B b : Nat) (bs : List Value) (w : World) (h : Bld B b bs w) :
    Calls Try.prog 31 #[.pointer (some ⟨b, 0, none⟩)] w fun e w' => e = .returned (.tuple #[]) ∧ BldU B b bs w' ∧ Below B w w' ∧ Lib.OthersKept 5 (some b) w w' := by
  obtain ⟨j, hj, hjs⟩ := Option.map_eq_some_iff.1 size_bld
  rcases h with h | h
  · have h0 := h.cell0
    have hsh := h.shape
    have hfz := h.frozen0
    have HH := hide' h
    clear h
    go_enter Try.func31, Try.ntmps31
    go_wp2
    rw [Lib.run_to_unsafe w ⟨b, 0, none⟩ Try.underlying58 Try.underlying68 hj (by rw [hjs]; decide) hsh (Nat.zero_lt_succ 1)]
    simp only [Result.andThen]
    rw [Oper.upon_value]
    go_wp2
    rw [run_callFunc_extern Try.func32 (by kernel_rfl) (by kernel_rfl) (by kernel_rfl) (e := Extern.AbiNoEscape.same) (by kernel_rfl)]
    rw [Lib.run_noEscape]
    simp only [Result.andThen]
    rw [Oper.upon_value]
    go_wp2
    rw [Lib.run_from_unsafe w ⟨b, 0, none⟩ Try.underlying68 Try.underlying58 hj hsh lies_bld]
    simp only [Result.andThen]
    rw [Oper.upon_value]
    go_wp2
    go_end0
    exact ⟨rfl, HH.out.used _, (Below.refl B w).setCell (p := ⟨b, 0, none⟩) HH.out.1 _, (Lib.OthersKept.refl _ _ w).setCell ⟨b, 0, none⟩ rfl _⟩
  · have h0 := h.cell0
    have HH := hide' h
    clear h
    go_enter Try.func31, Try.ntmps31
    go_wp2
    rw [Lib.run_neq_ptr_same w _ Try.underlying58 hj]
    go_wp2
    go_end0
    exact ⟨rfl, HH.out, Below.refl B _, Lib.OthersKept.refl _ _ _⟩
set_option maxHeartbeats 2000000 in
set_option maxRecDepth 100000 in
theorem writeString_k (B b : Nat) (bs : List Value) (s : ByteArray) (w : World) (h : Bld B b bs w) (hBw : B ≤ w.heap.size) (hl : bs.length ≤ 1000000) (hs : s.size ≤ 1000000) :
    Calls Try.prog 27 #[.pointer (some ⟨b, 0, none⟩), .string s] w fun e w' => e = .returned (.tuple #[.int .i64 s.size, .nilIface]) ∧ BldU B b (bs ++ Lib.strCells s) w' ∧ Below B w w' ∧ Lib.OthersKept 5 (some b) w w' := by
  obtain ⟨i0, hi, hz0, hz1, hz2⟩ := info_parts info_u8
  have HH := hide' h
  clear h
  go_enter Try.func27, Try.ntmps27
  go_wp2_with fail
  refine (copyCheck_k B b bs _ HH.out).mono ?_
  rintro e w1 ⟨rfl, ⟨hB, v, hbk, hown, hne⟩, hb1, ok1⟩
  have c0 : w1.cell? ⟨b, 0, none⟩ = some (.pointer (some ⟨b, 0, none⟩)) := by rw [Lib.cell_of_heap hbk]; rfl
  have c1 : w1.cell? ⟨b, 1, none⟩ = some v := by rw [Lib.cell_of_heap hbk]; rfl
  have hs1 := hb1.size
  go_wp2_with (at_builtin; refine Lib.wpList_append_own_string _ rfl _ _ 59 9 rfl B 5 i0 Try.underlying59 Try.underlying9 hi hz0 hz1 hz2 v _ _ rfl hown s rfl (by unfold maxLen; omega) (by omega) (by omega) ?_)
  intro v' w2 hown' hgrow _
  have hlt : b < w1.heap.size := Array.getElem?_eq_some_iff.1 hbk |>.1
  have hb2 : w2.heap[b]? = some (.cells #[.pointer (some ⟨b, 0, none⟩), v] 61 (0, 0)) := by
    rw [hgrow.block b (by omega) (fun e => hne e.symm)]
    exact hbk
  have d0 : w2.cell? ⟨b, 0, none⟩ = some (.pointer (some ⟨b, 0, none⟩)) := by rw [Lib.cell_of_heap hb2]; rfl
  have d1 : w2.cell? ⟨b, 1, none⟩ = some v := by rw [Lib.cell_of_heap hb2]; rfl
  have f1 : w2.frozen? ⟨b, 1, none⟩ = false := Lib.frozen_of_heap hb2 1
  obtain ⟨ta, tn, tc, rfl⟩ := ownsRow_slice hown'
  go_wp2
  go_ret2
  refine ⟨rfl, Lib.BuilderAt.put hB hb2 (bs' := bs ++ Lib.strCells s) (by rw [List.length_append, Lib.strCells_length]; exact hown') (by decide), ?_⟩
  exact ⟨(hb1.grown hgrow (by omega) (fun k hk => (hown.lt k hk).1)).setCell (p := ⟨b, 1, none⟩) hB _, (ok1.grown hgrow (fun g hg => own_u8 hown hg)).setCell ⟨b, 1, none⟩ rfl _⟩
end Go.Proofs.Ytmnacanjbhlfeaa

namespace Go.Proofs
open Go.Shelf
def Try.lays169_ren : Go.Shelf.Ren := ⟨fun | 169 => 29 | n => n, fun | 70 => 58 | 9 => 9 | 0 => 0 | 72 => 61 | 37 => 59 | 127 => 67 | 3 => 3 | 5 => 5 | n => n, fun | n => n⟩
theorem Try.lays169 : Go.Proofs.Lays.n169 Try.prog Try.lays169_ren := {
  mixed := by kernel_rfl
  f169 := Try.func29.trans (congrArg some (by kernel_rfl))
  t0 := Try.underlying0
  a0 := Try.isAgg0
  z0 := Try.sizeOf0
  v0 := Try.zeroValue0
  t3 := Try.underlying3
  a3 := Try.isAgg3
  z3 := Try.sizeOf3
  v3 := Try.zeroValue3
  t9 := Try.underlying9
  a9 := Try.isAgg9
  z9 := Try.sizeOf9
  v9 := Try.zeroValue9
  t37 := Try.underlying59
  a37 := Try.isAgg59
  z37 := Try.sizeOf59
  v37 := Try.zeroValue59
  t70 := Try.underlying58
  a70 := Try.isAgg58
  z70 := Try.sizeOf58
  v70 := Try.zeroValue58
  t72 := Try.underlying61
  a72 := Try.isAgg61
  z72 := Try.sizeOf61
  v72 := Try.zeroValue61
  t127 := Try.underlying67
  a127 := Try.isAgg67
  z127 := Try.sizeOf67
  v127 := Try.zeroValue67 }
theorem Try.Builder_Extra_169 : Builder.Extra Try.prog Try.lays169_ren := {
  sizeBuilder := by kernel_rfl
  liesBuilder := by kernel_rfl
  t5 := Try.underlying5
  a5 := Try.isAgg5
  z5 := Try.sizeOf5
  v5 := Try.zeroValue5
  infoByte := by kernel_rfl
  cellsByte := by kernel_rfl
  sizeByte := by kernel_rfl
  neB5 := by decide }

open Go.RowKit in
theorem Try.bldString_any (B b : Nat) (l : List UInt8) (w : World) (h : Lib.IsBuilder 61 5 B b (Lib.byteCells l) w) (hBw : B ≤ w.heap.size) :
    Calls Try.prog 29 #[.pointer (some ⟨b, 0, none⟩)] w fun e w' => e = .returned (.string ⟨l.toArray⟩) ∧ Below B w w' := Any.Builder_String_any Try.lays169 Try.Builder_Extra_169 B b l w h hBw
end Go.Proofs

namespace Go.Proofs.Ytmnacanjbhlfeaa
open Go.RowKit
set_option linter.unusedVariables false
set_option linter.unusedSimpArgs false
theorem ownsY {w w' : World} {base size n : Nat} {e : TypeId} {v : Value} {xs : List Value} (h : w.ownsRow base e size v n xs) (hb : ∀ k, v.ownBlock = some k → w'.heap[k]? = w.heap[k]?) : w'.ownsRow base e size v n xs := by
  refine ⟨h.1, ?_⟩
  rcases h.2 with q | ⟨g, cap, cur, rfl, hg, hh, r⟩
  · exact Or.inl q
  · exact Or.inr ⟨g, cap, cur, rfl, hg, (hb g (by simp [Value.ownBlock])).trans hh, r⟩
theorem bldAt_iter {B b : Nat} {p : Value} {bs : List Value} {w : World} (h : Lib.BuilderAt 61 5 B b p bs w) {k : Nat} {s : ByteArray} {i : Nat} (hk : w.heap[k]? = some (.stringIter s i)) (j : Nat) : Lib.BuilderAt 61 5 B b p bs (w.iterAt k s j) := by
  obtain ⟨hB, v, hbk, hown, hne⟩ := h
  refine ⟨hB, v, (Lib.iterAt_other _ _ _ _ _ (fun e => by rw [e, hk] at hbk; cases hbk)).trans hbk, ownsY hown (fun g hg => ?_), hne⟩
  obtain ⟨cc, fz, hc⟩ := own_u8 hown hg
  exact Lib.iterAt_other _ _ _ _ _ (fun e => by rw [e, hk] at hc; cases hc)
theorem bld_iter {B b : Nat} {bs : List Value} {w : World} (h : Bld B b bs w) {k : Nat} {s : ByteArray} {i : Nat} (hk : w.heap[k]? = some (.stringIter s i)) (j : Nat) : Bld B b bs (w.iterAt k s j) := by
  rcases h with h | h
  · exact Or.inl (bldAt_iter h hk j)
  · exact Or.inr (bldAt_iter h hk j)
theorem bldAt_alloc {B b : Nat} {p : Value} {bs : List Value} {w : World} (h : Lib.BuilderAt 61 5 B b p bs w) (o : Obj) : Lib.BuilderAt 61 5 B b p bs (w.alloc o) := by
  obtain ⟨hB, v, hbk, hown, hne⟩ := h
  refine ⟨hB, v, (Below.heap_alloc _ _ _ (lt_blockG hbk)).trans hbk, ownsY hown (fun g hg => ?_), hne⟩
  obtain ⟨cc, fz, hc⟩ := own_u8 hown hg
  exact Below.heap_alloc _ _ _ (lt_blockG hc)
theorem bld_alloc {B b : Nat} {bs : List Value} {w : World} (h : Bld B b bs w) (o : Obj) : Bld B b bs (w.alloc o) := by
  rcases h with h | h
  · exact Or.inl (bldAt_alloc h o)
  · exact Or.inr (bldAt_alloc h o)
/-- What lies there while a round is written. -/
structure RnS (w wr : World) (xs : List (List UInt8)) (l : List UInt8) (i : Nat) : Prop where
  below : Below w.heap.size w wr
  bld : Bld w.heap.size w.heap.size (Lib.byteCells (imgL xs (l.take i))) wr
  it : wr.heap[w.heap.size + 1]? = some (.stringIter ⟨l.toArray⟩ i)
set_option maxRecDepth 100000 in
set_option maxHeartbeats 6400000 in
theorem roundF_any (xs : List (List UInt8)) (a : Option Addr) (k c : Nat) (l : List UInt8) (w : World) (hA : ArgX w xs a k c) (ok : imF xs = 0) (hl : l.length ≤ 40000) (hlt : l.all (ltB k) = true) (hi : (imgL xs l).length ≤ 40000) :
    Calls Try.prog 16 #[.slice a k c, .string ⟨l.toArray⟩] w fun e w' => e = .returned (.string ⟨(imgL xs l).toArray⟩) ∧ Below w.heap.size w w' := by
  have IK := imF_ok ok
  rw [← hA.len] at IK
  obtain ⟨k1, k8, OK⟩ := IK
  have KL := hide' hA.len
  have HA := hide' hA
  have O12 := hide' (fun i (h : i < k) => (OK i h).1)
  have NM := hide' (fun (x : Nat) (V : World) (h : 97 ≤ x) (hx : x ≤ 2147483647) => numberOf_any x V h hx)
  have AL := hide' (fun j (hj : j < l.length) => ltB_at hlt hj)
  have IP := hide' (fun i => Nat.le_trans (imgL_part xs l i) hi)
  clear hA ok hlt OK hi
  obtain ⟨w1, hw1⟩ : ∃ w1, (w.alloc (.cells #[.pointer none, .slice none 0 0] 61)).iter ⟨l.toArray⟩ 0 = w1 := ⟨_, rfl⟩
  have X0 := hide' (show RnS w w1 xs l 0 from ⟨by rw [← hw1]; exact ((Below.refl _ _).alloc (Nat.le_refl _) _).alloc (by simp; try omega) _,
    by rw [← hw1]; exact bld_alloc (Lib.fresh_isBuilder _ _ _) _,
    by rw [← hw1]; unfold World.iter; exact heap_atX _ _ _ (by simp)⟩)
  go_enter Try.func16, Try.ntmps16
  go_wp2
  try rw [hw1]
  clear hw1
  go_loopw [7] (fun _ wr => ∃ i : Nat, i ≤ l.length ∧ Hid (RnS w wr xs l i)) (fun _ wr => l.length - wr.iterPos (w.heap.size + 1))
  case atStart => exact ⟨0, by omega, X0⟩
  case round =>
    obtain ⟨i, hi, HS⟩ := hrel
    have hit := HS.out.it
    rw [iterPos_of hit]
    by_cases d : i < l.length
    · obtain ⟨gi, GI⟩ := byte_at l d
      have rg := AL.out i d
      have hnx : ∀ ty, (Instr.next (.pointer (some ⟨w.heap.size + 1, 0, none⟩)) true ty).run Try.prog wr = _ := fun ty => Lib.run_next_ascii_at wr (w.heap.size + 1) _ i ty hit gi (by rw [GI]; omega)
      rw [GI] at hnx
      have CN := hide' (imgL_next xs d)
      obtain ⟨x, hx⟩ : ∃ x, (l.getD i 0).toNat = x := ⟨_, rfl⟩
      rw [hx] at hnx rg CN
      have BD := hide' (bld_iter HS.out.bld hit (i + 1))
      have BW := hide' (Lib.below_iterAt HS.out.below (k := w.heap.size + 1) (by omega) ⟨l.toArray⟩ (i + 1))
      have IT := hide' (Lib.iterAt_heap wr (w.heap.size + 1) _ i (i + 1) hit)
      obtain ⟨W, hW⟩ : ∃ W, wr.iterAt (w.heap.size + 1) ⟨l.toArray⟩ (i + 1) = W := ⟨_, rfl⟩
      rw [hW] at hnx BD BW IT
      clear hx hW GI gi hit HS
      obtain ⟨r1, r2⟩ := rg
      have NC := hide' (NM.out x W r1 (by omega))
      obtain ⟨y, hy⟩ : ∃ y, x - 97 = y := ⟨_, rfl⟩
      rw [hy] at NC CN
      have yk : y < k := by omega
      have y0 : (0 : Int) ≤ (y : Int) := by omega
      have y8 : (y : Int) < (k : Int) := by omega
      obtain ⟨g, off, ea, -, hc⟩ := (HA.out.below BW.out).cells y (by rw [← KL.out]; exact yk)
      subst ea
      have X12 := O12.out y yk
      obtain ⟨z, hz⟩ : ∃ z, xs.getD y [] = z := ⟨_, rfl⟩
      rw [hz] at hc CN X12
      have WS := hide' (writeString_k w.heap.size w.heap.size _ ⟨z.toArray⟩ W BD.out BW.out.size (by rw [Lib.byteCells_length]; have := IP.out i; omega) (by show z.toArray.size ≤ _; rw [List.size_toArray]; omega))
      clear hz hy
      go_wp2_with fail
      refine NC.out.mono ?_
      rintro o w3 ⟨rfl, rfl⟩
      go_wp2_with fail
      refine WS.out.mono ?_
      rintro o w4 ⟨rfl, b4, bl4, ok4⟩
      have NX := hide' (show RnS w w4 xs l (i + 1) from ⟨BW.out.trans bl4, by rw [CN.out, Lib.byteCells_append]; exact Or.inr b4, ok4.iter IT.out (by omega)⟩)
      clear b4 bl4 ok4 WS
      go_wp2
      exact ⟨⟨i + 1, by omega, NX⟩, by rw [iterPos_of NX.out.it]; omega⟩
    · obtain rfl : i = l.length := by omega
      have hnx : ∀ ty, (Instr.next (.pointer (some ⟨w.heap.size + 1, 0, none⟩)) true ty).run Try.prog wr = _ := fun ty => Lib.run_next_end_at wr (w.heap.size + 1) _ _ ty hit (by show ¬ _ < l.toArray.size; simp)
      have BD := hide' HS.out.bld
      rw [List.take_length] at BD
      have BS := hide' (Try.bldString_any w.heap.size w.heap.size (imgL xs l) wr BD.out HS.out.below.size)
      have BF := hide' HS.out.below
      clear d hit HS BD
      go_wp2_with fail
      refine BS.out.mono ?_
      rintro o w4 ⟨rfl, b4⟩
      have B4 := hide' (BF.out.trans b4)
      clear b4
      go_wp2
      go_ret
      exact ⟨rfl, B4.out⟩
end Go.Proofs.Ytmnacanjbhlfeaa

namespace Go.Proofs.Ytmnacanjbhlfeaa
open Go.RowKit
set_option linter.unusedVariables false
set_option linter.unusedSimpArgs false
/-- What Grow answers. -/
def GwA (xs : List (List UInt8)) (l : List UInt8) (n : Int) (e : Ending) : Prop :=
  (gwF xs l n = 0 ∧ ∃ s, gwN xs n.toNat l = some s ∧ e = .returned (.tuple #[.string ⟨s.toArray⟩, .nilIface]))
  ∨ (gwF xs l n = 0 ∧ gwN xs n.toNat l = none ∧ e = .returned (.tuple #[.string ⟨#[]⟩, .iface 48 (.int .i64 4)]))
  ∨ (gwF xs l n ≠ 0 ∧ e = .returned (.tuple #[.string ⟨#[]⟩, errOf (gwF xs l n)]))
theorem gwF_good {xs : List (List UInt8)} {l : List UInt8} {n : Int} (h : gwF xs l n = 0) : imF xs = 0 ∧ l.length ≤ 40000 ∧ l.all (ltB xs.length) = true ∧ 0 ≤ n ∧ n ≤ 60 := by
  unfold gwF at h
  split at h
  · rename_i q
    split at h
    · cases h
    · split at h
      · split at h
        · cases h
        · rename_i a b c
          exact ⟨q, by omega, b, by omega, by omega⟩
      · cases h
  · rename_i q
    exact absurd h q
/-- A step of the way: no word on it is too long. -/
theorem gwN_step {xs : List (List UInt8)} {r : Nat} {t s : List UInt8} (h : gwN xs (r + 1) t = some s) : (imgL xs t).length ≤ 40000 ∧ gwN xs r (imgL xs t) = some s := by
  rw [gwN_succ] at h
  split at h
  · cases h
  · exact ⟨by omega, h⟩
set_option maxRecDepth 100000 in
set_option maxHeartbeats 12800000 in
theorem growGrow_any (xs : List (List UInt8)) (a : Option Addr) (k c : Nat) (l : List UInt8) (n : Int) (w : World) (hA : ArgX w xs a k c) (hl : l.length ≤ maxLen) :
    Calls Try.prog 8 #[.slice a k c, .string ⟨l.toArray⟩, .int .i64 n] w fun e w' => GwA xs l n e ∧ Below w.heap.size w w' := by
  have CR := hide' (checkRounds_any xs a k c l n w hA hl)
  by_cases q : gwF xs l n = 0
  · obtain ⟨ok, l4, la, n0, n6⟩ := gwF_good q
    rw [← hA.len] at la
    obtain ⟨m, rfl⟩ : ∃ m : Nat, n = (m : Int) := ⟨n.toNat, by omega⟩
    have CB := hide' (fun (V : World) (h : Below w.heap.size w V) => countBehind_any xs a k c l m 40000 V (hA.below h) ok l4 la (by omega) (by omega))
    have CL := hide' (fun (V : World) => clone_any ⟨l.toArray⟩ V (by show l.toArray.size ≤ _; rw [List.size_toArray]; omega))
    have OK3 := (imF_ok ok).2.2
    rw [← hA.len] at OK3
    have IM := hide' (fun (s : List UInt8) (h : s.all (ltB k) = true) => imgL_all (xs := xs) (n := k) (fun i hi => (OK3 i hi).2) h)
    have RN := hide' (fun (s : List UInt8) (V : World) (h : Below w.heap.size w V) (h1 : s.length ≤ 40000) (h2 : s.all (ltB k) = true) (h3 : (imgL xs s).length ≤ 40000) => roundF_any xs a k c s V (hA.below h) ok h1 h2 h3)
    have LA := hide' la
    have Q := hide' q
    have TN : ((m : Int)).toNat = m := Int.toNat_natCast m
    have PO := hide' (show ∀ e, ((∃ s, gwN xs m l = some s ∧ e = .returned (.tuple #[.string ⟨s.toArray⟩, .nilIface])) ∨ (gwN xs m l = none ∧ e = .returned (.tuple #[.string ⟨#[]⟩, .iface 48 (.int .i64 4)]))) → GwA xs l (m : Int) e from fun e h => by
      rcases h with h | h
      · exact Or.inl ⟨q, by rw [TN]; exact h⟩
      · exact Or.inr (Or.inl ⟨q, by rw [TN]; exact h⟩))
    simp only [bdW_gw] at CB
    rw [q, errOf_yes] at CR
    clear hA la OK3 q TN hl
    go_enter Try.func8, Try.ntmps8
    go_wp2_with fail
    refine CR.out.mono ?_
    rintro o w3 ⟨rfl, b3⟩
    have B3 := hide' b3
    clear b3
    go_wp2_with fail
    refine (CB.out w3 B3.out).mono ?_
    rintro o w4 ⟨r4, b4⟩
    have B4 := hide' (B3.out.trans (b4.mono B3.out.size))
    clear b4
    rcases r4 with ⟨s, hs, rfl⟩ | ⟨hs, rfl⟩
    · obtain ⟨A, hA⟩ : ∃ A, arrF 8 (uF (ctL s)) = A := ⟨_, rfl⟩
      have asz : A.size = 8 := by rw [← hA, arrF_size]
      have al : A.all (·.oneCell') = true := by rw [← hA]; exact arrF_all _ _ (fun k _ => rfl)
      rw [hA]
      have gz : (w4.alloc (.cells #[.int .u64 0, .int .u64 0, .int .u64 0, .int .u64 0, .int .u64 0, .int .u64 0, .int .u64 0, .int .u64 0] 40)).heap[w4.heap.size]? = some (.cells #[.int .u64 0, .int .u64 0, .int .u64 0, .int .u64 0, .int .u64 0, .int .u64 0, .int .u64 0, .int .u64 0] 40 (0, 0)) := heap_alloc_new w4 _
      obtain ⟨V, hV⟩ : ∃ V, (w4.alloc (.cells #[.int .u64 0, .int .u64 0, .int .u64 0, .int .u64 0, .int .u64 0, .int .u64 0, .int .u64 0, .int .u64 0] 40)).setRow w4.heap.size A = V := ⟨_, rfl⟩
      have BV := hide' (show Below w.heap.size w V by rw [← hV]; exact B4.out.trans ((below_setRow ((Below.refl _ _).alloc (Nat.le_refl _) _) (Nat.le_refl _) _ : Below w4.heap.size w4 _).mono B4.out.size))
      have HS := hide' hs
      clear hA hs
      go_wp2_with (first
        | (refine wpList_store_row rfl 40 _ _ rfl w4.heap.size A rfl rfl 40 _ gz (by rw [asz]; kernel_rfl) (by rw [asz]; rfl) al ?_; rw [hV]))
      refine (CL.out _).mono ?_
      rintro o w5 ⟨rfl, b5⟩
      have B5 := hide' (BV.out.trans (b5.mono BV.out.size))
      clear hV gz al asz b5
      go_wp2
      go_loopw [11, 32] (fun tv iv wr => ∃ (r : Nat) (t : List UInt8), tv = .string ⟨t.toArray⟩ ∧ iv = .int .i64 (r : Int) ∧ r ≤ m ∧ Hid (gwN xs (m - r) t = some s) ∧ Hid (t.length ≤ 40000) ∧ Hid (t.all (ltB k) = true) ∧ Hid (Below w.heap.size w wr)) (fun _ iv _ => m - (intOf iv).toNat)
      case atStart => exact ⟨0, l, rfl, rfl, by omega, HS, hide' l4, LA, B5⟩
      case round =>
        obtain ⟨r, t, rfl, rfl, hr, HG, HT, HL, BW⟩ := hrel
        by_cases e : (r : Int) < (m : Int)
        · have ST := hide' (gwN_step (show gwN xs ((m - (r + 1)) + 1) t = some s by rw [show (m - (r + 1)) + 1 = m - r by omega]; exact HG.out))
          have RC := hide' (RN.out t wr BW.out HT.out HL.out ST.out.1)
          have AL := hide' (IM.out t HL.out)
          obtain ⟨u, hu⟩ : ∃ u, imgL xs t = u := ⟨_, rfl⟩
          rw [hu] at ST RC AL
          clear hu HG HT HL
          go_wp2_with fail
          refine RC.out.mono ?_
          rintro o w6 ⟨rfl, b6⟩
          have B6 := hide' (BW.out.trans (b6.mono BW.out.size))
          clear b6
          go_wp2
          exact ⟨⟨r + 1, u, rfl, by go_num, by omega, hide' ST.out.2, hide' ST.out.1, AL, B6⟩, by simp [intOf]; omega⟩
        · obtain rfl : r = m := by omega
          have ES := hide' (show t = s by have := HG.out; rw [Nat.sub_self, gwN_zero] at this; exact Option.some.inj this)
          go_wp2
          go_ret2
          exact ⟨PO.out _ (Or.inl ⟨s, HS.out, by rw [← ES.out]; rfl⟩), BW.out⟩
    · obtain ⟨A, hA⟩ : ∃ A, arrF 8 (uF fun _ => 0) = A := ⟨_, rfl⟩
      have asz : A.size = 8 := by rw [← hA, arrF_size]
      have al : A.all (·.oneCell') = true := by rw [← hA]; exact arrF_all _ _ (fun k _ => rfl)
      rw [hA]
      have gz : (w4.alloc (.cells #[.int .u64 0, .int .u64 0, .int .u64 0, .int .u64 0, .int .u64 0, .int .u64 0, .int .u64 0, .int .u64 0] 40)).heap[w4.heap.size]? = some (.cells #[.int .u64 0, .int .u64 0, .int .u64 0, .int .u64 0, .int .u64 0, .int .u64 0, .int .u64 0, .int .u64 0] 40 (0, 0)) := heap_alloc_new w4 _
      obtain ⟨V, hV⟩ : ∃ V, (w4.alloc (.cells #[.int .u64 0, .int .u64 0, .int .u64 0, .int .u64 0, .int .u64 0, .int .u64 0, .int .u64 0, .int .u64 0] 40)).setRow w4.heap.size A = V := ⟨_, rfl⟩
      have BV := hide' (show Below w.heap.size w V by rw [← hV]; exact B4.out.trans ((below_setRow ((Below.refl _ _).alloc (Nat.le_refl _) _) (Nat.le_refl _) _ : Below w4.heap.size w4 _).mono B4.out.size))
      have HS := hide' hs
      clear hA hs
      go_wp2_with (first
        | (refine wpList_store_row rfl 40 _ _ rfl w4.heap.size A rfl rfl 40 _ gz (by rw [asz]; kernel_rfl) (by rw [asz]; rfl) al ?_; rw [hV]))
      go_ret2
      exact ⟨PO.out _ (Or.inr ⟨HS.out, rfl⟩), BV.out⟩
  · have PO := hide' (show GwA xs l n (.returned (.tuple #[.string ⟨#[]⟩, errOf (gwF xs l n)])) from Or.inr (Or.inr ⟨q, rfl⟩))
    obtain ⟨f, hf⟩ : ∃ f, gwF xs l n = f := ⟨_, rfl⟩
    rw [hf] at CR PO q
    rw [errOf_no q] at CR PO
    clear q hf hA hl
    go_enter Try.func8, Try.ntmps8
    go_wp2_with fail
    refine CR.out.mono ?_
    rintro o w3 ⟨rfl, b3⟩
    go_wp2
    go_ret2
    exact ⟨PO.out, b3⟩
end Go.Proofs.Ytmnacanjbhlfeaa

