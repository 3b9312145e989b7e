/-
  What the last text of this claim leans on, part 8: Gz2, Gz3, Gz4.
-/
import Derived.Test.YtmnacanjbhlfeaaZf7
import Derived.Test.YtmnacanjbhlfeaaZf5
import Derived.Test.YtmnacanjbhlfeaaZf6
namespace Go.Proofs.Ytmnacanjbhlfeaa
open Go.RowKit
set_option linter.unusedVariables false
set_option linter.unusedSimpArgs false
/-- What Count answers. -/
def CoA (xs : List (List UInt8)) (k : Nat) (l : List UInt8) (n : Int) (w : World) (e : Ending) (w' : World) : Prop :=
  (gwF xs l n = 0 ∧ ∃ s g, cnW xs n.toNat l = some s ∧ e = .returned (.tuple #[.slice (some ⟨g, 0, none⟩) k k, .nilIface]) ∧ RowG w' g k (ctL s) ∧ w.heap.size ≤ g)
  ∨ (gwF xs l n = 0 ∧ cnW xs n.toNat l = none ∧ e = .returned (.tuple #[.slice none 0 0, .iface 48 (.int .i64 4)]))
  ∨ (gwF xs l n ≠ 0 ∧ e = .returned (.tuple #[.slice none 0 0, errOf (gwF xs l n)]))
theorem cnW_le {xs : List (List UInt8)} : ∀ {m : Nat} {l s : List UInt8}, cnW xs m l = some s → l.length ≤ 1000000000000000000 → s.length ≤ 1000000000000000000
  | 0, l, s, h, hl => by rw [cnW_zero] at h; rw [← Option.some.inj h]; exact hl
  | m + 1, l, s, h, hl => by
    rw [cnW_succ] at h
    split at h
    · cases h
    · exact cnW_le h (by omega)
set_option maxRecDepth 100000 in
set_option maxHeartbeats 12800000 in
theorem growCount_any (xs : List (List UInt8)) (a : Option Addr) (k c : Nat) (l : List UInt8) (n : Int) (w : World) (hA : ArgX w xs a k c) (hl : l.length ≤ maxLen) :
    Calls Try.prog 9 #[.slice a k c, .string ⟨l.toArray⟩, .int .i64 n] w fun e w' => CoA xs k l n w e w' ∧ Below w.heap.size w w' := by
  have CR := hide' (checkRounds_any xs a k c l n w hA hl)
  by_cases q : gwF xs l n = 0
  · obtain ⟨ok, l4, la, n0, n6⟩ := gwF_good q
    rw [← hA.len] at la
    obtain ⟨m, rfl⟩ : ∃ m : Nat, n = (m : Int) := ⟨n.toNat, by omega⟩
    have CB := hide' (fun (V : World) (h : Below w.heap.size w V) => countBehind_any xs a k c l m 1000000000000000000 V (hA.below h) ok l4 la (by omega) (by omega))
    have k8 : k ≤ 8 := by rw [hA.len]; exact (imF_ok ok).2.1
    have MK := hide' (fun (V : World) => run_make_row' (P := Try.prog) 31 3 (.int .i64 0) 8 Try.underlying31 info_int rfl .i64 .i64 k (by omega) (by omega) V)
    have TN : ((m : Int)).toNat = m := Int.toNat_natCast m
    have PO := hide' (show ∀ e w', ((∃ s g, cnW xs m l = some s ∧ e = .returned (.tuple #[.slice (some ⟨g, 0, none⟩) k k, .nilIface]) ∧ RowG w' g k (ctL s) ∧ w.heap.size ≤ g) ∨ (cnW xs m l = none ∧ e = .returned (.tuple #[.slice none 0 0, .iface 48 (.int .i64 4)]))) → CoA xs k l (m : Int) w e w' from fun e w' h => by
      rcases h with h | h
      · exact Or.inl ⟨q, by rw [TN]; exact h⟩
      · exact Or.inr (Or.inl ⟨q, by rw [TN]; exact h⟩))
    simp only [bdW_cn] at CB
    rw [q, errOf_yes] at CR
    clear hA la q TN hl ok
    go_enter Try.func9, Try.ntmps9
    go_wp2_with fail
    refine CR.out.mono ?_
    rintro o w3 ⟨rfl, b3⟩
    have B3 := hide' b3
    clear b3
    go_wp2_with fail
    refine (CB.out w3 B3.out).mono ?_
    rintro o w4 ⟨r4, b4⟩
    have B4 := hide' (B3.out.trans (b4.mono B3.out.size))
    clear b4
    rcases r4 with ⟨s, hs, rfl⟩ | ⟨hs, rfl⟩
    · obtain ⟨A, hA⟩ : ∃ A, arrF 8 (uF (ctL s)) = A := ⟨_, rfl⟩
      have asz : A.size = 8 := by rw [← hA, arrF_size]
      have al : A.all (·.oneCell') = true := by rw [← hA]; exact arrF_all _ _ (fun k _ => rfl)
      rw [hA]
      have gz : (w4.alloc (.cells #[.int .u64 0, .int .u64 0, .int .u64 0, .int .u64 0, .int .u64 0, .int .u64 0, .int .u64 0, .int .u64 0] 40)).heap[w4.heap.size]? = some (.cells #[.int .u64 0, .int .u64 0, .int .u64 0, .int .u64 0, .int .u64 0, .int .u64 0, .int .u64 0, .int .u64 0] 40 (0, 0)) := heap_alloc_new w4 _
      obtain ⟨V, hV⟩ : ∃ V, (w4.alloc (.cells #[.int .u64 0, .int .u64 0, .int .u64 0, .int .u64 0, .int .u64 0, .int .u64 0, .int .u64 0, .int .u64 0] 40)).setRow w4.heap.size A = V := ⟨_, rfl⟩
      have BV := hide' (show Below w.heap.size w V by rw [← hV]; exact B4.out.trans ((below_setRow ((Below.refl _ _).alloc (Nat.le_refl _) _) (Nat.le_refl _) _ : Below w4.heap.size w4 _).mono B4.out.size))
      have gv : V.heap[w4.heap.size]? = some (.cells A 40 (0, 0)) := by rw [← hV]; exact setRow_heap _ _ _ _ _ _ gz
      have SL := hide' (fun x => Nat.le_trans (ctL_le s x) (cnW_le hs (by omega)))
      have HS := hide' hs
      obtain ⟨V2, hV2⟩ : ∃ V2, V.alloc (.cells (madeCells #[.int .i64 0] k) 3) = V2 := ⟨_, rfl⟩
      have mk := MK.out V
      rw [hV2] at mk
      have R0 := hide' (show RowG V2 V.heap.size k (fun _ => 0) by rw [← hV2]; exact RowG.made V k)
      have G0 := hide' (show V2.heap[w4.heap.size]? = some (.cells (arrF 8 (uF (ctL s))) 40 (0, 0)) by rw [← hV2, Below.heap_alloc _ _ _ (lt_blockG gv), hA]; exact gv)
      have BV2 := hide' (show Below w.heap.size w V2 by rw [← hV2]; exact BV.out.alloc BV.out.size _)
      have WV := hide' BV.out.size
      have GL := lt_blockG gv
      clear hs gv
      go_wp2_with (first
        | (refine wpList_store_row rfl 40 _ _ rfl w4.heap.size A rfl rfl 40 _ gz (by rw [asz]; kernel_rfl) (by rw [asz]; rfl) al ?_; rw [hV]))
      obtain ⟨g, hg⟩ : ∃ g, V.heap.size = g := ⟨_, rfl⟩
      obtain ⟨p, hp⟩ : ∃ p, w4.heap.size = p := ⟨_, rfl⟩
      rw [hg] at R0 WV GL
      rw [hp] at G0 GL
      rw [hg, hp]
      clear hV gz al asz hA hV2 mk hg hp BV
      go_loopw [12, 35] (fun _ iv wr => ∃ (i : Nat), iv = .int .i64 (i : Int) ∧ i ≤ k ∧ Hid (RowG wr g k (fun j => if j < i then ctL s j else 0)) ∧ Hid (wr.heap[p]? = some (.cells (arrF 8 (uF (ctL s))) 40 (0, 0))) ∧ Hid (Below w.heap.size w wr)) (fun _ iv _ => k - (intOf iv).toNat)
      case atStart => exact ⟨0, rfl, by omega, hide' (R0.out.ext (fun j _ => by rw [if_neg (by omega)])), G0, BV2⟩
      case round =>
        obtain ⟨i, rfl, hi, RW, GW, BW⟩ := hrel
        by_cases e : (i : Int) < (k : Int)
        · have i0 : (0 : Int) ≤ (i : Int) := by omega
          have i8 : (i : Int) < 8 := by omega
          have c0 : wr.cell? ⟨p, i, none⟩ = some (.int .u64 ((ctL s i : Nat) : Int)) := by rw [cell_of_row wr _ _ _ _ _ GW.out, arrF_get _ (by omega)]; rfl
          have c1 := RW.out.cell (show i < k by omega)
          rw [if_neg (by omega)] at c1
          have f1 := frozen_of_row wr _ i _ _ RW.out
          have sl := SL.out i
          have NX := hide' ((RW.out.set i (ctL s i)).ext (f' := fun j => if j < i + 1 then ctL s j else 0) (fun j _ => by
            by_cases e : j = i
            · subst e; rw [if_pos rfl, if_pos (by omega)]
            · rw [if_neg e]
              by_cases q : j < i
              · rw [if_pos q, if_pos (by omega)]
              · rw [if_neg q, if_neg (by omega)]))
          have GX := hide' (fun v => show (wr.setCell ⟨g, i, none⟩ v).heap[p]? = _ from (Below.heap_setCell _ _ _ _ (by show p ≠ g; omega)).trans GW.out)
          have NB := hide' (fun v => show Below w.heap.size w (wr.setCell ⟨g, i, none⟩ v) from BW.out.setCell WV.out v)
          obtain ⟨v, hv⟩ : ∃ v, ctL s i = v := ⟨_, rfl⟩
          rw [hv] at c0 sl NX
          clear hv
          go_wp2
          exact ⟨⟨i + 1, by go_num, by omega, NX, hide' (GX.out _), hide' (NB.out _)⟩, by simp [intOf]; omega⟩
        · obtain rfl : i = k := by omega
          have RR := hide' (RW.out.ext (f' := ctL s) (fun j hj => by rw [if_pos hj]))
          go_wp2
          go_ret2
          exact ⟨PO.out _ _ (Or.inl ⟨s, g, HS.out, rfl, RR.out, WV.out⟩), BW.out⟩
    · obtain ⟨A, hA⟩ : ∃ A, arrF 8 (uF fun _ => 0) = A := ⟨_, rfl⟩
      have asz : A.size = 8 := by rw [← hA, arrF_size]
      have al : A.all (·.oneCell') = true := by rw [← hA]; exact arrF_all _ _ (fun k _ => rfl)
      rw [hA]
      have gz : (w4.alloc (.cells #[.int .u64 0, .int .u64 0, .int .u64 0, .int .u64 0, .int .u64 0, .int .u64 0, .int .u64 0, .int .u64 0] 40)).heap[w4.heap.size]? = some (.cells #[.int .u64 0, .int .u64 0, .int .u64 0, .int .u64 0, .int .u64 0, .int .u64 0, .int .u64 0, .int .u64 0] 40 (0, 0)) := heap_alloc_new w4 _
      obtain ⟨V, hV⟩ : ∃ V, (w4.alloc (.cells #[.int .u64 0, .int .u64 0, .int .u64 0, .int .u64 0, .int .u64 0, .int .u64 0, .int .u64 0, .int .u64 0] 40)).setRow w4.heap.size A = V := ⟨_, rfl⟩
      have BV := hide' (show Below w.heap.size w V by rw [← hV]; exact B4.out.trans ((below_setRow ((Below.refl _ _).alloc (Nat.le_refl _) _) (Nat.le_refl _) _ : Below w4.heap.size w4 _).mono B4.out.size))
      have HS := hide' hs
      clear hA hs
      go_wp2_with (first
        | (refine wpList_store_row rfl 40 _ _ rfl w4.heap.size A rfl rfl 40 _ gz (by rw [asz]; kernel_rfl) (by rw [asz]; rfl) al ?_; rw [hV]))
      go_ret2
      exact ⟨PO.out _ _ (Or.inr ⟨HS.out, rfl⟩), BV.out⟩
  · have PO := hide' (show ∀ w', CoA xs k l n w (.returned (.tuple #[.slice none 0 0, errOf (gwF xs l n)])) w' from fun w' => Or.inr (Or.inr ⟨q, rfl⟩))
    obtain ⟨f, hf⟩ : ∃ f, gwF xs l n = f := ⟨_, rfl⟩
    rw [hf] at CR PO q
    rw [errOf_no q] at CR PO
    clear q hf hA hl
    go_enter Try.func9, Try.ntmps9
    go_wp2_with fail
    refine CR.out.mono ?_
    rintro o w3 ⟨rfl, b3⟩
    go_wp2
    go_ret2
    exact ⟨PO.out _, b3⟩
end Go.Proofs.Ytmnacanjbhlfeaa

namespace Go.Proofs.Ytmnacanjbhlfeaa
open Go.RowKit
set_option linter.unusedVariables false
set_option linter.unusedSimpArgs false
/-- What a word's letters come to together. -/
def smW (f : Nat → Nat) (l : List UInt8) : Nat := (l.map fun c => f (c.toNat - 97)).sum
theorem smW_next (f : Nat → Nat) {l : List UInt8} {i : Nat} (hi : i < l.length) : smW f (l.take (i + 1)) = smW f (l.take i) + f ((l.getD i 0).toNat - 97) := by
  unfold smW
  rw [List.take_add_one, List.map_append, List.sum_append, List.getElem?_eq_getElem hi]
  simp [List.getD, hi]
theorem smW_part (f : Nat → Nat) (l : List UInt8) (i : Nat) : smW f (l.take i) ≤ smW f l := by
  unfold smW
  conv => rhs; rw [← List.take_append_drop i l, List.map_append, List.sum_append]
  omega
/-- What lies there while they are added. -/
structure TgS (w wr : World) (f : Nat → Nat) (l : List UInt8) (i : Nat) : Prop where
  below : Below w.heap.size w wr
  row : wr.heap[w.heap.size]? = some (.cells (arrF 8 (uF f)) 40 (0, 0))
  it : wr.heap[w.heap.size + 1]? = some (.stringIter ⟨l.toArray⟩ i)
theorem TgS.turn {w wr : World} {f : Nat → Nat} {l : List UInt8} {i : Nat} (h : TgS w wr f l i) (p : Nat) : TgS w (wr.iterAt (w.heap.size + 1) ⟨l.toArray⟩ p) f l p :=
  ⟨Lib.below_iterAt h.below (by omega) _ _, (iterAt_otherY _ _ _ _ _ (by omega)).trans h.row, Lib.iterAt_heap _ _ _ _ _ h.it⟩
set_option maxRecDepth 100000 in
set_option maxHeartbeats 6400000 in
theorem together_any (f : Nat → Nat) (l : List UInt8) (n : Nat) (w : World) (hf : ∀ x, f x ≤ 9223372036854775808) (hn : n ≤ 8) (ha : l.all (ltB n) = true) (hl : l.length ≤ 40000) : Calls Try.prog 18 #[.agg (arrF 8 (uF f)), .string ⟨l.toArray⟩] w fun e w' => e = .returned (.int .u64 ((min 9223372036854775808 (smW f l) : Nat) : Int)) ∧ Below w.heap.size w w' := by
  obtain ⟨Z, hZ⟩ : ∃ Z, arrF 8 (uF f) = Z := ⟨_, rfl⟩
  obtain ⟨w1, hw1⟩ : ∃ w1, (w.alloc (.cells Z 40)).iter ⟨l.toArray⟩ 0 = w1 := ⟨_, rfl⟩
  have X0 := hide' (show TgS w w1 f l 0 from ⟨by rw [← hw1]; exact ((Below.refl _ _).alloc (Nat.le_refl _) _).alloc (by simp; try omega) _,
    by rw [← hw1, hZ]; unfold World.iter; rw [Below.heap_alloc _ _ _ (by simp; try omega)]; exact heap_atX _ _ _ (by simp),
    by rw [← hw1]; unfold World.iter; exact heap_atX _ _ _ (by simp)⟩)
  have NM := hide' (fun (x : Nat) (V : World) (h : 97 ≤ x) (hx : x ≤ 2147483647) => numberOf_any x V h hx)
  have AL := hide' (fun j (hj : j < l.length) => ltB_at ha hj)
  have HF := hide' hf
  have SN := hide' (fun i (hi : i < l.length) => smW_next f hi)
  have SP := hide' (fun i => smW_part f l i)
  have MT := hide' (fun (h : 9223372036854775808 ≤ smW f l) => show min 9223372036854775808 (smW f l) = 9223372036854775808 by omega)
  have ME := hide' (fun (h : smW f l ≤ 9223372036854775808) => show min 9223372036854775808 (smW f l) = smW f l by omega)
  rw [hZ]
  clear ha hf hZ
  obtain ⟨R, hR⟩ : ∃ R, min 9223372036854775808 (smW f l) = R := ⟨_, rfl⟩
  rw [hR] at MT ME
  rw [hR]
  clear hR
  go_enter Try.func18, Try.ntmps18
  go_wp2
  try rw [hw1]
  clear hw1
  go_loopw [5, 7, 8] (fun sv _ _ wr => ∃ i : Nat, sv = .int .u64 ((smW f (l.take i) : Nat) : Int) ∧ i ≤ l.length ∧ Hid (smW f (l.take i) ≤ 9223372036854775808) ∧ Hid (TgS w wr f l i)) (fun _ _ _ wr => l.length - wr.iterPos (w.heap.size + 1))
  case atStart => exact ⟨0, rfl, by omega, hide' (by simp [smW]), X0⟩
  case round =>
    obtain ⟨i, rfl, hi, HB, HS⟩ := hrel
    have hit := HS.out.it
    rw [iterPos_of hit]
    by_cases d : i < l.length
    · obtain ⟨gi, GI⟩ := byte_at l d
      have rg := AL.out i d
      have hnx : ∀ ty, (Instr.next (.pointer (some ⟨w.heap.size + 1, 0, none⟩)) true ty).run Try.prog wr = _ := fun ty => Lib.run_next_ascii_at wr (w.heap.size + 1) _ i ty hit gi (by rw [GI]; omega)
      rw [GI] at hnx
      have sn := SN.out i d
      have sp := SP.out (i + 1)
      obtain ⟨x, hx⟩ : ∃ x, (l.getD i 0).toNat = x := ⟨_, rfl⟩
      rw [hx] at hnx rg sn
      have TT := hide' (HS.out.turn (i + 1))
      obtain ⟨W, hW⟩ : ∃ W, wr.iterAt (w.heap.size + 1) ⟨l.toArray⟩ (i + 1) = W := ⟨_, rfl⟩
      rw [hW] at hnx TT
      clear hx hW GI gi hit HS
      obtain ⟨r1, r2⟩ := rg
      have NC := hide' (NM.out x W r1 (by omega))
      obtain ⟨y, hy⟩ : ∃ y, x - 97 = y := ⟨_, rfl⟩
      rw [hy] at NC sn
      have y0 : (0 : Int) ≤ (y : Int) := by omega
      have y8 : (y : Int) < 8 := by omega
      have c1 : W.cell? ⟨w.heap.size, y, none⟩ = some (.int .u64 ((f y : Nat) : Int)) := by rw [cell_of_row W _ _ _ _ _ TT.out.row, arrF_get _ (by omega)]; rfl
      have fl := HF.out y
      have hb := HB.out
      obtain ⟨s', hs'⟩ : ∃ s', smW f (l.take (i + 1)) = s' := ⟨_, rfl⟩
      obtain ⟨s, hs⟩ : ∃ s, smW f (l.take i) = s := ⟨_, rfl⟩
      obtain ⟨v, hv⟩ : ∃ v, f y = v := ⟨_, rfl⟩
      rw [hs', hs, hv] at sn
      rw [hs'] at sp
      rw [hs] at hb
      rw [hv] at c1 fl
      rw [hs]
      have HS' := hide' hs'
      clear hs' hs hv hy HB
      obtain ⟨t, ht⟩ : ∃ t : Nat, 9223372036854775808 - s = t := ⟨_, rfl⟩
      have et : (9223372036854775808 : Int) - (s : Int) = (t : Int) := by omega
      by_cases q : (t : Int) < (v : Int)
      · have RR := hide' (MT.out (by omega))
        go_wp2_with fail
        refine NC.out.mono ?_
        rintro o w3 ⟨rfl, rfl⟩
        go_wp2
        go_ret
        exact ⟨by rw [RR.out]; rfl, TT.out.below⟩
      · have NB := hide' (show smW f (l.take (i + 1)) ≤ 9223372036854775808 by rw [HS'.out]; omega)
        go_wp2_with fail
        refine NC.out.mono ?_
        rintro o w3 ⟨rfl, rfl⟩
        go_wp2
        exact ⟨⟨i + 1, by rw [HS'.out, sn]; go_num, by omega, NB, TT⟩, by rw [iterPos_of TT.out.it]; omega⟩
    · obtain rfl : i = l.length := by omega
      have hnx : ∀ ty, (Instr.next (.pointer (some ⟨w.heap.size + 1, 0, none⟩)) true ty).run Try.prog wr = _ := fun ty => Lib.run_next_end_at wr (w.heap.size + 1) _ _ ty hit (by show ¬ _ < l.toArray.size; simp)
      have hb := HB.out
      rw [List.take_length] at hb
      have RR := hide' (ME.out hb)
      rw [List.take_length]
      have BF := hide' HS.out.below
      clear d hit HS HB hb
      go_wp2
      go_ret
      exact ⟨by rw [RR.out]; rfl, BF.out⟩
end Go.Proofs.Ytmnacanjbhlfeaa

namespace Go.Proofs.Ytmnacanjbhlfeaa
open Go.RowKit
set_option linter.unusedVariables false
set_option linter.unusedSimpArgs false
/-- How many letters become of one; of which ints know. -/
def szT (xs : List (List UInt8)) : Nat → Nat → Nat
  | 0, _ => 1
  | r + 1, x => smW (szT xs r) (xs.getD x [])
def szV (xs : List (List UInt8)) (r x : Nat) : Nat := if x < xs.length then min 9223372036854775808 (szT xs r x) else 0
theorem szV_le (xs : List (List UInt8)) (r x : Nat) : szV xs r x ≤ 9223372036854775808 := by unfold szV; split <;> omega
/-- The word behind r rounds, whatever its length. -/
def itW (xs : List (List UInt8)) : Nat → List UInt8 → List UInt8
  | 0, l => l
  | r + 1, l => itW xs r (imgL xs l)
theorem smW_nil (f : Nat → Nat) : smW f [] = 0 := rfl
theorem smW_cons (f : Nat → Nat) (c : UInt8) (l : List UInt8) : smW f (c :: l) = f (c.toNat - 97) + smW f l := by unfold smW; rw [List.map_cons, List.sum_cons]
theorem smW_append (f : Nat → Nat) (a b : List UInt8) : smW f (a ++ b) = smW f a + smW f b := by unfold smW; rw [List.map_append, List.sum_append]
theorem smW_img (xs : List (List UInt8)) (r : Nat) : ∀ l : List UInt8, smW (szT xs r) (imgL xs l) = smW (szT xs (r + 1)) l
  | [] => by simp [imgL, smW]
  | c :: l => by rw [imgL_cons, smW_append, smW_cons, smW_img xs r l]; rfl
theorem itW_len (xs : List (List UInt8)) : ∀ (r : Nat) (l : List UInt8), (itW xs r l).length = smW (szT xs r) l
  | 0, l => by
    show l.length = _
    unfold smW
    induction l with
    | nil => rfl
    | cons c l ih => simp only [List.map_cons, List.sum_cons, List.length_cons, szT] at *; omega
  | r + 1, l => by rw [← smW_img, ← itW_len xs r]; rfl
theorem itW_append (xs : List (List UInt8)) : ∀ (r : Nat) (a b : List UInt8), itW xs r (a ++ b) = itW xs r a ++ itW xs r b
  | 0, a, b => rfl
  | r + 1, a, b => by show itW xs r (imgL xs (a ++ b)) = _; rw [imgL_append, itW_append xs r]; rfl
theorem itW_one (xs : List (List UInt8)) (r : Nat) (c : UInt8) : itW xs (r + 1) [c] = itW xs r (xs.getD (c.toNat - 97) []) := by show itW xs r (imgL xs [c]) = _; rw [imgL_one]
theorem min_smW (B : Nat) (h : Nat → Nat) : ∀ l : List UInt8, min B (smW (fun x => min B (h x)) l) = min B (smW h l)
  | [] => rfl
  | c :: l => by
    have := min_smW B h l
    rw [smW_cons, smW_cons]
    omega
theorem smW_ext {f g : Nat → Nat} {n : Nat} (e : ∀ x, x < n → f x = g x) : ∀ {l : List UInt8}, l.all (ltB n) = true → smW f l = smW g l
  | [], _ => rfl
  | c :: l, h => by
    rw [List.all_cons, Bool.and_eq_true] at h
    have q : 97 ≤ c.toNat ∧ c.toNat < n + 97 := by simpa [ltB] using h.1
    rw [smW_cons, smW_cons, e _ (by omega), smW_ext e h.2]
theorem szV_next {xs : List (List UInt8)} (h : ∀ k, k < xs.length → (xs.getD k []).all (ltB xs.length) = true) (r : Nat) {i : Nat} (hi : i < xs.length) : min 9223372036854775808 (smW (szV xs r) (xs.getD i [])) = szV xs (r + 1) i := by
  rw [smW_ext (g := fun x => min 9223372036854775808 (szT xs r x)) (fun x hx => by unfold szV; rw [if_pos hx]) (h i hi), min_smW]
  unfold szV
  rw [if_pos hi]
  rfl
theorem szV_far {xs : List (List UInt8)} {r x : Nat} (h : xs.length ≤ x) : szV xs r x = 0 := by unfold szV; rw [if_neg (by omega)]
/-- All of them in a row; and while they are reckoned. -/
def szA (xs : List (List UInt8)) (j : Nat) : Nat := szV xs (j / 8) (j % 8)
def szP (xs : List (List UInt8)) (r i j : Nat) : Nat := if j / 8 ≤ r ∨ (j / 8 = r + 1 ∧ j % 8 < i) then szA xs j else 0
theorem szP_first (xs : List (List UInt8)) (h8 : xs.length ≤ 8) (j : Nat) : (if j < xs.length then 1 else 0) = szP xs 0 0 j := by
  unfold szP szA szV
  by_cases q : j / 8 ≤ 0
  · rw [if_pos (Or.inl q), show j % 8 = j by omega, show j / 8 = 0 by omega]
    by_cases e : j < xs.length
    · rw [if_pos e, if_pos e]; simp [szT]
    · rw [if_neg e, if_neg e]
  · rw [if_neg (by omega), if_neg (by omega)]
theorem szP_over (xs : List (List UInt8)) (r j : Nat) : szP xs r xs.length j = szP xs (r + 1) 0 j := by
  unfold szP
  by_cases q : j / 8 ≤ r
  · rw [if_pos (Or.inl q), if_pos (Or.inl (by omega))]
  · by_cases e : j / 8 = r + 1
    · rw [if_pos (show j / 8 ≤ r + 1 ∨ _ from Or.inl (by omega))]
      by_cases t : j % 8 < xs.length
      · rw [if_pos (Or.inr ⟨e, t⟩)]
      · rw [if_neg (by omega)]
        unfold szA
        rw [szV_far (by omega)]
    · rw [if_neg (by omega), if_neg (by omega)]
theorem szP_put (xs : List (List UInt8)) (r i j : Nat) (hi : i < 8) : (if j = (r + 1) * 8 + i then szV xs (r + 1) i else szP xs r i j) = szP xs r (i + 1) j := by
  unfold szP
  by_cases e : j = (r + 1) * 8 + i
  · rw [if_pos e, if_pos (by omega)]
    unfold szA
    rw [show j / 8 = r + 1 by omega, show j % 8 = i by omega]
  · rw [if_neg e]
    by_cases q : j / 8 ≤ r ∨ (j / 8 = r + 1 ∧ j % 8 < i)
    · rw [if_pos q, if_pos (by omega)]
    · rw [if_neg q, if_neg (by omega)]
theorem szP_row (xs : List (List UInt8)) (r i x : Nat) (hx : x < 8) : szP xs r i (r * 8 + x) = szV xs r x := by
  unfold szP szA
  rw [if_pos (Or.inl (by omega)), show (r * 8 + x) / 8 = r by omega, show (r * 8 + x) % 8 = x by omega]
theorem made8 (n : Nat) : madeCells #[.int .u64 0, .int .u64 0, .int .u64 0, .int .u64 0, .int .u64 0, .int .u64 0, .int .u64 0, .int .u64 0] n = arrF n (uF fun _ => 0) := by
  apply Array.ext
  · rw [size_madeCells, arrF_size]
  · intro i h1 h2
    have key : ∀ k, k < 8 → (#[.int .u64 0, .int .u64 0, .int .u64 0, .int .u64 0, .int .u64 0, .int .u64 0, .int .u64 0, .int .u64 0] : Array Value)[k]! = .int .u64 0 := fun k hk => by
      match k, hk with
      | 0, _ => rfl
      | 1, _ => rfl
      | 2, _ => rfl
      | 3, _ => rfl
      | 4, _ => rfl
      | 5, _ => rfl
      | 6, _ => rfl
      | 7, _ => rfl
    have e1 : (madeCells #[.int .u64 0, .int .u64 0, .int .u64 0, .int .u64 0, .int .u64 0, .int .u64 0, .int .u64 0, .int .u64 0] n)[i] = (#[.int .u64 0, .int .u64 0, .int .u64 0, .int .u64 0, .int .u64 0, .int .u64 0, .int .u64 0, .int .u64 0] : Array Value)[i % 8]! := by simp [madeCells]
    rw [e1, key _ (by omega)]
    simp [arrF, uF]
theorem info_per : (Try.prog.info? 40).map (fun i => (i.zero, i.size, i.bytes)) = some (some (.agg #[.int .u64 0, .int .u64 0, .int .u64 0, .int .u64 0, .int .u64 0, .int .u64 0, .int .u64 0, .int .u64 0]), 8, 64) := by kernel_rfl
theorem make_per (n : Nat) (hn : n ≤ 100) (w : World) : (Instr.makeSlice 45 (.int .i64 (n : Int)) (.int .i64 (n : Int))).run Try.prog w = .ok (.slice (some ⟨w.heap.size, 0, none⟩) n n) (w.alloc (.cells (arrF (n * 8) (uF fun _ => 0)) 40)) := by
  obtain ⟨i, hi, hzz⟩ := Option.map_eq_some_iff.1 info_per
  simp only [Prod.mk.injEq] at hzz
  obtain ⟨hz, hs, hb⟩ := hzz
  have h := run_make (P := Try.prog) w 45 40 i _ Try.underlying45 hi hz .i64 .i64 (n : Int) (n : Int) (by omega) (by omega) (by rw [hb]; omega) (by omega)
  rw [hs] at h
  have e : madeCells (Value.agg #[.int .u64 0, .int .u64 0, .int .u64 0, .int .u64 0, .int .u64 0, .int .u64 0, .int .u64 0, .int .u64 0]).cells ((n : Int).toNat * 8) = arrF (n * 8) (uF fun _ => 0) := by
    rw [Int.toNat_natCast]; exact made8 (n * 8)
  rw [e] at h
  simpa using h
/-- What lies there while sizes are reckoned. -/
structure SzS (w wr : World) (N : Nat) (F : Nat → Nat) : Prop where
  below : Below w.heap.size w wr
  row : wr.heap[w.heap.size]? = some (.cells (arrF N (uF F)) 40 (0, 0))
theorem SzS.keep {w wr V : World} {N : Nat} {F : Nat → Nat} (h : SzS w wr N F) (b : Below wr.heap.size wr V) : SzS w V N F :=
  ⟨h.below.trans (b.mono h.below.size), (b.block _ (lt_of_block h.row)).trans h.row⟩
theorem SzS.set {w wr : World} {N : Nat} {F : Nat → Nat} (h : SzS w wr N F) (i v : Nat) : SzS w (wr.setCell ⟨w.heap.size, i, none⟩ (.int .u64 (v : Int))) N (fun j => if j = i then v else F j) :=
  ⟨h.below.setCell (by simp) _, by
    rw [heap_setCell_same _ _ _ _ _ _ h.row, arrF_set]
    congr 2
    refine arrF_ext fun k _ => ?_
    unfold uF
    by_cases e : k = i
    · simp [e]
    · simp [e]⟩
theorem SzS.ext {w wr : World} {N : Nat} {F G : Nat → Nat} (h : SzS w wr N F) (e : ∀ j, F j = G j) : SzS w wr N G := by rw [show G = F from funext fun j => (e j).symm]; exact h
theorem SzS.cell {w wr : World} {N : Nat} {F : Nat → Nat} (h : SzS w wr N F) {j : Nat} (hj : j < N) : wr.cell? ⟨w.heap.size, j, none⟩ = some (.int .u64 ((F j : Nat) : Int)) := by rw [cell_of_row wr _ _ _ _ _ h.row, arrF_get _ hj]; rfl
end Go.Proofs.Ytmnacanjbhlfeaa

