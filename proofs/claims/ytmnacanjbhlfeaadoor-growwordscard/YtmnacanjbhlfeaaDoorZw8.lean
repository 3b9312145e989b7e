/-
  What the last text of this claim leans on, part 8: Gy3, Gy4.
-/
import Derived.Test.YtmnacanjbhlfeaaDoorZw2
import Derived.Test.YtmnacanjbhlfeaaDoorZw5
import Derived.Lib.OthersKept
import Derived.Laws.RangeAny
import Derived.Deep.MidRow
namespace Go.Proofs.YtmnacanjbhlfeaaDoor
open Go.RowKit
set_option linter.unusedVariables false
set_option linter.unusedSimpArgs false
theorem numberOf_any (x : Nat) (w : World) (h : 97 ≤ x) (hx : x ≤ 2147483647) : Calls Tryd.prog 26 #[.int .i32 (x : Int)] w fun e w' => e = .returned (.int .i64 ((x - 97 : Nat) : Int)) ∧ w' = w := by
  obtain ⟨y, rfl⟩ : ∃ y, x = y + 97 := ⟨x - 97, by omega⟩
  have e1 : ((y + 97 : Nat) : Int) - 97 = (y : Int) := by omega
  go_enter Tryd.func26, Tryd.ntmps26
  go_wp2
  go_ret
  exact ⟨by rw [show y + 97 - 97 = y by omega]; rfl, rfl⟩
/-- What is wrong with a word of the first n letters. -/
def cwF (l : List UInt8) (M n : Nat) : Nat := if M < l.length then 4 else if l.all (ltB n) = true then 0 else 2
theorem errOf_no {f : Nat} (h : f ≠ 0) : errOf f = .iface 44 (.int .i64 (f : Int)) := by unfold errOf; rw [if_neg h]
theorem errOf_yes : errOf 0 = .nilIface := rfl
theorem belowI {w wr : World} {s : ByteArray} {p : Nat} (h : Below w.heap.size w wr) : Below w.heap.size w (wr.iterAt w.heap.size s p) := Lib.below_iterAt h (Nat.le_refl _) s p
/-- A rune that is none of the letters. -/
theorem rune_no {l : List UInt8} {n i : Nat} (hi : i < l.length) (hn : n ≤ 8) (h : ltB n (l.getD i 0) = false) : (Utf8.decode ⟨l.toArray⟩ i).1 < 97 ∨ n + 97 ≤ (Utf8.decode ⟨l.toArray⟩ i).1 := by
  obtain ⟨gi, GI⟩ := byte_at l hi
  by_cases q : ((⟨l.toArray⟩ : ByteArray)[i]'gi).toNat < 128
  · rw [decode_ascii _ i gi q]
    show ((⟨l.toArray⟩ : ByteArray)[i]'gi).toNat < 97 ∨ _ ≤ ((⟨l.toArray⟩ : ByteArray)[i]'gi).toNat
    rw [GI]
    have h' : ¬ (97 ≤ (l.getD i 0).toNat ∧ (l.getD i 0).toNat < n + 97) := fun q => by
      rw [show ltB n (l.getD i 0) = true by unfold ltB; rw [decide_eq_true q.1, decide_eq_true q.2]; rfl] at h
      cases h
    omega
  · have := (decode_high _ i gi (by omega)).1
    omega
set_option maxRecDepth 100000 in
set_option maxHeartbeats 6400000 in
theorem checkWord_any (l : List UInt8) (M n : Nat) (w : World) (hl : l.length ≤ maxLen) (hM : M ≤ 40000) (hn : n ≤ 8) : Calls Tryd.prog 17 #[.string ⟨l.toArray⟩, .int .i64 (M : Int), .int .i64 (n : Int)] w fun e w' => e = .returned (errOf (cwF l M n)) ∧ Below w.heap.size w w' := by
  have HL := hide' hl
  clear hl
  go_enter Tryd.func17, Tryd.ntmps17
  have hx := HL.out
  unfold maxLen at hx
  have NM := hide' (fun (x : Nat) (V : World) (h : 97 ≤ x) (hx : x ≤ 2147483647) => numberOf_any x V h hx)
  by_cases big : (M : Int) < (l.length : Int)
  · have F := hide' (show cwF l M n = 4 by unfold cwF; rw [if_pos (by omega)])
    go_wp2
    go_ret
    exact ⟨by rw [F.out]; rfl, Below.refl _ _⟩
  · have l4 : l.length ≤ 40000 := by omega
    have FA := hide' (fun (h : l.all (ltB n) = true) => show cwF l M n = 0 by unfold cwF; rw [if_neg (by omega), if_pos h])
    have FN := hide' (fun (h : l.all (ltB n) = false) => show cwF l M n = 2 by unfold cwF; rw [if_neg (by omega), if_neg (by rw [h]; simp)])
    clear hx
    go_wp2
    go_loopw [8] (fun _ wr => ∃ i : Nat, wr.heap[w.heap.size]? = some (.stringIter ⟨l.toArray⟩ i) ∧ i ≤ l.length ∧ Hid (∀ j, j < i → ltB n (l.getD j 0) = true) ∧ Hid (Below w.heap.size w wr)) (fun _ wr => l.length - wr.iterPos w.heap.size)
    case atStart => exact ⟨0, World.iter_heap w _ 0, by omega, hide' (fun j h => by omega), hide' ((Below.refl _ w).alloc (Nat.le_refl _) _)⟩
    case round =>
      obtain ⟨i, hit, hi, AL, BW⟩ := hrel
      rw [iterPos_of hit]
      by_cases d : i < l.length
      · obtain ⟨gi, GI⟩ := byte_at l d
        by_cases lt : ltB n (l.getD i 0) = true
        · have YY := hide' (show ∀ j, j < i + 1 → ltB n (l.getD j 0) = true from fun j hj => by
            by_cases e : j = i
            · rw [e]; exact lt
            · exact AL.out j (by omega))
          have rg : 97 ≤ (l.getD i 0).toNat ∧ (l.getD i 0).toNat < n + 97 := by simpa [ltB] using lt
          have hnx : ∀ ty, (Instr.next (.pointer (some ⟨w.heap.size, 0, none⟩)) true ty).run Tryd.prog wr = _ := fun ty => Lib.run_next_ascii_at wr w.heap.size _ i ty hit gi (by rw [GI]; omega)
          rw [GI] at hnx
          obtain ⟨x, hx⟩ : ∃ x, (l.getD i 0).toNat = x := ⟨_, rfl⟩
          rw [hx] at hnx rg
          have B2 := hide' (belowI (s := ⟨l.toArray⟩) (p := i + 1) BW.out)
          have hit2 := hide' (Lib.iterAt_heap wr w.heap.size _ i (i + 1) hit)
          obtain ⟨W, hW⟩ : ∃ W, wr.iterAt w.heap.size ⟨l.toArray⟩ (i + 1) = W := ⟨_, rfl⟩
          rw [hW] at hnx B2 hit2
          clear hx hW lt GI gi hit
          obtain ⟨r1, r2⟩ := rg
          have c1 : ¬ (x : Int) < 97 := by omega
          have c2 : ¬ (n : Int) ≤ ((x - 97 : Nat) : Int) := by omega
          have NC := hide' (NM.out x W r1 (by omega))
          go_wp2_with fail
          refine NC.out.mono ?_
          rintro o w3 ⟨rfl, rfl⟩
          go_wp2
          exact ⟨⟨i + 1, hit2.out, by omega, YY, B2⟩, by rw [iterPos_of hit2.out]; omega⟩
        · have NN := hide' (FN.out (ltB_no d (by simpa using lt)))
          have rn := rune_no d hn (by simpa using lt)
          have hnx : ∀ ty, (Instr.next (.pointer (some ⟨w.heap.size, 0, none⟩)) true ty).run Tryd.prog wr = _ := fun ty => Lib.run_next_any_at wr w.heap.size _ i ty hit gi
          have re := decode_le ⟨l.toArray⟩ i
          obtain ⟨R, hR⟩ : ∃ R, (Utf8.decode ⟨l.toArray⟩ i).1 = R := ⟨_, rfl⟩
          obtain ⟨K, hK⟩ : ∃ K, (Utf8.decode ⟨l.toArray⟩ i).2 = K := ⟨_, rfl⟩
          rw [hR, hK] at hnx
          rw [hR] at rn re
          have B2 := hide' (belowI (s := ⟨l.toArray⟩) (p := i + K) BW.out)
          obtain ⟨W, hW⟩ : ∃ W, wr.iterAt w.heap.size ⟨l.toArray⟩ (i + K) = W := ⟨_, rfl⟩
          rw [hW] at hnx B2
          clear hR hK hW lt GI gi hit
          by_cases c1 : (R : Int) < 97
          · clear rn
            go_wp2
            go_ret
            exact ⟨by rw [NN.out]; rfl, B2.out⟩
          · have c2 : (n : Int) ≤ ((R - 97 : Nat) : Int) := by omega
            have NC := hide' (NM.out R W (by omega) re)
            clear rn
            go_wp2_with fail
            refine NC.out.mono ?_
            rintro o w3 ⟨rfl, rfl⟩
            go_wp2
            go_ret
            exact ⟨by rw [NN.out]; rfl, B2.out⟩
      · obtain rfl : i = l.length := by omega
        have hnx : ∀ ty, (Instr.next (.pointer (some ⟨w.heap.size, 0, none⟩)) true ty).run Tryd.prog wr = _ := fun ty => Lib.run_next_end_at wr w.heap.size _ _ ty hit (by show ¬ _ < l.toArray.size; simp)
        have YY := hide' (FA.out (ltB_all AL.out))
        clear d hit
        go_wp2
        go_ret
        exact ⟨by rw [YY.out]; rfl, BW.out⟩
theorem imG_cons (n : Nat) (x : List UInt8) (r : List (List UInt8)) : imG n (x :: r) = if cwF x 12 n = 0 then imG n r else cwF x 12 n := by
  rw [imG]
  unfold cwF
  by_cases h1 : 12 < x.length
  · rw [if_pos h1, if_pos h1, if_neg (by decide)]
  · rw [if_neg h1, if_neg h1]
    by_cases h2 : x.all (ltB n) = true
    · rw [if_pos h2, if_pos h2, if_pos rfl]
    · rw [if_neg h2, if_neg h2, if_neg (by decide)]
set_option maxRecDepth 100000 in
set_option maxHeartbeats 6400000 in
theorem growCheck_any (xs : List (List UInt8)) (a : Option Addr) (n c : Nat) (w : World) (hA : ArgX w xs a n c) : Calls Tryd.prog 6 #[.slice a n c] w fun e w' => e = .returned (errOf (imF xs)) ∧ Below w.heap.size w w' := by
  have HL := hide' hA.len
  have HM := hide' hA.max
  have HA := hide' hA
  have CW := hide' (fun (k : Nat) (h : k < xs.length) (hn : n ≤ 8) (V : World) => checkWord_any (xs.getD k []) 12 n V (hA.one k h) (by omega) hn)
  clear hA
  have hmm := HM.out
  unfold maxLen at hmm
  go_enter Tryd.func6, Tryd.ntmps6
  by_cases c1 : (n : Int) < 1
  · have F := hide' (show imF xs = 1 by unfold imF; rw [if_pos]; have := HL.out; omega)
    go_wp2
    go_ret
    exact ⟨by rw [F.out]; rfl, Below.refl _ _⟩
  · by_cases c2 : (8 : Int) < (n : Int)
    · have F := hide' (show imF xs = 1 by unfold imF; rw [if_pos]; have := HL.out; omega)
      go_wp2
      go_ret
      exact ⟨by rw [F.out]; rfl, Below.refl _ _⟩
    · have FE := hide' (show imF xs = imG n xs by unfold imF; rw [if_neg, HL.out]; have := HL.out; omega)
      have n8 : n ≤ 8 := by omega
      go_wp2
      go_loopw [4, 5, 17] (fun _ _ kv wr => ∃ (k : Nat), kv = .int .i64 (k : Int) ∧ k ≤ n ∧ Hid (imF xs = imG n (xs.drop k)) ∧ Hid (Below w.heap.size w wr)) (fun _ _ kv _ => n - (intOf kv).toNat)
      case atStart => exact ⟨0, rfl, by omega, hide' (by rw [List.drop_zero]; exact FE.out), hide' (Below.refl _ _)⟩
      case round =>
        obtain ⟨k, rfl, hk, IM, BW⟩ := hrel
        by_cases d : (k : Int) < (n : Int)
        · have kl : k < xs.length := by have := HL.out; omega
          have k0 : (0 : Int) ≤ (k : Int) := by omega
          obtain ⟨g, off, ea, -, hc⟩ := (HA.out.below BW.out).cells k kl
          subst ea
          have CC := hide' (CW.out k kl n8)
          have IN := hide' (show imF xs = if cwF (xs.getD k []) 12 n = 0 then imG n (xs.drop (k + 1)) else cwF (xs.getD k []) 12 n by rw [IM.out, drop_getX kl, imG_cons])
          clear IM
          obtain ⟨x, hx⟩ : ∃ x, xs.getD k [] = x := ⟨_, rfl⟩
          rw [hx] at hc CC IN
          clear hx
          by_cases q : cwF x 12 n = 0
          · rw [q, errOf_yes] at CC
            rw [if_pos q] at IN
            clear q
            go_wp2_with fail
            refine (CC.out _).mono ?_
            rintro o w3 ⟨rfl, b3⟩
            have B3 := hide' (BW.out.trans (b3.mono BW.out.size))
            clear b3
            go_wp2
            exact ⟨⟨k + 1, by go_num, by omega, IN, B3⟩, by simp [intOf]; omega⟩
          · rw [if_neg q] at IN
            obtain ⟨f, hf⟩ : ∃ f, cwF x 12 n = f := ⟨_, rfl⟩
            rw [hf] at CC IN q
            rw [errOf_no q] at CC
            have Q := hide' q
            clear q hf
            go_wp2_with fail
            refine (CC.out _).mono ?_
            rintro o w3 ⟨rfl, b3⟩
            have B3 := hide' (BW.out.trans (b3.mono BW.out.size))
            clear b3
            go_wp2
            go_ret
            exact ⟨by rw [IN.out, errOf_no Q.out]; rfl, B3.out⟩
        · obtain rfl : k = n := by omega
          have F := hide' (show imF xs = 0 by rw [IM.out, HL.out, List.drop_length]; rfl)
          go_wp2
          go_ret
          exact ⟨by rw [F.out]; rfl, BW.out⟩
theorem gwF_is (xs : List (List UInt8)) (l : List UInt8) (n : Int) : gwF xs l n = if imF xs = 0 then if cwF l 40000 xs.length = 0 then if n < 0 ∨ 60 < n then 1 else 0 else cwF l 40000 xs.length else imF xs := by
  unfold gwF cwF
  by_cases h0 : imF xs = 0
  · rw [if_pos h0, if_pos h0]
    by_cases h1 : 40000 < l.length
    · rw [if_pos h1, if_pos h1, if_neg (by decide)]
    · rw [if_neg h1, if_neg h1]
      by_cases h2 : l.all (ltB xs.length) = true
      · rw [if_pos h2, if_pos h2, if_pos rfl]
      · rw [if_neg h2, if_neg h2, if_neg (by decide)]
  · rw [if_neg h0, if_neg h0]
set_option maxRecDepth 100000 in
set_option maxHeartbeats 6400000 in
theorem checkRounds_any (xs : List (List UInt8)) (a : Option Addr) (k c : Nat) (l : List UInt8) (n : Int) (w : World) (hA : ArgX w xs a k c) (hl : l.length ≤ maxLen) : Calls Tryd.prog 19 #[.slice a k c, .string ⟨l.toArray⟩, .int .i64 n] w fun e w' => e = .returned (errOf (gwF xs l n)) ∧ Below w.heap.size w w' := by
  have CK := hide' (growCheck_any xs a k c w hA)
  have K8 := hide' (fun (h : imF xs = 0) => show k ≤ 8 by unfold imF at h; have := hA.len; split at h <;> omega)
  have CW := hide' (fun (h : k ≤ 8) (V : World) => checkWord_any l 40000 k V hl (by omega) h)
  have GF := hide' (gwF_is xs l n)
  rw [← hA.len] at GF
  clear hA hl
  go_enter Tryd.func19, Tryd.ntmps19
  by_cases q : imF xs = 0
  · have k8 := K8.out q
    have CC := hide' (CW.out k8)
    rw [q, errOf_yes] at CK
    rw [if_pos q] at GF
    clear q CW K8
    go_wp2_with fail
    refine CK.out.mono ?_
    rintro o w3 ⟨rfl, b3⟩
    have B3 := hide' b3
    clear b3
    by_cases q2 : cwF l 40000 k = 0
    · rw [q2, errOf_yes] at CC
      rw [if_pos q2] at GF
      clear q2
      go_wp2_with fail
      refine (CC.out _).mono ?_
      rintro o w4 ⟨rfl, b4⟩
      have B4 := hide' (B3.out.trans (b4.mono B3.out.size))
      clear b4
      by_cases n1 : n < 0
      · have F := hide' (show gwF xs l n = 1 by rw [GF.out, if_pos (Or.inl n1)])
        go_wp2
        go_ret
        exact ⟨by rw [F.out]; rfl, B4.out⟩
      · by_cases n2 : 60 < n
        · have F := hide' (show gwF xs l n = 1 by rw [GF.out, if_pos (Or.inr n2)])
          go_wp2
          go_ret
          exact ⟨by rw [F.out]; rfl, B4.out⟩
        · have F := hide' (show gwF xs l n = 0 by rw [GF.out, if_neg (by omega)])
          go_wp2
          go_ret
          exact ⟨by rw [F.out]; rfl, B4.out⟩
    · rw [if_neg q2] at GF
      obtain ⟨f, hf⟩ : ∃ f, cwF l 40000 k = f := ⟨_, rfl⟩
      rw [hf] at CC GF q2
      rw [errOf_no q2] at CC
      have Q := hide' q2
      clear q2 hf
      go_wp2_with fail
      refine (CC.out _).mono ?_
      rintro o w4 ⟨rfl, b4⟩
      have B4 := hide' (B3.out.trans (b4.mono B3.out.size))
      clear b4
      go_wp2
      go_ret
      exact ⟨by rw [GF.out, errOf_no Q.out]; rfl, B4.out⟩
  · rw [if_neg q] at GF
    obtain ⟨f, hf⟩ : ∃ f, imF xs = f := ⟨_, rfl⟩
    rw [hf] at CK GF q
    rw [errOf_no q] at CK
    have Q := hide' q
    clear q hf CW K8
    go_wp2_with fail
    refine CK.out.mono ?_
    rintro o w3 ⟨rfl, b3⟩
    have B3 := hide' b3
    clear b3
    go_wp2
    go_ret
    exact ⟨by rw [GF.out, errOf_no Q.out]; rfl, B3.out⟩
end Go.Proofs.YtmnacanjbhlfeaaDoor

namespace Go.Proofs.YtmnacanjbhlfeaaDoor
open Go.RowKit
set_option linter.unusedVariables false
set_option linter.unusedSimpArgs false
theorem zero8 : (#[.int .u64 0, .int .u64 0, .int .u64 0, .int .u64 0, .int .u64 0, .int .u64 0, .int .u64 0, .int .u64 0] : Array Value) = arrF 8 (uF fun _ => 0) := rfl
theorem iterAt_otherY (w : World) (k : Nat) (s : ByteArray) (p j : Nat) (h : j ≠ k) : (w.iterAt k s p).heap[j]? = w.heap[j]? := by
  show (w.heap.setIfInBounds k _)[j]? = _
  rw [Array.getElem?_setIfInBounds_ne (by omega)]
/-- What lies there while letters are counted. -/
structure CtS (w wr : World) (l : List UInt8) (i : Nat) : Prop where
  below : Below w.heap.size w wr
  res : wr.heap[w.heap.size]? = some (.cells (arrF 8 (uF fun _ => 0)) 50 (0, 0))
  out : wr.heap[w.heap.size + 1]? = some (.cells (arrF 8 (uF (ctL (l.take i)))) 50 (0, 0))
  it : wr.heap[w.heap.size + 1 + 1]? = some (.stringIter ⟨l.toArray⟩ i)
theorem CtS.turn {w wr : World} {l : List UInt8} {i : Nat} (h : CtS w wr l i) (p : Nat) : Below w.heap.size w (wr.iterAt (w.heap.size + 1 + 1) ⟨l.toArray⟩ p) ∧
    (wr.iterAt (w.heap.size + 1 + 1) ⟨l.toArray⟩ p).heap[w.heap.size]? = some (.cells (arrF 8 (uF fun _ => 0)) 50 (0, 0)) ∧
    (wr.iterAt (w.heap.size + 1 + 1) ⟨l.toArray⟩ p).heap[w.heap.size + 1]? = some (.cells (arrF 8 (uF (ctL (l.take i)))) 50 (0, 0)) ∧
    (wr.iterAt (w.heap.size + 1 + 1) ⟨l.toArray⟩ p).heap[w.heap.size + 1 + 1]? = some (.stringIter ⟨l.toArray⟩ p) :=
  ⟨Lib.below_iterAt h.below (by omega) _ _, (iterAt_otherY _ _ _ _ _ (by omega)).trans h.res, (iterAt_otherY _ _ _ _ _ (by omega)).trans h.out, Lib.iterAt_heap _ _ _ _ _ h.it⟩
set_option maxRecDepth 100000 in
set_option maxHeartbeats 6400000 in
theorem count_any (l : List UInt8) (n : Nat) (w : World) (hl : l.length ≤ 40000) (hn : n ≤ 8) (ha : l.all (ltB n) = true) : Calls Tryd.prog 28 #[.string ⟨l.toArray⟩] w fun e w' => e = .returned (.agg (arrF 8 (uF (ctL l)))) ∧ Below w.heap.size w w' := by
  obtain ⟨w1, hw1⟩ : ∃ w1, ((w.alloc (.cells #[.int .u64 0, .int .u64 0, .int .u64 0, .int .u64 0, .int .u64 0, .int .u64 0, .int .u64 0, .int .u64 0] 50)).alloc (.cells #[.int .u64 0, .int .u64 0, .int .u64 0, .int .u64 0, .int .u64 0, .int .u64 0, .int .u64 0, .int .u64 0] 50)).iter ⟨l.toArray⟩ 0 = w1 := ⟨_, rfl⟩
  have X0 := hide' (show CtS w w1 l 0 from ⟨by rw [← hw1]; exact (((Below.refl _ _).alloc (Nat.le_refl _) _).alloc (by simp; try omega) _).alloc (by simp; try omega) _,
    by rw [← hw1, ← zero8]; unfold World.iter; rw [Below.heap_alloc _ _ _ (by simp; try omega), Below.heap_alloc _ _ _ (by simp; try omega)]; exact heap_atX _ _ _ (by simp),
    by rw [← hw1, arrF_ext (n := 8) (f := uF (ctL (l.take 0))) (g := uF fun _ => 0) (fun k _ => by simp [uF, ctL]), ← zero8]; unfold World.iter; rw [Below.heap_alloc _ _ _ (by simp)]; exact heap_atX _ _ _ (by simp),
    by rw [← hw1]; unfold World.iter; exact heap_atX _ _ _ (by simp)⟩)
  have NM := hide' (fun (x : Nat) (V : World) (h : 97 ≤ x) (hx : x ≤ 2147483647) => numberOf_any x V h hx)
  have AL := hide' (fun j (hj : j < l.length) => ltB_at ha hj)
  clear ha
  go_enter Tryd.func28, Tryd.ntmps28
  go_wp2
  try rw [hw1]
  clear hw1
  go_loopw [5] (fun _ wr => ∃ i : Nat, i ≤ l.length ∧ Hid (CtS w wr l i)) (fun _ wr => l.length - wr.iterPos (w.heap.size + 1 + 1))
  case atStart => exact ⟨0, by omega, X0⟩
  case round =>
    obtain ⟨i, hi, HS⟩ := hrel
    have hit := HS.out.it
    rw [iterPos_of hit]
    by_cases d : i < l.length
    · obtain ⟨gi, GI⟩ := byte_at l d
      have rg := AL.out i d
      have hnx : ∀ ty, (Instr.next (.pointer (some ⟨w.heap.size + 1 + 1, 0, none⟩)) true ty).run Tryd.prog wr = _ := fun ty => Lib.run_next_ascii_at wr (w.heap.size + 1 + 1) _ i ty hit gi (by rw [GI]; omega)
      rw [GI] at hnx
      have CN := hide' (fun x => ctL_next d x)
      have CL := hide' (fun x => Nat.le_trans (ctL_le (l.take i) x) (by rw [List.length_take]; omega : (l.take i).length ≤ 40000))
      obtain ⟨x, hx⟩ : ∃ x, (l.getD i 0).toNat = x := ⟨_, rfl⟩
      rw [hx] at hnx rg CN
      have TT := hide' (HS.out.turn (i + 1))
      obtain ⟨W, hW⟩ : ∃ W, wr.iterAt (w.heap.size + 1 + 1) ⟨l.toArray⟩ (i + 1) = W := ⟨_, rfl⟩
      rw [hW] at hnx TT
      clear hx hW GI gi hit HS
      obtain ⟨r1, r2⟩ := rg
      have NC := hide' (NM.out x W r1 (by omega))
      obtain ⟨y, hy⟩ : ∃ y, x - 97 = y := ⟨_, rfl⟩
      rw [hy] at NC CN
      have y0 : (0 : Int) ≤ (y : Int) := by omega
      have y8 : (y : Int) < 8 := by omega
      have c1 : W.cell? ⟨w.heap.size + 1, y, none⟩ = some (.int .u64 ((ctL (l.take i) y : Nat) : Int)) := by rw [cell_of_row W _ _ _ _ _ TT.out.2.2.1, arrF_get _ (by omega)]; rfl
      have f1 := frozen_of_row W _ y _ _ TT.out.2.2.1
      have cl := CL.out y
      have NX := hide' (show ∀ t : Int, t = ((ctL (l.take i) y : Nat) : Int) + 1 → CtS w (W.setCell ⟨w.heap.size + 1, y, none⟩ (.int .u64 t)) l (i + 1) from fun t ht => ⟨TT.out.1.setCell (by simp) _, (Below.heap_setCell _ _ _ _ (by simp)).trans TT.out.2.1,
        by
          rw [heap_setCell_same _ _ _ _ _ _ TT.out.2.2.1, arrF_set]
          congr 2
          refine arrF_ext fun k hk => ?_
          unfold uF
          rw [CN.out k]
          by_cases e : k = y
          · rw [if_pos e, if_pos e, e, ht]; rfl
          · rw [if_neg e, if_neg e],
        (Below.heap_setCell _ _ _ _ (by simp)).trans TT.out.2.2.2⟩)
      obtain ⟨t, ht⟩ : ∃ t, ctL (l.take i) y = t := ⟨_, rfl⟩
      rw [ht] at c1 cl NX
      clear ht CN CL TT hy
      go_wp2_with fail
      refine NC.out.mono ?_
      rintro o w3 ⟨rfl, rfl⟩
      go_wp2
      exact ⟨⟨i + 1, by omega, hide' (NX.out _ (by omega))⟩, by rw [iterPos_of (NX.out _ (by omega)).it]; omega⟩
    · obtain rfl : i = l.length := by omega
      have hnx : ∀ ty, (Instr.next (.pointer (some ⟨w.heap.size + 1 + 1, 0, none⟩)) true ty).run Tryd.prog wr = _ := fun ty => Lib.run_next_end_at wr (w.heap.size + 1 + 1) _ _ ty hit (by show ¬ _ < l.toArray.size; simp)
      have gp := HS.out.out
      rw [List.take_length] at gp
      have gb := HS.out.res
      obtain ⟨Zb, hZ⟩ : ∃ Z, arrF 8 (uF (ctL l)) = Z := ⟨_, rfl⟩
      have zs : Zb.size = 8 := by rw [← hZ, arrF_size]
      have za : Zb.all (·.oneCell') = true := by rw [← hZ]; exact arrF_all _ _ (fun k _ => rfl)
      rw [hZ] at gp
      have HZ := hide' hZ
      clear hZ
      have BF := hide' HS.out.below
      clear d hit HS
      go_wp2_with (first
        | (refine wpList_load_row rfl 50 _ rfl (w.heap.size + 1) rfl 50 Zb (0, 0) _ gp Tryd.underlying50 rfl (by rw [zs]; kernel_rfl) ?_)
        | (refine wpList_store_row rfl 50 _ _ rfl w.heap.size Zb rfl rfl 50 _ gb (by rw [zs]; kernel_rfl) (by rw [zs]; rfl) za ?_))
      refine bodyPost_ret (v := .agg Zb) (results_cell_row Tryd.results28 _ _ w.heap.size 50 _ (0, 0) _ rfl (setRow_heap _ _ _ _ _ _ gb) Tryd.underlying50 rfl (by rw [zs]; kernel_rfl)) rfl ?_
      exact ⟨by rw [HZ.out], below_setRow BF.out (by omega) _⟩
end Go.Proofs.YtmnacanjbhlfeaaDoor

