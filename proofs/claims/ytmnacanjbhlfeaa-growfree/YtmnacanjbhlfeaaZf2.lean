/-
  What the last text of this claim leans on, part 2: Gw3, Gy3, Gw4, Gq1, Rk2, Rk3.
-/
import Derived.Test.YtmnacanjbhlfeaaZf1
import Derived.Lib.OthersKept
import Derived.Laws.RangeAny
import Derived.Laws.IdiomStrings
import Derived.Laws.BytesArg
import Derived.Lib.AppendStr
import Derived.Laws.Bits64b
import Derived.Laws.BitsAllLaws
namespace Go.Proofs.Ytmnacanjbhlfeaa
open Go.RowKit
set_option linter.unusedVariables false
set_option linter.unusedSimpArgs false
/-- A list of texts as it lies. -/
structure ArgX (w : World) (xs : List (List UInt8)) (a : Option Addr) (n c : Nat) : Prop where
  len : n = xs.length
  max : n ≤ maxLen
  one : ∀ k, k < xs.length → (xs.getD k []).length ≤ maxLen
  cells : ∀ k, k < xs.length → ∃ g off, a = some ⟨g, off, none⟩ ∧ g < w.heap.size ∧ w.cell? ⟨g, off + k, none⟩ = some (.string ⟨(xs.getD k []).toArray⟩)
theorem ArgX.below {w V : World} {xs : List (List UInt8)} {a : Option Addr} {n c : Nat} (h : ArgX w xs a n c) (b : Below w.heap.size w V) : ArgX V xs a n c :=
  ⟨h.len, h.max, h.one, fun k hk => by
    obtain ⟨g, off, e, hg, hc⟩ := h.cells k hk
    exact ⟨g, off, e, Nat.lt_of_lt_of_le hg b.size, (b.cell hg).trans hc⟩⟩
/-- What is wrong with the words from k on. -/
def imG (n : Nat) : List (List UInt8) → Nat
  | [] => 0
  | x :: r => if 12 < x.length then 4 else if x.all (ltB n) = true then imG n r else 2
/-- What is wrong with a substitution. -/
def imF (xs : List (List UInt8)) : Nat := if xs.length < 1 ∨ 8 < xs.length then 1 else imG xs.length xs
/-- What is wrong with it, a word, and rounds. -/
def gwF (xs : List (List UInt8)) (l : List UInt8) (n : Int) : Nat := if imF xs = 0 then if 40000 < l.length then 4 else if l.all (ltB xs.length) = true then if n < 0 ∨ 60 < n then 1 else 0 else 2 else imF xs
theorem drop_getX {xs : List (List UInt8)} {k : Nat} (h : k < xs.length) : xs.drop k = xs.getD k [] :: xs.drop (k + 1) := by
  rw [List.drop_eq_getElem_cons h]
  simp [List.getD, h]
end Go.Proofs.Ytmnacanjbhlfeaa

namespace Go.Proofs.Ytmnacanjbhlfeaa
open Go.RowKit
set_option linter.unusedVariables false
set_option linter.unusedSimpArgs false
theorem numberOf_any (x : Nat) (w : World) (h : 97 ≤ x) (hx : x ≤ 2147483647) : Calls Try.prog 28 #[.int .i32 (x : Int)] w fun e w' => e = .returned (.int .i64 ((x - 97 : Nat) : Int)) ∧ w' = w := by
  obtain ⟨y, rfl⟩ : ∃ y, x = y + 97 := ⟨x - 97, by omega⟩
  have e1 : ((y + 97 : Nat) : Int) - 97 = (y : Int) := by omega
  go_enter Try.func28, Try.ntmps28
  go_wp2
  go_ret
  exact ⟨by rw [show y + 97 - 97 = y by omega]; rfl, rfl⟩
/-- What is wrong with a word of the first n letters. -/
def cwF (l : List UInt8) (M n : Nat) : Nat := if M < l.length then 4 else if l.all (ltB n) = true then 0 else 2
theorem errOf_no {f : Nat} (h : f ≠ 0) : errOf f = .iface 48 (.int .i64 (f : Int)) := by unfold errOf; rw [if_neg h]
theorem errOf_yes : errOf 0 = .nilIface := rfl
theorem belowI {w wr : World} {s : ByteArray} {p : Nat} (h : Below w.heap.size w wr) : Below w.heap.size w (wr.iterAt w.heap.size s p) := Lib.below_iterAt h (Nat.le_refl _) s p
/-- A rune that is none of the letters. -/
theorem rune_no {l : List UInt8} {n i : Nat} (hi : i < l.length) (hn : n ≤ 8) (h : ltB n (l.getD i 0) = false) : (Utf8.decode ⟨l.toArray⟩ i).1 < 97 ∨ n + 97 ≤ (Utf8.decode ⟨l.toArray⟩ i).1 := by
  obtain ⟨gi, GI⟩ := byte_at l hi
  by_cases q : ((⟨l.toArray⟩ : ByteArray)[i]'gi).toNat < 128
  · rw [decode_ascii _ i gi q]
    show ((⟨l.toArray⟩ : ByteArray)[i]'gi).toNat < 97 ∨ _ ≤ ((⟨l.toArray⟩ : ByteArray)[i]'gi).toNat
    rw [GI]
    have h' : ¬ (97 ≤ (l.getD i 0).toNat ∧ (l.getD i 0).toNat < n + 97) := fun q => by
      rw [show ltB n (l.getD i 0) = true by unfold ltB; rw [decide_eq_true q.1, decide_eq_true q.2]; rfl] at h
      cases h
    omega
  · have := (decode_high _ i gi (by omega)).1
    omega
set_option maxRecDepth 100000 in
set_option maxHeartbeats 6400000 in
theorem checkWord_any (l : List UInt8) (M n : Nat) (w : World) (hl : l.length ≤ maxLen) (hM : M ≤ 40000) (hn : n ≤ 8) : Calls Try.prog 22 #[.string ⟨l.toArray⟩, .int .i64 (M : Int), .int .i64 (n : Int)] w fun e w' => e = .returned (errOf (cwF l M n)) ∧ Below w.heap.size w w' := by
  have HL := hide' hl
  clear hl
  go_enter Try.func22, Try.ntmps22
  have hx := HL.out
  unfold maxLen at hx
  have NM := hide' (fun (x : Nat) (V : World) (h : 97 ≤ x) (hx : x ≤ 2147483647) => numberOf_any x V h hx)
  by_cases big : (M : Int) < (l.length : Int)
  · have F := hide' (show cwF l M n = 4 by unfold cwF; rw [if_pos (by omega)])
    go_wp2
    go_ret
    exact ⟨by rw [F.out]; rfl, Below.refl _ _⟩
  · have l4 : l.length ≤ 40000 := by omega
    have FA := hide' (fun (h : l.all (ltB n) = true) => show cwF l M n = 0 by unfold cwF; rw [if_neg (by omega), if_pos h])
    have FN := hide' (fun (h : l.all (ltB n) = false) => show cwF l M n = 2 by unfold cwF; rw [if_neg (by omega), if_neg (by rw [h]; simp)])
    clear hx
    go_wp2
    go_loopw [8] (fun _ wr => ∃ i : Nat, wr.heap[w.heap.size]? = some (.stringIter ⟨l.toArray⟩ i) ∧ i ≤ l.length ∧ Hid (∀ j, j < i → ltB n (l.getD j 0) = true) ∧ Hid (Below w.heap.size w wr)) (fun _ wr => l.length - wr.iterPos w.heap.size)
    case atStart => exact ⟨0, World.iter_heap w _ 0, by omega, hide' (fun j h => by omega), hide' ((Below.refl _ w).alloc (Nat.le_refl _) _)⟩
    case round =>
      obtain ⟨i, hit, hi, AL, BW⟩ := hrel
      rw [iterPos_of hit]
      by_cases d : i < l.length
      · obtain ⟨gi, GI⟩ := byte_at l d
        by_cases lt : ltB n (l.getD i 0) = true
        · have YY := hide' (show ∀ j, j < i + 1 → ltB n (l.getD j 0) = true from fun j hj => by
            by_cases e : j = i
            · rw [e]; exact lt
            · exact AL.out j (by omega))
          have rg : 97 ≤ (l.getD i 0).toNat ∧ (l.getD i 0).toNat < n + 97 := by simpa [ltB] using lt
          have hnx : ∀ ty, (Instr.next (.pointer (some ⟨w.heap.size, 0, none⟩)) true ty).run Try.prog wr = _ := fun ty => Lib.run_next_ascii_at wr w.heap.size _ i ty hit gi (by rw [GI]; omega)
          rw [GI] at hnx
          obtain ⟨x, hx⟩ : ∃ x, (l.getD i 0).toNat = x := ⟨_, rfl⟩
          rw [hx] at hnx rg
          have B2 := hide' (belowI (s := ⟨l.toArray⟩) (p := i + 1) BW.out)
          have hit2 := hide' (Lib.iterAt_heap wr w.heap.size _ i (i + 1) hit)
          obtain ⟨W, hW⟩ : ∃ W, wr.iterAt w.heap.size ⟨l.toArray⟩ (i + 1) = W := ⟨_, rfl⟩
          rw [hW] at hnx B2 hit2
          clear hx hW lt GI gi hit
          obtain ⟨r1, r2⟩ := rg
          have c1 : ¬ (x : Int) < 97 := by omega
          have c2 : ¬ (n : Int) ≤ ((x - 97 : Nat) : Int) := by omega
          have NC := hide' (NM.out x W r1 (by omega))
          go_wp2_with fail
          refine NC.out.mono ?_
          rintro o w3 ⟨rfl, rfl⟩
          go_wp2
          exact ⟨⟨i + 1, hit2.out, by omega, YY, B2⟩, by rw [iterPos_of hit2.out]; omega⟩
        · have NN := hide' (FN.out (ltB_no d (by simpa using lt)))
          have rn := rune_no d hn (by simpa using lt)
          have hnx : ∀ ty, (Instr.next (.pointer (some ⟨w.heap.size, 0, none⟩)) true ty).run Try.prog wr = _ := fun ty => Lib.run_next_any_at wr w.heap.size _ i ty hit gi
          have re := decode_le ⟨l.toArray⟩ i
          obtain ⟨R, hR⟩ : ∃ R, (Utf8.decode ⟨l.toArray⟩ i).1 = R := ⟨_, rfl⟩
          obtain ⟨K, hK⟩ : ∃ K, (Utf8.decode ⟨l.toArray⟩ i).2 = K := ⟨_, rfl⟩
          rw [hR, hK] at hnx
          rw [hR] at rn re
          have B2 := hide' (belowI (s := ⟨l.toArray⟩) (p := i + K) BW.out)
          obtain ⟨W, hW⟩ : ∃ W, wr.iterAt w.heap.size ⟨l.toArray⟩ (i + K) = W := ⟨_, rfl⟩
          rw [hW] at hnx B2
          clear hR hK hW lt GI gi hit
          by_cases c1 : (R : Int) < 97
          · clear rn
            go_wp2
            go_ret
            exact ⟨by rw [NN.out]; rfl, B2.out⟩
          · have c2 : (n : Int) ≤ ((R - 97 : Nat) : Int) := by omega
            have NC := hide' (NM.out R W (by omega) re)
            clear rn
            go_wp2_with fail
            refine NC.out.mono ?_
            rintro o w3 ⟨rfl, rfl⟩
            go_wp2
            go_ret
            exact ⟨by rw [NN.out]; rfl, B2.out⟩
      · obtain rfl : i = l.length := by omega
        have hnx : ∀ ty, (Instr.next (.pointer (some ⟨w.heap.size, 0, none⟩)) true ty).run Try.prog wr = _ := fun ty => Lib.run_next_end_at wr w.heap.size _ _ ty hit (by show ¬ _ < l.toArray.size; simp)
        have YY := hide' (FA.out (ltB_all AL.out))
        clear d hit
        go_wp2
        go_ret
        exact ⟨by rw [YY.out]; rfl, BW.out⟩
theorem imG_cons (n : Nat) (x : List UInt8) (r : List (List UInt8)) : imG n (x :: r) = if cwF x 12 n = 0 then imG n r else cwF x 12 n := by
  rw [imG]
  unfold cwF
  by_cases h1 : 12 < x.length
  · rw [if_pos h1, if_pos h1, if_neg (by decide)]
  · rw [if_neg h1, if_neg h1]
    by_cases h2 : x.all (ltB n) = true
    · rw [if_pos h2, if_pos h2, if_pos rfl]
    · rw [if_neg h2, if_neg h2, if_neg (by decide)]
set_option maxRecDepth 100000 in
set_option maxHeartbeats 6400000 in
theorem growCheck_any (xs : List (List UInt8)) (a : Option Addr) (n c : Nat) (w : World) (hA : ArgX w xs a n c) : Calls Try.prog 21 #[.slice a n c] w fun e w' => e = .returned (errOf (imF xs)) ∧ Below w.heap.size w w' := by
  have HL := hide' hA.len
  have HM := hide' hA.max
  have HA := hide' hA
  have CW := hide' (fun (k : Nat) (h : k < xs.length) (hn : n ≤ 8) (V : World) => checkWord_any (xs.getD k []) 12 n V (hA.one k h) (by omega) hn)
  clear hA
  have hmm := HM.out
  unfold maxLen at hmm
  go_enter Try.func21, Try.ntmps21
  by_cases c1 : (n : Int) < 1
  · have F := hide' (show imF xs = 1 by unfold imF; rw [if_pos]; have := HL.out; omega)
    go_wp2
    go_ret
    exact ⟨by rw [F.out]; rfl, Below.refl _ _⟩
  · by_cases c2 : (8 : Int) < (n : Int)
    · have F := hide' (show imF xs = 1 by unfold imF; rw [if_pos]; have := HL.out; omega)
      go_wp2
      go_ret
      exact ⟨by rw [F.out]; rfl, Below.refl _ _⟩
    · have FE := hide' (show imF xs = imG n xs by unfold imF; rw [if_neg, HL.out]; have := HL.out; omega)
      have n8 : n ≤ 8 := by omega
      go_wp2
      go_loopw [4, 5, 17] (fun _ _ kv wr => ∃ (k : Nat), kv = .int .i64 (k : Int) ∧ k ≤ n ∧ Hid (imF xs = imG n (xs.drop k)) ∧ Hid (Below w.heap.size w wr)) (fun _ _ kv _ => n - (intOf kv).toNat)
      case atStart => exact ⟨0, rfl, by omega, hide' (by rw [List.drop_zero]; exact FE.out), hide' (Below.refl _ _)⟩
      case round =>
        obtain ⟨k, rfl, hk, IM, BW⟩ := hrel
        by_cases d : (k : Int) < (n : Int)
        · have kl : k < xs.length := by have := HL.out; omega
          have k0 : (0 : Int) ≤ (k : Int) := by omega
          obtain ⟨g, off, ea, -, hc⟩ := (HA.out.below BW.out).cells k kl
          subst ea
          have CC := hide' (CW.out k kl n8)
          have IN := hide' (show imF xs = if cwF (xs.getD k []) 12 n = 0 then imG n (xs.drop (k + 1)) else cwF (xs.getD k []) 12 n by rw [IM.out, drop_getX kl, imG_cons])
          clear IM
          obtain ⟨x, hx⟩ : ∃ x, xs.getD k [] = x := ⟨_, rfl⟩
          rw [hx] at hc CC IN
          clear hx
          by_cases q : cwF x 12 n = 0
          · rw [q, errOf_yes] at CC
            rw [if_pos q] at IN
            clear q
            go_wp2_with fail
            refine (CC.out _).mono ?_
            rintro o w3 ⟨rfl, b3⟩
            have B3 := hide' (BW.out.trans (b3.mono BW.out.size))
            clear b3
            go_wp2
            exact ⟨⟨k + 1, by go_num, by omega, IN, B3⟩, by simp [intOf]; omega⟩
          · rw [if_neg q] at IN
            obtain ⟨f, hf⟩ : ∃ f, cwF x 12 n = f := ⟨_, rfl⟩
            rw [hf] at CC IN q
            rw [errOf_no q] at CC
            have Q := hide' q
            clear q hf
            go_wp2_with fail
            refine (CC.out _).mono ?_
            rintro o w3 ⟨rfl, b3⟩
            have B3 := hide' (BW.out.trans (b3.mono BW.out.size))
            clear b3
            go_wp2
            go_ret
            exact ⟨by rw [IN.out, errOf_no Q.out]; rfl, B3.out⟩
        · obtain rfl : k = n := by omega
          have F := hide' (show imF xs = 0 by rw [IM.out, HL.out, List.drop_length]; rfl)
          go_wp2
          go_ret
          exact ⟨by rw [F.out]; rfl, BW.out⟩
theorem gwF_is (xs : List (List UInt8)) (l : List UInt8) (n : Int) : gwF xs l n = if imF xs = 0 then if cwF l 40000 xs.length = 0 then if n < 0 ∨ 60 < n then 1 else 0 else cwF l 40000 xs.length else imF xs := by
  unfold gwF cwF
  by_cases h0 : imF xs = 0
  · rw [if_pos h0, if_pos h0]
    by_cases h1 : 40000 < l.length
    · rw [if_pos h1, if_pos h1, if_neg (by decide)]
    · rw [if_neg h1, if_neg h1]
      by_cases h2 : l.all (ltB xs.length) = true
      · rw [if_pos h2, if_pos h2, if_pos rfl]
      · rw [if_neg h2, if_neg h2, if_neg (by decide)]
  · rw [if_neg h0, if_neg h0]
set_option maxRecDepth 100000 in
set_option maxHeartbeats 6400000 in
theorem checkRounds_any (xs : List (List UInt8)) (a : Option Addr) (k c : Nat) (l : List UInt8) (n : Int) (w : World) (hA : ArgX w xs a k c) (hl : l.length ≤ maxLen) : Calls Try.prog 13 #[.slice a k c, .string ⟨l.toArray⟩, .int .i64 n] w fun e w' => e = .returned (errOf (gwF xs l n)) ∧ Below w.heap.size w w' := by
  have CK := hide' (growCheck_any xs a k c w hA)
  have K8 := hide' (fun (h : imF xs = 0) => show k ≤ 8 by unfold imF at h; have := hA.len; split at h <;> omega)
  have CW := hide' (fun (h : k ≤ 8) (V : World) => checkWord_any l 40000 k V hl (by omega) h)
  have GF := hide' (gwF_is xs l n)
  rw [← hA.len] at GF
  clear hA hl
  go_enter Try.func13, Try.ntmps13
  by_cases q : imF xs = 0
  · have k8 := K8.out q
    have CC := hide' (CW.out k8)
    rw [q, errOf_yes] at CK
    rw [if_pos q] at GF
    clear q CW K8
    go_wp2_with fail
    refine CK.out.mono ?_
    rintro o w3 ⟨rfl, b3⟩
    have B3 := hide' b3
    clear b3
    by_cases q2 : cwF l 40000 k = 0
    · rw [q2, errOf_yes] at CC
      rw [if_pos q2] at GF
      clear q2
      go_wp2_with fail
      refine (CC.out _).mono ?_
      rintro o w4 ⟨rfl, b4⟩
      have B4 := hide' (B3.out.trans (b4.mono B3.out.size))
      clear b4
      by_cases n1 : n < 0
      · have F := hide' (show gwF xs l n = 1 by rw [GF.out, if_pos (Or.inl n1)])
        go_wp2
        go_ret
        exact ⟨by rw [F.out]; rfl, B4.out⟩
      · by_cases n2 : 60 < n
        · have F := hide' (show gwF xs l n = 1 by rw [GF.out, if_pos (Or.inr n2)])
          go_wp2
          go_ret
          exact ⟨by rw [F.out]; rfl, B4.out⟩
        · have F := hide' (show gwF xs l n = 0 by rw [GF.out, if_neg (by omega)])
          go_wp2
          go_ret
          exact ⟨by rw [F.out]; rfl, B4.out⟩
    · rw [if_neg q2] at GF
      obtain ⟨f, hf⟩ : ∃ f, cwF l 40000 k = f := ⟨_, rfl⟩
      rw [hf] at CC GF q2
      rw [errOf_no q2] at CC
      have Q := hide' q2
      clear q2 hf
      go_wp2_with fail
      refine (CC.out _).mono ?_
      rintro o w4 ⟨rfl, b4⟩
      have B4 := hide' (B3.out.trans (b4.mono B3.out.size))
      clear b4
      go_wp2
      go_ret
      exact ⟨by rw [GF.out, errOf_no Q.out]; rfl, B4.out⟩
  · rw [if_neg q] at GF
    obtain ⟨f, hf⟩ : ∃ f, imF xs = f := ⟨_, rfl⟩
    rw [hf] at CK GF q
    rw [errOf_no q] at CK
    have Q := hide' q
    clear q hf CW K8
    go_wp2_with fail
    refine CK.out.mono ?_
    rintro o w3 ⟨rfl, b3⟩
    have B3 := hide' b3
    clear b3
    go_wp2
    go_ret
    exact ⟨by rw [GF.out, errOf_no Q.out]; rfl, B3.out⟩
end Go.Proofs.Ytmnacanjbhlfeaa

namespace Go.Proofs.Ytmnacanjbhlfeaa
open Go.RowKit
set_option linter.unusedVariables false
set_option linter.unusedSimpArgs false
/-- Each letter becomes its word. -/
def imgL (xs : List (List UInt8)) (l : List UInt8) : List UInt8 := l.flatMap fun c => xs.getD (c.toNat - 97) []
/-- The word behind n rounds; none: one on the way is too long. -/
def gwN (xs : List (List UInt8)) : Nat → List UInt8 → Option (List UInt8)
  | 0, l => some l
  | n + 1, l => if 40000 < (imgL xs l).length then none else gwN xs n (imgL xs l)
theorem gwN_zero (xs : List (List UInt8)) (l : List UInt8) : gwN xs 0 l = some l := rfl
theorem gwN_succ (xs : List (List UInt8)) (n : Nat) (l : List UInt8) : gwN xs (n + 1) l = if 40000 < (imgL xs l).length then none else gwN xs n (imgL xs l) := rfl
theorem imgL_next (xs : List (List UInt8)) {l : List UInt8} {i : Nat} (hi : i < l.length) : imgL xs (l.take (i + 1)) = imgL xs (l.take i) ++ xs.getD ((l.getD i 0).toNat - 97) [] := by
  unfold imgL
  rw [List.take_add_one, List.flatMap_append, List.getElem?_eq_getElem hi]
  simp [List.getD, hi]
theorem imgL_part (xs : List (List UInt8)) (l : List UInt8) (i : Nat) : (imgL xs (l.take i)).length ≤ (imgL xs l).length := by
  have e : imgL xs l = imgL xs (l.take i) ++ imgL xs (l.drop i) := by
    unfold imgL
    rw [← List.flatMap_append, List.take_append_drop]
  rw [e, List.length_append]
  omega
theorem imgL_all {xs : List (List UInt8)} {n : Nat} (h : ∀ k, k < n → (xs.getD k []).all (ltB n) = true) {l : List UInt8} (hl : l.all (ltB n) = true) : (imgL xs l).all (ltB n) = true := by
  rw [List.all_eq_true] at hl ⊢
  intro c hc
  unfold imgL at hc
  obtain ⟨d, hd, hc⟩ := List.mem_flatMap.1 hc
  have q := hl d hd
  have q' : 97 ≤ d.toNat ∧ d.toNat < n + 97 := by simpa [ltB] using q
  exact List.all_eq_true.1 (h (d.toNat - 97) (by omega)) c hc
theorem imG_ok {n : Nat} : ∀ {r : List (List UInt8)}, imG n r = 0 → ∀ x, x ∈ r → x.length ≤ 12 ∧ x.all (ltB n) = true
  | [], _, x, hx => by cases hx
  | y :: r, h, x, hx => by
    unfold imG at h
    split at h
    · cases h
    · split at h
      · rename_i h1 h2
        rcases List.mem_cons.1 hx with rfl | hx
        · exact ⟨by omega, h2⟩
        · exact imG_ok h x hx
      · cases h
theorem imF_ok {xs : List (List UInt8)} (h : imF xs = 0) : 1 ≤ xs.length ∧ xs.length ≤ 8 ∧ ∀ k, k < xs.length → (xs.getD k []).length ≤ 12 ∧ (xs.getD k []).all (ltB xs.length) = true := by
  unfold imF at h
  split at h
  · cases h
  · refine ⟨by omega, by omega, fun k hk => imG_ok h _ ?_⟩
    rw [List.getD, List.getElem?_eq_getElem hk]
    exact List.getElem_mem hk
theorem lt_blockG {w : World} {p : Nat} {o : Obj} (h : w.heap[p]? = some o) : p < w.heap.size := (Array.getElem?_eq_some_iff.1 h).1
def bvG (b : UInt8) : Value := .int .u8 (b.toNat : Int)
/-- Bytes as they are read. -/
structure ByR (V : World) (l : List UInt8) (a : Option Addr) (n c : Nat) : Prop where
  len : n = l.length
  nul : a = none → c = 0
  sm : ∀ x, a = some x → ∃ g, x = ⟨g, 0, none⟩ ∧ g < V.heap.size
  cells : ∀ k, k < l.length → ∃ g, a = some ⟨g, 0, none⟩ ∧ V.cell? ⟨g, k, none⟩ = some (bvG (l.getD k 0))
theorem ByR.below {w V : World} {l : List UInt8} {a : Option Addr} {n c : Nat} (h : ByR w l a n c) (b : Below w.heap.size w V) : ByR V l a n c :=
  ⟨h.len, h.nul, fun x hx => by obtain ⟨g, e, hg⟩ := h.sm x hx; exact ⟨g, e, Nat.lt_of_lt_of_le hg b.size⟩, fun k hk => by
    obtain ⟨g, e, hc⟩ := h.cells k hk
    obtain ⟨g', e', hg⟩ := h.sm _ e
    cases e'
    exact ⟨g, e, (b.cell hg).trans hc⟩⟩
theorem ByR.own {w : World} {B : Nat} {a : Option Addr} {q n : Nat} {l : List UInt8} (h : w.ownsRow B 5 1 (.slice a n q) n (l.map bvG)) (hn : n = l.length) : ByR w l a n q := by
  rcases h.2 with ⟨e, h0⟩ | ⟨g, cap, cur, e, hb, hg, hc, hm, hs, ht⟩
  · cases e
    exact ⟨hn, fun _ => rfl, fun x hx => (by cases hx), fun k hk => by omega⟩
  · cases e
    refine ⟨hn, fun hx => (by cases hx), fun x hx => ⟨g, (by cases hx; rfl), lt_blockG hg⟩, fun k hk => ⟨g, rfl, ?_⟩⟩
    rw [cell_of_row w _ _ _ _ _ hg, ← Array.getElem?_toList, ← List.getElem?_take_of_lt (show k < n * 1 by omega), ht]
    simp [hk, List.getD]
theorem conv_nilG (w : World) : (convert 59 9 (.slice none 0 0)).run Try.prog w = .ok (.string ⟨#[]⟩) w := by kernel_rfl
theorem ByR.text {w : World} {l : List UInt8} {a : Option Addr} {n c : Nat} (h : ByR w l a n c) : (convert 59 9 (.slice a n c)).run Try.prog w = .ok (.string ⟨l.toArray⟩) w := by
  cases a with
  | none =>
    have l0 : l = [] := by
      cases l with
      | nil => rfl
      | cons x r => obtain ⟨g, e, _⟩ := h.cells 0 (by simp); cases e
    rw [h.nul rfl, h.len, l0]
    exact conv_nilG w
  | some x =>
    obtain ⟨g, rfl, hg⟩ := h.sm x rfl
    rw [h.len]
    refine run_convert_bytes_back w 59 9 5 ⟨g, 0, none⟩ c l Try.underlying59 Try.underlying5 Try.underlying9 fun j hj => ?_
    have hadd : (⟨g, 0, none⟩ : Addr).add j = ⟨g, j, none⟩ := by unfold Addr.add; split <;> simp_all
    rw [hadd]
    obtain ⟨g', e, hc⟩ := h.cells j hj
    cases e
    rw [hc]
    simp [bvG, List.getD, hj]
end Go.Proofs.Ytmnacanjbhlfeaa

namespace Go.Proofs.Ytmnacanjbhlfeaa
set_option linter.unusedVariables false

end Go.Proofs.Ytmnacanjbhlfeaa

namespace Go.Proofs.Ytmnacanjbhlfeaa
open Go.RowKit

end Go.Proofs.Ytmnacanjbhlfeaa

namespace Go.Proofs.Ytmnacanjbhlfeaa
open Go.RowKit
set_option linter.unusedVariables false

end Go.Proofs.Ytmnacanjbhlfeaa

