/-
  What the last text of this claim leans on, part 2: Gw2, Gw3, Gw4, Gq1, Rk2, Rk3, Clone, Rk4, Pr1, Pr2, Pr3, Pr4, Ref3, Rk5, Rk6.
-/
import Derived.Test.YtmnacanjbhlfeaaDoorZw1
import Derived.Test.YtmnacanjbhlfeaaDoorProg
import Derived.Laws.IdiomStrings
import Derived.Laws.BytesArg
import Derived.Lib.AppendStr
import Derived.Laws.Bits64b
import Derived.Laws.BitsAllLaws
import Derived.Lib.Strings
import Derived.Lib.Walk
import Derived.Lib.BufferWrite
import Derived.Lib.UnsafeStr
import Derived.Lib.Hide
import Derived.Laws.MakeOwn
import Derived.WalkKit
import Derived.Deep.RegionWith
namespace Go.Proofs.YtmnacanjbhlfeaaDoor
open Go.RowKit
set_option linter.unusedVariables false
set_option linter.unusedSimpArgs false
end Go.Proofs.YtmnacanjbhlfeaaDoor

namespace Go.Proofs.YtmnacanjbhlfeaaDoor
open Go.RowKit
set_option linter.unusedVariables false
set_option linter.unusedSimpArgs false
/-- A list of texts as it lies. -/
structure ArgX (w : World) (xs : List (List UInt8)) (a : Option Addr) (n c : Nat) : Prop where
  len : n = xs.length
  max : n ≤ maxLen
  one : ∀ k, k < xs.length → (xs.getD k []).length ≤ maxLen
  cells : ∀ k, k < xs.length → ∃ g off, a = some ⟨g, off, none⟩ ∧ g < w.heap.size ∧ w.cell? ⟨g, off + k, none⟩ = some (.string ⟨(xs.getD k []).toArray⟩)
theorem ArgX.below {w V : World} {xs : List (List UInt8)} {a : Option Addr} {n c : Nat} (h : ArgX w xs a n c) (b : Below w.heap.size w V) : ArgX V xs a n c :=
  ⟨h.len, h.max, h.one, fun k hk => by
    obtain ⟨g, off, e, hg, hc⟩ := h.cells k hk
    exact ⟨g, off, e, Nat.lt_of_lt_of_le hg b.size, (b.cell hg).trans hc⟩⟩
/-- What is wrong with the words from k on. -/
def imG (n : Nat) : List (List UInt8) → Nat
  | [] => 0
  | x :: r => if 12 < x.length then 4 else if x.all (ltB n) = true then imG n r else 2
/-- What is wrong with a substitution. -/
def imF (xs : List (List UInt8)) : Nat := if xs.length < 1 ∨ 8 < xs.length then 1 else imG xs.length xs
/-- What is wrong with it, a word, and rounds. -/
def gwF (xs : List (List UInt8)) (l : List UInt8) (n : Int) : Nat := if imF xs = 0 then if 40000 < l.length then 4 else if l.all (ltB xs.length) = true then if n < 0 ∨ 60 < n then 1 else 0 else 2 else imF xs
theorem drop_getX {xs : List (List UInt8)} {k : Nat} (h : k < xs.length) : xs.drop k = xs.getD k [] :: xs.drop (k + 1) := by
  rw [List.drop_eq_getElem_cons h]
  simp [List.getD, h]
set_option maxRecDepth 100000 in
set_option maxHeartbeats 6400000 in
theorem refImages_any (xs : List (List UInt8)) (a : Option Addr) (n c : Nat) (w : World) (hA : ArgX w xs a n c) : Calls Tryd.prog 5 #[.slice a n c] w fun e w' => e = .returned (.int .i64 (imF xs : Int)) ∧ w' = w := by
  have HL := hide' hA.len
  have HM := hide' hA.max
  have HA := hide' hA
  have LT := hide' (fun (k : Nat) (h : k < xs.length) (hn : n ≤ 8) (V : World) => refLetters_any (xs.getD k []) n V (hA.one k h) hn)
  clear hA
  go_enter Tryd.func5, Tryd.ntmps5
  by_cases c1 : (n : Int) < 1
  · have F := hide' (show imF xs = 1 by unfold imF; rw [if_pos]; have := HL.out; omega)
    go_wp2
    go_ret
    exact ⟨by rw [F.out]; rfl, rfl⟩
  · by_cases c2 : (8 : Int) < (n : Int)
    · have F := hide' (show imF xs = 1 by unfold imF; rw [if_pos]; have := HL.out; omega)
      go_wp2
      go_ret
      exact ⟨by rw [F.out]; rfl, rfl⟩
    · have FE := hide' (show imF xs = imG n xs by unfold imF; rw [if_neg, HL.out]; have := HL.out; omega)
      have n8 : n ≤ 8 := by omega
      go_wp2
      go_loopw [3, 4] (fun kv _ wr => ∃ (k : Nat), kv = .int .i64 (k : Int) ∧ k ≤ n ∧ Hid (imF xs = imG n (xs.drop k)) ∧ wr = w) (fun kv _ _ => n - (intOf kv).toNat)
      case atStart => exact ⟨0, rfl, by omega, hide' (by rw [List.drop_zero]; exact FE.out), rfl⟩
      case round =>
        obtain ⟨k, rfl, hk, IM, rfl⟩ := hrel
        by_cases d : (k : Int) < (n : Int)
        · have kl : k < xs.length := by have := HL.out; omega
          have k0 : (0 : Int) ≤ (k : Int) := by omega
          obtain ⟨g, off, rfl, -, hc⟩ := HA.out.cells k kl
          have LC := hide' (LT.out k kl n8)
          have O1 := HA.out.one k kl
          have GO := hide' (show imF xs = (if 12 < (xs.getD k []).length then 4 else if (xs.getD k []).all (ltB n) = true then imG n (xs.drop (k + 1)) else 2) by rw [IM.out, drop_getX kl]; rfl)
          obtain ⟨x, hx⟩ : ∃ x, xs.getD k [] = x := ⟨_, rfl⟩
          rw [hx] at hc LC O1 GO
          have O2 := hide' O1
          unfold maxLen at O1
          clear hx
          by_cases q : (12 : Int) < (x.length : Int)
          · have F := hide' (show imF xs = 4 by rw [GO.out, if_pos (by omega)])
            go_wp2
            go_ret
            exact ⟨by rw [F.out]; rfl, rfl⟩
          · go_wp2_with fail
            refine (LC.out _).mono ?_
            rintro e w2 ⟨rfl, rfl⟩
            cases hz : x.all (ltB n) with
            | true =>
              have F := hide' (show imF xs = imG n (xs.drop (k + 1)) by rw [GO.out, if_neg (by omega), if_pos hz])
              clear hz
              go_wp2
              exact ⟨⟨k + 1, by go_num, by omega, F, trivial⟩, by simp [intOf]; omega⟩
            | false =>
              have F := hide' (show imF xs = 2 by rw [GO.out, if_neg (by omega), if_neg (by rw [hz]; decide)])
              clear hz
              go_wp2
              go_ret
              exact ⟨by rw [F.out]; rfl, rfl⟩
        · have F := hide' (show imF xs = 0 by rw [IM.out, List.drop_eq_nil_of_le (by have := HL.out; omega)]; rfl)
          go_wp2
          go_ret
          exact ⟨by rw [F.out]; rfl, rfl⟩
set_option maxRecDepth 100000 in
set_option maxHeartbeats 6400000 in
theorem refFaultG_any (xs : List (List UInt8)) (a : Option Addr) (n c : Nat) (l : List UInt8) (m : Int) (w : World) (hA : ArgX w xs a n c) (hl : l.length ≤ maxLen) : Calls Tryd.prog 8 #[.slice a n c, .string ⟨l.toArray⟩, .int .i64 m] w fun e w' => e = .returned (.int .i64 (gwF xs l m : Int)) ∧ w' = w := by
  have IM := hide' (refImages_any xs a n c w hA)
  have HL := hide' hA.len
  have N8 := hide' (show imF xs = 0 → n ≤ 8 from fun h => by
    rw [hA.len]
    unfold imF at h
    split at h
    · cases h
    · omega)
  have LT := hide' (fun (h : n ≤ 8) => refLetters_any l n w hl h)
  have GF := hide' (show gwF xs l m = if imF xs = 0 then if 40000 < l.length then 4 else if l.all (ltB n) = true then if m < 0 ∨ 60 < m then 1 else 0 else 2 else imF xs by unfold gwF; rw [← hA.len])
  unfold maxLen at hl
  clear hA
  go_enter Tryd.func8, Tryd.ntmps8
  go_wp2_with fail
  refine IM.out.mono ?_
  rintro e w2 ⟨rfl, rfl⟩
  obtain ⟨f, hf⟩ : ∃ f, imF xs = f := ⟨_, rfl⟩
  rw [hf] at GF N8 ⊢
  clear hf IM
  by_cases f0 : (f : Int) = 0
  · have z0 : f = 0 := by omega
    subst z0
    have n8 := N8.out rfl
    have LC := hide' (LT.out n8)
    rw [if_pos rfl] at GF
    by_cases big : (40000 : Int) < (l.length : Int)
    · have F := hide' (show gwF xs l m = 4 by rw [GF.out, if_pos (by omega)])
      go_wp2
      go_ret
      exact ⟨by rw [F.out]; rfl, rfl⟩
    · go_wp2_with fail
      refine LC.out.mono ?_
      rintro e w3 ⟨rfl, rfl⟩
      cases hz : l.all (ltB n) with
      | true =>
        have G2 := hide' (show gwF xs l m = if m < 0 ∨ 60 < m then 1 else 0 by rw [GF.out, if_neg (by omega), if_pos hz])
        clear hz
        by_cases m0 : m < 0
        · have F := hide' (show gwF xs l m = 1 by rw [G2.out, if_pos (by omega)])
          go_wp2
          go_ret
          exact ⟨by rw [F.out]; rfl, rfl⟩
        · by_cases m1 : 60 < m
          · have F := hide' (show gwF xs l m = 1 by rw [G2.out, if_pos (by omega)])
            go_wp2
            go_ret
            exact ⟨by rw [F.out]; rfl, rfl⟩
          · have F := hide' (show gwF xs l m = 0 by rw [G2.out, if_neg (by omega)])
            go_wp2
            go_ret
            exact ⟨by rw [F.out]; rfl, rfl⟩
      | false =>
        have F := hide' (show gwF xs l m = 2 by rw [GF.out, if_neg (by omega), if_neg (by rw [hz]; decide)])
        clear hz
        go_wp2
        go_ret
        exact ⟨by rw [F.out]; rfl, rfl⟩
  · have F := hide' (show gwF xs l m = f by rw [GF.out, if_neg (by omega)])
    go_wp2
    go_ret
    exact ⟨by rw [F.out]; rfl, rfl⟩
end Go.Proofs.YtmnacanjbhlfeaaDoor

namespace Go.Proofs.YtmnacanjbhlfeaaDoor
open Go.RowKit
set_option linter.unusedVariables false
set_option linter.unusedSimpArgs false
/-- Each letter becomes its word. -/
def imgL (xs : List (List UInt8)) (l : List UInt8) : List UInt8 := l.flatMap fun c => xs.getD (c.toNat - 97) []
/-- The word behind n rounds; none: one on the way is too long. -/
def gwN (xs : List (List UInt8)) : Nat → List UInt8 → Option (List UInt8)
  | 0, l => some l
  | n + 1, l => if 40000 < (imgL xs l).length then none else gwN xs n (imgL xs l)
theorem gwN_zero (xs : List (List UInt8)) (l : List UInt8) : gwN xs 0 l = some l := rfl
theorem gwN_succ (xs : List (List UInt8)) (n : Nat) (l : List UInt8) : gwN xs (n + 1) l = if 40000 < (imgL xs l).length then none else gwN xs n (imgL xs l) := rfl
theorem imgL_next (xs : List (List UInt8)) {l : List UInt8} {i : Nat} (hi : i < l.length) : imgL xs (l.take (i + 1)) = imgL xs (l.take i) ++ xs.getD ((l.getD i 0).toNat - 97) [] := by
  unfold imgL
  rw [List.take_add_one, List.flatMap_append, List.getElem?_eq_getElem hi]
  simp [List.getD, hi]
theorem imgL_part (xs : List (List UInt8)) (l : List UInt8) (i : Nat) : (imgL xs (l.take i)).length ≤ (imgL xs l).length := by
  have e : imgL xs l = imgL xs (l.take i) ++ imgL xs (l.drop i) := by
    unfold imgL
    rw [← List.flatMap_append, List.take_append_drop]
  rw [e, List.length_append]
  omega
theorem imgL_all {xs : List (List UInt8)} {n : Nat} (h : ∀ k, k < n → (xs.getD k []).all (ltB n) = true) {l : List UInt8} (hl : l.all (ltB n) = true) : (imgL xs l).all (ltB n) = true := by
  rw [List.all_eq_true] at hl ⊢
  intro c hc
  unfold imgL at hc
  obtain ⟨d, hd, hc⟩ := List.mem_flatMap.1 hc
  have q := hl d hd
  have q' : 97 ≤ d.toNat ∧ d.toNat < n + 97 := by simpa [ltB] using q
  exact List.all_eq_true.1 (h (d.toNat - 97) (by omega)) c hc
theorem imG_ok {n : Nat} : ∀ {r : List (List UInt8)}, imG n r = 0 → ∀ x, x ∈ r → x.length ≤ 12 ∧ x.all (ltB n) = true
  | [], _, x, hx => by cases hx
  | y :: r, h, x, hx => by
    unfold imG at h
    split at h
    · cases h
    · split at h
      · rename_i h1 h2
        rcases List.mem_cons.1 hx with rfl | hx
        · exact ⟨by omega, h2⟩
        · exact imG_ok h x hx
      · cases h
theorem imF_ok {xs : List (List UInt8)} (h : imF xs = 0) : 1 ≤ xs.length ∧ xs.length ≤ 8 ∧ ∀ k, k < xs.length → (xs.getD k []).length ≤ 12 ∧ (xs.getD k []).all (ltB xs.length) = true := by
  unfold imF at h
  split at h
  · cases h
  · refine ⟨by omega, by omega, fun k hk => imG_ok h _ ?_⟩
    rw [List.getD, List.getElem?_eq_getElem hk]
    exact List.getElem_mem hk
theorem lt_blockG {w : World} {p : Nat} {o : Obj} (h : w.heap[p]? = some o) : p < w.heap.size := (Array.getElem?_eq_some_iff.1 h).1
def bvG (b : UInt8) : Value := .int .u8 (b.toNat : Int)
/-- Bytes as they are read. -/
structure ByR (V : World) (l : List UInt8) (a : Option Addr) (n c : Nat) : Prop where
  len : n = l.length
  nul : a = none → c = 0
  sm : ∀ x, a = some x → ∃ g, x = ⟨g, 0, none⟩ ∧ g < V.heap.size
  cells : ∀ k, k < l.length → ∃ g, a = some ⟨g, 0, none⟩ ∧ V.cell? ⟨g, k, none⟩ = some (bvG (l.getD k 0))
theorem ByR.below {w V : World} {l : List UInt8} {a : Option Addr} {n c : Nat} (h : ByR w l a n c) (b : Below w.heap.size w V) : ByR V l a n c :=
  ⟨h.len, h.nul, fun x hx => by obtain ⟨g, e, hg⟩ := h.sm x hx; exact ⟨g, e, Nat.lt_of_lt_of_le hg b.size⟩, fun k hk => by
    obtain ⟨g, e, hc⟩ := h.cells k hk
    obtain ⟨g', e', hg⟩ := h.sm _ e
    cases e'
    exact ⟨g, e, (b.cell hg).trans hc⟩⟩
theorem ByR.own {w : World} {B : Nat} {a : Option Addr} {q n : Nat} {l : List UInt8} (h : w.ownsRow B 5 1 (.slice a n q) n (l.map bvG)) (hn : n = l.length) : ByR w l a n q := by
  rcases h.2 with ⟨e, h0⟩ | ⟨g, cap, cur, e, hb, hg, hc, hm, hs, ht⟩
  · cases e
    exact ⟨hn, fun _ => rfl, fun x hx => (by cases hx), fun k hk => by omega⟩
  · cases e
    refine ⟨hn, fun hx => (by cases hx), fun x hx => ⟨g, (by cases hx; rfl), lt_blockG hg⟩, fun k hk => ⟨g, rfl, ?_⟩⟩
    rw [cell_of_row w _ _ _ _ _ hg, ← Array.getElem?_toList, ← List.getElem?_take_of_lt (show k < n * 1 by omega), ht]
    simp [hk, List.getD]
theorem conv_nilG (w : World) : (convert 55 9 (.slice none 0 0)).run Tryd.prog w = .ok (.string ⟨#[]⟩) w := by kernel_rfl
theorem ByR.text {w : World} {l : List UInt8} {a : Option Addr} {n c : Nat} (h : ByR w l a n c) : (convert 55 9 (.slice a n c)).run Tryd.prog w = .ok (.string ⟨l.toArray⟩) w := by
  cases a with
  | none =>
    have l0 : l = [] := by
      cases l with
      | nil => rfl
      | cons x r => obtain ⟨g, e, _⟩ := h.cells 0 (by simp); cases e
    rw [h.nul rfl, h.len, l0]
    exact conv_nilG w
  | some x =>
    obtain ⟨g, rfl, hg⟩ := h.sm x rfl
    rw [h.len]
    refine run_convert_bytes_back w 55 9 5 ⟨g, 0, none⟩ c l Tryd.underlying55 Tryd.underlying5 Tryd.underlying9 fun j hj => ?_
    have hadd : (⟨g, 0, none⟩ : Addr).add j = ⟨g, j, none⟩ := by unfold Addr.add; split <;> simp_all
    rw [hadd]
    obtain ⟨g', e, hc⟩ := h.cells j hj
    cases e
    rw [hc]
    simp [bvG, List.getD, hj]
/-- A text's bytes, made. -/
theorem bytes_made (l : List UInt8) (w : World) : ∃ a n c V, (convert 9 55 (.string ⟨l.toArray⟩)).run Tryd.prog w = .ok (.slice a n c) V ∧ ByR V l a n c ∧ Below w.heap.size w V := by
  refine ⟨_, _, _, _, run_bytes_of_string w 9 55 5 ⟨l.toArray⟩ Tryd.underlying9 Tryd.underlying55 Tryd.underlying5, ⟨by show l.toArray.size = _; simp, fun h => (by cases h), fun x hx => ⟨w.heap.size, (by cases hx; rfl), ?_⟩, fun k hk => ⟨w.heap.size, rfl, ?_⟩⟩, ?_⟩
  · exact lt_blockG (heap_alloc_new w.drew _)
  · have := bytesRow_at ⟨l.toArray⟩ (grownCap w (⟨l.toArray⟩ : ByteArray).size 0 5) k (by simpa using hk)
    refine (cell_of_row _ _ _ _ _ _ (heap_alloc_new w.drew _)).trans ?_
    rw [this]
    simp [bvG, List.getD, hk]
  · exact ((Below.refl _ _).drew).alloc (Nat.le_refl _) _
end Go.Proofs.YtmnacanjbhlfeaaDoor

namespace Go.Proofs.YtmnacanjbhlfeaaDoor
set_option linter.unusedVariables false

end Go.Proofs.YtmnacanjbhlfeaaDoor

namespace Go.Proofs.YtmnacanjbhlfeaaDoor
open Go.RowKit

end Go.Proofs.YtmnacanjbhlfeaaDoor

namespace Go.Proofs.YtmnacanjbhlfeaaDoor
open Go.RowKit
set_option linter.unusedVariables false

end Go.Proofs.YtmnacanjbhlfeaaDoor

namespace Go.Proofs.YtmnacanjbhlfeaaDoor
open Go.RowKit

theorem info_u8 : (Tryd.prog.info? 5).map (fun i => (i.zero, i.size, i.bytes)) = some (some (.int .u8 0), 1, 1) := by kernel_rfl

set_option maxHeartbeats 4000000 in
set_option maxRecDepth 100000 in
theorem slClone (s : ByteArray) (w : World) (hlim : s.size ≤ 281474976710656) :
    Calls Tryd.prog 31 #[.string s] w fun e w' => e = .returned (.string s) ∧ Below w.heap.size w w' := by
  by_cases h0 : s.size = 0
  · have hs : s = ⟨#[]⟩ := by
      apply ByteArray.ext
      exact Array.eq_empty_of_size_eq_zero h0
    subst hs
    go_enter Tryd.func31, Tryd.ntmps31
    go_wp2
    go_ret
    exact ⟨rfl, Below.refl _ _⟩
  · obtain ⟨i0, hi, hzz⟩ := Option.map_eq_some_iff.1 info_u8
    simp only [Prod.mk.injEq] at hzz
    obtain ⟨hz0, hz1, hz2⟩ := hzz
    have hinfo : (Tryd.prog.info? 5).map (·.size) = some 1 := by rw [hi]; simp [hz1]
    have hco : Tryd.prog.cellsOf 5 = 1 := by simp [Program.cellsOf, hi, hz1]
    obtain ⟨M, hM⟩ : ∃ M, M = madeCells (Value.int .u8 0).cells (((s.size : Nat) : Int).toNat * i0.size) := ⟨_, rfl⟩
    have hMs : M.size = s.size := by rw [hM, size_madeCells, hz1]; simp
    have hmk : ∀ W : World, (Instr.makeSlice 55 (.int .i64 (s.size : Int)) (.int .i64 (s.size : Int))).run Tryd.prog W = .ok (.slice (some ⟨W.heap.size, 0, none⟩) s.size s.size) (W.alloc (.cells M 5)) := fun W => by
      have h := run_make (P := Tryd.prog) W 55 5 i0 (.int .u8 0) Tryd.underlying55 hi hz0 .i64 .i64 (s.size : Int) (s.size : Int) (by omega) (by omega) (by rw [hz2]; omega) (by omega)
      rw [← hM] at h
      simpa using h
    clear hM
    have hcp := Lib.run_copy_row_string (P := Tryd.prog) (w.alloc (.cells M 5)) 55 9 3 5 w.heap.size 0 s.size s.size s M 5 Tryd.underlying55 hinfo (heap_alloc_new w _) (Nat.le_refl _) (by omega)
    obtain ⟨Y, hY⟩ : ∃ Y, Y = (M.toList.take 0 ++ Lib.byteCells s.data.toList ++ M.toList.drop (0 + s.size)).toArray := ⟨_, rfl⟩
    rw [← hY] at hcp
    have hYl : Y.toList = Lib.byteCells s.data.toList := by
      rw [hY, List.toList_toArray, List.take_zero, List.nil_append, List.drop_of_length_le (by rw [Array.length_toList]; omega), List.append_nil]
    have hYs : Y.size = s.size := by rw [← Array.length_toList, hYl, Lib.byteCells_length, ← Lib.size_eq]
    have hgY : ((w.alloc (.cells M 5)).setRow w.heap.size Y).heap[w.heap.size]? = some (.cells Y 5 (0, 0)) := setRow_heap _ _ M _ 5 (0, 0) (heap_alloc_new w _)
    have hne : s.data.toList ≠ [] := fun e => h0 (by rw [Lib.size_eq, e]; rfl)
    have hUS := Lib.run_unsafeString_row (P := Tryd.prog) ((w.alloc (.cells M 5)).setRow w.heap.size Y) 86 3 9 5 Tryd.underlying86 hco w.heap.size Y.size (by unfold World.shape?; rw [hgY]) s.data.toList hne (by rw [← Lib.size_eq]; omega) (by rw [← Lib.size_eq]; omega)
      (fun j x hx => Lib.cells_of_row hgY Y.size j _ (by rw [List.take_of_length_le (by rw [Array.length_toList]; exact Nat.le_refl _), hYl]; simp [Lib.byteCells, hx]))
    rw [← Lib.size_eq] at hUS
    clear hY
    go_enter Tryd.func31, Tryd.ntmps31
    go_wp2
    go_ret
    have hb1 : Below w.heap.size w (w.alloc (.cells M 5)) := (Below.refl _ w).alloc (Nat.le_refl _) _
    have hb2 : Below w.heap.size (w.alloc (.cells M 5)) ((w.alloc (.cells M 5)).setRow w.heap.size Y) := ⟨rfl, rfl, rfl, by simp, fun k hk => setRow_other _ _ _ _ (by omega)⟩
    exact ⟨rfl, Lib.below_freeze (hb1.trans hb2) (p := ⟨w.heap.size, 0, none⟩) (Nat.le_refl _) _⟩

theorem clone_any (t : ByteArray) (w : World) (ht : t.size ≤ 281474976710656) :
    Calls Tryd.prog 21 #[.string t] w fun e w' => e = .returned (.string t) ∧ Below w.heap.size w w' := by
  go_enter Tryd.func21, Tryd.ntmps21
  go_wp2_with fail
  refine (slClone t _ ht).mono ?_
  rintro e w1 ⟨rfl, hb⟩
  go_wp2
  go_ret
  exact ⟨rfl, hb⟩
end Go.Proofs.YtmnacanjbhlfeaaDoor

namespace Go.Proofs.YtmnacanjbhlfeaaDoor
open Go.RowKit
set_option linter.unusedVariables false

theorem At.below {b : Nat} {s : ByteArray} {i : Nat} {w w' : World} (h : At b s i w) (hb : Below w.heap.size w w') : At b s i w' := by
  have e := hb.block b h.lt
  exact ⟨(World.cell?_of_block (w := w) (a := ⟨b, 0, none⟩) e).trans h.txt, (World.cell?_of_block (w := w) (a := ⟨b, 1, none⟩) e).trans h.pos,
    (World.frozen?_of_block (w := w) (a := ⟨b, 0, none⟩) e).trans h.fz0, (World.frozen?_of_block (w := w) (a := ⟨b, 1, none⟩) e).trans h.fz1⟩
theorem At.drew {b : Nat} {s : ByteArray} {i : Nat} {w : World} (h : At b s i w) : At b s i w.drew := ⟨h.txt, h.pos, h.fz0, h.fz1⟩
end Go.Proofs.YtmnacanjbhlfeaaDoor

namespace Go.Proofs.YtmnacanjbhlfeaaDoor
open Go.RowKit
set_option linter.unusedVariables false

/-- A rule that came in, as a value: its table at v. -/
structure ArgR (w : World) (o : Out) (a : Option Addr) (n c : Nat) : Prop where
  len : n = o.table.length
  max : n ≤ maxLen
  tmax : o.turns.size ≤ maxLen
  cells : ∀ k (h : k < o.table.length), ∃ g off, a = some ⟨g, off, none⟩ ∧ g < w.heap.size ∧ w.cell? ⟨g, off + k, none⟩ = some (.int .i64 o.table[k])
  rmax : o.radius ≤ 9223372036854775807

theorem ArgR.below {w w' : World} {o : Out} {a : Option Addr} {n c : Nat} (h : ArgR w o a n c) (hb : Below w.heap.size w w') : ArgR w' o a n c :=
  ⟨h.len, h.max, h.tmax, fun k hk => by
    obtain ⟨g, off, e, hg, hc⟩ := h.cells k hk
    exact ⟨g, off, e, Nat.lt_of_lt_of_le hg hb.size, (World.cell?_of_block (w := w) (a := ⟨g, off + k, none⟩) (hb.block g hg)).trans hc⟩, h.rmax⟩
theorem ArgR.alloc {w : World} {o : Out} {a : Option Addr} {n c : Nat} (h : ArgR w o a n c) (x : Obj) : ArgR (w.alloc x) o a n c :=
  h.below ((Below.refl _ _).alloc (Nat.le_refl _) _)

end Go.Proofs.YtmnacanjbhlfeaaDoor

namespace Go.Proofs.YtmnacanjbhlfeaaDoor
open Go.RowKit
set_option linter.unusedVariables false

end Go.Proofs.YtmnacanjbhlfeaaDoor

namespace Go.Proofs.YtmnacanjbhlfeaaDoor
open Go.RowKit
set_option linter.unusedVariables false

end Go.Proofs.YtmnacanjbhlfeaaDoor

namespace Go.Proofs.YtmnacanjbhlfeaaDoor
open Go.RowKit
set_option linter.unusedVariables false

end Go.Proofs.YtmnacanjbhlfeaaDoor

namespace Go.Proofs.YtmnacanjbhlfeaaDoor
open Go.RowKit
set_option linter.unusedVariables false

end Go.Proofs.YtmnacanjbhlfeaaDoor

namespace Go.Proofs.YtmnacanjbhlfeaaDoor
open Go.RowKit
set_option linter.unusedVariables false

theorem Fresh.old {w w' : World} {v : Value} (h : Fresh w' v) (hs : w.heap.size ≤ w'.heap.size) : Fresh w v := fun g k c q => Nat.le_trans hs (h g k c q)

end Go.Proofs.YtmnacanjbhlfeaaDoor

namespace Go.Proofs.YtmnacanjbhlfeaaDoor
open Go.RowKit
set_option linter.unusedVariables false

theorem Tab.alloc {w : World} {v : Value} {xs : List Int} (h : Tab w v xs) (o : Obj) : Tab (w.alloc o) v xs := by
  rcases h with h | ⟨g, cap, hv, hg, hc⟩
  · exact Or.inl h
  · have e : (w.alloc o).heap[g]? = w.heap[g]? := Below.heap_alloc _ _ _ hg
    exact Or.inr ⟨g, cap, hv, by rw [World.size_alloc]; omega, fun k hk => (World.cell?_of_block (w := w) (a := ⟨g, k, none⟩) e).trans (hc k hk)⟩
theorem Tab.drewN {w : World} {v : Value} {xs : List Int} (h : Tab w v xs) (n : Nat) : Tab (w.drewN n) v xs := h

end Go.Proofs.YtmnacanjbhlfeaaDoor

