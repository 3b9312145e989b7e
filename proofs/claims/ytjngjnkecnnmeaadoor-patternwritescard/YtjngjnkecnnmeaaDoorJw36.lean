/-
  What the last text of this claim leans on, part 36: Wj2, Wj3, Wj0, Wj4.
-/
import Derived.Test.YtjngjnkecnnmeaaDoorJw35
import Derived.Test.YtjngjnkecnnmeaaDoorProg
import Derived.Test.YtjngjnkecnnmeaaDoorJw13
import Derived.Test.YtjngjnkecnnmeaaDoorJw14
import Derived.Shelf.Strings.Builder1
namespace Go.Proofs.YtjngjnkecnnmeaaDoor
open Go.RowKit
set_option linter.unusedVariables false

set_option maxHeartbeats 2000000 in
set_option maxRecDepth 100000 in
theorem writeByte_any (B b : Nat) (bs : List Value) (c : Int) (w : World) (h : Bld B b bs w) (hBw : B ≤ w.heap.size) (hl : bs.length ≤ 1000000) :
    Calls Tryd.prog 120 #[.pointer (some ⟨b, 0, none⟩), .int .u8 c] w fun e w' => e = .returned .nilIface ∧ BldU B b (bs ++ [.int .u8 c]) w' ∧ Below B w w' := by
  obtain ⟨i0, hi, hz0, hz1, hz2⟩ := info_parts info_u8
  have HH := hide' h
  clear h
  go_enter Tryd.func120, Tryd.ntmps120
  go_wp2_with fail
  refine (copyCheck_any B b bs _ HH.out).mono ?_
  rintro e w1 ⟨rfl, ⟨hB, v, hbk, hown, hne⟩, hb1⟩
  have c0 : w1.cell? ⟨b, 0, none⟩ = some (.pointer (some ⟨b, 0, none⟩)) := by rw [Lib.cell_of_heap hbk]; rfl
  have c1 : w1.cell? ⟨b, 1, none⟩ = some v := by rw [Lib.cell_of_heap hbk]; rfl
  have hs1 := hb1.size
  go_wp2_with (at_builtin; refine wpList_append_own _ rfl _ _ 95 rfl B 5 i0 (.int .u8 0) 1 1 Tryd.underlying95 hi hz0 hz1 hz2 rfl (by decide) v _ _ rfl (hown.alloc _) ⟨w1.heap.size, 0, none⟩ 1 1 [.int .u8 c] rfl rfl (cell_one_new _ _ _) (fun x hx => by simp at hx; subst hx; rfl) (by unfold maxLen; omega) (by omega) (by simp; omega) ?_)
  intro v' w2 hown' hgrow _
  have hlt : b < w1.heap.size := Array.getElem?_eq_some_iff.1 hbk |>.1
  have hb2 : w2.heap[b]? = some (.cells #[.pointer (some ⟨b, 0, none⟩), v] 102 (0, 0)) := by
    rw [hgrow.block b (by simp; omega) (fun e => hne e.symm), Lib.alloc_old w1 _ b hlt]
    exact hbk
  have d0 : w2.cell? ⟨b, 0, none⟩ = some (.pointer (some ⟨b, 0, none⟩)) := by rw [Lib.cell_of_heap hb2]; rfl
  have d1 : w2.cell? ⟨b, 1, none⟩ = some v := by rw [Lib.cell_of_heap hb2]; rfl
  have f1 : w2.frozen? ⟨b, 1, none⟩ = false := Lib.frozen_of_heap hb2 1
  obtain ⟨ta, tn, tc, rfl⟩ := ownsRow_slice hown'
  go_wp2
  go_ret
  refine ⟨rfl, Lib.BuilderAt.put hB hb2 (bs' := bs ++ [.int .u8 c]) (by simpa using hown') (by decide), ?_⟩
  exact ((hb1.alloc (by omega) _).grown hgrow (by simp; omega) (fun k hk => (hown.lt k hk).1)).setCell (p := ⟨b, 1, none⟩) hB _

set_option maxHeartbeats 2000000 in
set_option maxRecDepth 100000 in
theorem writeString_any (B b : Nat) (bs : List Value) (s : ByteArray) (w : World) (h : Bld B b bs w) (hBw : B ≤ w.heap.size) (hl : bs.length ≤ 1000000) (hs : s.size ≤ 1000000) :
    Calls Tryd.prog 71 #[.pointer (some ⟨b, 0, none⟩), .string s] w fun e w' => e = .returned (.tuple #[.int .i64 s.size, .nilIface]) ∧ BldU B b (bs ++ Lib.strCells s) w' ∧ Below B w w' := by
  obtain ⟨i0, hi, hz0, hz1, hz2⟩ := info_parts info_u8
  have HH := hide' h
  clear h
  go_enter Tryd.func71, Tryd.ntmps71
  go_wp2_with fail
  refine (copyCheck_any B b bs _ HH.out).mono ?_
  rintro e w1 ⟨rfl, ⟨hB, v, hbk, hown, hne⟩, hb1⟩
  have c0 : w1.cell? ⟨b, 0, none⟩ = some (.pointer (some ⟨b, 0, none⟩)) := by rw [Lib.cell_of_heap hbk]; rfl
  have c1 : w1.cell? ⟨b, 1, none⟩ = some v := by rw [Lib.cell_of_heap hbk]; rfl
  have hs1 := hb1.size
  go_wp2_with (at_builtin; refine Lib.wpList_append_own_string _ rfl _ _ 95 9 rfl B 5 i0 Tryd.underlying95 Tryd.underlying9 hi hz0 hz1 hz2 v _ _ rfl hown s rfl (by unfold maxLen; omega) (by omega) (by omega) ?_)
  intro v' w2 hown' hgrow _
  have hlt : b < w1.heap.size := Array.getElem?_eq_some_iff.1 hbk |>.1
  have hb2 : w2.heap[b]? = some (.cells #[.pointer (some ⟨b, 0, none⟩), v] 102 (0, 0)) := by
    rw [hgrow.block b (by omega) (fun e => hne e.symm)]
    exact hbk
  have d0 : w2.cell? ⟨b, 0, none⟩ = some (.pointer (some ⟨b, 0, none⟩)) := by rw [Lib.cell_of_heap hb2]; rfl
  have d1 : w2.cell? ⟨b, 1, none⟩ = some v := by rw [Lib.cell_of_heap hb2]; rfl
  have f1 : w2.frozen? ⟨b, 1, none⟩ = false := Lib.frozen_of_heap hb2 1
  obtain ⟨ta, tn, tc, rfl⟩ := ownsRow_slice hown'
  go_wp2
  go_ret2
  refine ⟨rfl, Lib.BuilderAt.put hB hb2 (bs' := bs ++ Lib.strCells s) (by rw [List.length_append, Lib.strCells_length]; exact hown') (by decide), ?_⟩
  exact (hb1.grown hgrow (by omega) (fun k hk => (hown.lt k hk).1)).setCell (p := ⟨b, 1, none⟩) hB _
end Go.Proofs.YtjngjnkecnnmeaaDoor

namespace Go.Proofs.YtjngjnkecnnmeaaDoor
open Go.RowKit
set_option linter.unusedVariables false

def AppPost (B : Nat) (v : Value) (bs news : List Value) (w : World) (e : Ending) (w' : World) : Prop :=
  ∃ v', e = .returned v' ∧ w'.ownsRow B 5 1 v' (bs.length + news.length) (bs ++ news) ∧ ∃ o, (w.alloc o).grownBy w' v.ownBlock

set_option maxHeartbeats 2000000 in
set_option maxRecDepth 100000 in
theorem appendRune_nl (B : Nat) (v : Value) (bs : List Value) (w : World) (hown : w.ownsRow B 5 1 v bs.length bs) (hBw : B ≤ w.heap.size) (hl : bs.length ≤ 1000000) :
    Calls Tryd.prog 122 #[v, .int .i32 10] w (AppPost B v bs [.int .u8 10] w) := by
  obtain ⟨i0, hi, hz0, hz1, hz2⟩ := info_parts info_u8
  go_enter Tryd.func122, Tryd.ntmps122
  go_wp2_with (at_builtin; refine wpList_append_own _ rfl _ _ 95 rfl B 5 i0 (.int .u8 0) 1 1 Tryd.underlying95 hi hz0 hz1 hz2 rfl (by decide) v _ _ rfl (hown.alloc _) ⟨w.heap.size, 0, none⟩ 1 1 [.int .u8 10] rfl rfl (cell_one_new _ _ _) (fun x hx => by simp at hx; subst hx; rfl) (by unfold maxLen; omega) (by omega) (by simp; omega) ?_)
  intro v' w2 hown' hgrow _
  go_wp2
  go_ret
  exact ⟨v', rfl, hown', _, hgrow⟩

set_option maxHeartbeats 2000000 in
set_option maxRecDepth 100000 in
theorem appendNon_dot (B : Nat) (v : Value) (bs : List Value) (w : World) (hown : w.ownsRow B 5 1 v bs.length bs) (hBw : B ≤ w.heap.size) (hl : bs.length ≤ 1000000) :
    Calls Tryd.prog 152 #[v, .int .i32 183] w (AppPost B v bs [.int .u8 194, .int .u8 183] w) := by
  obtain ⟨i0, hi, hz0, hz1, hz2⟩ := info_parts info_u8
  have NB := World.news_of_block (w := w.alloc (.cells #[.int .u8 194, .int .u8 183] 5)) (cs := #[.int .u8 194, .int .u8 183]) (t := 5) (fr := (0, 0)) (heap_alloc_new w _)
  go_enter Tryd.func152, Tryd.ntmps152
  go_wp2_with (at_builtin; refine wpList_append_own _ rfl _ _ 95 rfl B 5 i0 (.int .u8 0) 1 1 Tryd.underlying95 hi hz0 hz1 hz2 rfl (by decide) v _ _ rfl (hown.alloc _) ⟨w.heap.size, 0, none⟩ 2 2 [.int .u8 194, .int .u8 183] rfl rfl NB (fun x hx => by simp at hx; rcases hx with rfl | rfl <;> rfl) (by unfold maxLen; omega) (by omega) (by simp; omega) ?_)
  intro v' w2 hown' hgrow _
  go_wp2
  go_ret
  exact ⟨v', rfl, hown', _, hgrow⟩

set_option maxHeartbeats 2000000 in
set_option maxRecDepth 100000 in
theorem appendNon_disc (B : Nat) (v : Value) (bs : List Value) (w : World) (hown : w.ownsRow B 5 1 v bs.length bs) (hBw : B ≤ w.heap.size) (hl : bs.length ≤ 1000000) :
    Calls Tryd.prog 152 #[v, .int .i32 9679] w (AppPost B v bs [.int .u8 226, .int .u8 151, .int .u8 143] w) := by
  obtain ⟨i0, hi, hz0, hz1, hz2⟩ := info_parts info_u8
  have NB := World.news_of_block (w := w.alloc (.cells #[.int .u8 226, .int .u8 151, .int .u8 143] 5)) (cs := #[.int .u8 226, .int .u8 151, .int .u8 143]) (t := 5) (fr := (0, 0)) (heap_alloc_new w _)
  go_enter Tryd.func152, Tryd.ntmps152
  go_wp2_with (at_builtin; refine wpList_append_own _ rfl _ _ 95 rfl B 5 i0 (.int .u8 0) 1 1 Tryd.underlying95 hi hz0 hz1 hz2 rfl (by decide) v _ _ rfl (hown.alloc _) ⟨w.heap.size, 0, none⟩ 3 3 [.int .u8 226, .int .u8 151, .int .u8 143] rfl rfl NB (fun x hx => by simp at hx; rcases hx with rfl | rfl | rfl <;> rfl) (by unfold maxLen; omega) (by omega) (by simp; omega) ?_)
  intro v' w2 hown' hgrow _
  go_wp2
  go_ret
  exact ⟨v', rfl, hown', _, hgrow⟩

set_option maxHeartbeats 2000000 in
set_option maxRecDepth 100000 in
theorem appendRune_dot (B : Nat) (v : Value) (bs : List Value) (w : World) (hown : w.ownsRow B 5 1 v bs.length bs) (hBw : B ≤ w.heap.size) (hl : bs.length ≤ 1000000) :
    Calls Tryd.prog 122 #[v, .int .i32 183] w (AppPost B v bs [.int .u8 194, .int .u8 183] w) := by
  go_enter Tryd.func122, Tryd.ntmps122
  go_wp2_with fail
  refine (appendNon_dot B v bs _ hown hBw hl).mono ?_
  rintro e w2 ⟨v', rfl, hown', o, hgrow⟩
  go_wp2
  go_ret
  exact ⟨v', rfl, hown', _, hgrow⟩

set_option maxHeartbeats 2000000 in
set_option maxRecDepth 100000 in
theorem appendRune_disc (B : Nat) (v : Value) (bs : List Value) (w : World) (hown : w.ownsRow B 5 1 v bs.length bs) (hBw : B ≤ w.heap.size) (hl : bs.length ≤ 1000000) :
    Calls Tryd.prog 122 #[v, .int .i32 9679] w (AppPost B v bs [.int .u8 226, .int .u8 151, .int .u8 143] w) := by
  go_enter Tryd.func122, Tryd.ntmps122
  go_wp2_with fail
  refine (appendNon_disc B v bs _ hown hBw hl).mono ?_
  rintro e w2 ⟨v', rfl, hown', o, hgrow⟩
  go_wp2
  go_ret
  exact ⟨v', rfl, hown', _, hgrow⟩

def RuneIs (r : Int) (news : List Value) : Prop := ∀ (B : Nat) (v : Value) (bs : List Value) (w : World), w.ownsRow B 5 1 v bs.length bs → B ≤ w.heap.size → bs.length ≤ 1000000 →
  Calls Tryd.prog 122 #[v, .int .i32 r] w (AppPost B v bs news w)
theorem rune_nl : RuneIs 10 [.int .u8 10] := appendRune_nl
theorem rune_dot : RuneIs 183 [.int .u8 194, .int .u8 183] := appendRune_dot
theorem rune_disc : RuneIs 9679 [.int .u8 226, .int .u8 151, .int .u8 143] := appendRune_disc

set_option maxHeartbeats 2000000 in
set_option maxRecDepth 100000 in
theorem writeRune_any (r : Int) (news : List Value) (hr : RuneIs r news) (h0 : 0 < news.length) (h4 : news.length ≤ 4) (B b : Nat) (bs : List Value) (w : World) (h : Bld B b bs w) (hBw : B ≤ w.heap.size) (hl : bs.length ≤ 1000000) :
    Calls Tryd.prog 77 #[.pointer (some ⟨b, 0, none⟩), .int .i32 r] w fun e w' => e = .returned (.tuple #[.int .i64 news.length, .nilIface]) ∧ BldU B b (bs ++ news) w' ∧ Below B w w' := by
  have HR := hide' hr
  have HH := hide' h
  clear h hr
  go_enter Tryd.func77, Tryd.ntmps77
  go_wp2_with fail
  refine (copyCheck_any B b bs _ HH.out).mono ?_
  rintro e w1 ⟨rfl, ⟨hB, v, hbk, hown, hne⟩, hb1⟩
  obtain ⟨sa, cap, rfl⟩ : ∃ sa cap, v = .slice sa bs.length cap := by
    rcases hown.2 with ⟨hv, e0⟩ | ⟨g, cap, cur, hv, _⟩
    · exact ⟨none, 0, by rw [hv, e0]⟩
    · exact ⟨_, _, hv⟩
  have c0 : w1.cell? ⟨b, 0, none⟩ = some (.pointer (some ⟨b, 0, none⟩)) := by rw [Lib.cell_of_heap hbk]; rfl
  have c1 : w1.cell? ⟨b, 1, none⟩ = some (.slice sa bs.length cap) := by rw [Lib.cell_of_heap hbk]; rfl
  have hs1 := hb1.size
  have OW := hide' hown
  have HB1 := hide' hb1
  have HBK := hide' hbk
  have HNE := hide' hne
  clear hown hb1 hbk hne
  go_wp2_with fail
  refine (HR.out B _ bs _ OW.out (by omega) hl).mono ?_
  rintro e w2 ⟨v', rfl, hown', o, hgrow⟩
  have hlt : b < w1.heap.size := Array.getElem?_eq_some_iff.1 HBK.out |>.1
  have hb2 : w2.heap[b]? = some (.cells #[.pointer (some ⟨b, 0, none⟩), .slice sa bs.length cap] 102 (0, 0)) := by
    rw [hgrow.block b (by simp; omega) (fun e => HNE.out e.symm), Lib.alloc_old w1 _ b hlt]
    exact HBK.out
  have d0 : w2.cell? ⟨b, 0, none⟩ = some (.pointer (some ⟨b, 0, none⟩)) := by rw [Lib.cell_of_heap hb2]; rfl
  have d1 : w2.cell? ⟨b, 1, none⟩ = some (.slice sa bs.length cap) := by rw [Lib.cell_of_heap hb2]; rfl
  have f1 : w2.frozen? ⟨b, 1, none⟩ = false := Lib.frozen_of_heap hb2 1
  obtain ⟨g, cap', rfl⟩ : ∃ g cap', v' = .slice (some ⟨g, 0, none⟩) (bs.length + news.length) cap' := by
    rcases hown'.2 with ⟨_, e0⟩ | ⟨g, cap', cur, hv, _⟩
    · omega
    · exact ⟨g, cap', hv⟩
  have HG := hide' hgrow
  have HO := hide' hown'
  have H2 := hide' hb2
  clear hgrow hown' hb2
  go_wp2
  go_ret2
  refine ⟨by simp; omega, Lib.BuilderAt.put hB H2.out (bs' := bs ++ news) (by simpa using HO.out) (by decide), ?_⟩
  exact ((HB1.out.alloc (by omega) _).grown HG.out (by simp; omega) (fun k hk => (OW.out.lt k hk).1)).setCell (p := ⟨b, 1, none⟩) hB _
end Go.Proofs.YtjngjnkecnnmeaaDoor

namespace Go.Proofs
open Go.Shelf
def Tryd.lays169_ren : Go.Shelf.Ren := ⟨fun | 169 => 76 | n => n, fun | 70 => 100 | 9 => 9 | 0 => 0 | 72 => 102 | 37 => 95 | 127 => 141 | 3 => 3 | 5 => 5 | n => n, fun | n => n⟩
theorem Tryd.lays169 : Go.Proofs.Lays.n169 Tryd.prog Tryd.lays169_ren := {
  mixed := by kernel_rfl
  f169 := Tryd.func76.trans (congrArg some (by kernel_rfl))
  t0 := Tryd.underlying0
  a0 := Tryd.isAgg0
  z0 := Tryd.sizeOf0
  v0 := Tryd.zeroValue0
  t3 := Tryd.underlying3
  a3 := Tryd.isAgg3
  z3 := Tryd.sizeOf3
  v3 := Tryd.zeroValue3
  t9 := Tryd.underlying9
  a9 := Tryd.isAgg9
  z9 := Tryd.sizeOf9
  v9 := Tryd.zeroValue9
  t37 := Tryd.underlying95
  a37 := Tryd.isAgg95
  z37 := Tryd.sizeOf95
  v37 := Tryd.zeroValue95
  t70 := Tryd.underlying100
  a70 := Tryd.isAgg100
  z70 := Tryd.sizeOf100
  v70 := Tryd.zeroValue100
  t72 := Tryd.underlying102
  a72 := Tryd.isAgg102
  z72 := Tryd.sizeOf102
  v72 := Tryd.zeroValue102
  t127 := Tryd.underlying141
  a127 := Tryd.isAgg141
  z127 := Tryd.sizeOf141
  v127 := Tryd.zeroValue141 }
theorem Tryd.Builder_Extra_169 : Builder.Extra Tryd.prog Tryd.lays169_ren := {
  sizeBuilder := by kernel_rfl
  liesBuilder := by kernel_rfl
  t5 := Tryd.underlying5
  a5 := Tryd.isAgg5
  z5 := Tryd.sizeOf5
  v5 := Tryd.zeroValue5
  infoByte := by kernel_rfl
  cellsByte := by kernel_rfl
  sizeByte := by kernel_rfl
  neB5 := by decide }

open Go.RowKit in
theorem Tryd.bldString_any (B b : Nat) (l : List UInt8) (w : World) (h : Lib.IsBuilder 102 5 B b (Lib.byteCells l) w) (hBw : B ≤ w.heap.size) :
    Calls Tryd.prog 76 #[.pointer (some ⟨b, 0, none⟩)] w fun e w' => e = .returned (.string ⟨l.toArray⟩) ∧ Below B w w' := Any.Builder_String_any Tryd.lays169 Tryd.Builder_Extra_169 B b l w h hBw
end Go.Proofs

namespace Go.Proofs.YtjngjnkecnnmeaaDoor
open Go.RowKit
set_option linter.unusedVariables false

def cellBytes (x : Int) : List UInt8 := if x = 1 then [226, 151, 143] else [194, 183]
def drawRow (W : Nat) (xs : List Int) (y x : Nat) : List UInt8 := (List.range x).flatMap fun i => cellBytes (xs.getD (y * W + i) 0)
def drawRows (W : Nat) (xs : List Int) (y : Nat) : List UInt8 := (List.range y).flatMap fun j => drawRow W xs j W ++ [10]
def drawB (p : Pat) : List UInt8 := drawRows p.W p.xs p.H
theorem drawRow_succ (W : Nat) (xs : List Int) (y x : Nat) : drawRow W xs y (x + 1) = drawRow W xs y x ++ cellBytes (xs.getD (y * W + x) 0) := by simp [drawRow, List.range_succ, List.flatMap_append]
theorem drawRows_succ (W : Nat) (xs : List Int) (y : Nat) : drawRows W xs (y + 1) = drawRows W xs y ++ drawRow W xs y W ++ [10] := by simp [drawRows, List.range_succ, List.flatMap_append]
theorem cellBytes_le (x : Int) : (cellBytes x).length ≤ 3 := by unfold cellBytes; split <;> simp
theorem drawRow_le (W : Nat) (xs : List Int) (y : Nat) : ∀ x, (drawRow W xs y x).length ≤ 3 * x := by
  intro x
  induction x with
  | zero => simp [drawRow]
  | succ x ih =>
    rw [drawRow_succ, List.length_append]
    have := cellBytes_le (xs.getD (y * W + x) 0)
    omega
theorem drawRows_le (W : Nat) (xs : List Int) (hW : W ≤ 100) : ∀ y, (drawRows W xs y).length ≤ 301 * y := by
  intro y
  induction y with
  | zero => simp [drawRows]
  | succ y ih =>
    rw [drawRows_succ, List.length_append, List.length_append, List.length_singleton]
    have := drawRow_le W xs y W
    omega
theorem bytes_app (l m : List UInt8) : Lib.byteCells (l ++ m) = Lib.byteCells l ++ Lib.byteCells m := by simp [Lib.byteCells]
theorem bytes_dot : Lib.byteCells [194, 183] = [.int .u8 194, .int .u8 183] := rfl
theorem bytes_disc : Lib.byteCells [226, 151, 143] = [.int .u8 226, .int .u8 151, .int .u8 143] := rfl
theorem bytes_nl : Lib.byteCells [10] = [.int .u8 10] := rfl
theorem shape_bits {W H : Int} {xs : List Int} (h : shapeF W H xs = 0) (k : Nat) (hk : k < xs.length) : xs[k] = 0 ∨ xs[k] = 1 := by
  unfold shapeF at h
  split at h
  · split at h
    · split at h
      · rename_i q
        exact (cellB_iff _).1 (List.all_eq_true.1 q _ (List.getElem_mem hk))
      · cases h
    · cases h
  · cases h

/-- What holds while a drawing is written: the builder at the block that was made for it, all below as it was. -/
structure DW (w2 wr : World) (l : List UInt8) : Prop where
  bld : Bld w2.heap.size w2.heap.size (Lib.byteCells l) wr
  below : Below w2.heap.size w2 wr
theorem DW.start (w2 : World) : DW w2 (w2.alloc (.cells #[.pointer none, .slice none 0 0] 102)) [] := ⟨Lib.fresh_isBuilder _ _ _, (Below.refl _ _).alloc (Nat.le_refl _) _⟩
theorem DW.next {w2 wr w' : World} {l m : List UInt8} (h : DW w2 wr l) (hu : BldU w2.heap.size w2.heap.size (Lib.byteCells l ++ Lib.byteCells m) w') (hb : Below w2.heap.size wr w') : DW w2 w' (l ++ m) := ⟨Or.inr (by rw [bytes_app]; exact hu), h.below.trans hb⟩

theorem runeOf_0 (w : World) : Calls Tryd.prog 78 #[.int .i64 0] w fun e w' => e = .returned (.int .i32 183) ∧ w' = w := by
  go_enter Tryd.func78, Tryd.ntmps78
  go_wp2
  go_ret
  exact ⟨rfl, rfl⟩
theorem runeOf_1 (w : World) : Calls Tryd.prog 78 #[.int .i64 1] w fun e w' => e = .returned (.int .i32 9679) ∧ w' = w := by
  go_enter Tryd.func78, Tryd.ntmps78
  go_wp2
  go_ret
  exact ⟨rfl, rfl⟩

set_option maxRecDepth 100000 in
set_option maxHeartbeats 800000 in
theorem pDraw_bad (W H : Int) (xs : List Int) (a : Option Addr) (n c : Nat) (w : World) (hP : ArgP w xs a n c) (hs : shapeF W H xs ≠ 0) :
    Calls Tryd.prog 29 #[.agg #[.int .i64 W, .int .i64 H, .slice a n c]] w fun e w' => e = .returned (.tuple #[.string ⟨#[]⟩, .iface 87 (.int .i64 (shapeF W H xs : Int))]) ∧ Below w.heap.size w w' := by
  have AP0 := hide' (hP.alloc (.cells #[.int .i64 W, .int .i64 H, .slice a n c] 51))
  obtain ⟨f, hf⟩ : ∃ f, shapeF W H xs = f := ⟨_, rfl⟩
  rw [hf] at hs ⊢
  have HF := hide' hf
  have ER := hide' (show errOf f = .iface 87 (.int .i64 (f : Int)) by unfold errOf; rw [if_neg hs])
  clear hP hf hs
  go_enter Tryd.func29, Tryd.ntmps29
  go_wp2_with fail
  refine (Check_P W H xs a n c _ AP0.out).mono ?_
  rw [HF.out, ER.out]
  rintro e w2 ⟨rfl, b2⟩
  have BB := hide' (show Below w.heap.size w w2 from ((Below.refl _ _).alloc (Nat.le_refl _) _).trans (b2.mono (by simp only [World.size_alloc]; omega)))
  clear b2
  go_wp2
  go_ret2
  exact ⟨rfl, BB.out⟩
end Go.Proofs.YtjngjnkecnnmeaaDoor

