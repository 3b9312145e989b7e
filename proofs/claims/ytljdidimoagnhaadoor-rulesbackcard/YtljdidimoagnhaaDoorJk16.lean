/-
  What the last text of this claim leans on, part 16: Wj3, Wj0, Wb1.
-/
import Derived.Test.YtljdidimoagnhaaDoorJk15
import Derived.Test.YtljdidimoagnhaaDoorProg
import Derived.Test.YtljdidimoagnhaaDoorJk6
import Derived.Shelf.Strings.Builder1
namespace Go.Proofs.YtljdidimoagnhaaDoor
open Go.RowKit
set_option linter.unusedVariables false

def AppPost (B : Nat) (v : Value) (bs news : List Value) (w : World) (e : Ending) (w' : World) : Prop :=
  ∃ v', e = .returned v' ∧ w'.ownsRow B 5 1 v' (bs.length + news.length) (bs ++ news) ∧ ∃ o, (w.alloc o).grownBy w' v.ownBlock

set_option maxHeartbeats 2000000 in
set_option maxRecDepth 100000 in
theorem appendRune_nl (B : Nat) (v : Value) (bs : List Value) (w : World) (hown : w.ownsRow B 5 1 v bs.length bs) (hBw : B ≤ w.heap.size) (hl : bs.length ≤ 1000000) :
    Calls Tryd.prog 152 #[v, .int .i32 10] w (AppPost B v bs [.int .u8 10] w) := by
  obtain ⟨i0, hi, hz0, hz1, hz2⟩ := info_parts info_u8
  go_enter Tryd.func152, Tryd.ntmps152
  go_wp2_with (at_builtin; refine wpList_append_own _ rfl _ _ 105 rfl B 5 i0 (.int .u8 0) 1 1 Tryd.underlying105 hi hz0 hz1 hz2 rfl (by decide) v _ _ rfl (hown.alloc _) ⟨w.heap.size, 0, none⟩ 1 1 [.int .u8 10] rfl rfl (cell_one_new _ _ _) (fun x hx => by simp at hx; subst hx; rfl) (by unfold maxLen; omega) (by omega) (by simp; omega) ?_)
  intro v' w2 hown' hgrow _
  go_wp2
  go_ret
  exact ⟨v', rfl, hown', _, hgrow⟩

set_option maxHeartbeats 2000000 in
set_option maxRecDepth 100000 in
theorem appendNon_dot (B : Nat) (v : Value) (bs : List Value) (w : World) (hown : w.ownsRow B 5 1 v bs.length bs) (hBw : B ≤ w.heap.size) (hl : bs.length ≤ 1000000) :
    Calls Tryd.prog 198 #[v, .int .i32 183] w (AppPost B v bs [.int .u8 194, .int .u8 183] w) := by
  obtain ⟨i0, hi, hz0, hz1, hz2⟩ := info_parts info_u8
  have NB := World.news_of_block (w := w.alloc (.cells #[.int .u8 194, .int .u8 183] 5)) (cs := #[.int .u8 194, .int .u8 183]) (t := 5) (fr := (0, 0)) (heap_alloc_new w _)
  go_enter Tryd.func198, Tryd.ntmps198
  go_wp2_with (at_builtin; refine wpList_append_own _ rfl _ _ 105 rfl B 5 i0 (.int .u8 0) 1 1 Tryd.underlying105 hi hz0 hz1 hz2 rfl (by decide) v _ _ rfl (hown.alloc _) ⟨w.heap.size, 0, none⟩ 2 2 [.int .u8 194, .int .u8 183] rfl rfl NB (fun x hx => by simp at hx; rcases hx with rfl | rfl <;> rfl) (by unfold maxLen; omega) (by omega) (by simp; omega) ?_)
  intro v' w2 hown' hgrow _
  go_wp2
  go_ret
  exact ⟨v', rfl, hown', _, hgrow⟩

set_option maxHeartbeats 2000000 in
set_option maxRecDepth 100000 in
theorem appendNon_disc (B : Nat) (v : Value) (bs : List Value) (w : World) (hown : w.ownsRow B 5 1 v bs.length bs) (hBw : B ≤ w.heap.size) (hl : bs.length ≤ 1000000) :
    Calls Tryd.prog 198 #[v, .int .i32 9679] w (AppPost B v bs [.int .u8 226, .int .u8 151, .int .u8 143] w) := by
  obtain ⟨i0, hi, hz0, hz1, hz2⟩ := info_parts info_u8
  have NB := World.news_of_block (w := w.alloc (.cells #[.int .u8 226, .int .u8 151, .int .u8 143] 5)) (cs := #[.int .u8 226, .int .u8 151, .int .u8 143]) (t := 5) (fr := (0, 0)) (heap_alloc_new w _)
  go_enter Tryd.func198, Tryd.ntmps198
  go_wp2_with (at_builtin; refine wpList_append_own _ rfl _ _ 105 rfl B 5 i0 (.int .u8 0) 1 1 Tryd.underlying105 hi hz0 hz1 hz2 rfl (by decide) v _ _ rfl (hown.alloc _) ⟨w.heap.size, 0, none⟩ 3 3 [.int .u8 226, .int .u8 151, .int .u8 143] rfl rfl NB (fun x hx => by simp at hx; rcases hx with rfl | rfl | rfl <;> rfl) (by unfold maxLen; omega) (by omega) (by simp; omega) ?_)
  intro v' w2 hown' hgrow _
  go_wp2
  go_ret
  exact ⟨v', rfl, hown', _, hgrow⟩

set_option maxHeartbeats 2000000 in
set_option maxRecDepth 100000 in
theorem appendRune_dot (B : Nat) (v : Value) (bs : List Value) (w : World) (hown : w.ownsRow B 5 1 v bs.length bs) (hBw : B ≤ w.heap.size) (hl : bs.length ≤ 1000000) :
    Calls Tryd.prog 152 #[v, .int .i32 183] w (AppPost B v bs [.int .u8 194, .int .u8 183] w) := by
  go_enter Tryd.func152, Tryd.ntmps152
  go_wp2_with fail
  refine (appendNon_dot B v bs _ hown hBw hl).mono ?_
  rintro e w2 ⟨v', rfl, hown', o, hgrow⟩
  go_wp2
  go_ret
  exact ⟨v', rfl, hown', _, hgrow⟩

set_option maxHeartbeats 2000000 in
set_option maxRecDepth 100000 in
theorem appendRune_disc (B : Nat) (v : Value) (bs : List Value) (w : World) (hown : w.ownsRow B 5 1 v bs.length bs) (hBw : B ≤ w.heap.size) (hl : bs.length ≤ 1000000) :
    Calls Tryd.prog 152 #[v, .int .i32 9679] w (AppPost B v bs [.int .u8 226, .int .u8 151, .int .u8 143] w) := by
  go_enter Tryd.func152, Tryd.ntmps152
  go_wp2_with fail
  refine (appendNon_disc B v bs _ hown hBw hl).mono ?_
  rintro e w2 ⟨v', rfl, hown', o, hgrow⟩
  go_wp2
  go_ret
  exact ⟨v', rfl, hown', _, hgrow⟩

def RuneIs (r : Int) (news : List Value) : Prop := ∀ (B : Nat) (v : Value) (bs : List Value) (w : World), w.ownsRow B 5 1 v bs.length bs → B ≤ w.heap.size → bs.length ≤ 1000000 →
  Calls Tryd.prog 152 #[v, .int .i32 r] w (AppPost B v bs news w)
theorem rune_nl : RuneIs 10 [.int .u8 10] := appendRune_nl
theorem rune_dot : RuneIs 183 [.int .u8 194, .int .u8 183] := appendRune_dot
theorem rune_disc : RuneIs 9679 [.int .u8 226, .int .u8 151, .int .u8 143] := appendRune_disc

set_option maxHeartbeats 2000000 in
set_option maxRecDepth 100000 in
theorem writeRune_any (r : Int) (news : List Value) (hr : RuneIs r news) (h0 : 0 < news.length) (h4 : news.length ≤ 4) (B b : Nat) (bs : List Value) (w : World) (h : Bld B b bs w) (hBw : B ≤ w.heap.size) (hl : bs.length ≤ 1000000) :
    Calls Tryd.prog 95 #[.pointer (some ⟨b, 0, none⟩), .int .i32 r] w fun e w' => e = .returned (.tuple #[.int .i64 news.length, .nilIface]) ∧ BldU B b (bs ++ news) w' ∧ Below B w w' := by
  have HR := hide' hr
  have HH := hide' h
  clear h hr
  go_enter Tryd.func95, Tryd.ntmps95
  go_wp2_with fail
  refine (copyCheck_any B b bs _ HH.out).mono ?_
  rintro e w1 ⟨rfl, ⟨hB, v, hbk, hown, hne⟩, hb1⟩
  obtain ⟨sa, cap, rfl⟩ : ∃ sa cap, v = .slice sa bs.length cap := by
    rcases hown.2 with ⟨hv, e0⟩ | ⟨g, cap, cur, hv, _⟩
    · exact ⟨none, 0, by rw [hv, e0]⟩
    · exact ⟨_, _, hv⟩
  have c0 : w1.cell? ⟨b, 0, none⟩ = some (.pointer (some ⟨b, 0, none⟩)) := by rw [Lib.cell_of_heap hbk]; rfl
  have c1 : w1.cell? ⟨b, 1, none⟩ = some (.slice sa bs.length cap) := by rw [Lib.cell_of_heap hbk]; rfl
  have hs1 := hb1.size
  have OW := hide' hown
  have HB1 := hide' hb1
  have HBK := hide' hbk
  have HNE := hide' hne
  clear hown hb1 hbk hne
  go_wp2_with fail
  refine (HR.out B _ bs _ OW.out (by omega) hl).mono ?_
  rintro e w2 ⟨v', rfl, hown', o, hgrow⟩
  have hlt : b < w1.heap.size := Array.getElem?_eq_some_iff.1 HBK.out |>.1
  have hb2 : w2.heap[b]? = some (.cells #[.pointer (some ⟨b, 0, none⟩), .slice sa bs.length cap] 112 (0, 0)) := by
    rw [hgrow.block b (by simp; omega) (fun e => HNE.out e.symm), Lib.alloc_old w1 _ b hlt]
    exact HBK.out
  have d0 : w2.cell? ⟨b, 0, none⟩ = some (.pointer (some ⟨b, 0, none⟩)) := by rw [Lib.cell_of_heap hb2]; rfl
  have d1 : w2.cell? ⟨b, 1, none⟩ = some (.slice sa bs.length cap) := by rw [Lib.cell_of_heap hb2]; rfl
  have f1 : w2.frozen? ⟨b, 1, none⟩ = false := Lib.frozen_of_heap hb2 1
  obtain ⟨g, cap', rfl⟩ : ∃ g cap', v' = .slice (some ⟨g, 0, none⟩) (bs.length + news.length) cap' := by
    rcases hown'.2 with ⟨_, e0⟩ | ⟨g, cap', cur, hv, _⟩
    · omega
    · exact ⟨g, cap', hv⟩
  have HG := hide' hgrow
  have HO := hide' hown'
  have H2 := hide' hb2
  clear hgrow hown' hb2
  go_wp2
  go_ret2
  refine ⟨by simp; omega, Lib.BuilderAt.put hB H2.out (bs' := bs ++ news) (by simpa using HO.out) (by decide), ?_⟩
  exact ((HB1.out.alloc (by omega) _).grown HG.out (by simp; omega) (fun k hk => (OW.out.lt k hk).1)).setCell (p := ⟨b, 1, none⟩) hB _
end Go.Proofs.YtljdidimoagnhaaDoor

namespace Go.Proofs
open Go.Shelf
def Tryd.lays169_ren : Go.Shelf.Ren := ⟨fun | 169 => 94 | n => n, fun | 70 => 110 | 9 => 9 | 0 => 0 | 72 => 112 | 37 => 105 | 127 => 162 | 3 => 3 | 5 => 5 | n => n, fun | n => n⟩
theorem Tryd.lays169 : Go.Proofs.Lays.n169 Tryd.prog Tryd.lays169_ren := {
  mixed := by kernel_rfl
  f169 := Tryd.func94.trans (congrArg some (by kernel_rfl))
  t0 := Tryd.underlying0
  a0 := Tryd.isAgg0
  z0 := Tryd.sizeOf0
  v0 := Tryd.zeroValue0
  t3 := Tryd.underlying3
  a3 := Tryd.isAgg3
  z3 := Tryd.sizeOf3
  v3 := Tryd.zeroValue3
  t9 := Tryd.underlying9
  a9 := Tryd.isAgg9
  z9 := Tryd.sizeOf9
  v9 := Tryd.zeroValue9
  t37 := Tryd.underlying105
  a37 := Tryd.isAgg105
  z37 := Tryd.sizeOf105
  v37 := Tryd.zeroValue105
  t70 := Tryd.underlying110
  a70 := Tryd.isAgg110
  z70 := Tryd.sizeOf110
  v70 := Tryd.zeroValue110
  t72 := Tryd.underlying112
  a72 := Tryd.isAgg112
  z72 := Tryd.sizeOf112
  v72 := Tryd.zeroValue112
  t127 := Tryd.underlying162
  a127 := Tryd.isAgg162
  z127 := Tryd.sizeOf162
  v127 := Tryd.zeroValue162 }
theorem Tryd.Builder_Extra_169 : Builder.Extra Tryd.prog Tryd.lays169_ren := {
  sizeBuilder := by kernel_rfl
  liesBuilder := by kernel_rfl
  t5 := Tryd.underlying5
  a5 := Tryd.isAgg5
  z5 := Tryd.sizeOf5
  v5 := Tryd.zeroValue5
  infoByte := by kernel_rfl
  cellsByte := by kernel_rfl
  sizeByte := by kernel_rfl
  neB5 := by decide }

open Go.RowKit in
theorem Tryd.bldString_any (B b : Nat) (l : List UInt8) (w : World) (h : Lib.IsBuilder 112 5 B b (Lib.byteCells l) w) (hBw : B ≤ w.heap.size) :
    Calls Tryd.prog 94 #[.pointer (some ⟨b, 0, none⟩)] w fun e w' => e = .returned (.string ⟨l.toArray⟩) ∧ Below B w w' := Any.Builder_String_any Tryd.lays169 Tryd.Builder_Extra_169 B b l w h hBw
end Go.Proofs

namespace Go.Proofs.YtljdidimoagnhaaDoor
open Go.RowKit
set_option linter.unusedVariables false

/-- Where a cell goes when its pattern is mirrored; turned by a quarter. -/
def mirI (W H i : Nat) : Nat := i / W * W + (W - 1 - i % W)
def qtrI (W H i : Nat) : Nat := i % W * H + (H - 1 - i / W)
/-- The pattern mirrored; turned by a quarter (as wide as it was high). -/
def mirP (W H : Nat) (xs : List Int) : List Int := (List.range (W * H)).map fun q => xs.getD (q / W * W + (W - 1 - q % W)) 0
def qtrP (W H : Nat) (xs : List Int) : List Int := (List.range (H * W)).map fun q => xs.getD ((H - 1 - q % H) * W + q / H) 0
theorem mirP_length (W H : Nat) (xs : List Int) : (mirP W H xs).length = W * H := by simp [mirP]
theorem qtrP_length (W H : Nat) (xs : List Int) : (qtrP W H xs).length = H * W := by simp [qtrP]

theorem divmod_mk (W y x : Nat) (hx : x < W) : (y * W + x) / W = y ∧ (y * W + x) % W = x := by
  constructor
  · rw [Nat.mul_comm, Nat.mul_add_div (by omega), Nat.div_eq_of_lt hx]; omega
  · rw [Nat.mul_comm, Nat.mul_add_mod, Nat.mod_eq_of_lt hx]
theorem split_lt {W H i : Nat} (hi : i < W * H) : ∃ x y, x < W ∧ y < H ∧ i % W = x ∧ i / W = y ∧ y * W + x = i := by
  have hW : 0 < W := by
    rcases Nat.eq_zero_or_pos W with h | h
    · rw [h, Nat.zero_mul] at hi; omega
    · exact h
  refine ⟨i % W, i / W, Nat.mod_lt _ hW, ?_, rfl, rfl, ?_⟩
  · rw [Nat.div_lt_iff_lt_mul hW, Nat.mul_comm]; exact hi
  · rw [Nat.mul_comm]; exact Nat.div_add_mod i W
theorem mk_lt {W H x y : Nat} (hx : x < W) (hy : y < H) : y * W + x < W * H := by
  have := Nat.mul_le_mul_right W (show y + 1 ≤ H by omega)
  rw [Nat.add_mul, Nat.mul_comm H W] at this
  omega
theorem mirI_lt {W H i : Nat} (hi : i < W * H) : mirI W H i < W * H := by
  obtain ⟨x, y, h1, h2, h3, h4, h5⟩ := split_lt hi
  unfold mirI
  rw [h3, h4]
  exact mk_lt (by omega) h2
theorem mirI_mirI {W H i : Nat} (hi : i < W * H) : mirI W H (mirI W H i) = i := by
  obtain ⟨x, y, h1, h2, h3, h4, h5⟩ := split_lt hi
  obtain ⟨d, m⟩ := divmod_mk W y (W - 1 - x) (by omega)
  unfold mirI
  rw [h3, h4, d, m]
  omega
theorem qtrI_lt {W H i : Nat} (hi : i < W * H) : qtrI W H i < H * W := by
  obtain ⟨x, y, h1, h2, h3, h4, h5⟩ := split_lt hi
  unfold qtrI
  rw [h3, h4]
  exact mk_lt (by omega) h1
/-- The way back from a quarter. -/
def qtrJ (W H q : Nat) : Nat := (H - 1 - q % H) * W + q / H
theorem qtrJ_qtrI {W H i : Nat} (hi : i < W * H) : qtrJ W H (qtrI W H i) = i := by
  obtain ⟨x, y, h1, h2, h3, h4, h5⟩ := split_lt hi
  obtain ⟨d, m⟩ := divmod_mk H x (H - 1 - y) (by omega)
  unfold qtrJ qtrI
  rw [h3, h4, d, m, show H - 1 - (H - 1 - y) = y by omega]
  exact h5
theorem qtrJ_lt {W H q : Nat} (hq : q < H * W) : qtrJ W H q < W * H := by
  obtain ⟨x, y, h1, h2, h3, h4, h5⟩ := split_lt hq
  unfold qtrJ
  rw [h3, h4]
  exact mk_lt h2 (by omega)
theorem qtrI_qtrJ {W H q : Nat} (hq : q < H * W) : qtrI W H (qtrJ W H q) = q := by
  obtain ⟨x, y, h1, h2, h3, h4, h5⟩ := split_lt hq
  obtain ⟨d, m⟩ := divmod_mk W (H - 1 - x) y h2
  unfold qtrI qtrJ
  rw [h3, h4, d, m, show H - 1 - (H - 1 - x) = x by omega]
  exact h5

/-- At block g a list of n ints of the call's own; what stands at f i, for i below k, is xs' i-th. -/
structure ScJ (w0 w : World) (g n k : Nat) (f : Nat → Nat) (xs : List Int) : Prop where
  below : Below w0.heap.size w0 w
  ge : w0.heap.size ≤ g
  lt : g < w.heap.size
  cells : ∀ j, j < n → ∃ v, w.cell? ⟨g, j, none⟩ = some v ∧ (∀ i, i < k → f i = j → v = .int .i64 (xs.getD i 0))
  fz : ∀ j, w.frozen? ⟨g, j, none⟩ = false
theorem ScJ.step {w0 w : World} {g n k : Nat} {f : Nat → Nat} {xs : List Int} (h : ScJ w0 w g n k f xs) (hk : f k < n) (hinj : ∀ i, i < k → f i ≠ f k) {x : Int} (hx : xs.getD k 0 = x) : ScJ w0 (w.setCell ⟨g, f k, none⟩ (.int .i64 x)) g n (k + 1) f xs := by
  refine ⟨h.below.setCell h.ge _, h.ge, by rw [World.size_setCell]; exact h.lt, fun j hj => ?_, fun j => by rw [World.frozen?_setCell]; exact h.fz j⟩
  by_cases e : j = f k
  · subst e
    obtain ⟨v, hv, -⟩ := h.cells _ hj
    refine ⟨_, World.cell?_setCell_same _ _ _ hv, fun i hi he => ?_⟩
    by_cases q : i = k
    · subst q; rw [hx]
    · exact absurd he (hinj i (by omega))
  · obtain ⟨v, hv, hv'⟩ := h.cells j hj
    refine ⟨v, ?_, fun i hi he => hv' i (by have : i ≠ k := fun q => e (by rw [← he, q]); omega) he⟩
    exact (World.cell?_setCell_other _ ⟨g, f k, none⟩ ⟨g, j, none⟩ _ (fun q => e (congrArg Addr.off q).symm)).trans hv
theorem ScJ.drewN {w0 w : World} {g n k : Nat} {f : Nat → Nat} {xs : List Int} (h : ScJ w0 w g n k f xs) (m : Nat) : ScJ w0 (w.drewN m) g n k f xs :=
  ⟨h.below.trans ⟨rfl, rfl, rfl, Nat.le_refl _, fun _ _ => rfl⟩, h.ge, h.lt, h.cells, h.fz⟩
theorem ScJ.start {w0 w : World} {g n : Nat} (f : Nat → Nat) (xs ys : List Int) (hb : Below w0.heap.size w0 w) (hg : w0.heap.size ≤ g) (hc : Cel w g ys) (hn : ys.length = n) : ScJ w0 w g n 0 f xs :=
  ⟨hb, hg, hc.lt, fun j hj => ⟨_, hc.cells j (by omega), fun i hi => by omega⟩, hc.fz⟩
theorem ScJ.cel {w0 w : World} {g n : Nat} {f fi : Nat → Nat} {xs : List Int} (h : ScJ w0 w g n n f xs) (h1 : ∀ j, j < n → fi j < n) (h2 : ∀ j, j < n → f (fi j) = j) : Cel w g ((List.range n).map fun j => xs.getD (fi j) 0) := by
  refine ⟨h.lt, fun k hk => ?_, h.fz⟩
  simp only [List.length_map, List.length_range] at hk
  obtain ⟨v, hv, hv'⟩ := h.cells k hk
  rw [hv, hv' (fi k) (h1 k hk) (h2 k hk)]
  simp [List.getD, hk]
end Go.Proofs.YtljdidimoagnhaaDoor

