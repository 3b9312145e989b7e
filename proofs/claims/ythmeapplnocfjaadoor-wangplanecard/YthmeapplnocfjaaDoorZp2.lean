/-
  What the last text of this claim leans on, part 2: Wq2, Wq3, Wq4, Wq5, Wq7, Wx1.
-/
import Derived.Test.YthmeapplnocfjaaDoorZp1
import Derived.Deep.RegionHeld3
import Derived.Deep.CutRange
import Derived.BigRegion
import Derived.BigQuiet
import Derived.Deep.DeepCutAuto
import Derived.Deep.LoopGhost
import Derived.Laws.MakeOwn
import Derived.Deep.OwnRows
import Derived.Laws.ResultCell
namespace Go.Proofs.YthmeapplnocfjaaDoor
open Go.RowKit
set_option linter.unusedVariables false
set_option linter.unusedSimpArgs false
/-- A tile as it comes in: up, right, down, left. -/
structure TlT where
  u : Int
  r : Int
  d : Int
  l : Int
def tlz : TlT := ⟨0, 0, 0, 0⟩
/-- Tiles that lie in a row. -/
structure ArgT (w : World) (xs : List TlT) (a : Option Addr) (n c : Nat) : Prop where
  len : n = xs.length
  max : n ≤ maxLen
  cells : ∀ k, k < xs.length → ∃ g off, a = some ⟨g, off, none⟩ ∧ g < w.heap.size ∧ w.cell? ⟨g, off + k * 4, none⟩ = some (.int .i64 (xs.getD k tlz).u) ∧ w.cell? ⟨g, off + k * 4 + 1, none⟩ = some (.int .i64 (xs.getD k tlz).r) ∧ w.cell? ⟨g, off + k * 4 + 2, none⟩ = some (.int .i64 (xs.getD k tlz).d) ∧ w.cell? ⟨g, off + k * 4 + 3, none⟩ = some (.int .i64 (xs.getD k tlz).l)
theorem ArgT.below {w V : World} {xs : List TlT} {a : Option Addr} {n c : Nat} (h : ArgT w xs a n c) (b : Below w.heap.size w V) : ArgT V xs a n c :=
  ⟨h.len, h.max, fun k hk => by
    obtain ⟨g, off, e, hg, c0, c1, c2, c3⟩ := h.cells k hk
    exact ⟨g, off, e, Nat.lt_of_lt_of_le hg b.size, (b.cell hg).trans c0, (b.cell hg).trans c1, (b.cell hg).trans c2, (b.cell hg).trans c3⟩⟩
/-- A colour; those of a tile; what is wrong with tiles. -/
def clB (x : Int) : Bool := decide (0 ≤ x) && decide (x ≤ 7)
def tlB (t : TlT) : Bool := clB t.u && clB t.r && clB t.d && clB t.l
def tlF (xs : List TlT) : Nat := if xs.length < 1 ∨ 16 < xs.length then 4 else if xs.all tlB = true then 0 else 1
def tlC (t : TlT) : Nat → Int
  | 0 => t.u
  | 1 => t.r
  | 2 => t.d
  | _ => t.l
theorem tlB_of {t : TlT} (h : ∀ j, j < 4 → 0 ≤ tlC t j ∧ tlC t j ≤ 7) : tlB t = true := by
  have h0 := h 0 (by omega)
  have h1 := h 1 (by omega)
  have h2 := h 2 (by omega)
  have h3 := h 3 (by omega)
  unfold tlC at h0 h1 h2 h3
  simp only at h0 h1 h2 h3
  unfold tlB clB
  simp [h0.1, h0.2, h1.1, h1.2, h2.1, h2.2, h3.1, h3.2]
theorem tlB_no {t : TlT} {j : Nat} (hj : j < 4) (h : ¬ (0 ≤ tlC t j ∧ tlC t j ≤ 7)) : tlB t = false := by
  match j, hj with
  | 0, _ => have h' : ¬ (0 ≤ t.u ∧ t.u ≤ 7) := h; unfold tlB clB; simp; intros; omega
  | 1, _ => have h' : ¬ (0 ≤ t.r ∧ t.r ≤ 7) := h; unfold tlB clB; simp; intros; omega
  | 2, _ => have h' : ¬ (0 ≤ t.d ∧ t.d ≤ 7) := h; unfold tlB clB; simp; intros; omega
  | 3, _ => have h' : ¬ (0 ≤ t.l ∧ t.l ≤ 7) := h; unfold tlB clB; simp; intros; omega
theorem all_noT {xs : List TlT} {k : Nat} (hk : k < xs.length) (h : tlB (xs.getD k tlz) = false) : ¬ xs.all tlB = true := fun q => by
  rw [List.all_eq_true] at q
  have := q xs[k] (List.getElem_mem hk)
  rw [List.getD, List.getElem?_eq_getElem hk] at h
  rw [show tlB xs[k] = false from h] at this
  cases this
theorem all_yesT {xs : List TlT} (h : ∀ k, k < xs.length → tlB (xs.getD k tlz) = true) : xs.all tlB = true := by
  rw [List.all_eq_true]
  intro t ht
  obtain ⟨k, hk, rfl⟩ := List.getElem_of_mem ht
  have := h k hk
  rw [List.getD, List.getElem?_eq_getElem hk] at this
  exact this
theorem lt_blockT {w : World} {p : Nat} {o : Obj} (h : w.heap[p]? = some o) : p < w.heap.size := (Array.getElem?_eq_some_iff.1 h).1
/-- What is wrong with tiles and sides; with cells. -/
def sdF (xs : List TlT) (W H : Int) : Nat := if tlF xs = 0 then if W < 1 ∨ 5 < W ∨ H < 1 ∨ 5 < H then 1 else 0 else tlF xs
def ceF (n : Nat) (W H : Int) (zs : List Int) : Nat := if ((zs.length : Nat) : Int) = W * H then if zs.all (fun z => decide (0 ≤ z) && decide (z < (n : Int))) = true then 0 else 1 else 3
end Go.Proofs.YthmeapplnocfjaaDoor

namespace Go.Proofs.YthmeapplnocfjaaDoor
open Go.RowKit
set_option linter.unusedVariables false
set_option linter.unusedSimpArgs false
/-- Numbers as they are read. -/
def CelW (V : World) (a : Option Addr) (m : Nat) (c : Nat → Nat) : Prop := ∃ g off, a = some ⟨g, off, none⟩ ∧ g < V.heap.size ∧ ∀ i, i < m → V.cell? ⟨g, off + i, none⟩ = some (.int .i64 ((c i : Nat) : Int))
theorem CelW.below {w V : World} {a : Option Addr} {m : Nat} {c : Nat → Nat} (h : CelW w a m c) (b : Below w.heap.size w V) : CelW V a m c := by
  obtain ⟨g, off, e, hg, hc⟩ := h
  exact ⟨g, off, e, Nat.lt_of_lt_of_le hg b.size, fun i hi => (b.cell hg).trans (hc i hi)⟩
/-- A place fits to those ahead of it, and to those with which it closes a ring. -/
def okW (xs : List TlT) (W H : Nat) (ring : Bool) (k : Nat) (c : Nat → Nat) : Prop :=
  (0 < k % W → (xs.getD (c (k - 1)) tlz).r = (xs.getD (c k) tlz).l) ∧ (0 < k / W → (xs.getD (c (k - W)) tlz).d = (xs.getD (c k) tlz).u) ∧
  (ring = true → k % W + 1 = W → (xs.getD (c k) tlz).r = (xs.getD (c (k - k % W)) tlz).l) ∧ (ring = true → k / W + 1 = H → (xs.getD (c k) tlz).d = (xs.getD (c (k % W)) tlz).u)
theorem okW_loc (xs : List TlT) (W H : Nat) (ring : Bool) : LocW (okW xs W H ring) := fun k c d e h => by
  have m := Nat.mod_le k W
  unfold okW at h ⊢
  rw [← e k (Nat.le_refl _), ← e (k - 1) (by omega), ← e (k - W) (by omega), ← e (k - k % W) (by omega), ← e (k % W) m]
  exact h
/-- An answer that says whether. -/
def BoW (p : Prop) (e : Ending) : Prop := ∃ z : Bool, e = .returned (.bool z) ∧ (z = true ↔ p)
/-- What lies there while it is looked: the tile itself. -/
def FtS (w wx : World) (t : TlT) : Prop := Below w.heap.size w wx ∧ wx.heap[w.heap.size]? = some (.cells #[.int .i64 t.u, .int .i64 t.r, .int .i64 t.d, .int .i64 t.l] 47 (0, 0))
theorem FtS.keep {w wx V : World} {t : TlT} (h : FtS w wx t) (b : Below wx.heap.size wx V) : FtS w V t := ⟨h.1.trans (b.mono h.1.size), (b.block _ (lt_blockT h.2)).trans h.2⟩
end Go.Proofs.YthmeapplnocfjaaDoor

namespace Go.Proofs.YthmeapplnocfjaaDoor
open Go.RowKit
set_option linter.unusedVariables false
set_option linter.unusedSimpArgs false
/-- An array of numbers, told by a function. -/
def arrW (n : Nat) (f : Nat → Int) : Array Value := ((List.range n).map fun i => .int .i64 (f i)).toArray
theorem arrW_get {n k : Nat} (f : Nat → Int) (h : k < n) : (arrW n f)[k]? = some (.int .i64 (f k)) := by simp [arrW, h]
theorem arrW_set (n i : Nat) (f : Nat → Int) (v : Int) : (arrW n f).setIfInBounds i (.int .i64 v) = arrW n (fun k => if k = i then v else f k) := by
  apply Array.ext
  · simp [arrW]
  · intro k h1 h2
    simp only [arrW, List.getElem_toArray, List.getElem_map, List.getElem_range]
    by_cases q : k = i
    · simp [q]
    · simp [q, Ne.symm q]
/-- A row of numbers as it lies. -/
def RowW (V : World) (g n : Nat) (f : Nat → Int) : Prop := V.heap[g]? = some (.cells (arrW n f) 3 (0, 0))
theorem RowW.cell {V : World} {g n : Nat} {f : Nat → Int} (h : RowW V g n f) {k : Nat} (hk : k < n) : V.cell? ⟨g, k, none⟩ = some (.int .i64 (f k)) := by rw [cell_of_row V _ _ _ _ _ h, arrW_get _ hk]
theorem RowW.set {V : World} {g n : Nat} {f : Nat → Int} (h : RowW V g n f) (k : Nat) (v : Int) : RowW (V.setCell ⟨g, k, none⟩ (.int .i64 v)) g n (fun i => if i = k then v else f i) := by
  unfold RowW
  rw [heap_setCell_same _ _ _ _ _ _ h, arrW_set]
theorem RowW.keep {V V' : World} {g n : Nat} {f : Nat → Int} (h : RowW V g n f) (b : Below V.heap.size V V') : RowW V' g n f := (b.block g (lt_blockT h)).trans h
theorem infoW : (Tryd.prog.info? 3).map (fun i => (i.zero, i.size, i.bytes)) = some (some (.int .i64 0), 1, 8) := by kernel_rfl
end Go.Proofs.YthmeapplnocfjaaDoor

namespace Go.Proofs.YthmeapplnocfjaaDoor
open Go.RowKit
set_option linter.unusedVariables false
set_option linter.unusedSimpArgs false
/-- No ring so high and so wide. -/
def NoRg (xs : List TlT) (n v h : Nat) : Prop := NoneW n (v * h) (okW xs v h true)
/-- Of this size nothing is told: no ring, and the square is filled. -/
def LevW (xs : List TlT) (n s : Nat) : Prop := (∀ h v, 1 ≤ h → h ≤ s → 1 ≤ v → v ≤ s → (v = s ∨ h = s) → NoRg xs n v h) ∧ ¬ NoneW n (s * s) (okW xs s s false)
/-- No ring of this size ahead of this one. -/
def PreW (xs : List TlT) (n s h v : Nat) : Prop := ∀ h' v', 1 ≤ h' → h' ≤ s → 1 ≤ v' → v' ≤ s → (v' = s ∨ h' = s) → (h' < h ∨ (h' = h ∧ v' < v)) → NoRg xs n v' h'
/-- A ring is told; a square; neither. -/
def DecT (xs : List TlT) (n most v h : Nat) : Prop := ∃ s, 1 ≤ s ∧ s ≤ most ∧ (∀ r, 1 ≤ r → r < s → LevW xs n r) ∧ 1 ≤ h ∧ h ≤ s ∧ 1 ≤ v ∧ v ≤ s ∧ (v = s ∨ h = s) ∧ PreW xs n s h v ∧ ¬ NoRg xs n v h
def DecS (xs : List TlT) (n most s : Nat) : Prop := 1 ≤ s ∧ s ≤ most ∧ (∀ r, 1 ≤ r → r < s → LevW xs n r) ∧ (∀ h v, 1 ≤ h → h ≤ s → 1 ≤ v → v ≤ s → (v = s ∨ h = s) → NoRg xs n v h) ∧ NoneW n (s * s) (okW xs s s false)
def DecL (xs : List TlT) (n most : Nat) : Prop := ∀ r, 1 ≤ r → r ≤ most → LevW xs n r
theorem results_rowW {P : Program} {fn : Func} {p u : Tmp} {ty : TypeId} (h : fn.results = #[.cell p ty, .tmp u]) (tmps : Array Value) (w : World) (g : Nat) (t : TypeId) (cs : Array Value) (fr : Nat × Nat) (d : TypeDesc)
    (hp : tmps.getD p undef = .pointer (some ⟨g, 0, none⟩)) (hg : w.heap[g]? = some (.cells cs t fr))
    (hu : P.underlying ty = some d) (hd : (match d with | .struct _ | .array _ _ => true | _ => false) = true) (hi : (P.info? ty).map (·.size) = some cs.size) :
    (results fn tmps).run P w = .ok (.tuple #[.agg cs, tmps.getD u undef]) w := by
  have hp' : tmps[p]?.getD undef = .pointer (some ⟨g, 0, none⟩) := by simpa using hp
  simp [results, h, hp', asAddr, run_loadVar_row w g t ty cs fr d hg hu hd hi]
theorem belowW_set {B : Nat} {a w : World} (h : Below B a w) {g : Nat} (hg : B ≤ g) (cs : Array Value) : Below B a (w.setRow g cs) := h.trans ⟨rfl, rfl, rfl, by simp, fun k hk => setRow_other _ _ _ _ (by omega)⟩
/-- The answer's place while it is looked for. -/
def DsS (w wr : World) : Prop := Below w.heap.size w wr ∧ wr.heap[w.heap.size]? = some (.cells #[.bool false, .int .i64 0, .int .i64 0, .slice none 0 0] 40 (0, 0))
theorem DsS.keep {w wr V : World} (h : DsS w wr) (b : Below wr.heap.size wr V) : DsS w V := ⟨h.1.trans (b.mono h.1.size), (b.block _ (lt_blockT h.2)).trans h.2⟩
end Go.Proofs.YthmeapplnocfjaaDoor

namespace Go.Proofs.YthmeapplnocfjaaDoor
open Go.RowKit
set_option linter.unusedVariables false
set_option linter.unusedSimpArgs false
theorem drewW {B : Nat} {w V : World} (h : Below B w V) (k : Nat) : Below B w (V.drewN k) := ⟨h.os, h.tape, h.output, h.size, h.block⟩
theorem nilW (w : World) : ArgP w [] none 0 0 := ⟨rfl, by simp, fun k hk => absurd hk (by simp)⟩
/-- Do all places fit. -/
def AllW (xs : List TlT) (W H : Nat) (ring : Bool) (zs : List Int) : Prop := ∀ k, k < W * H → okW xs W H ring k (fun i => (zs.getD i 0).toNat)
/-- What wang.Fits ought to answer. -/
def FtA (xs : List TlT) (n : Nat) (W H : Int) (zs : List Int) (ring : Bool) (e : Ending) : Prop :=
  (sdF xs W H ≠ 0 ∧ e = .returned (.tuple #[.bool false, errOf (sdF xs W H)]))
  ∨ (sdF xs W H = 0 ∧ ceF n W H zs ≠ 0 ∧ e = .returned (.tuple #[.bool false, errOf (ceF n W H zs)]))
  ∨ (sdF xs W H = 0 ∧ ceF n W H zs = 0 ∧ ∃ b, e = .returned (.tuple #[.bool b, .nilIface]) ∧ (b = true ↔ AllW xs W.toNat H.toNat ring zs))
theorem sdF_ok {xs : List TlT} {W H : Int} (h : sdF xs W H = 0) : tlF xs = 0 ∧ 1 ≤ xs.length ∧ xs.length ≤ 16 ∧ ∃ v u : Nat, W = (v : Int) ∧ H = (u : Int) ∧ 1 ≤ v ∧ v ≤ 5 ∧ 1 ≤ u ∧ u ≤ 5 := by
  unfold sdF at h
  split at h
  · rename_i q
    split at h
    · cases h
    · rename_i q2
      have q3 := q
      unfold tlF at q3
      split at q3
      · cases q3
      · rename_i q4
        exact ⟨q, by omega, by omega, W.toNat, H.toNat, by omega, by omega, by omega, by omega, by omega, by omega⟩
  · rename_i q
    exact absurd h q
theorem ceF_ok {n W H : Nat} {zs : List Int} (h : ceF n W H zs = 0) : zs.length = W * H ∧ ∀ i, i < W * H → 0 ≤ zs.getD i 0 ∧ zs.getD i 0 < (n : Int) := by
  unfold ceF at h
  split at h
  · rename_i q
    split at h
    · rename_i q2
      have hl : zs.length = W * H := by have : ((W * H : Nat) : Int) = (W : Int) * (H : Int) := by push_cast; rfl
                                        omega
      refine ⟨hl, fun i hi => ?_⟩
      have hi' : i < zs.length := by omega
      rw [List.all_eq_true] at q2
      have := q2 zs[i] (List.getElem_mem hi')
      rw [List.getD, List.getElem?_eq_getElem hi']
      simpa using this
    · cases h
  · cases h
theorem celW_arg {w : World} {zs : List Int} {a : Option Addr} {m c : Nat} (h : ArgP w zs a m c) (h0 : 0 < zs.length) (hz : ∀ i, i < zs.length → 0 ≤ zs.getD i 0) : CelW w a zs.length (fun i => (zs.getD i 0).toNat) := by
  obtain ⟨g, off, rfl, hg, -⟩ := h.cells 0 h0
  refine ⟨g, off, rfl, hg, fun i hi => ?_⟩
  obtain ⟨g', off', e, -, hc⟩ := h.cells i hi
  cases e
  rw [hc]
  have h1 := hz i hi
  have e1 : zs[i] = zs.getD i 0 := by simp [List.getD, hi]
  rw [e1, Int.toNat_of_nonneg h1]
/-- A thing that was decided is told, and a word besides. -/
def DecA (w : World) (tor : Bool) (wd hg : Int) (ys : List Int) (x : Value) (e : Ending) (w' : World) : Prop := ∃ a n c, e = .returned (.tuple #[.agg #[.bool tor, .int .i64 wd, .int .i64 hg, .slice a n c], x]) ∧ Hid (ArgP w' ys a n c) ∧ Hid (Below w.heap.size w w')
/-- What wang.Decide ought to answer. -/
def WdA (xs : List TlT) (n : Nat) (M : Int) (V : World) (e : Ending) (w' : World) : Prop :=
  (sdF xs M M ≠ 0 ∧ DecA V false 0 0 [] (errOf (sdF xs M M)) e w')
  ∨ (sdF xs M M = 0 ∧ DecL xs n M.toNat ∧ DecA V false 0 0 [] (errOf 6) e w')
  ∨ (sdF xs M M = 0 ∧ ∃ s, DecS xs n M.toNat s ∧ DecA V false (s : Int) (s : Int) [] .nilIface e w')
  ∨ (sdF xs M M = 0 ∧ ∃ v h c, DecT xs n M.toNat v h ∧ FirstW n (v * h) (okW xs v h true) c ∧ DecA V true (v : Int) (h : Int) ((List.range (v * h)).map fun i => ((c i : Nat) : Int)) .nilIface e w')
end Go.Proofs.YthmeapplnocfjaaDoor

namespace Go.Proofs.YthmeapplnocfjaaDoor
open Go.RowKit
set_option linter.unusedVariables false
set_option linter.unusedSimpArgs false
theorem index_fourW (a b c d : Int) (i : Nat) (hi : i < 4) (w : World) : (Instr.index 50 (.agg #[.int .i64 a, .int .i64 b, .int .i64 c, .int .i64 d]) (.int .i64 (i : Int))).run Tryd.prog w = .ok (.int .i64 (tlC ⟨a, b, c, d⟩ i)) w := by
  match i, hi with
  | 0, _ => exact (show (Instr.index 50 (.agg #[.int .i64 a, .int .i64 b, .int .i64 c, .int .i64 d]) (.int .i64 0)).run Tryd.prog w = .ok (.int .i64 a) w by kernel_rfl)
  | 1, _ => exact (show (Instr.index 50 (.agg #[.int .i64 a, .int .i64 b, .int .i64 c, .int .i64 d]) (.int .i64 1)).run Tryd.prog w = .ok (.int .i64 b) w by kernel_rfl)
  | 2, _ => exact (show (Instr.index 50 (.agg #[.int .i64 a, .int .i64 b, .int .i64 c, .int .i64 d]) (.int .i64 2)).run Tryd.prog w = .ok (.int .i64 c) w by kernel_rfl)
  | 3, _ => exact (show (Instr.index 50 (.agg #[.int .i64 a, .int .i64 b, .int .i64 c, .int .i64 d]) (.int .i64 3)).run Tryd.prog w = .ok (.int .i64 d) w by kernel_rfl)
set_option maxRecDepth 100000 in
set_option maxHeartbeats 12800000 in
theorem wangCheck_any (xs : List TlT) (a : Option Addr) (n c : Nat) (w : World) (hA : ArgT w xs a n c) : Calls Tryd.prog 7 #[.slice a n c] w fun e w' => e = .returned (errOf (tlF xs)) ∧ Below w.heap.size w w' := by
  have HL := hide' hA.len
  have HM := hide' hA.max
  have HA := hide' hA
  clear hA
  have hmm := HM.out
  unfold maxLen at hmm
  go_enter Tryd.func7, Tryd.ntmps7
  by_cases c1 : (n : Int) < 1
  · have F := hide' (show tlF xs = 4 by unfold tlF; rw [if_pos]; have := HL.out; omega)
    go_wp2
    go_ret
    exact ⟨by rw [F.out]; rfl, Below.refl _ _⟩
  · by_cases c2 : (16 : Int) < (n : Int)
    · have F := hide' (show tlF xs = 4 by unfold tlF; rw [if_pos]; have := HL.out; omega)
      go_wp2
      go_ret
      exact ⟨by rw [F.out]; rfl, Below.refl _ _⟩
    · have FY := hide' (fun (h : xs.all tlB = true) => show tlF xs = 0 by unfold tlF; rw [if_neg (by have := HL.out; omega), if_pos h])
      have FN := hide' (fun (h : ¬ xs.all tlB = true) => show tlF xs = 1 by unfold tlF; rw [if_neg (by have := HL.out; omega), if_neg h])
      have n16 : n ≤ 16 := by omega
      go_wp2
      go_loopw [4, 6, 18] (fun _ _ kv wr => ∃ (k : Nat), kv = .int .i64 (k : Int) ∧ k ≤ n ∧ Hid (∀ j, j < k → tlB (xs.getD j tlz) = true) ∧ Hid (Below w.heap.size w wr)) (fun _ _ kv _ => n - (intOf kv).toNat)
      case atStart => exact ⟨0, rfl, by omega, hide' (fun j h => by omega), hide' (Below.refl _ _)⟩
      case round =>
        obtain ⟨k, rfl, hk, AL, BW⟩ := hrel
        by_cases d : (k : Int) < (n : Int)
        · have kl : k < xs.length := by have := HL.out; omega
          have k0 : (0 : Int) ≤ (k : Int) := by omega
          obtain ⟨g, off, ea, hg, d0, d1, d2, d3⟩ := (HA.out.below BW.out).cells k kl
          subst ea
          have NO := hide' (fun h => FN.out (all_noT kl h))
          obtain ⟨t, ht⟩ : ∃ t, xs.getD k tlz = t := ⟨_, rfl⟩
          rw [ht] at d0 d1 d2 d3 NO
          have HT := hide' ht
          clear ht
          obtain ⟨V, hV⟩ : ∃ V, wr.alloc (.cells #[.int .i64 t.u, .int .i64 t.r, .int .i64 t.d, .int .i64 t.l] 47) = V := ⟨_, rfl⟩
          have BV := hide' (show Below w.heap.size w V by rw [← hV]; exact BW.out.alloc BW.out.size _)
          have G : V.heap[wr.heap.size]? = some (.cells #[.int .i64 t.u, .int .i64 t.r, .int .i64 t.d, .int .i64 t.l] 47 (0, 0)) := by rw [← hV]; exact heap_alloc_new _ _
          have y0 : V.cell? ⟨wr.heap.size, 0, none⟩ = some (.int .i64 t.u) := by rw [cell_of_row V _ _ _ _ _ G]; rfl
          have y1 : V.cell? ⟨wr.heap.size, 1, none⟩ = some (.int .i64 t.r) := by rw [cell_of_row V _ _ _ _ _ G]; rfl
          have y2 : V.cell? ⟨wr.heap.size, 2, none⟩ = some (.int .i64 t.d) := by rw [cell_of_row V _ _ _ _ _ G]; rfl
          have y3 : V.cell? ⟨wr.heap.size, 3, none⟩ = some (.int .i64 t.l) := by rw [cell_of_row V _ _ _ _ _ G]; rfl
          have IX := hide' (fun (i : Nat) (h : i < 4) (W : World) => index_fourW t.u t.r t.d t.l i h W)
          clear G
          go_wp2
          try rw [hV]
          clear hV d0 d1 d2 d3 hg y0 y1 y2 y3
          obtain ⟨VV, rfl⟩ : ∃ VV, VV = wr := ⟨_, rfl⟩
          go_loopw [6, 31] (fun _ jv wr => ∃ (j : Nat), jv = .int .i64 (j : Int) ∧ j ≤ 4 ∧ Hid (∀ i, i < j → 0 ≤ tlC t i ∧ tlC t i ≤ 7) ∧ wr = V) (fun _ jv _ => 4 - (intOf jv).toNat)
          case atStart => exact ⟨0, rfl, by omega, hide' (fun i h => by omega), rfl⟩
          case round =>
            obtain ⟨j, rfl, hj, CL, rfl⟩ := hrel
            by_cases e : (j : Int) < 4
            · have j4 : j < 4 := by omega
              have j0 : (0 : Int) ≤ (j : Int) := by omega
              have ix := IX.out j j4 wr
              rw [show tlC ⟨t.u, t.r, t.d, t.l⟩ j = tlC t j from rfl] at ix
              have NJ := hide' (fun (h : ¬ (0 ≤ tlC t j ∧ tlC t j ≤ 7)) => NO.out (tlB_no j4 h))
              have YJ := hide' (fun (h : 0 ≤ tlC t j ∧ tlC t j ≤ 7) i (hi : i < j + 1) => show 0 ≤ tlC t i ∧ tlC t i ≤ 7 by
                by_cases q : i = j
                · rw [q]; exact h
                · exact CL.out i (by omega))
              obtain ⟨x, hx⟩ : ∃ x, tlC t j = x := ⟨_, rfl⟩
              rw [hx] at ix NJ YJ
              clear hx
              by_cases q1 : x < 0
              · have F := hide' (NJ.out (by omega))
                go_wp2
                go_ret
                exact ⟨by rw [F.out]; rfl, BV.out⟩
              · by_cases q2 : 8 ≤ x
                · have F := hide' (NJ.out (by omega))
                  go_wp2
                  go_ret
                  exact ⟨by rw [F.out]; rfl, BV.out⟩
                · have Y := hide' (YJ.out ⟨by omega, by omega⟩)
                  go_wp2
                  exact ⟨⟨j + 1, by go_num, by omega, Y, trivial⟩, by simp [intOf]; omega⟩
            · have C4 := hide' (show ∀ i, i < 4 → 0 ≤ tlC t i ∧ tlC t i ≤ 7 from fun i hi => CL.out i (by omega))
              have NX := hide' (show ∀ i, i < k + 1 → tlB (xs.getD i tlz) = true from fun i hi => by
                by_cases q : i = k
                · rw [q, HT.out]; exact tlB_of C4.out
                · exact AL.out i (by omega))
              go_wp2
              exact ⟨⟨k + 1, by go_num, by omega, NX, BV⟩, by simp [intOf]; omega⟩
        · obtain rfl : k = n := by omega
          have F := hide' (FY.out (all_yesT (fun i hi => AL.out i (by rw [HL.out]; exact hi))))
          go_wp2
          go_ret
          exact ⟨by rw [F.out]; rfl, BW.out⟩
set_option maxRecDepth 100000 in
set_option maxHeartbeats 6400000 in
theorem wangSized_any (xs : List TlT) (a : Option Addr) (n c : Nat) (W H : Int) (w : World) (hA : ArgT w xs a n c) : Calls Tryd.prog 19 #[.slice a n c, .int .i64 W, .int .i64 H] w fun e w' => e = .returned (errOf (sdF xs W H)) ∧ Below w.heap.size w w' := by
  have TC := hide' (wangCheck_any xs a n c w hA)
  have SF := hide' (show sdF xs W H = if tlF xs = 0 then if W < 1 ∨ 5 < W ∨ H < 1 ∨ 5 < H then 1 else 0 else tlF xs from rfl)
  obtain ⟨f, hf⟩ : ∃ f, tlF xs = f := ⟨_, rfl⟩
  rw [hf] at TC SF
  clear hf hA
  go_enter Tryd.func19, Tryd.ntmps19
  by_cases f0 : f = 0
  · subst f0
    rw [if_pos rfl] at SF
    rw [show errOf 0 = .nilIface from rfl] at TC
    by_cases w1 : W < 1
    · rw [if_pos (by omega)] at SF
      go_wp2_with fail
      refine TC.out.mono ?_
      rintro o w3 ⟨rfl, b3⟩
      go_wp2
      go_ret
      exact ⟨by rw [SF.out]; rfl, b3⟩
    · by_cases w2 : 5 < W
      · rw [if_pos (by omega)] at SF
        go_wp2_with fail
        refine TC.out.mono ?_
        rintro o w3 ⟨rfl, b3⟩
        go_wp2
        go_ret
        exact ⟨by rw [SF.out]; rfl, b3⟩
      · by_cases w3' : H < 1
        · rw [if_pos (by omega)] at SF
          go_wp2_with fail
          refine TC.out.mono ?_
          rintro o w3 ⟨rfl, b3⟩
          go_wp2
          go_ret
          exact ⟨by rw [SF.out]; rfl, b3⟩
        · by_cases w4 : 5 < H
          · rw [if_pos (by omega)] at SF
            go_wp2_with fail
            refine TC.out.mono ?_
            rintro o w3 ⟨rfl, b3⟩
            go_wp2
            go_ret
            exact ⟨by rw [SF.out]; rfl, b3⟩
          · rw [if_neg (by omega)] at SF
            go_wp2_with fail
            refine TC.out.mono ?_
            rintro o w3 ⟨rfl, b3⟩
            go_wp2
            go_ret
            exact ⟨by rw [SF.out]; rfl, b3⟩
  · rw [if_neg f0] at SF
    have ef : errOf f = .iface 49 (.int .i64 (f : Int)) := by unfold errOf; rw [if_neg f0]
    rw [ef] at TC
    have EF := hide' ef
    clear f0 ef
    go_wp2_with fail
    refine TC.out.mono ?_
    rintro o w3 ⟨rfl, b3⟩
    go_wp2
    go_ret
    exact ⟨by rw [SF.out, EF.out]; rfl, b3⟩
end Go.Proofs.YthmeapplnocfjaaDoor

