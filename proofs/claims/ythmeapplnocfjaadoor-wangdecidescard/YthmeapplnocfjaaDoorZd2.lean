/-
  What the last text of this claim leans on, part 2: Pa6, Al1, Wa1, Wq2.
-/
import Derived.Test.YthmeapplnocfjaaDoorZd1
import Derived.Deep.RegionHeld3
import Derived.Deep.CutRange
import Derived.BigRegion
import Derived.BigQuiet
namespace Go.Proofs.YthmeapplnocfjaaDoor
open Go.RowKit
set_option linter.unusedVariables false

/-- At block g these ints, writable. -/
structure Cel (w : World) (g : Nat) (xs : List Int) : Prop where
  lt : g < w.heap.size
  cells : ∀ k, k < xs.length → w.cell? ⟨g, k, none⟩ = some (.int .i64 (xs.getD k 0))
  fz : ∀ k, w.frozen? ⟨g, k, none⟩ = false
theorem Cel.block {w w' : World} {g : Nat} {xs : List Int} (h : Cel w g xs) (hs : w.heap.size ≤ w'.heap.size) (e : w'.heap[g]? = w.heap[g]?) : Cel w' g xs :=
  ⟨Nat.lt_of_lt_of_le h.lt hs, fun k hk => (World.cell?_of_block (w := w) (a := ⟨g, k, none⟩) e).trans (h.cells k hk), fun k => (World.frozen?_of_block (w := w) (a := ⟨g, k, none⟩) e).trans (h.fz k)⟩
theorem Cel.below {w w' : World} {g : Nat} {xs : List Int} (h : Cel w g xs) (hb : Below w.heap.size w w') : Cel w' g xs := h.block hb.size (hb.block g h.lt)
theorem Cel.set {w : World} {g : Nat} {xs : List Int} (h : Cel w g xs) (p : Nat) (x : Int) (hp : p < xs.length) : Cel (w.setCell ⟨g, p, none⟩ (.int .i64 x)) g (xs.set p x) := by
  refine ⟨by rw [World.size_setCell]; exact h.lt, fun k hk => ?_, fun k => by rw [World.frozen?_setCell]; exact h.fz k⟩
  rw [List.length_set] at hk
  by_cases e : k = p
  · subst e
    rw [show (xs.set k x).getD k 0 = x by simp [List.getD, hk]]
    exact World.cell?_setCell_same (w := w) (a := ⟨g, k, none⟩) (v := _) (h := h.cells k hk)
  · rw [show (xs.set p x).getD k 0 = xs.getD k 0 by simp [List.getD, Ne.symm e]]
    exact (World.cell?_setCell_other (w := w) (a := ⟨g, p, none⟩) (b := ⟨g, k, none⟩) (v := _) (h := fun q => e (congrArg Addr.off q).symm)).trans (h.cells k hk)

end Go.Proofs.YthmeapplnocfjaaDoor

namespace Go.Proofs.YthmeapplnocfjaaDoor
open Go.RowKit
set_option linter.unusedVariables false

end Go.Proofs.YthmeapplnocfjaaDoor

namespace Go.Proofs.YthmeapplnocfjaaDoor
open Go.RowKit
set_option linter.unusedVariables false

/-- A pattern that came in, as a value: its cells anywhere. -/
structure ArgP (w : World) (xs : List Int) (a : Option Addr) (n c : Nat) : Prop where
  len : n = xs.length
  max : n ≤ maxLen
  cells : ∀ k (h : k < xs.length), ∃ g off, a = some ⟨g, off, none⟩ ∧ g < w.heap.size ∧ w.cell? ⟨g, off + k, none⟩ = some (.int .i64 xs[k])
theorem ArgP.below {w w' : World} {xs : List Int} {a : Option Addr} {n c : Nat} (h : ArgP w xs a n c) (hb : Below w.heap.size w w') : ArgP w' xs a n c :=
  ⟨h.len, h.max, fun k hk => by
    obtain ⟨g, off, e, hg, hc⟩ := h.cells k hk
    exact ⟨g, off, e, Nat.lt_of_lt_of_le hg hb.size, (World.cell?_of_block (w := w) (a := ⟨g, off + k, none⟩) (hb.block g hg)).trans hc⟩⟩
theorem ArgP.alloc {w : World} {xs : List Int} {a : Option Addr} {n c : Nat} (h : ArgP w xs a n c) (x : Obj) : ArgP (w.alloc x) xs a n c :=
  h.below ((Below.refl _ _).alloc (Nat.le_refl _) _)

def errOf (f : Nat) : Value := if f = 0 then .nilIface else .iface 49 (.int .i64 (f : Int))

end Go.Proofs.YthmeapplnocfjaaDoor

namespace Go.Proofs.YthmeapplnocfjaaDoor
open Go.RowKit
set_option linter.unusedVariables false
set_option linter.unusedSimpArgs false
/-- A tile as it comes in: up, right, down, left. -/
structure TlT where
  u : Int
  r : Int
  d : Int
  l : Int
def tlz : TlT := ⟨0, 0, 0, 0⟩
/-- Tiles that lie in a row. -/
structure ArgT (w : World) (xs : List TlT) (a : Option Addr) (n c : Nat) : Prop where
  len : n = xs.length
  max : n ≤ maxLen
  cells : ∀ k, k < xs.length → ∃ g off, a = some ⟨g, off, none⟩ ∧ g < w.heap.size ∧ w.cell? ⟨g, off + k * 4, none⟩ = some (.int .i64 (xs.getD k tlz).u) ∧ w.cell? ⟨g, off + k * 4 + 1, none⟩ = some (.int .i64 (xs.getD k tlz).r) ∧ w.cell? ⟨g, off + k * 4 + 2, none⟩ = some (.int .i64 (xs.getD k tlz).d) ∧ w.cell? ⟨g, off + k * 4 + 3, none⟩ = some (.int .i64 (xs.getD k tlz).l)
theorem ArgT.below {w V : World} {xs : List TlT} {a : Option Addr} {n c : Nat} (h : ArgT w xs a n c) (b : Below w.heap.size w V) : ArgT V xs a n c :=
  ⟨h.len, h.max, fun k hk => by
    obtain ⟨g, off, e, hg, c0, c1, c2, c3⟩ := h.cells k hk
    exact ⟨g, off, e, Nat.lt_of_lt_of_le hg b.size, (b.cell hg).trans c0, (b.cell hg).trans c1, (b.cell hg).trans c2, (b.cell hg).trans c3⟩⟩
/-- A colour; those of a tile; what is wrong with tiles. -/
def clB (x : Int) : Bool := decide (0 ≤ x) && decide (x ≤ 7)
def tlB (t : TlT) : Bool := clB t.u && clB t.r && clB t.d && clB t.l
def tlF (xs : List TlT) : Nat := if xs.length < 1 ∨ 16 < xs.length then 4 else if xs.all tlB = true then 0 else 1
def tlC (t : TlT) : Nat → Int
  | 0 => t.u
  | 1 => t.r
  | 2 => t.d
  | _ => t.l
theorem tlB_of {t : TlT} (h : ∀ j, j < 4 → 0 ≤ tlC t j ∧ tlC t j ≤ 7) : tlB t = true := by
  have h0 := h 0 (by omega)
  have h1 := h 1 (by omega)
  have h2 := h 2 (by omega)
  have h3 := h 3 (by omega)
  unfold tlC at h0 h1 h2 h3
  simp only at h0 h1 h2 h3
  unfold tlB clB
  simp [h0.1, h0.2, h1.1, h1.2, h2.1, h2.2, h3.1, h3.2]
theorem tlB_no {t : TlT} {j : Nat} (hj : j < 4) (h : ¬ (0 ≤ tlC t j ∧ tlC t j ≤ 7)) : tlB t = false := by
  match j, hj with
  | 0, _ => have h' : ¬ (0 ≤ t.u ∧ t.u ≤ 7) := h; unfold tlB clB; simp; intros; omega
  | 1, _ => have h' : ¬ (0 ≤ t.r ∧ t.r ≤ 7) := h; unfold tlB clB; simp; intros; omega
  | 2, _ => have h' : ¬ (0 ≤ t.d ∧ t.d ≤ 7) := h; unfold tlB clB; simp; intros; omega
  | 3, _ => have h' : ¬ (0 ≤ t.l ∧ t.l ≤ 7) := h; unfold tlB clB; simp; intros; omega
theorem all_noT {xs : List TlT} {k : Nat} (hk : k < xs.length) (h : tlB (xs.getD k tlz) = false) : ¬ xs.all tlB = true := fun q => by
  rw [List.all_eq_true] at q
  have := q xs[k] (List.getElem_mem hk)
  rw [List.getD, List.getElem?_eq_getElem hk] at h
  rw [show tlB xs[k] = false from h] at this
  cases this
theorem all_yesT {xs : List TlT} (h : ∀ k, k < xs.length → tlB (xs.getD k tlz) = true) : xs.all tlB = true := by
  rw [List.all_eq_true]
  intro t ht
  obtain ⟨k, hk, rfl⟩ := List.getElem_of_mem ht
  have := h k hk
  rw [List.getD, List.getElem?_eq_getElem hk] at this
  exact this
theorem lt_blockT {w : World} {p : Nat} {o : Obj} (h : w.heap[p]? = some o) : p < w.heap.size := (Array.getElem?_eq_some_iff.1 h).1
set_option maxRecDepth 100000 in
set_option maxHeartbeats 12800000 in
theorem refTiles_any (xs : List TlT) (a : Option Addr) (n c : Nat) (w : World) (hA : ArgT w xs a n c) : Calls Tryd.prog 6 #[.slice a n c] w fun e w' => e = .returned (.int .i64 (tlF xs : Int)) ∧ Below w.heap.size w w' := by
  have HL := hide' hA.len
  have HM := hide' hA.max
  have HA := hide' hA
  clear hA
  have hmm := HM.out
  unfold maxLen at hmm
  go_enter Tryd.func6, Tryd.ntmps6
  by_cases c1 : (n : Int) < 1
  · have F := hide' (show tlF xs = 4 by unfold tlF; rw [if_pos]; have := HL.out; omega)
    go_wp2
    go_ret
    exact ⟨by rw [F.out]; rfl, Below.refl _ _⟩
  · by_cases c2 : (16 : Int) < (n : Int)
    · have F := hide' (show tlF xs = 4 by unfold tlF; rw [if_pos]; have := HL.out; omega)
      go_wp2
      go_ret
      exact ⟨by rw [F.out]; rfl, Below.refl _ _⟩
    · have FY := hide' (fun (h : xs.all tlB = true) => show tlF xs = 0 by unfold tlF; rw [if_neg (by have := HL.out; omega), if_pos h])
      have FN := hide' (fun (h : ¬ xs.all tlB = true) => show tlF xs = 1 by unfold tlF; rw [if_neg (by have := HL.out; omega), if_neg h])
      have n16 : n ≤ 16 := by omega
      go_wp2
      go_loopw [3, 4, 5, 6] (fun kv _ _ _ wr => ∃ (k : Nat), kv = .int .i64 (k : Int) ∧ k ≤ n ∧ Hid (∀ j, j < k → tlB (xs.getD j tlz) = true) ∧ Hid (Below w.heap.size w wr)) (fun kv _ _ _ _ => n - (intOf kv).toNat)
      case atStart => exact ⟨0, rfl, by omega, hide' (fun j h => by omega), hide' (Below.refl _ _)⟩
      case round =>
        obtain ⟨k, rfl, hk, AL, BW⟩ := hrel
        by_cases d : (k : Int) < (n : Int)
        · have kl : k < xs.length := by have := HL.out; omega
          have k0 : (0 : Int) ≤ (k : Int) := by omega
          obtain ⟨g, off, ea, hg, d0, d1, d2, d3⟩ := (HA.out.below BW.out).cells k kl
          subst ea
          have NO := hide' (fun h => FN.out (all_noT kl h))
          obtain ⟨t, ht⟩ : ∃ t, xs.getD k tlz = t := ⟨_, rfl⟩
          rw [ht] at d0 d1 d2 d3 NO
          have HT := hide' ht
          clear ht
          obtain ⟨V, hV⟩ : ∃ V, (wr.alloc (.cells #[.int .i64 t.u, .int .i64 t.r, .int .i64 t.d, .int .i64 t.l] 47)).alloc (.cells #[.int .i64 t.u, .int .i64 t.r, .int .i64 t.d, .int .i64 t.l] 3) = V := ⟨_, rfl⟩
          have BV := hide' (show Below w.heap.size w V by rw [← hV]; exact BW.out.trans ((((Below.refl _ _).alloc (Nat.le_refl _) _).alloc (by simp) _ : Below wr.heap.size wr _).mono BW.out.size))
          have GV := hide' (show V.heap[wr.heap.size + 1]? = some (.cells #[.int .i64 t.u, .int .i64 t.r, .int .i64 t.d, .int .i64 t.l] 3 (0, 0)) by rw [← hV]; have := heap_alloc_new (wr.alloc (.cells #[.int .i64 t.u, .int .i64 t.r, .int .i64 t.d, .int .i64 t.l] 47)) (.cells #[.int .i64 t.u, .int .i64 t.r, .int .i64 t.d, .int .i64 t.l] 3); simpa using this)
          go_wp2
          try rw [hV]
          clear hV d0 d1 d2 d3 hg
          obtain ⟨p, hp⟩ : ∃ p, wr.heap.size + 1 = p := ⟨_, rfl⟩
          rw [hp] at GV
          try rw [hp]
          clear hp
          obtain ⟨VV, rfl⟩ : ∃ VV, VV = wr := ⟨_, rfl⟩
          go_loopw [6] (fun jv wr => ∃ (j : Nat), jv = .int .i64 (j : Int) ∧ j ≤ 4 ∧ Hid (∀ i, i < j → 0 ≤ tlC t i ∧ tlC t i ≤ 7) ∧ wr = V) (fun jv _ => 4 - (intOf jv).toNat)
          case atStart => exact ⟨0, rfl, by omega, hide' (fun i h => by omega), rfl⟩
          case round =>
            obtain ⟨j, rfl, hj, CL, rfl⟩ := hrel
            by_cases e : (j : Int) < 4
            · have j4 : j < 4 := by omega
              have j0 : (0 : Int) ≤ (j : Int) := by omega
              have cj : wr.cell? ⟨p, j, none⟩ = some (.int .i64 (tlC t j)) := by
                rw [cell_of_row wr _ _ _ _ _ GV.out]
                match j, j4 with
                | 0, _ => rfl
                | 1, _ => rfl
                | 2, _ => rfl
                | 3, _ => rfl
              have NJ := hide' (fun (h : ¬ (0 ≤ tlC t j ∧ tlC t j ≤ 7)) => NO.out (tlB_no j4 h))
              have YJ := hide' (fun (h : 0 ≤ tlC t j ∧ tlC t j ≤ 7) i (hi : i < j + 1) => show 0 ≤ tlC t i ∧ tlC t i ≤ 7 by
                by_cases q : i = j
                · rw [q]; exact h
                · exact CL.out i (by omega))
              obtain ⟨x, hx⟩ : ∃ x, tlC t j = x := ⟨_, rfl⟩
              rw [hx] at cj NJ YJ
              clear hx
              by_cases q1 : x < 0
              · have F := hide' (NJ.out (by omega))
                go_wp2
                go_ret
                exact ⟨by rw [F.out]; rfl, BV.out⟩
              · by_cases q2 : 7 < x
                · have F := hide' (NJ.out (by omega))
                  go_wp2
                  go_ret
                  exact ⟨by rw [F.out]; rfl, BV.out⟩
                · have Y := hide' (YJ.out ⟨by omega, by omega⟩)
                  go_wp2
                  exact ⟨⟨j + 1, by go_num, by omega, Y, trivial⟩, by simp [intOf]; omega⟩
            · have C4 := hide' (show ∀ i, i < 4 → 0 ≤ tlC t i ∧ tlC t i ≤ 7 from fun i hi => CL.out i (by omega))
              have NX := hide' (show ∀ i, i < k + 1 → tlB (xs.getD i tlz) = true from fun i hi => by
                by_cases q : i = k
                · rw [q, HT.out]; exact tlB_of C4.out
                · exact AL.out i (by omega))
              go_wp2
              exact ⟨⟨k + 1, by go_num, by omega, NX, BV⟩, by simp [intOf]; omega⟩
        · obtain rfl : k = n := by omega
          have F := hide' (FY.out (all_yesT (fun i hi => AL.out i (by rw [HL.out]; exact hi))))
          go_wp2
          go_ret
          exact ⟨by rw [F.out]; rfl, BW.out⟩
/-- What is wrong with tiles and sides; with cells. -/
def sdF (xs : List TlT) (W H : Int) : Nat := if tlF xs = 0 then if W < 1 ∨ 5 < W ∨ H < 1 ∨ 5 < H then 1 else 0 else tlF xs
set_option maxRecDepth 100000 in
set_option maxHeartbeats 6400000 in
theorem refSides_any (xs : List TlT) (a : Option Addr) (n c : Nat) (W H : Int) (w : World) (hA : ArgT w xs a n c) : Calls Tryd.prog 9 #[.slice a n c, .int .i64 W, .int .i64 H] w fun e w' => e = .returned (.int .i64 (sdF xs W H : Int)) ∧ Below w.heap.size w w' := by
  have TC := hide' (refTiles_any xs a n c w hA)
  have SF := hide' (show sdF xs W H = if tlF xs = 0 then if W < 1 ∨ 5 < W ∨ H < 1 ∨ 5 < H then 1 else 0 else tlF xs from rfl)
  obtain ⟨f, hf⟩ : ∃ f, tlF xs = f := ⟨_, rfl⟩
  rw [hf] at TC SF
  clear hf hA
  go_enter Tryd.func9, Tryd.ntmps9
  by_cases f0 : f = 0
  · subst f0
    rw [if_pos rfl] at SF
    by_cases w1 : W < 1
    · rw [if_pos (by omega)] at SF
      go_wp2_with fail
      refine TC.out.mono ?_
      rintro o w3 ⟨rfl, b3⟩
      go_wp2
      go_ret
      exact ⟨by rw [SF.out]; rfl, b3⟩
    · by_cases w2 : 5 < W
      · rw [if_pos (by omega)] at SF
        go_wp2_with fail
        refine TC.out.mono ?_
        rintro o w3 ⟨rfl, b3⟩
        go_wp2
        go_ret
        exact ⟨by rw [SF.out]; rfl, b3⟩
      · by_cases w3' : H < 1
        · rw [if_pos (by omega)] at SF
          go_wp2_with fail
          refine TC.out.mono ?_
          rintro o w3 ⟨rfl, b3⟩
          go_wp2
          go_ret
          exact ⟨by rw [SF.out]; rfl, b3⟩
        · by_cases w4 : 5 < H
          · rw [if_pos (by omega)] at SF
            go_wp2_with fail
            refine TC.out.mono ?_
            rintro o w3 ⟨rfl, b3⟩
            go_wp2
            go_ret
            exact ⟨by rw [SF.out]; rfl, b3⟩
          · rw [if_neg (by omega)] at SF
            go_wp2_with fail
            refine TC.out.mono ?_
            rintro o w3 ⟨rfl, b3⟩
            go_wp2
            go_ret
            exact ⟨by rw [SF.out]; rfl, b3⟩
  · rw [if_neg f0] at SF
    have fi : ¬ (f : Int) = 0 := by omega
    have fb : ((f : Int) == 0) = false := by simp; omega
    clear f0
    go_wp2_with fail
    refine TC.out.mono ?_
    rintro o w3 ⟨rfl, b3⟩
    go_wp2
    go_ret
    exact ⟨by rw [SF.out]; rfl, b3⟩
end Go.Proofs.YthmeapplnocfjaaDoor

