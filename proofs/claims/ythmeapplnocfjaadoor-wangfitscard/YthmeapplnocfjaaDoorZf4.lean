/-
  What the last text of this claim leans on, part 4: Wq4, Wq5, Wq7.
-/
import Derived.Test.YthmeapplnocfjaaDoorZf3
import Derived.Deep.LoopGhost
import Derived.Laws.MakeOwn
import Derived.Deep.OwnRows
import Derived.Laws.ResultCell
namespace Go.Proofs.YthmeapplnocfjaaDoor
open Go.RowKit
set_option linter.unusedVariables false
set_option linter.unusedSimpArgs false
/-- An array of numbers, told by a function. -/
def arrW (n : Nat) (f : Nat → Int) : Array Value := ((List.range n).map fun i => .int .i64 (f i)).toArray
theorem arrW_get {n k : Nat} (f : Nat → Int) (h : k < n) : (arrW n f)[k]? = some (.int .i64 (f k)) := by simp [arrW, h]
theorem arrW_set (n i : Nat) (f : Nat → Int) (v : Int) : (arrW n f).setIfInBounds i (.int .i64 v) = arrW n (fun k => if k = i then v else f k) := by
  apply Array.ext
  · simp [arrW]
  · intro k h1 h2
    simp only [arrW, List.getElem_toArray, List.getElem_map, List.getElem_range]
    by_cases q : k = i
    · simp [q]
    · simp [q, Ne.symm q]
theorem made_arrW (n : Nat) : madeCells #[Value.int .i64 0] n = arrW n (fun _ => 0) := by
  apply Array.ext
  · rw [size_madeCells]; simp [arrW]
  · intro i h1 h2
    simp [madeCells, arrW, Nat.mod_one]
/-- A row of numbers as it lies. -/
def RowW (V : World) (g n : Nat) (f : Nat → Int) : Prop := V.heap[g]? = some (.cells (arrW n f) 3 (0, 0))
theorem RowW.cell {V : World} {g n : Nat} {f : Nat → Int} (h : RowW V g n f) {k : Nat} (hk : k < n) : V.cell? ⟨g, k, none⟩ = some (.int .i64 (f k)) := by rw [cell_of_row V _ _ _ _ _ h, arrW_get _ hk]
theorem RowW.set {V : World} {g n : Nat} {f : Nat → Int} (h : RowW V g n f) (k : Nat) (v : Int) : RowW (V.setCell ⟨g, k, none⟩ (.int .i64 v)) g n (fun i => if i = k then v else f i) := by
  unfold RowW
  rw [heap_setCell_same _ _ _ _ _ _ h, arrW_set]
theorem RowW.keep {V V' : World} {g n : Nat} {f : Nat → Int} (h : RowW V g n f) (b : Below V.heap.size V V') : RowW V' g n f := (b.block g (lt_blockT h)).trans h
theorem RowW.cel {V : World} {g n m : Nat} {f : Nat → Int} {c : Nat → Nat} (h : RowW V g n f) (hm : m ≤ n) (e : ∀ i, i < m → f i = ((c i : Nat) : Int)) : CelW V (some ⟨g, 0, none⟩) m c :=
  ⟨g, 0, rfl, lt_blockT h, fun i hi => by rw [Nat.zero_add, h.cell (by omega), e i hi]⟩
set_option maxRecDepth 100000 in
set_option maxHeartbeats 6400000 in
theorem refFits_any (xs : List TlT) (ta : Option Addr) (n tc W H : Nat) (a : Option Addr) (m cc : Nat) (ring : Bool) (c : Nat → Nat) (w : World) (hA : ArgT w xs ta n tc) (hC : CelW w a m c) (hm : m ≤ 25) (hn : n ≤ 16) (hW1 : 1 ≤ W) (hW : W ≤ 5) (hH1 : 1 ≤ H) (hH : H ≤ 5) (hc : ∀ i, i < m → c i < n) :
    Calls Tryd.prog 12 #[.slice ta n tc, .int .i64 (W : Int), .int .i64 (H : Int), .slice a m cc, .bool ring] w fun e w' => BoW (∀ k, k < m → okW xs W H ring k c) e ∧ Below w.heap.size w w' := by
  have FT := hide' (fun (k : Nat) (hk : k < m) (V : World) (h : Below w.heap.size w V) => refFits1_any xs ta n tc W H a m cc k ring c V (hA.below h) (hC.below h) hk hm hn hW1 hW hH1 hH (fun i hi => hc i (by omega)))
  clear hA hC hc
  go_enter Tryd.func12, Tryd.ntmps12
  go_wp2
  go_loopw [11, 12] (fun kv _ wr => ∃ k : Nat, kv = .int .i64 (k : Int) ∧ k ≤ m ∧ Hid (∀ j, j < k → okW xs W H ring j c) ∧ Hid (Below w.heap.size w wr)) (fun kv _ _ => m - (intOf kv).toNat)
  case atStart => exact ⟨0, rfl, by omega, hide' (fun j h => by omega), hide' (Below.refl _ _)⟩
  case round =>
    obtain ⟨k, rfl, hk, AL, BW⟩ := hrel
    by_cases d : (k : Int) < (m : Int)
    · have FC := hide' (FT.out k (by omega) _ BW.out)
      go_wp2_with fail
      refine FC.out.mono ?_
      rintro o w3 ⟨⟨z, rfl, hz⟩, b3⟩
      have B3 := hide' (BW.out.trans (b3.mono BW.out.size))
      clear b3
      cases z with
      | true =>
        have NX := hide' (show ∀ j, j < k + 1 → okW xs W H ring j c from fun j hj => by
          by_cases e : j = k
          · rw [e]; exact hz.1 rfl
          · exact AL.out j (by omega))
        clear hz
        go_wp2
        exact ⟨⟨k + 1, by go_num, by omega, NX, B3⟩, by simp [intOf]; omega⟩
      | false =>
        have NO := hide' (show ¬ ∀ j, j < m → okW xs W H ring j c from fun h => by have := hz.2 (h k (by omega)); cases this)
        clear hz
        go_wp2
        go_ret
        exact ⟨⟨false, rfl, ⟨fun h => (by cases h), fun h => absurd h NO.out⟩⟩, B3.out⟩
    · obtain rfl : k = m := by omega
      go_wp2
      go_ret
      exact ⟨⟨true, rfl, ⟨fun _ => AL.out, fun _ => rfl⟩⟩, BW.out⟩
/-- What Fill answers. -/
def FlO (n N : Nat) (ok : Nat → (Nat → Nat) → Prop) (w : World) (e : Ending) (w' : World) : Prop :=
  (∃ c g, FirstW n N ok c ∧ e = .returned (.tuple #[.slice (some ⟨g, 0, none⟩) N N, .bool true]) ∧ RowW w' g N (fun i => ((c i : Nat) : Int)) ∧ w.heap.size ≤ g)
  ∨ (NoneW n N ok ∧ e = .returned (.tuple #[.slice none 0 0, .bool false]))
/-- A search as it lies. -/
structure FiW (n N : Nat) (ok : Nat → (Nat → Nat) → Prop) (w wr : World) (k : Nat) (c : Nat → Nat) (x : Nat) (f : Nat → Int) (gf : Nat) : Prop where
  se : SeW n N ok k c x
  below : Below w.heap.size w wr
  row : RowW wr w.heap.size N f
  pre : ∀ i, i < k → f i = ((c i : Nat) : Int)
  at_ : f k = (x : Int) - 1
  rk : (n + 2) ^ (N + 1) ≤ rkW (n + 2) N k c x + gf
theorem FiW.pos {n N : Nat} {ok : Nat → (Nat → Nat) → Prop} {w wr : World} {k : Nat} {c : Nat → Nat} {x : Nat} {f : Nat → Int} {gf : Nat} (h : FiW n N ok w wr k c x f gf) : 0 < gf := by
  have := rk_lt (n := n) (N := N) (c := c) h.se.kN h.se.xn (fun i hi => (h.se.pre i hi).1)
  have := h.rk
  omega
theorem infoW : (Tryd.prog.info? 3).map (fun i => (i.zero, i.size, i.bytes)) = some (some (.int .i64 0), 1, 8) := by kernel_rfl
set_option maxRecDepth 100000 in
set_option maxHeartbeats 25600000 in
theorem refFill_any (xs : List TlT) (ta : Option Addr) (n tc W H : Nat) (ring : Bool) (w : World) (hA : ArgT w xs ta n tc) (hn : n ≤ 16) (hW1 : 1 ≤ W) (hW : W ≤ 5) (hH1 : 1 ≤ H) (hH : H ≤ 5) :
    Calls Tryd.prog 13 #[.slice ta n tc, .int .i64 (W : Int), .int .i64 (H : Int), .bool ring] w fun e w' => FlO n (W * H) (okW xs W H ring) w e w' ∧ Below w.heap.size w w' := by
  obtain ⟨N, hN⟩ : ∃ N, W * H = N := ⟨_, rfl⟩
  have eN : (W : Int) * (H : Int) = (N : Int) := by rw [← hN]; push_cast; rfl
  have N25 : N ≤ 25 := by rw [← hN]; exact Nat.le_trans (Nat.mul_le_mul hW hH) (by decide)
  have N1 : 1 ≤ N := by rw [← hN]; exact Nat.mul_le_mul hW1 hH1
  rw [hN]
  have FT := hide' (fun (m k : Nat) (c : Nat → Nat) (V : World) (h : Below w.heap.size w V) (hC : CelW V (some ⟨w.heap.size, 0, none⟩) m c) (hk : k < m) (hm : m ≤ 25) (hc : ∀ i, i ≤ k → c i < n) => refFits1_any xs ta n tc W H (some ⟨w.heap.size, 0, none⟩) m N k ring c V (hA.below h) hC hk hm hn hW1 hW hH1 hH hc)
  have LOC := hide' (okW_loc xs W H ring)
  obtain ⟨ok, hok⟩ : ∃ ok, okW xs W H ring = ok := ⟨_, rfl⟩
  rw [hok] at FT LOC ⊢
  have mk := run_make_row' (P := Tryd.prog) 23 3 (.int .i64 0) 8 Tryd.underlying23 infoW rfl .i64 .i64 N (by omega) (by omega) w
  obtain ⟨w1, hw1⟩ : ∃ w1, w.alloc (.cells (madeCells #[.int .i64 0] N) 3) = w1 := ⟨_, rfl⟩
  rw [hw1] at mk
  have R1 : RowW w1 w.heap.size N (fun _ => 0) := by rw [← hw1, made_arrW]; exact heap_alloc_new _ _
  have B1 : Below w.heap.size w w1 := by rw [← hw1]; exact (Below.refl _ _).alloc (Nat.le_refl _) _
  have c1 := R1.cell (k := 0) (by omega)
  have f1 := frozen_of_row w1 _ 0 _ _ R1
  have I0 := hide' (show FiW n N ok w (w1.setCell ⟨w.heap.size, 0, none⟩ (.int .i64 (-1))) 0 (fun _ => 0) 0 (fun i => if i = 0 then -1 else 0) ((n + 2) ^ (N + 1)) from ⟨SeW.first _ (by omega), B1.setCell (by simp) _, R1.set 0 (-1), fun i h => by omega, rfl, by omega⟩)
  clear hA hN hok hw1 R1 B1
  have N0 : (0 : Int) < (N : Int) := by omega
  go_enter Tryd.func13, Tryd.ntmps13
  go_wp2
  clear mk c1 f1
  go_loopg [12, 13] ((n + 2) ^ (N + 1)) (fun gf kv _ wr => (∃ (k : Nat) (c : Nat → Nat) (x : Nat) (f : Nat → Int), kv = .int .i64 (k : Int) ∧ Hid (FiW n N ok w wr k c x f gf)) ∨ (kv = .int .i64 (-1) ∧ Hid (NoneW n N ok) ∧ Hid (Below w.heap.size w wr)))
  case atStart => exact Or.inl ⟨0, fun _ => 0, 0, _, rfl, I0⟩
  case round =>
    rcases hrel with ⟨k, c, x, f, rfl, HF⟩ | ⟨rfl, NN, BW⟩
    · have gp := HF.out.pos
      obtain ⟨g', rfl⟩ : ∃ g', gk = g' + 1 := ⟨gk - 1, by omega⟩
      have kN := HF.out.se.kN
      have xn := HF.out.se.xn
      have k0 : (0 : Int) ≤ (k : Int) := by omega
      have kNi : (k : Int) < (N : Int) := by omega
      have ck := HF.out.row.cell kN
      rw [HF.out.at_] at ck
      have fk := frozen_of_row wr _ k _ _ HF.out.row
      have ex : (x : Int) - 1 + 1 = (x : Int) := by omega
      have R2 := hide' (HF.out.row.set k (x : Int))
      have B2 := hide' (HF.out.below.setCell (p := ⟨w.heap.size, k, none⟩) (Nat.le_refl _) (.int .i64 (x : Int)))
      obtain ⟨V, hV⟩ : ∃ V, wr.setCell ⟨w.heap.size, k, none⟩ (.int .i64 (x : Int)) = V := ⟨_, rfl⟩
      rw [hV] at R2 B2
      have cv := R2.out.cell kN
      rw [if_pos rfl] at cv
      by_cases q : (n : Int) ≤ (x : Int)
      · obtain rfl : x = n := by omega
        rcases k with _ | k'
        · have NN := hide' HF.out.se.over
          clear HF
          go_wp2
          try rw [hV]
          go_roundg g'
          case measure => omega
          case rel => exact Or.inr ⟨by go_num, NN, B2⟩
        · have PP := hide' (show FiW x N ok w V k' c (c k' + 1) (fun i => if i = k' + 1 then (x : Int) else f i) g' from ⟨HF.out.se.pop, B2.out, R2.out, fun i hi => by rw [if_neg (by omega)]; exact HF.out.pre i (by omega), by rw [if_neg (by omega), HF.out.pre k' (by omega)]; push_cast; omega, by have h1 := rk_pop x N k' c (by omega); have h2 := HF.out.rk; omega⟩)
          have ek : ((k' + 1 : Nat) : Int) - 1 = (k' : Int) := by omega
          clear HF
          go_wp2
          try rw [hV]
          go_roundg g'
          case measure => omega
          case rel => exact Or.inl ⟨k', c, c k' + 1, _, by go_num, PP⟩
      · have xl : x < n := by omega
        obtain ⟨K, hK⟩ : ∃ K, k + 1 = K := ⟨_, rfl⟩
        have eK : (k : Int) + 1 = (K : Int) := by omega
        have K0 : (0 : Int) ≤ (K : Int) := by omega
        have KN : (K : Int) ≤ (N : Int) := by omega
        have EU := hide' (show ∀ i, i < K → (if i = k then (x : Int) else f i) = ((upW c k x i : Nat) : Int) from fun i hi => by
          by_cases e : i = k
          · subst e; rw [if_pos rfl, upW_at]
          · rw [if_neg e, upW_other _ e]; exact HF.out.pre i (by omega))
        have FC := hide' (FT.out K k (upW c k x) V B2.out (R2.out.cel (by omega) EU.out) (by omega) (by omega) (fun i hi => by
          by_cases e : i = k
          · subst e; rw [upW_at]; exact xl
          · rw [upW_other _ e]; exact (HF.out.se.pre i (by omega)).1))
        have SK := hide' (fun (no : ¬ ok k (upW c k x)) (V' : World) (b : Below V.heap.size V V') => show FiW n N ok w V' k c (x + 1) (fun i => if i = k then (x : Int) else f i) g' from ⟨HF.out.se.skip LOC.out xl no, B2.out.trans (b.mono B2.out.size), R2.out.keep b, fun i hi => by rw [if_neg (by omega)]; exact HF.out.pre i hi, by rw [if_pos rfl]; push_cast; omega, by have h1 := rk_skip (n + 2) N k c x (by omega); have h2 := HF.out.rk; omega⟩)
        have PU := hide' (fun (yes : ok k (upW c k x)) (hk : k + 1 < N) (V' : World) (b : Below w.heap.size w V') (hr : RowW V' w.heap.size N (fun i => if i = k + 1 then -1 else if i = k then (x : Int) else f i)) => show FiW n N ok w V' (k + 1) (upW c k x) 0 _ g' from ⟨HF.out.se.push LOC.out xl yes hk, b, hr, fun i hi => by rw [if_neg (by omega)]; exact EU.out i (by omega), by rw [if_pos rfl]; rfl, by have h1 := rk_push (n + 2) N k c x (by omega); have h2 := HF.out.rk; omega⟩)
        have FO := hide' (fun (yes : ok k (upW c k x)) (hk : k + 1 = N) => HF.out.se.found LOC.out xl yes hk)
        clear HF
        go_wp2_with fail
        try rw [hV]
        refine FC.out.mono ?_
        rintro o w3 ⟨⟨z, rfl, hz⟩, b3⟩
        have B3 := hide' (B2.out.trans (b3.mono B2.out.size))
        have R3 := hide' (R2.out.keep b3)
        cases z with
        | false =>
          have SS := hide' (SK.out (fun h => by have := hz.2 h; cases this) w3 b3)
          clear hz b3 ck cv fk
          go_wp2
          go_roundg g'
          case measure => omega
          case rel => exact Or.inl ⟨k, c, x + 1, _, rfl, SS⟩
        | true =>
          have yes := hide' (hz.1 rfl)
          clear hz b3 ck cv fk
          obtain ⟨N', hN'⟩ : ∃ v, N - 1 = v := ⟨_, rfl⟩
          have eN' : (N : Int) - 1 = (N' : Int) := by omega
          by_cases q2 : (k : Int) = (N' : Int)
          · have FF := hide' (FO.out yes.out (by omega))
            have qb : ((k : Int) == (N' : Int)) = true := by simp; omega
            have ER := hide' (show RowW w3 w.heap.size N (fun i => ((upW c k x i : Nat) : Int)) by
              have h := R3.out
              unfold RowW at h ⊢
              rw [h]
              congr 2
              unfold arrW
              congr 1
              apply List.map_congr_left
              intro i hi
              show Value.int .i64 (if i = k then (x : Int) else f i) = _
              rw [EU.out i (by have := List.mem_range.1 hi; omega)])
            have Q2 := hide' q2
            clear q2
            go_wp2
            go_ret2
            exact ⟨Or.inl ⟨_, _, FF.out, rfl, ER.out, Nat.le_refl _⟩, B3.out⟩
          · have qb : ((k : Int) == (N' : Int)) = false := by simp; omega
            have KNl : (K : Int) < (N : Int) := by omega
            have c5 := R3.out.cell (show K < N by omega)
            have f5 := frozen_of_row w3 _ K _ _ R3.out
            have PP := hide' (PU.out yes.out (by omega) (w3.setCell ⟨w.heap.size, K, none⟩ (.int .i64 (-1))) (B3.out.setCell (by simp) _) (by have := R3.out.set K (-1); rw [← hK] at this ⊢; exact this))
            rw [hK] at PP
            go_wp2
            go_roundg g'
            case measure => omega
            case rel => exact Or.inl ⟨K, _, 0, _, rfl, PP⟩
    · go_wp2
      go_ret2
      exact ⟨Or.inr ⟨NN.out, rfl⟩, BW.out⟩
end Go.Proofs.YthmeapplnocfjaaDoor

namespace Go.Proofs.YthmeapplnocfjaaDoor
open Go.RowKit
set_option linter.unusedVariables false
set_option linter.unusedSimpArgs false
theorem belowW_set {B : Nat} {a w : World} (h : Below B a w) {g : Nat} (hg : B ≤ g) (cs : Array Value) : Below B a (w.setRow g cs) := h.trans ⟨rfl, rfl, rfl, by simp, fun k hk => setRow_other _ _ _ _ (by omega)⟩
/-- The answer's place while it is looked for. -/
def DsS (w wr : World) : Prop := Below w.heap.size w wr ∧ wr.heap[w.heap.size]? = some (.cells #[.bool false, .int .i64 0, .int .i64 0, .slice none 0 0] 40 (0, 0))
theorem DsS.keep {w wr V : World} (h : DsS w wr) (b : Below wr.heap.size wr V) : DsS w V := ⟨h.1.trans (b.mono h.1.size), (b.block _ (lt_blockT h.2)).trans h.2⟩
end Go.Proofs.YthmeapplnocfjaaDoor

namespace Go.Proofs.YthmeapplnocfjaaDoor
open Go.RowKit
set_option linter.unusedVariables false
set_option linter.unusedSimpArgs false
theorem drewW {B : Nat} {w V : World} (h : Below B w V) (k : Nat) : Below B w (V.drewN k) := ⟨h.os, h.tape, h.output, h.size, h.block⟩
/-- A list of numbers is told, and a word besides. -/
def LisW (w : World) (ys : List Int) (x : Value) (e : Ending) (w' : World) : Prop := ∃ a n c, e = .returned (.tuple #[.slice a n c, x]) ∧ Hid (ArgP w' ys a n c) ∧ Hid (Below w.heap.size w w')
theorem nilW (w : World) : ArgP w [] none 0 0 := ⟨rfl, by simp, fun k hk => absurd hk (by simp)⟩
/-- Do all places fit. -/
def AllW (xs : List TlT) (W H : Nat) (ring : Bool) (zs : List Int) : Prop := ∀ k, k < W * H → okW xs W H ring k (fun i => (zs.getD i 0).toNat)
/-- What wang.Fits ought to answer. -/
def FtA (xs : List TlT) (n : Nat) (W H : Int) (zs : List Int) (ring : Bool) (e : Ending) : Prop :=
  (sdF xs W H ≠ 0 ∧ e = .returned (.tuple #[.bool false, errOf (sdF xs W H)]))
  ∨ (sdF xs W H = 0 ∧ ceF n W H zs ≠ 0 ∧ e = .returned (.tuple #[.bool false, errOf (ceF n W H zs)]))
  ∨ (sdF xs W H = 0 ∧ ceF n W H zs = 0 ∧ ∃ b, e = .returned (.tuple #[.bool b, .nilIface]) ∧ (b = true ↔ AllW xs W.toNat H.toNat ring zs))
/-- What wang.Fill ought to answer. -/
def WfA (xs : List TlT) (n : Nat) (W H : Int) (ring : Bool) (V : World) (e : Ending) (w' : World) : Prop :=
  (sdF xs W H ≠ 0 ∧ LisW V [] (errOf (sdF xs W H)) e w')
  ∨ (sdF xs W H = 0 ∧ NoneW n (W.toNat * H.toNat) (okW xs W.toNat H.toNat ring) ∧ LisW V [] (errOf 5) e w')
  ∨ (sdF xs W H = 0 ∧ ∃ c, FirstW n (W.toNat * H.toNat) (okW xs W.toNat H.toNat ring) c ∧ LisW V ((List.range (W.toNat * H.toNat)).map fun i => ((c i : Nat) : Int)) .nilIface e w')
theorem sdF_ok {xs : List TlT} {W H : Int} (h : sdF xs W H = 0) : tlF xs = 0 ∧ 1 ≤ xs.length ∧ xs.length ≤ 16 ∧ ∃ v u : Nat, W = (v : Int) ∧ H = (u : Int) ∧ 1 ≤ v ∧ v ≤ 5 ∧ 1 ≤ u ∧ u ≤ 5 := by
  unfold sdF at h
  split at h
  · rename_i q
    split at h
    · cases h
    · rename_i q2
      have q3 := q
      unfold tlF at q3
      split at q3
      · cases q3
      · rename_i q4
        exact ⟨q, by omega, by omega, W.toNat, H.toNat, by omega, by omega, by omega, by omega, by omega, by omega⟩
  · rename_i q
    exact absurd h q
theorem ceF_ok {n W H : Nat} {zs : List Int} (h : ceF n W H zs = 0) : zs.length = W * H ∧ ∀ i, i < W * H → 0 ≤ zs.getD i 0 ∧ zs.getD i 0 < (n : Int) := by
  unfold ceF at h
  split at h
  · rename_i q
    split at h
    · rename_i q2
      have hl : zs.length = W * H := by have : ((W * H : Nat) : Int) = (W : Int) * (H : Int) := by push_cast; rfl
                                        omega
      refine ⟨hl, fun i hi => ?_⟩
      have hi' : i < zs.length := by omega
      rw [List.all_eq_true] at q2
      have := q2 zs[i] (List.getElem_mem hi')
      rw [List.getD, List.getElem?_eq_getElem hi']
      simpa using this
    · cases h
  · cases h
theorem range_argP {V : World} {g N : Nat} {c : Nat → Nat} (h : RowW V g N (fun i => ((c i : Nat) : Int))) (hN : N ≤ 25) : ArgP V ((List.range N).map fun i => ((c i : Nat) : Int)) (some ⟨g, 0, none⟩) N N := by
  refine ⟨by simp, by unfold maxLen; omega, fun k hk => ⟨g, 0, rfl, lt_blockT h, ?_⟩⟩
  have hk' : k < N := by simpa using hk
  rw [Nat.zero_add, h.cell hk']
  simp
theorem celW_arg {w : World} {zs : List Int} {a : Option Addr} {m c : Nat} (h : ArgP w zs a m c) (h0 : 0 < zs.length) (hz : ∀ i, i < zs.length → 0 ≤ zs.getD i 0) : CelW w a zs.length (fun i => (zs.getD i 0).toNat) := by
  obtain ⟨g, off, rfl, hg, -⟩ := h.cells 0 h0
  refine ⟨g, off, rfl, hg, fun i hi => ?_⟩
  obtain ⟨g', off', e, -, hc⟩ := h.cells i hi
  cases e
  rw [hc]
  have h1 := hz i hi
  have e1 : zs[i] = zs.getD i 0 := by simp [List.getD, hi]
  rw [e1, Int.toNat_of_nonneg h1]
end Go.Proofs.YthmeapplnocfjaaDoor

