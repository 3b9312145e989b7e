/-
  What the last text of this claim leans on, part 22: Of7, Oj7, Oj8.
-/
import Derived.Test.YtjjdjdodhedihaaDoorJg21
import Derived.Test.YtjjdjdodhedihaaDoorJg19
import Derived.Test.YtjjdjdodhedihaaDoorJg15
import Derived.Test.YtjjdjdodhedihaaDoorJg18
import Derived.Test.YtjjdjdodhedihaaDoorJg16
namespace Go.Proofs.YtjjdjdodhedihaaDoor
open Go.RowKit
set_option linter.unusedVariables false

/-- A word read off a number. -/
def winL (S long x : Nat) : List Int := (List.range long).map fun j => ((winAt S long x j : Nat) : Int)
theorem winL_length (S long x : Nat) : (winL S long x).length = long := by simp [winL]
end Go.Proofs.YtjjdjdodhedihaaDoor

namespace Go.Proofs.YtjjdjdodhedihaaDoor
open Go.RowKit
set_option linter.unusedVariables false

/-- A place spelled, from the right, down to a cell. -/
def spelT (S m p j : Nat) : List Int := (List.range m).map fun k => if j ≤ k then ((winAt S m p k : Nat) : Int) else 0
theorem spelT_full (S m p : Nat) : spelT S m p 0 = winL S m p := by simp [spelT, winL]
theorem spelT_none (S m p : Nat) : spelT S m p m = List.replicate m 0 := by
  apply List.ext_getElem (by simp [spelT])
  intro k h1 h2
  simp only [spelT, List.getElem_map, List.getElem_range, List.getElem_replicate]
  rw [if_neg (by simpa [spelT] using h1)]
def valsI (xs : List Int) : Array Value := (xs.map fun y => Value.int .i64 y).toArray
theorem valsI_set (xs : List Int) (i : Nat) (x : Int) : (valsI xs).setIfInBounds i (.int .i64 x) = valsI (xs.set i x) := by
  simp [valsI, List.map_set]
theorem spelT_set {S m p j : Nat} (h0 : 0 < j) (hj : j ≤ m) : (spelT S m p j).set (j - 1) ((winAt S m p (j - 1) : Nat) : Int) = spelT S m p (j - 1) := by
  apply List.ext_getElem (by simp [spelT])
  intro k h1 h2
  rw [List.getElem_set]
  simp only [spelT, List.getElem_map, List.getElem_range]
  by_cases e : j - 1 = k
  · subst e; rw [if_pos rfl, if_pos (Nat.le_refl _)]
  · rw [if_neg e]
    by_cases d : j ≤ k
    · rw [if_pos d, if_pos (by omega)]
    · rw [if_neg d, if_neg (by omega)]
theorem Blk.ints_cell {w : World} {g : Nat} {xs : List Int} {t : TypeId} (h : Blk w g (valsI xs) t) {k : Nat} (hk : k < xs.length) : w.cell? ⟨g, k, none⟩ = some (.int .i64 (xs.getD k 0)) := by
  rw [h.cell k]
  simp [valsI, hk, List.getD]
/-- A word that is answered, a row of the caller's own. -/
def RowPost (xs : List Int) (w : World) (e : Ending) (w' : World) : Prop := ∃ g, e = .returned (.slice (some ⟨g, 0, none⟩) xs.length xs.length) ∧ Blk w' g (valsI xs) 3 ∧ w.heap.size ≤ g ∧ Below w.heap.size w w'

set_option maxRecDepth 100000 in
set_option maxHeartbeats 6400000 in
theorem word_any (S R n p : Nat) (ta : Option Addr) (tn tc : Nat) (w : World) (s2 : 2 ≤ S) (s4 : S ≤ 4) (hR : R ≤ 10) (hp : p < 4096) :
    Calls Tryd.prog 81 #[.agg #[.int .i64 (S : Int), .int .i64 (2 * (R : Int)), .int .i64 (n : Int), .slice ta tn tc], .int .i64 (p : Int)] w (RowPost (winL S (2 * R) p) w) := by
  obtain ⟨w1, hw1⟩ : ∃ w1, w.alloc (.cells #[.int .i64 (S : Int), .int .i64 (2 * (R : Int)), .int .i64 (n : Int), .slice ta tn tc] 79) = w1 := ⟨_, rfl⟩
  have BB := hide' (show Below w.heap.size w w1 by rw [← hw1]; exact (Below.refl _ _).alloc (Nat.le_refl _) _)
  have GX := hide' (show GB w.heap.size S R n (.slice ta tn tc) w1 by rw [← hw1]; exact GB.new w S R n _ _)
  obtain ⟨m, hm⟩ : ∃ m, 2 * R = m := ⟨_, rfl⟩
  have qm : 2 * (R : Int) = (m : Int) := by omega
  have m20 : m ≤ 20 := by omega
  have WL := hide' (winL_length S m p)
  obtain ⟨out, hout⟩ : ∃ out, winL S m p = out := ⟨_, rfl⟩
  have OUT := hide' (show spelT S m p 0 = out by rw [spelT_full, hout])
  rw [hout] at WL
  rw [hm, hout]
  have hmk := run_make_row' (P := Tryd.prog) 22 3 (.int .i64 0) 8 Tryd.underlying22 info_int rfl .i64 .i64 m (by omega) (by omega)
  obtain ⟨g, hg⟩ : ∃ g, w1.heap.size = g := ⟨_, rfl⟩
  have GW := hide' (show w.heap.size < g by rw [← hg, ← hw1]; simp)
  have P0 := hide' (show Blk (w1.alloc (.cells (madeCells #[.int .i64 0] m) 3)) g (valsI (spelT S m p m)) 3 from by
    rw [← hg, spelT_none]
    have : valsI (List.replicate m 0) = madeCells #[.int .i64 0] m := by
      apply Array.ext'
      rw [toList_madeCells_one]
      simp [valsI]
    rw [this]
    exact Blk.new _ _ _)
  have B0 := hide' (show Below w.heap.size w (w1.alloc (.cells (madeCells #[.int .i64 0] m) 3)) from BB.out.alloc BB.out.size _)
  have G0 := hide' (GX.out.next ((Below.refl _ _).alloc (Nat.le_refl _) (.cells (madeCells #[.int .i64 0] m) 3)))
  rw [qm] at hw1
  clear hm hout
  obtain ⟨c0, c1, c2, c3⟩ := GX.out
  rw [qm] at c1
  obtain ⟨d0, d1, d2, d3⟩ := G0.out
  rw [qm] at d1
  rw [qm]
  go_enter Tryd.func81, Tryd.ntmps81
  go_wp2
  try rw [hg]
  clear c0 c1 c2 c3 hw1 hg d0 d1 d2 d3
  go_loopw [1, 6] (fun pv iv wr => ∃ (j : Nat) (x : Nat), pv = .int .i64 (x : Int) ∧ iv = .int .i64 ((j : Int) - 1) ∧ j ≤ m ∧ x ≤ p ∧ Hid (x = p / S ^ (m - j) ∧ Blk wr g (valsI (spelT S m p j)) 3 ∧ GB w.heap.size S R n (.slice ta tn tc) wr ∧ Below w.heap.size w wr)) (fun _ iv _ => (intOf iv + 1).toNat)
  case atStart => exact ⟨m, p, rfl, rfl, by omega, Nat.le_refl _, hide' ⟨by simp, P0.out, G0.out, B0.out⟩⟩
  case round =>
    clear P0 G0 B0
    obtain ⟨j, x, rfl, rfl, hj, hx, H⟩ := hrel
    by_cases d : (0 : Int) ≤ (j : Int) - 1
    · obtain ⟨i, rfl⟩ : ∃ i, j = i + 1 := ⟨j - 1, by omega⟩
      have qi : ((i + 1 : Nat) : Int) - 1 = (i : Int) := by omega
      obtain ⟨c0, c1, c2, c3⟩ := H.out.2.2.1
      obtain ⟨y, hy⟩ : ∃ y, x / S = y := ⟨_, rfl⟩
      obtain ⟨z, hz⟩ : ∃ z, x % S = z := ⟨_, rfl⟩
      have e1 : (x : Int).tdiv (S : Int) = (y : Int) := by rw [Int.tdiv_eq_ediv_of_nonneg (by omega), ← hy]; simp
      have e2 : (x : Int).tmod (S : Int) = (z : Int) := by rw [Int.tmod_eq_emod_of_nonneg (by omega), ← hz]; simp
      have n2 : ¬ (S : Int) = 0 := by omega
      have zS : z < S := by rw [← hz]; exact Nat.mod_lt _ (by omega)
      have yx : y ≤ x := by rw [← hy]; exact Nat.div_le_self _ _
      have ci := H.out.2.1.ints_cell (k := i) (by simp [spelT]; omega)
      have fi := H.out.2.1.frozen i
      have NX := hide' (show (valsI (spelT S m p (i + 1))).setIfInBounds i (.int .i64 (z : Int)) = valsI (spelT S m p i) by
        rw [valsI_set]
        have := spelT_set (S := S) (m := m) (p := p) (j := i + 1) (by omega) hj
        rw [Nat.add_sub_cancel] at this
        rw [← this, show winAt S m p i = z by unfold winAt; rw [← hz, H.out.1, show m - 1 - i = m - (i + 1) by omega]])
      have NY := hide' (show y = p / S ^ (m - i) by rw [← hy, H.out.1, show m - i = (m - (i + 1)) + 1 by omega, Nat.pow_succ, Nat.div_div_eq_div_mul])
      clear hy hz
      have gne : ¬ g = w.heap.size := by have := GW.out; omega
      have gne' : ¬ w.heap.size = g := by have := GW.out; omega
      rw [qi] at d ⊢
      clear qi
      go_wp2
      refine ⟨⟨i, y, rfl, by go_num, by omega, by omega, hide' ⟨NY.out, ?_, ?_, ?_⟩⟩, by simp [intOf]⟩
      · rw [← NX.out]; exact H.out.2.1.set i _
      · exact H.out.2.2.1.block (heap_setCell_other _ _ _ _ _ (by have := GW.out; omega))
      · exact H.out.2.2.2.setCell (p := ⟨g, i, none⟩) (by show w.heap.size ≤ g; have := GW.out; omega) _
    · have j0 : j = 0 := by omega
      subst j0
      have FI := hide' (show Blk wr g (valsI out) 3 by rw [← OUT.out]; exact H.out.2.1)
      have BF := hide' H.out.2.2.2
      clear H
      go_wp2
      go_ret
      exact ⟨g, by rw [WL.out]; rfl, FI.out, Nat.le_of_lt GW.out, BF.out⟩
end Go.Proofs.YtjjdjdodhedihaaDoor

namespace Go.Proofs.YtjjdjdodhedihaaDoor
open Go.RowKit
set_option linter.unusedVariables false

theorem row_of_blk {X : World} {base g m : Nat} {xs : List Int} (h : Blk X g (valsI xs) 3) (hg : base ≤ g) (hm : xs.length = m) (hx : m ≤ maxLen) : X.ownsRow base 3 1 (.slice (some ⟨g, 0, none⟩) m m) m (xs.map fun y => Value.int .i64 y) := by
  refine ⟨by simp [hm], Or.inr ⟨g, m, valsI xs, rfl, hg, h, Nat.le_refl _, hx, by simp [valsI, hm], ?_⟩⟩
  rw [Nat.mul_one]
  show ((xs.map fun y => Value.int .i64 y).toArray.toList).take m = _
  rw [List.toList_toArray]
  exact List.take_of_length_le (by simp [hm])
theorem TW.call1 {base pb : Nat} {bx : Array Value} {w X Y : World} {v1 v2 : Value} {n1 n2 : Nat} {x1 x2 : List Value} (h : TW base pb bx w X v1 n1 x1 v2 n2 x2) {g m : Nat} {xs : List Int} (hk : Blk Y g (valsI xs) 3) (hg : X.heap.size ≤ g) (hb : Below X.heap.size X Y) (hm : xs.length = m) (hx : m ≤ maxLen) : TW base pb bx w Y (.slice (some ⟨g, 0, none⟩) m m) m (xs.map fun y => Value.int .i64 y) v2 n2 x2 := by
  have sz := h.sz
  refine ⟨row_of_blk hk (by omega) hm hx, h.b2.kept (grown_of_below hb) (Classical.em _), fun b e1 e2 => ?_, h.box.of (hb.block pb h.box.lt), h.bl.trans (hb.mono sz), by have := hb.size; omega⟩
  obtain rfl : g = b := by simpa [Value.ownBlock] using e1
  have := row_lt h.b2 _ e2
  omega
theorem TW.call2 {base pb : Nat} {bx : Array Value} {w X Y : World} {v1 v2 : Value} {n1 n2 : Nat} {x1 x2 : List Value} (h : TW base pb bx w X v1 n1 x1 v2 n2 x2) {g m : Nat} {xs : List Int} (hk : Blk Y g (valsI xs) 3) (hg : X.heap.size ≤ g) (hb : Below X.heap.size X Y) (hm : xs.length = m) (hx : m ≤ maxLen) : TW base pb bx w Y v1 n1 x1 (.slice (some ⟨g, 0, none⟩) m m) m (xs.map fun y => Value.int .i64 y) :=
  (h.swap.call1 hk hg hb hm hx).swap
/-- A way that leaves the pairs of alike places and comes back. -/
def IsTwin (S n : Nat) (T : List Int) (p : Nat) (full : List (Nat × Nat)) : Prop := p < n ∧ okP S n T (p, p) full ∧ (∃ cs d, full = cs ++ [d] ∧ wantTf S n (endP S n (p, p) cs) d = true) ∧ full.length ≤ 257
def NoTwin (S n : Nat) (T : List Int) : Prop := ∀ p, p < n → ∀ cs c, okP S n T (p, p) cs → OkWay S T (endP S n (p, p) cs) c → wantTf S n (endP S n (p, p) cs) c = false
def TwinsPost (S R n : Nat) (T : List Int) (w : World) (e : Ending) (w' : World) : Prop :=
  ((∃ p full v1 v2, e = .returned (.tuple #[v1, v2]) ∧ w'.ownsRow w.heap.size 3 1 v1 (2 * R + full.length) ((winL S (2 * R) p ++ full.map fun y => (y.1 : Int)).map fun y => Value.int .i64 y) ∧ w'.ownsRow w.heap.size 3 1 v2 (2 * R + full.length) ((winL S (2 * R) p ++ full.map fun y => (y.2 : Int)).map fun y => Value.int .i64 y) ∧ IsTwin S n T p full) ∨
   (e = .returned (.tuple #[.slice none 0 0, .slice none 0 0]) ∧ NoTwin S n T)) ∧ Below w.heap.size w w'
theorem addr_add (g j : Nat) : (⟨g, 0, none⟩ : Addr).add j = ⟨g, j, none⟩ := by unfold Addr.add; split <;> simp_all
theorem row_cells {w : World} {base g n cap : Nat} {xs : List Value} (h : w.ownsRow base 3 1 (.slice (some ⟨g, 0, none⟩) n cap) n xs) : ∀ j u, xs[j]? = some u → w.cell? ⟨g, j, none⟩ = some u := fun j u hu => by
  have hl := h.1
  rcases h.2 with ⟨h1, _⟩ | ⟨g', cap', cur, e, hg, hh, hc, hm, hs, ht⟩
  · injection h1 with h1; cases h1
  · injection e with e1 _ _
    injection e1 with e1
    injection e1 with e1
    subst e1
    have hj : j < xs.length := (List.getElem?_eq_some_iff.1 hu).1
    rw [← ht, List.getElem?_take, if_pos (by omega)] at hu
    simp only [World.cell?, hh]
    rw [← Array.getElem?_toList]
    exact hu
def diagL (k : Nat) : List (Nat × Nat) := (List.range k).map fun p => (p, p)
theorem diagL_succ (k : Nat) : diagL (k + 1) = diagL k ++ [(k, k)] := by simp [diagL, List.range_succ]
theorem diagL_length (k : Nat) : (diagL k).length = k := by simp [diagL]

set_option maxRecDepth 100000 in
set_option maxHeartbeats 12800000 in
theorem twins_any (S R n : Nat) (T : List Int) (ta : Option Addr) (tn tc : Nat) (w : World) (hn : 0 < n) (hn16 : n ≤ 16) (hS : 2 ≤ S) (hS4 : S ≤ 4) (hR : R ≤ 10) (htn : tn = n * S) (hT : ArgP w T ta tn tc) (hta : ∀ g off, ta = some ⟨g, off, none⟩ → g < w.heap.size) :
    Calls Tryd.prog 43 #[.agg #[.int .i64 (S : Int), .int .i64 (2 * (R : Int)), .int .i64 (n : Int), .slice ta tn tc]] w (TwinsPost S R n T w) := by
  obtain ⟨w1, hw1⟩ : ∃ w1, w.alloc (.cells #[.int .i64 (S : Int), .int .i64 (2 * (R : Int)), .int .i64 (n : Int), .slice ta tn tc] 79) = w1 := ⟨_, rfl⟩
  have z1 : w1.heap.size = w.heap.size + 1 := by rw [← hw1]; simp
  have BB := hide' (show Below w.heap.size w w1 by rw [← hw1]; exact (Below.refl _ _).alloc (Nat.le_refl _) _)
  have GX := hide' (show GB w.heap.size S R n (.slice ta tn tc) w1 by rw [← hw1]; exact GB.new w S R n _ _)
  have AT := hide' hT
  have HTA := hide' hta
  have Z1 := hide' z1
  have SE := hide' (fun (g0 sc : Nat) (sts : List (Nat × Nat)) (W : World) (h : ArgP W T ta tn tc) (h2 : ∀ g off, ta = some ⟨g, off, none⟩ → g < W.heap.size) (hP : PC W g0 sts.length (prAt sts)) (hsl : sts.length ≤ 256) (hsr : ∀ u ∈ sts, u.1 < n ∧ u.2 < n) => searchT_any S R n T ta tn tc g0 sc sts W hn hn16 hS hS4 htn h h2 hP hsl hsr)
  obtain ⟨m, hm⟩ : ∃ m, 2 * R = m := ⟨_, rfl⟩
  have m20 : m ≤ 20 := by omega
  have WC := hide' (fun (p : Nat) (W : World) (hp : p < 4096) => word_any S R n p ta tn tc W hS hS4 hR hp)
  have HM := hide' hm
  unfold RowPost at WC
  simp only [winL_length, hm] at WC
  obtain ⟨i0, hi0, hz0, hz1, hz2⟩ := info_parts info_pair
  obtain ⟨i1, hi1, hy0, hy1, hy2⟩ := info_parts info_int
  clear hT hta htn z1 hm
  obtain ⟨c0, c1, c2, c3⟩ := GX.out
  go_enter Tryd.func43, Tryd.ntmps43
  go_wp2
  clear c0 c1 c2 c3 hw1
  go_loopw [4, 10] (fun sv iv wr => ∃ (k : Nat), iv = .int .i64 (k : Int) ∧ k ≤ n ∧ Hid (wr.ownsRow w1.heap.size 127 2 sv k (prCells (diagL k)) ∧ Below w1.heap.size w1 wr)) (fun _ iv _ => n - (intOf iv).toNat)
  case atStart => exact ⟨0, rfl, by omega, hide' ⟨⟨by simp [diagL, prCells], Or.inl ⟨rfl, rfl⟩⟩, Below.refl _ _⟩⟩
  case round =>
    obtain ⟨k, rfl, hk, H⟩ := hrel
    have sz := H.out.2.size
    by_cases d : (k : Int) < (n : Int)
    · have OW := hide' H.out.1
      have BL := hide' H.out.2
      clear H
      go_wp2_with (at_builtin; refine wpList_append_own_at _ rfl _ _ 125 rfl w1.heap.size 127 i0 (.agg #[.int .i64 0, .int .i64 0]) 2 16 Tryd.underlying125 hi0 hz0 hz1 hz2 rfl (by decide) _ k (prCells (diagL k)) rfl (OW.out.alloc _) ⟨wr.heap.size, 0, none⟩ 1 1 [.int .i64 (k : Int), .int .i64 (k : Int)] rfl rfl (two_new _ _ _ _) (by simp [Value.oneCell']) (by unfold maxLen; omega) (by omega) (by simp; omega) ?_; intro v' w3 hown' hgrow3 hnil3 hloc3; have ON := hide' hown'; have BG := hide' (show Below w1.heap.size w1 w3 from (BL.out.alloc (by omega) _).grown hgrow3 (by simp; omega) (row_base OW.out)); clear hown' hgrow3 hnil3 hloc3)
      refine ⟨⟨k + 1, by go_num, by omega, hide' ⟨?_, BG.out⟩⟩, by simp [intOf]; omega⟩
      rw [diagL_succ, prCells_snoc]
      exact ON.out
    · obtain rfl : k = n := by omega
      obtain ⟨g0, sc, rfl, hg0, _, _, pc⟩ := ownsRow_pc (l := diagL k) (by rw [diagL_length]; exact H.out.1) (by rw [diagL_length]; exact hn)
      have BL := hide' H.out.2
      have PCX := hide' pc
      have B1 := hide' (BB.out.trans (BL.out.mono BB.out.size))
      have SX := hide' (SE.out g0 sc (diagL k) wr (AT.out.below B1.out) (fun g off e => by have := HTA.out g off e; have := B1.out.size; omega) PCX.out (by rw [diagL_length]; omega) (fun u hu => by simp [diagL] at hu; obtain ⟨q, hq, rfl⟩ := hu; exact ⟨hq, hq⟩))
      rw [diagL_length] at SX ⊢
      clear H pc d
      obtain ⟨c0, c1, c2, c3⟩ := GX.out.next BL.out
      go_wp2_with fail
      refine (show Calls Tryd.prog _ _ _ _ from SX.out).mono ?_
      unfold SearchPost
      rintro e w4 ⟨hor, b4⟩
      have B4 := hide' (BL.out.trans (b4.mono sz))
      clear c0 c1 c2 c3 b4
      obtain ⟨c0, c1, c2, c3⟩ := GX.out.next B4.out
      rcases hor with ⟨root, full, g, c, rfl, pcf, hg, hfc, hcm, hr, okp, ⟨cs, dd, hcd, hw⟩, hfl⟩ | ⟨rfl, hno⟩
      · obtain ⟨p, hp, rfl⟩ : ∃ p, p < k ∧ (p, p) = root := by simpa [diagL] using hr
        have L0 : 0 < full.length := by rw [hcd]; simp
        have IT := hide' (show IsTwin S k T p full from ⟨hp, okp, ⟨cs, dd, hcd, hw⟩, hfl⟩)
        have k0 : ((full.length : Int) == 0) = false := by rw [beq_eq_false_iff_ne]; omega
        have b5 : Below w4.heap.size w4 (w4.alloc (.cells #[.int .i64 (p : Int), .int .i64 (p : Int)] 127)) := (Below.refl _ _).alloc (Nat.le_refl _) _
        have PF := hide' (pcf.block b5.size (b5.block g pcf.lt))
        have PB := hide' (Blk.new w4 #[.int .i64 (p : Int), .int .i64 (p : Int)] 127)
        have B5 := hide' (B4.out.trans (b5.mono B4.out.size))
        have SPL := hide' (split_any full g c _ PF.out (by omega))
        have sz4 := B4.out.size
        obtain ⟨pb, hpb⟩ : ∃ pb, w4.heap.size = pb := ⟨_, rfl⟩
        rw [hpb] at PB
        clear pcf hr okp hcd hw hfc hcm hg b5
        go_wp2_with fail
        refine (show Calls Tryd.prog _ _ _ _ from SPL.out).mono ?_
        unfold SplitPost
        rintro e w6 ⟨v1, v2, rfl, o1, o2, b6⟩
        have B6 := hide' (B5.out.trans (b6.mono (by simp; omega)))
        have PB6 := hide' (PB.out.of (b6.block pb (by simp; omega)))
        obtain ⟨g8, c8, rfl⟩ := row_form o1 L0
        obtain ⟨g9, c9, rfl⟩ := row_form o2 L0
        have CA := hide' (row_cells o1)
        have CB := hide' (row_cells o2)
        have LT8 := hide' (row_lt o1 g8 rfl)
        have LT9 := hide' (row_lt o2 g9 rfl)
        clear o1 o2 b6 c0 c1 c2 c3 SPL PF PB SX
        have G6 := hide' (GX.out.next B6.out)
        have T0 := hide' (show TW w6.heap.size pb #[.int .i64 (p : Int), .int .i64 (p : Int)] w6 w6.drew (.slice none 0 0) 0 [] (.slice none 0 0) 0 [] from ⟨⟨rfl, Or.inl ⟨rfl, rfl⟩⟩, ⟨rfl, Or.inl ⟨rfl, rfl⟩⟩, fun b e => by simp [Value.ownBlock] at e, PB6.out.of rfl, (Below.refl _ _).drew, Nat.le_refl _⟩)
        have CKs := hide' (show ∀ X : World, Below w6.heap.size w6 X → X.cell? ⟨w.heap.size, 0, none⟩ = some (.int .i64 (S : Int)) ∧ X.cell? ⟨w.heap.size, 1, none⟩ = some (.int .i64 (2 * (R : Int))) ∧ X.cell? ⟨w.heap.size, 2, none⟩ = some (.int .i64 (k : Int)) ∧ X.cell? ⟨w.heap.size, 3, none⟩ = some (.slice ta tn tc) ∧ X.cell? ⟨pb, 0, none⟩ = some (.int .i64 (p : Int)) ∧ X.cell? ⟨pb, 1, none⟩ = some (.int .i64 (p : Int)) from fun X hb => by
          obtain ⟨a0, a1, a2, a3⟩ := G6.out.next hb
          have q := PB6.out.of (hb.block pb PB6.out.lt)
          exact ⟨a0, a1, a2, a3, q.cell 0, q.cell 1⟩)
        have SR1 := hide' (show ∀ X : World, Below w6.heap.size w6 X → ∀ j u, (full.map fun y => Value.int .i64 (y.1 : Int))[j]? = some u → X.cell? ((⟨g8, 0, none⟩ : Addr).add j) = some u from fun X hb j u hu => (hb.cell (by show ((⟨g8, 0, none⟩ : Addr).add j).block < _; rw [addr_add]; exact LT8.out)).trans (by rw [addr_add]; exact CA.out j u hu))
        have SR2 := hide' (show ∀ X : World, Below w6.heap.size w6 X → ∀ j u, (full.map fun y => Value.int .i64 (y.2 : Int))[j]? = some u → X.cell? ((⟨g9, 0, none⟩ : Addr).add j) = some u from fun X hb j u hu => (hb.cell (by show ((⟨g9, 0, none⟩ : Addr).add j).block < _; rw [addr_add]; exact LT9.out)).trans (by rw [addr_add]; exact CB.out j u hu))
        have FLN := hide' (show full.length = full.length from rfl)
        have WLM := hide' (winL_length S m p)
        obtain ⟨c0, c1, c2, c3⟩ := G6.out
        have q0 := PB6.out.cell 0
        have q1 := PB6.out.cell 1
        try rw [hpb]
        clear hpb
        go_upto_region 11 with fail
        go_region_held3 (fun w' => w'.cell? ⟨w.heap.size, 0, none⟩ = some (.int .i64 (S : Int)) ∧ w'.cell? ⟨w.heap.size, 1, none⟩ = some (.int .i64 (2 * (R : Int))) ∧ w'.cell? ⟨w.heap.size, 2, none⟩ = some (.int .i64 (k : Int)) ∧ w'.cell? ⟨w.heap.size, 3, none⟩ = some (.slice ta tn tc) ∧ w'.cell? ⟨pb, 0, none⟩ = some (.int .i64 (p : Int)) ∧ w'.cell? ⟨pb, 1, none⟩ = some (.int .i64 (p : Int))) (first | exact CKs.out _ T0.out.bl | exact CKs.out _ T10.out.bl | exact CKs.out _ T11.out.bl | exact CKs.out _ T20.out.bl | exact CKs.out _ T21.out.bl | exact CKs.out _ T12.out.bl | exact CKs.out _ T22.out.bl)
          (first
            | (go_at_call 81; refine (WC.out p _ (by omega)).mono ?_; rintro e wA ⟨gA, rfl, kA, hgA, bA⟩; have T10 := hide' (T0.out.call1 kA hgA bA WLM.out (by unfold maxLen; omega)); clear kA hgA bA)
            | (go_at_call 81; refine (WC.out p _ (by omega)).mono ?_; rintro e wB ⟨gB, rfl, kB, hgB, bB⟩; (first | (have T21 := hide' (T20.out.call2 kB hgB bB WLM.out (by unfold maxLen; omega))) | (have T11 := hide' (T10.out.call2 kB hgB bB WLM.out (by unfold maxLen; omega)))); clear kB hgB bB)
            | (refine step_append_lies _ (by rfl) _ _ _ (by rfl) w6.heap.size 3 i1 _ 1 8 Tryd.underlying22 hi1 hy0 hy1 hy2 rfl (by omega) (.slice (some ⟨gA, 0, none⟩) m m) m ((winL S m p).map fun y => Value.int .i64 y) (by rfl) (by first | exact T12.out.b1 | exact T11.out.b1 | exact T10.out.b1) _ _ _ (full.map fun y => Value.int .i64 (y.1 : Int)) (by rfl) (by simp) (by first | exact SR1.out _ T12.out.bl | exact SR1.out _ T11.out.bl | exact SR1.out _ T10.out.bl) (by intro u hu; obtain ⟨y, _, rfl⟩ := List.mem_map.1 hu; rfl) L0 (by unfold maxLen; omega) (by omega) (by first | exact T12.out.sz | exact T11.out.sz | exact T10.out.sz) _ rfl ?_; intro g1 d1 y1 hown hgrow hat hlt; (first | (have T22 := hide' (T12.out.app1 hown hgrow hat)) | (have T21 := hide' (T11.out.app1 hown hgrow hat)) | (have T20 := hide' (T10.out.app1 hown hgrow hat))); clear hown hgrow hat hlt)
            | (refine step_append_lies _ (by rfl) _ _ _ (by rfl) w6.heap.size 3 i1 _ 1 8 Tryd.underlying22 hi1 hy0 hy1 hy2 rfl (by omega) (.slice (some ⟨gB, 0, none⟩) m m) m ((winL S m p).map fun y => Value.int .i64 y) (by rfl) (by first | exact T21.out.b2 | exact T11.out.b2) _ _ _ (full.map fun y => Value.int .i64 (y.2 : Int)) (by rfl) (by simp) (by first | exact SR2.out _ T21.out.bl | exact SR2.out _ T11.out.bl) (by intro u hu; obtain ⟨y, _, rfl⟩ := List.mem_map.1 hu; rfl) L0 (by unfold maxLen; omega) (by omega) (by first | exact T21.out.sz | exact T11.out.sz) _ rfl ?_; intro g2 d2 y2 hown hgrow hat hlt; (first | (have T22 := hide' (T21.out.app2 hown hgrow hat)) | (have T12 := hide' (T11.out.app2 hown hgrow hat))); clear hown hgrow hat hlt)
            | fail)
        all_goals
          go_wp2
          go_ret2
          have sw : w.heap.size ≤ w6.heap.size := by have := BB.out.size; have := B6.out.size; omega
          refine ⟨Or.inl ⟨p, full, _, _, rfl, ?_, ?_, IT.out⟩, BB.out.trans ((B6.out.trans (T22.out.bl.mono B6.out.size)).mono BB.out.size)⟩
          · have h := row_base_mono T22.out.b1 sw
            rw [HM.out, List.map_append, List.map_map]
            exact h
          · have h := row_base_mono T22.out.b2 sw
            rw [HM.out, List.map_append, List.map_map]
            exact h
      · have NT := hide' (show NoTwin S k T from fun p hp cs c h1 h2 => hno (p, p) (by simp [diagL]; exact hp) cs c h1 h2)
        clear hno
        have B5 := hide' (B4.out.alloc B4.out.size (.cells #[.int .i64 0, .int .i64 0] 127))
        go_wp2
        go_ret2
        exact ⟨Or.inr ⟨rfl, NT.out⟩, BB.out.trans (B5.out.mono BB.out.size)⟩
end Go.Proofs.YtjjdjdodhedihaaDoor

