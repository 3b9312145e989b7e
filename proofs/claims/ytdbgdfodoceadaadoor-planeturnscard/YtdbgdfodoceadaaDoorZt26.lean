/-
  What the last text of this claim leans on, part 26: Gw3, In1, As, Err, Er1, Gv2.
-/
import Derived.Test.YtdbgdfodoceadaaDoorZt24
import Derived.Test.YtdbgdfodoceadaaDoorZt25
import Derived.Test.YtdbgdfodoceadaaDoorZt9
import Derived.Test.YtdbgdfodoceadaaDoorProg
import Derived.Test.YtdbgdfodoceadaaDoorZt22
import Derived.WalkKit
import Derived.LaidEql
import Derived.Stop.Asserts
import Derived.RowKitTokens
import Derived.WalkSpells
import Derived.WalkLawsBesides
import Derived.Deep.CutRange
namespace Go.Proofs.YtdbgdfodoceadaaDoor
open Go.RowKit
set_option linter.unusedVariables false
theorem mod_atW {a W : Nat} (q : Nat) (h1 : q * W ≤ a) (h2 : a < q * W + W) : a % W = a - q * W := by
  have e : a = (a - q * W) + W * q := by rw [Nat.mul_comm W q]; omega
  rw [e, Nat.add_mul_mod_self_left, Nat.mod_eq_of_lt (by omega), ← e]
theorem mod_mirW {W x j : Nat} (hx : x < W) (hj : j ≤ 2) : (W - 1 - x + (W - 1 + (2 - j))) % W = W - 1 - (x + (W - 1 + j)) % W := by
  by_cases a1 : x + (W - 1 + j) < W
  · rw [mod_atW (a := x + (W - 1 + j)) 0 (by omega) (by omega), mod_atW 2 (by omega) (by omega)]; omega
  · by_cases a2 : x + (W - 1 + j) < 2 * W
    · rw [mod_atW (a := x + (W - 1 + j)) 1 (by omega) (by omega), mod_atW 1 (by omega) (by omega)]; omega
    · rw [mod_atW (a := x + (W - 1 + j)) 2 (by omega) (by omega), mod_atW 0 (by omega) (by omega)]; omega
theorem torC_mir {W H x y i j : Nat} (xs : List Int) (hx : x < W) (hy : y < H) (hj : j ≤ 2) : torC W H (mirP W H xs) x y i j = torC W H xs (W - 1 - x) y i (2 - j) := by
  have e := mir_at W H xs ((x + (W - 1 + j)) % W) ((y + (H - 1 + i)) % H) (Nat.mod_lt _ (by omega)) (Nat.mod_lt _ (by omega))
  unfold atP at e
  unfold torC
  rw [e, mod_mirW hx hj]
theorem torC_qtr {W H x y i j : Nat} (xs : List Int) (hx : x < H) (hy : y < W) (hj : j ≤ 2) : torC H W (qtrP W H xs) x y i j = torC W H xs y (H - 1 - x) (2 - j) i := by
  have e := qtr_at W H xs ((x + (H - 1 + j)) % H) ((y + (W - 1 + i)) % W) (Nat.mod_lt _ (by omega)) (Nat.mod_lt _ (by omega))
  unfold atP at e
  unfold torC
  rw [e, mod_mirW hx hj]
theorem torS_mir {W H x y : Nat} (xs : List Int) (hx : x < W) (hy : y < H) : torS W H (mirP W H xs) x y 9 = torS W H xs (W - 1 - x) y 9 := by
  have e := mir_at W H xs x y hx hy
  unfold atP at e
  unfold torS
  rw [e]
  simp only [sumG, Nat.reduceDiv, Nat.reduceMod]
  simp only [torC_mir xs hx hy (show 0 ≤ 2 by omega), torC_mir xs hx hy (show 1 ≤ 2 by omega), torC_mir xs hx hy (show 2 ≤ 2 by omega), Nat.reduceSub]
  omega
theorem torS_qtr {W H x y : Nat} (xs : List Int) (hx : x < H) (hy : y < W) : torS H W (qtrP W H xs) x y 9 = torS W H xs y (H - 1 - x) 9 := by
  have e := qtr_at W H xs x y hx hy
  unfold atP at e
  unfold torS
  rw [e]
  simp only [sumG, Nat.reduceDiv, Nat.reduceMod]
  simp only [torC_qtr xs hx hy (show 0 ≤ 2 by omega), torC_qtr xs hx hy (show 1 ≤ 2 by omega), torC_qtr xs hx hy (show 2 ≤ 2 by omega), Nat.reduceSub]
  omega
theorem torL_length (born stay W H : Nat) (xs : List Int) : (torL born stay W H xs).length = W * H := by simp [torL]
theorem torL_at (born stay W H : Nat) (xs : List Int) (x y : Nat) (hx : x < W) (hy : y < H) : atP W (torL born stay W H xs) x y = ((becN born stay (atP W xs x y) (torS W H xs x y 9).toNat : Nat) : Int) := by
  obtain ⟨d, m⟩ := divmod_mk W y x hx
  have hl := mk_lt hx hy
  unfold atP torL
  have e : ((List.range (W * H)).map (torV born stay W H xs)).getD (y * W + x) 0 = torV born stay W H xs (y * W + x) := by simp [List.getD, hl]
  rw [e, torV, d, m]
def torP (born stay : Nat) (p : Pat) : Pat := ⟨p.W, p.H, torL born stay p.W p.H p.xs⟩
theorem torP_mir (born stay : Nat) (p : Pat) : torP born stay p.mir = (torP born stay p).mir := by
  obtain ⟨W, H, xs⟩ := p
  unfold torP Pat.mir
  dsimp only
  congr 1
  refine list_at (torL_length ..) (mirP_length ..) fun x y hx hy => ?_
  rw [torL_at _ _ _ _ _ _ _ hx hy, mir_at _ _ _ _ _ hx hy, mir_at _ _ _ _ _ hx hy, torL_at _ _ _ _ _ _ _ (by omega) hy, torS_mir xs hx hy]
theorem torP_qtr (born stay : Nat) (p : Pat) : torP born stay p.qtr = (torP born stay p).qtr := by
  obtain ⟨W, H, xs⟩ := p
  unfold torP Pat.qtr
  dsimp only
  congr 1
  refine list_at (torL_length ..) (qtrP_length ..) fun x y hx hy => ?_
  rw [torL_at _ _ _ _ _ _ _ hx hy, qtr_at _ _ _ _ _ hx hy, qtr_at _ _ _ _ _ hx hy, torL_at _ _ _ _ _ _ _ hy (by omega), torS_qtr xs hx hy]
theorem torP_rot (born stay : Nat) (p : Pat) : ∀ j, torP born stay (p.rot j) = (torP born stay p).rot j
  | 0 => rfl
  | j + 1 => by rw [Pat.rot, torP_qtr, torP_rot born stay p j]; rfl
theorem torP_turn (born stay : Nat) (p : Pat) (k : Nat) : torP born stay (p.turn k) = (torP born stay p).turn k := by
  unfold Pat.turn
  rw [torP_rot]
  split
  · rw [torP_mir]
  · rfl
end Go.Proofs.YtdbgdfodoceadaaDoor

namespace Go.Proofs.YtdbgdfodoceadaaDoor
open Go.RowKit
set_option linter.unusedVariables false

theorem list_ne_len {xs ys : List Int} (h : xs.length ≠ ys.length) : decide (xs = ys) = false := by
  simp; intro e; exact h (by rw [e])
theorem list_ne_at {xs ys : List Int} {k : Nat} (hx : k < xs.length) (hy : k < ys.length) (h : xs[k] ≠ ys[k]) : decide (xs = ys) = false := by
  simp; intro e; subst e; exact h rfl

set_option maxHeartbeats 1600000 in
theorem Ints_any (xs ys : List Int) (a b : Option Addr) (n c m d : Nat) (w : World) (hA : ArgP w xs a n c) (hB : ArgP w ys b m d) :
    Calls Tryd.prog 35 #[.slice a n c, .slice b m d] w fun e w' => e = .returned (.bool (decide (xs = ys))) ∧ ∃ q, w' = w.drewN q := by
  have HA := hide' hA
  have HB := hide' hB
  have hlx := hA.len
  have hly := hB.len
  have hma := hA.max
  have hmb := hB.max
  have LX := hide' hlx
  have LY := hide' hly
  unfold maxLen at hma hmb
  by_cases hnm : n = m
  · subst hnm
    clear hA hB hlx hly
    have EQ := hide' (fun (h : ∀ j (h1 : j < xs.length) (h2 : j < ys.length), xs[j] = ys[j]) => show decide (xs = ys) = true by
      simp; exact List.ext_getElem (by rw [← LX.out, ← LY.out]) fun j h1 h2 => h j h1 h2)
    go_enter Tryd.func35, Tryd.ntmps35
    go_wp2
    go_loopw [5] (fun iv wr => ∃ k q : Nat, iv = .int .i64 (k : Int) ∧ k ≤ n ∧ wr = w.drewN q ∧ Hid (∀ j (h1 : j < xs.length) (h2 : j < ys.length), j < k → xs[j] = ys[j])) (fun iv _ => n - (intOf iv).toNat)
    case atStart => exact ⟨0, 0, rfl, by omega, rfl, fun j h1 h2 h => by omega⟩
    case round =>
      obtain ⟨k, q, rfl, hk, rfl, HK⟩ := hrel
      by_cases hkn : (k : Int) < (n : Int)
      · have l1 : k < xs.length := by have := LX.out; omega
        have l2 : k < ys.length := by have := LY.out; omega
        obtain ⟨ga, oa, rfl, -, c1⟩ := HA.out.cells k l1
        obtain ⟨gb, ob, rfl, -, c2⟩ := HB.out.cells k l2
        obtain ⟨x, hx⟩ : ∃ x, xs[k] = x := ⟨_, rfl⟩
        obtain ⟨y, hy⟩ : ∃ y, ys[k] = y := ⟨_, rfl⟩
        rw [hx] at c1
        rw [hy] at c2
        have HX := hide' hx
        have HY := hide' hy
        clear hx hy
        by_cases e : x = y
        · subst e
          have m1 : (x != x) = false := by simp
          go_wp2
          go_quiet (fail)
          go_wp2
          refine ⟨⟨k + 1, q + nq, by go_num, by omega, rfl, fun j h1 h2 h => ?_⟩, by simp [intOf]; omega⟩
          by_cases ej : j = k
          · subst ej; rw [HX.out, HY.out]
          · exact HK.out j h1 h2 (by omega)
        · have m1 : (x != y) = true := by simp [e]
          have F := hide' (list_ne_at l1 l2 (by rw [HX.out, HY.out]; exact e))
          clear e
          go_wp2
          go_quiet (fail)
          go_wp2
          go_ret
          exact ⟨by rw [F.out]; rfl, q + nq, by simp [World.drewN, Nat.add_assoc]⟩
      · have F := hide' (EQ.out fun j h1 h2 => HK.out j h1 h2 (by have := LX.out; omega))
        go_wp2
        go_ret
        exact ⟨by rw [F.out]; rfl, q, rfl⟩
  · have m1 : ((n : Int) != (m : Int)) = true := by simp; omega
    have F := hide' (list_ne_len (xs := xs) (ys := ys) (by rw [← hlx, ← hly]; exact hnm))
    clear hA hB hlx hly hnm
    go_enter Tryd.func35, Tryd.ntmps35
    go_wp2
    go_ret
    exact ⟨by rw [F.out]; rfl, 0, rfl⟩

set_option maxHeartbeats 1600000 in
theorem Alike_any (W H W' H' : Int) (xs ys : List Int) (a b : Option Addr) (n c m d : Nat) (w : World) (hA : ArgP w xs a n c) (hB : ArgP w ys b m d) :
    Calls Tryd.prog 14 #[.agg #[.int .i64 W, .int .i64 H, .slice a n c], .agg #[.int .i64 W', .int .i64 H', .slice b m d]] w fun e w' => e = .returned (.bool (decide (xs = ys) && (W == W') && (H == H'))) ∧ Below w.heap.size w w' := by
  have B := hide' (((Below.refl w.heap.size w).alloc (Nat.le_refl _) (.cells #[.int .i64 W, .int .i64 H, .slice a n c] 26)).alloc (by simp) (.cells #[.int .i64 W', .int .i64 H', .slice b m d] 26))
  have AA := hide' (hA.below B.out)
  have AB := hide' (hB.below B.out)
  obtain ⟨r, hr⟩ : ∃ r, decide (xs = ys) = r := ⟨_, rfl⟩
  have HR := hide' hr
  clear hA hB hr
  cases r
  · go_enter Tryd.func14, Tryd.ntmps14
    go_wp2_with fail
    refine (Ints_any xs ys a b n c m d _ AA.out AB.out).mono ?_
    rw [HR.out]
    rintro e w1 ⟨rfl, q, rfl⟩
    go_wp2
    go_ret
    exact ⟨by rw [HR.out]; simp, below_drewN B.out q⟩
  · cases e1 : (W == W')
    · go_enter Tryd.func14, Tryd.ntmps14
      go_wp2_with fail
      refine (Ints_any xs ys a b n c m d _ AA.out AB.out).mono ?_
      rw [HR.out]
      rintro e w1 ⟨rfl, q, rfl⟩
      go_wp2
      go_ret
      exact ⟨by rw [HR.out]; simp, below_drewN B.out q⟩
    · go_enter Tryd.func14, Tryd.ntmps14
      go_wp2_with fail
      refine (Ints_any xs ys a b n c m d _ AA.out AB.out).mono ?_
      rw [HR.out]
      rintro e w1 ⟨rfl, q, rfl⟩
      go_wp2
      go_ret
      exact ⟨by rw [HR.out]; simp, below_drewN B.out q⟩
end Go.Proofs.YtdbgdfodoceadaaDoor

namespace Go.Proofs.YtdbgdfodoceadaaDoor
open Go.RowKit Go.Extern.Stop Go.Stop Go.Extern

end Go.Proofs.YtdbgdfodoceadaaDoor

namespace Go.Proofs.YtdbgdfodoceadaaDoor
open Go.RowKit

/-- The cell of errors.errorType holds the handle of the type error. -/
def Handle (w : World) : Prop := w.cell? ⟨0, 0, none⟩ = some (.iface 211 (.agg #[.pointer (some ⟨2, 29, none⟩)]))

theorem Handle.lt {w : World} (hg : Handle w) : 0 < w.heap.size := by
  unfold Handle at hg
  rcases Nat.lt_or_ge 0 w.heap.size with h | h
  · exact h
  · simp [World.cell?, Array.getElem?_eq_none h] at hg

theorem Handle.below {w w' : World} (hg : Handle w) (h : Below w.heap.size w w') : Handle w' := by
  have := hg.lt
  unfold Handle at hg ⊢
  rw [h.cell (p := ⟨0, 0, none⟩) this]; exact hg

end Go.Proofs.YtdbgdfodoceadaaDoor

namespace Go.Proofs.YtdbgdfodoceadaaDoor
open Go.RowKit
set_option linter.unusedVariables false

theorem tab_below {w w' : World} {v : Value} {xs : List Int} (h : Tab w v xs) (hb : Below w.heap.size w w') : Tab w' v xs := by
  rcases h with h | ⟨g, cap, hv, hg, hc⟩
  · exact Or.inl h
  · exact Or.inr ⟨g, cap, hv, Nat.lt_of_lt_of_le hg hb.size, fun k hk => (World.cell?_of_block (w := w) (a := ⟨g, k, none⟩) (hb.block g hg)).trans (hc k hk)⟩
end Go.Proofs.YtdbgdfodoceadaaDoor

namespace Go.Proofs.YtdbgdfodoceadaaDoor
open Go.RowKit
set_option linter.unusedVariables false
def agV (x : AgR) : Value := .agg #[.int .i64 (x.n : Int), .int .i64 x.r, .int .i64 x.d]
/-- What Again has when some steps were gone. -/
def AgInv (born stay : Nat) (s0 : Gst) (m j : Nat) (u : Gst) : Prop := (u.P.W = 0 → agA born stay s0 m = ⟨0, 0, 0, 5⟩) ∧ (u.P.W ≠ 0 → agA born stay s0 m = agn born stay s0 (m - j) j u ∧ s0.P.W ≠ 0)
theorem AgInv.start (born stay : Nat) (s0 : Gst) (m : Nat) : AgInv born stay s0 m 0 s0 := ⟨fun h => by unfold agA; rw [if_pos h], fun h => ⟨by unfold agA; rw [if_neg h]; rfl, h⟩⟩
theorem AgInv.big {born stay : Nat} {s0 : Gst} {m j : Nat} {u : Gst} (h : AgInv born stay s0 m j u) (hj : j < m) (z : u.P.W ≠ 0) (b : 100 < (nextG born stay u).P.W ∨ 100 < (nextG born stay u).P.H) : agA born stay s0 m = ⟨0, 0, 0, 4⟩ := by
  rw [(h.2 z).1, show m - j = (m - (j + 1)) + 1 by omega, agn, if_pos b]
theorem AgInv.next {born stay : Nat} {s0 : Gst} {m j : Nat} {u : Gst} (b0 : born.testBit 0 = false) (h : AgInv born stay s0 m j u) (hj : j < m) (z : u.P.W ≠ 0) (b : ¬ (100 < (nextG born stay u).P.W ∨ 100 < (nextG born stay u).P.H)) (k : sameP (nextG born stay u).P s0.P = false) : AgInv born stay s0 m (j + 1) (nextG born stay u) := by
  have e : agA born stay s0 m = agn born stay s0 (m - (j + 1)) (j + 1) (nextG born stay u) := by
    rw [(h.2 z).1, show m - j = (m - (j + 1)) + 1 by omega, agn, if_neg b, if_neg (by rw [k]; simp)]
  refine ⟨fun t => ?_, fun _ => ⟨e, (h.2 z).2⟩⟩
  have tn : nextG born stay u = noG := box_zero t
  rw [e, tn]
  exact agn_noG b0 (h.2 z).2 _ _
structure GA (w w4 wr : World) (pf p : Nat) (s0 : Gst) (v0 : Value) (s : Gst) (v : Value) : Prop where
  keep : ∀ k, k < w.heap.size + 1 + 1 + 1 → wr.heap[k]? = w4.heap[k]?
  fb : wr.heap[pf]? = some (.cells #[.int .i64 (s0.P.W : Int), .int .i64 (s0.P.H : Int), v0, .int .i64 s0.r, .int .i64 s0.d] 36 (0, 0))
  ft : Tab wr v0 s0.P.xs
  ff : ∀ g k c, v0 = .slice (some ⟨g, 0, none⟩) k c → w.heap.size + 1 + 1 + 1 ≤ g ∧ g ≠ p
  blk : wr.heap[p]? = some (.cells #[.int .i64 (s.P.W : Int), .int .i64 (s.P.H : Int), v, .int .i64 s.r, .int .i64 s.d] 36 (0, 0))
  tab : Tab wr v s.P.xs
  fr : ∀ g k c, v = .slice (some ⟨g, 0, none⟩) k c → w.heap.size + 1 + 1 + 1 ≤ g ∧ g ≠ p
  pq : w.heap.size + 1 + 1 + 1 ≤ pf
  pl : pf < p
  below : Below w.heap.size w wr
theorem GA.next {w w4 wr w' : World} {pf p : Nat} {s0 s : Gst} {v0 v : Value} (h : GA w w4 wr pf p s0 v0 s v) (b : Below wr.heap.size wr w') : GA w w4 w' pf p s0 v0 s v := by
  have l := lt_of_block h.blk
  have lf := lt_of_block h.fb
  have := h.pl
  have := h.pq
  exact ⟨fun k hk => (b.block k (by omega)).trans (h.keep k hk), (b.block _ lf).trans h.fb, tab_below h.ft b, h.ff, (b.block _ l).trans h.blk, tab_below h.tab b, h.fr, h.pq, h.pl, h.below.trans (b.mono h.below.size)⟩
end Go.Proofs.YtdbgdfodoceadaaDoor

