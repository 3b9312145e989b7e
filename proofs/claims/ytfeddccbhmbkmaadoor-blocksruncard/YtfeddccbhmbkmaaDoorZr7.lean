/-
  What the last text of this claim leans on, part 7: Bk6, Gr5, Gr6, Wb1, Qa1, Pa7, Pa8, Jumps, Pa9, Pa10, Qa2.
-/
import Derived.Test.YtfeddccbhmbkmaaDoorZr6
import Derived.Test.YtfeddccbhmbkmaaDoorZr3
import Derived.Test.YtfeddccbhmbkmaaDoorZr4
import Derived.Test.YtfeddccbhmbkmaaDoorZr1
import Derived.Scope
import Derived.WalkMore
namespace Go.Proofs.YtfeddccbhmbkmaaDoor
open Go.RowKit
set_option linter.unusedVariables false
def in16 (x : Int) : Bool := decide (0 ≤ x) && decide (x < 16)
/-- What is wrong with a table of blocks. -/
def tabE (t : List Int) : Nat := if t.length = 16 then (if t.all in16 then 0 else 1) else 3
theorem all_take_next {t : List Int} {i : Nat} (hi : i < t.length) (h : ∀ k (hk : k < t.length), k < i → in16 t[k] = true) (h1 : in16 t[i] = true) : ∀ k (hk : k < t.length), k < i + 1 → in16 t[k] = true := fun k hk hl => by
  by_cases e : k = i
  · subst e; exact h1
  · exact h k hk (by omega)
theorem tabE_bad {t : List Int} {i : Nat} (hl : t.length = 16) (hi : i < t.length) (h1 : in16 t[i] = false) : tabE t = 1 := by
  unfold tabE
  rw [if_pos hl, if_neg]
  intro h
  have := List.all_eq_true.1 h t[i] (List.getElem_mem hi)
  rw [h1] at this; cases this
theorem tabE_good {t : List Int} (hl : t.length = 16) (h : ∀ k (hk : k < t.length), k < 16 → in16 t[k] = true) : tabE t = 0 := by
  unfold tabE
  rw [if_pos hl, if_pos]
  refine List.all_eq_true.2 fun x hx => ?_
  obtain ⟨k, hk, rfl⟩ := List.getElem_of_mem hx
  exact h k hk (by omega)
set_option maxRecDepth 100000 in
set_option maxHeartbeats 3200000 in
theorem Check_B (t : List Int) (a : Option Addr) (n c : Nat) (w : World) (hP : ArgP w t a n c) : Calls Tryd.prog 23 #[.slice a n c] w fun e w' => e = .returned (errOf (tabE t)) ∧ Below w.heap.size w w' := by
  have hlen := hP.len
  by_cases l16 : n = 16
  · subst l16
    have HC := hide' (fun k (hk : k < 16) => hP.cells k (by omega))
    obtain ⟨g, off, rfl, hg, -⟩ := hP.cells 0 (by omega)
    have HCC := hide' (fun k (hk : k < t.length) => show w.cell? ⟨g, off + k, none⟩ = some (.int .i64 t[k]) from by
      obtain ⟨g', off', e, hg', h⟩ := HC.out k (by omega)
      cases e
      exact h)
    have HL := hide' hlen
    clear hlen hP HC
    go_enter Tryd.func23, Tryd.ntmps23
    go_wp2
    go_loopw [11] (fun iv wr => ∃ (i : Nat), iv = .int .i64 (i : Int) ∧ i ≤ 16 ∧ wr = w ∧ Hid (∀ k (hk : k < t.length), k < i → in16 t[k] = true)) (fun iv _ => 16 - (intOf iv).toNat)
    case atStart => exact ⟨0, rfl, by omega, rfl, hide' (fun k hk h => by omega)⟩
    case round =>
      obtain ⟨i, rfl, hi, rfl, HA⟩ := hrel
      by_cases d : (i : Int) < 16
      · have il : i < 16 := by omega
        have hit : i < t.length := by have := HL.out; omega
        have ci := HCC.out i hit
        obtain ⟨x, hx⟩ : ∃ x, t[i] = x := ⟨_, rfl⟩
        rw [hx] at ci
        have HX := hide' hx
        clear hx
        by_cases x0 : x < 0
        · have TE := hide' (show tabE t = 1 from tabE_bad HL.out.symm hit (by rw [HX.out]; unfold in16; simp; omega))
          go_wp2
          go_ret
          exact ⟨by rw [TE.out]; rfl, Below.refl _ _⟩
        · by_cases x16 : 16 ≤ x
          · have TE := hide' (show tabE t = 1 from tabE_bad HL.out.symm hit (by rw [HX.out]; unfold in16; simp; omega))
            go_wp2
            go_ret
            exact ⟨by rw [TE.out]; rfl, Below.refl _ _⟩
          · have TE := hide' (show in16 t[i] = true by rw [HX.out]; unfold in16; simp; omega)
            go_wp2
            exact ⟨⟨i + 1, by go_num, by omega, by simp, hide' (all_take_next hit HA.out TE.out)⟩, by simp [intOf]; omega⟩
      · have i16 : i = 16 := by omega
        subst i16
        have TE := hide' (tabE_good HL.out.symm HA.out)
        go_wp2
        go_ret
        exact ⟨by rw [TE.out]; rfl, Below.refl _ _⟩
  · have TE := hide' (show tabE t = 3 by unfold tabE; rw [if_neg (by omega)])
    have nn : ((n : Int) == 16) = false := by simp; omega
    have nm : ¬ (n : Int) = 16 := by omega
    clear l16
    go_enter Tryd.func23, Tryd.ntmps23
    go_wp2
    go_ret
    exact ⟨by rw [TE.out]; rfl, Below.refl _ _⟩
/-- What is wrong where blocks are to run. -/
def runE (t : List Int) (W H : Int) (xs : List Int) (ph n : Int) : Nat := if tabE t ≠ 0 then tabE t else if shapeF W H xs ≠ 0 then shapeF W H xs else if W % 2 ≠ 0 ∨ H % 2 ≠ 0 then 3 else if ph ≠ 0 ∧ ph ≠ 1 then 1 else if n < 0 ∨ 100000 < n then 1 else 0
theorem shape_nat {W H : Int} {xs : List Int} (h : shapeF W H xs = 0) : ∃ Wn Hn : Nat, W = (Wn : Int) ∧ H = (Hn : Int) ∧ Wn ≤ 100 ∧ Hn ≤ 100 := by
  unfold shapeF at h
  split at h
  · rename_i hs
    simp only [Bool.and_eq_true] at hs
    unfold sideB at hs
    simp at hs
    exact ⟨W.toNat, H.toNat, by omega, by omega, by omega, by omega⟩
  · omega
theorem errOf_posB {f : Nat} (h : f ≠ 0) : errOf f = .iface 83 (.int .i64 (f : Int)) := by unfold errOf; rw [if_neg h]
set_option maxRecDepth 100000 in
set_option maxHeartbeats 6400000 in
theorem checkRun_any (t : List Int) (b : Option Addr) (m d : Nat) (W H : Int) (xs : List Int) (a : Option Addr) (n c : Nat) (ph k : Int) (w : World) (hT : ArgP w t b m d) (hP : ArgP w xs a n c) :
    Calls Tryd.prog 62 #[.slice b m d, .agg #[.int .i64 W, .int .i64 H, .slice a n c], .int .i64 ph, .int .i64 k] w fun e w' => e = .returned (errOf (runE t W H xs ph k)) ∧ Below w.heap.size w w' := by
  have BB := hide' ((Below.refl w.heap.size w).alloc (Nat.le_refl _) (.cells #[.int .i64 W, .int .i64 H, .slice a n c] 26))
  have G0 := hide' (show (w.alloc (.cells #[.int .i64 W, .int .i64 H, .slice a n c] 26)).heap[w.heap.size]? = some (.cells #[.int .i64 W, .int .i64 H, .slice a n c] 26 (0, 0)) from heap_alloc_new _ _)
  have TC := hide' (Check_B t b m d _ (hT.below BB.out))
  have PC := hide' (fun (V : World) (hV : Below w.heap.size w V) => Check_P W H xs a n c V (hP.below hV))
  clear hT hP
  go_enter Tryd.func62, Tryd.ntmps62
  go_wp2_with fail
  refine TC.out.mono ?_
  rintro e w2 ⟨rfl, b2⟩
  have B2 := hide' (BB.out.trans (b2.mono BB.out.size))
  have e2 := (b2.block _ (lt_of_block G0.out)).trans G0.out
  have x0 := cell_of_row w2 _ 0 _ _ _ e2
  have x1 := cell_of_row w2 _ 1 _ _ _ e2
  have x2 := cell_of_row w2 _ 2 _ _ _ e2
  simp at x0 x1 x2
  have E2 := hide' e2
  clear b2 e2
  obtain ⟨te, hte⟩ : ∃ te, tabE t = te := ⟨_, rfl⟩
  rw [hte]
  by_cases t0 : te = 0
  · subst t0
    rw [show errOf 0 = .nilIface from rfl]
    have HT := hide' hte
    clear hte
    go_wp2_with fail
    refine (PC.out w2 B2.out).mono ?_
    rintro e w3 ⟨rfl, b3⟩
    have B3 := hide' (B2.out.trans (b3.mono B2.out.size))
    have e3 := (b3.block _ (lt_of_block E2.out)).trans E2.out
    have y0 := cell_of_row w3 _ 0 _ _ _ e3
    have y1 := cell_of_row w3 _ 1 _ _ _ e3
    simp at y0 y1
    clear b3 e3 x0 x1 x2
    obtain ⟨se, hse⟩ : ∃ se, shapeF W H xs = se := ⟨_, rfl⟩
    rw [hse]
    by_cases s0 : se = 0
    · subst s0
      rw [show errOf 0 = .nilIface from rfl]
      obtain ⟨Wn, Hn, rfl, rfl, hW, hH⟩ := shape_nat hse
      have RE := hide' (show runE t (Wn : Int) (Hn : Int) xs ph k = if (Wn : Int) % 2 ≠ 0 ∨ (Hn : Int) % 2 ≠ 0 then 3 else if ph ≠ 0 ∧ ph ≠ 1 then 1 else if k < 0 ∨ 100000 < k then 1 else 0 from by
        unfold runE; rw [HT.out, hse, if_neg (by simp), if_neg (by simp)])
      clear hse
      obtain ⟨r, hr⟩ : ∃ r : Nat, Wn % 2 = r := ⟨_, rfl⟩
      obtain ⟨q, hq⟩ : ∃ q : Nat, Hn % 2 = q := ⟨_, rfl⟩
      have wr2 : (Wn : Int) % 2 = (r : Int) := by omega
      have hr2 : (Hn : Int) % 2 = (q : Int) := by omega
      rw [wr2, hr2] at RE
      have r2 : r = 0 ∨ r = 1 := by omega
      have q2 : q = 0 ∨ q = 1 := by omega
      clear hr hq
      rcases r2 with rfl | rfl
      · rcases q2 with rfl | rfl
        · by_cases p0 : ph = 0 ∨ ph = 1
          · rcases p0 with rfl | rfl
            all_goals (
              by_cases k0 : k < 0
              · have RF := hide' (show runE t (Wn : Int) (Hn : Int) xs _ k = 1 by rw [RE.out, if_neg (by simp), if_neg (by omega), if_pos (by omega)])
                go_wp2
                go_ret
                exact ⟨by rw [RF.out]; rfl, B3.out⟩
              · by_cases k1 : 100000 < k
                · have RF := hide' (show runE t (Wn : Int) (Hn : Int) xs _ k = 1 by rw [RE.out, if_neg (by simp), if_neg (by omega), if_pos (by omega)])
                  go_wp2
                  go_ret
                  exact ⟨by rw [RF.out]; rfl, B3.out⟩
                · have RF := hide' (show runE t (Wn : Int) (Hn : Int) xs _ k = 0 by rw [RE.out, if_neg (by simp), if_neg (by omega), if_neg (by omega)])
                  go_wp2
                  go_ret
                  exact ⟨by rw [RF.out]; rfl, B3.out⟩)
          · have RF := hide' (show runE t (Wn : Int) (Hn : Int) xs ph k = 1 by rw [RE.out, if_neg (by simp), if_pos (by omega)])
            have pt : (ph == 0) = false := by simp; omega
            have pt2 : (ph == 1) = false := by simp; omega
            have pt3 : (ph != 0) = true := by simp; omega
            have pt4 : (ph != 1) = true := by simp; omega
            clear p0
            go_wp2
            go_ret
            exact ⟨by rw [RF.out]; rfl, B3.out⟩
        · have RF := hide' (show runE t (Wn : Int) (Hn : Int) xs ph k = 3 by rw [RE.out, if_pos (by simp)])
          go_wp2
          go_ret
          exact ⟨by rw [RF.out]; rfl, B3.out⟩
      · have RF := hide' (show runE t (Wn : Int) (Hn : Int) xs ph k = 3 by rw [RE.out, if_pos (by simp)])
        go_wp2
        go_ret
        exact ⟨by rw [RF.out]; rfl, B3.out⟩
    · have RE := hide' (show errOf (runE t W H xs ph k) = .iface 83 (.int .i64 (se : Int)) by unfold runE; rw [HT.out, hse, if_neg (by simp), if_pos s0]; exact errOf_posB s0)
      rw [errOf_posB s0]
      clear hse s0
      go_wp2
      go_ret
      exact ⟨by rw [RE.out]; rfl, B3.out⟩
  · have RE := hide' (show errOf (runE t W H xs ph k) = .iface 83 (.int .i64 (te : Int)) by unfold runE; rw [hte, if_pos t0]; exact errOf_posB t0)
    rw [errOf_posB t0]
    clear hte t0
    go_wp2
    go_ret
    exact ⟨by rw [RE.out]; rfl, B2.out⟩
end Go.Proofs.YtfeddccbhmbkmaaDoor

namespace Go.Proofs.YtfeddccbhmbkmaaDoor
open Go.RowKit
set_option linter.unusedVariables false
/-- What lies there while the rows are moved. -/
structure BX (w w4 wr : World) (p : Nat) (G : Nat → Value) : Prop where
  keep : ∀ k, k < w4.heap.size → k ≠ p → wr.heap[k]? = w4.heap[k]?
  out : wr.heap[p]? = some (.cells (arrF 208 G) 174 (0, 0))
  below : Below w.heap.size w wr
  size : w4.heap.size ≤ wr.heap.size
theorem BX.next {w w4 wr w' : World} {p : Nat} {G : Nat → Value} (h : BX w w4 wr p G) (b : Below wr.heap.size wr w') : BX w w4 w' p G :=
  ⟨fun k hk hn => (b.block k (Nat.lt_of_lt_of_le hk h.size)).trans (h.keep k hk hn), (b.block _ (lt_of_block h.out)).trans h.out, h.below.trans (b.mono h.below.size), Nat.le_trans h.size b.size⟩
theorem BX.set {w w4 wr : World} {p : Nat} {G : Nat → Value} (h : BX w w4 wr p G) (hp : w.heap.size ≤ p) (i : Nat) (v : Value) : BX w w4 (wr.setCell ⟨p, i, none⟩ v) p (fun k => if k = i then v else G k) :=
  ⟨fun k hk hn => (Below.heap_setCell _ _ _ _ hn).trans (h.keep k hk hn), by rw [heap_setCell_same _ _ _ _ _ _ h.out, arrF_set], h.below.setCell hp _, by rw [World.size_setCell]; exact h.size⟩
theorem BX.ext {w w4 wr : World} {p : Nat} {G G' : Nat → Value} (h : BX w w4 wr p G) (e : ∀ k, k < 208 → G k = G' k) : BX w w4 wr p G' := ⟨h.keep, by rw [← arrF_ext e]; exact h.out, h.below, h.size⟩
end Go.Proofs.YtfeddccbhmbkmaaDoor

namespace Go.Proofs.YtfeddccbhmbkmaaDoor
open Go.RowKit
set_option linter.unusedVariables false
end Go.Proofs.YtfeddccbhmbkmaaDoor

namespace Go.Proofs.YtfeddccbhmbkmaaDoor
open Go.RowKit
set_option linter.unusedVariables false

/-- The pattern mirrored; turned by a quarter (as wide as it was high). -/
def mirP (W H : Nat) (xs : List Int) : List Int := (List.range (W * H)).map fun q => xs.getD (q / W * W + (W - 1 - q % W)) 0
def qtrP (W H : Nat) (xs : List Int) : List Int := (List.range (H * W)).map fun q => xs.getD ((H - 1 - q % H) * W + q / H) 0
/-- At block g a list of n ints of the call's own; what stands at f i, for i below k, is xs' i-th. -/
structure ScJ (w0 w : World) (g n k : Nat) (f : Nat → Nat) (xs : List Int) : Prop where
  below : Below w0.heap.size w0 w
  ge : w0.heap.size ≤ g
  lt : g < w.heap.size
  cells : ∀ j, j < n → ∃ v, w.cell? ⟨g, j, none⟩ = some v ∧ (∀ i, i < k → f i = j → v = .int .i64 (xs.getD i 0))
  fz : ∀ j, w.frozen? ⟨g, j, none⟩ = false
theorem ScJ.step {w0 w : World} {g n k : Nat} {f : Nat → Nat} {xs : List Int} (h : ScJ w0 w g n k f xs) (hk : f k < n) (hinj : ∀ i, i < k → f i ≠ f k) {x : Int} (hx : xs.getD k 0 = x) : ScJ w0 (w.setCell ⟨g, f k, none⟩ (.int .i64 x)) g n (k + 1) f xs := by
  refine ⟨h.below.setCell h.ge _, h.ge, by rw [World.size_setCell]; exact h.lt, fun j hj => ?_, fun j => by rw [World.frozen?_setCell]; exact h.fz j⟩
  by_cases e : j = f k
  · subst e
    obtain ⟨v, hv, -⟩ := h.cells _ hj
    refine ⟨_, World.cell?_setCell_same _ _ _ hv, fun i hi he => ?_⟩
    by_cases q : i = k
    · subst q; rw [hx]
    · exact absurd he (hinj i (by omega))
  · obtain ⟨v, hv, hv'⟩ := h.cells j hj
    refine ⟨v, ?_, fun i hi he => hv' i (by have : i ≠ k := fun q => e (by rw [← he, q]); omega) he⟩
    exact (World.cell?_setCell_other _ ⟨g, f k, none⟩ ⟨g, j, none⟩ _ (fun q => e (congrArg Addr.off q).symm)).trans hv
theorem ScJ.drewN {w0 w : World} {g n k : Nat} {f : Nat → Nat} {xs : List Int} (h : ScJ w0 w g n k f xs) (m : Nat) : ScJ w0 (w.drewN m) g n k f xs :=
  ⟨h.below.trans ⟨rfl, rfl, rfl, Nat.le_refl _, fun _ _ => rfl⟩, h.ge, h.lt, h.cells, h.fz⟩
theorem ScJ.start {w0 w : World} {g n : Nat} (f : Nat → Nat) (xs ys : List Int) (hb : Below w0.heap.size w0 w) (hg : w0.heap.size ≤ g) (hc : Cel w g ys) (hn : ys.length = n) : ScJ w0 w g n 0 f xs :=
  ⟨hb, hg, hc.lt, fun j hj => ⟨_, hc.cells j (by omega), fun i hi => by omega⟩, hc.fz⟩
theorem ScJ.cel {w0 w : World} {g n : Nat} {f fi : Nat → Nat} {xs : List Int} (h : ScJ w0 w g n n f xs) (h1 : ∀ j, j < n → fi j < n) (h2 : ∀ j, j < n → f (fi j) = j) : Cel w g ((List.range n).map fun j => xs.getD (fi j) 0) := by
  refine ⟨h.lt, fun k hk => ?_, h.fz⟩
  simp only [List.length_map, List.length_range] at hk
  obtain ⟨v, hv, hv'⟩ := h.cells k hk
  rw [hv, hv' (fi k) (h1 k hk) (h2 k hk)]
  simp [List.getD, hk]
end Go.Proofs.YtfeddccbhmbkmaaDoor

namespace Go.Proofs.YtfeddccbhmbkmaaDoor
open Go.RowKit
set_option linter.unusedVariables false

def hd2 (s : ByteArray) (i a b : Nat) : (Nat × Nat × Nat) ⊕ (Nat × Nat) := match wordF s [10] i with | .inr k => .inr (k, 2) | .inl k => .inl (a, b, k)
def hd1 (s : ByteArray) (i a : Nat) : (Nat × Nat × Nat) ⊕ (Nat × Nat) := match sideS s [44, 32, 121, 32, 61, 32] i with | .inr e => .inr e | .inl (h, j) => hd2 s j a h
def hd0 (s : ByteArray) (i : Nat) : (Nat × Nat × Nat) ⊕ (Nat × Nat) := match sideS s [120, 32, 61, 32] i with | .inr e => .inr e | .inl (a, j) => hd1 s j a
def wd (q : Nat) : ByteArray := if q = 0 then ⟨#[120, 32, 61, 32]⟩ else if q = 1 then ⟨#[44, 32, 121, 32, 61, 32]⟩ else ⟨#[10]⟩

structure SdW (w wr : World) (a b : Nat) : Prop where
  below : Below w.heap.size w wr
  size : w.heap.size + 2 ≤ wr.heap.size
  words : ∀ q, q < 3 → wr.cell? ⟨w.heap.size, q, none⟩ = some (.string (wd q))
  n0 : wr.cell? ⟨w.heap.size + 1, 0, none⟩ = some (.int .i64 (a : Int))
  n1 : wr.cell? ⟨w.heap.size + 1, 1, none⟩ = some (.int .i64 (b : Int))
  fz : ∀ k, wr.frozen? ⟨w.heap.size + 1, k, none⟩ = false
theorem SdW.drewN {w wr : World} {a b : Nat} (h : SdW w wr a b) (n : Nat) : SdW w (wr.drewN n) a b :=
  ⟨h.below.trans ⟨rfl, rfl, rfl, Nat.le_refl _, fun _ _ => rfl⟩, h.size, h.words, h.n0, h.n1, h.fz⟩
theorem SdW.start (w : World) (t1 t2 : TypeId) : SdW w ((w.alloc (.cells #[.string ⟨#[120, 32, 61, 32]⟩, .string ⟨#[44, 32, 121, 32, 61, 32]⟩, .string ⟨#[10]⟩] t1)).alloc (.cells #[.int .i64 0, .int .i64 0, .int .i64 0] t2)) 0 0 := by
  refine ⟨((Below.refl _ _).alloc (Nat.le_refl _) _).alloc (by simp) _, by simp, fun q hq => ?_, ?_, ?_, fun k => ?_⟩
  · rw [World.cell?_alloc_past _ _ _ (by simp), World.cell?_alloc_at _ _ _ _ rfl]
    match q, hq with
    | 0, _ => rfl
    | 1, _ => rfl
    | 2, _ => rfl
  · rw [World.cell?_alloc_at _ _ _ _ (by simp)]; rfl
  · rw [World.cell?_alloc_at _ _ _ _ (by simp)]; rfl
  · simp

end Go.Proofs.YtfeddccbhmbkmaaDoor

namespace Go.Proofs.YtfeddccbhmbkmaaDoor
open Go.RowKit
set_option linter.unusedVariables false

end Go.Proofs.YtfeddccbhmbkmaaDoor

namespace Go.Proofs.YtfeddccbhmbkmaaDoor
open Go.RowKit
set_option linter.unusedVariables false

end Go.Proofs.YtfeddccbhmbkmaaDoor

namespace Go.Proofs.YtfeddccbhmbkmaaDoor
open Go

end Go.Proofs.YtfeddccbhmbkmaaDoor

namespace Go.Proofs.YtfeddccbhmbkmaaDoor
open Go.RowKit
set_option linter.unusedVariables false

/-- The result's block. -/
structure ResB (R : Nat) (w : World) : Prop where
  c0 : w.cell? ⟨R, 0, none⟩ = some (.int .i64 0)
  c1 : w.cell? ⟨R, 1, none⟩ = some (.int .i64 0)
  c2 : w.cell? ⟨R, 2, none⟩ = some (.slice none 0 0)
  f0 : w.frozen? ⟨R, 0, none⟩ = false
  f1 : w.frozen? ⟨R, 1, none⟩ = false
  f2 : w.frozen? ⟨R, 2, none⟩ = false
theorem ResB.block {R : Nat} {w w' : World} (h : ResB R w) (e : w'.heap[R]? = w.heap[R]?) : ResB R w' :=
  ⟨(World.cell?_of_block (w := w) (a := ⟨R, 0, none⟩) e).trans h.c0, (World.cell?_of_block (w := w) (a := ⟨R, 1, none⟩) e).trans h.c1, (World.cell?_of_block (w := w) (a := ⟨R, 2, none⟩) e).trans h.c2,
   (World.frozen?_of_block (w := w) (a := ⟨R, 0, none⟩) e).trans h.f0, (World.frozen?_of_block (w := w) (a := ⟨R, 1, none⟩) e).trans h.f1, (World.frozen?_of_block (w := w) (a := ⟨R, 2, none⟩) e).trans h.f2⟩
def resW (w : World) : World := w.alloc (.cells #[.int .i64 0, .int .i64 0, .slice none 0 0] 26)
theorem resW_size (w : World) : (resW w).heap.size = w.heap.size + 1 := by simp [resW]
theorem ResB.below {w w' : World} {R : Nat} (h : ResB R w) (hR : R < w.heap.size) (hb : Below (R + 1) w w') : ResB R w' := h.block (hb.block R (by omega))

structure JCells (s : ByteArray) (w0 w' : World) (v : Rv) (W H g : Nat) (xs : List Int) : Prop where
  rat : RAt (w0.heap.size + 1) s v w'
  wd : v.wd = (W : Int)
  hi : v.hi = (H : Int)
  cs : v.cs = .slice (some ⟨g, 0, none⟩) (W * H) (W * H)
  cel : Cel w' g xs
  len : xs.length = W * H
  gb : w0.heap.size + 1 < g
  lw : W ≤ 100
  lh : H ≤ 100
  li : v.i ≤ s.size
  below : Below (w0.heap.size + 1) (resW w0) w'
theorem JCells.rd {s : ByteArray} {w0 w' w'' : World} {v v' : Rv} {W H g : Nat} {xs : List Int} (h : JCells s w0 w' v W H g xs) (ha : RAt (w0.heap.size + 1) s v' w'') (hr : Rd (w0.heap.size + 1) w' w'') (h1 : v'.wd = v.wd) (h2 : v'.hi = v.hi) (h3 : v'.cs = v.cs) (h4 : v'.i ≤ s.size) : JCells s w0 w'' v' W H g xs :=
  ⟨ha, h1.trans h.wd, h2.trans h.hi, h3.trans h.cs, h.cel.rd hr (by have := h.gb; omega), h.len, h.gb, h.lw, h.lh, h4, h.below.trans (hr.below (Nat.le_refl _) (by have := h.below.size; rw [resW_size] at this; omega))⟩

end Go.Proofs.YtfeddccbhmbkmaaDoor

namespace Go.Proofs.YtfeddccbhmbkmaaDoor
open Go.RowKit
set_option linter.unusedVariables false

theorem JCells.cells {s : ByteArray} {w0 w' w'' : World} {v v' : Rv} {W H g : Nat} {xs xs' : List Int} (h : JCells s w0 w' v W H g xs) (ha : RAt (w0.heap.size + 1) s v' w'') (hb : Below (w0.heap.size + 1) w' w'') (hC : Cel w'' g xs') (hl : xs'.length = xs.length) (h1 : v'.wd = v.wd) (h2 : v'.hi = v.hi) (h3 : v'.cs = v.cs) (h4 : v'.i ≤ s.size) : JCells s w0 w'' v' W H g xs' :=
  ⟨ha, h1.trans h.wd, h2.trans h.hi, h3.trans h.cs, hC, hl.trans h.len, h.gb, h.lw, h.lh, h4, h.below.trans hb⟩
end Go.Proofs.YtfeddccbhmbkmaaDoor

namespace Go.Proofs.YtfeddccbhmbkmaaDoor
open Go.RowKit
set_option linter.unusedVariables false

structure RS (w wr : World) (P W H : Nat) (xs : List Int) : Prop where
  res : ResB w.heap.size wr
  non : ResB (w.heap.size + 1) wr
  p0 : wr.cell? ⟨P, 0, none⟩ = some (.int .i64 (W : Int))
  p1 : wr.cell? ⟨P, 1, none⟩ = some (.int .i64 (H : Int))
  p2 : wr.cell? ⟨P, 2, none⟩ = some (.slice (some ⟨P + 1, 0, none⟩) (W * H) (W * H))
  cel : Cel wr (P + 1) xs
  len : xs.length = W * H
  hP : w.heap.size + 2 ≤ P
  below : Below w.heap.size w wr
theorem RS.set {w wr : World} {P W H : Nat} {xs : List Int} (h : RS w wr P W H xs) (p : Nat) (x : Int) (hp : p < xs.length) : RS w (wr.setCell ⟨P + 1, p, none⟩ (.int .i64 x)) P W H (xs.set p x) := by
  have hP := h.hP
  refine ⟨h.res.block (Below.heap_setCell _ _ _ _ (by simp; omega)), h.non.block (Below.heap_setCell _ _ _ _ (by simp; omega)), ?_, ?_, ?_, h.cel.set p x hp, by rw [List.length_set]; exact h.len, hP, h.below.setCell (by simp; omega) _⟩
  · exact (World.cell?_of_block (w := wr) (a := ⟨P, 0, none⟩) (Below.heap_setCell _ _ _ _ (by simp))).trans h.p0
  · exact (World.cell?_of_block (w := wr) (a := ⟨P, 1, none⟩) (Below.heap_setCell _ _ _ _ (by simp))).trans h.p1
  · exact (World.cell?_of_block (w := wr) (a := ⟨P, 2, none⟩) (Below.heap_setCell _ _ _ _ (by simp))).trans h.p2

theorem res_new (w : World) (t : TypeId) : ResB w.heap.size (w.alloc (.cells #[.int .i64 0, .int .i64 0, .slice none 0 0] t)) :=
  ⟨cell_new_at _ _ _ _, cell_new_at _ _ _ _, cell_new_at _ _ _ _, by simp, by simp, by simp⟩
theorem RS.start {w w1 : World} {W H : Nat} (t1 t2 t3 t4 : TypeId) (hW : W ≤ 100) (hH : H ≤ 100)
    (hb : Below (w.heap.size + 2) ((w.alloc (.cells #[.int .i64 0, .int .i64 0, .slice none 0 0] t1)).alloc (.cells #[.int .i64 0, .int .i64 0, .slice none 0 0] t2)) w1) (N : Nat) (hN : W * H = N) :
    RS w ((w1.alloc (.cells #[.int .i64 (W : Int), .int .i64 (H : Int), .slice (some ⟨w1.heap.size + 1, 0, none⟩) N N] t3)).alloc (.cells (madeCells #[.int .i64 0] N) t4)) w1.heap.size W H (List.replicate N 0) := by
  subst hN
  have z := hb.size
  simp at z
  have r0 := (res_new w t1).block (w' := (w.alloc (.cells #[.int .i64 0, .int .i64 0, .slice none 0 0] t1)).alloc (.cells #[.int .i64 0, .int .i64 0, .slice none 0 0] t2)) (Below.heap_alloc _ _ _ (by simp))
  have r1 := res_new (w.alloc (.cells #[.int .i64 0, .int .i64 0, .slice none 0 0] t1)) t2
  rw [show (w.alloc (.cells #[.int .i64 0, .int .i64 0, .slice none 0 0] t1)).heap.size = w.heap.size + 1 by simp] at r1
  have e : ∀ k, k < w1.heap.size → ((w1.alloc (.cells #[.int .i64 (W : Int), .int .i64 (H : Int), .slice (some ⟨w1.heap.size + 1, 0, none⟩) (W * H) (W * H)] t3)).alloc (.cells (madeCells #[.int .i64 0] (W * H)) t4)).heap[k]? = w1.heap[k]? := fun k hk =>
    (Below.heap_alloc _ _ _ (by simp; omega)).trans (Below.heap_alloc _ _ _ hk)
  refine ⟨(r0.block (hb.block _ (by omega))).block (e _ (by omega)), (r1.block (hb.block _ (by omega))).block (e _ (by omega)), ?_, ?_, ?_, ⟨by simp, fun k hk => ?_, fun k => by simp⟩, by simp, z, ?_⟩
  · rw [World.cell?_alloc_past _ _ _ (by simp), World.cell?_alloc_at _ _ _ _ rfl]; rfl
  · rw [World.cell?_alloc_past _ _ _ (by simp), World.cell?_alloc_at _ _ _ _ rfl]; rfl
  · rw [World.cell?_alloc_past _ _ _ (by simp), World.cell?_alloc_at _ _ _ _ rfl]; rfl
  · rw [World.cell?_alloc_at _ _ _ _ (by simp)]
    rw [List.length_replicate] at hk
    rw [show (List.replicate (W * H) (0 : Int)).getD k 0 = 0 by simp [List.getD, hk]]
    rw [← Array.getElem?_toList, toList_madeCells_one]
    simp [hk]
  · exact (((((Below.refl _ _).alloc (Nat.le_refl _) _).alloc (by simp) _).trans (hb.mono (by omega))).alloc (by omega) _).alloc (by simp; omega) _
end Go.Proofs.YtfeddccbhmbkmaaDoor

