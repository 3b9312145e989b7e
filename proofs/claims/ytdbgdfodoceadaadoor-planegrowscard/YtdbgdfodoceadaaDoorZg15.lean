/-
  What the last text of this claim leans on, part 15: Wd1, Wd2, We1, Wf1, Gs1.
-/
import Derived.Test.YtdbgdfodoceadaaDoorZg14
import Derived.Test.YtdbgdfodoceadaaDoorZg12
import Derived.Test.YtdbgdfodoceadaaDoorZg13
import Derived.Laws.CopyOwn
namespace Go.Proofs.YtdbgdfodoceadaaDoor
open Go.RowKit
set_option linter.unusedVariables false

theorem small (p : Pat) (hp : p.ok) (h1 : p.W ≤ 100) (h2 : p.H ≤ 100) : p.xs.length ≤ 10000 := by rw [hp]; exact Nat.mul_le_mul h1 h2
/-- The pattern in the box, as far as it is turned. -/
structure TD (w wr : World) (p : Pat) (v : Value) : Prop where
  box : TB w.heap.size (.int .i64 (p.W : Int)) (.int .i64 (p.H : Int)) v wr
  res : TB (w.heap.size + 1) (.int .i64 0) (.int .i64 0) (.slice none 0 0) wr
  tab : Tab wr v p.xs
  fresh : ∀ g k c, v = .slice (some ⟨g, 0, none⟩) k c → w.heap.size + 2 ≤ g ∧ k ≤ c ∧ c ≤ maxLen
  ok : p.ok
  lW : p.W ≤ 100
  lH : p.H ≤ 100
  below : Below w.heap.size w wr
  sz : w.heap.size + 2 ≤ wr.heap.size

theorem TB.store {p : Nat} {a b c : Value} {w : World} (h : TB p a b c w) (a' b' c' : Value) : TB p a' b' c' (((w.setCell ⟨p, 0, none⟩ a').setCell ⟨p, 1, none⟩ b').setCell ⟨p, 2, none⟩ c') :=
  ⟨cell_other (cell_other (cell_same h.c0) (by omega)) (by omega), cell_other (cell_same (cell_other h.c1 (by omega))) (by omega), cell_same (cell_other (cell_other h.c2 (by omega)) (by omega)), fun k => by rw [World.frozen?_setCell, World.frozen?_setCell, World.frozen?_setCell]; exact h.fz k⟩
theorem stored_blk (w : World) (p q : Nat) (a b c : Value) (h : q ≠ p) : (((w.setCell ⟨p, 0, none⟩ a).setCell ⟨p, 1, none⟩ b).setCell ⟨p, 2, none⟩ c).heap[q]? = w.heap[q]? :=
  (Below.heap_setCell _ _ _ _ h).trans ((Below.heap_setCell _ _ _ _ h).trans (Below.heap_setCell _ _ _ _ h))
theorem TD.next {w wr w' : World} {p : Pat} {v : Value} (h : TD w wr p v) (hb : Below wr.heap.size wr w') (q : Pat) (g : Nat) (n : Nat) (hC : Cel w' g q.xs) (hn : q.xs.length = n) (hg : wr.heap.size ≤ g) (hq : q.ok) (l1 : q.W ≤ 100) (l2 : q.H ≤ 100) :
    TD w (((w'.setCell ⟨w.heap.size, 0, none⟩ (.int .i64 (q.W : Int))).setCell ⟨w.heap.size, 1, none⟩ (.int .i64 (q.H : Int))).setCell ⟨w.heap.size, 2, none⟩ (.slice (some ⟨g, 0, none⟩) n n)) q (.slice (some ⟨g, 0, none⟩) n n) := by
  have hz := h.sz
  have hz' := hb.size
  refine ⟨(h.box.next hb).store _ _ _, (h.res.next hb).block (stored_blk _ _ _ _ _ _ (by omega)), ?_, fun g' k c e => by injection e with e1 e5 e6; injection e1 with e2; injection e2 with e3; subst e5 e6; exact ⟨by omega, Nat.le_refl _, by rw [← hn]; exact Nat.le_trans (small q hq l1 l2) (by unfold maxLen; omega)⟩, hq, l1, l2, ?_, ?_⟩
  · exact (((hC.rd ((Rd.refl w.heap.size _).set 0 _) (by omega)).rd ((Rd.refl w.heap.size _).set 1 _) (by omega)).rd ((Rd.refl w.heap.size _).set 2 _) (by omega)).tab hn
  · exact (((h.below.trans (hb.mono (by omega))).setCell (Nat.le_refl _) _).setCell (Nat.le_refl _) _).setCell (Nat.le_refl _) _
  · rw [World.size_setCell, World.size_setCell, World.size_setCell]; omega
end Go.Proofs.YtdbgdfodoceadaaDoor

namespace Go.Proofs.YtdbgdfodoceadaaDoor
open Go.RowKit
set_option linter.unusedVariables false

end Go.Proofs.YtdbgdfodoceadaaDoor

namespace Go.Proofs.YtdbgdfodoceadaaDoor
open Go.RowKit
set_option linter.unusedVariables false

/-- The q-th cell of a window V wide that begins at l, t. -/
def winC (W l t V : Nat) (xs : List Int) (q : Nat) : Int := atP W xs (l + q % V) (t + q / V)
def winP (W l t V N : Nat) (xs : List Int) : List Int := (List.range N).map (winC W l t V xs)
end Go.Proofs.YtdbgdfodoceadaaDoor

namespace Go.Proofs.YtdbgdfodoceadaaDoor
open Go.RowKit
set_option linter.unusedVariables false

/-- Of the first m cells that live: the least column and row, and behind the greatest. -/
structure Bx where
  l : Nat
  t : Nat
  r : Nat
  b : Nat
def bbx (W H : Nat) (xs : List Int) : Nat → Bx
  | 0 => ⟨W, H, 0, 0⟩
  | m + 1 => if xs.getD m 0 = 1 then ⟨min (bbx W H xs m).l (m % W), min (bbx W H xs m).t (m / W), max (bbx W H xs m).r (m % W + 1), max (bbx W H xs m).b (m / W + 1)⟩ else bbx W H xs m
theorem bbx_yes {W H m : Nat} {xs : List Int} (h : xs.getD m 0 = 1) : bbx W H xs (m + 1) = ⟨min (bbx W H xs m).l (m % W), min (bbx W H xs m).t (m / W), max (bbx W H xs m).r (m % W + 1), max (bbx W H xs m).b (m / W + 1)⟩ := by
  rw [bbx, if_pos h]
theorem bbx_no {W H m : Nat} {xs : List Int} (h : ¬ xs.getD m 0 = 1) : bbx W H xs (m + 1) = bbx W H xs m := by
  rw [bbx, if_neg h]
theorem bbx_le (W H : Nat) (xs : List Int) : ∀ m, m ≤ W * H → (bbx W H xs m).l ≤ W ∧ (bbx W H xs m).t ≤ H ∧ (bbx W H xs m).r ≤ W ∧ (bbx W H xs m).b ≤ H ∧ (((bbx W H xs m).r = 0 ∧ (bbx W H xs m).b = 0) ∨ ((bbx W H xs m).l < (bbx W H xs m).r ∧ (bbx W H xs m).t < (bbx W H xs m).b)) := by
  intro m
  induction m with
  | zero => intro _; simp [bbx]
  | succ m ih =>
    intro hm
    obtain ⟨h1, h2, h3, h4, h5⟩ := ih (by omega)
    by_cases q : xs.getD m 0 = 1
    · rw [bbx_yes q]
      obtain ⟨x, y, hx, hy, ex, ey, -⟩ := split_lt (W := W) (H := H) (i := m) (by omega)
      rw [ex, ey]
      dsimp only
      omega
    · rw [bbx_no q]; exact ⟨h1, h2, h3, h4, h5⟩

/-- Trimmed: the pattern, and what was left out to the left and above. -/
def trimP (p : Pat) : Pat × Nat × Nat :=
  let q := bbx p.W p.H p.xs (p.W * p.H)
  if q.r = 0 then (⟨0, 0, []⟩, 0, 0) else (⟨q.r - q.l, q.b - q.t, winP p.W q.l q.t (q.r - q.l) ((q.r - q.l) * (q.b - q.t)) p.xs⟩, q.l, q.t)
theorem trim_ok (p : Pat) : (trimP p).1.ok := by
  unfold trimP
  dsimp only
  split
  · rfl
  · simp [Pat.ok, winP]
theorem trim_le (p : Pat) (h1 : p.W ≤ 100) (h2 : p.H ≤ 100) : (trimP p).1.W ≤ 100 ∧ (trimP p).1.H ≤ 100 := by
  obtain ⟨a, b, c, d, -⟩ := bbx_le p.W p.H p.xs (p.W * p.H) (Nat.le_refl _)
  unfold trimP
  dsimp only
  split
  · exact ⟨Nat.zero_le _, Nat.zero_le _⟩
  · exact ⟨by dsimp only; omega, by dsimp only; omega⟩
end Go.Proofs.YtdbgdfodoceadaaDoor

namespace Go.Proofs.YtdbgdfodoceadaaDoor
open Go.RowKit
set_option linter.unusedVariables false
/-- The words of a sheet, the first cells of a pattern being laid. -/
def stX (W : Nat) (xs : List Int) : Nat → Nat → Nat
  | 0, _ => 0
  | i + 1, k => if k = i / W * 2 + i % W / 64 then stX W xs i k ||| (xs.getD i 0).toNat * 2 ^ (i % W % 64) else stX W xs i k
theorem stX_lt {W : Nat} {xs : List Int} (hx : ∀ k, 0 ≤ xs.getD k 0 ∧ xs.getD k 0 ≤ 1) : ∀ i k, stX W xs i k < 18446744073709551616
  | 0, k => by simp [stX]
  | i + 1, k => by
    have ih := stX_lt (W := W) hx i k
    rw [stX]
    split
    · refine Nat.or_lt_two_pow (n := 64) ih ?_
      have h := hx i
      have h2 : 2 ^ (i % W % 64) ≤ 2 ^ 63 := Nat.pow_le_pow_right (by omega) (by omega)
      have h3 : (xs.getD i 0).toNat ≤ 1 := by omega
      have h4 : (xs.getD i 0).toNat * 2 ^ (i % W % 64) ≤ 1 * 2 ^ (i % W % 64) := Nat.mul_le_mul_right _ h3
      omega
    · exact ih
/-- What lies there while the cells are laid. -/
structure TX (w w4 wr : World) (Y : Nat → Nat) : Prop where
  keep : ∀ k, k < w.heap.size + 1 + 1 → wr.heap[k]? = w4.heap[k]?
  sheet : wr.heap[w.heap.size + 1 + 1]? = some (.cells (arrF 204 (uF Y)) 87 (0, 0))
  below : Below w.heap.size w wr
theorem TX.set {w w4 wr : World} {Y : Nat → Nat} (h : TX w w4 wr Y) (i v : Nat) : TX w w4 (wr.setCell ⟨w.heap.size + 1 + 1, i, none⟩ (.int .u64 (v : Int))) (fun k => if k = i then v else Y k) := by
  refine ⟨fun k hk => (Below.heap_setCell _ _ _ _ (by simp; omega)).trans (h.keep k hk), ?_, h.below.setCell (by simp; omega) _⟩
  rw [heap_setCell_same _ _ _ _ _ _ h.sheet, arrF_set]
  rw [arrF_ext (fun k _ => show (if k = i then Value.int .u64 (v : Int) else uF Y k) = uF (fun k => if k = i then v else Y k) k by unfold uF; by_cases q : k = i <;> simp [q])]
theorem TX.ext {w w4 wr : World} {Y Y' : Nat → Nat} (h : TX w w4 wr Y) (e : ∀ k, k < 204 → Y k = Y' k) : TX w w4 wr Y' :=
  ⟨h.keep, by rw [arrF_ext (fun k hk => show uF Y' k = uF Y k by unfold uF; rw [e k hk])]; exact h.sheet, h.below⟩
theorem TX.drewN {w w4 wr : World} {Y : Nat → Nat} (h : TX w w4 wr Y) (n : Nat) : TX w w4 (wr.drewN n) Y := ⟨h.keep, h.sheet, below_drewN h.below n⟩
set_option maxRecDepth 100000 in
set_option maxHeartbeats 12800000 in
theorem settle_any (W H : Nat) (xs : List Int) (a : Option Addr) (n c : Nat) (Z : Array Value) (w : World) (hP : ArgP w xs a n c) (hn : xs.length = W * H) (hx : ∀ k, 0 ≤ xs.getD k 0 ∧ xs.getD k 0 ≤ 1) (hW : W ≤ 100) (hH : H ≤ 100) (hT : TzTab w) (zs : Z.size = 208) (za : Z.all (·.oneCell') = true)
    (hbox : ∀ w', TzTab w' → Calls Tryd.prog 80 #[.agg (arrF 204 (uF (stX W xs (W * H)))), .int .i64 0, .int .i64 0] w' fun e w'' => e = .returned (.agg Z) ∧ Below w'.heap.size w' w'') :
    Calls Tryd.prog 49 #[.agg #[.int .i64 (W : Int), .int .i64 (H : Int), .slice a n c]] w fun e w' => e = .returned (.agg Z) ∧ Below w.heap.size w w' := by
  obtain ⟨w4, hw4⟩ : ∃ w4, ((w.alloc (.cells #[.int .i64 (W : Int), .int .i64 (H : Int), .slice a n c] 26)).alloc (.cells Tryd.zeroCells89 89)).alloc (.cells Tryd.zeroCells87 87) = w4 := ⟨_, rfl⟩
  have BB : Below w.heap.size w w4 := by rw [← hw4]; repeat (first | exact Below.refl _ _ | refine Below.alloc ?_ (by simp; try omega) _)
  have g0 : w4.heap[w.heap.size]? = some (.cells #[.int .i64 (W : Int), .int .i64 (H : Int), .slice a n c] 26 (0, 0)) := by rw [← hw4, Below.heap_alloc _ _ _ (by simp; try omega), Below.heap_alloc _ _ _ (by simp; try omega)]; exact heap_atX _ _ _ (by simp)
  have g1 : w4.heap[w.heap.size + 1]? = some (.cells Tryd.zeroCells89 89 (0, 0)) := by rw [← hw4, Below.heap_alloc _ _ _ (by simp; try omega)]; exact heap_atX _ _ _ (by simp)
  have X0 : TX w w4 w4 (stX W xs 0) := ⟨fun _ _ => rfl, by rw [arrF_ext (fun k _ => show uF (stX W xs 0) k = uF (fun _ => 0) k from rfl), ← zero_sheet, ← hw4]; exact heap_atX _ _ _ (by simp), BB⟩
  have XZ := hide' X0
  have G0 := hide' g0
  have G1 := hide' g1
  have HP := hide' hP
  have NL : n = W * H := by rw [hP.len]; exact hn
  have WH : W * H ≤ 10000 := Nat.mul_le_mul hW hH
  have n4 : n ≤ 10000 := by omega
  rw [← NL] at hbox
  have HT := hide' hT
  have HX := hide' hx
  have HBX := hide' hbox
  have NLH := hide' NL
  have p2 := cell_of_row w4 _ 2 _ _ _ g0
  simp at p2
  clear g0 g1 X0 BB hT hx hbox hP hn NL WH
  go_enter Tryd.func49, Tryd.ntmps49
  go_wp2
  clear hw4
  go_loopw [11] (fun iv wr => ∃ (i : Nat), iv = .int .i64 (i : Int) ∧ i ≤ n ∧ Hid (TX w w4 wr (stX W xs i))) (fun iv _ => n - (intOf iv).toNat)
  case atStart => exact ⟨0, rfl, by omega, XZ⟩
  case round =>
    obtain ⟨i, rfl, hi, H1⟩ := hrel
    by_cases d2 : (i : Int) < (n : Int)
    · have il : i < W * H := by rw [← NLH.out]; omega
      obtain ⟨x, y, hx, hy, ex, ey, -⟩ := split_lt (W := W) (H := H) (i := i) il
      have gp := (H1.out.keep _ (by omega)).trans G0.out
      have q0 := cell_of_row wr _ 0 _ _ _ gp
      simp at q0
      obtain ⟨g, o, rfl, hc⟩ := (HP.out.below H1.out.below).atP (k := i) (by omega)
      obtain ⟨z, hz⟩ : ∃ z : Nat, xs.getD i 0 = (z : Int) := ⟨(xs.getD i 0).toNat, by have := HX.out i; omega⟩
      rw [hz] at hc
      have zl : z ≤ 1 := by have := HX.out i; omega
      have e1 : (i : Int).tmod (W : Int) = (x : Int) := by rw [Int.tmod_eq_emod_of_nonneg (by omega), ← ex]; simp
      have e2 : (i : Int).tdiv (W : Int) = (y : Int) := by rw [Int.tdiv_eq_ediv_of_nonneg (by omega), ← ey]; simp
      have nW : ¬ (W : Int) = 0 := by omega
      obtain ⟨h, hh⟩ : ∃ h : Nat, x / 64 = h := ⟨_, rfl⟩
      obtain ⟨b, hb⟩ : ∃ b : Nat, x % 64 = b := ⟨_, rfl⟩
      have hl : h < 2 := by omega
      have bl : b < 64 := by omega
      have e3 : (x : Int).tdiv 64 = (h : Int) := by rw [Int.tdiv_eq_ediv_of_nonneg (by omega), ← hh]; simp
      have e4 : (x : Int).tmod 64 = (b : Int) := by rw [Int.tmod_eq_emod_of_nonneg (by omega), ← hb]; simp
      have hli : (h : Int) < 2 := by omega
      have yli : (y : Int) < 102 := by omega
      obtain ⟨old, hold⟩ : ∃ v, stX W xs i (y * 2 + h) = v := ⟨_, rfl⟩
      have oldl : old < 18446744073709551616 := by rw [← hold]; exact stX_lt HX.out ..
      have cs : wr.cell? ⟨w.heap.size + 1 + 1, y * 2 + h, none⟩ = some (.int .u64 (old : Int)) := by rw [cell_of_row wr _ _ _ _ _ H1.out.sheet, arrF_get _ (by omega), uF, hold]
      have fs := frozen_of_row wr _ (y * 2 + h) _ _ H1.out.sheet
      obtain ⟨m, hm⟩ : ∃ m : Nat, z * 2 ^ b = m := ⟨_, rfl⟩
      have ml : m < 18446744073709551616 := by
        have h2 : 2 ^ b ≤ 2 ^ 63 := Nat.pow_le_pow_right (by omega) (by omega)
        have h4 : z * 2 ^ b ≤ 1 * 2 ^ b := Nat.mul_le_mul_right _ zl
        omega
      have uz : IntKind.u64.wrap (z : Int) = (z : Int) := by rw [IntKind.wrap_u64]; omega
      have um : IntKind.u64.wrap ((z : Int) * 2 ^ b) = (m : Int) := by
        have e : (z : Int) * 2 ^ b = (m : Int) := by rw [← hm]; simp
        rw [IntKind.wrap_u64, e]; omega
      have um2 : IntKind.u64.wrap ((z : Int) * 2 ^ min b 64) = (m : Int) := by rw [show min b 64 = b by omega]; exact um
      have uo := u64_or_nat old m oldl ml
      obtain ⟨nw, hnw⟩ : ∃ v, old ||| m = v := ⟨_, rfl⟩
      rw [hnw] at uo
      have NX := hide' (fun (V : World) (hV : TX w w4 V (stX W xs i)) => show TX w w4 (V.setCell ⟨w.heap.size + 1 + 1, y * 2 + h, none⟩ (.int .u64 (nw : Int))) (stX W xs (i + 1)) from
        (hV.set (y * 2 + h) nw).ext (fun k _ => by
          rw [stX, ex, ey, hh, hb, hz, Int.toNat_natCast, hm]
          by_cases q : k = y * 2 + h
          · rw [if_pos q, if_pos q, q, hold, hnw]
          · rw [if_neg q, if_neg q]))
      have w1 := wrap_natP h (by omega)
      have w2 := wrap_natP b (by omega)
      clear gp ex ey hh hb hold oldl hm ml hnw hz il hx hy
      go_wp2
      go_quiet (fail)
      go_wp2
      go_region
      all_goals go_wp2
      all_goals exact ⟨⟨i + 1, by go_num, by omega, hide' (show TX w w4 ((wr.setCell ⟨w.heap.size + 1 + 1, y * 2 + h, none⟩ (.int .u64 (nw : Int))).drewN (nq + 1)) (stX W xs (i + 1)) from (NX.out wr H1.out).drewN _)⟩, by simp [intOf]; omega⟩
    · have iN : i = n := by omega
      have HS0 := H1.out
      rw [iN] at HS0
      have gs := HS0.sheet
      obtain ⟨A, hA⟩ : ∃ A, arrF 204 (uF (stX W xs n)) = A := ⟨_, rfl⟩
      have asz : A.size = 204 := by rw [← hA, arrF_size]
      rw [hA] at gs HBX
      have g2 := (HS0.keep _ (by omega)).trans G1.out
      have T2 := hide' (HT.out.below HS0.below)
      have BW := hide' HS0.below
      have SZ := hide' (lt_of_block g2)
      clear iN HS0 H1 hA
      go_wp2_with (first
        | (refine wpList_load_row rfl 87 _ rfl (w.heap.size + 1 + 1) rfl 87 A (0, 0) _ gs Tryd.underlying87 rfl (by rw [asz]; kernel_rfl) ?_)
        | (go_at_call 80; refine (HBX.out wr T2.out).mono ?_))
      rintro e w5 rfl b5
      have g5 := (b5.block _ SZ.out).trans g2
      have B5 := hide' (BW.out.trans (b5.mono BW.out.size))
      clear b5
      go_wp2_with (first
        | (refine wpList_store_row rfl 89 _ _ rfl (w.heap.size + 1) Z rfl rfl 89 _ g5 (by rw [zs]; kernel_rfl) (by rw [zs, zero_grown, arrF_size]) za ?_))
      refine bodyPost_ret (v := .agg Z) (results_cell_row Tryd.results49 _ _ (w.heap.size + 1) 89 _ (0, 0) _ rfl (setRow_heap _ _ _ _ _ _ g5) Tryd.underlying89 rfl (by rw [zs]; kernel_rfl)) rfl ?_
      exact ⟨rfl, below_setRow B5.out (by omega) _⟩
end Go.Proofs.YtdbgdfodoceadaaDoor

