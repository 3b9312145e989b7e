/-
  What the last text of this claim leans on, part 16: Gr6, Wb1, Qa1.
-/
import Derived.Test.YtlpdobfjgpedaaaDoorZe15
import Derived.Test.YtlpdobfjgpedaaaDoorZe10
import Derived.Test.YtlpdobfjgpedaaaDoorZe2
import Derived.Test.YtlpdobfjgpedaaaDoorZe9
namespace Go.Proofs.YtlpdobfjgpedaaaDoor
open Go.RowKit
set_option linter.unusedVariables false
theorem wrap_natP (n : Nat) (h : n ≤ 1000000) : IntKind.i64.wrap (n : Int) = (n : Int) := by simp [IntKind.wrap, IntKind.bits, IntKind.signed]; omega
set_option maxRecDepth 100000 in
set_option maxHeartbeats 12800000 in
theorem boxed_some (X : Nat → Nat) (F T f e : Nat) (R D : Int) (w : World) (hX : ∀ k, k < 204 → X k < 18446744073709551616) (hT : TzTab w) (h1 : endsF (orA X 0 102) (orA X 1 102) = f) (h2 : endsE (orA X 0 102) (orA X 1 102) = e) (h3 : livF X 102 = F) (h4 : livT X 102 = T) (fe : f < e) (e128 : e ≤ 128) (FT : F < T) (T102 : T ≤ 102) (R1 : -1000000000 ≤ R) (R2 : R ≤ 1000000000) (D1 : -1000000000 ≤ D) (D2 : D ≤ 1000000000) :
    Calls Tryd.prog 66 #[.agg (arrF 204 (uF X)), .int .i64 R, .int .i64 D] w fun en w' => en = .returned (.agg (arrF 208 (grF (bxX X F f (T - F)) ((e : Int) - (f : Int)) ((T : Int) - (F : Int)) (R + (f : Int)) (D + (F : Int))))) ∧ Below w.heap.size w w' := by
  obtain ⟨w1, hw1⟩ : ∃ w1, (w.alloc (.cells (arrF 204 (uF X)) 111)).alloc (.cells Tryd.zeroCells113 113) = w1 := ⟨_, rfl⟩
  have BB := hide' (show Below w.heap.size w w1 by rw [← hw1]; exact ((Below.refl _ _).alloc (Nat.le_refl _) _).alloc (by simp) _)
  have g0 : w1.heap[w.heap.size]? = some (.cells (arrF 204 (uF X)) 111 (0, 0)) := by rw [← hw1, Below.heap_alloc _ _ _ (by simp)]; exact heap_alloc_new _ _
  have g1 : w1.heap[w.heap.size + 1]? = some (.cells Tryd.zeroCells113 113 (0, 0)) := by rw [← hw1]; exact heap_atX _ _ _ (by simp)
  have LV1 := hide' (living_any X w.heap.size w1 hX g0 (hT.below BB.out))
  have G0 := hide' g0
  have G1 := hide' g1
  have HX := hide' hX
  rw [h1, h2, h3, h4] at LV1
  have q := fun w => corner_eq (f : Int) (F : Int) (e : Int) (T : Int) w
  have qb : ((f : Int) == (e : Int) && (F : Int) == (T : Int)) = false := by rw [Bool.and_eq_false_iff]; left; simp; omega
  rw [qb] at q
  obtain ⟨A, hA⟩ : ∃ A, arrF 204 (uF X) = A := ⟨_, rfl⟩
  have HA := hide' hA
  rw [hA] at hw1 ⊢
  obtain ⟨Hn, hHn⟩ : ∃ h : Nat, T - F = h := ⟨_, rfl⟩
  rw [hHn]
  have hs1 : (T : Int) - (F : Int) = (Hn : Int) := by omega
  have HL : F + Hn ≤ 102 := by omega
  rw [hs1]
  obtain ⟨Wn, hWn⟩ : ∃ h : Nat, (e : Int) - (f : Int) = (h : Int) := ⟨e - f, by omega⟩
  rw [hWn]
  have f128 : f < 128 := by omega
  clear h1 h2 h3 h4 hA g0 g1 hX hT hHn qb
  go_enter Tryd.func66, Tryd.ntmps66
  go_wp2_with fail
  refine LV1.out.mono ?_
  rintro e' w2 ⟨rfl, b2⟩
  obtain ⟨w3, hw3⟩ : ∃ w3, (w2.alloc (.cells #[.int .i64 (f : Int), .int .i64 (F : Int)] 171)).alloc (.cells #[.int .i64 (e : Int), .int .i64 (T : Int)] 171) = w3 := ⟨_, rfl⟩
  have C3 : Below w1.heap.size w1 w3 := by rw [← hw3]; exact (b2.alloc b2.size _).alloc (Nat.le_trans b2.size (by simp)) _
  have k0 : w3.heap[w2.heap.size]? = some (.cells #[.int .i64 (f : Int), .int .i64 (F : Int)] 171 (0, 0)) := by rw [← hw3, Below.heap_alloc _ _ _ (by simp)]; exact heap_alloc_new _ _
  have k1 : w3.heap[w2.heap.size + 1]? = some (.cells #[.int .i64 (e : Int), .int .i64 (T : Int)] 171 (0, 0)) := by rw [← hw3]; exact heap_atX _ _ _ (by simp)
  have m0 := cell_of_row w3 _ 0 _ _ _ k0
  have m1 := cell_of_row w3 _ 1 _ _ _ k0
  have m2 := cell_of_row w3 _ 0 _ _ _ k1
  have m3 := cell_of_row w3 _ 1 _ _ _ k1
  simp at m0 m1 m2 m3
  obtain ⟨p, hp⟩ : ∃ p, w3.heap.size = p := ⟨_, rfl⟩
  obtain ⟨w4, hw4⟩ : ∃ w4, (w3.alloc (.cells Tryd.zeroCells113 113)).setRow p (arrF 208 (grF (fun _ => 0) (Wn : Int) (Hn : Int) (R + (f : Int)) (D + (F : Int)))) = w4 := ⟨_, rfl⟩
  have hz : (w3.alloc (.cells Tryd.zeroCells113 113)).heap[p]? = some (.cells Tryd.zeroCells113 113 (0, 0)) := by rw [← hp]; exact heap_alloc_new _ _
  have s3 := C3.size
  have B4 : Below w1.heap.size w1 w4 := by rw [← hw4]; exact below_setRow (C3.alloc C3.size _) (by omega) _
  have S4 : w4.heap.size = p + 1 := by rw [← hw4, setRow_size, ← hp]; simp
  have p4 : w4.heap[p]? = some (.cells (arrF 208 (grF (fun _ => 0) (Wn : Int) (Hn : Int) (R + (f : Int)) (D + (F : Int)))) 113 (0, 0)) := by rw [← hw4]; exact setRow_heap _ _ _ _ _ _ hz
  have K4 := hide' (show w4.heap[w2.heap.size]? = some (.cells #[.int .i64 (f : Int), .int .i64 (F : Int)] 171 (0, 0)) by
    rw [← hw4, setRow_other _ _ _ _ (by have := lt_of_block k0; omega), Below.heap_alloc _ _ _ (lt_of_block k0)]; exact k0)
  have BW := hide' (BB.out.trans (B4.mono BB.out.size))
  have G04 := hide' ((B4.block _ (lt_of_block G0.out)).trans G0.out)
  have G14 := hide' ((B4.block _ (lt_of_block G1.out)).trans G1.out)
  have P4 := hide' p4
  have S4H := hide' S4
  have PL := hide' (show w.heap.size + 1 < p by have := lt_of_block G1.out; omega)
  have P2 := hide' (show w2.heap.size < p by rw [← hp]; exact lt_of_block k0)
  have X0 := hide' (show BX w w4 w4 p (grF (bxX X F f 0) (Wn : Int) (Hn : Int) (R + (f : Int)) (D + (F : Int))) from ⟨fun _ _ _ => rfl, by rw [arrF_ext (fun k _ => show grF (bxX X F f 0) (Wn : Int) (Hn : Int) (R + (f : Int)) (D + (F : Int)) k = grF (fun _ => 0) (Wn : Int) (Hn : Int) (R + (f : Int)) (D + (F : Int)) k by unfold grF uF bxX; simp)]; exact p4, BW.out, Nat.le_refl _⟩)
  have n4 := cell_of_row w4 p 205 _ _ _ p4
  rw [arrF_get _ (by omega)] at n4
  have n5 : w4.cell? ⟨p, 205, none⟩ = some (.int .i64 (Hn : Int)) := n4
  clear b2 C3 hw1 k0 k1 n4 p4 B4 S4 s3
  go_wp2_with (first
    | (refine wpList_build_is rfl 113 _ rfl ((((Tryd.zeroCells113.setIfInBounds 204 (.int .i64 (Wn : Int))).setIfInBounds 205 (.int .i64 (Hn : Int))).setIfInBounds 206 (.int .i64 (R + (f : Int)))).setIfInBounds 207 (.int .i64 (D + (F : Int)))) (by kernel_rfl) ?_; rw [grown_set])
    | (refine wpList_store_row rfl 113 _ _ rfl p (arrF 208 (grF (fun _ => 0) (Wn : Int) (Hn : Int) (R + (f : Int)) (D + (F : Int)))) rfl rfl 113 _ hz (by rw [arrF_size]; kernel_rfl) (by rw [zero_grown, arrF_size, arrF_size]) (grF_all ..) ?_; rw [hw4]))
  go_loopw [40] (fun iv wr => ∃ (y : Nat), iv = .int .i64 (y : Int) ∧ y ≤ Hn ∧ Hid (BX w w4 wr p (grF (bxX X F f y) (Wn : Int) (Hn : Int) (R + (f : Int)) (D + (F : Int))))) (fun iv _ => Hn - (intOf iv).toNat)
  case atStart => exact ⟨0, rfl, by omega, X0⟩
  case round =>
    obtain ⟨y, rfl, hy, HB⟩ := hrel
    by_cases d : (y : Int) < (Hn : Int)
    · obtain ⟨s, hs⟩ : ∃ s : Nat, F + y = s := ⟨_, rfl⟩
      have es : (F : Int) + (y : Int) = (s : Int) := by omega
      have sl : s < 102 := by omega
      have sli : (s : Int) < 102 := by omega
      have ew1 := wrap_natP s (by omega)
      have yli : (y : Int) < 102 := by omega
      obtain ⟨x0, hx0⟩ : ∃ x, X (s * 2) = x := ⟨_, rfl⟩
      obtain ⟨x1, hx1⟩ : ∃ x, X (s * 2 + 1) = x := ⟨_, rfl⟩
      have x0l : x0 < 18446744073709551616 := by rw [← hx0]; exact HX.out _ (by omega)
      have x1l : x1 < 18446744073709551616 := by rw [← hx1]; exact HX.out _ (by omega)
      have LC := hide' (fun w => left_any x0 x1 f w x0l x1l f128)
      obtain ⟨l0, hl0⟩ : ∃ x, lft0 x0 x1 f = x := ⟨_, rfl⟩
      obtain ⟨l1, hl1⟩ : ∃ x, lft1 x1 f = x := ⟨_, rfl⟩
      rw [hl0, hl1] at LC
      have uw : IntKind.u64.wrap (f : Int) = (f : Int) := by rw [IntKind.wrap_u64]; omega
      have SV := hide' (fun (V : World) (G : Nat → Value) (hV : BX w w4 V p G) => (show V.cell? ⟨w2.heap.size, 0, none⟩ = some (.int .i64 (f : Int)) ∧ V.cell? ⟨w2.heap.size, 1, none⟩ = some (.int .i64 (F : Int)) ∧ V.cell? ⟨w.heap.size, s * 2, none⟩ = some (.int .u64 (x0 : Int)) ∧ V.cell? ⟨w.heap.size, s * 2 + 1, none⟩ = some (.int .u64 (x1 : Int)) from by
        have e1 := (hV.keep _ (lt_of_block K4.out) (by have := P2.out; omega)).trans K4.out
        have e2 := (hV.keep _ (lt_of_block G04.out) (by have := PL.out; omega)).trans G04.out
        exact ⟨cell_of_row V _ 0 _ _ _ e1, cell_of_row V _ 1 _ _ _ e1, by rw [cell_of_row V _ _ _ _ _ e2, arrF_get _ (by omega), uF, hx0], by rw [cell_of_row V _ _ _ _ _ e2, arrF_get _ (by omega), uF, hx1]⟩))
      have NX := hide' (fun (V : World) (hV : BX w w4 V p (grF (bxX X F f y) (Wn : Int) (Hn : Int) (R + (f : Int)) (D + (F : Int)))) => show BX w w4 ((V.setCell ⟨p, y * 2, none⟩ (.int .u64 (l0 : Int))).setCell ⟨p, y * 2 + 1, none⟩ (.int .u64 (l1 : Int))) p (grF (bxX X F f (y + 1)) (Wn : Int) (Hn : Int) (R + (f : Int)) (D + (F : Int))) from
        BX.ext ((hV.set (by have := PL.out; omega) (y * 2) _).set (by have := PL.out; omega) (y * 2 + 1) _) (fun k hk => by
          rw [← bx_step X F f y _ _ _ _ (by omega) k hk, hs, hx0, hx1, hl0, hl1]))
      have CP := hide' (fun (V : World) (G : Nat → Value) (hV : BX w w4 V p G) => (show V.cell? ⟨p, y * 2, none⟩ = some (G (y * 2)) ∧ V.cell? ⟨p, y * 2 + 1, none⟩ = some (G (y * 2 + 1)) ∧ V.frozen? ⟨p, y * 2, none⟩ = false ∧ V.frozen? ⟨p, y * 2 + 1, none⟩ = false from
        ⟨by rw [cell_of_row V _ _ _ _ _ hV.out, arrF_get _ (by omega)], by rw [cell_of_row V _ _ _ _ _ hV.out, arrF_get _ (by omega)], frozen_of_row V _ _ _ _ hV.out, frozen_of_row V _ _ _ _ hV.out⟩))
      clear hs hx0 hx1 hl0 hl1 x0l x1l
      go_wp2
      go_region_held3 (fun V => V.cell? ⟨w2.heap.size, 0, none⟩ = some (.int .i64 (f : Int)) ∧ V.cell? ⟨w2.heap.size, 1, none⟩ = some (.int .i64 (F : Int)) ∧ V.cell? ⟨w.heap.size, s * 2, none⟩ = some (.int .u64 (x0 : Int)) ∧ V.cell? ⟨w.heap.size, s * 2 + 1, none⟩ = some (.int .u64 (x1 : Int))) (first | exact SV.out _ _ H2.out | exact SV.out _ _ H1.out | exact SV.out _ _ ⟨HB.out.keep, HB.out.out, ⟨HB.out.below.os, HB.out.below.tape, HB.out.below.output, HB.out.below.size, HB.out.below.block⟩, HB.out.size⟩ | fail)
        (first
          | (go_at_call 85; refine (LC.out _).mono ?_; rintro e w' ⟨rfl, hb1⟩; have H1 := hide' (BX.next HB.out (show Below wr.heap.size wr w' from ⟨hb1.os, hb1.tape, hb1.output, hb1.size, hb1.block⟩)); obtain ⟨cz0, cz1, fz0, fz1⟩ := CP.out w' _ H1.out; have H2 := hide' (NX.out w' H1.out); clear hb1)
          | fail)
      go_wp2
      exact ⟨⟨y + 1, by go_num, by omega, H2⟩, by simp [intOf]; omega⟩
    · have yH : y = Hn := by omega
      have HF : BX w w4 wr p (grF (bxX X F f Hn) (Wn : Int) (Hn : Int) (R + (f : Int)) (D + (F : Int))) := by have := HB.out; rw [yH] at this; exact this
      have gp := HF.out
      have gb := (HF.keep _ (lt_of_block G14.out) (by have := PL.out; omega)).trans G14.out
      obtain ⟨Z, hZ⟩ : ∃ Z, arrF 208 (grF (bxX X F f Hn) (Wn : Int) (Hn : Int) (R + (f : Int)) (D + (F : Int))) = Z := ⟨_, rfl⟩
      have zs : Z.size = 208 := by rw [← hZ, arrF_size]
      have za : Z.all (·.oneCell') = true := by rw [← hZ]; exact grF_all ..
      have HZ := hide' hZ
      rw [hZ] at gp
      have BF := hide' HF.below
      clear yH HF hZ
      go_wp2_with (first
        | (refine wpList_load_row rfl 113 _ rfl p rfl 113 Z (0, 0) _ gp Tryd.underlying113 rfl (by rw [zs]; kernel_rfl) ?_)
        | (refine wpList_store_row rfl 113 _ _ rfl (w.heap.size + 1) Z rfl rfl 113 _ gb (by rw [zs]; kernel_rfl) (by rw [zs, zero_grown, arrF_size]) za ?_))
      refine bodyPost_ret (v := .agg Z) (results_cell_row Tryd.results66 _ _ (w.heap.size + 1) 113 _ (0, 0) _ rfl (setRow_heap _ _ _ _ _ _ gb) Tryd.underlying113 rfl (by rw [zs]; kernel_rfl)) rfl ?_
      exact ⟨by rw [HZ.out], below_setRow BF.out (by omega) _⟩
end Go.Proofs.YtlpdobfjgpedaaaDoor

namespace Go.Proofs.YtlpdobfjgpedaaaDoor
open Go.RowKit
set_option linter.unusedVariables false

/-- Where a cell goes when its pattern is mirrored; turned by a quarter. -/
def mirI (W H i : Nat) : Nat := i / W * W + (W - 1 - i % W)
def qtrI (W H i : Nat) : Nat := i % W * H + (H - 1 - i / W)
/-- The pattern mirrored; turned by a quarter (as wide as it was high). -/
def mirP (W H : Nat) (xs : List Int) : List Int := (List.range (W * H)).map fun q => xs.getD (q / W * W + (W - 1 - q % W)) 0
def qtrP (W H : Nat) (xs : List Int) : List Int := (List.range (H * W)).map fun q => xs.getD ((H - 1 - q % H) * W + q / H) 0
theorem mirP_length (W H : Nat) (xs : List Int) : (mirP W H xs).length = W * H := by simp [mirP]
theorem qtrP_length (W H : Nat) (xs : List Int) : (qtrP W H xs).length = H * W := by simp [qtrP]

theorem divmod_mk (W y x : Nat) (hx : x < W) : (y * W + x) / W = y ∧ (y * W + x) % W = x := by
  constructor
  · rw [Nat.mul_comm, Nat.mul_add_div (by omega), Nat.div_eq_of_lt hx]; omega
  · rw [Nat.mul_comm, Nat.mul_add_mod, Nat.mod_eq_of_lt hx]
theorem split_lt {W H i : Nat} (hi : i < W * H) : ∃ x y, x < W ∧ y < H ∧ i % W = x ∧ i / W = y ∧ y * W + x = i := by
  have hW : 0 < W := by
    rcases Nat.eq_zero_or_pos W with h | h
    · rw [h, Nat.zero_mul] at hi; omega
    · exact h
  refine ⟨i % W, i / W, Nat.mod_lt _ hW, ?_, rfl, rfl, ?_⟩
  · rw [Nat.div_lt_iff_lt_mul hW, Nat.mul_comm]; exact hi
  · rw [Nat.mul_comm]; exact Nat.div_add_mod i W
theorem mk_lt {W H x y : Nat} (hx : x < W) (hy : y < H) : y * W + x < W * H := by
  have := Nat.mul_le_mul_right W (show y + 1 ≤ H by omega)
  rw [Nat.add_mul, Nat.mul_comm H W] at this
  omega
theorem mirI_lt {W H i : Nat} (hi : i < W * H) : mirI W H i < W * H := by
  obtain ⟨x, y, h1, h2, h3, h4, h5⟩ := split_lt hi
  unfold mirI
  rw [h3, h4]
  exact mk_lt (by omega) h2
theorem mirI_mirI {W H i : Nat} (hi : i < W * H) : mirI W H (mirI W H i) = i := by
  obtain ⟨x, y, h1, h2, h3, h4, h5⟩ := split_lt hi
  obtain ⟨d, m⟩ := divmod_mk W y (W - 1 - x) (by omega)
  unfold mirI
  rw [h3, h4, d, m]
  omega
theorem qtrI_lt {W H i : Nat} (hi : i < W * H) : qtrI W H i < H * W := by
  obtain ⟨x, y, h1, h2, h3, h4, h5⟩ := split_lt hi
  unfold qtrI
  rw [h3, h4]
  exact mk_lt (by omega) h1
/-- The way back from a quarter. -/
def qtrJ (W H q : Nat) : Nat := (H - 1 - q % H) * W + q / H
theorem qtrJ_qtrI {W H i : Nat} (hi : i < W * H) : qtrJ W H (qtrI W H i) = i := by
  obtain ⟨x, y, h1, h2, h3, h4, h5⟩ := split_lt hi
  obtain ⟨d, m⟩ := divmod_mk H x (H - 1 - y) (by omega)
  unfold qtrJ qtrI
  rw [h3, h4, d, m, show H - 1 - (H - 1 - y) = y by omega]
  exact h5
theorem qtrJ_lt {W H q : Nat} (hq : q < H * W) : qtrJ W H q < W * H := by
  obtain ⟨x, y, h1, h2, h3, h4, h5⟩ := split_lt hq
  unfold qtrJ
  rw [h3, h4]
  exact mk_lt h2 (by omega)
theorem qtrI_qtrJ {W H q : Nat} (hq : q < H * W) : qtrI W H (qtrJ W H q) = q := by
  obtain ⟨x, y, h1, h2, h3, h4, h5⟩ := split_lt hq
  obtain ⟨d, m⟩ := divmod_mk W (H - 1 - x) y h2
  unfold qtrI qtrJ
  rw [h3, h4, d, m, show H - 1 - (H - 1 - x) = x by omega]
  exact h5

/-- At block g a list of n ints of the call's own; what stands at f i, for i below k, is xs' i-th. -/
structure ScJ (w0 w : World) (g n k : Nat) (f : Nat → Nat) (xs : List Int) : Prop where
  below : Below w0.heap.size w0 w
  ge : w0.heap.size ≤ g
  lt : g < w.heap.size
  cells : ∀ j, j < n → ∃ v, w.cell? ⟨g, j, none⟩ = some v ∧ (∀ i, i < k → f i = j → v = .int .i64 (xs.getD i 0))
  fz : ∀ j, w.frozen? ⟨g, j, none⟩ = false
theorem ScJ.step {w0 w : World} {g n k : Nat} {f : Nat → Nat} {xs : List Int} (h : ScJ w0 w g n k f xs) (hk : f k < n) (hinj : ∀ i, i < k → f i ≠ f k) {x : Int} (hx : xs.getD k 0 = x) : ScJ w0 (w.setCell ⟨g, f k, none⟩ (.int .i64 x)) g n (k + 1) f xs := by
  refine ⟨h.below.setCell h.ge _, h.ge, by rw [World.size_setCell]; exact h.lt, fun j hj => ?_, fun j => by rw [World.frozen?_setCell]; exact h.fz j⟩
  by_cases e : j = f k
  · subst e
    obtain ⟨v, hv, -⟩ := h.cells _ hj
    refine ⟨_, World.cell?_setCell_same _ _ _ hv, fun i hi he => ?_⟩
    by_cases q : i = k
    · subst q; rw [hx]
    · exact absurd he (hinj i (by omega))
  · obtain ⟨v, hv, hv'⟩ := h.cells j hj
    refine ⟨v, ?_, fun i hi he => hv' i (by have : i ≠ k := fun q => e (by rw [← he, q]); omega) he⟩
    exact (World.cell?_setCell_other _ ⟨g, f k, none⟩ ⟨g, j, none⟩ _ (fun q => e (congrArg Addr.off q).symm)).trans hv
theorem ScJ.drewN {w0 w : World} {g n k : Nat} {f : Nat → Nat} {xs : List Int} (h : ScJ w0 w g n k f xs) (m : Nat) : ScJ w0 (w.drewN m) g n k f xs :=
  ⟨h.below.trans ⟨rfl, rfl, rfl, Nat.le_refl _, fun _ _ => rfl⟩, h.ge, h.lt, h.cells, h.fz⟩
theorem ScJ.start {w0 w : World} {g n : Nat} (f : Nat → Nat) (xs ys : List Int) (hb : Below w0.heap.size w0 w) (hg : w0.heap.size ≤ g) (hc : Cel w g ys) (hn : ys.length = n) : ScJ w0 w g n 0 f xs :=
  ⟨hb, hg, hc.lt, fun j hj => ⟨_, hc.cells j (by omega), fun i hi => by omega⟩, hc.fz⟩
theorem ScJ.cel {w0 w : World} {g n : Nat} {f fi : Nat → Nat} {xs : List Int} (h : ScJ w0 w g n n f xs) (h1 : ∀ j, j < n → fi j < n) (h2 : ∀ j, j < n → f (fi j) = j) : Cel w g ((List.range n).map fun j => xs.getD (fi j) 0) := by
  refine ⟨h.lt, fun k hk => ?_, h.fz⟩
  simp only [List.length_map, List.length_range] at hk
  obtain ⟨v, hv, hv'⟩ := h.cells k hk
  rw [hv, hv' (fi k) (h1 k hk) (h2 k hk)]
  simp [List.getD, hk]
end Go.Proofs.YtlpdobfjgpedaaaDoor

namespace Go.Proofs.YtlpdobfjgpedaaaDoor
open Go.RowKit
set_option linter.unusedVariables false

def hd2 (s : ByteArray) (i a b : Nat) : (Nat × Nat × Nat) ⊕ (Nat × Nat) := match wordF s [10] i with | .inr k => .inr (k, 2) | .inl k => .inl (a, b, k)
def hd1 (s : ByteArray) (i a : Nat) : (Nat × Nat × Nat) ⊕ (Nat × Nat) := match sideS s [44, 32, 121, 32, 61, 32] i with | .inr e => .inr e | .inl (h, j) => hd2 s j a h
def hd0 (s : ByteArray) (i : Nat) : (Nat × Nat × Nat) ⊕ (Nat × Nat) := match sideS s [120, 32, 61, 32] i with | .inr e => .inr e | .inl (a, j) => hd1 s j a
theorem headS_hd (s : ByteArray) : headS s = hd0 s 0 := rfl
def hdQ (s : ByteArray) (q i a b : Nat) : (Nat × Nat × Nat) ⊕ (Nat × Nat) := if q = 0 then hd0 s i else if q = 1 then hd1 s i a else hd2 s i a b
def wd (q : Nat) : ByteArray := if q = 0 then ⟨#[120, 32, 61, 32]⟩ else if q = 1 then ⟨#[44, 32, 121, 32, 61, 32]⟩ else ⟨#[10]⟩

theorem wd_size (q : Nat) : (wd q).size ≤ 6 := by
  unfold wd
  split
  · decide
  split
  · decide
  · decide
theorem wd_word (q : Nat) : bts (wd q) = if q = 0 then [120, 32, 61, 32] else if q = 1 then [44, 32, 121, 32, 61, 32] else [10] := by
  unfold wd
  split
  · decide
  split
  · decide
  · decide

structure SdW (w wr : World) (a b : Nat) : Prop where
  below : Below w.heap.size w wr
  size : w.heap.size + 2 ≤ wr.heap.size
  words : ∀ q, q < 3 → wr.cell? ⟨w.heap.size, q, none⟩ = some (.string (wd q))
  n0 : wr.cell? ⟨w.heap.size + 1, 0, none⟩ = some (.int .i64 (a : Int))
  n1 : wr.cell? ⟨w.heap.size + 1, 1, none⟩ = some (.int .i64 (b : Int))
  fz : ∀ k, wr.frozen? ⟨w.heap.size + 1, k, none⟩ = false
theorem SdW.drewN {w wr : World} {a b : Nat} (h : SdW w wr a b) (n : Nat) : SdW w (wr.drewN n) a b :=
  ⟨h.below.trans ⟨rfl, rfl, rfl, Nat.le_refl _, fun _ _ => rfl⟩, h.size, h.words, h.n0, h.n1, h.fz⟩
theorem SdW.set0 {w wr : World} {a b : Nat} (h : SdW w wr a b) (x : Nat) : SdW w (wr.setCell ⟨w.heap.size + 1, 0, none⟩ (.int .i64 (x : Int))) x b := by
  refine ⟨h.below.setCell (by simp) _, by rw [World.size_setCell]; exact h.size, fun q hq => ?_, ?_, ?_, fun k => by rw [World.frozen?_setCell]; exact h.fz k⟩
  · exact (World.cell?_setCell_other _ ⟨w.heap.size + 1, 0, none⟩ ⟨w.heap.size, q, none⟩ _ (fun e => by have := congrArg Addr.block e; simp at this)).trans (h.words q hq)
  · exact World.cell?_setCell_same _ _ _ h.n0
  · exact (World.cell?_setCell_other _ ⟨w.heap.size + 1, 0, none⟩ ⟨w.heap.size + 1, 1, none⟩ _ (fun e => by have := congrArg Addr.off e; simp at this)).trans h.n1
theorem SdW.set1 {w wr : World} {a b : Nat} (h : SdW w wr a b) (x : Nat) : SdW w (wr.setCell ⟨w.heap.size + 1, 1, none⟩ (.int .i64 (x : Int))) a x := by
  refine ⟨h.below.setCell (by simp) _, by rw [World.size_setCell]; exact h.size, fun q hq => ?_, ?_, ?_, fun k => by rw [World.frozen?_setCell]; exact h.fz k⟩
  · exact (World.cell?_setCell_other _ ⟨w.heap.size + 1, 1, none⟩ ⟨w.heap.size, q, none⟩ _ (fun e => by have := congrArg Addr.block e; simp at this)).trans (h.words q hq)
  · exact (World.cell?_setCell_other _ ⟨w.heap.size + 1, 1, none⟩ ⟨w.heap.size + 1, 0, none⟩ _ (fun e => by have := congrArg Addr.off e; simp at this)).trans h.n0
  · exact World.cell?_setCell_same _ _ _ h.n1
theorem SdW.start (w : World) (t1 t2 : TypeId) : SdW w ((w.alloc (.cells #[.string ⟨#[120, 32, 61, 32]⟩, .string ⟨#[44, 32, 121, 32, 61, 32]⟩, .string ⟨#[10]⟩] t1)).alloc (.cells #[.int .i64 0, .int .i64 0, .int .i64 0] t2)) 0 0 := by
  refine ⟨((Below.refl _ _).alloc (Nat.le_refl _) _).alloc (by simp) _, by simp, fun q hq => ?_, ?_, ?_, fun k => ?_⟩
  · rw [World.cell?_alloc_past _ _ _ (by simp), World.cell?_alloc_at _ _ _ _ rfl]
    match q, hq with
    | 0, _ => rfl
    | 1, _ => rfl
    | 2, _ => rfl
  · rw [World.cell?_alloc_at _ _ _ _ (by simp)]; rfl
  · rw [World.cell?_alloc_at _ _ _ _ (by simp)]; rfl
  · simp

/-- What is left of a side behind its word. -/
def sideN (s : ByteArray) (j : Nat) : (Nat × Nat) ⊕ (Nat × Nat) := if !numSix s j then .inr (j, 2) else if 100 < (num s j).1 then .inr (j, 1) else .inl ((num s j).1, (num s j).2)
theorem sideS_inl {s : ByteArray} {ws : List Nat} {i j : Nat} (h : wordF s ws i = .inl j) : sideS s ws i = sideN s j := by unfold sideS sideN; rw [h]
theorem sideS_inr {s : ByteArray} {ws : List Nat} {i j : Nat} (h : wordF s ws i = .inr j) : sideS s ws i = .inr (j, 2) := by unfold sideS; rw [h]
theorem hdQ_no {s : ByteArray} {q i a b j : Nat} (h : wordF s (bts (wd q)) i = .inr j) : hdQ s q i a b = .inr (j, 2) := by
  rw [wd_word] at h
  unfold hdQ
  split
  · rename_i e; rw [if_pos e] at h; unfold hd0; rw [sideS_inr h]
  · rename_i e; rw [if_neg e] at h
    split
    · rename_i e; rw [if_pos e] at h; unfold hd1; rw [sideS_inr h]
    · rename_i e; rw [if_neg e] at h; unfold hd2; rw [h]
theorem hdQ_bad {s : ByteArray} {q i a b j k f : Nat} (hq : q < 2) (h : wordF s (bts (wd q)) i = .inl j) (hn : sideN s j = .inr (k, f)) : hdQ s q i a b = .inr (k, f) := by
  rw [wd_word] at h
  unfold hdQ
  split
  · rename_i e; rw [if_pos e] at h; unfold hd0; rw [sideS_inl h, hn]
  · rename_i e; rw [if_neg e, if_pos (by omega)] at h
    rw [if_pos (by omega)]; unfold hd1; rw [sideS_inl h, hn]
theorem hdQ_0 {s : ByteArray} {i a b j k n : Nat} (h : wordF s (bts (wd 0)) i = .inl j) (hn : sideN s j = .inl (n, k)) : hdQ s 0 i a b = hdQ s 1 k n b := by
  rw [wd_word] at h
  unfold hdQ
  rw [if_pos rfl] at h
  simp only [if_true, Nat.one_ne_zero, if_false]
  unfold hd0
  rw [sideS_inl h, hn]
theorem hdQ_1 {s : ByteArray} {i a b j k n : Nat} (h : wordF s (bts (wd 1)) i = .inl j) (hn : sideN s j = .inl (n, k)) : hdQ s 1 i a b = hdQ s 2 k a n := by
  rw [wd_word] at h
  unfold hdQ
  rw [if_neg (by omega), if_pos rfl] at h
  rw [if_neg (by omega), if_pos rfl, if_neg (by omega), if_neg (by omega)]
  unfold hd1
  rw [sideS_inl h, hn]
theorem hdQ_2 {s : ByteArray} {i a b j : Nat} (h : wordF s (bts (wd 2)) i = .inl j) : hdQ s 2 i a b = .inl (a, b, j) := by
  rw [wd_word] at h
  unfold hdQ
  rw [if_neg (by omega), if_neg (by omega)] at h
  rw [if_neg (by omega), if_neg (by omega)]
  unfold hd2
  rw [h]
theorem six_of {s : ByteArray} {j : Nat} {N : Int} (h : NumRef s j N) :
    (N < 0 ∧ numSix s j = false) ∨ (¬ N < 0 ∧ (j : Int) + 6 < ((num s j).2 : Int) ∧ numSix s j = false) ∨ (¬ N < 0 ∧ ¬ (j : Int) + 6 < ((num s j).2 : Int) ∧ numSix s j = true ∧ N = ((num s j).1 : Int)) := by
  have hg := num_ge s j
  by_cases b : (num s j).2 = j ∨ (1 < (num s j).2 - j ∧ bt s j = 48)
  · left
    have := h.bad b
    exact ⟨by omega, numSix_false.2 (by omega)⟩
  · right
    have h0 := h.good b
    by_cases c : (num s j).2 - j ≤ 6
    · right
      have hb := num_bound s j c
      have hok : numOk s j 0 999999 = true := by
        simp [numOk]
        omega
      exact ⟨by omega, by omega, numSix_true.2 (by omega), (h.ok 0 999999 (by omega) hok).1⟩
    · left
      exact ⟨by omega, by omega, numSix_false.2 (by omega)⟩

end Go.Proofs.YtlpdobfjgpedaaaDoor

