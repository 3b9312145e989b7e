/-
  What the last text of this claim leans on, part 18: Pp8.
-/
import Derived.Test.YtfdbgkdbmlmigaaDoorZp17
import Derived.Test.YtfdbgkdbmlmigaaDoorZp7
namespace Go.Proofs.YtfdbgkdbmlmigaaDoor
open Go.RowKit
set_option linter.unusedVariables false
/-- A row's number: its left cell is the highest bit. -/
def rowV (W : Nat) (xs : List Int) (y : Nat) : Nat := valB (fun x => (xs.getD (y * W + x) 0).toNat) W
theorem valB_bound {f : Nat → Nat} : ∀ n, (∀ x, x < n → f x ≤ 1) → valB f n < 2 ^ n
  | 0, _ => by simp [valB]
  | n + 1, h => by
    have := valB_bound n (fun x hx => h x (by omega))
    have := h n (by omega)
    rw [valB, Nat.pow_succ]; omega
theorem valB_bit {f : Nat → Nat} : ∀ n x, (∀ x, x < n → f x ≤ 1) → x < n → bitN (valB f n) (n - 1 - x) = f x
  | 0, x, _, hx => by omega
  | n + 1, x, h, hx => by
    have h1 := h n (by omega)
    by_cases e : x = n
    · subst e
      rw [show x + 1 - 1 - x = 0 by omega]
      unfold bitN
      rw [valB, Nat.pow_zero, Nat.div_one]; omega
    · have ih := valB_bit n x (fun y hy => h y (by omega)) (by omega)
      rw [show n + 1 - 1 - x = (n - 1 - x) + 1 by omega]
      unfold bitN at ih ⊢
      rw [Nat.pow_succ, Nat.mul_comm (2 ^ _) 2, ← Nat.div_div_eq_div_mul, show valB f (n + 1) / 2 = valB f n by rw [valB]; omega]
      exact ih
set_option maxRecDepth 100000 in
theorem or_bit (z c : Nat) (hz : z < 64) (hc : c ≤ 1) : bits BinOp.or IntKind.i64 ((2 * z : Nat) : Int) (c : Int) = ((2 * z + c : Nat) : Int) := by
  have : ∀ y : Fin 64, ∀ d : Fin 2, bits BinOp.or IntKind.i64 ((2 * y.val : Nat) : Int) (d.val : Int) = ((2 * y.val + d.val : Nat) : Int) := by decide +kernel
  exact this ⟨z, hz⟩ ⟨c, by omega⟩
/-- A search while its rows are read. -/
structure NSt (w V : World) (k st ra : Int) (born stay : Nat) (ta : Option Addr) (tn tc : Nat) (s : ByteArray) (W H : Nat) (xs : List Int) (a : Option Addr) (n c y : Nat) (wv : Value) : Prop where
  ser : V.heap[w.heap.size + 3]? = some (.cells (seV k st ra born stay ta tn tc s (W + 2) (H + 2) wv (.slice none 0 0) (.map (some (w.heap.size + 2)))) 60 (0, 0))
  pat : V.heap[w.heap.size + 1]? = some (.cells #[.int .i64 (W : Int), .int .i64 (H : Int), .slice a n c] 26 (0, 0))
  map : V.heap[w.heap.size + 2]? = some (.map #[] 0)
  row : V.ownsRow (w.heap.size + 4) 3 1 wv y ((List.range y).map fun j => Value.int .i64 (rowV W xs j : Int))
  bel : Below w.heap.size w V
  siz : w.heap.size + 4 ≤ V.heap.size
theorem NSt.push {w V V1 : World} {k st ra : Int} {born stay : Nat} {ta : Option Addr} {tn tc : Nat} {s : ByteArray} {W H : Nat} {xs : List Int} {a : Option Addr} {n c y : Nat} {wv wv1 : Value} (h : NSt w V k st ra born stay ta tn tc s W H xs a n c y wv)
    (hg : (V.alloc (.cells #[.int .i64 (rowV W xs y : Int)] 3)).grownBy V1 wv.ownBlock) (ho : V1.ownsRow (w.heap.size + 4) 3 1 wv1 (y + 1) ((List.range y).map (fun j => Value.int .i64 (rowV W xs j : Int)) ++ [.int .i64 (rowV W xs y : Int)])) :
    V1.heap[w.heap.size + 3]? = some (.cells (seV k st ra born stay ta tn tc s (W + 2) (H + 2) wv (.slice none 0 0) (.map (some (w.heap.size + 2)))) 60 (0, 0)) ∧ NSt w (V1.setCell ⟨w.heap.size + 3, 9, none⟩ wv1) k st ra born stay ta tn tc s W H xs a n c (y + 1) wv1 := by
  have k1 : ∀ j, j < w.heap.size + 4 → V1.heap[j]? = V.heap[j]? := fun j hj => (hg.block j (by have := h.siz; simp; omega) (fun e => by have := (own_lt h.row j e.symm).1; omega)).trans (heap_alloc_old V _ (by have := h.siz; omega))
  have s1 := (k1 (w.heap.size + 3) (by omega)).trans h.ser
  have oth : ∀ j, j ≠ w.heap.size + 3 → (V1.setCell ⟨w.heap.size + 3, 9, none⟩ wv1).heap[j]? = V1.heap[j]? := fun j hj => Below.heap_setCell _ _ _ _ (by simpa using hj)
  have sz : V.heap.size + 1 ≤ V1.heap.size := by have := hg.size; simpa using this
  refine ⟨s1, ⟨?_, ?_, ?_, ?_, ?_, ?_⟩⟩
  · rw [heap_setCell_same _ _ _ _ _ _ s1]; rfl
  · rw [oth _ (by omega), k1 _ (by omega)]; exact h.pat
  · rw [oth _ (by omega), k1 _ (by omega)]; exact h.map
  · rw [List.range_succ, List.map_append]
    exact own_keep ho (fun b e => oth b (fun q => by have := (own_lt ho b e).1; omega))
  · exact ((h.bel.alloc (by have := h.siz; omega) _).grown hg (by have := h.siz; simp; omega) (fun j e => by have := (own_lt h.row j e).1; omega)).setCell (by simp) _
  · show w.heap.size + 4 ≤ (V1.setCell _ _).heap.size
    have := h.siz
    simp; omega
theorem mkmapE (w : World) : (Instr.makeMap 58 none).run Tryd.prog w = .ok (.map (some w.heap.size)) (w.alloc (.map #[] 0)) := by kernel_rfl
set_option maxRecDepth 100000 in
set_option maxHeartbeats 12800000 in
theorem newSearch_any (k st ra : Int) (born stay : Nat) (ta : Option Addr) (tn tc : Nat) (s : ByteArray) (W H : Nat) (xs : List Int) (a : Option Addr) (n c : Nat) (w : World) (hP : ArgP w xs a n c) (hcap : n ≤ c) (hcm : c ≤ maxLen) (hn : xs.length = W * H) (hx : ∀ k, 0 ≤ xs.getD k 0 ∧ xs.getD k 0 ≤ 1) (W5 : W ≤ 5) (H5 : H ≤ 5) :
    Calls Tryd.prog 13 #[.agg #[.int .i64 k, .int .i64 (born : Int), .int .i64 (stay : Int), .int .i64 st, .int .i64 ra, .slice ta tn tc, .string s], .agg #[.int .i64 (W : Int), .int .i64 (H : Int), .slice a n c]] w
      fun e w' => e = .returned (.pointer (some ⟨w.heap.size + 3, 0, none⟩)) ∧ ∃ wv, NSt w w' k st ra born stay ta tn tc s W H xs a n c H wv := by
  obtain ⟨w1, hw1⟩ : ∃ w1, (w.alloc (.cells #[.int .i64 k, .int .i64 (born : Int), .int .i64 (stay : Int), .int .i64 st, .int .i64 ra, .slice ta tn tc, .string s] 24)).alloc (.cells #[.int .i64 (W : Int), .int .i64 (H : Int), .slice a n c] 26) = w1 := ⟨_, rfl⟩
  have R0 := hide' (show w1.heap[w.heap.size]? = some (.cells #[.int .i64 k, .int .i64 (born : Int), .int .i64 (stay : Int), .int .i64 st, .int .i64 ra, .slice ta tn tc, .string s] 24 (0, 0)) by rw [← hw1]; exact (heap_alloc_old (w.alloc _) _ (by simp)).trans (heap_alloc_new w _))
  have R1 := hide' (show w1.heap[w.heap.size + 1]? = some (.cells #[.int .i64 (W : Int), .int .i64 (H : Int), .slice a n c] 26 (0, 0)) by rw [← hw1]; exact heap_alloc2_new _ _ _)
  have S1 := hide' (show w1.heap.size = w.heap.size + 2 by rw [← hw1]; simp)
  have B1 := hide' (show Below w.heap.size w w1 by rw [← hw1]; exact ((Below.refl _ _).alloc (Nat.le_refl _) _).alloc (by simp) _)
  have HW1 := hide' hw1
  have HP := hide' (fun (V : World) (hb : Below w.heap.size w V) => hP.below hb)
  have HN := hide' hn
  have HX := hide' hx
  have HL := hide' hP.len
  have HCA := hide' (And.intro hcap hcm)
  obtain ⟨it, hit, hz⟩ := Option.map_eq_some_iff.1 info_intP
  simp only [Prod.mk.injEq] at hz
  obtain ⟨hz0, hz1, hz2⟩ := hz
  clear hw1 hP hn hx hcap hcm
  go_enter Tryd.func13, Tryd.ntmps13
  go_upto_region 1 with fail
  rw [HW1.out]
  have r0 := cell_of_row w1 _ 0 _ _ _ R0.out
  have r1 := cell_of_row w1 _ 1 _ _ _ R0.out
  have r2 := cell_of_row w1 _ 2 _ _ _ R0.out
  have r3 := cell_of_row w1 _ 3 _ _ _ R0.out
  have r4 := cell_of_row w1 _ 4 _ _ _ R0.out
  have r5 := cell_of_row w1 _ 5 _ _ _ R0.out
  have r6 := cell_of_row w1 _ 6 _ _ _ R0.out
  have p0 := cell_of_row w1 _ 0 _ _ _ R1.out
  have p1 := cell_of_row w1 _ 1 _ _ _ R1.out
  simp at r0 r1 r2 r3 r4 r5 r6 p0 p1
  have mm := mkmapE w1
  rw [S1.out] at mm
  obtain ⟨w2, hw2⟩ : ∃ w2, (w1.alloc (.map #[] 0)).alloc (.cells (seV k st ra born stay ta tn tc s (W + 2) (H + 2) (.slice none 0 0) (.slice none 0 0) (.map (some (w.heap.size + 2)))) 60) = w2 := ⟨_, rfl⟩
  have NS0 := hide' (show NSt w w2 k st ra born stay ta tn tc s W H xs a n c 0 (.slice none 0 0) from by
    have e3 : (w1.alloc (.map #[] 0)).heap.size = w.heap.size + 3 := by simp [S1.out]
    refine ⟨?_, ?_, ?_, World.ownsRow_nil _ _ _ _, ?_, ?_⟩
    · rw [← hw2, ← e3]; exact heap_alloc_new _ _
    · rw [← hw2]; exact (heap_alloc_old _ _ (by rw [e3]; omega)).trans ((heap_alloc_old w1 _ (by rw [S1.out]; omega)).trans R1.out)
    · rw [← hw2, heap_alloc_old _ _ (by rw [e3]; omega)]
      have := (MapKept.heap_alloc w1 (.map #[] 0)).1
      rw [S1.out] at this
      exact this
    · rw [← hw2]; exact (B1.out.alloc B1.out.size _).alloc (by rw [e3]; omega) _
    · rw [← hw2]; simp [S1.out])
  have HW2 := hide' hw2
  obtain ⟨W2, hW2⟩ : ∃ W2, W + 2 = W2 := ⟨_, rfl⟩
  obtain ⟨H2, hH2⟩ : ∃ H2, H + 2 = H2 := ⟨_, rfl⟩
  have eW : (W : Int) + 2 = (W2 : Int) := by omega
  have eH : (H : Int) + 2 = (H2 : Int) := by omega
  rw [hW2, hH2] at HW2
  unfold seV at HW2
  clear hw2 hW2 hH2
  obtain ⟨sb, hsb⟩ : ∃ sb, w.heap.size + 3 = sb := ⟨_, rfl⟩
  obtain ⟨pb, hpb⟩ : ∃ pb, w.heap.size + 1 = pb := ⟨_, rfl⟩
  have HSB := hide' hsb
  have HPB := hide' hpb
  have e3 : w1.heap.size + 1 = sb := by rw [S1.out, ← hsb]
  have E3 := hide' e3
  clear e3 hsb hpb
  go_upto_region 2 with fail
  rw [HW2.out, E3.out, HPB.out]
  have PC := hide' (fun (V : World) (h : V.heap[w.heap.size + 1]? = some (.cells #[.int .i64 (W : Int), .int .i64 (H : Int), .slice a n c] 26 (0, 0))) => show V.cell? ⟨pb, 0, none⟩ = some (.int .i64 (W : Int)) ∧ V.cell? ⟨pb, 1, none⟩ = some (.int .i64 (H : Int)) ∧ V.cell? ⟨pb, 2, none⟩ = some (.slice a n c) from by
    rw [HPB.out] at h
    exact ⟨cell_of_row V _ 0 _ _ _ h, cell_of_row V _ 1 _ _ _ h, cell_of_row V _ 2 _ _ _ h⟩)
  obtain ⟨-, q1, -⟩ := PC.out w2 NS0.out.pat
  clear r0 r1 r2 r3 r4 r5 r6 p0 p1 mm eW eH
  go_wp2
  go_loopw [22] (fun yv wr => ∃ (y : Nat) (wv : Value), yv = .int .i64 (y : Int) ∧ y ≤ H ∧ Hid (NSt w wr k st ra born stay ta tn tc s W H xs a n c y wv)) (fun yv _ => H - (intOf yv).toNat)
  case atStart => exact ⟨0, _, rfl, by omega, NS0⟩
  case round =>
    obtain ⟨y, wv, rfl, hy, NS⟩ := hrel
    by_cases dy : (y : Int) < (H : Int)
    · obtain ⟨t0, t1, t2⟩ := PC.out wr NS.out.pat
      rcases Nat.eq_zero_or_pos W with W0 | W0
      · subst W0
        have W0' : ((0 : Nat) : Int) = 0 := rfl
        rw [W0'] at t0
        have L0 : (0 : Int) ≤ (c : Int) := by omega
        obtain ⟨VV, hVV⟩ : ∃ VV, VV = wr := ⟨_, rfl⟩
        rw [← hVV] at NS t0 t1 t2 ⊢
        clear hVV
        by_cases c0 : c = 0
        · subst c0
          go_wp2
          go_loopw [7, 38] (fun zv xv wr => xv = .int .i64 0 ∧ zv = .int .i64 0 ∧ VV = wr) (fun _ xv _ => 0)
          case atStart => exact ⟨rfl, rfl, rfl⟩
          case round =>
            obtain ⟨rfl, rfl, rfl⟩ := hrel
            have RVZ : rowV 0 xs y = 0 := rfl
            have NSV := hide' NS.out
            obtain ⟨wa, wq, rfl⟩ := own_sl NS.out.row
            have OW := hide' NS.out.row
            have z9 := cell_of_row VV _ 9 _ _ _ NS.out.ser
            simp [seV] at z9
            rw [HSB.out] at z9
            have RZ := hide' (show rowV 0 xs y = 0 from RVZ)
            have PSH := hide' (fun (X7 : World) (r7 : Value) (hg : (VV.alloc (.cells #[.int .i64 0] 3)).grownBy X7 (Value.slice wa y wq).ownBlock) (ho : X7.ownsRow (w.heap.size + 4) 3 1 r7 (y + 1) ((List.range y).map (fun j => Value.int .i64 (rowV 0 xs j : Int)) ++ [.int .i64 0])) => NS.out.push (V1 := X7) (wv1 := r7) (by rw [RZ.out]; exact hg) (by rw [RZ.out]; exact ho))
            rw [HSB.out] at PSH
            have NW : ∀ j u, [Value.int .i64 0][j]? = some u → (VV.alloc (.cells #[.int .i64 0] 3)).cell? ((⟨VV.heap.size, 0, none⟩ : Addr).add j) = some u := World.news_of_block (cs := #[.int .i64 0]) (heap_alloc_new VV _)
            have sV := NS.out.siz
            clear RVZ
            go_wp2_with (at_builtin; go_loud (refine wpList_append_own _ rfl _ _ 22 rfl (w.heap.size + 4) 3 it (.int .i64 0) 1 8 Tryd.underlying22 hit hz0 hz1 hz2 rfl (by decide) _ y _ rfl (OW.out.alloc _) ⟨VV.heap.size, 0, none⟩ 1 1 [Value.int .i64 0] rfl rfl NW (fun u hu => by simp at hu; subst hu; rfl) (by unfold maxLen; omega) (by omega) (by simp; omega) ?_; intro v' w7 ho hg hnn; obtain ⟨a7, q7, rfl⟩ := own_sl ho; have SX := (PSH.out w7 _ hg ho).1; have y9 := cell_of_row w7 _ 9 _ _ _ SX; simp [seV] at y9; have yf := frozen_of_row w7 _ 9 _ _ SX; clear SX; go_frame))
            exact ⟨⟨y + 1, _, by go_num, by omega, hide' (PSH.out w7 _ hg ho).2⟩, by simp [intOf]; omega⟩
        · have c0' : (0 : Int) < (c : Int) := by omega
          go_wp2
          go_loopw [7, 38] (fun zv xv wr => xv = .int .i64 0 ∧ zv = .int .i64 0 ∧ VV = wr) (fun _ xv _ => 0)
          case atStart => exact ⟨rfl, rfl, rfl⟩
          case round =>
            obtain ⟨rfl, rfl, rfl⟩ := hrel
            have RVZ : rowV 0 xs y = 0 := rfl
            have NSV := hide' NS.out
            obtain ⟨wa, wq, rfl⟩ := own_sl NS.out.row
            have OW := hide' NS.out.row
            have z9 := cell_of_row VV _ 9 _ _ _ NS.out.ser
            simp [seV] at z9
            rw [HSB.out] at z9
            have RZ := hide' (show rowV 0 xs y = 0 from RVZ)
            have PSH := hide' (fun (X7 : World) (r7 : Value) (hg : (VV.alloc (.cells #[.int .i64 0] 3)).grownBy X7 (Value.slice wa y wq).ownBlock) (ho : X7.ownsRow (w.heap.size + 4) 3 1 r7 (y + 1) ((List.range y).map (fun j => Value.int .i64 (rowV 0 xs j : Int)) ++ [.int .i64 0])) => NS.out.push (V1 := X7) (wv1 := r7) (by rw [RZ.out]; exact hg) (by rw [RZ.out]; exact ho))
            rw [HSB.out] at PSH
            have NW : ∀ j u, [Value.int .i64 0][j]? = some u → (VV.alloc (.cells #[.int .i64 0] 3)).cell? ((⟨VV.heap.size, 0, none⟩ : Addr).add j) = some u := World.news_of_block (cs := #[.int .i64 0]) (heap_alloc_new VV _)
            have sV := NS.out.siz
            clear RVZ
            go_wp2_with (at_builtin; go_loud (refine wpList_append_own _ rfl _ _ 22 rfl (w.heap.size + 4) 3 it (.int .i64 0) 1 8 Tryd.underlying22 hit hz0 hz1 hz2 rfl (by decide) _ y _ rfl (OW.out.alloc _) ⟨VV.heap.size, 0, none⟩ 1 1 [Value.int .i64 0] rfl rfl NW (fun u hu => by simp at hu; subst hu; rfl) (by unfold maxLen; omega) (by omega) (by simp; omega) ?_; intro v' w7 ho hg hnn; obtain ⟨a7, q7, rfl⟩ := own_sl ho; have SX := (PSH.out w7 _ hg ho).1; have y9 := cell_of_row w7 _ 9 _ _ _ SX; simp [seV] at y9; have yf := frozen_of_row w7 _ 9 _ _ SX; clear SX; go_frame))
            exact ⟨⟨y + 1, _, by go_num, by omega, hide' (PSH.out w7 _ hg ho).2⟩, by simp [intOf]; omega⟩
      · obtain ⟨L, hL⟩ : ∃ L, y * W = L := ⟨_, rfl⟩
        obtain ⟨M, hM⟩ : ∃ M, (y + 1) * W = M := ⟨_, rfl⟩
        have ML : M = L + W := by rw [← hM, ← hL, Nat.add_mul, Nat.one_mul]
        have Mn : M ≤ n := by
          rw [HL.out, HN.out, ← hM, Nat.mul_comm W H]
          exact Nat.mul_le_mul_right _ (by omega)
        have n25 : n ≤ 25 := by rw [HL.out, HN.out]; exact Nat.mul_le_mul W5 H5
        have eL : (y : Int) * (W : Int) = (L : Int) := by rw [← hL]; simp
        have eM : ((y : Int) + 1) * (W : Int) = (M : Int) := by rw [← hM]; simp
        have cc := HCA.out
        have L0 : (0 : Int) ≤ (L : Int) := by omega
        have LM : (L : Int) ≤ (M : Int) := by omega
        have Mc : (M : Int) ≤ (c : Int) := by omega
        have cL : ¬ c = L := by omega
        obtain ⟨g, off, rfl, -, -⟩ := (HP.out wr NS.out.bel).cells 0 (by rw [← HL.out]; omega)
        have CE := hide' (fun x (hx : x < W) => show ∃ b : Nat, wr.cell? ⟨g, off + (L + x), none⟩ = some (.int .i64 (b : Int)) ∧ b ≤ 1 ∧ (xs.getD (y * W + x) 0).toNat = b from by
          obtain ⟨g', off', e, -, h⟩ := (HP.out wr NS.out.bel).cells (L + x) (by rw [← HL.out]; omega)
          cases e
          have hz := HX.out (L + x)
          refine ⟨(xs.getD (L + x) 0).toNat, ?_, by omega, by rw [hL]⟩
          rw [h]
          rw [show xs.getD (L + x) 0 = xs[L + x]'(by rw [← HL.out]; omega) by simp [List.getD, show L + x < xs.length by rw [← HL.out]; omega]] at hz ⊢
          congr 2
          omega)
        clear hL hM cc
        go_wp2
        rw [show L + W - L = W by omega]
        obtain ⟨VV, hVV⟩ : ∃ VV, VV = wr := ⟨_, rfl⟩
        rw [← hVV] at NS CE t0 t1 t2 ⊢
        clear hVV
        go_loopw [7, 38] (fun zv xv wr => ∃ (x z : Nat), xv = .int .i64 (x : Int) ∧ zv = .int .i64 (z : Int) ∧ x ≤ W ∧ VV = wr ∧ z < 64 ∧ Hid (valB (fun x => (xs.getD (y * W + x) 0).toNat) x = z)) (fun _ xv _ => W - (intOf xv).toNat)
        case atStart => exact ⟨0, 0, rfl, rfl, by omega, rfl, by omega, hide' rfl⟩
        case round =>
          obtain ⟨x, z, rfl, rfl, hx, rfl, z64, ZV⟩ := hrel
          by_cases dx : (x : Int) < (W : Int)
          · obtain ⟨b, cb, b1, eb⟩ := CE.out x (by omega)
            rw [← Nat.add_assoc] at cb
            have ob := or_bit z b z64 b1
            have ZN := hide' (show valB (fun x => (xs.getD (y * W + x) 0).toNat) (x + 1) = 2 * z + b by rw [valB, ZV.out, eb])
            have ZB := hide' (show 2 * z + b < 64 from by
              have h1 := valB_bound (f := fun x => (xs.getD (y * W + x) 0).toNat) (x + 1) (fun j hj => by
                have := HX.out (y * W + j); omega)
              rw [ZN.out] at h1
              have : 2 ^ (x + 1) ≤ 2 ^ 5 := Nat.pow_le_pow_right (by omega) (by omega)
              omega)
            have x0 : (0 : Int) ≤ (x : Int) := by omega
            clear eb
            go_wp2
            refine ⟨⟨x + 1, 2 * z + b, by go_num, ?_, by omega, trivial, ZB.out, ZN⟩, by simp [intOf]; omega⟩
            rw [show (z : Int) * 2 = ((2 * z : Nat) : Int) by omega, ob]
          · obtain rfl : x = W := by omega
            have RVZ : rowV x xs y = z := ZV.out
            have NSV := hide' NS.out
            obtain ⟨wa, wq, rfl⟩ := own_sl NS.out.row
            have OW := hide' NS.out.row
            have z9 := cell_of_row VV _ 9 _ _ _ NS.out.ser
            simp [seV] at z9
            rw [HSB.out] at z9
            have RZ := hide' (show rowV x xs y = z from RVZ)
            have PSH := hide' (fun (X7 : World) (r7 : Value) (hg : (VV.alloc (.cells #[.int .i64 (z : Int)] 3)).grownBy X7 (Value.slice wa y wq).ownBlock) (ho : X7.ownsRow (w.heap.size + 4) 3 1 r7 (y + 1) ((List.range y).map (fun j => Value.int .i64 (rowV x xs j : Int)) ++ [.int .i64 (z : Int)])) => NS.out.push (V1 := X7) (wv1 := r7) (by rw [RZ.out]; exact hg) (by rw [RZ.out]; exact ho))
            rw [HSB.out] at PSH
            have NW : ∀ j u, [Value.int .i64 (z : Int)][j]? = some u → (VV.alloc (.cells #[.int .i64 (z : Int)] 3)).cell? ((⟨VV.heap.size, 0, none⟩ : Addr).add j) = some u := World.news_of_block (cs := #[.int .i64 (z : Int)]) (heap_alloc_new VV _)
            have sV := NS.out.siz
            clear RVZ
            go_wp2_with (at_builtin; go_loud (refine wpList_append_own _ rfl _ _ 22 rfl (w.heap.size + 4) 3 it (.int .i64 0) 1 8 Tryd.underlying22 hit hz0 hz1 hz2 rfl (by decide) _ y _ rfl (OW.out.alloc _) ⟨VV.heap.size, 0, none⟩ 1 1 [Value.int .i64 (z : Int)] rfl rfl NW (fun u hu => by simp at hu; subst hu; rfl) (by unfold maxLen; omega) (by omega) (by simp; omega) ?_; intro v' w7 ho hg hnn; obtain ⟨a7, q7, rfl⟩ := own_sl ho; have SX := (PSH.out w7 _ hg ho).1; have y9 := cell_of_row w7 _ 9 _ _ _ SX; simp [seV] at y9; have yf := frozen_of_row w7 _ 9 _ _ SX; clear SX; go_frame))
            exact ⟨⟨y + 1, _, by go_num, by omega, hide' (PSH.out w7 _ hg ho).2⟩, by simp [intOf]; omega⟩
    · obtain rfl : y = H := by omega
      go_wp2
      go_ret
      exact ⟨by rw [HSB.out]; rfl, wv, NS.out⟩
end Go.Proofs.YtfdbgkdbmlmigaaDoor

