/-
  What the last text of this claim leans on, part 14: Bkj.
-/
import Derived.Test.YtfeddccbhmbkmaaDoorZr13
import Derived.Deep.CutRange
namespace Go.Proofs.YtfeddccbhmbkmaaDoor
open Go.RowKit
set_option linter.unusedVariables false
/-- What stands while the steps are gone. -/
structure RefSt (w w3 wr : World) (W H : Nat) (g : Nat → Nat) (a a0 : Option Addr) (n c : Nat) : Prop where
  own : ∀ q off, a = some ⟨q, off, none⟩ → a0 = some ⟨q, off, none⟩ ∨ w.heap.size ≤ q
  keep : ∀ j, j < w.heap.size + 1 + 1 → wr.heap[j]? = w3.heap[j]?
  now : wr.heap[w.heap.size + 1 + 1]? = some (.cells #[.int .i64 (W : Int), .int .i64 (H : Int), .slice a n c] 26 (0, 0))
  arg : ArgP wr ((List.range (W * H)).map fun i => (g i : Int)) a n c
  far : 0 < W * H → ∀ q off, a = some ⟨q, off, none⟩ → q < w.heap.size ∨ w.heap.size + 1 + 1 < q
  below : Below w.heap.size w wr
  size : w.heap.size + 1 + 1 < wr.heap.size
theorem made_ca (w : World) (n : Nat) : CA (w.alloc (.cells (madeCells #[.int .i64 0] n) 3)) w.heap.size n (fun _ => 0) := by
  refine ⟨madeCells #[.int .i64 0] n, heap_alloc_new _ _, ?_, fun k hk => ?_⟩
  · rw [← Array.length_toList, toList_madeCells_one]; simp
  · rw [← Array.getElem?_toList, toList_madeCells_one, List.getElem?_replicate, if_pos hk]; rfl
def RefRun (W H : Nat) (g : Nat → Nat) (a0 : Option Addr) (w : World) (e : Ending) (w' : World) : Prop := ∃ a n c, e = .returned (.agg #[.int .i64 (W : Int), .int .i64 (H : Int), .slice a n c]) ∧ (∀ q off, a = some ⟨q, off, none⟩ → a0 = some ⟨q, off, none⟩ ∨ w.heap.size ≤ q) ∧ ArgP w' ((List.range (W * H)).map fun i => (g i : Int)) a n c ∧ Below w.heap.size w w'
theorem setNow {w : World} {g : Nat} {cur : Array Value} (hg : w.heap[g]? = some (.cells cur 26 (0, 0))) (h3 : cur.size = 3) (x y z : Value) : (((w.setCell ⟨g, 0, none⟩ x).setCell ⟨g, 1, none⟩ y).setCell ⟨g, 2, none⟩ z).heap[g]? = some (.cells #[x, y, z] 26 (0, 0)) := by
  rw [heap_setCell_same _ _ _ _ _ _ (heap_setCell_same _ _ _ _ _ _ (heap_setCell_same _ _ _ _ _ _ hg))]
  obtain ⟨l⟩ := cur
  match l, h3 with
  | [p, q, r], _ => rfl
set_option maxRecDepth 100000 in
set_option maxHeartbeats 12800000 in
theorem refRun_any (W H V U : Nat) (tv f : Nat → Nat) (b : Option Addr) (d : Nat) (a0 : Option Addr) (n c0 ph k : Nat) (w : World) (e : Evn W H V U) (hW : W ≤ 100) (hH : H ≤ 100) (hp : ph ≤ 1) (hk : k ≤ 100000) (hT : TbB w b tv) (hP : ArgP w ((List.range (W * H)).map fun i => (f i : Int)) a0 n c0) (hf : ∀ i, f i ≤ 1) :
    Calls Tryd.prog 25 #[.slice b 16 d, .agg #[.int .i64 (W : Int), .int .i64 (H : Int), .slice a0 n c0], .int .i64 (ph : Int), .int .i64 (k : Int)] w (RefRun W H (runB tv W H ph f k) a0 w) := by
  obtain ⟨w3, hw3⟩ : ∃ w3, ((w.alloc (.cells #[.int .i64 (W : Int), .int .i64 (H : Int), .slice a0 n c0] 26)).alloc (.cells #[.int .i64 0, .int .i64 0, .slice none 0 0] 26)).alloc (.cells #[.int .i64 (W : Int), .int .i64 (H : Int), .slice a0 n c0] 26) = w3 := ⟨_, rfl⟩
  have BB : Below w.heap.size w w3 := by rw [← hw3]; repeat (first | exact Below.refl _ _ | refine Below.alloc ?_ (by simp; try omega) _)
  have g0 : w3.heap[w.heap.size]? = some (.cells #[.int .i64 (W : Int), .int .i64 (H : Int), .slice a0 n c0] 26 (0, 0)) := by rw [← hw3, Below.heap_alloc _ _ _ (by simp; try omega), Below.heap_alloc _ _ _ (by simp; try omega)]; exact heap_atX _ _ _ (by simp)
  have g1 : w3.heap[w.heap.size + 1]? = some (.cells #[.int .i64 0, .int .i64 0, .slice none 0 0] 26 (0, 0)) := by rw [← hw3, Below.heap_alloc _ _ _ (by simp; try omega)]; exact heap_atX _ _ _ (by simp)
  have g2 : w3.heap[w.heap.size + 1 + 1]? = some (.cells #[.int .i64 (W : Int), .int .i64 (H : Int), .slice a0 n c0] 26 (0, 0)) := by rw [← hw3]; exact heap_atX _ _ _ (by simp)
  have nl : n = W * H := by have := hP.len; simpa using this
  have n4 : n ≤ 10000 := by rw [nl]; exact Nat.mul_le_mul hW hH
  have X0 := hide' (show RefSt w w3 w3 W H (runB tv W H ph f 0) a0 a0 n c0 from ⟨fun q off h => Or.inl h, fun _ _ => rfl, g2, hP.below BB, fun z q off h => Or.inl (by
      obtain ⟨g', off', e', hg', _⟩ := hP.cells 0 (by simpa using z)
      rw [h] at e'; cases e'; exact hg'), BB, by rw [← hw3]; simp⟩)
  have l4 : W ≤ 100 ∧ H ≤ 100 := ⟨hW, hH⟩
  have EV := hide' e
  have HP1 := hide' hp
  have HF := hide' (fun s i => runB_le (tv := tv) (W := W) (H := H) (ph := ph) hf s i)
  have TL := hide' hT.lt
  obtain ⟨gt, ot, rfl, -, -⟩ := hT.cells
  have HTB := hide' hT
  have NL := hide' nl
  have G0 := hide' g0
  have G1 := hide' g1
  have HMK := hide' (fun W => run_make_row' (P := Tryd.prog) 22 3 (.int .i64 0) 8 Tryd.underlying22 info_int rfl .i64 .i64 n (by omega) (by omega) W)
  have NX := hide' (fun s => runB_next tv W H ph f s)
  clear g0 g1 g2 BB e hp hT hP nl hf
  go_enter Tryd.func25, Tryd.ntmps25
  go_wp2
  try rw [hw3]
  clear hw3
  go_loopw [10] (fun sv wr => ∃ (s : Nat) (a : Option Addr) (c : Nat), sv = .int .i64 (s : Int) ∧ s ≤ k ∧ Hid (RefSt w w3 wr W H (runB tv W H ph f s) a a0 n c)) (fun sv _ => ((k : Int) - intOf sv).toNat)
  case atStart => exact ⟨0, a0, c0, by go_num, by omega, X0⟩
  case round =>
    obtain ⟨s, a, c, rfl, hs, HR⟩ := hrel
    obtain ⟨V1, rfl⟩ : ∃ V1, V1 = wr := ⟨_, rfl⟩
    have z1 := HR.out.size
    have p0 := (HR.out.keep w.heap.size (by omega)).trans G0.out
    have b0 := cell_of_row V1 _ 0 _ _ _ p0
    have b1 := cell_of_row V1 _ 1 _ _ _ p0
    have b2 := cell_of_row V1 _ 2 _ _ _ p0
    simp at b0 b1 b2
    by_cases ds : (s : Int) < (k : Int)
    · obtain ⟨g, hg⟩ : ∃ g, runB tv W H ph f s = g := ⟨_, rfl⟩
      obtain ⟨q, hq⟩ : ∃ q, phS ph s = q := ⟨_, rfl⟩
      have q1 : q ≤ 1 := by rw [← hq]; exact phS_le HP1.out s
      have GF := hide' (show ∀ i, g i ≤ 1 by rw [← hg]; exact fun i => HF.out s i)
      have DX := hide' (fun x => show (x + q) % 2 = (x + ph + s) % 2 by rw [← hq]; exact dx_ph HP1.out)
      have GN := hide' (show runB tv W H ph f (s + 1) = newB tv W H q g by rw [NX.out, hg, hq])
      rw [hg] at HR
      clear hg hq p0
      obtain ⟨h1, hh1⟩ : ∃ h1, V1.alloc (.cells #[.int .i64 (W : Int), .int .i64 (H : Int), .slice none 0 0] 26) = h1 := ⟨_, rfl⟩
      obtain ⟨V2, hV2⟩ : ∃ V2, (h1.alloc (.cells (madeCells #[.int .i64 0] n) 3)).setCell ⟨V1.heap.size, 2, none⟩ (.slice (some ⟨V1.heap.size + 1, 0, none⟩) n n) = V2 := ⟨_, rfl⟩
      have s1 : h1.heap.size = V1.heap.size + 1 := by rw [← hh1]; simp
      have gN : h1.heap[V1.heap.size]? = some (.cells #[.int .i64 (W : Int), .int .i64 (H : Int), .slice none 0 0] 26 (0, 0)) := by rw [← hh1]; exact heap_alloc_new _ _
      have gM : (h1.alloc (.cells (madeCells #[.int .i64 0] n) 3)).heap[V1.heap.size]? = some (.cells #[.int .i64 (W : Int), .int .i64 (H : Int), .slice none 0 0] 26 (0, 0)) := (Below.heap_alloc _ _ _ (by omega)).trans gN
      have N2 : V2.heap[V1.heap.size]? = some (.cells #[.int .i64 (W : Int), .int .i64 (H : Int), .slice (some ⟨V1.heap.size + 1, 0, none⟩) n n] 26 (0, 0)) := by rw [← hV2, heap_setCell_same _ _ _ _ _ _ gM]; rfl
      have KV : ∀ j, j < V1.heap.size → V2.heap[j]? = V1.heap[j]? := fun j hj => by
        rw [← hV2, Below.heap_setCell _ _ _ _ (by simp; omega), Below.heap_alloc _ _ _ (by omega), ← hh1, Below.heap_alloc _ _ _ hj]
      have CM : CA V2 (V1.heap.size + 1) n (fun _ => 0) := by
        have := made_ca h1 n
        rw [s1] at this
        exact this.block (by rw [← hV2, Below.heap_setCell _ _ _ _ (by simp)])
      have S2 : V2.heap.size = V1.heap.size + 2 := by rw [← hV2, World.size_setCell]; simp [s1]
      have BV : Below w.heap.size w V2 := by
        rw [← hV2, ← hh1]
        refine Below.setCell (Below.alloc (Below.alloc HR.out.below (by omega) _) (by simp; omega) _) (by simp; omega) _
      have SP0 := hide' (show SP V2 V2 w.heap.size (V1.heap.size + 1) n (prtB (newB tv W H q g) 0) from ⟨fun _ _ _ => rfl, CM.ext (fun k _ => by simp [prtB]), Nat.le_refl _, Below.refl _ _⟩)
      have PU := hide' (KV w.heap.size (by omega))
      have HNW := hide' ((KV (w.heap.size + 1 + 1) (by omega)).trans HR.out.now)
      have P0 := hide' ((PU.out.trans (HR.out.keep w.heap.size (by omega))).trans G0.out)
      have N2H := hide' N2
      have FAR := hide' HR.out.far
      have AR2 := hide' (show ArgP V2 ((List.range (W * H)).map fun i => (g i : Int)) a n c from HR.out.arg.keepB (fun z qq off h => KV qq (by
        have := HR.out.far (by simpa using z) qq off h
        obtain ⟨g', off', e', hg', _⟩ := HR.out.arg.cells 0 z
        rw [h] at e'; cases e'; exact hg')))
      have ALT := hide' (fun (z : 0 < W * H) qq off (h : a = some ⟨qq, off, none⟩) => show qq < V1.heap.size from by
        obtain ⟨g', off', e', hg', _⟩ := HR.out.arg.cells 0 (by simpa using z)
        rw [h] at e'; cases e'; exact hg')
      have GV := hide' (fun (V : World) (m : Nat → Nat) (hV : SP V2 V w.heap.size (V1.heap.size + 1) n m) => show V.cell? ⟨w.heap.size, 0, none⟩ = some (.int .i64 (W : Int)) ∧ V.cell? ⟨w.heap.size, 1, none⟩ = some (.int .i64 (H : Int)) ∧ V.cell? ⟨w.heap.size + 1 + 1, 2, none⟩ = some (.slice a n c) ∧ V.cell? ⟨V1.heap.size, 2, none⟩ = some (.slice (some ⟨V1.heap.size + 1, 0, none⟩) n n) from
        have e0 := (hV.keep _ (by omega) (by omega)).trans P0.out
        have e2 := (hV.keep _ (by omega) (by omega)).trans HNW.out
        have e3 := (hV.keep _ (by omega) (by omega)).trans N2H.out
        ⟨cell_of_row V _ 0 _ _ _ e0, cell_of_row V _ 1 _ _ _ e0, cell_of_row V _ 2 _ _ _ e2, cell_of_row V _ 2 _ _ _ e3⟩)
      have GY := hide' (fun (V : World) (m : Nat → Nat) (hV : SP V2 V w.heap.size (V1.heap.size + 1) n m) => show ArgP V ((List.range (W * H)).map fun i => (g i : Int)) a n c from AR2.out.keepB (fun z qq off h => hV.keep qq (by have := ALT.out (by simpa using z) qq off h; omega) (by have := ALT.out (by simpa using z) qq off h; omega)))
      have GT := hide' (fun (V : World) (m : Nat → Nat) (hV : SP V2 V w.heap.size (V1.heap.size + 1) n m) => show ∀ j, j < 16 → V.cell? ⟨gt, ot + j, none⟩ = some (.int .i64 (tv j : Int)) from fun j hj => by
        obtain ⟨g', off', e', _, hc⟩ := (HTB.out.below (BV.trans hV.below)).cells
        cases e'
        exact hc j hj)
      have KVH := hide' KV
      have BVH := hide' BV
      have hmk := HMK.out h1
      rw [s1] at hmk
      have ph1 : h1.heap[w.heap.size]? = some (.cells #[.int .i64 (W : Int), .int .i64 (H : Int), .slice a0 n c0] 26 (0, 0)) := by rw [← hh1, Below.heap_alloc _ _ _ (by omega)]; exact (HR.out.keep w.heap.size (by omega)).trans G0.out
      have d2 := cell_of_row h1 _ 2 _ _ _ ph1
      have m2 := cell_of_row _ _ 2 _ _ _ gM
      have mf := frozen_of_row _ _ 2 _ _ gM
      have ml := lt_of_block gM
      simp only [List.getElem?_toArray, List.getElem?_cons_succ, List.getElem?_cons_zero] at d2 m2
      have HH1 := hide' hh1
      clear N2 KV CM BV ph1 hh1
      go_upto_region 6 with fail
      rw [HH1.out]
      go_wp2
      clear d2 m2 mf ml gM
      clear hmk b0 b1 b2 hV2 HH1 s1 gN
      go_loopw [12] (fun yv wr => ∃ (y : Nat), yv = .int .i64 (y : Int) ∧ y ≤ H ∧ Hid (SP V2 wr w.heap.size (V1.heap.size + 1) n (prtB (newB tv W H q g) (y * W)))) (fun yv _ => ((H : Int) - intOf yv).toNat)
      case atStart => exact ⟨0, by go_num, by omega, hide' (by rw [Nat.zero_mul]; exact SP0.out)⟩
      case round =>
        obtain ⟨y, rfl, hy, HY⟩ := hrel
        obtain ⟨V3, rfl⟩ : ∃ V3, V3 = wr := ⟨_, rfl⟩
        obtain ⟨b0, b1, b2, b3⟩ := GV.out V3 _ HY.out
        by_cases dy : (y : Int) < (H : Int)
        · go_wp2
          clear b0 b1 b2 b3
          go_loopw [13] (fun xv wr => ∃ (x : Nat), xv = .int .i64 (x : Int) ∧ x ≤ W ∧ Hid (SP V2 wr w.heap.size (V1.heap.size + 1) n (prtB (newB tv W H q g) (y * W + x)))) (fun xv _ => ((W : Int) - intOf xv).toNat)
          case atStart => exact ⟨0, by go_num, by omega, HY⟩
          case round =>
            obtain ⟨x, rfl, hx, HX⟩ := hrel
            obtain ⟨V4, rfl⟩ : ∃ V4, V4 = wr := ⟨_, rfl⟩
            obtain ⟨b0, b1, b2, b3⟩ := GV.out V4 _ HX.out
            by_cases dx : (x : Int) < (W : Int)
            · have xl : x < W := by omega
              have yl : y < H := by omega
              obtain ⟨ex, hex⟩ : ∃ ex, (x + ph + s) % 2 = ex := ⟨_, rfl⟩
              obtain ⟨ey, hey⟩ : ∃ ey, (y + ph + s) % 2 = ey := ⟨_, rfl⟩
              have ex1 : ex ≤ 1 := by omega
              have ey1 : ey ≤ 1 := by omega
              have f1 : ((x : Int) + (ph : Int) + (s : Int)) % 2 = (ex : Int) := by omega
              have f2 : ((y : Int) + (ph : Int) + (s : Int)) % 2 = (ey : Int) := by omega
              have f3 : ((x : Int) + (ph : Int) + (s : Int)).tmod 2 = (ex : Int) := by rw [Int.tmod_eq_emod_of_nonneg (by omega)]; exact f1
              have f4 : ((y : Int) + (ph : Int) + (s : Int)).tmod 2 = (ey : Int) := by rw [Int.tmod_eq_emod_of_nonneg (by omega)]; exact f2
              have EX := hide' (show (x + q) % 2 = ex by rw [DX.out, hex])
              have EY := hide' (show (y + q) % 2 = ey by rw [DX.out, hey])
              have pl1 := HP1.out
              clear hex hey
              go_wp2
              clear f1 f2 f3 f4 pl1 b0 b1 b2 b3
              go_loopw [16, 17, 18] (fun bv mv kv wr => ∃ (i B M : Nat), kv = .int .i64 (i : Int) ∧ bv = .int .i64 (B : Int) ∧ mv = .int .i64 (M : Int) ∧ i ≤ 4 ∧ B ≤ 15 ∧ M ≤ 16 ∧ Hid (B = sumR g W H q x y i) ∧ Hid (M = 2 ^ i) ∧ Hid (SP V2 wr w.heap.size (V1.heap.size + 1) n (prtB (newB tv W H q g) (y * W + x)))) (fun _ _ kv _ => ((4 : Int) - intOf kv).toNat)
              case atStart => exact ⟨0, 0, 1, by go_num, by go_num, by go_num, by omega, by omega, by omega, hide' rfl, hide' rfl, HX⟩
              case round =>
                obtain ⟨i, B, M, rfl, rfl, rfl, hi, hB, hM, HB, HM, HX2⟩ := hrel
                obtain ⟨V5, rfl⟩ : ∃ V5, V5 = wr := ⟨_, rfl⟩
                obtain ⟨b0, b1, b2, b3⟩ := GV.out V5 _ HX2.out
                by_cases di : (i : Int) < 4
                · have il : i < 4 := by omega
                  have nW : ¬ (W : Int) = 0 := by omega
                  have nH : ¬ (H : Int) = 0 := by omega
                  rcases (by omega : i = 0 ∨ i = 1 ∨ i = 2 ∨ i = 3) with rfl | rfl | rfl | rfl
                  · obtain rfl : M = 1 := HM.out
                    obtain ⟨A, hA⟩ : ∃ A, (x + W - ex + 0) % W = A := ⟨_, rfl⟩
                    obtain ⟨C, hC⟩ : ∃ C, (y + H - ey + 0) % H = C := ⟨_, rfl⟩
                    have Al : A < W := by rw [← hA]; exact Nat.mod_lt _ (by omega)
                    have Cl : C < H := by rw [← hC]; exact Nat.mod_lt _ (by omega)
                    have e1 : ((x : Int) - (ex : Int) + (W : Int)).tmod (W : Int) = (A : Int) := by
                      rw [show (x : Int) - (ex : Int) + (W : Int) = ((x + W - ex + 0 : Nat) : Int) by push_cast; omega, Int.tmod_eq_emod_of_nonneg (by omega), ← hA, Int.natCast_emod]
                    have e2 : ((y : Int) - (ey : Int) + (H : Int)).tmod (H : Int) = (C : Int) := by
                      rw [show (y : Int) - (ey : Int) + (H : Int) = ((y + H - ey + 0 : Nat) : Int) by push_cast; omega, Int.tmod_eq_emod_of_nonneg (by omega), ← hC, Int.natCast_emod]
                    obtain ⟨P, hPP⟩ : ∃ P : Nat, (C : Int) * (W : Int) = (P : Int) := ⟨C * W, by simp⟩
                    obtain ⟨t, ht⟩ : ∃ t, C * W + A = t := ⟨_, rfl⟩
                    have pe : plcR W H q x y 0 = t := by unfold plcR; rw [EX.out, EY.out, hA, hC, ht]
                    have tn : t < n := by rw [NL.out, ← pe]; exact plcR_lt EV.out q1 xl yl (by omega)
                    have bs : (P : Int) + (A : Int) = (t : Int) := by
                      have : ((C * W : Nat) : Int) = (P : Int) := by rw [← hPP]; simp
                      omega
                    have P4 : P ≤ 10000 := by omega
                    obtain ⟨z, hz⟩ : ∃ z, g t = z := ⟨_, rfl⟩
                    have z1 : z ≤ 1 := by rw [← hz]; exact GF.out t
                    obtain ⟨ga, oa, ea, hga, hc⟩ := (GY.out V5 _ HX2.out).cells t (by simpa [← NL.out] using tn)
                    simp only [List.getElem_map, List.getElem_range, hz] at hc
                    subst ea
                    have NB := hide' (show B + 1 * z = sumR g W H q x y (0 + 1) by rw [sumR, ← HB.out, pe, hz])
                    have bl : B + 1 * z ≤ 15 := by have := sumR_lt GF.out W H q x y 0; rw [← HB.out] at this; omega
                    clear hA hC ht pe hz HB HM il
                    go_wp2
                    exact ⟨⟨0 + 1, B + 1 * z, 2, by go_num, by go_num, by go_num, by omega, by omega, by omega, NB, hide' rfl, HX2⟩, by simp [intOf]⟩
                  · obtain rfl : M = 2 := HM.out
                    obtain ⟨A, hA⟩ : ∃ A, (x + W - ex + 1) % W = A := ⟨_, rfl⟩
                    obtain ⟨C, hC⟩ : ∃ C, (y + H - ey + 0) % H = C := ⟨_, rfl⟩
                    have Al : A < W := by rw [← hA]; exact Nat.mod_lt _ (by omega)
                    have Cl : C < H := by rw [← hC]; exact Nat.mod_lt _ (by omega)
                    have e1 : ((x : Int) - (ex : Int) + 1 + (W : Int)).tmod (W : Int) = (A : Int) := by
                      rw [show (x : Int) - (ex : Int) + 1 + (W : Int) = ((x + W - ex + 1 : Nat) : Int) by push_cast; omega, Int.tmod_eq_emod_of_nonneg (by omega), ← hA, Int.natCast_emod]
                    have e2 : ((y : Int) - (ey : Int) + (H : Int)).tmod (H : Int) = (C : Int) := by
                      rw [show (y : Int) - (ey : Int) + (H : Int) = ((y + H - ey + 0 : Nat) : Int) by push_cast; omega, Int.tmod_eq_emod_of_nonneg (by omega), ← hC, Int.natCast_emod]
                    obtain ⟨P, hPP⟩ : ∃ P : Nat, (C : Int) * (W : Int) = (P : Int) := ⟨C * W, by simp⟩
                    obtain ⟨t, ht⟩ : ∃ t, C * W + A = t := ⟨_, rfl⟩
                    have pe : plcR W H q x y 1 = t := by unfold plcR; rw [EX.out, EY.out, hA, hC, ht]
                    have tn : t < n := by rw [NL.out, ← pe]; exact plcR_lt EV.out q1 xl yl (by omega)
                    have bs : (P : Int) + (A : Int) = (t : Int) := by
                      have : ((C * W : Nat) : Int) = (P : Int) := by rw [← hPP]; simp
                      omega
                    have P4 : P ≤ 10000 := by omega
                    obtain ⟨z, hz⟩ : ∃ z, g t = z := ⟨_, rfl⟩
                    have z1 : z ≤ 1 := by rw [← hz]; exact GF.out t
                    obtain ⟨ga, oa, ea, hga, hc⟩ := (GY.out V5 _ HX2.out).cells t (by simpa [← NL.out] using tn)
                    simp only [List.getElem_map, List.getElem_range, hz] at hc
                    subst ea
                    have NB := hide' (show B + 2 * z = sumR g W H q x y (1 + 1) by rw [sumR, ← HB.out, pe, hz])
                    have bl : B + 2 * z ≤ 15 := by have := sumR_lt GF.out W H q x y 1; rw [← HB.out] at this; omega
                    clear hA hC ht pe hz HB HM il
                    go_wp2
                    exact ⟨⟨1 + 1, B + 2 * z, 4, by go_num, by go_num, by go_num, by omega, by omega, by omega, NB, hide' rfl, HX2⟩, by simp [intOf]⟩
                  · obtain rfl : M = 4 := HM.out
                    obtain ⟨A, hA⟩ : ∃ A, (x + W - ex + 0) % W = A := ⟨_, rfl⟩
                    obtain ⟨C, hC⟩ : ∃ C, (y + H - ey + 1) % H = C := ⟨_, rfl⟩
                    have Al : A < W := by rw [← hA]; exact Nat.mod_lt _ (by omega)
                    have Cl : C < H := by rw [← hC]; exact Nat.mod_lt _ (by omega)
                    have e1 : ((x : Int) - (ex : Int) + (W : Int)).tmod (W : Int) = (A : Int) := by
                      rw [show (x : Int) - (ex : Int) + (W : Int) = ((x + W - ex + 0 : Nat) : Int) by push_cast; omega, Int.tmod_eq_emod_of_nonneg (by omega), ← hA, Int.natCast_emod]
                    have e2 : ((y : Int) - (ey : Int) + 1 + (H : Int)).tmod (H : Int) = (C : Int) := by
                      rw [show (y : Int) - (ey : Int) + 1 + (H : Int) = ((y + H - ey + 1 : Nat) : Int) by push_cast; omega, Int.tmod_eq_emod_of_nonneg (by omega), ← hC, Int.natCast_emod]
                    obtain ⟨P, hPP⟩ : ∃ P : Nat, (C : Int) * (W : Int) = (P : Int) := ⟨C * W, by simp⟩
                    obtain ⟨t, ht⟩ : ∃ t, C * W + A = t := ⟨_, rfl⟩
                    have pe : plcR W H q x y 2 = t := by unfold plcR; rw [EX.out, EY.out, hA, hC, ht]
                    have tn : t < n := by rw [NL.out, ← pe]; exact plcR_lt EV.out q1 xl yl (by omega)
                    have bs : (P : Int) + (A : Int) = (t : Int) := by
                      have : ((C * W : Nat) : Int) = (P : Int) := by rw [← hPP]; simp
                      omega
                    have P4 : P ≤ 10000 := by omega
                    obtain ⟨z, hz⟩ : ∃ z, g t = z := ⟨_, rfl⟩
                    have z1 : z ≤ 1 := by rw [← hz]; exact GF.out t
                    obtain ⟨ga, oa, ea, hga, hc⟩ := (GY.out V5 _ HX2.out).cells t (by simpa [← NL.out] using tn)
                    simp only [List.getElem_map, List.getElem_range, hz] at hc
                    subst ea
                    have NB := hide' (show B + 4 * z = sumR g W H q x y (2 + 1) by rw [sumR, ← HB.out, pe, hz])
                    have bl : B + 4 * z ≤ 15 := by have := sumR_lt GF.out W H q x y 2; rw [← HB.out] at this; omega
                    clear hA hC ht pe hz HB HM il
                    go_wp2
                    exact ⟨⟨2 + 1, B + 4 * z, 8, by go_num, by go_num, by go_num, by omega, by omega, by omega, NB, hide' rfl, HX2⟩, by simp [intOf]⟩
                  · obtain rfl : M = 8 := HM.out
                    obtain ⟨A, hA⟩ : ∃ A, (x + W - ex + 1) % W = A := ⟨_, rfl⟩
                    obtain ⟨C, hC⟩ : ∃ C, (y + H - ey + 1) % H = C := ⟨_, rfl⟩
                    have Al : A < W := by rw [← hA]; exact Nat.mod_lt _ (by omega)
                    have Cl : C < H := by rw [← hC]; exact Nat.mod_lt _ (by omega)
                    have e1 : ((x : Int) - (ex : Int) + 1 + (W : Int)).tmod (W : Int) = (A : Int) := by
                      rw [show (x : Int) - (ex : Int) + 1 + (W : Int) = ((x + W - ex + 1 : Nat) : Int) by push_cast; omega, Int.tmod_eq_emod_of_nonneg (by omega), ← hA, Int.natCast_emod]
                    have e2 : ((y : Int) - (ey : Int) + 1 + (H : Int)).tmod (H : Int) = (C : Int) := by
                      rw [show (y : Int) - (ey : Int) + 1 + (H : Int) = ((y + H - ey + 1 : Nat) : Int) by push_cast; omega, Int.tmod_eq_emod_of_nonneg (by omega), ← hC, Int.natCast_emod]
                    obtain ⟨P, hPP⟩ : ∃ P : Nat, (C : Int) * (W : Int) = (P : Int) := ⟨C * W, by simp⟩
                    obtain ⟨t, ht⟩ : ∃ t, C * W + A = t := ⟨_, rfl⟩
                    have pe : plcR W H q x y 3 = t := by unfold plcR; rw [EX.out, EY.out, hA, hC, ht]
                    have tn : t < n := by rw [NL.out, ← pe]; exact plcR_lt EV.out q1 xl yl (by omega)
                    have bs : (P : Int) + (A : Int) = (t : Int) := by
                      have : ((C * W : Nat) : Int) = (P : Int) := by rw [← hPP]; simp
                      omega
                    have P4 : P ≤ 10000 := by omega
                    obtain ⟨z, hz⟩ : ∃ z, g t = z := ⟨_, rfl⟩
                    have z1 : z ≤ 1 := by rw [← hz]; exact GF.out t
                    obtain ⟨ga, oa, ea, hga, hc⟩ := (GY.out V5 _ HX2.out).cells t (by simpa [← NL.out] using tn)
                    simp only [List.getElem_map, List.getElem_range, hz] at hc
                    subst ea
                    have NB := hide' (show B + 8 * z = sumR g W H q x y (3 + 1) by rw [sumR, ← HB.out, pe, hz])
                    have bl : B + 8 * z ≤ 15 := by have := sumR_lt GF.out W H q x y 3; rw [← HB.out] at this; omega
                    clear hA hC ht pe hz HB HM il
                    go_wp2
                    exact ⟨⟨3 + 1, B + 8 * z, 16, by go_num, by go_num, by go_num, by omega, by omega, by omega, NB, hide' rfl, HX2⟩, by simp [intOf]⟩
                · have i4 : i = 4 := by omega
                  have HB4 := hide' (show B = sumR g W H q x y 4 by rw [HB.out, i4])
                  have tc := GT.out V5 _ HX2.out B (by omega)
                  obtain ⟨T, hT⟩ : ∃ T, tv B = T := ⟨_, rfl⟩
                  have T15 : T ≤ 15 := by have := TL.out B (by omega); omega
                  rw [hT] at tc
                  have B0' : (0 : Int) ≤ (B : Int) := by omega
                  have B16 : (B : Int) < 16 := by omega
                  obtain ⟨K, hK⟩ : ∃ K, ey * 2 + ex = K := ⟨_, rfl⟩
                  have KI : (ey : Int) * 2 + (ex : Int) = (K : Int) := by omega
                  have K3 : K ≤ 3 := by omega
                  have NV := hide' (show newB tv W H q g (y * W + x) = T / 2 ^ K % 2 by rw [new_ref EV.out q1 xl yl, ← HB4.out, EX.out, EY.out, hT, hK])
                  have TH := hide' hT
                  clear i4 hK hT HB
                  go_wp2
                  clear tc b0 b1 b2 b3
                  go_loopw [21, 22] (fun vv kv wr => ∃ (j v : Nat), kv = .int .i64 (j : Int) ∧ vv = .int .i64 (v : Int) ∧ j ≤ K ∧ v ≤ 15 ∧ Hid (v = T / 2 ^ j) ∧ Hid (SP V2 wr w.heap.size (V1.heap.size + 1) n (prtB (newB tv W H q g) (y * W + x)))) (fun _ kv _ => ((K : Int) - intOf kv).toNat)
                  case atStart => exact ⟨0, T, by go_num, rfl, by omega, T15, hide' (by simp), HX2⟩
                  case round =>
                    obtain ⟨j, v, rfl, rfl, hj, hv, HV, HX3⟩ := hrel
                    obtain ⟨V6, rfl⟩ : ∃ V6, V6 = wr := ⟨_, rfl⟩
                    by_cases dj : (j : Int) < (K : Int)
                    · obtain ⟨u, hu⟩ : ∃ u, v / 2 = u := ⟨_, rfl⟩
                      have f1 : (v : Int) / 2 = (u : Int) := by omega
                      have NU := hide' (show u = T / 2 ^ (j + 1) by rw [← hu, HV.out, Nat.div_div_eq_div_mul, Nat.pow_succ])
                      have u15 : u ≤ 15 := by omega
                      clear hu
                      have W5 := hide' (wrap64_small u (by omega))
                      go_wp2
                      exact ⟨⟨j + 1, u, by go_num, by first | rfl | rw [W5.out], by omega, u15, NU, HX3⟩, by simp [intOf]; omega⟩
                    · have jK : j = K := by omega
                      obtain ⟨r, hr⟩ : ∃ r, v % 2 = r := ⟨_, rfl⟩
                      have f1 : (v : Int) % 2 = (r : Int) := by omega
                      have f2 : (v : Int).tmod 2 = (r : Int) := by rw [Int.tmod_eq_emod_of_nonneg (by omega)]; exact f1
                      have NR := hide' (show r = newB tv W H q g (y * W + x) by rw [NV.out, ← hr, HV.out, jK])
                      obtain ⟨P, hPP⟩ : ∃ P : Nat, (y : Int) * (W : Int) = (P : Int) := ⟨y * W, by simp⟩
                      obtain ⟨t, ht⟩ : ∃ t, y * W + x = t := ⟨_, rfl⟩
                      have tn : t < n := by
                        rw [NL.out, ← ht]
                        have := Nat.mul_le_mul_right W (show y + 1 ≤ H from yl)
                        rw [Nat.add_mul, Nat.mul_comm H W] at this
                        omega
                      have bs : (P : Int) + (x : Int) = (t : Int) := by
                        have : ((y * W : Nat) : Int) = (P : Int) := by rw [← hPP]; simp
                        omega
                      have P4 : P ≤ 10000 := by omega
                      have tn' : (t : Int) < (n : Int) := by omega
                      obtain ⟨b0, b1, b2, b3⟩ := GV.out V6 _ HX3.out
                      obtain ⟨cc, cf⟩ := HX3.out.ca.cell tn
                      have cl := HX3.out.ca.lt
                      have NS := hide' ((HX3.out.set (by omega) t r).ext (f' := prtB (newB tv W H q g) (y * W + (x + 1))) (fun kk _ => by
                        rw [← Nat.add_assoc, ht, ← prtB_next, NR.out, ht]))
                      have r1 : r ≤ 1 := by omega
                      clear hr jK ht NR
                      go_wp2
                      exact ⟨⟨x + 1, by go_num, by omega, NS⟩, by simp [intOf]; omega⟩
            · have xW : x = W := by omega
              have NY := hide' (show SP V2 V4 w.heap.size (V1.heap.size + 1) n (prtB (newB tv W H q g) ((y + 1) * W)) by
                have ee : (y + 1) * W = y * W + x := by rw [Nat.add_mul, Nat.one_mul, xW]
                rw [ee]; exact HX.out)
              clear xW
              go_wp2
              exact ⟨⟨y + 1, by go_num, by omega, NY⟩, by simp [intOf]; omega⟩
        · have yH : y = H := by omega
          have HE := hide' (show SP V2 V3 w.heap.size (V1.heap.size + 1) n (newB tv W H q g) by
            refine HY.out.ext (fun kk hkk => ?_)
            unfold prtB
            rw [if_pos (by rw [yH, Nat.mul_comm, ← NL.out]; exact hkk)])
          have e2 := (HE.out.keep (w.heap.size + 1 + 1) (by omega) (by omega)).trans HNW.out
          have e3 := (HE.out.keep V1.heap.size (by omega) (by omega)).trans N2H.out
          have c0 := cell_of_row V3 _ 0 _ _ _ e3
          have c1 := cell_of_row V3 _ 1 _ _ _ e3
          have c2 := cell_of_row V3 _ 2 _ _ _ e3
          have r0 := cell_of_row V3 _ 0 _ _ _ e2
          have r1 := cell_of_row V3 _ 1 _ _ _ e2
          have r2 := cell_of_row V3 _ 2 _ _ _ e2
          simp at c0 c1 c2 r0 r1 r2
          have f0 := frozen_of_row V3 _ 0 _ _ e2
          have f1 := frozen_of_row V3 _ 1 _ _ e2
          have f2 := frozen_of_row V3 _ 2 _ _ e2
          have l2 := lt_of_block e2
          have z3 := HE.out.size
          have NR := hide' (show RefSt w w3 (((V3.setCell ⟨w.heap.size + 1 + 1, 0, none⟩ (.int .i64 (W : Int))).setCell ⟨w.heap.size + 1 + 1, 1, none⟩ (.int .i64 (H : Int))).setCell ⟨w.heap.size + 1 + 1, 2, none⟩ (.slice (some ⟨V1.heap.size + 1, 0, none⟩) n n)) W H (runB tv W H ph f (s + 1)) (some ⟨V1.heap.size + 1, 0, none⟩) a0 n n from
            ⟨fun qq off h => by cases h; right; omega, fun j hj => by
              rw [Below.heap_setCell _ _ _ _ (by simp; omega), Below.heap_setCell _ _ _ _ (by simp; omega), Below.heap_setCell _ _ _ _ (by simp; omega)]
              exact ((HE.out.keep j (by omega) (by omega)).trans (KVH.out j (by omega))).trans (HR.out.keep j hj),
            setNow e2 rfl _ _ _,
            by
              rw [GN.out, ← NL.out]
              refine CA_arg (HE.out.ca.block ?_) (by unfold maxLen; omega)
              rw [Below.heap_setCell _ _ _ _ (by simp; omega), Below.heap_setCell _ _ _ _ (by simp; omega), Below.heap_setCell _ _ _ _ (by simp; omega)],
            fun _ qq off h => by cases h; right; omega,
            (((BVH.out.trans HE.out.below).setCell (by simp; omega) _).setCell (by simp; omega) _).setCell (by simp; omega) _,
            by rw [World.size_setCell, World.size_setCell, World.size_setCell]; omega⟩)
          clear yH e2 e3
          go_wp2
          exact ⟨⟨s + 1, some ⟨V1.heap.size + 1, 0, none⟩, n, by go_num, by omega, NR⟩, by simp [intOf]; omega⟩
    · have sk : s = k := by omega
      have HZ := HR.out
      rw [sk] at HZ
      have e2 := HZ.now
      have e1 := (HZ.keep (w.heap.size + 1) (by omega)).trans G1.out
      have c0 := cell_of_row V1 _ 0 _ _ _ e2
      have c1 := cell_of_row V1 _ 1 _ _ _ e2
      have c2 := cell_of_row V1 _ 2 _ _ _ e2
      have r0 := cell_of_row V1 _ 0 _ _ _ e1
      have r1 := cell_of_row V1 _ 1 _ _ _ e1
      have r2 := cell_of_row V1 _ 2 _ _ _ e1
      simp at c0 c1 c2 r0 r1 r2
      have f0 := frozen_of_row V1 _ 0 _ _ e1
      have f1 := frozen_of_row V1 _ 1 _ _ e1
      have f2 := frozen_of_row V1 _ 2 _ _ e1
      have l1 := lt_of_block e1
      have AZ := hide' HZ.arg
      have FZ := hide' HZ.far
      have OZ := hide' HZ.own
      have BZ := hide' HZ.below
      clear sk HZ e2 e1 p0
      go_wp2
      refine bodyPost_ret (v := .agg #[.int .i64 (W : Int), .int .i64 (H : Int), .slice a n c]) (by simp [results, Tryd.results25, go_sem, r0, r1, r2]) rfl ?_
      refine ⟨a, n, c, rfl, OZ.out, AZ.out.keepB (fun z qq off h => ?_), ((BZ.out.setCell (by simp) _).setCell (by simp) _).setCell (by simp) _⟩
      have := FZ.out (by simpa using z) qq off h
      rw [Below.heap_setCell _ _ _ _ (by simp; try omega), Below.heap_setCell _ _ _ _ (by simp; try omega), Below.heap_setCell _ _ _ _ (by simp; try omega)]
end Go.Proofs.YtfeddccbhmbkmaaDoor

