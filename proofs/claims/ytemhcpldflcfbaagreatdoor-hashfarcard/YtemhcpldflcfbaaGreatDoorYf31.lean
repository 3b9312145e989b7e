/-
  What the last text of this claim leans on, part 31: Hl1, Hm7.
-/
import Derived.Test.YtemhcpldflcfbaaGreatDoorYf30
import Derived.Test.YtemhcpldflcfbaaGreatDoorYf25
import Derived.Test.YtemhcpldflcfbaaGreatDoorYf21
import Derived.Test.YtemhcpldflcfbaaGreatDoorYf28
namespace Go.Proofs.YtemhcpldflcfbaaGreatDoor
set_option linter.unusedVariables false
theorem leap_val {born stay : Nat} (hb : born % 2 = 0) {qs : List Sq} {m t r : Nat} {F : Int → Int → Int} {fr fd : Int} {K : Nat} (h : MdF born stay K (valQ qs (m + 1) t) (valQ qs m r) (qrI m)) (hv : ∀ u v, valQ qs (m + 1) t (u - fr) (v - fd) = F u v) {l r' u' d' : Int} (hF : InBx F l r' u' d') (h1 : fr + qrI m + K ≤ l) (h2 : r' + K ≤ fr + 3 * qrI m) (h3 : fd + qrI m + K ≤ u') (h4 : d' + K ≤ fd + 3 * qrI m) (u v : Int) : valQ qs m r (u - (fr + qrI m)) (v - (fd + qrI m)) = stF born stay K F u v := by
 have s2 := qr_side m
 by_cases c : 0 ≤ u - (fr + qrI m) ∧ u - (fr + qrI m) < sideI m ∧ 0 ≤ v - (fd + qrI m) ∧ v - (fd + qrI m) < sideI m
 ·rw [h _ _ c.1 (by omega) c.2.2.1 (by omega)]
  have e : valQ qs (m + 1) t = fun x y => F (fr + x) (fd + y) := by
   funext x y
   rw [← hv]
   congr 1 <;> omega
  rw [e, stF_shift]
  show stF born stay K F _ _ = _
  congr 1 <;> omega
 ·rw [val_out _ _ _ _ c]
  exact (stF_box hb hF (by omega)).symm
theorem leap_geo {n m k : Nat} (h1 : n + 1 ≤ m) (h2 : k ≤ m + 1) : 2 * ((2 ^ k : Nat) : Int) ≤ qrI m ∧ sideI n ≤ qrI m ∧ sideI (m + 1) = 4 * qrI m ∧ sideI m = 2 * qrI m := by
 have a := qr_pow m
 have b : 2 ^ (k + 1) ≤ 2 ^ (m + 2) := Nat.pow_le_pow_right (by decide) (by omega)
 rw [Nat.pow_succ] at b
 have c := sideI_mono (a := n + 2) (b := m + 1) (by omega)
 have d := sideI_next (n + 1)
 have e := sideI_next n
 have f := qr_side m
 have g := sideI_next m
 have i : sideI (n + 2) = 2 * sideI (n + 1) := d
 refine ⟨?_, by omega, by omega, f⟩
 rw [← a]
 omega
open Go.RowKit
theorem walk_many {k : Nat} (hk : k ≤ 12) : 2 ^ k / (pfE k + psE k) * (pfE k + psE k) = 2 ^ k ∧ 2 ^ k / (pfE k + psE k) ≤ 1024 ∧ 2 ^ k ≤ 4096 ∧ (1 ≤ pfE k + psE k ∧ pfE k + psE k ≤ 4) ∧ pfE k ≤ 2 ∧ psE k ≤ 2 := by
 have : k = 0 ∨ k = 1 ∨ k = 2 ∨ k = 3 ∨ k = 4 ∨ k = 5 ∨ k = 6 ∨ k = 7 ∨ k = 8 ∨ k = 9 ∨ k = 10 ∨ k = 11 ∨ k = 12 := by omega
 rcases this with rfl | rfl | rfl | rfl | rfl | rfl | rfl | rfl | rfl | rfl | rfl | rfl | rfl <;> decide
theorem six_storedH {w : World} {g : Nat} {x0 x1 x2 x3 x4 x5 : Value} {t : TypeId} (h : w.heap[g]? = some (.cells #[x0, x1, x2, x3, x4, x5] t (0, 0))) (a b c d e f : Value) :
  ((((((w.setCell ⟨g, 0, none⟩ a).setCell ⟨g, 1, none⟩ b).setCell ⟨g, 2, none⟩ c).setCell ⟨g, 3, none⟩ d).setCell ⟨g, 4, none⟩ e).setCell ⟨g, 5, none⟩ f).heap[g]? = some (.cells #[a, b, c, d, e, f] t (0, 0)) := by
 have h0 : (w.setCell ⟨g, 0, none⟩ a).heap[g]? = some (.cells #[a, x1, x2, x3, x4, x5] t (0, 0)) := by rw [heap_setCell_same _ _ _ _ _ _ h]; rfl
 have h1 : ((w.setCell ⟨g, 0, none⟩ a).setCell ⟨g, 1, none⟩ b).heap[g]? = some (.cells #[a, b, x2, x3, x4, x5] t (0, 0)) := by rw [heap_setCell_same _ _ _ _ _ _ h0]; rfl
 have h2 : (((w.setCell ⟨g, 0, none⟩ a).setCell ⟨g, 1, none⟩ b).setCell ⟨g, 2, none⟩ c).heap[g]? = some (.cells #[a, b, c, x3, x4, x5] t (0, 0)) := by rw [heap_setCell_same _ _ _ _ _ _ h1]; rfl
 have h3 : ((((w.setCell ⟨g, 0, none⟩ a).setCell ⟨g, 1, none⟩ b).setCell ⟨g, 2, none⟩ c).setCell ⟨g, 3, none⟩ d).heap[g]? = some (.cells #[a, b, c, d, x4, x5] t (0, 0)) := by rw [heap_setCell_same _ _ _ _ _ _ h2]; rfl
 have h4 : (((((w.setCell ⟨g, 0, none⟩ a).setCell ⟨g, 1, none⟩ b).setCell ⟨g, 2, none⟩ c).setCell ⟨g, 3, none⟩ d).setCell ⟨g, 4, none⟩ e).heap[g]? = some (.cells #[a, b, c, d, e, x5] t (0, 0)) := by rw [heap_setCell_same _ _ _ _ _ _ h3]; rfl
 rw [heap_setCell_same _ _ _ _ _ _ h4]; rfl
theorem six_elseH {w : World} {g k : Nat} (hk : k ≠ g) (x0 x1 x2 x3 x4 x5 : Value) : ((((((w.setCell ⟨g, 0, none⟩ x0).setCell ⟨g, 1, none⟩ x1).setCell ⟨g, 2, none⟩ x2).setCell ⟨g, 3, none⟩ x3).setCell ⟨g, 4, none⟩ x4).setCell ⟨g, 5, none⟩ x5).heap[k]? = w.heap[k]? := by
 rw [Below.heap_setCell _ _ _ _ (by simpa using hk)]
 exact five_else hk _ _ _ _ _
theorem six_belowH {B : Nat} {a w : World} (h : Below B a w) {g : Nat} (hg : B ≤ g) (x0 x1 x2 x3 x4 x5 : Value) : Below B a ((((((w.setCell ⟨g, 0, none⟩ x0).setCell ⟨g, 1, none⟩ x1).setCell ⟨g, 2, none⟩ x2).setCell ⟨g, 3, none⟩ x3).setCell ⟨g, 4, none⟩ x4).setCell ⟨g, 5, none⟩ x5) :=
 (five_belowH h hg _ _ _ _ _).setCell hg _
structure WlI (w wr : World) (B sb0 g0 fb pb s u : Nat) (M : Int) (F : Int → Int → Int) (t L : Nat) (fr fd : Int) (n sb g cap : Nat) (qs : List Sq) : Prop where
 box : wr.heap[fb]? = some (.cells #[.pointer (some ⟨sb, 0, none⟩), .int .i32 (t : Int), .int .i64 (L : Int), .int .i64 fr, .int .i64 fd] 72 (0, 0))
 res : wr.heap[fb + 1]? = some (.cells #[.pointer none, .int .i32 0, .int .i64 0, .int .i64 0, .int .i64 0] 72 (0, 0))
 pac : wr.heap[pb]? = some (.cells #[.int .i64 (s : Int), .int .i64 (u : Int)] 125 (0, 0))
 fld : FldA wr B sb t L fr fd M F n g cap qs
 tgt : TgtF n F
 len : qs.length ≤ 1500000
 nsb : sb = sb0 ∨ w.heap.size ≤ sb
 ng : g = g0 ∨ w.heap.size ≤ g
 kpf : KpF sb0 g0 w wr
def WlP (B sb0 g0 : Nat) (M : Int) (F : Int → Int → Int) (w : World) (e : Ending) (w' : World) : Prop :=
 ∃ sb t L fr fd n g cap qs, e = .returned (.tuple #[.agg #[.pointer (some ⟨sb, 0, none⟩), .int .i32 ((t : Nat) : Int), .int .i64 ((L : Nat) : Int), .int .i64 fr, .int .i64 fd], .bool true]) ∧ FldA w' B sb t L fr fd M F n g cap qs ∧ TgtF n F ∧ qs.length ≤ 1500000 ∧ KpF sb0 g0 w w' ∧ (sb = sb0 ∨ w.heap.size ≤ sb) ∧ (g = g0 ∨ w.heap.size ≤ g)
theorem KpF.trans {sb g : Nat} {V V' V'' : World} (h : KpF sb g V V') {sb' g' : Nat} (k : KpF sb' g' V' V'') (h1 : sb' = sb ∨ V.heap.size ≤ sb') (h2 : g' = g ∨ V.heap.size ≤ g') : KpF sb g V V'' :=
 ⟨k.os.trans h.os, k.tape.trans h.tape, k.output.trans h.output, Nat.le_trans h.size k.size, fun i hi a b c => (k.keep i (Nat.lt_of_lt_of_le hi h.size) (by omega) (by omega)).trans (h.keep i hi a b)⟩
theorem KpF.setF {sb g : Nat} {V V' : World} (h : KpF sb g V V') {q i : Nat} (hq : V.heap.size ≤ q) (v : Value) : KpF sb g V (V'.setCell ⟨q, i, none⟩ v) :=
 ⟨h.os, h.tape, h.output, by rw [World.size_setCell]; exact h.size, fun k hk a b c => (Below.heap_setCell _ _ _ _ (by intro e; simp at e; omega)).trans (h.keepM k hk a b c)⟩
set_option maxRecDepth 100000 in
set_option maxHeartbeats 12800000 in
theorem walk_any {born stay : Nat} (hb : born % 2 = 0) {T : Nat → Nat} (hT : TbE born stay T) (hT0 : T 0 = 0) (B sb t L : Nat) (fr fd M : Int) (F : Int → Int → Int) (n g cap : Nat) (qs : List Sq) (tb k most : Nat) (l r v d : Int) (w : World) (h : FldA w B sb t L fr fd M F n g cap qs) (hg : TgtF n F) (hq : qs.length ≤ 1500000) (ht : TtA w tb T) (htb : tb < w.heap.size ∧ tb ≠ sb ∧ tb ≠ g) (hk : k ≤ 12) (hmo : 1900000 ≤ most) (hF : InBx F l r v d) (hlr : l ≤ r ∧ v ≤ d) (hW : r - l + 8192 ≤ 8300 ∧ d - v + 8192 ≤ 8300) (hM : 16 ≤ M ∧ M ≤ 72057594037927936) (hB : B ≤ w.heap.size) :
  Calls Tryz.prog 31 #[.agg #[.pointer (some ⟨sb, 0, none⟩), .int .i32 (t : Int), .int .i64 (L : Int), .int .i64 fr, .int .i64 fd], .pointer (some ⟨tb, 0, none⟩), .int .i64 (k : Int), .int .i64 (most : Int)] w (WlP B sb g (M + 67108864) (stF born stay (2 ^ k) F) w) := by
 obtain ⟨w2, hw2⟩ : ∃ w2, (w.alloc (.cells #[.pointer (some ⟨sb, 0, none⟩), .int .i32 (t : Int), .int .i64 (L : Int), .int .i64 fr, .int .i64 fd] 72)).alloc (.cells #[.pointer none, .int .i32 0, .int .i64 0, .int .i64 0, .int .i64 0] 72) = w2 := ⟨_, rfl⟩
 obtain ⟨fb, hfbb⟩ : ∃ fb, w.heap.size = fb := ⟨_, rfl⟩
 have HW2 := hide' hw2
 have HFB := hide' hfbb
 have B2 := hide' (show Below w.heap.size w w2 by rw [← hw2]; exact ((Below.refl _ _).alloc (Nat.le_refl _) _).alloc (by simp) _)
 have F2 := hide' (show w2.heap[fb]? = some (.cells #[.pointer (some ⟨sb, 0, none⟩), .int .i32 (t : Int), .int .i64 (L : Int), .int .i64 fr, .int .i64 fd] 72 (0, 0)) by rw [← hw2, ← hfbb]; exact (heap_alloc_old _ _ (by simp)).trans (heap_alloc_new w _))
 have R2 := hide' (show w2.heap[fb + 1]? = some (.cells #[.pointer none, .int .i32 0, .int .i64 0, .int .i64 0, .int .i64 0] 72 (0, 0)) by rw [← hw2]; exact heap_atX _ _ _ (by simp [hfbb]))
 have Z2 := hide' (show w2.heap.size = fb + 2 by rw [← hw2]; simp [hfbb])
 obtain ⟨ps, hps⟩ : ∃ x, pfE k = x := ⟨_, rfl⟩
 obtain ⟨pu, hpu⟩ : ∃ x, psE k = x := ⟨_, rfl⟩
 have PC := hide' (paceOf_any k w2 (by omega))
 rw [hps, hpu] at PC
 obtain ⟨K, hK⟩ : ∃ x, 2 ^ k = x := ⟨_, rfl⟩
 rw [hK]
 have e1 : IntKind.i64.wrap (2 ^ k) = (K : Int) := by
  have : (2 : Int) ^ k = (K : Int) := by rw [← hK]; push_cast; rfl
  rw [this]
  have := (walk_many hk).2.2.1
  simp [IntKind.wrap, IntKind.bits, IntKind.signed]; omega
 obtain ⟨pc, hpc⟩ : ∃ x, ps + pu = x := ⟨_, rfl⟩
 have e2 : (ps : Int) + (pu : Int) = (pc : Int) := by omega
 have WM := walk_many hk
 rw [hps, hpu, hpc, hK] at WM
 obtain ⟨N, hN⟩ : ∃ x, K / pc = x := ⟨_, rfl⟩
 rw [hN] at WM
 have e3 : ((pc : Int) == 0) = false := by simp; omega
 have e3' : ¬ ((pc : Int) = 0) := by omega
 have e4 : (K : Int) / (pc : Int) = (N : Int) := by rw [← hN]; exact (Int.natCast_ediv K pc).symm
 have e5 : (K : Int).tdiv (pc : Int) = (N : Int) := by rw [Int.tdiv_eq_ediv_of_nonneg (by omega)]; exact e4
 have e6 : IntKind.i64.wrap ((K : Int).tdiv (pc : Int)) = (N : Int) := by
  rw [e5]
  simp [IntKind.wrap, IntKind.bits, IntKind.signed]; omega
 have k12 : k < 64 := by omega
 have b1 : ps ≤ 2 := by omega
 have b2 : pu ≤ 2 := by omega
 have b3 : pc ≤ 4 := by omega
 have b4 : K ≤ 4096 := by omega
 have b5 : N ≤ 1024 := by omega
 have e7 : wrap64 (2 ^ k) = (K : Int) := by
  have : (2 : Int) ^ k = (K : Int) := by rw [← hK]; push_cast; rfl
  rw [this]; unfold wrap64; omega
 have HPC := hide' (And.intro hpc (And.intro WM.1 WM.2.2.2.1))
 have HH := hide' (And.intro h (And.intro hg (And.intro hq (And.intro ht (And.intro htb hmo)))))
 have HBX := hide' (And.intro hF (And.intro hlr (And.intro hW (And.intro hM hB))))
 clear h hg hq ht htb hmo hF hlr hW hM hB hw2 hfbb hps hpu hK hpc hN WM hk
 go_enter Tryz.func31, Tryz.ntmps31
 go_upto_region 1 with fail
 rw [HW2.out, HFB.out]
 go_wp2_with fail
 refine PC.out.mono ?_
 rintro o w3 ⟨rfl, b3'⟩
 have B3 := hide' b3'
 clear b3'
 go_upto_region 2 with fail
 obtain ⟨pb, hpb⟩ : ∃ pb, w3.heap.size = pb := ⟨_, rfl⟩
 obtain ⟨w4, hw4⟩ : ∃ x, w3.alloc (.cells #[.int .i64 (ps : Int), .int .i64 (pu : Int)] 125) = x := ⟨_, rfl⟩
 rw [hw4, hpb]
 have B4 := hide' (show Below w.heap.size w w4.drew by rw [← hw4]; exact ((B2.out.trans (B3.out.mono B2.out.size)).alloc (Nat.le_trans B2.out.size B3.out.size) _).drew)
 have P4 := hide' (show w4.heap[pb]? = some (.cells #[.int .i64 (ps : Int), .int .i64 (pu : Int)] 125 (0, 0)) by rw [← hw4, ← hpb]; exact heap_alloc_new _ _)
 have I4 := hide' (show WlI w w4.drew B sb g fb pb ps pu (M + ((0 : Nat) : Int) * 65536) (stF born stay (0 * pc) F) t L fr fd n sb g cap qs from by
  have o : ∀ q, q < w2.heap.size → w4.drew.heap[q]? = w2.heap[q]? := fun q hq => by
   show w4.heap[q]? = _
   rw [← hw4]
   exact (heap_alloc_old _ _ (Nat.lt_of_lt_of_le hq B3.out.size)).trans (B3.out.block q hq)
  have z := Z2.out
  have f := HH.out.1
  rw [Nat.zero_mul, stF_zero]
  refine ⟨(o fb (by omega)).trans F2.out, (o (fb + 1) (by omega)).trans R2.out, P4.out, ⟨f.stk.below B4.out, f.wf, f.lev, f.one, f.hi, ?_, ?_, ?_, ?_, f.val⟩, HH.out.2.1, HH.out.2.2.1, Or.inl rfl, Or.inl rfl, KpF.of_below B4.out⟩
  ·have := f.r1; simp; omega
  ·have := f.r2; simp; omega
  ·have := f.d1; simp; omega
  ·have := f.d2; simp; omega)
 have p0 := cell_of_row w4 pb 0 _ _ _ P4.out
 have p1 := cell_of_row w4 pb 1 _ _ _ P4.out
 simp at p0 p1
 have HPB := hide' (show fb + 2 ≤ pb by rw [← hpb]; have := B3.out.size; have := Z2.out; omega)
 clear hpb hw4
 go_region
 go_wp2
 clear p0 p1 e1 e2 e3 e3' e4 e5 e6 e7 k12
 go_loopw [22] (fun iv wr => ∃ (j t L : Nat) (fr fd : Int) (n sb' g' cap : Nat) (qs : List Sq), iv = .int .i64 (j : Int) ∧ j ≤ N ∧ Hid (WlI w wr B sb g fb pb ps pu (M + (j : Int) * 65536) (stF born stay (j * pc) F) t L fr fd n sb' g' cap qs)) (fun iv _ => N - (intOf iv).toNat)
 case atStart => exact ⟨0, t, L, fr, fd, n, sb, g, cap, qs, rfl, by omega, I4⟩
 case round =>
  obtain ⟨j, t', L', fr', fd', n', sb', g', cap', qs', rfl, hj, HI⟩ := hrel
  by_cases di : j < N
  ·have d1 : (j : Int) < (N : Int) := by omega
   obtain ⟨Fj, hFj⟩ : ∃ x, stF born stay (j * pc) F = x := ⟨_, rfl⟩
   have FN := hide' (show stF born stay ((j + 1) * pc) F = stF born stay pc Fj by rw [← hFj, Nat.succ_mul, stF_add])
   obtain ⟨Mj, hMj⟩ : ∃ x, M + (j : Int) * 65536 = x := ⟨_, rfl⟩
   have MN := hide' (show M + ((j + 1 : Nat) : Int) * 65536 = Mj + 65536 ∧ 16 ≤ Mj ∧ Mj ≤ 72057594108 * 1000000 by rw [← hMj]; have := HBX.out.2.2.2.1; push_cast; omega)
   obtain ⟨lj, hlj⟩ : ∃ x, l - ((j * pc : Nat) : Int) = x := ⟨_, rfl⟩
   obtain ⟨rj, hrj⟩ : ∃ x, r + ((j * pc : Nat) : Int) = x := ⟨_, rfl⟩
   obtain ⟨vj, hvj⟩ : ∃ x, v - ((j * pc : Nat) : Int) = x := ⟨_, rfl⟩
   obtain ⟨dj, hdj⟩ : ∃ x, d + ((j * pc : Nat) : Int) = x := ⟨_, rfl⟩
   have BJ := hide' (show InBx Fj lj rj vj dj ∧ (lj ≤ rj ∧ vj ≤ dj) ∧ (rj - lj ≤ 8300 ∧ dj - vj ≤ 8300) from by
    refine ⟨?_, ?_⟩
    ·rw [← hFj, ← hlj, ← hrj, ← hvj, ← hdj]
     exact HBX.out.1.go hb (j * pc)
    ·have q : j * pc ≤ N * pc := Nat.mul_le_mul_right _ hj
     rw [HPC.out.2.1] at q
     have := HBX.out.2.1
     have := HBX.out.2.2.1
     omega)
   rw [hFj, hMj] at HI
   clear hlj hrj hvj hdj hFj hMj
   obtain ⟨m, rfl⟩ : ∃ m, n' = m + 1 := ⟨n' - 1, by have := HI.out.fld.one; omega⟩
   have NB := hide' (show m + 1 ≤ 12 from HI.out.tgt.low BJ.out.1 BJ.out.2.2.1 BJ.out.2.2.2)
   have s11 : sideI m ≤ 16384 := by
    have := sideI_mono (a := m) (b := 11) (by have := NB.out; omega)
    rw [show sideI 11 = 16384 by decide] at this
    exact this
   obtain ⟨L1, hL1⟩ : ∃ L1, m + 5 = L1 := ⟨_, rfl⟩
   obtain ⟨fr2, hfr2⟩ : ∃ z, fr' - sideI m = z := ⟨_, rfl⟩
   obtain ⟨fd2, hfd2⟩ : ∃ z, fd' - sideI m = z := ⟨_, rfl⟩
   have sp := sideI_pos m
   have sn1 := sideI_next m
   have sn2 : sideI (m + 2) = 2 * sideI (m + 1) := sideI_next (m + 1)
   have FL := hide' HI.out.fld
   have PAD := hide' (padded_any none B sb' t' L' fr' fd' Fj m g' cap' qs' wr FL.out.stk FL.out.wf (by have := FL.out.lev; omega) (by have := NB.out; omega) FL.out.val (by have := FL.out.r1; have := FL.out.r2; have := MN.out; omega) (by have := FL.out.d1; have := FL.out.d2; have := MN.out; omega) (Nat.le_trans HBX.out.2.2.2.2 HI.out.kpf.size) (by have := HI.out.len; omega) L1 hL1.symm fr2 fd2 hfr2.symm hfd2.symm)
   have GEO := hide' (show (L1 = m + 2 + 3) ∧ (-(Mj + 65536) ≤ fr2 ∧ fr2 + sideI (m + 2) ≤ Mj + 65536) ∧ (-(Mj + 65536) ≤ fd2 ∧ fd2 + sideI (m + 2) ≤ Mj + 65536) ∧ (∀ x y, ¬ (fr2 + 4 ≤ x ∧ x < fr2 + sideI (m + 2) - 4 ∧ fd2 + 4 ≤ y ∧ y < fd2 + sideI (m + 2) - 4) → Fj x y = 0) from by
    have := FL.out.r1
    have := FL.out.r2
    have := FL.out.d1
    have := FL.out.d2
    refine ⟨by omega, by omega, by omega, fun x y q => ?_⟩
    rw [← FL.out.val]
    exact val_out _ _ _ _ (by omega))
   clear hL1 hfr2 hfd2 sp sn1 sn2 s11
   have c0 := cell_of_row wr fb 0 _ _ _ HI.out.box
   have c1 := cell_of_row wr fb 1 _ _ _ HI.out.box
   have c2 := cell_of_row wr fb 2 _ _ _ HI.out.box
   have c3 := cell_of_row wr fb 3 _ _ _ HI.out.box
   have c4 := cell_of_row wr fb 4 _ _ _ HI.out.box
   simp at c0 c1 c2 c3 c4
   have n1 := FL.out.stk.ne_four HI.out.box (by decide) (by decide)
   have n2 := FL.out.stk.ne_four HI.out.res (by decide) (by decide)
   have n3 := FL.out.stk.ne_four HI.out.pac (by decide) (by decide)
   have NF := hide' (And.intro n1 (And.intro n2 n3))
   clear n1 n2 n3
   go_wp2_with fail
   refine PAD.out.mono ?_
   rintro o w6 ⟨t2, g2, cap2, qs2, rfl, s1, s2, s3, s4, s5⟩
   have S6 := hide' (And.intro s1 (And.intro s2 (And.intro s3 (And.intro s4 s5))))
   have X6 := hide' ((s5.keep fb (lt_of_block HI.out.box) NF.out.1.1 NF.out.1.2).trans HI.out.box)
   have z0 := cell_of_row w6 fb 0 _ _ _ X6.out
   have z1 := cell_of_row w6 fb 1 _ _ _ X6.out
   have z2 := cell_of_row w6 fb 2 _ _ _ X6.out
   have z3 := cell_of_row w6 fb 3 _ _ _ X6.out
   have z4 := cell_of_row w6 fb 4 _ _ _ X6.out
   have y0 := frozen_of_row w6 fb 0 _ _ X6.out
   have y1 := frozen_of_row w6 fb 1 _ _ X6.out
   have y2 := frozen_of_row w6 fb 2 _ _ X6.out
   have y3 := frozen_of_row w6 fb 3 _ _ X6.out
   have y4 := frozen_of_row w6 fb 4 _ _ X6.out
   simp at z0 z1 z2 z3 z4
   obtain ⟨X, hX⟩ : ∃ X, ((((w6.setCell ⟨fb, 0, none⟩ (.pointer (some ⟨sb', 0, none⟩))).setCell ⟨fb, 1, none⟩ (.int .i32 (t2 : Int))).setCell ⟨fb, 2, none⟩ (.int .i64 (L1 : Int))).setCell ⟨fb, 3, none⟩ (.int .i64 fr2)).setCell ⟨fb, 4, none⟩ (.int .i64 fd2) = X := ⟨_, rfl⟩
   have HX := hide' hX
   have q1 := s1.ne_four X6.out (by decide) (by decide)
   have XB := hide' (show X.heap[fb]? = some (.cells #[.pointer (some ⟨sb', 0, none⟩), .int .i32 (t2 : Int), .int .i64 (L1 : Int), .int .i64 fr2, .int .i64 fd2] 72 (0, 0)) by rw [← hX]; exact five_stored X6.out _ _ _ _ _)
   have XP := hide' (show X.heap[pb]? = some (.cells #[.int .i64 (ps : Int), .int .i64 (pu : Int)] 125 (0, 0)) by rw [← hX]; exact (five_else (by have := HPB.out; omega) _ _ _ _ _).trans ((s5.keep pb (lt_of_block HI.out.pac) NF.out.2.2.1 NF.out.2.2.2).trans HI.out.pac))
   have XR := hide' (show X.heap[fb + 1]? = some (.cells #[.pointer none, .int .i32 0, .int .i64 0, .int .i64 0, .int .i64 0] 72 (0, 0)) by rw [← hX]; exact (five_else (by omega) _ _ _ _ _).trans ((s5.keep (fb + 1) (lt_of_block HI.out.res) NF.out.2.1.1 NF.out.2.1.2).trans HI.out.res))
   have XS := hide' (show StkA X sb' B g2 cap2 qs2 by rw [← hX]; exact s1.keep (five_else (fun e => q1.1 e.symm) _ _ _ _ _) (five_else (fun e => q1.2 e.symm) _ _ _ _ _))
   have XK := hide' (show KpF sb g w X from by
    have k6 : KpF sb g w w6 := HI.out.kpf.trans (KpF.of_kps s5) HI.out.nsb HI.out.ng
    have qf : w.heap.size ≤ fb := by have := HFB.out; omega
    rw [← hX]
    exact ((((k6.setF qf _).setF qf _).setF qf _).setF qf _).setF qf _)
   have XG := hide' (show (g2 = g ∨ w.heap.size ≤ g2) by have := HI.out.ng; have := s5.new; have := HI.out.kpf.size; omega)
   clear s1 s2 s3 s4 s5 q1 c0 c1 c2 c3 c4 hX
   go_upto_region 5 with fail
   rw [HX.out]
   clear z0 z1 z2 z3 z4 y0 y1 y2 y3 y4
   have c0 := cell_of_row X fb 0 _ _ _ XB.out
   have r0 := cell_of_row X pb 0 _ _ _ XP.out
   have r1 := cell_of_row X pb 1 _ _ _ XP.out
   simp at c0 r0 r1
   have CS := hide' (And.intro c0 (And.intro r0 r1))
   have ck := fun (V : World) (b : Below X.heap.size X V) => And.intro ((World.cell?_of_block (a := ⟨fb, 0, none⟩) (b.block fb (lt_of_block XB.out))).trans c0) (And.intro ((World.cell?_of_block (a := ⟨pb, 0, none⟩) (b.block pb (lt_of_block XP.out))).trans r0) ((World.cell?_of_block (a := ⟨pb, 1, none⟩) (b.block pb (lt_of_block XP.out))).trans r1))
   have CK := hide' ck
   have BA := hide' (show Below X.heap.size X (X.alloc (.cells #[.pointer none, .pointer none, .pointer none, .int .i64 0, .int .i64 0, .int .i64 0] 132)).drew from ((Below.refl _ _).alloc (Nat.le_refl _) _).drew)
   have BD := hide' (show Below X.heap.size X X.drew from (Below.refl _ _).drew)
   clear ck
   clear c0 r0 r1
   refine cut3P (P := fun wb ts V => Hid ((∃ gt, StkA V ts X.heap.size gt 1 [zQ]) ∧ WkA V wb sb' ts tb ps pu most ∧ Below X.heap.size X V ∧ X.heap.size ≤ wb)) (Φ := ?PH) (fun CUT => ?mn) ?rs
   case mn =>
    go_region_held3 (fun V => V.cell? ⟨fb, 0, none⟩ = some (.pointer (some ⟨sb', 0, none⟩)) ∧ V.cell? ⟨pb, 0, none⟩ = some (.int .i64 (ps : Int)) ∧ V.cell? ⟨pb, 1, none⟩ = some (.int .i64 (pu : Int))) (first | with_reducible exact CK.out _ BN.out | with_reducible exact CS.out | with_reducible exact CK.out _ BD.out | with_reducible exact CK.out _ BA.out | with_reducible exact CK.out _ (BN.out.alloc BN.out.size _) | with_reducible exact CK.out _ (six_belowH BN.out (Nat.le_refl _) _ _ _ _ _ _) | go_keep) (first
     | (go_at_call 48; refine (newStock_any X.drew).mono ?_; rintro o w7 ⟨ts, gt, rfl, s7, b7⟩; have BN := hide' (show Below X.heap.size X w7 from (Below.refl _ _).drew.trans b7); have SN := hide' (show StkA w7 ts X.heap.size gt 1 [zQ] from s7); clear s7 b7)
     | (go_at_call 48; refine (newStock_any (X.alloc (.cells #[.pointer none, .pointer none, .pointer none, .int .i64 0, .int .i64 0, .int .i64 0] 132)).drew).mono ?_; rintro o w7 ⟨ts, gt, rfl, s7, b7⟩; have BN := hide' (show Below X.heap.size X w7 from ((Below.refl _ _).alloc (Nat.le_refl _) _).drew.trans (b7.mono (by show X.heap.size ≤ (X.alloc _).heap.size; simp))); have SN := hide' (show StkA w7 ts X.heap.size gt 1 [zQ] from s7.weakB (by show X.heap.size ≤ (X.alloc _).heap.size; simp)); have WZ := hide' (show w7.heap[X.heap.size]? = some (.cells #[.pointer none, .pointer none, .pointer none, .int .i64 0, .int .i64 0, .int .i64 0] 132 (0, 0)) from (b7.block X.heap.size (by show X.heap.size < (X.alloc _).heap.size; simp)).trans (heap_alloc_new X _)); have x0 := cell_of_row w7 X.heap.size 0 _ _ _ WZ.out; have x1 := cell_of_row w7 X.heap.size 1 _ _ _ WZ.out; have x2 := cell_of_row w7 X.heap.size 2 _ _ _ WZ.out; have x3 := cell_of_row w7 X.heap.size 3 _ _ _ WZ.out; have x4 := cell_of_row w7 X.heap.size 4 _ _ _ WZ.out; have x5 := cell_of_row w7 X.heap.size 5 _ _ _ WZ.out; have v0 := frozen_of_row w7 X.heap.size 0 _ _ WZ.out; have v1 := frozen_of_row w7 X.heap.size 1 _ _ WZ.out; have v2 := frozen_of_row w7 X.heap.size 2 _ _ WZ.out; have v3 := frozen_of_row w7 X.heap.size 3 _ _ WZ.out; have v4 := frozen_of_row w7 X.heap.size 4 _ _ WZ.out; have v5 := frozen_of_row w7 X.heap.size 5 _ _ WZ.out; simp at x0 x1 x2 x3 x4 x5; clear s7 b7)
     | fail)
    ·obtain ⟨V, hV⟩ : ∃ V, w7.alloc (.cells #[.pointer (some ⟨sb', 0, none⟩), .pointer (some ⟨ts, 0, none⟩), .pointer (some ⟨tb, 0, none⟩), .int .i64 (ps : Int), .int .i64 (pu : Int), .int .i64 (most : Int)] 132) = V := ⟨_, rfl⟩
     rw [hV]
     obtain ⟨wb, hwb⟩ : ∃ q, w7.heap.size = q := ⟨_, rfl⟩
     rw [hwb]
     have T8 := hide' (show (∃ gt, StkA V ts X.heap.size gt 1 [zQ]) ∧ WkA V wb sb' ts tb ps pu most ∧ Below X.heap.size X V ∧ X.heap.size ≤ wb from by
      rw [← hV, ← hwb]
      exact ⟨⟨gt, SN.out.alloc _⟩, heap_alloc_new _ _, BN.out.alloc BN.out.size _, BN.out.size⟩)
     exact CUT _ _ _ T8
    ·have q := SN.out.ne_four WZ.out (by decide) (by decide)
     obtain ⟨wb, hwb⟩ : ∃ q, X.heap.size = q := ⟨_, rfl⟩
     rw [hwb]
     obtain ⟨V, hV⟩ : ∃ V, ((((((w7.setCell ⟨wb, 0, none⟩ (.pointer (some ⟨sb', 0, none⟩))).setCell ⟨wb, 1, none⟩ (.pointer (some ⟨ts, 0, none⟩))).setCell ⟨wb, 2, none⟩ (.pointer (some ⟨tb, 0, none⟩))).setCell ⟨wb, 3, none⟩ (.int .i64 (ps : Int))).setCell ⟨wb, 4, none⟩ (.int .i64 (pu : Int))).setCell ⟨wb, 5, none⟩ (.int .i64 (most : Int))) = V := ⟨_, rfl⟩
     rw [hV]
     have T8 := hide' (show (∃ gt, StkA V ts X.heap.size gt 1 [zQ]) ∧ WkA V wb sb' ts tb ps pu most ∧ Below X.heap.size X V ∧ X.heap.size ≤ wb from by
      rw [← hV, ← hwb]
      exact ⟨⟨gt, SN.out.keep (six_elseH (fun e => q.1 e.symm) _ _ _ _ _ _) (six_elseH (fun e => q.2 e.symm) _ _ _ _ _ _)⟩, six_storedH WZ.out _ _ _ _ _ _, six_belowH BN.out (Nat.le_refl _) _ _ _ _ _ _, Nat.le_refl _⟩)
     exact CUT _ _ _ T8
   case rs =>
    intro wb ts V T9
    obtain ⟨⟨gt, s8⟩, wk8, b8, hwb⟩ := T9.out
    have S8 := hide' s8
    have K8 := hide' wk8
    have B8 := hide' b8
    have VB := hide' ((b8.block fb (lt_of_block XB.out)).trans XB.out)
    have TL := hide' (show sb' < X.heap.size ∧ g2 < X.heap.size ∧ tb < X.heap.size from ⟨XS.out.lt.1, XS.out.lt.2, Nat.lt_of_lt_of_le HH.out.2.2.2.2.1.1 XK.out.size⟩)
    have TT := hide' (show TtA V tb T from ⟨fun c hc => (World.cell?_of_block (a := ⟨tb, c, none⟩) ((B8.out.block tb TL.out.2.2).trans (XK.out.keep tb HH.out.2.2.2.2.1.1 HH.out.2.2.2.2.1.2.1 HH.out.2.2.2.2.1.2.2))).trans (HH.out.2.2.2.1.cell c hc), HH.out.2.2.2.1.low⟩)
    have SF := hide' (sum_few (l := lj) (r := rj) (u := vj) (d := dj) BJ.out.2.1.1 BJ.out.2.1.2 BJ.out.2.2.1 BJ.out.2.2.2 (n := m + 2) (by have := NB.out; omega) (fr2 - sideI (m + 2)) (fd2 - sideI (m + 2)))
    have N9' := hide' (mid_nine XS.out.st S6.out.2.2.1)
    have AH := hide' (show Calls Tryz.prog 61 #[.pointer (some ⟨wb, 0, none⟩), .agg #[.int .i32 0, .int .i32 0, .int .i32 0, .int .i32 0, .int .i32 (t2 : Int), .int .i32 0, .int .i32 0, .int .i32 0, .int .i32 0], .int .i64 (L1 : Int)] V (WaP ts X.heap.size gt qs2 T ps pu (m + 2) (midN t2) [zQ] V) from wahead_any (m + 2) (by have := NB.out; omega) none V L1 wb sb' B g2 cap2 ts X.heap.size gt 1 tb ps pu most qs2 [zQ] T (midN t2) Fj (fr2 - sideI (m + 2)) (fd2 - sideI (m + 2)) lj rj vj dj GEO.out.1 ⟨XS.out.below B8.out, S8.out, K8.out, TT.out, hT0, b1, b2, TL.out, fun k e => absurd e id, B8.out.size⟩ (mid_wf S6.out.2.1) N9'.out BJ.out.1 (by have := SF.out; simp; omega) HH.out.2.2.2.2.2)
    have c1 := cell_of_row V fb 1 _ _ _ VB.out
    have c2 := cell_of_row V fb 2 _ _ _ VB.out
    simp at c1 c2
    clear s8 wk8 b8 T9
    go_wp2_with fail
    refine AH.out.mono ?_
    rintro o w9 ⟨gt', ct', ms', t3, rfl, s9, hwk, k9⟩
    have nV := S8.out.ne_four VB.out (by decide) (by decide)
    have nW := S8.out.ne_four K8.out (by decide) (by decide)
    have X9 := hide' ((k9.keep fb (lt_of_block VB.out) nV.1 nV.2).trans VB.out)
    have W9 := hide' ((k9.keep wb (lt_of_block K8.out) nW.1 nW.2).trans K8.out)
    have S9 := hide' s9
    have Q9 := hide' hwk
    have K9 := hide' k9
    have z1 := cell_of_row w9 fb 1 _ _ _ X9.out
    have y1 := frozen_of_row w9 fb 1 _ _ X9.out
    simp at z1
    clear s9 hwk k9 nV nW c1 c2
    obtain ⟨Y, hY⟩ : ∃ Y, w9.setCell ⟨fb, 1, none⟩ (.int .i32 (t3 : Int)) = Y := ⟨_, rfl⟩
    have HY := hide' hY
    have nf9 := S9.out.ne_four X9.out (by decide) (by decide)
    have nfw := fun (e : wb = fb) => by
     have q := W9.out
     rw [e, X9.out] at q
     injection q with q
    have YB := hide' (show Y.heap[fb]? = some (.cells #[.pointer (some ⟨sb', 0, none⟩), .int .i32 (t3 : Int), .int .i64 (L1 : Int), .int .i64 fr2, .int .i64 fd2] 72 (0, 0)) by rw [← hY]; exact heap_setCell_same _ _ _ _ _ _ X9.out)
    have YW := hide' (show WkA Y wb sb' ts tb ps pu most by rw [← hY]; exact (Below.heap_setCell _ _ _ _ (by simpa using nfw)).trans W9.out)
    have YS := hide' (show StkA Y ts X.heap.size gt' ct' ms' by rw [← hY]; exact S9.out.set nf9.1 nf9.2 _)
    have ML := hide' (show ms'.length ≤ 1450001 by
     have c : ms'.length ≤ [zQ].length + sumW lj rj vj dj (m + 2) (fr2 - sideI (m + 2)) (fd2 - sideI (m + 2)) (m + 2 + 1) := WkQ.count XS.out.st BJ.out.1 (mid_wf S6.out.2.1) N9'.out Q9.out
     have := SF.out
     simp only [List.length_cons, List.length_nil] at c
     omega)
    have FU := hide' (wfull_no wb sb' ts tb ps pu most X.heap.size gt' ct' ms' Y YW.out YS.out (by have := ML.out; have := HH.out.2.2.2.2.2; omega))
    clear hY nf9 nfw
    go_upto_region 7 with fail
    rw [HY.out]
    clear z1 y1
    go_wp2_with fail
    refine FU.out.mono ?_
    rintro o w10 ⟨rfl, e10⟩
    have B10 := hide' (show Below Y.heap.size Y w10 by rw [e10]; exact (Below.refl _ _).drew)
    have TB := hide' ((B10.out.block fb (lt_of_block YB.out)).trans YB.out)
    have TW := hide' ((B10.out.block wb (lt_of_block YW.out)).trans YW.out)
    have TS := hide' (YS.out.below B10.out)
    clear e10
    have k1 := cell_of_row w10 wb 1 _ _ _ TW.out
    have z0 := cell_of_row w10 fb 0 _ _ _ TB.out
    have y0 := frozen_of_row w10 fb 0 _ _ TB.out
    simp at k1 z0
    obtain ⟨Y2, hY2⟩ : ∃ Y, w10.setCell ⟨fb, 0, none⟩ (.pointer (some ⟨ts, 0, none⟩)) = Y := ⟨_, rfl⟩
    have HY2 := hide' hY2
    have UB := hide' (show Y2.heap[fb]? = some (.cells #[.pointer (some ⟨ts, 0, none⟩), .int .i32 (t3 : Int), .int .i64 (L1 : Int), .int .i64 fr2, .int .i64 fd2] 72 (0, 0)) by rw [← hY2]; exact heap_setCell_same _ _ _ _ _ _ TB.out)
    have nf10 := TS.out.ne_four TB.out (by decide) (by decide)
    have US := hide' (show StkA Y2 ts X.heap.size gt' ct' ms' by rw [← hY2]; exact TS.out.set nf10.1 nf10.2 _)
    have gg := And.intro S8.out.le (And.intro S8.out.rowB.1 K9.out.new)
    have UK := hide' (show KpF sb g w Y2 ∧ ∀ q, q < X.heap.size → q ≠ fb → Y2.heap[q]? = X.heap[q]? from by
     have qf : w.heap.size ≤ fb := by have := HFB.out; omega
     have sx := XK.out.size
     have sv := B8.out.size
     have kV : KpF sb g w V := XK.out.trans (KpF.of_below (sb := sb) (g := g) B8.out) (Or.inl rfl) (Or.inl rfl)
     have k9' : KpF sb g w w9 := kV.trans (KpF.of_kps K9.out) (Or.inr (by omega)) (Or.inr (by omega))
     have kY : KpF sb g w Y := by rw [← HY.out]; exact k9'.setF qf _
     have k10 : KpF sb g w w10 := kY.trans (KpF.of_below (sb := sb) (g := g) B10.out) (Or.inl rfl) (Or.inl rfl)
     refine ⟨by rw [← hY2]; exact k10.setF qf _, fun q h1 h2 => ?_⟩
     rw [← hY2]
     have z1 : Y.heap[q]? = X.heap[q]? := by
      rw [← HY.out]
      exact (Below.heap_setCell _ _ _ _ (by simpa using h2)).trans ((K9.out.keep q (by omega) (by omega) (by omega)).trans (B8.out.block q h1))
     have zy : q < Y.heap.size := by rw [← HY.out, World.size_setCell]; have := K9.out.size; omega
     exact (Below.heap_setCell _ _ _ _ (by simpa using h2)).trans ((B10.out.block q zy).trans z1))
    have UG := hide' (show X.heap.size ≤ ts ∧ X.heap.size ≤ gt' by have := B8.out.size; omega)
    have UF := hide' (show FldA Y2 X.heap.size ts t3 L1 fr2 fd2 (Mj + 65536) (stF born stay pc Fj) (m + 2) gt' ct' ms' from by
     refine ⟨US.out, (Q9.out.lies st_nil).2.2, GEO.out.1, by omega, by have := NB.out; omega, GEO.out.2.1.1, GEO.out.2.1.2, GEO.out.2.2.1.1, GEO.out.2.2.1.2, fun x y => ?_⟩
     have := WkQ.field hb hT XS.out.st b1 b2 S6.out.2.2.1 st_nil Q9.out GEO.out.2.2.2 x y
     rw [HPC.out.1] at this
     exact this)
    have TRI := hide' (trimmed_any none X.heap.size ts t3 L1 fr2 fd2 (Mj + 65536) (stF born stay pc Fj) (m + 2) gt' ct' ms' Y2 UF.out (by have := MN.out; omega) (by have := MN.out; omega) (by rw [← hY2, World.size_setCell]; have := B10.out.size; have q : w9.heap.size = Y.heap.size := (by rw [← HY.out, World.size_setCell]); have := K9.out.size; have := B8.out.size; omega) (by have := ML.out; have := NB.out; omega))
    clear hY2 nf10 gg
    go_upto_region 10 with fail
    rw [HY2.out]
    clear k1 z0 y0
    have c0 := cell_of_row Y2 fb 0 _ _ _ UB.out
    have c1 := cell_of_row Y2 fb 1 _ _ _ UB.out
    have c2 := cell_of_row Y2 fb 2 _ _ _ UB.out
    have c3 := cell_of_row Y2 fb 3 _ _ _ UB.out
    have c4 := cell_of_row Y2 fb 4 _ _ _ UB.out
    simp at c0 c1 c2 c3 c4
    go_wp2_with fail
    refine TRI.out.mono ?_
    rintro o w11 ⟨sb3, t4, L4, fr4, fd4, n4, g4, cap4, qs4, mp4, rfl, f4, l4, b4', kp4, tg4, mp0⟩
    obtain rfl : mp4 = none := by rcases mp0 with e | e <;> exact e
    have nU := US.out.ne_four UB.out (by decide) (by decide)
    have Z11 := hide' ((kp4.keep fb (lt_of_block UB.out) nU.1 nU.2).trans UB.out)
    have F4 := hide' f4
    have G4 := hide' (And.intro l4 (And.intro b4' (And.intro kp4 tg4)))
    clear f4 l4 b4' kp4 tg4 nU mp0 c0 c1 c2 c3 c4
    have z0 := cell_of_row w11 fb 0 _ _ _ Z11.out
    have z1 := cell_of_row w11 fb 1 _ _ _ Z11.out
    have z2 := cell_of_row w11 fb 2 _ _ _ Z11.out
    have z3 := cell_of_row w11 fb 3 _ _ _ Z11.out
    have z4 := cell_of_row w11 fb 4 _ _ _ Z11.out
    have y0 := frozen_of_row w11 fb 0 _ _ Z11.out
    have y1 := frozen_of_row w11 fb 1 _ _ Z11.out
    have y2 := frozen_of_row w11 fb 2 _ _ Z11.out
    have y3 := frozen_of_row w11 fb 3 _ _ Z11.out
    have y4 := frozen_of_row w11 fb 4 _ _ Z11.out
    simp at z0 z1 z2 z3 z4
    obtain ⟨Z, hZ⟩ : ∃ X, ((((w11.setCell ⟨fb, 0, none⟩ (.pointer (some ⟨sb3, 0, none⟩))).setCell ⟨fb, 1, none⟩ (.int .i32 (t4 : Int))).setCell ⟨fb, 2, none⟩ (.int .i64 (L4 : Int))).setCell ⟨fb, 3, none⟩ (.int .i64 fr4)).setCell ⟨fb, 4, none⟩ (.int .i64 fd4) = X := ⟨_, rfl⟩
    have HZ := hide' hZ
    have FIN := hide' (show WlI w Z B sb g fb pb ps pu (M + ((j + 1 : Nat) : Int) * 65536) (stF born stay ((j + 1) * pc) F) t4 L4 fr4 fd4 n4 sb3 g4 cap4 qs4 from by
     have qf : w.heap.size ≤ fb := by have := HFB.out; omega
     have nz := F4.out.stk.ne_four Z11.out (by decide) (by decide)
     have ug := UG.out
     have sx := XK.out.size
     have kp := G4.out.2.2.1
     have ee : ∀ q, q < X.heap.size → q ≠ fb → Z.heap[q]? = X.heap[q]? := fun q h1 h2 => by
      rw [← hZ]
      exact (five_else h2 _ _ _ _ _).trans ((kp.keep q (by
       have := UK.out.1.size
       have a := UB.out
       have : X.heap.size ≤ Y2.heap.size := by
        have := US.out.lt
        omega
       omega) (by omega) (by omega)).trans (UK.out.2 q h1 h2))
     rw [FN.out, MN.out.1]
     have hp := HPB.out
     have hr := lt_of_block XR.out
     have hq := lt_of_block XP.out
     refine ⟨by rw [← hZ]; exact five_stored Z11.out _ _ _ _ _, (ee (fb + 1) hr (by omega)).trans XR.out, (ee pb hq (by omega)).trans XP.out, ⟨?_, F4.out.wf, F4.out.lev, F4.out.one, F4.out.hi, F4.out.r1, F4.out.r2, F4.out.d1, F4.out.d2, F4.out.val⟩, G4.out.2.2.2, by have := G4.out.1; have := ML.out; have := NB.out; omega, Or.inr (by have := F4.out.stk.le; omega), Or.inr (by have := F4.out.stk.rowB.1; omega), ?_⟩
     ·rw [← hZ]
      have := HBX.out.2.2.2.2
      exact (F4.out.stk.keep (five_else (fun e => nz.1 e.symm) _ _ _ _ _) (five_else (fun e => nz.2 e.symm) _ _ _ _ _)).weakB (by omega)
     ·have k11 : KpF sb g w w11 := UK.out.1.trans kp (Or.inr (by omega)) (Or.inr (by omega))
      rw [← hZ]
      exact ((((k11.setF qf _).setF qf _).setF qf _).setF qf _).setF qf _)
    clear hZ
    go_wp2
    rw [HZ.out]
    exact ⟨⟨j + 1, t4, L4, fr4, fd4, n4, sb3, g4, cap4, qs4, by go_num, by omega, FIN⟩, by simp [intOf]; omega⟩
  ·have d1 : ¬ (j : Int) < (N : Int) := by omega
   obtain rfl : j = N := by omega
   have c0 := cell_of_row wr fb 0 _ _ _ HI.out.box
   have c1 := cell_of_row wr fb 1 _ _ _ HI.out.box
   have c2 := cell_of_row wr fb 2 _ _ _ HI.out.box
   have c3 := cell_of_row wr fb 3 _ _ _ HI.out.box
   have c4 := cell_of_row wr fb 4 _ _ _ HI.out.box
   have z0 := cell_of_row wr (fb + 1) 0 _ _ _ HI.out.res
   have z1 := cell_of_row wr (fb + 1) 1 _ _ _ HI.out.res
   have z2 := cell_of_row wr (fb + 1) 2 _ _ _ HI.out.res
   have z3 := cell_of_row wr (fb + 1) 3 _ _ _ HI.out.res
   have z4 := cell_of_row wr (fb + 1) 4 _ _ _ HI.out.res
   have y0 := frozen_of_row wr (fb + 1) 0 _ _ HI.out.res
   have y1 := frozen_of_row wr (fb + 1) 1 _ _ HI.out.res
   have y2 := frozen_of_row wr (fb + 1) 2 _ _ HI.out.res
   have y3 := frozen_of_row wr (fb + 1) 3 _ _ HI.out.res
   have y4 := frozen_of_row wr (fb + 1) 4 _ _ HI.out.res
   simp at c0 c1 c2 c3 c4 z0 z1 z2 z3 z4
   obtain ⟨X, hX⟩ : ∃ X, ((((wr.setCell ⟨fb + 1, 0, none⟩ (.pointer (some ⟨sb', 0, none⟩))).setCell ⟨fb + 1, 1, none⟩ (.int .i32 (t' : Int))).setCell ⟨fb + 1, 2, none⟩ (.int .i64 (L' : Int))).setCell ⟨fb + 1, 3, none⟩ (.int .i64 fr')).setCell ⟨fb + 1, 4, none⟩ (.int .i64 fd') = X := ⟨_, rfl⟩
   have HX := hide' hX
   have n2 := HI.out.fld.stk.ne_four HI.out.res (by decide) (by decide)
   have GX := hide' (show X.heap[fb + 1]? = some (.cells #[.pointer (some ⟨sb', 0, none⟩), .int .i32 (t' : Int), .int .i64 (L' : Int), .int .i64 fr', .int .i64 fd'] 72 (0, 0)) by rw [← hX]; exact five_stored HI.out.res _ _ _ _ _)
   have FIN := hide' (show WlP B sb g (M + 67108864) (stF born stay K F) w (.returned (.tuple #[.agg #[.pointer (some ⟨sb', 0, none⟩), .int .i32 (t' : Int), .int .i64 (L' : Int), .int .i64 fr', .int .i64 fd'], .bool true])) X from by
    have qf : w.heap.size ≤ fb + 1 := by have := HFB.out; omega
    have f := HI.out.fld
    have ht := HI.out.tgt
    rw [HPC.out.2.1] at f ht
    refine ⟨sb', t', L', fr', fd', n', g', cap', qs', rfl, FldA.mono ⟨?_, f.wf, f.lev, f.one, f.hi, f.r1, f.r2, f.d1, f.d2, f.val⟩ (by omega), ht, HI.out.len, ?_, HI.out.nsb, HI.out.ng⟩
    ·rw [← hX]
     exact f.stk.keep (five_else (fun e => n2.1 e.symm) _ _ _ _ _) (five_else (fun e => n2.2 e.symm) _ _ _ _ _)
    ·rw [← hX]
     exact ((((HI.out.kpf.setF qf _).setF qf _).setF qf _).setF qf _).setF qf _)
   clear hX n2
   go_wp2
   rw [HX.out]
   have i0 := cell_of_row X _ 0 _ _ _ GX.out
   have i1 := cell_of_row X _ 1 _ _ _ GX.out
   have i2 := cell_of_row X _ 2 _ _ _ GX.out
   have i3 := cell_of_row X _ 3 _ _ _ GX.out
   have i4 := cell_of_row X _ 4 _ _ _ GX.out
   simp at i0 i1 i2 i3 i4
   refine bodyPost_ret (v := .tuple #[.agg #[.pointer (some ⟨sb', 0, none⟩), .int .i32 (t' : Int), .int .i64 (L' : Int), .int .i64 fr', .int .i64 fd'], .bool true]) (by simp [results, Tryz.results31, go_sem, i0, i1, i2, i3, i4]) rfl ?_
   exact FIN.out
end Go.Proofs.YtemhcpldflcfbaaGreatDoor
