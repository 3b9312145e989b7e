/-
  What the last text of this claim leans on, part 9: Wx2.
-/
import Derived.Test.YthmeapplnocfjaaDoorZf8
import Derived.Deep.RegionHeld3
namespace Go.Proofs.YthmeapplnocfjaaDoor
open Go.RowKit
set_option linter.unusedVariables false
set_option linter.unusedSimpArgs false
/-- One cell fits to its right and below. -/
def FtC (b : BdW) (c : Nat → Nat) (r q : Nat) : Prop := (inW b r q (c (r * b.W + q))).r = (inW b r ((q + 1) % b.W) (c (r * b.W + (q + 1) % b.W))).l ∧ (inW b r q (c (r * b.W + q))).d = (inW b ((r + 1) % b.H) q (c ((r + 1) % b.H * b.W + q))).u
theorem fit_cells {b : BdW} {c : Nat → Nat} (hW : 0 < b.W) : FitB b (fun r q => c (r * b.W + q)) ↔ ∀ i, i < b.W * b.H → FtC b c (i / b.W) (i % b.W) := by
  constructor
  · intro h i hi
    exact h _ _ (Nat.div_lt_of_lt_mul hi) (Nat.mod_lt _ hW)
  · intro h r q hr hq
    have lt : r * b.W + q < b.W * b.H := by
      have : (r + 1) * b.W ≤ b.H * b.W := Nat.mul_le_mul_right _ hr
      rw [Nat.succ_mul, Nat.mul_comm b.H b.W] at this
      have hq' : q < b.W := hq
      omega
    have := h _ lt
    have d1 : (r * b.W + q) / b.W = r := by rw [Nat.mul_comm, Nat.mul_add_div hW, Nat.div_eq_of_lt hq, Nat.add_zero]
    have d2 : (r * b.W + q) % b.W = q := by rw [Nat.mul_comm, Nat.mul_add_mod, Nat.mod_eq_of_lt hq]
    rw [d1, d2] at this
    exact this
theorem field_upW (t : TlT) (w : World) : Sem.run Tryd.prog (Instr.field 47 (.agg #[.int .i64 t.u, .int .i64 t.r, .int .i64 t.d, .int .i64 t.l]) 0) w = .ok (.int .i64 t.u) w := by kernel_rfl
theorem field_leftW (t : TlT) (w : World) : Sem.run Tryd.prog (Instr.field 47 (.agg #[.int .i64 t.u, .int .i64 t.r, .int .i64 t.d, .int .i64 t.l]) 3) w = .ok (.int .i64 t.l) w := by kernel_rfl
theorem wrapN {x : Nat} (h : x < 1000) : IntKind.i64.wrap (x : Int) = (x : Int) := by simp [IntKind.wrap, IntKind.signed, IntKind.bits]; omega
set_option maxRecDepth 100000 in
set_option maxHeartbeats 25600000 in
theorem fitsB_any (b : BdW) (g : Nat) (a : Option Addr) (m cc : Nat) (c : Nat → Nat) (w : World) (hB : BrdA w g b) (hb : BokW b) (hC : CelW w a m c) (hm : m = b.W * b.H) (hc : ∀ i, i < m → c i < 16) :
    Calls Tryd.prog 21 #[.pointer (some ⟨g, 0, none⟩), .slice a m cc] w fun e w' => BoW (FitB b (fun r q => c (r * b.W + q))) e ∧ Below w.heap.size w w' := by
  have W5 := hb.w5
  have H5 := hb.h5
  have W1 := hb.w1
  have H1 := hb.h1
  have m25 : m ≤ 25 := by rw [hm]; exact Nat.le_trans (Nat.mul_le_mul W5 H5) (by decide)
  have HM := hide' hm
  have FI := hide' (fit_cells (b := b) (c := c) W1)
  obtain ⟨P, hP⟩ : ∃ P : Prop, FitB b (fun r q => c (r * b.W + q)) = P := ⟨_, rfl⟩
  rw [hP] at FI ⊢
  rw [← hm] at FI
  have INC := hide' (fun (r q k : Nat) (V : World) (h : Below w.heap.size w V) (hr : r < 5) (hq : q < 5) (hk : k < 16) => in_any b g r q k V (hB.below h) hb hr hq hk)
  have HB := hide' (fun (V : World) (h : Below w.heap.size w V) => hB.below h)
  obtain ⟨cg, coff, rfl, cgl, hcc⟩ := hC
  have CEL := hide' (fun (i : Nat) (hi : i < m) (V : World) (h : Below w.heap.size w V) => show V.cell? ⟨cg, coff + i, none⟩ = some (.int .i64 ((c i : Nat) : Int)) from (h.cell cgl).trans (hcc i hi))
  have CL := hide' hc
  have gl := lt_blockT hB
  clear hB hb hcc hc hm hP
  go_enter Tryd.func21, Tryd.ntmps21
  go_wp2
  go_loopw [5, 6, 7, 8, 9, 10, 11, 14] (fun _ _ _ _ _ _ _ iv wr => ∃ i : Nat, iv = .int .i64 (i : Int) ∧ i ≤ m ∧ Hid (∀ k, k < i → FtC b c (k / b.W) (k % b.W)) ∧ Hid (Below w.heap.size w wr)) (fun _ _ _ _ _ _ _ iv _ => m - (intOf iv).toNat)
  case atStart => exact ⟨0, rfl, by omega, hide' (fun k h => by omega), hide' (Below.refl _ _)⟩
  case round =>
    obtain ⟨i, rfl, hi, AL, BW⟩ := hrel
    by_cases d : (i : Int) < (m : Int)
    · have im : i < m := by omega
      have i0 : (0 : Int) ≤ (i : Int) := by omega
      have ci := CEL.out i im wr BW.out
      have cil := CL.out i im
      have dm := Nat.div_add_mod i b.W
      obtain ⟨q, hq⟩ : ∃ q, i % b.W = q := ⟨_, rfl⟩
      obtain ⟨r, hr⟩ : ∃ r, i / b.W = r := ⟨_, rfl⟩
      have qW : q < b.W := by rw [← hq]; exact Nat.mod_lt _ (by omega)
      have rH : r < b.H := by rw [← hr]; exact Nat.div_lt_of_lt_mul (by rw [← HM.out]; exact im)
      have ei : r * b.W + q = i := by rw [← hq, ← hr, Nat.mul_comm]; exact dm
      obtain ⟨q', hq'⟩ : ∃ q', (q + 1) % b.W = q' := ⟨_, rfl⟩
      obtain ⟨r', hr'⟩ : ∃ r', (r + 1) % b.H = r' := ⟨_, rfl⟩
      have q'W : q' < b.W := by rw [← hq']; exact Nat.mod_lt _ (by omega)
      have r'H : r' < b.H := by rw [← hr']; exact Nat.mod_lt _ (by omega)
      have pl : ∀ y x, y < b.H → x < b.W → y * b.W + x < m := fun y x hy hx => by
        have : (y + 1) * b.W ≤ b.H * b.W := Nat.mul_le_mul_right _ hy
        rw [Nat.succ_mul, Nat.mul_comm b.H b.W] at this
        have := HM.out
        omega
      obtain ⟨j, hj⟩ : ∃ j, r * b.W + q' = j := ⟨_, rfl⟩
      obtain ⟨l, hl⟩ : ∃ l, r' * b.W + q = l := ⟨_, rfl⟩
      have jm : j < m := by rw [← hj]; exact pl r q' rH q'W
      have lm : l < m := by rw [← hl]; exact pl r' q r'H qW
      have FT := hide' (show FtC b c r q ↔ (inW b r q (c i)).r = (inW b r q' (c j)).l ∧ (inW b r q (c i)).d = (inW b r' q (c l)).u from by unfold FtC; rw [hq', hr', ei, hj, hl])
      have NN := hide' (show FtC b c r q → ∀ k, k < i + 1 → FtC b c (k / b.W) (k % b.W) from fun h k hk => by
        by_cases e : k = i
        · rw [e, hr, hq]; exact h
        · exact AL.out k (by omega))
      have NO := hide' (show ¬ FtC b c r q → ¬ P from fun h p => h (by have := FI.out.1 p i im; rwa [hr, hq] at this))
      have cj := CL.out j jm
      have cl := CL.out l lm
      have IC1W := hide' (fun (V : World) (h : Below w.heap.size w V) => INC.out r q (c i) V h (by omega) (by omega) cil)
      have IC2 := hide' (fun (V : World) (h : Below w.heap.size w V) => INC.out r q' (c j) V h (by omega) (by omega) cj)
      have IC3 := hide' (fun (V : World) (h : Below w.heap.size w V) => INC.out r' q (c l) V h (by omega) (by omega) cl)
      have CJ := hide' (fun (V : World) (h : Below w.heap.size w V) => CEL.out j jm V h)
      have CLL := hide' (fun (V : World) (h : Below w.heap.size w V) => CEL.out l lm V h)
      obtain ⟨ki, hki⟩ : ∃ x, c i = x := ⟨_, rfl⟩
      obtain ⟨kj, hkj⟩ : ∃ x, c j = x := ⟨_, rfl⟩
      obtain ⟨kl, hkl⟩ : ∃ x, c l = x := ⟨_, rfl⟩
      rw [hki] at ci IC1W FT
      rw [hkj] at CJ IC2 FT
      rw [hkl] at CLL IC3 FT
      obtain ⟨t1, ht1⟩ : ∃ x, inW b r q ki = x := ⟨_, rfl⟩
      obtain ⟨t2, ht2⟩ : ∃ x, inW b r q' kj = x := ⟨_, rfl⟩
      obtain ⟨t3, ht3⟩ : ∃ x, inW b r' q kl = x := ⟨_, rfl⟩
      rw [ht1] at IC1W FT
      rw [ht2] at IC2 FT
      rw [ht3] at IC3 FT
      have dv : ((i : Nat) : Int).tdiv (b.W : Int) = (r : Int) := by rw [← hr]; exact (Int.ofNat_tdiv i b.W).symm
      have md : ((i : Nat) : Int).tmod (b.W : Int) = (q : Int) := by rw [← hq]; exact (Int.ofNat_tmod i b.W).symm
      have md2 : ((q : Nat) : Int) + 1 = ((q + 1 : Nat) : Int) := by omega
      have rm1 : ((r : Int) + 1).tmod (b.H : Int) = (r' : Int) := by rw [← hr']; exact (Int.ofNat_tmod (r + 1) b.H).symm
      have rm2 : ((q : Int) + 1).tmod (b.W : Int) = (q' : Int) := by rw [← hq']; exact (Int.ofNat_tmod (q + 1) b.W).symm
      have ml1 : (r : Int) * (b.W : Int) + (q' : Int) = (j : Int) := by rw [← hj]; push_cast; rfl
      have ml2 : (r' : Int) * (b.W : Int) + (q : Int) = (l : Int) := by rw [← hl]; push_cast; rfl
      have nW : ¬ b.W = 0 := by omega
      have nH : ¬ b.H = 0 := by omega
      have nWi : ¬ (b.W : Int) = 0 := by omega
      have nHi : ¬ (b.H : Int) = 0 := by omega
      have nWb : ((b.W : Int) == 0) = false := by simp; omega
      have nHb : ((b.H : Int) == 0) = false := by simp; omega
      have cw := (HB.out wr BW.out).wide
      have ch := (HB.out wr BW.out).high
      have gw := lt_blockT (HB.out wr BW.out)
      have wr_ := wrapN (x := r) (by omega)
      have wq_ := wrapN (x := q) (by omega)
      have wr'_ := wrapN (x := r') (by omega)
      have wq'_ := wrapN (x := q') (by omega)
      have wj_ := wrapN (x := j) (by omega)
      have wl_ := wrapN (x := l) (by omega)
      have w1' : IntKind.i64.wrap ((r : Int) + 1) = (r : Int) + 1 := by have := wrapN (x := r + 1) (by omega); push_cast at this; exact this
      have w2' : IntKind.i64.wrap ((q : Int) + 1) = (q : Int) + 1 := by have := wrapN (x := q + 1) (by omega); push_cast at this; exact this
      have w3' : IntKind.i64.wrap (((i : Nat) : Int).tdiv (b.W : Int)) = (r : Int) := by rw [dv]; exact wr_
      have w4' : IntKind.i64.wrap (((i : Nat) : Int).tmod (b.W : Int)) = (q : Int) := by rw [md]; exact wq_
      have w5' : IntKind.i64.wrap (((r : Int) + 1).tmod (b.H : Int)) = (r' : Int) := by rw [rm1]; exact wr'_
      have w6' : IntKind.i64.wrap (((q : Int) + 1).tmod (b.W : Int)) = (q' : Int) := by rw [rm2]; exact wq'_
      have E1 := hide' (show IntKind.i64.wrap ((i : Int) / (b.W : Int)) = (r : Int) by rw [show (i : Int) / (b.W : Int) = ((i / b.W : Nat) : Int) by push_cast; rfl, hr]; exact wr_)
      have E2 := hide' md
      have E3 := hide' rm1
      have E4 := hide' rm2
      clear hq hr hq' hr' hj hl ht1 ht2 ht3 hki hkj hkl dm ei pl md2 AL cil cj cl dv md rm1 rm2
      have SH := hide' (fun (V : World) (h : Below w.heap.size w V) => show V.cell? ⟨g, 64, none⟩ = some (.int .i64 (b.W : Int)) ∧ V.cell? ⟨g, 65, none⟩ = some (.int .i64 (b.H : Int)) from ⟨(HB.out V h).wide, (HB.out V h).high⟩)
      have jb0 : (0 : Int) ≤ (j : Int) := by omega
      have jbm : (j : Int) < (m : Int) := by omega
      have lb0 : (0 : Int) ≤ (l : Int) := by omega
      have lbm : (l : Int) < (m : Int) := by omega
      have i25 : ((i : Nat) : Int) < 25 := by omega
      have iw := wrapN (x := i) (by omega)
      go_upto_region 4 with fail
      go_region_held3 (fun V => V.cell? ⟨g, 64, none⟩ = some (.int .i64 (b.W : Int)) ∧ V.cell? ⟨g, 65, none⟩ = some (.int .i64 (b.H : Int))) (first | exact SH.out _ BW.out.drew | exact SH.out _ BW.out | fail) (fail)
      rw [E1.out, E2.out]
      obtain ⟨wa, hwa⟩ : ∃ wa, wr.drew = wa := ⟨_, rfl⟩
      have BA := hide' (show Below w.heap.size w wa by rw [← hwa]; exact BW.out.drew)
      have IC1' := hide' (show Calls Tryd.prog 28 #[.pointer (some ⟨g, 0, none⟩), .int .i64 (r : Int), .int .i64 (q : Int), .int .i64 (ki : Int)] wa.drew fun e w' => e = .returned (.agg #[.int .i64 t1.u, .int .i64 t1.r, .int .i64 t1.d, .int .i64 t1.l]) ∧ Below wa.drew.heap.size wa.drew w' from by
        have := IC1W.out wa.drew BA.out.drew
        exact this)
      try rw [hwa]
      clear hwa cw ch gw ci w3' w4' iw
      go_upto_region 5 with fail
      go_region_held3 (fun V => V.cell? ⟨g, 64, none⟩ = some (.int .i64 (b.W : Int)) ∧ V.cell? ⟨g, 65, none⟩ = some (.int .i64 (b.H : Int))) (first | exact SH.out _ BA.out.drew | exact SH.out _ BA.out | fail) (fail)
      rw [E3.out, E4.out]
      clear w1' w2' w5' w6'
      go_wp2_with fail
      refine IC1'.out.mono ?_
      rintro e w4 ⟨rfl, b4⟩
      have B4 := hide' (BA.out.drew.trans (b4.mono BA.out.size))
      clear b4 IC1' IC1W
      obtain ⟨w5, hw5⟩ : ∃ w5, w4.alloc (.cells #[.int .i64 t1.u, .int .i64 t1.r, .int .i64 t1.d, .int .i64 t1.l] 47) = w5 := ⟨_, rfl⟩
      have B5 := hide' (show Below w.heap.size w w5 by rw [← hw5]; exact B4.out.alloc B4.out.size _)
      have G5 := hide' (show w5.heap[w4.heap.size]? = some (.cells #[.int .i64 t1.u, .int .i64 t1.r, .int .i64 t1.d, .int .i64 t1.l] 47 (0, 0)) by rw [← hw5]; exact heap_alloc_new _ _)
      go_upto_region 7 with fail
      try rw [hw5]
      obtain ⟨tb, htb⟩ : ∃ tb, w4.heap.size = tb := ⟨_, rfl⟩
      have tbl : tb < w5.heap.size := by rw [← htb, ← hw5]; simp
      rw [htb] at G5
      rw [htb]
      clear hw5 htb
      have TC := hide' (fun (V : World) (h : V.heap[tb]? = w5.heap[tb]?) => show V.cell? ⟨tb, 1, none⟩ = some (.int .i64 t1.r) ∧ V.cell? ⟨tb, 2, none⟩ = some (.int .i64 t1.d) from by
        have k := h.trans G5.out
        exact ⟨by rw [cell_of_row V _ _ _ _ _ k]; rfl, by rw [cell_of_row V _ _ _ _ _ k]; rfl⟩)
      have S7 := hide' (fun (V : World) (h : Below w5.heap.size w5 V) => show V.cell? ⟨tb, 1, none⟩ = some (.int .i64 t1.r) ∧ V.cell? ⟨g, 64, none⟩ = some (.int .i64 (b.W : Int)) ∧ V.cell? ⟨cg, coff + j, none⟩ = some (.int .i64 (kj : Int)) from ⟨(TC.out V (h.block tb tbl)).1, (HB.out V (B5.out.trans (h.mono B5.out.size))).wide, CJ.out V (B5.out.trans (h.mono B5.out.size))⟩)
      have CA7 := hide' (fun (V : World) (h : Below w5.heap.size w5 V) => IC2.out V (B5.out.trans (h.mono B5.out.size)))
      obtain ⟨pr, hpr⟩ : ∃ pr, r * b.W = pr := ⟨_, rfl⟩
      have prl : pr ≤ 25 := by rw [← hpr]; exact Nat.le_trans (Nat.mul_le_mul (show r ≤ 5 by omega) W5) (by decide)
      have epr : (r : Int) * (b.W : Int) = (pr : Int) := by rw [← hpr]; push_cast; rfl
      have wpr := wrapN (x := pr) (by omega)
      have wpr2 : IntKind.i64.wrap ((r : Int) * (b.W : Int)) = (pr : Int) := by rw [epr]; exact wpr
      have esj : (pr : Int) + (q' : Int) = (j : Int) := by rw [← epr]; exact ml1
      have wsj : IntKind.i64.wrap ((pr : Int) + (q' : Int)) = (j : Int) := by rw [esj]; exact wj_
      clear hpr
      have fd3 := fun W => field_leftW t2 W
      have g5 : g < w5.heap.size := Nat.lt_of_lt_of_le gl B5.out.size
      go_region_held3 (fun V => V.cell? ⟨tb, 1, none⟩ = some (.int .i64 t1.r) ∧ V.cell? ⟨g, 64, none⟩ = some (.int .i64 (b.W : Int)) ∧ V.cell? ⟨cg, coff + j, none⟩ = some (.int .i64 (kj : Int))) (first | exact S7.out _ ((Below.refl _ _).drew) | exact S7.out _ b7' | exact S7.out _ (Below.refl _ _) | fail) (first | (go_at_call 28; refine (CA7.out _ (Below.refl _ _).drew).mono ?_; rintro e7 w7 ⟨rfl, b7⟩; have b7' : Below w5.heap.size w5 w7 := (Below.refl w5.heap.size w5).drew.trans b7) | fail)
      have B7 := hide' (B5.out.trans (b7'.mono B5.out.size))
      have K7 := hide' b7'
      clear b7 b7' S7 CA7 fd3
      by_cases v1 : t1.r = t2.l
      · have vb : (t1.r == t2.l) = true := by simp [v1]
        have vn : (t1.r != t2.l) = false := by simp [v1]
        have VH := hide' v1
        clear v1
        have tb7 : tb < w7.heap.size := Nat.lt_of_lt_of_le tbl K7.out.size
        have S9 := hide' (fun (V : World) (h : Below w7.heap.size w7 V) => show V.cell? ⟨tb, 2, none⟩ = some (.int .i64 t1.d) ∧ V.cell? ⟨g, 64, none⟩ = some (.int .i64 (b.W : Int)) ∧ V.cell? ⟨cg, coff + l, none⟩ = some (.int .i64 (kl : Int)) from ⟨(TC.out V ((h.block tb tb7).trans (K7.out.block tb tbl))).2, (HB.out V (B7.out.trans (h.mono B7.out.size))).wide, CLL.out V (B7.out.trans (h.mono B7.out.size))⟩)
        have CA9 := hide' (fun (V : World) (h : Below w7.heap.size w7 V) => IC3.out V (B7.out.trans (h.mono B7.out.size)))
        obtain ⟨ps, hps⟩ : ∃ ps, r' * b.W = ps := ⟨_, rfl⟩
        have psl : ps ≤ 25 := by rw [← hps]; exact Nat.le_trans (Nat.mul_le_mul (show r' ≤ 5 by omega) W5) (by decide)
        have eps : (r' : Int) * (b.W : Int) = (ps : Int) := by rw [← hps]; push_cast; rfl
        have wps := wrapN (x := ps) (by omega)
        have wps2 : IntKind.i64.wrap ((r' : Int) * (b.W : Int)) = (ps : Int) := by rw [eps]; exact wps
        have esl : (ps : Int) + (q : Int) = (l : Int) := by rw [← eps]; exact ml2
        have wsl : IntKind.i64.wrap ((ps : Int) + (q : Int)) = (l : Int) := by rw [esl]; exact wl_
        clear hps wpr2 wsj epr esj
        have fd0 := fun W => field_upW t3 W
        have g7 : g < w7.heap.size := Nat.lt_of_lt_of_le gl B7.out.size
        go_upto_region 9 with fail
        go_region_held3 (fun V => V.cell? ⟨tb, 2, none⟩ = some (.int .i64 t1.d) ∧ V.cell? ⟨g, 64, none⟩ = some (.int .i64 (b.W : Int)) ∧ V.cell? ⟨cg, coff + l, none⟩ = some (.int .i64 (kl : Int))) (first | exact S9.out _ ((Below.refl _ _).drew) | exact S9.out _ b9' | exact S9.out _ (Below.refl _ _) | fail) (first | (go_at_call 28; refine (CA9.out _ (Below.refl _ _).drew).mono ?_; rintro e9 w9 ⟨rfl, b9⟩; have b9' : Below w7.heap.size w7 w9 := (Below.refl w7.heap.size w7).drew.trans b9) | fail)
        have B9 := hide' (B7.out.trans (b9'.mono B7.out.size))
        clear b9 b9' S9 CA9 fd0
        by_cases v2 : t1.d = t3.u
        · have vb2 : (t1.d == t3.u) = true := by simp [v2]
          have vn2 : (t1.d != t3.u) = false := by simp [v2]
          have NX := hide' (NN.out (FT.out.2 ⟨VH.out, v2⟩))
          clear v2
          go_wp2
          exact ⟨⟨i + 1, by go_num, by omega, NX, B9⟩, by simp [intOf]; omega⟩
        · have vb2 : (t1.d == t3.u) = false := by simp [v2]
          have vn2 : (t1.d != t3.u) = true := by simp [v2]
          have NP := hide' (NO.out (fun h => v2 (FT.out.1 h).2))
          clear v2
          go_wp2
          go_ret
          exact ⟨⟨false, rfl, ⟨fun h => (by cases h), fun h => absurd h NP.out⟩⟩, B9.out⟩
      · have vb : (t1.r == t2.l) = false := by simp [v1]
        have vn : (t1.r != t2.l) = true := by simp [v1]
        have NP := hide' (NO.out (fun h => v1 (FT.out.1 h).1))
        clear v1
        go_wp2
        go_ret
        exact ⟨⟨false, rfl, ⟨fun h => (by cases h), fun h => absurd h NP.out⟩⟩, B7.out⟩
    · obtain rfl : i = m := by omega
      have Y := hide' (FI.out.2 AL.out)
      go_wp2
      go_ret
      exact ⟨⟨true, rfl, ⟨fun _ => Y.out, fun _ => rfl⟩⟩, BW.out⟩
end Go.Proofs.YthmeapplnocfjaaDoor

