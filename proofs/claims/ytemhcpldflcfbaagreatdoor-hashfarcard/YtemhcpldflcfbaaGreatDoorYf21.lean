/-
  What the last text of this claim leans on, part 21: Hd3.
-/
import Derived.Test.YtemhcpldflcfbaaGreatDoorYf20
namespace Go.Proofs.YtemhcpldflcfbaaGreatDoor
open Go.RowKit
set_option linter.unusedVariables false
def depsP : List (Nat × Nat) := [(3, 2), (4, 3), (5, 1), (5, 4), (8, 7), (9, 8), (10, 6), (10, 9), (10, 5), (13, 12), (14, 13), (15, 11), (15, 14), (15, 10), (18, 17), (19, 18), (20, 16), (20, 19), (20, 15), (21, 5), (21, 10), (21, 15), (21, 20), (22, 0), (22, 21), (22, 20), (24, 23), (24, 22)]
theorem cidx_mem {j : Nat} (hj : j < 5) : cidx j ∈ [5, 10, 15, 20, 22] := by
 have a : j = 0 ∨ j = 1 ∨ j = 2 ∨ j = 3 ∨ j = 4 := by omega
 rcases a with rfl | rfl | rfl | rfl | rfl <;> decide
theorem bidx_mem {j : Nat} (hj : j < 5) : bidx j ∈ [4, 9, 14, 19, 21] := by
 have a : j = 0 ∨ j = 1 ∨ j = 2 ∨ j = 3 ∨ j = 4 := by omega
 rcases a with rfl | rfl | rfl | rfl | rfl <;> decide
theorem not_c {i : Nat} (h : i ∉ [5, 10, 15, 20, 22]) : ∀ j, j < 5 → i ≠ cidx j := fun j hj e => h (e ▸ cidx_mem hj)
theorem not_b {i : Nat} (h : i ∉ [4, 9, 14, 19, 21]) : ∀ j, j < 5 → i ≠ bidx j := fun j hj e => h (e ▸ bidx_mem hj)
theorem depsP_all (L : Nat → Bool) (cl : ∀ i j, (i, j) ∈ depsP → L i = true → L j = true) (h : ∀ j, (24, j) ∈ depsP → L j = true) : ∀ i, i < 24 → L i = true := by
 have c : ∀ i j, L i = true → (i, j) ∈ depsP → L j = true := fun i j h m => cl i j m h
 have h23 := h 23 (by simp [depsP])
 have h22 := h 22 (by simp [depsP])
 have h0 := c 22 0 h22 (by simp [depsP])
 have h21 := c 22 21 h22 (by simp [depsP])
 have h20 := c 21 20 h21 (by simp [depsP])
 have h15 := c 20 15 h20 (by simp [depsP])
 have h10 := c 15 10 h15 (by simp [depsP])
 have h5 := c 10 5 h10 (by simp [depsP])
 have h16 := c 20 16 h20 (by simp [depsP])
 have h19 := c 20 19 h20 (by simp [depsP])
 have h18 := c 19 18 h19 (by simp [depsP])
 have h17 := c 18 17 h18 (by simp [depsP])
 have h11 := c 15 11 h15 (by simp [depsP])
 have h14 := c 15 14 h15 (by simp [depsP])
 have h13 := c 14 13 h14 (by simp [depsP])
 have h12 := c 13 12 h13 (by simp [depsP])
 have h6 := c 10 6 h10 (by simp [depsP])
 have h9 := c 10 9 h10 (by simp [depsP])
 have h8 := c 9 8 h9 (by simp [depsP])
 have h7 := c 8 7 h8 (by simp [depsP])
 have h1 := c 5 1 h5 (by simp [depsP])
 have h4 := c 5 4 h5 (by simp [depsP])
 have h3 := c 4 3 h4 (by simp [depsP])
 have h2 := c 3 2 h3 (by simp [depsP])
 intro i hi
 have : i = 0 ∨ i = 1 ∨ i = 2 ∨ i = 3 ∨ i = 4 ∨ i = 5 ∨ i = 6 ∨ i = 7 ∨ i = 8 ∨ i = 9 ∨ i = 10 ∨ i = 11 ∨ i = 12 ∨ i = 13 ∨ i = 14 ∨ i = 15 ∨ i = 16 ∨ i = 17 ∨ i = 18 ∨ i = 19 ∨ i = 20 ∨ i = 21 ∨ i = 22 ∨ i = 23 := by omega
 rcases this with rfl | rfl | rfl | rfl | rfl | rfl | rfl | rfl | rfl | rfl | rfl | rfl | rfl | rfl | rfl | rfl | rfl | rfl | rfl | rfl | rfl | rfl | rfl | rfl <;> assumption
def PdP (mp : Option (Nat × Nat)) (g0 : Nat) (B sb L1 : Nat) (fr2 fd2 : Int) (F : Int → Int → Int) (n : Nat) (fr fd : Int) (K : Nat) (w : World) (e : Ending) (w' : World) : Prop :=
 ∃ t g cap qs, e = .returned (.agg #[.pointer (some ⟨sb, 0, none⟩), .int .i32 ((t : Nat) : Int), .int .i64 (L1 : Int), .int .i64 fr2, .int .i64 fd2]) ∧ StkA w' sb B g cap qs mp ∧ WFQ qs (n + 1) t ∧ (∀ u v, valQ qs (n + 1) t (u - fr2) (v - fd2) = F u v) ∧ qs.length ≤ K + 5 ∧ KpS sb g0 g w w' mp
set_option maxRecDepth 100000 in
set_option maxHeartbeats 12800000 in
theorem padded_any (mp : Option (Nat × Nat)) (B sb t L : Nat) (fr fd : Int) (F : Int → Int → Int) (n g cap : Nat) (qs : List Sq) (w : World) (h : StkA w sb B g cap qs mp) (hw : WFQ qs (n + 1) t) (hL : L = n + 4) (hn : n ≤ 43) (hv : ∀ u v, valQ qs (n + 1) t (u - fr) (v - fd) = F u v) (b1 : -288230376151711744 ≤ fr ∧ fr ≤ 288230376151711744) (b2 : -288230376151711744 ≤ fd ∧ fd ≤ 288230376151711744) (hB : B ≤ w.heap.size) (hl : qs.length ≤ 1900000) (L1 : Nat) (hL1 : L1 = n + 5) (fr2 fd2 : Int) (hfr2 : fr2 = fr - sideI n) (hfd2 : fd2 = fd - sideI n) :
  Calls Tryz.prog 52 #[.agg #[.pointer (some ⟨sb, 0, none⟩), .int .i32 (t : Int), .int .i64 (L : Int), .int .i64 fr, .int .i64 fd]] w (PdP mp g B sb L1 fr2 fd2 F (n + 1) fr fd qs.length w) := by
 obtain ⟨w2, hw2⟩ : ∃ w2, (w.alloc (.cells #[.pointer (some ⟨sb, 0, none⟩), .int .i32 (t : Int), .int .i64 (L : Int), .int .i64 fr, .int .i64 fd] 72)).alloc (.cells #[.pointer none, .int .i32 0, .int .i64 0, .int .i64 0, .int .i64 0] 72) = w2 := ⟨_, rfl⟩
 obtain ⟨fb, hfbb⟩ : ∃ fb, w.heap.size = fb := ⟨_, rfl⟩
 have HW2 := hide' hw2
 have HFB := hide' hfbb
 have B2 := hide' (show Below w.heap.size w w2 by rw [← hw2]; exact ((Below.refl _ _).alloc (Nat.le_refl _) _).alloc (by simp) _)
 have F2 := hide' (show w2.heap[fb]? = some (.cells #[.pointer (some ⟨sb, 0, none⟩), .int .i32 (t : Int), .int .i64 (L : Int), .int .i64 fr, .int .i64 fd] 72 (0, 0)) by rw [← hw2, ← hfbb]; exact (heap_alloc_old _ _ (by simp)).trans (heap_alloc_new w _))
 have R2 := hide' (show w2.heap[fb + 1]? = some (.cells #[.pointer none, .int .i32 0, .int .i64 0, .int .i64 0, .int .i64 0] 72 (0, 0)) by rw [← hw2]; exact heap_atX _ _ _ (by simp [hfbb]))
 have K2 := hide' (h.below B2.out)
 have lt := hw.lt h.st
 obtain ⟨q0, q1, q2, q3, -, -⟩ := K2.out.cells lt
 obtain ⟨p0, hp0⟩ : ∃ p, (sqA qs t).a = p := ⟨_, rfl⟩
 obtain ⟨p1, hp1⟩ : ∃ p, (sqA qs t).b = p := ⟨_, rfl⟩
 obtain ⟨p2, hp2⟩ : ∃ p, (sqA qs t).c = p := ⟨_, rfl⟩
 obtain ⟨p3, hp3⟩ : ∃ p, (sqA qs t).d = p := ⟨_, rfl⟩
 rw [hp0] at q0
 rw [hp1] at q1
 rw [hp2] at q2
 rw [hp3] at q3
 have HPP := hide' (And.intro hp0 (And.intro hp1 (And.intro hp2 hp3)))
 have f0 := cell_of_row w2 fb 0 _ _ _ F2.out
 have f1 := cell_of_row w2 fb 1 _ _ _ F2.out
 have f2 := cell_of_row w2 fb 2 _ _ _ F2.out
 have c0 := K2.out.c0
 obtain ⟨qn, hqn⟩ : ∃ n, qs.length = n := ⟨_, rfl⟩
 rw [hqn] at c0 lt
 simp at f0 f1 f2
 have l1 : (t : Int) < (qn : Int) := by omega
 obtain ⟨L', hL'⟩ : ∃ L', n + 3 = L' := ⟨_, rfl⟩
 have e1 : (L : Int) - 1 = (L' : Int) := by omega
 have e2 : L' ≤ 48 := by omega
 have e3 : IntKind.i64.wrap (L' : Int) = (L' : Int) := by simp [IntKind.wrap, IntKind.bits, IntKind.signed]; omega
 have HA := hide' (And.intro h (And.intro hw (And.intro hL (And.intro hn hv))))
 have HBD := hide' (And.intro b1 (And.intro b2 (And.intro hB hl)))
 have HL1 := hide' (And.intro hL1 (And.intro hfr2 (And.intro hfd2 hL')))
 have HQN := hide' hqn
 clear hw2 hfbb h hw hL hn hv b1 b2 hB hl hL1 hfr2 hfd2 hp0 hp1 hp2 hp3 hqn hL' lt
 go_enter Tryz.func52, Tryz.ntmps52
 go_upto_region 1 with fail
 rw [HW2.out, HFB.out]
 have SA := hide' (And.intro f0 (And.intro f1 (And.intro f2 (And.intro c0 (And.intro q0 (And.intro q1 (And.intro q2 q3)))))))
 have KP := hide' (fun (o : Obj) => show (w2.alloc o).cell? ⟨fb, 0, none⟩ = some (.pointer (some ⟨sb, 0, none⟩)) ∧ (w2.alloc o).cell? ⟨fb, 1, none⟩ = some (.int .i32 (t : Int)) ∧ (w2.alloc o).cell? ⟨fb, 2, none⟩ = some (.int .i64 (L : Int)) ∧ (w2.alloc o).cell? ⟨sb, 0, none⟩ = some (.slice (some ⟨g, 0, none⟩) qn cap) ∧ (w2.alloc o).cell? ⟨g, t * 6, none⟩ = some (.int .i32 (p0 : Int)) ∧ (w2.alloc o).cell? ⟨g, t * 6 + 1, none⟩ = some (.int .i32 (p1 : Int)) ∧ (w2.alloc o).cell? ⟨g, t * 6 + 2, none⟩ = some (.int .i32 (p2 : Int)) ∧ (w2.alloc o).cell? ⟨g, t * 6 + 3, none⟩ = some (.int .i32 (p3 : Int)) from by
  have a1 := lt_of_block F2.out
  have a2 := K2.out.lt
  exact ⟨(World.cell?_alloc_lt _ o _ a1).trans f0, (World.cell?_alloc_lt _ o _ a1).trans f1, (World.cell?_alloc_lt _ o _ a1).trans f2, (World.cell?_alloc_lt _ o _ a2.1).trans c0, (World.cell?_alloc_lt _ o _ a2.2).trans q0, (World.cell?_alloc_lt _ o _ a2.2).trans q1, (World.cell?_alloc_lt _ o _ a2.2).trans q2, (World.cell?_alloc_lt _ o _ a2.2).trans q3⟩)
 go_region_held3 (fun V => V.cell? ⟨fb, 0, none⟩ = some (.pointer (some ⟨sb, 0, none⟩)) ∧ V.cell? ⟨fb, 1, none⟩ = some (.int .i32 (t : Int)) ∧ V.cell? ⟨fb, 2, none⟩ = some (.int .i64 (L : Int)) ∧ V.cell? ⟨sb, 0, none⟩ = some (.slice (some ⟨g, 0, none⟩) qn cap) ∧ V.cell? ⟨g, t * 6, none⟩ = some (.int .i32 (p0 : Int)) ∧ V.cell? ⟨g, t * 6 + 1, none⟩ = some (.int .i32 (p1 : Int)) ∧ V.cell? ⟨g, t * 6 + 2, none⟩ = some (.int .i32 (p2 : Int)) ∧ V.cell? ⟨g, t * 6 + 3, none⟩ = some (.int .i32 (p3 : Int))) (first | exact SA.out | exact KP.out _ | go_keep | fail) (fail)
 obtain ⟨sd, hsd⟩ : ∃ sd, sideI n = sd := ⟨_, rfl⟩
 have e4 : IntKind.i64.wrap (2 ^ L') = sd := by
  have : (2 : Int) ^ L' = sd := by rw [← HL1.out.2.2.2, ← hsd, sideI_nat]; push_cast; rfl
  rw [this]
  have h1 := sideI_le (n := n) (by have := HA.out.2.2.2.1; omega)
  have h2 := sideI_pos n
  simp [IntKind.wrap, IntKind.bits, IntKind.signed]; omega
 rw [e4]
 have SD := hide' hsd
 obtain ⟨pb, hpb⟩ : ∃ pb, w2.heap.size = pb := ⟨_, rfl⟩
 obtain ⟨w3, hw3⟩ : ∃ w3, (w2.alloc (.cells #[.int .i32 (p0 : Int), .int .i32 (p1 : Int), .int .i32 (p2 : Int), .int .i32 (p3 : Int)] 87)).drew = w3 := ⟨_, rfl⟩
 have B3 := hide' (show Below w2.heap.size w2 w3 by rw [← hw3]; exact ((Below.refl _ _).alloc (Nat.le_refl _) _).drew)
 have P3 := hide' (show w3.heap[pb]? = some (.cells #[.int .i32 (p0 : Int), .int .i32 (p1 : Int), .int .i32 (p2 : Int), .int .i32 (p3 : Int)] 87 (0, 0)) by rw [← hw3, ← hpb]; exact heap_alloc_new _ _)
 have K3 := hide' (K2.out.below B3.out)
 have F3 := hide' ((B3.out.block _ (lt_of_block F2.out)).trans F2.out)
 have R3 := hide' ((B3.out.block _ (lt_of_block R2.out)).trans R2.out)
 rw [hw3, hpb]
 clear hw3 hpb e4 hsd f0 f1 f2 c0 q0 q1 q2 q3 l1 e1 e2 e3 SA KP
 have NE := hide' (And.intro (K3.out.ne_four P3.out (by decide) (by decide)) (And.intro (K3.out.ne_four F3.out (by decide) (by decide)) (K3.out.ne_four R3.out (by decide) (by decide))))
 have LTP := hide' (And.intro (lt_of_block P3.out) (And.intro (lt_of_block F3.out) (lt_of_block R3.out)))
 have PTS := hide' (HA.out.2.1.parts HA.out.1.st)
 have B03 := hide' (show Below B w w3 from (B2.out.mono HBD.out.2.2.1).trans (B3.out.mono (Nat.le_trans HBD.out.2.2.1 B2.out.size)))
 go_upto_region 2 with fail
 obtain ⟨pvl, hpvl⟩ : ∃ l : List (Option Value), l = [some (.pointer (some ⟨sb, 0, none⟩)), some (.pointer (some ⟨sb, 0, none⟩)), some (.pointer (some ⟨pb, 0, none⟩)), some (.int .i32 (p0 : Int)), none, none, some (.pointer (some ⟨sb, 0, none⟩)), some (.pointer (some ⟨pb, 1, none⟩)), some (.int .i32 (p1 : Int)), none, none, some (.pointer (some ⟨sb, 0, none⟩)), some (.pointer (some ⟨pb, 2, none⟩)), some (.int .i32 (p2 : Int)), none, none, some (.pointer (some ⟨sb, 0, none⟩)), some (.pointer (some ⟨pb, 3, none⟩)), some (.int .i32 (p3 : Int)), none, none, none, none, some (.pointer (some ⟨fb, 1, none⟩))] := ⟨_, rfl⟩
 refine regionV (by kernel_rfl) _ 24 22 depsP (PdR mp pvl p0 p1 p2 p3 qs sb B g w3) ⟨fb, 1, none⟩ (fun vals => vals 22) rfl (by simp) rfl rfl (by kernel_rfl) (by kernel_rfl) depsP_all ?hcong ?h0 ?hstep ?hlast ?hQ
 case hcong =>
  intro L L' vals w' e h
  exact h.cong (by rw [hpvl]; rfl) e
 case h0 =>
  refine ⟨fun i v _ h => (by cases h), 0, fun _ => 0, qs, g, cap, by omega, fun i hi => ⟨fun h => (by cases h), fun h => absurd h (by omega)⟩, fun i hi => absurd hi (by omega), rfl, K3.out.drewS, KpS.of_below ((Below.refl _ _).drew), fun h => (by cases h), fun i hi h => (by cases h)⟩
 case hlast =>
  intro L vals w' a o K ho hR al hk hv hK
  obtain rfl := Option.some.inj ho
  obtain ⟨h1, k, ts, qs', g', cap', h2, h3, h4, h5, h6, h7, h8, h9⟩ := hR
  have k5 := (h3 4 (by omega)).1 (al 22 (by omega))
  have e22 := h4 4 (by omega)
  have d22 := hv 22 (by omega)
  have d23 := hv 23 (by omega)
  have e22' : vals 22 = .int .i32 (ts 4 : Int) := e22
  rw [e22'] at d22 hK
  rw [h1 23 (.pointer (some ⟨fb, 1, none⟩)) (by rw [hpvl]; rfl) (al 23 (by omega))] at d23
  have hfb := (h7.keepM fb LTP.out.2.1 NE.out.2.1.1 NE.out.2.1.2 (K3.out.nomap F3.out)).trans F3.out
  have x5 := cell_of_row w' fb 1 _ _ _ hfb
  have x6 := frozen_of_row w' fb 1 _ _ hfb
  simp at x5
  have d22' : a.tmps[44]? = some (.int .i32 (ts 4 : Int)) := d22
  have d23' : a.tmps[45]? = some (.pointer (some ⟨fb, 1, none⟩)) := d23
  unfold Oper.wp
  simp [execOp, Act.eval, go_sem, d22', d23', x5, x6]
  exact hK
 case hstep =>
  intro L vals w' a i o K hi ho hR cl hLi need hk hv hK
  have t1 : a.tmps[1]? = some (.pointer (some ⟨fb, 0, none⟩)) := (hk 1 (by omega)).trans rfl
  have t3 : a.tmps[3]? = some (.pointer (some ⟨sb, 0, none⟩)) := (hk 3 (by omega)).trans rfl
  have t4 : a.tmps[4]? = some (.pointer (some ⟨pb, 0, none⟩)) := (hk 4 (by omega)).trans rfl
  have hpb : w'.heap[pb]? = some (.cells #[.int .i32 (p0 : Int), .int .i32 (p1 : Int), .int .i32 (p2 : Int), .int .i32 (p3 : Int)] 87 (0, 0)) := by
   obtain ⟨h1, k, ts, qs', g', cap', h2, h3, h4, h5, h6, h7, h8, h9⟩ := hR
   exact (h7.keepM pb LTP.out.1 NE.out.1.1 NE.out.1.2 (K3.out.nomap P3.out)).trans P3.out
  have y0 := cell_of_row w' pb 0 _ _ _ hpb
  have y1 := cell_of_row w' pb 1 _ _ _ hpb
  have y2 := cell_of_row w' pb 2 _ _ _ hpb
  have y3 := cell_of_row w' pb 3 _ _ _ hpb
  simp at y0 y1 y2 y3
  have bw : B ≤ w'.heap.size := by
   obtain ⟨h1, k, ts, qs', g', cap', h2, h3, h4, h5, h6, h7, h8, h9⟩ := hR
   have := h7.size
   have := B03.out.size
   have := HBD.out.2.2.1
   omega
  have CAL := hide' (fun (ci : Nat) (c5 : ci < 5) (x : Nat) (hx : vals (bidx ci) = .slice (some ⟨x, 0, none⟩) 4 4) (hb : L (bidx ci) = true) (hc : L (cidx ci) = false) (hp : ∀ j, j < ci → L (cidx j) = true) (K' : Value → World → Prop) (hK' : ∀ v W, PdR mp pvl p0 p1 p2 p3 qs sb B g w3 (fun j => if j = cidx ci then true else L j) (fun j => if j = cidx ci then v else vals j) W → K' v W) => show Calls Tryz.prog 84 #[.pointer (some ⟨sb, 0, none⟩), .slice (some ⟨x, 0, none⟩) 4 4] w' (fun e W => ∃ v, e = .returned v ∧ K' v W) from by
   obtain ⟨h1, k, ts, qs', g', cap', h2, h3, h4, h5, h6, h7, h8, h9⟩ := hR
   have kk : k = ci := by
    have a1 : ¬ ci < k := fun c => by have := (h3 ci c5).2 c; rw [hc] at this; cases this
    rcases Nat.lt_or_ge k ci with c | c
    ·exact absurd ((h3 k (by omega)).1 (hp k c)) (by omega)
    ·omega
   obtain ⟨x', e1, e2⟩ := h9 ci c5 hb
   rw [hx] at e1
   injection e1 with e1
   injection e1 with e1
   injection e1 with e1
   subst e1
   have bx := e2 (by omega)
   obtain ⟨ms, em, lm⟩ := h5.len
   have lq : qs'.length = qs.length + ms.length := by rw [em, List.length_append]
   have LA : ∀ j, j < 4 → AAp p0 p1 p2 p3 ts ci j < qs'.length := fun j hj => by
    have z := h6.st.1
    have l0 := PTS.out.1.lt HA.out.1.st
    have l1 := PTS.out.2.1.lt HA.out.1.st
    have l2 := PTS.out.2.2.1.lt HA.out.1.st
    have l3 := PTS.out.2.2.2.lt HA.out.1.st
    rw [HPP.out.1] at l0
    rw [HPP.out.2.1] at l1
    rw [HPP.out.2.2.1] at l2
    rw [HPP.out.2.2.2] at l3
    unfold AAp
    split
    ·split <;> omega
    ·split
     ·split <;> omega
     ·split
      ·split <;> omega
      ·split
       ·split <;> omega
       ·exact h5.lts HA.out.1.st j (by omega)
   refine (join_stkM mp sb B g' cap' qs' _ _ _ _ x 4 w' h6 bw (by have := HBD.out.2.2.2; omega) (LA 0 (by omega)) (LA 1 (by omega)) (LA 2 (by omega)) (LA 3 (by omega)) (cell_of_row w' x 0 _ _ _ bx) (cell_of_row w' x 1 _ _ _ bx) (cell_of_row w' x 2 _ _ _ bx) (cell_of_row w' x 3 _ _ _ bx)).mono ?_
   rintro e W ⟨g2, cap2, qs2, t2, rfl, hs, hj, hkp⟩
   refine ⟨_, rfl, hK' _ _ (PdR.call (v4 := .bool true) c5 (by rw [hpvl]; have : ci = 0 ∨ ci = 1 ∨ ci = 2 ∨ ci = 3 ∨ ci = 4 := (by omega); rcases this with rfl | rfl | rfl | rfl | rfl <;> rfl) h1 h3 h4 h5 h6 h7 h8 h9 kk hs hj hkp (fun j hj hij q => ?_))⟩
   rcases Nat.lt_or_ge j 4 with c | c
   ·exact c
   ·obtain rfl : j = 4 := by omega
    have := h8 q
    omega)
  have BLD := hide' (fun (ci : Nat) (c5 : ci < 5) (ts' : Nat → Nat) (hts : ci = 4 → (∀ j, j < 4 → L (cidx j) = true ∧ vals (cidx j) = .int .i32 (ts' j : Int))) => hR.build c5 (by rw [hpvl]; have : ci = 0 ∨ ci = 1 ∨ ci = 2 ∨ ci = 3 ∨ ci = 4 := (by omega); rcases this with rfl | rfl | rfl | rfl | rfl <;> rfl) ts' hts)
  have PUR := hide' (fun (j : Nat) (v : Value) (hj : pvl[j]? = some (some v)) (hc : j ∉ [5, 10, 15, 20, 22]) (hb : j ∉ [4, 9, 14, 19, 21]) => hR.pure hj (not_c hc) (not_b hb))
  have this : i = 0 ∨ i = 1 ∨ i = 2 ∨ i = 3 ∨ i = 4 ∨ i = 5 ∨ i = 6 ∨ i = 7 ∨ i = 8 ∨ i = 9 ∨ i = 10 ∨ i = 11 ∨ i = 12 ∨ i = 13 ∨ i = 14 ∨ i = 15 ∨ i = 16 ∨ i = 17 ∨ i = 18 ∨ i = 19 ∨ i = 20 ∨ i = 21 ∨ i = 22 ∨ i = 23 := by omega
  rcases this with rfl | rfl | rfl | rfl | rfl | rfl | rfl | rfl | rfl | rfl | rfl | rfl | rfl | rfl | rfl | rfl | rfl | rfl | rfl | rfl | rfl | rfl | rfl | rfl
  ·obtain rfl := Option.some.inj ho
   unfold Oper.wp
   simp [execOp, Act.eval, go_sem, t3]
   exact hK _ _ (PUR.out 0 _ (by rw [hpvl]; rfl) (by decide) (by decide))
  ·obtain rfl := Option.some.inj ho
   unfold Oper.wp
   simp [execOp, Act.eval, go_sem, t3]
   exact hK _ _ (PUR.out 1 _ (by rw [hpvl]; rfl) (by decide) (by decide))
  ·obtain rfl := Option.some.inj ho
   unfold Oper.wp
   simp [execOp, Act.eval, go_sem, t4]
   exact hK _ _ (PUR.out 2 _ (by rw [hpvl]; rfl) (by decide) (by decide))
  ·obtain rfl := Option.some.inj ho
   have d : a.tmps[24]? = some (.pointer (some ⟨pb, 0, none⟩)) := (hv 2 (by omega) (need 2 (by simp [depsP]))).trans (by rw [hR.1 2 (.pointer (some ⟨pb, 0, none⟩)) (by rw [hpvl]; rfl) (need 2 (by simp [depsP]))])
   unfold Oper.wp
   simp [execOp, Act.eval, go_sem, d, y0]
   exact hK _ _ (PUR.out 3 _ (by rw [hpvl]; rfl) (by decide) (by decide))
  ·obtain rfl := Option.some.inj ho
   have d : a.tmps[25]? = some (.int .i32 (p0 : Int)) := (hv 3 (by omega) (need 3 (by simp [depsP]))).trans (by rw [hR.1 3 (.int .i32 (p0 : Int)) (by rw [hpvl]; rfl) (need 3 (by simp [depsP]))])
   have ex := BLD.out 0 (by omega) (fun _ => 0) (fun h => absurd h (by omega))
   unfold Oper.wp
   simp [execOp, Act.eval, go_sem, d]
   exact hK _ _ ex
  ·obtain ⟨x, hx⟩ : ∃ x, vals 4 = .slice (some ⟨x, 0, none⟩) 4 4 := by
    obtain ⟨h1, k, ts, qs', g', cap', h2, h3, h4, h5, h6, h7, h8, h9⟩ := hR
    obtain ⟨x, e, _⟩ := h9 0 (by omega) (need 4 (by simp [depsP]))
    exact ⟨x, e⟩
   have d : a.tmps[23]? = some (.pointer (some ⟨sb, 0, none⟩)) := (hv 1 (by omega) (need 1 (by simp [depsP]))).trans (by rw [hR.1 1 (.pointer (some ⟨sb, 0, none⟩)) (by rw [hpvl]; rfl) (need 1 (by simp [depsP]))])
   have d2 : a.tmps[26]? = some (.slice (some ⟨x, 0, none⟩) 4 4) := (hv 4 (by omega) (need 4 (by simp [depsP]))).trans (by rw [hx])
   have ex : (execOp a.eval o).run Tryz.prog w' = .ok (.enter 84 #[.pointer (some ⟨sb, 0, none⟩), .slice (some ⟨x, 0, none⟩) 4 4]) w' := by obtain rfl := Option.some.inj ho; simp [execOp, Act.eval, go_sem, d, d2]
   unfold Oper.wp
   rw [ex, Oper.upon_enter]
   refine (CAL.out 0 (by omega) x hx (need 4 (by simp [depsP])) hLi (fun j hj => ?_) (fun v W => K (a.put o.dst v) W) (fun v W hr => hK v W hr)).mono ?_
   ·exact absurd hj (by omega)
   ·rintro e W ⟨v, rfl, hr⟩
    exact hr
  ·obtain rfl := Option.some.inj ho
   unfold Oper.wp
   simp [execOp, Act.eval, go_sem, t3]
   exact hK _ _ (PUR.out 6 _ (by rw [hpvl]; rfl) (by decide) (by decide))
  ·obtain rfl := Option.some.inj ho
   unfold Oper.wp
   simp [execOp, Act.eval, go_sem, t4]
   exact hK _ _ (PUR.out 7 _ (by rw [hpvl]; rfl) (by decide) (by decide))
  ·obtain rfl := Option.some.inj ho
   have d : a.tmps[29]? = some (.pointer (some ⟨pb, 1, none⟩)) := (hv 7 (by omega) (need 7 (by simp [depsP]))).trans (by rw [hR.1 7 (.pointer (some ⟨pb, 1, none⟩)) (by rw [hpvl]; rfl) (need 7 (by simp [depsP]))])
   unfold Oper.wp
   simp [execOp, Act.eval, go_sem, d, y1]
   exact hK _ _ (PUR.out 8 _ (by rw [hpvl]; rfl) (by decide) (by decide))
  ·obtain rfl := Option.some.inj ho
   have d : a.tmps[30]? = some (.int .i32 (p1 : Int)) := (hv 8 (by omega) (need 8 (by simp [depsP]))).trans (by rw [hR.1 8 (.int .i32 (p1 : Int)) (by rw [hpvl]; rfl) (need 8 (by simp [depsP]))])
   have ex := BLD.out 1 (by omega) (fun _ => 0) (fun h => absurd h (by omega))
   unfold Oper.wp
   simp [execOp, Act.eval, go_sem, d]
   exact hK _ _ ex
  ·obtain ⟨x, hx⟩ : ∃ x, vals 9 = .slice (some ⟨x, 0, none⟩) 4 4 := by
    obtain ⟨h1, k, ts, qs', g', cap', h2, h3, h4, h5, h6, h7, h8, h9⟩ := hR
    obtain ⟨x, e, _⟩ := h9 1 (by omega) (need 9 (by simp [depsP]))
    exact ⟨x, e⟩
   have d : a.tmps[28]? = some (.pointer (some ⟨sb, 0, none⟩)) := (hv 6 (by omega) (need 6 (by simp [depsP]))).trans (by rw [hR.1 6 (.pointer (some ⟨sb, 0, none⟩)) (by rw [hpvl]; rfl) (need 6 (by simp [depsP]))])
   have d2 : a.tmps[31]? = some (.slice (some ⟨x, 0, none⟩) 4 4) := (hv 9 (by omega) (need 9 (by simp [depsP]))).trans (by rw [hx])
   have q0 := need 5 (by simp [depsP])
   have ex : (execOp a.eval o).run Tryz.prog w' = .ok (.enter 84 #[.pointer (some ⟨sb, 0, none⟩), .slice (some ⟨x, 0, none⟩) 4 4]) w' := by obtain rfl := Option.some.inj ho; simp [execOp, Act.eval, go_sem, d, d2]
   unfold Oper.wp
   rw [ex, Oper.upon_enter]
   refine (CAL.out 1 (by omega) x hx (need 9 (by simp [depsP])) hLi (fun j hj => ?_) (fun v W => K (a.put o.dst v) W) (fun v W hr => hK v W hr)).mono ?_
   ·have : j = 0 := by omega
    subst this; exact q0
   ·rintro e W ⟨v, rfl, hr⟩
    exact hr
  ·obtain rfl := Option.some.inj ho
   unfold Oper.wp
   simp [execOp, Act.eval, go_sem, t3]
   exact hK _ _ (PUR.out 11 _ (by rw [hpvl]; rfl) (by decide) (by decide))
  ·obtain rfl := Option.some.inj ho
   unfold Oper.wp
   simp [execOp, Act.eval, go_sem, t4]
   exact hK _ _ (PUR.out 12 _ (by rw [hpvl]; rfl) (by decide) (by decide))
  ·obtain rfl := Option.some.inj ho
   have d : a.tmps[34]? = some (.pointer (some ⟨pb, 2, none⟩)) := (hv 12 (by omega) (need 12 (by simp [depsP]))).trans (by rw [hR.1 12 (.pointer (some ⟨pb, 2, none⟩)) (by rw [hpvl]; rfl) (need 12 (by simp [depsP]))])
   unfold Oper.wp
   simp [execOp, Act.eval, go_sem, d, y2]
   exact hK _ _ (PUR.out 13 _ (by rw [hpvl]; rfl) (by decide) (by decide))
  ·obtain rfl := Option.some.inj ho
   have d : a.tmps[35]? = some (.int .i32 (p2 : Int)) := (hv 13 (by omega) (need 13 (by simp [depsP]))).trans (by rw [hR.1 13 (.int .i32 (p2 : Int)) (by rw [hpvl]; rfl) (need 13 (by simp [depsP]))])
   have ex := BLD.out 2 (by omega) (fun _ => 0) (fun h => absurd h (by omega))
   unfold Oper.wp
   simp [execOp, Act.eval, go_sem, d]
   exact hK _ _ ex
  ·obtain ⟨x, hx⟩ : ∃ x, vals 14 = .slice (some ⟨x, 0, none⟩) 4 4 := by
    obtain ⟨h1, k, ts, qs', g', cap', h2, h3, h4, h5, h6, h7, h8, h9⟩ := hR
    obtain ⟨x, e, _⟩ := h9 2 (by omega) (need 14 (by simp [depsP]))
    exact ⟨x, e⟩
   have d : a.tmps[33]? = some (.pointer (some ⟨sb, 0, none⟩)) := (hv 11 (by omega) (need 11 (by simp [depsP]))).trans (by rw [hR.1 11 (.pointer (some ⟨sb, 0, none⟩)) (by rw [hpvl]; rfl) (need 11 (by simp [depsP]))])
   have d2 : a.tmps[36]? = some (.slice (some ⟨x, 0, none⟩) 4 4) := (hv 14 (by omega) (need 14 (by simp [depsP]))).trans (by rw [hx])
   have q1 := need 10 (by simp [depsP])
   have q0 := cl 10 5 (by simp [depsP]) q1
   have ex : (execOp a.eval o).run Tryz.prog w' = .ok (.enter 84 #[.pointer (some ⟨sb, 0, none⟩), .slice (some ⟨x, 0, none⟩) 4 4]) w' := by obtain rfl := Option.some.inj ho; simp [execOp, Act.eval, go_sem, d, d2]
   unfold Oper.wp
   rw [ex, Oper.upon_enter]
   refine (CAL.out 2 (by omega) x hx (need 14 (by simp [depsP])) hLi (fun j hj => ?_) (fun v W => K (a.put o.dst v) W) (fun v W hr => hK v W hr)).mono ?_
   ·have : j = 0 ∨ j = 1 := by omega
    rcases this with rfl | rfl
    ·exact q0
    ·exact q1
   ·rintro e W ⟨v, rfl, hr⟩
    exact hr
  ·obtain rfl := Option.some.inj ho
   unfold Oper.wp
   simp [execOp, Act.eval, go_sem, t3]
   exact hK _ _ (PUR.out 16 _ (by rw [hpvl]; rfl) (by decide) (by decide))
  ·obtain rfl := Option.some.inj ho
   unfold Oper.wp
   simp [execOp, Act.eval, go_sem, t4]
   exact hK _ _ (PUR.out 17 _ (by rw [hpvl]; rfl) (by decide) (by decide))
  ·obtain rfl := Option.some.inj ho
   have d : a.tmps[39]? = some (.pointer (some ⟨pb, 3, none⟩)) := (hv 17 (by omega) (need 17 (by simp [depsP]))).trans (by rw [hR.1 17 (.pointer (some ⟨pb, 3, none⟩)) (by rw [hpvl]; rfl) (need 17 (by simp [depsP]))])
   unfold Oper.wp
   simp [execOp, Act.eval, go_sem, d, y3]
   exact hK _ _ (PUR.out 18 _ (by rw [hpvl]; rfl) (by decide) (by decide))
  ·obtain rfl := Option.some.inj ho
   have d : a.tmps[40]? = some (.int .i32 (p3 : Int)) := (hv 18 (by omega) (need 18 (by simp [depsP]))).trans (by rw [hR.1 18 (.int .i32 (p3 : Int)) (by rw [hpvl]; rfl) (need 18 (by simp [depsP]))])
   have ex := BLD.out 3 (by omega) (fun _ => 0) (fun h => absurd h (by omega))
   unfold Oper.wp
   simp [execOp, Act.eval, go_sem, d]
   exact hK _ _ ex
  ·obtain ⟨x, hx⟩ : ∃ x, vals 19 = .slice (some ⟨x, 0, none⟩) 4 4 := by
    obtain ⟨h1, k, ts, qs', g', cap', h2, h3, h4, h5, h6, h7, h8, h9⟩ := hR
    obtain ⟨x, e, _⟩ := h9 3 (by omega) (need 19 (by simp [depsP]))
    exact ⟨x, e⟩
   have d : a.tmps[38]? = some (.pointer (some ⟨sb, 0, none⟩)) := (hv 16 (by omega) (need 16 (by simp [depsP]))).trans (by rw [hR.1 16 (.pointer (some ⟨sb, 0, none⟩)) (by rw [hpvl]; rfl) (need 16 (by simp [depsP]))])
   have d2 : a.tmps[41]? = some (.slice (some ⟨x, 0, none⟩) 4 4) := (hv 19 (by omega) (need 19 (by simp [depsP]))).trans (by rw [hx])
   have q2 := need 15 (by simp [depsP])
   have q1 := cl 15 10 (by simp [depsP]) q2
   have q0 := cl 10 5 (by simp [depsP]) q1
   have ex : (execOp a.eval o).run Tryz.prog w' = .ok (.enter 84 #[.pointer (some ⟨sb, 0, none⟩), .slice (some ⟨x, 0, none⟩) 4 4]) w' := by obtain rfl := Option.some.inj ho; simp [execOp, Act.eval, go_sem, d, d2]
   unfold Oper.wp
   rw [ex, Oper.upon_enter]
   refine (CAL.out 3 (by omega) x hx (need 19 (by simp [depsP])) hLi (fun j hj => ?_) (fun v W => K (a.put o.dst v) W) (fun v W hr => hK v W hr)).mono ?_
   ·have : j = 0 ∨ j = 1 ∨ j = 2 := by omega
    rcases this with rfl | rfl | rfl
    ·exact q0
    ·exact q1
    ·exact q2
   ·rintro e W ⟨v, rfl, hr⟩
    exact hr
  ·obtain rfl := Option.some.inj ho
   obtain ⟨ts, hts⟩ : ∃ ts : Nat → Nat, ∀ j, j < 4 → L (cidx j) = true ∧ vals (cidx j) = .int .i32 (ts j : Int) := by
    obtain ⟨h1, k, ts, qs', g', cap', h2, h3, h4, h5, h6, h7, h8, h9⟩ := hR
    have q0 := need 5 (by simp [depsP])
    have q1 := need 10 (by simp [depsP])
    have q2 := need 15 (by simp [depsP])
    have q3 := need 20 (by simp [depsP])
    have k4 := (h3 3 (by omega)).1 q3
    refine ⟨ts, fun j hj => ⟨?_, h4 j (by omega)⟩⟩
    have : j = 0 ∨ j = 1 ∨ j = 2 ∨ j = 3 := by omega
    rcases this with rfl | rfl | rfl | rfl
    ·exact q0
    ·exact q1
    ·exact q2
    ·exact q3
   have d0 : a.tmps[27]? = some (.int .i32 (ts 0 : Int)) := (hv 5 (by omega) (hts 0 (by omega)).1).trans (by rw [← (hts 0 (by omega)).2]; rfl)
   have d1 : a.tmps[32]? = some (.int .i32 (ts 1 : Int)) := (hv 10 (by omega) (hts 1 (by omega)).1).trans (by rw [← (hts 1 (by omega)).2]; rfl)
   have d2 : a.tmps[37]? = some (.int .i32 (ts 2 : Int)) := (hv 15 (by omega) (hts 2 (by omega)).1).trans (by rw [← (hts 2 (by omega)).2]; rfl)
   have d3 : a.tmps[42]? = some (.int .i32 (ts 3 : Int)) := (hv 20 (by omega) (hts 3 (by omega)).1).trans (by rw [← (hts 3 (by omega)).2]; rfl)
   have ex := BLD.out 4 (by omega) ts (fun _ => hts)
   unfold Oper.wp
   simp [execOp, Act.eval, go_sem, d0, d1, d2, d3]
   exact hK _ _ ex
  ·obtain ⟨x, hx⟩ : ∃ x, vals 21 = .slice (some ⟨x, 0, none⟩) 4 4 := by
    obtain ⟨h1, k, ts, qs', g', cap', h2, h3, h4, h5, h6, h7, h8, h9⟩ := hR
    obtain ⟨x, e, _⟩ := h9 4 (by omega) (need 21 (by simp [depsP]))
    exact ⟨x, e⟩
   have d : a.tmps[22]? = some (.pointer (some ⟨sb, 0, none⟩)) := (hv 0 (by omega) (need 0 (by simp [depsP]))).trans (by rw [hR.1 0 (.pointer (some ⟨sb, 0, none⟩)) (by rw [hpvl]; rfl) (need 0 (by simp [depsP]))])
   have d2 : a.tmps[43]? = some (.slice (some ⟨x, 0, none⟩) 4 4) := (hv 21 (by omega) (need 21 (by simp [depsP]))).trans (by rw [hx])
   have q3 := need 20 (by simp [depsP])
   have q2 := cl 20 15 (by simp [depsP]) q3
   have q1 := cl 15 10 (by simp [depsP]) q2
   have q0 := cl 10 5 (by simp [depsP]) q1
   have ex : (execOp a.eval o).run Tryz.prog w' = .ok (.enter 84 #[.pointer (some ⟨sb, 0, none⟩), .slice (some ⟨x, 0, none⟩) 4 4]) w' := by obtain rfl := Option.some.inj ho; simp [execOp, Act.eval, go_sem, d, d2]
   unfold Oper.wp
   rw [ex, Oper.upon_enter]
   refine (CAL.out 4 (by omega) x hx (need 21 (by simp [depsP])) hLi (fun j hj => ?_) (fun v W => K (a.put o.dst v) W) (fun v W hr => hK v W hr)).mono ?_
   ·have : j = 0 ∨ j = 1 ∨ j = 2 ∨ j = 3 := by omega
    rcases this with rfl | rfl | rfl | rfl
    ·exact q0
    ·exact q1
    ·exact q2
    ·exact q3
   ·rintro e W ⟨v, rfl, hr⟩
    exact hr
  ·obtain rfl := Option.some.inj ho
   unfold Oper.wp
   simp [execOp, Act.eval, go_sem, t1]
   exact hK _ _ (PUR.out 23 _ (by rw [hpvl]; rfl) (by decide) (by decide))
 case hQ =>
  intro LL vals w' hR al
  obtain ⟨h1, k, ts, qs', g', cap', h2, h3, h4, h5, h6, h7, h8, h9⟩ := hR
  have k5 : k = 5 := by have := (h3 4 (by omega)).1 (al 22 (by omega)); omega
  subst k5
  have e22 : vals 22 = .int .i32 (ts 4 : Int) := h4 4 (by omega)
  obtain ⟨q4, ⟨q3, ⟨q2, ⟨q1, ⟨q0, hq0, j1⟩, j2⟩, j3⟩, j4⟩, j5⟩ := h5
  have hq0 : q0 = qs := hq0
  subst hq0
  have j1' : JoinQ q0 0 0 0 (sqA q0 t).a q1 (ts 0) := by rw [HPP.out.1]; exact j1
  have j2' : JoinQ q1 0 0 (sqA q0 t).b 0 q2 (ts 1) := by rw [HPP.out.2.1]; exact j2
  have j3' : JoinQ q2 0 (sqA q0 t).c 0 0 q3 (ts 2) := by rw [HPP.out.2.2.1]; exact j3
  have j4' : JoinQ q3 (sqA q0 t).d 0 0 0 q4 (ts 3) := by rw [HPP.out.2.2.2]; exact j4
  have j5' : JoinQ q4 (ts 0) (ts 1) (ts 2) (ts 3) qs' (ts 4) := j5
  have PV := hide' (pad_val HA.out.1.st HA.out.2.1 j1' j2' j3' j4' j5')
  obtain ⟨t5, ht5⟩ : ∃ t5, ts 4 = t5 := ⟨_, rfl⟩
  rw [ht5] at e22 PV
  have hfb := (h7.keepM fb LTP.out.2.1 NE.out.2.1.1 NE.out.2.1.2 (K3.out.nomap F3.out)).trans F3.out
  have hrb := (h7.keepM (fb + 1) LTP.out.2.2 NE.out.2.2.1 NE.out.2.2.2 (K3.out.nomap R3.out)).trans R3.out
  have fn := h6.ne_four hfb (by decide) (by decide)
  have rn := h6.ne_four hrb (by decide) (by decide)
  have nm := h6.nomap hfb
  have nr := h6.nomap hrb
  have NMR := hide' nr
  have zb : B ≤ fb := by have := HFB.out; have := HBD.out.2.2.1; omega
  obtain ⟨w5, hw5⟩ : ∃ w5, w'.setCell ⟨fb, 1, none⟩ (.int .i32 (t5 : Int)) = w5 := ⟨_, rfl⟩
  have e5 : w5.heap[fb]? = some (.cells #[.pointer (some ⟨sb, 0, none⟩), .int .i32 (t5 : Int), .int .i64 (L : Int), .int .i64 fr, .int .i64 fd] 72 (0, 0)) := by rw [← hw5, heap_setCell_same _ _ _ _ _ _ hfb]; rfl
  have r5 : w5.heap[fb + 1]? = some (.cells #[.pointer none, .int .i32 0, .int .i64 0, .int .i64 0, .int .i64 0] 72 (0, 0)) := by rw [← hw5]; exact (Below.heap_setCell _ _ _ _ (by show fb + 1 ≠ fb; omega)).trans hrb
  have S5 := hide' (show StkA w5 sb B g' cap' qs' mp by rw [← hw5]; exact h6.setM fn.1 fn.2 nm _)
  have B5 := hide' (show Below B w w5 by rw [← hw5]; exact (B03.out.trans (h7.belowM K3.out.le K3.out.rowB.1 (Nat.le_trans HBD.out.2.2.1 B03.out.size) (fun k e => K3.out.map.ge e))).setCell zb _)
  simp only [List.range, List.range.loop, List.map, putsFrom]
  rw [e22, hw5]
  have hw5' := hw5
  obtain ⟨hb1, hb2, _, _⟩ := HBD.out
  have s1 := sideI_pos n
  have s2 := sideI_le (n := n) (by have := HA.out.2.2.2.1; omega)
  rw [SD.out] at s1 s2
  have hl := HL1.out
  rw [SD.out] at hl
  have u1 : (L : Int) + 1 = (L1 : Int) := by have := HA.out.2.2.1; omega
  have u2 : L1 ≤ 48 := by have := HA.out.2.2.2.1; omega
  have u3 : wrap64 (fr - sd) = fr2 := by rw [hl.2.1]; unfold wrap64; omega
  have u4 : wrap64 (fd - sd) = fd2 := by rw [hl.2.2.1]; unfold wrap64; omega
  obtain ⟨w6, hw6⟩ : ∃ w6, ((w5.setCell ⟨fb, 2, none⟩ (.int .i64 (L1 : Int))).setCell ⟨fb, 3, none⟩ (.int .i64 fr2)).setCell ⟨fb, 4, none⟩ (.int .i64 fd2) = w6 := ⟨_, rfl⟩
  have e6 : w6.heap[fb]? = some (.cells #[.pointer (some ⟨sb, 0, none⟩), .int .i32 (t5 : Int), .int .i64 (L1 : Int), .int .i64 fr2, .int .i64 fd2] 72 (0, 0)) := by
   rw [← hw6]
   have h0 : (w5.setCell ⟨fb, 2, none⟩ (.int .i64 (L1 : Int))).heap[fb]? = some (.cells #[.pointer (some ⟨sb, 0, none⟩), .int .i32 (t5 : Int), .int .i64 (L1 : Int), .int .i64 fr, .int .i64 fd] 72 (0, 0)) := by rw [heap_setCell_same _ _ _ _ _ _ e5]; rfl
   have h1 : ((w5.setCell ⟨fb, 2, none⟩ (.int .i64 (L1 : Int))).setCell ⟨fb, 3, none⟩ (.int .i64 fr2)).heap[fb]? = some (.cells #[.pointer (some ⟨sb, 0, none⟩), .int .i32 (t5 : Int), .int .i64 (L1 : Int), .int .i64 fr2, .int .i64 fd] 72 (0, 0)) := by rw [heap_setCell_same _ _ _ _ _ _ h0]; rfl
   rw [heap_setCell_same _ _ _ _ _ _ h1]; rfl
  have r6 : w6.heap[fb + 1]? = some (.cells #[.pointer none, .int .i32 0, .int .i64 0, .int .i64 0, .int .i64 0] 72 (0, 0)) := by
   rw [← hw6]
   exact (Below.heap_setCell _ _ _ _ (by show fb + 1 ≠ fb; omega)).trans ((Below.heap_setCell _ _ _ _ (by show fb + 1 ≠ fb; omega)).trans ((Below.heap_setCell _ _ _ _ (by show fb + 1 ≠ fb; omega)).trans r5))
  have S6 := hide' (show StkA w6 sb B g' cap' qs' mp by rw [← hw6]; exact ((S5.out.setM fn.1 fn.2 nm _).setM fn.1 fn.2 nm _).setM fn.1 fn.2 nm _)
  have K6 := hide' (show KpS sb g g' w w6 mp by
   rw [← hw6, ← hw5']
   have qf : w.heap.size ≤ fb := by have := HFB.out; omega
   exact (((((KpS.of_below B2.out).trans ((KpS.of_below B3.out).trans h7)).set qf _).set qf _).set qf _).set qf _)
  have HW6 := hide' hw6
  have RN := hide' rn
  have E6 := hide' (And.intro e6 r6)
  have ZB := hide' zb
  have HLL := hide' hl
  have c2 := cell_of_row w5 fb 2 _ _ _ e5
  have c3 := cell_of_row w5 fb 3 _ _ _ e5
  have c4 := cell_of_row w5 fb 4 _ _ _ e5
  have f2 := frozen_of_row w5 fb 2 _ _ e5
  have f3 := frozen_of_row w5 fb 3 _ _ e5
  have f4 := frozen_of_row w5 fb 4 _ _ e5
  simp at c2 c3 c4
  clear h1 h2 h3 h4 h6 h7 h8 h9 al j1 j2 j3 j4 j5 j1' j2' j3' j4' j5' hfb hrb fn rn hw5 hw5' e5 r5 hb1 hb2 s1 s2 hl hw6 e6 r6 zb e22 ht5 hpvl
  go_upto_region 6 with fail
  rw [HW6.out]
  clear c2 c3 c4 f2 f3 f4 u1 u2 u3 u4
  have x0 := cell_of_row w6 fb 0 _ _ _ E6.out.1
  have x1 := cell_of_row w6 fb 1 _ _ _ E6.out.1
  have x2 := cell_of_row w6 fb 2 _ _ _ E6.out.1
  have x3 := cell_of_row w6 fb 3 _ _ _ E6.out.1
  have x4 := cell_of_row w6 fb 4 _ _ _ E6.out.1
  have z0' := cell_of_row w6 (fb + 1) 0 _ _ _ E6.out.2
  have z1' := cell_of_row w6 (fb + 1) 1 _ _ _ E6.out.2
  have z2' := cell_of_row w6 (fb + 1) 2 _ _ _ E6.out.2
  have z3' := cell_of_row w6 (fb + 1) 3 _ _ _ E6.out.2
  have z4' := cell_of_row w6 (fb + 1) 4 _ _ _ E6.out.2
  have g0 := frozen_of_row w6 (fb + 1) 0 _ _ E6.out.2
  have g1 := frozen_of_row w6 (fb + 1) 1 _ _ E6.out.2
  have g2 := frozen_of_row w6 (fb + 1) 2 _ _ E6.out.2
  have g3 := frozen_of_row w6 (fb + 1) 3 _ _ E6.out.2
  have g4 := frozen_of_row w6 (fb + 1) 4 _ _ E6.out.2
  simp at x0 x1 x2 x3 x4 z0' z1' z2' z3' z4'
  go_wp2
  obtain ⟨X, hX⟩ : ∃ X, ((((w6.setCell ⟨fb + 1, 0, none⟩ (.pointer (some ⟨sb, 0, none⟩))).setCell ⟨fb + 1, 1, none⟩ (.int .i32 (t5 : Int))).setCell ⟨fb + 1, 2, none⟩ (.int .i64 (L1 : Int))).setCell ⟨fb + 1, 3, none⟩ (.int .i64 fr2)).setCell ⟨fb + 1, 4, none⟩ (.int .i64 fd2) = X := ⟨_, rfl⟩
  have GX : X.heap[fb + 1]? = some (.cells #[.pointer (some ⟨sb, 0, none⟩), .int .i32 (t5 : Int), .int .i64 (L1 : Int), .int .i64 fr2, .int .i64 fd2] 72 (0, 0)) := by rw [← hX]; exact five_stored E6.out.2 _ _ _ _ _
  have SX : StkA X sb B g' cap' qs' mp := by
   rw [← hX]
   exact S6.out.keepM (five_else (fun e => RN.out.1 e.symm) _ _ _ _ _) (five_else (fun e => RN.out.2 e.symm) _ _ _ _ _) (fun k e => five_else (fun q => NMR.out (by rw [← q]; exact e)) _ _ _ _ _)
  have qf : w.heap.size ≤ fb := by have := HFB.out; omega
  have qr : w.heap.size ≤ fb + 1 := by have := HFB.out; omega
  have KX : KpS sb g g' w X mp := by
   rw [← hX]
   exact ((((K6.out.set qr _).set qr _).set qr _).set qr _).set qr _
  rw [hX]
  clear hX x0 x1 x2 x3 x4 z0' z1' z2' z3' z4' g0 g1 g2 g3 g4
  have i0 := cell_of_row X _ 0 _ _ _ GX
  have i1 := cell_of_row X _ 1 _ _ _ GX
  have i2 := cell_of_row X _ 2 _ _ _ GX
  have i3 := cell_of_row X _ 3 _ _ _ GX
  have i4 := cell_of_row X _ 4 _ _ _ GX
  simp at i0 i1 i2 i3 i4
  refine bodyPost_ret (v := .agg #[.pointer (some ⟨sb, 0, none⟩), .int .i32 (t5 : Int), .int .i64 (L1 : Int), .int .i64 fr2, .int .i64 fd2]) (by simp [results, Tryz.results52, go_sem, i0, i1, i2, i3, i4]) rfl ?_
  obtain ⟨pw, pv, ms, em, lm⟩ := PV.out
  refine ⟨t5, g', cap', qs', rfl, SX, pw, fun u v => ?_, by rw [em, List.length_append]; omega, KX⟩
  have := pv (u - fr) (v - fd)
  rw [SD.out, HA.out.2.2.2.2 u v] at this
  rw [HLL.out.2.1, HLL.out.2.2.1, show u - (fr - sd) = u - fr + sd by omega, show v - (fd - sd) = v - fd + sd by omega]
  exact this
end Go.Proofs.YtemhcpldflcfbaaGreatDoor
