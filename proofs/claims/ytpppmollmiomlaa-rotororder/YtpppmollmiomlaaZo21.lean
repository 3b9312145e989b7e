/-
  What the last text of this claim leans on, part 21: LawRo.
-/
import Derived.Test.YtpppmollmiomlaaZo20
import Derived.Deep.RegionWith
namespace Go.Proofs.Ytpppmollmiomlaa
open Go.RowKit
set_option linter.unusedVariables false
set_option linter.unusedSimpArgs false
def TrueO (w : World) (e : Ending) (w' : World) : Prop := e = .returned (.bool true) ∧ Below w.heap.size w w'
/-- What a walk by one place of the order tells. -/
def StepF (V w' : World) (Q t : Nat) (xs : List EgT) (sg : Nat → Nat) (c : Nat → Int) (u : Nat → Nat) (x : Int) (a1 a2 : Option Addr) (n1 q1 q2 f : Nat) : Prop :=
  Below V.heap.size V w' ∧ (¬ f = 0 ∨ (f = 0 ∧ n1 = Q ∧ ∃ k : Nat, x = (k : Int) ∧ k < Q ∧ OrS Q t xs sg c (upR u k) ∧ ArgP w' (lsN Q (sgR (dgF xs) sg (upR u k))) a1 Q q1 ∧ ArgP w' (lsN Q (lfR Q t (wyF xs) (dgF xs) sg c (upR u k))) a2 Q q2 ∧ (∀ k g, a1 = some ⟨g, k, none⟩ → V.heap.size ≤ g) ∧ (∀ k g, a2 = some ⟨g, k, none⟩ → V.heap.size ≤ g)))
theorem step_one (P : Int) (xs : List EgT) (ea : Option Addr) (n c' : Nat) (s : Int) (Q t : Nat) (hP : P = (Q : Int)) (hs : s = (t : Int)) (sg : Nat → Nat) (c : Nat → Int) (u : Nat → Nat) (h : OrS Q t xs sg c u) (a1 a2 : Option Addr) (q1 q2 : Nat) (x : Int) (g off oc : Nat) (V : World) (hE : ArgE V xs ea n c') (h1 : ArgP V (lsN Q (sgR (dgF xs) sg u)) a1 Q q1) (h2 : ArgP V (lsN Q (lfR Q t (wyF xs) (dgF xs) sg c u)) a2 Q q2) (hg : g < V.heap.size) (hx : V.cell? ⟨g, off, none⟩ = some (.int .i64 x)) :
    Calls Try.prog 6 #[.agg #[.int .i64 P, .slice ea n c'], .int .i64 s, .slice a1 Q q1, .slice a2 Q q2, .slice (some ⟨g, off, none⟩) 1 oc] V fun e w' => ∃ a1' a2' n1 q1' q2' f, e = .returned (.tuple #[.slice a1' n1 q1', .slice a2' n1 q2', errOf f]) ∧ Hid (StepF V w' Q t xs sg c u x a1' a2' n1 q1' q2' f) := by
  have hO : ArgP V [x] (some ⟨g, off, none⟩) 1 oc := ⟨rfl, by unfold maxLen; omega, fun k hk => by
    have : k = 0 := by simp at hk; exact hk
    subst this
    exact ⟨g, off, rfl, hg, by simpa using hx⟩⟩
  refine (Walk_any P xs ea n c' s _ a1 Q q1 _ a2 Q q2 [x] (some ⟨g, off, none⟩) 1 oc V hE h1 h2 hO).mono ?_
  rintro e w' ⟨f, hf, b, h'⟩
  rcases h' with ⟨h0, rfl⟩ | ⟨rfl, Q', t', u', sb, sc, lb, lc, rfl, hW⟩
  · exact ⟨none, none, 0, 0, 0, f, rfl, b, Or.inl h0⟩
  · have e1 : Q' = Q := by have := hW.hP; omega
    have e2 : t' = t := by have := hW.hs; omega
    subst e1
    subst e2
    refine ⟨some ⟨sb, 0, none⟩, some ⟨lb, 0, none⟩, Q', sc, lc, 0, rfl, b, Or.inr ⟨rfl, rfl, ?_⟩⟩
    have hz : (wkP P s xs (lsN Q' (sgR (dgF xs) sg u)) (lsN Q' (lfR Q' t' (wyF xs) (dgF xs) sg c u)) [x]).1 = 0 := by
      rcases hf with hf | hf
      · exact absurd rfl hf.1
      · exact hf.2.symm
    have hu := hW.hu
    rw [hP, hs] at hz hu
    obtain ⟨k, k1, k2, k3, k4, k5⟩ := h.one x (f := (wkP (Q' : Int) (t' : Int) xs (lsN Q' (sgR (dgF xs) sg u)) (lsN Q' (lfR Q' t' (wyF xs) (dgF xs) sg c u)) [x]).1) (u' := u') (by rw [hu]) hz
    refine ⟨k, k1, k2, k3, ?_, ?_, fun j g e => ?_, fun j g e => ?_⟩
    · have := hW.sgs
      rw [k4] at this
      exact this
    · have := hW.lft
      rw [lsN_ext k5] at this
      exact this
    · simp at e; have := hW.fs; omega
    · simp at e; have := hW.fl; omega
theorem ArgP.setOther {V : World} {xs : List Int} {a : Option Addr} {n c mb i : Nat} {x : Value} (h : ArgP V xs a n c) (ne : ∀ k g, a = some ⟨g, k, none⟩ → g ≠ mb) : ArgP (V.setCell ⟨mb, i, none⟩ x) xs a n c :=
  ⟨h.len, h.max, fun k hk => by
    obtain ⟨g, off, e, hg, hc⟩ := h.cells k hk
    exact ⟨g, off, e, by rw [World.size_setCell]; exact hg, (World.cell?_of_block (w := V) (a := ⟨g, off + k, none⟩) (Below.heap_setCell _ _ _ _ (ne off g e))).trans hc⟩⟩
theorem slice_one (g off on oc i i1 : Nat) (h1 : i + 1 = i1) (h : i1 ≤ oc) (W : World) : (Instr.slice 25 (.slice (some ⟨g, off, none⟩) on oc) (some (.int .i64 (i : Int))) (some (.int .i64 (i1 : Int))) none).run Try.prog W = .ok (.slice (some ⟨g, off + i, none⟩) 1 (oc - i)) W := by
  have e : (Try.prog.elem 25) = 3 := by kernel_rfl
  have hu : Try.prog.underlying 25 = some (.slice (Try.prog.elem 25)) := by rw [e]; exact Try.underlying25
  rw [run_slice_lh W 25 (some ⟨g, off, none⟩) on oc hu .i64 .i64 (i : Int) (i1 : Int) (by omega) (by omega) (by omega), e]
  have z : Sem.run Try.prog (sizeOf 3) W = .ok 1 W := by kernel_rfl
  rw [z]
  have k : ¬ oc = i := by omega
  have d : i1 - i = 1 := by omega
  simp [sliced, k, d, Addr.add]
theorem slice_oneA (g off on oc i i1 : Nat) (h1 : i + 1 = i1) (h : i1 ≤ oc) (W : World) : (Instr.sliceAt 25 (.slice (some ⟨g, off, none⟩) on oc) (some (.int .i64 (i : Int))) (some (.int .i64 (i1 : Int))) none).run Try.prog W = .ok (.slice (some ⟨g, off + i, none⟩) 1 (oc - i)) W := by
  have e : (Try.prog.elem 25) = 3 := by kernel_rfl
  have hu : Try.prog.underlying 25 = some (.slice (Try.prog.elem 25)) := by rw [e]; exact Try.underlying25
  rw [run_sliceAt_slice W 25 _ _ _ _ hu]
  exact slice_one g off on oc i i1 h1 h W
set_option maxRecDepth 100000 in
set_option maxHeartbeats 12800000 in
theorem law_order_all (P : Int) (xs : List EgT) (ea : Option Addr) (n c : Nat) (s : Int) (ss : List Int) (sa : Option Addr) (sn sc' : Nat) (cs : List Int) (ca : Option Addr) (cn cc : Nat) (os : List Int) (oa : Option Addr) (on oc : Nat) (w : World) (hE : ArgE w xs ea n c) (hS : ArgP w ss sa sn sc') (hC : ArgP w cs ca cn cc) (hO : ArgP w os oa on oc) (hoc : on ≤ oc) (hom : oc ≤ maxLen) :
    Calls Try.prog 3 #[.agg #[.int .i64 P, .slice ea n c], .int .i64 s, .slice sa sn sc', .slice ca cn cc, .slice oa on oc] w (TrueO w) := by
  obtain ⟨w1, hw1⟩ : ∃ w1, w.alloc (.cells #[.int .i64 P, .slice ea n c] 24) = w1 := ⟨_, rfl⟩
  have HW1 := hide' hw1
  have B1 := hide' (show Below w.heap.size w w1 by rw [← hw1]; exact (Below.refl _ _).alloc (Nat.le_refl _) _)
  have R1 := hide' (show w1.heap[w.heap.size]? = some (.cells #[.int .i64 P, .slice ea n c] 24 (0, 0)) by rw [← hw1]; exact heap_alloc_new _ _)
  have HE := hide' (fun (V : World) (h : Below w.heap.size w V) => hE.below h)
  have HS := hide' (fun (V : World) (h : Below w.heap.size w V) => hS.below h)
  have HC := hide' (fun (V : World) (h : Below w.heap.size w V) => hC.below h)
  have HO := hide' (fun (V : World) (h : Below w.heap.size w V) => hO.below h)
  have OL := hide' hO.len
  have SL := hide' hS.len
  have CNL := hide' hC.len
  have om := hO.max
  unfold maxLen at om hom
  have RW := hide' (fun (V : World) (h : Below w1.heap.size w1 V) => (h.block _ (ltS_of_block R1.out)).trans R1.out)
  clear hw1 hE hS hC hO
  go_enter Try.func3, Try.ntmps3
  go_upto_region 1 with fail
  rw [HW1.out]
  go_upto_region 2 with fail
  obtain ⟨eb, heb⟩ : ∃ eb, w1.heap.size = eb := ⟨_, rfl⟩
  obtain ⟨w2, hw2⟩ : ∃ w2, (w1.alloc (.cells #[.int .i64 0, .int .i64 1, .int .i64 2] 27)).alloc (.cells #[.int .i64 2, .slice (some ⟨eb, 0, none⟩) 1 1] 24) = w2 := ⟨_, rfl⟩
  have E2 := hide' (show w2.heap[eb]? = some (.cells #[.int .i64 0, .int .i64 1, .int .i64 2] 27 (0, 0)) by
    rw [← hw2, heap_alloc_old _ _ (by simp; omega), ← heb]
    exact heap_alloc_new _ _)
  have G2 := hide' (show w2.heap[eb + 1]? = some (.cells #[.int .i64 2, .slice (some ⟨eb, 0, none⟩) 1 1] 24 (0, 0)) by
    rw [← hw2, ← heb]
    have := heap_alloc_new (w1.alloc (.cells #[.int .i64 0, .int .i64 1, .int .i64 2] 27)) (.cells #[.int .i64 2, .slice (some ⟨w1.heap.size, 0, none⟩) 1 1] 24)
    simpa using this)
  have B2 := hide' (show Below w1.heap.size w1 w2 by rw [← hw2]; exact ((Below.refl _ _).alloc (Nat.le_refl _) _).alloc (by simp) _)
  rw [heb, hw2]
  clear heb hw2
  have y0 := cell_of_row w2 _ 0 _ _ _ G2.out
  have y1 := cell_of_row w2 _ 1 _ _ _ G2.out
  simp at y0 y1
  obtain ⟨ab, hab⟩ : ∃ ab, w2.heap.size = ab := ⟨_, rfl⟩
  obtain ⟨w3, hw3⟩ : ∃ w3, (w2.alloc (.cells #[.int .i64 0, .int .i64 0] 3)).alloc (.cells #[.int .i64 0, .int .i64 3] 3) = w3 := ⟨_, rfl⟩
  have A3 := hide' (show ArgP w3 [0, 0] (some ⟨ab, 0, none⟩) 2 2 by
    rw [← hw3]
    refine arg_two ?_
    rw [heap_alloc_old _ _ (by simp; omega), ← hab]
    exact heap_alloc_new _ _)
  have A3' := hide' (show ArgP w3 [0, 3] (some ⟨ab + 1, 0, none⟩) 2 2 by
    rw [← hw3, ← hab]
    refine arg_two ?_
    have := heap_alloc_new (w2.alloc (.cells #[.int .i64 0, .int .i64 0] 3)) (.cells #[.int .i64 0, .int .i64 3] 3)
    simpa using this)
  have B3 := hide' (show Below w2.heap.size w2 w3 by rw [← hw3]; exact ((Below.refl _ _).alloc (Nat.le_refl _) _).alloc (by simp) _)
  have X3 := hide' (show ArgE w3 twoE (some ⟨eb, 0, none⟩) 1 1 from argE_one ((B3.out.block _ (ltS_of_block E2.out)).trans E2.out))
  have HW3 := hide' hw3
  have HAB := hide' hab
  have TR := hide' (Route_any 2 twoE (some ⟨eb, 0, none⟩) 1 1 0 [0, 0] (some ⟨ab, 0, none⟩) 2 2 [0, 3] (some ⟨ab + 1, 0, none⟩) 2 2 w3 X3.out A3.out A3'.out)
  clear hw3 hab
  go_wp2_with fail
  rw [HAB.out, HW3.out]
  refine TR.out.mono ?_
  rintro e w4 ⟨f, hf, b4, h⟩
  obtain rfl := hf.only two_ro
  rcases h with ⟨h0, _⟩ | ⟨_, Q0, t0, u0, sb0, sc0, tb0, rfl, hR0⟩
  · exact absurd rfl h0
  obtain ⟨rfl, v1⟩ := two_three hR0
  have z1 : w4.cell? ⟨sb0, 1, none⟩ = some (.int .i64 1) := by
    obtain ⟨g, o, e, _, hc⟩ := hR0.sgs.cells 1 (by rw [lsN_len]; omega)
    simp at e
    obtain ⟨rfl, rfl⟩ := e
    rw [at_getD (by rw [lsN_len]; omega)] at v1
    rw [v1] at hc
    simpa using hc
  have B4 := hide' (B2.out.trans ((B3.out.trans (b4.mono B3.out.size)).mono B2.out.size))
  clear hf b4 hR0 v1 y0 y1
  have y0 := cell_of_row w4 _ 0 _ _ _ (RW.out w4 B4.out)
  have y1 := cell_of_row w4 _ 1 _ _ _ (RW.out w4 B4.out)
  simp at y0 y1
  have F4 := hide' (B1.out.trans (B4.out.mono B1.out.size))
  have T1 := hide' (Route_any P xs ea n c s ss sa sn sc' cs ca cn cc w4 (HE.out _ F4.out) (HS.out _ F4.out) (HC.out _ F4.out))
  go_wp2_with fail
  refine T1.out.mono ?_
  rintro e w5 ⟨f, hf, b5, h⟩
  have HF := hide' hf
  have B5 := hide' (B4.out.trans (b5.mono B4.out.size))
  have F5 := hide' (B1.out.trans (B5.out.mono B1.out.size))
  clear hf b5 y0 y1 z1
  rcases h with ⟨h0, rfl⟩ | ⟨rfl, Q, t, u1, sb, sc, tb, rfl, hR⟩
  · rw [errOf_not h0]
    clear h0
    go_wp2
    go_ret
    exact ⟨rfl, F5.out⟩
  have HR := hide' hR
  have q10 := hR.ok.gr.p2
  have HP := hide' hR.hP
  have HT := hide' hR.hs
  have O0 := hide' (show OrS Q t xs (sgN ss) (chN cs) fun _ => 0 from ⟨hR.ok, WSt.start hR.ch.lo, hR.ch.zs, by
    have tt : totL cs ≤ 1000 := by
      rcases HF.out with h | h | h
      · exact absurd rfl h.1
      · omega
      · exact h.2.1
    rw [hR.ch.tot] at tt
    exact tt⟩)
  have SS := hide' (show ss = lsN Q (sgR (dgF xs) (sgN ss) fun _ => 0) by
    rw [show (sgR (dgF xs) (sgN ss) fun _ => 0) = sgN ss from funext fun k => by unfold sgR; rw [Nat.add_zero, hR.ok.nrm]]
    exact hR.ls)
  have CS := hide' (chips_ls (xs := xs) (sg := sgN ss) hR.ch)
  have sq : sn = Q := by rw [SL.out, hR.ls, lsN_len]
  have cq : cn = Q := by rw [CNL.out]; exact hR.ch.len
  obtain rfl := HP.out
  subst sq
  subst cq
  clear hR
  have mk := mk_intR cn q10
  have y0 := cell_of_row w5 _ 0 _ _ _ (RW.out w5 B5.out)
  simp at y0
  go_upto_region 11 with fail
  obtain ⟨mb, hmb⟩ : ∃ mb, w5.heap.size = mb := ⟨_, rfl⟩
  obtain ⟨w6, hw6⟩ : ∃ w6, w5.alloc (.cells (arrS cn fun _ => .int .i64 0) 3) = w6 := ⟨_, rfl⟩
  have M6 := hide' (show w6.heap[mb]? = some (.cells (arrS cn fun k => .int .i64 (((fun _ => 0) k : Nat) : Int)) 3 (0, 0)) by rw [← hw6, ← hmb]; exact heap_alloc_new _ _)
  have B6 := hide' (show Below w5.heap.size w5 w6 by rw [← hw6]; exact (Below.refl _ _).alloc (Nat.le_refl _) _)
  have LM := hide' (show w5.heap.size ≤ mb by omega)
  have F6 := hide' (F5.out.trans (B6.out.mono F5.out.size))
  rw [hmb, hw6]
  clear hmb hw6 mk y0
  have S6 := hide' (show ArgP w6 (lsN cn (sgR (dgF xs) (sgN ss) fun _ => 0)) sa cn sc' by rw [← SS.out]; exact HS.out _ F6.out)
  have C6 := hide' (show ArgP w6 (lsN cn (lfR cn t (wyF xs) (dgF xs) (sgN ss) (chN cs) fun _ => 0)) ca cn cc by rw [← CS.out]; exact HC.out _ F6.out)
  have NB := hide' (show (∀ k g, sa = some ⟨g, k, none⟩ → g ≠ mb) ∧ (∀ k g, ca = some ⟨g, k, none⟩ → g ≠ mb) from ⟨fun k g e => by
      obtain ⟨g', o', e', hg, _⟩ := (HS.out _ F5.out).cells 0 (by have := SL.out; have := HR.out.ok.gr.p1; omega)
      rw [e] at e'
      simp at e'
      have := LM.out
      omega, fun k g e => by
      obtain ⟨g', o', e', hg, _⟩ := (HC.out _ F5.out).cells 0 (by have := CNL.out; have := HR.out.ok.gr.p1; omega)
      rw [e] at e'
      simp at e'
      have := LM.out
      omega⟩)
  go_wp2
  go_loopw [18, 19, 21] (fun sv nv iv wr => ∃ (i : Nat) (u : Nat → Nat) (a1 a2 : Option Addr) (q1 q2 : Nat), sv = .slice a1 cn q1 ∧ nv = .slice a2 cn q2 ∧ iv = .int .i64 (i : Int) ∧ i ≤ on ∧ Hid (OrS cn t xs (sgN ss) (chN cs) u) ∧ Hid (ArgP wr (lsN cn (sgR (dgF xs) (sgN ss) u)) a1 cn q1) ∧ Hid (ArgP wr (lsN cn (lfR cn t (wyF xs) (dgF xs) (sgN ss) (chN cs) u)) a2 cn q2) ∧ Hid (wr.heap[mb]? = some (.cells (arrS cn fun k => .int .i64 ((u k : Nat) : Int)) 3 (0, 0))) ∧ Hid (Below w5.heap.size w5 wr) ∧ Hid ((∀ k g, a1 = some ⟨g, k, none⟩ → g ≠ mb) ∧ (∀ k g, a2 = some ⟨g, k, none⟩ → g ≠ mb))) (fun _ _ iv _ => on - (intOf iv).toNat)
  case atStart => exact ⟨0, _, _, _, _, _, rfl, rfl, rfl, by omega, O0, S6, C6, M6, B6, NB⟩
  case round =>
    obtain ⟨i, u, a1, a2, q1, q2, rfl, rfl, rfl, hi, HU, AS, AC, MU, BU, NU⟩ := hrel
    have FU := hide' (F5.out.trans (BU.out.mono F5.out.size))
    have KU := hide' (B5.out.trans (BU.out.mono B5.out.size))
    have y0 := cell_of_row wr _ 0 _ _ _ (RW.out wr KU.out)
    have y1 := cell_of_row wr _ 1 _ _ _ (RW.out wr KU.out)
    simp at y0 y1
    by_cases d : (i : Int) < (on : Int)
    · have hl : i < os.length := by have := OL.out; omega
      obtain ⟨g, off, rfl, hg, c0⟩ := (HO.out wr FU.out).cells i hl
      obtain ⟨x, hx⟩ : ∃ x, os[i] = x := ⟨_, rfl⟩
      rw [hx] at c0
      have HX := hide' (fun (V : World) (h : Below w.heap.size w V) => show V.cell? ⟨g, off + i, none⟩ = some (.int .i64 x) by
        obtain ⟨g', o', e', _, h2⟩ := (HO.out V h).cells i hl
        simp at e'
        obtain ⟨rfl, rfl⟩ := e'
        rw [h2, hx])
      obtain ⟨rm, hrm⟩ : ∃ rm, oc - i = rm := ⟨_, rfl⟩
      have ST := hide' (step_one (cn : Int) xs ea n c s cn t rfl HT.out (sgN ss) (chN cs) u HU.out a1 a2 q1 q2 x g (off + i) (oc - i) wr.drew (HE.out _ FU.out.drew) (AS.out.below (Below.refl _ _).drew) (AC.out.below (Below.refl _ _).drew) hg (HX.out _ FU.out.drew))
      obtain ⟨i1, hi1⟩ : ∃ i1, i + 1 = i1 := ⟨_, rfl⟩
      have k1 := slice_oneA g off on oc i i1 hi1 (by omega)
      have k2 := slice_one g off on oc i i1 hi1 (by omega)
      have k3 : (i : Int) + 1 = (i1 : Int) := by omega
      have k4 : IntKind.i64.wrap (i1 : Int) = (i1 : Int) := by simp [IntKind.wrap, IntKind.bits, IntKind.signed]; omega
      have I1 := hide' hi1
      rw [hrm] at ST k1 k2
      clear hx c0 hrm hi1
      go_upto_region 14 with fail
      go_region_with (go_at_call 6; refine ST.out.mono ?_; rintro e w8 ⟨b1, b2, m1, p1, p2, f, rfl, hf⟩)
      have BF := hide' (show Below wr.heap.size wr w8 from (Below.refl _ _).drew.trans hf.out.1)
      have B8 := hide' (BU.out.trans (BF.out.mono BU.out.size))
      have M8 := hide' ((BF.out.block _ (ltS_of_block MU.out)).trans MU.out)
      have HF8 := hide' hf.out.2
      have F8 := hide' (F5.out.trans (B8.out.mono F5.out.size))
      clear hf y0 y1 k1 k2 k3 k4
      by_cases h0 : f = 0
      · rcases HF8.out with hn | ⟨_, hm1, k, hxk, kc, hN, hA1, hA2, hl1, hl2⟩
        · exact absurd h0 hn
        subst h0
        obtain rfl : cn = m1 := hm1.symm
        subst hxk
        rw [show errOf 0 = .nilIface from rfl]
        have ON := hide' hN
        have lm := ltS_of_block MU.out
        have N1 := hide' (show (∀ j g, b1 = some ⟨g, j, none⟩ → g ≠ mb) ∧ (∀ j g, b2 = some ⟨g, j, none⟩ → g ≠ mb) from ⟨fun j g e => by have := hl1 j g e; show g ≠ mb; have q : wr.drew.heap.size = wr.heap.size := rfl; omega, fun j g e => by have := hl2 j g e; show g ≠ mb; have q : wr.drew.heap.size = wr.heap.size := rfl; omega⟩)
        have c0 := HX.out w8 F8.out
        have m0 := cell_of_row w8 mb k _ _ _ M8.out
        rw [arrS_get _ kc] at m0
        have fz := frozen_of_row w8 mb k _ _ M8.out
        have lk : (k : Int) < (cn : Int) := by omega
        obtain ⟨y, hy⟩ : ∃ y, u k = y := ⟨_, rfl⟩
        have y5 : y < 10000000000 := by rw [← hy]; exact went_few HR.out.ok HR.out.ch.lo (by have := HU.out.tot; omega) HU.out.st.wk k kc
        rw [hy] at m0
        obtain ⟨w9, hw9⟩ : ∃ w9, w8.setCell ⟨mb, k, none⟩ (.int .i64 ((y + 1 : Nat) : Int)) = w9 := ⟨_, rfl⟩
        have M9 := hide' (show w9.heap[mb]? = some (.cells (arrS cn fun j => .int .i64 ((upR u k j : Nat) : Int)) 3 (0, 0)) by
          rw [← hw9, heap_setCell_same _ _ _ _ _ _ M8.out, arrS_set]
          congr 2
          exact arrS_ext fun j _ => by
            unfold upR
            by_cases q : j = k
            · rw [if_pos q, if_pos q, q, hy]
            · rw [if_neg q, if_neg q])
        have B9 := hide' (show Below w5.heap.size w5 w9 by rw [← hw9]; exact B8.out.setCell LM.out _)
        have A1 := hide' (show ArgP w9 (lsN cn (sgR (dgF xs) (sgN ss) (upR u k))) b1 cn p1 by rw [← hw9]; exact hA1.setOther N1.out.1)
        have A2 := hide' (show ArgP w9 (lsN cn (lfR cn t (wyF xs) (dgF xs) (sgN ss) (chN cs) (upR u k))) b2 cn p2 by rw [← hw9]; exact hA2.setOther N1.out.2)
        have e7 : ((y + 1 : Nat) : Int) = (y : Int) + 1 := by omega
        rw [e7] at hw9
        have HW9 := hide' hw9
        clear hm1 hN hA1 hA2 hl1 hl2 hy hw9 e7 lm kc HF8
        go_wp2
        rw [HW9.out]
        exact ⟨⟨i + 1, upR u k, b1, b2, p1, p2, rfl, rfl, by go_num, by omega, ON, A1, A2, M9, B9, N1⟩, by simp [intOf]; omega⟩
      · rw [errOf_not h0]
        have A1 := hide' (AS.out.below BF.out)
        have A2 := hide' (AC.out.below BF.out)
        clear h0 HF8
        go_wp2
        exact ⟨⟨i + 1, u, a1, a2, q1, q2, rfl, rfl, by go_num, by omega, HU, A1, A2, M8, B8, NU⟩, by simp [intOf]; omega⟩
    · obtain rfl : i = on := by omega
      have RG := hide' (show RoG (cn : Int) xs s (lsN cn (sgR (dgF xs) (sgN ss) u)) (lsN cn (lfR cn t (wyF xs) (dgF xs) (sgN ss) (chN cs) u)) 0 by
        rw [HT.out]
        exact Or.inr (Or.inr ⟨Or.inr ⟨HU.out.sg, HU.out.la⟩, HU.out.few, rfl⟩))
      have R2 := hide' (Route_any (cn : Int) xs ea n c s _ a1 cn q1 _ a2 cn q2 wr (HE.out _ FU.out) AS.out AC.out)
      go_wp2_with fail
      refine R2.out.mono ?_
      rintro e w7 ⟨f, hf, b7, h⟩
      obtain rfl := hf.only RG.out
      rcases h with ⟨h0, _⟩ | ⟨_, Q', t', u2, sb', sc2, tb', rfl, hR⟩
      · exact absurd rfl h0
      obtain rfl : cn = Q' := by have := hR.hP; omega
      obtain rfl : t = t' := by have := hR.hs; have := HT.out; omega
      have FN := hide' (HU.out.fin HR.out.wk HR.out.dn hR.wk hR.dn)
      have S2 := hide' hR.sgs
      have W2 := hide' hR.wts
      have B7 := hide' (BU.out.trans (b7.mono BU.out.size))
      have M7 := hide' ((b7.block _ (ltS_of_block MU.out)).trans MU.out)
      have S1 := hide' (HR.out.sgs.below B7.out)
      have W1 := hide' (HR.out.wts.below B7.out)
      have F7 := hide' (F5.out.trans (B7.out.mono F5.out.size))
      have K7 := hide' (B5.out.trans (B7.out.mono B5.out.size))
      have U2 := hide' (fun k (hk : k < cn) => show u2 k < 10000000000 ∧ u k < 10000000000 ∧ u1 k < 10000000000 from by
        have a := went_few HR.out.ok HR.out.ch.lo (by have := HU.out.tot; omega) HR.out.wk k hk
        have b := FN.out.1 k hk
        omega)
      clear hf b7 hR y0 y1
      have I1 := hide' (Ints_any _ _ (some ⟨sb, 0, none⟩) (some ⟨sb', 0, none⟩) cn sc cn sc2 w7 S1.out S2.out)
      rw [decide_eq_true FN.out.2] at I1
      go_wp2_with fail
      refine I1.out.mono ?_
      rintro e wb ⟨rfl, nq1, hwb⟩
      have BB := hide' (show Below w7.heap.size w7 wb by rw [hwb]; exact ⟨rfl, rfl, rfl, Nat.le_refl _, fun _ _ => rfl⟩)
      have K8 := hide' (K7.out.trans (BB.out.mono K7.out.size))
      have F8 := hide' (F7.out.trans (BB.out.mono F7.out.size))
      clear hwb
      have y0 := cell_of_row wb _ 0 _ _ _ (RW.out wb K8.out)
      have y1 := cell_of_row wb _ 1 _ _ _ (RW.out wb K8.out)
      simp at y0 y1
      have e9 : ((cn : Int) != (cn : Int)) = false := by simp
      go_wp2
      clear e9
      go_loopw [29] (fun kv V => ∃ k : Nat, kv = .int .i64 (k : Int) ∧ k ≤ cn ∧ Hid (Below wb.heap.size wb V)) (fun kv _ => cn - (intOf kv).toNat)
      case atStart => exact ⟨0, rfl, by omega, hide' (Below.refl _ _)⟩
      case round =>
        obtain ⟨k, rfl, hk, BK⟩ := hrel
        clear y0 y1
        have K9 := hide' (K8.out.trans (BK.out.mono K8.out.size))
        have F9 := hide' (F8.out.trans (BK.out.mono F8.out.size))
        have BR := hide' (BB.out.trans (BK.out.mono BB.out.size))
        have y0 := cell_of_row wr _ 0 _ _ _ (RW.out wr K9.out)
        have y1 := cell_of_row wr _ 1 _ _ _ (RW.out wr K9.out)
        simp at y0 y1
        by_cases dk : (k : Int) < (cn : Int)
        · have kc : k < cn := by omega
          have c1 : wr.cell? ⟨tb', k, none⟩ = some (.int .i64 (u2 k : Int)) := by
            obtain ⟨g, o, e, _, hc⟩ := (W2.out.below BR.out).cells k (by rw [lsN_len]; exact kc)
            simp at e
            obtain ⟨rfl, rfl⟩ := e
            rw [Nat.zero_add] at hc
            rw [hc]
            simp [lsN]
          have c2 : wr.cell? ⟨tb, k, none⟩ = some (.int .i64 (u1 k : Int)) := by
            obtain ⟨g, o, e, _, hc⟩ := (W1.out.below BR.out).cells k (by rw [lsN_len]; exact kc)
            simp at e
            obtain ⟨rfl, rfl⟩ := e
            rw [Nat.zero_add] at hc
            rw [hc]
            simp [lsN]
          have c3 := cell_of_row wr mb k _ _ _ ((BR.out.block _ (ltS_of_block M7.out)).trans M7.out)
          rw [arrS_get _ kc] at c3
          have fn := FN.out.1 k kc
          have bd := U2.out k kc
          obtain ⟨p1, hp1⟩ : ∃ p1, u2 k = p1 := ⟨_, rfl⟩
          obtain ⟨p2, hp2⟩ : ∃ p2, u k = p2 := ⟨_, rfl⟩
          obtain ⟨p3, hp3⟩ : ∃ p3, u1 k = p3 := ⟨_, rfl⟩
          rw [hp1] at c1 fn bd
          rw [hp2] at c3 fn bd
          rw [hp3] at c2 fn bd
          have e1 : (p1 : Int) + (p2 : Int) = (p3 : Int) := by omega
          have e2 : IntKind.i64.wrap (p3 : Int) = (p3 : Int) := by simp [IntKind.wrap, IntKind.bits, IntKind.signed]; omega
          have e3 : ((p3 : Int) != (p3 : Int)) = false := by simp
          clear fn bd hp1 hp2 hp3 kc
          go_upto_region 26 with fail
          go_quiet (fail)
          obtain ⟨wq, hwq⟩ : ∃ wq, wr.drewN nq = wq := ⟨_, rfl⟩
          have BQ := hide' (show Below wb.heap.size wb wq by rw [← hwq]; exact BK.out.trans ((show Below wr.heap.size wr (wr.drewN nq) from ⟨rfl, rfl, rfl, Nat.le_refl _, fun _ _ => rfl⟩).mono BK.out.size))
          rw [hwq]
          clear hwq
          go_wp2
          exact ⟨⟨k + 1, by go_num, by omega, BQ⟩, by simp [intOf]; omega⟩
        · have TA := hide' (Tree_any (cn : Int) xs ea n c s ss sa cn sc' wr (HE.out _ F9.out) (HS.out _ F9.out))
          go_wp2_with fail
          refine TA.out.mono ?_
          rintro e wc ⟨f, hf, bc, h⟩
          have SG0 := hide' (show SgG (cn : Int) xs s ss 0 by
            have := O0.out.sg
            rw [← SS.out, ← HT.out] at this
            exact this)
          obtain rfl := hf.only SG0.out
          rcases h with ⟨h0, _⟩ | ⟨_, Q', t', z1, hQ', ht', -, -, rfl, hz1⟩
          · exact absurd rfl h0
          have Z1 := hide' (show z1 = true ↔ treeR cn t (wyF xs) (sgN ss) by
            have a : Q' = cn := by omega
            have b : t' = t := by have := HT.out; omega
            rw [a, b] at hz1
            exact hz1)
          have BC := hide' bc
          have KC := hide' (K9.out.trans (bc.mono K9.out.size))
          have FC := hide' (F9.out.trans (bc.mono F9.out.size))
          have SC := hide' ((S1.out.below BR.out).below bc)
          clear hf bc hQ' ht' hz1 y0 y1
          have y0 := cell_of_row wc _ 0 _ _ _ (RW.out wc KC.out)
          have y1 := cell_of_row wc _ 1 _ _ _ (RW.out wc KC.out)
          simp at y0 y1
          have TB := hide' (Tree_any (cn : Int) xs ea n c s _ (some ⟨sb, 0, none⟩) cn sc wc (HE.out _ FC.out) SC.out)
          go_wp2_with fail
          refine TB.out.mono ?_
          rintro e wd ⟨f, hf, bd, h⟩
          have OE := hide' (show RtOk cn t xs (sgR (dgF xs) (sgN ss) u1) from HR.out.ok.on HR.out.wk.zero HR.out.zr)
          have SG1 := hide' (show SgG (cn : Int) xs s (lsN cn (sgR (dgF xs) (sgN ss) u1)) 0 by
            rw [HT.out]
            refine Or.inr ⟨SiG.of (FaG.of OE.out.gr) (by omega) (by have := OE.out.sk; omega), Or.inr (Or.inr ⟨by rw [lsN_len], fun j hj => ?_, rfl⟩)⟩
            rw [lsN_len] at hj
            rw [lsN_getD, if_pos hj]
            unfold mayI
            by_cases e : j = t
            · left
              rw [e, OE.out.zs]
              exact ⟨rfl, rfl⟩
            · right
              have := OE.out.low j hj e
              exact ⟨by omega, by omega, by omega⟩)
          obtain rfl := hf.only SG1.out
          rcases h with ⟨h0, _⟩ | ⟨_, Q', t', z2, hQ', ht', -, -, rfl, hz2⟩
          · exact absurd rfl h0
          have Z2 := hide' (show z2 = true ↔ treeR cn t (wyF xs) (sgR (dgF xs) (sgN ss) u1) by
            have a : Q' = cn := by omega
            have b : t' = t := by have := HT.out; omega
            rw [a, b, sgN_ls OE.out] at hz2
            exact hz2)
          have FD := hide' (FC.out.trans (bd.mono FC.out.size))
          clear hf bd hQ' ht' hz2 y0 y1
          cases z1 with
          | false =>
            go_wp2
            go_ret
            exact ⟨rfl, FD.out⟩
          | true =>
            have e2 : z2 = true := Z2.out.2 (HR.out.tr (Z1.out.1 rfl))
            subst e2
            go_wp2
            go_ret
            exact ⟨rfl, FD.out⟩
end Go.Proofs.Ytpppmollmiomlaa

