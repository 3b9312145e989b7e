/-
  What the last text of this claim leans on, part 32: Ll2.
-/
import Derived.Test.YtdhbdkkchobinaaJz31
namespace Go.Proofs.Ytdhbdkkchobinaa
open Go.RowKit
set_option linter.unusedVariables false

/-- A function that tells what becomes of a window: it may make memory. -/
def Becomes (w0 : World) (fn p1 p2 S L : Nat) (F : List Int → Int) : Prop :=
  ∀ (ds : List Int) (wr : World) (g : Nat), Below w0.heap.size w0 wr → Cel wr g ds → ds.length = L → cellsOk S ds → w0.heap.size ≤ g →
    Calls Try.prog fn #[.slice (some ⟨g, 0, none⟩) L L, .pointer (some ⟨p1, 0, none⟩), .pointer (some ⟨p2, 0, none⟩)] wr fun e w' => e = .returned (.int .i64 (F ds)) ∧ Below wr.heap.size wr w'

/-- The result's box, while nothing is stored there. -/
structure ZB (p : Nat) (w : World) : Prop where
  c0 : w.cell? ⟨p, 0, none⟩ = some (.int .i64 0)
  c1 : w.cell? ⟨p, 1, none⟩ = some (.int .i64 0)
  c2 : w.cell? ⟨p, 2, none⟩ = some (.int .i64 0)
  c3 : w.cell? ⟨p, 3, none⟩ = some (.int .i64 0)
  c4 : w.cell? ⟨p, 4, none⟩ = some (.int .i64 0)
  c5 : w.cell? ⟨p, 5, none⟩ = some (.slice none 0 0)
  c6 : w.cell? ⟨p, 6, none⟩ = some (.string ⟨#[]⟩)
  fz : ∀ k, w.frozen? ⟨p, k, none⟩ = false
theorem ZB.lt {p : Nat} {w : World} (h : ZB p w) : p < w.heap.size := by
  rcases Nat.lt_or_ge p w.heap.size with k | k
  · exact k
  · have := h.c0; simp [World.cell?, Array.getElem?_eq_none k] at this
theorem ZB.block {p : Nat} {w w' : World} (h : ZB p w) (e : w'.heap[p]? = w.heap[p]?) : ZB p w' :=
  ⟨(World.cell?_of_block (w := w) (a := ⟨p, 0, none⟩) e).trans h.c0, (World.cell?_of_block (w := w) (a := ⟨p, 1, none⟩) e).trans h.c1, (World.cell?_of_block (w := w) (a := ⟨p, 2, none⟩) e).trans h.c2, (World.cell?_of_block (w := w) (a := ⟨p, 3, none⟩) e).trans h.c3, (World.cell?_of_block (w := w) (a := ⟨p, 4, none⟩) e).trans h.c4, (World.cell?_of_block (w := w) (a := ⟨p, 5, none⟩) e).trans h.c5, (World.cell?_of_block (w := w) (a := ⟨p, 6, none⟩) e).trans h.c6, fun k => (World.frozen?_of_block (w := w) (a := ⟨p, k, none⟩) e).trans (h.fz k)⟩
theorem ZB.next {p : Nat} {w w' : World} (h : ZB p w) (hb : Below w.heap.size w w') : ZB p w' := h.block (hb.block p h.lt)
theorem ZB.new (w : World) (t : TypeId) : ZB w.heap.size (w.alloc (.cells #[.int .i64 0, .int .i64 0, .int .i64 0, .int .i64 0, .int .i64 0, .slice none 0 0, .string ⟨#[]⟩] t)) :=
  ⟨by rw [World.cell?_alloc_at _ _ _ _ rfl]; rfl, by rw [World.cell?_alloc_at _ _ _ _ rfl]; rfl, by rw [World.cell?_alloc_at _ _ _ _ rfl]; rfl, by rw [World.cell?_alloc_at _ _ _ _ rfl]; rfl, by rw [World.cell?_alloc_at _ _ _ _ rfl]; rfl, by rw [World.cell?_alloc_at _ _ _ _ rfl]; rfl, by rw [World.cell?_alloc_at _ _ _ _ rfl]; rfl, fun k => by simp⟩

def madeL (S R : Nat) (F : List Int → Int) : List Int := (List.range (S ^ (2 * R + 1))).map fun i => F (spellL S (2 * R + 1) i)
theorem madeL_length (S R : Nat) (F : List Int → Int) : (madeL S R F).length = S ^ (2 * R + 1) := by simp [madeL]
theorem madeL_at (S R : Nat) (F : List Int → Int) {i : Nat} (h : i < S ^ (2 * R + 1)) : (madeL S R F).getD i 0 = F (spellL S (2 * R + 1) i) := by simp [madeL, List.getD, h]

/-- Between the rounds of made. -/
structure MD (w wr : World) (gt gw N L : Nat) (ts ds : List Int) : Prop where
  zb : ZB w.heap.size wr
  ct : Cel wr gt ts
  cw : Cel wr gw ds
  lt : ts.length = N
  lw : ds.length = L
  below : Below w.heap.size w wr

set_option maxRecDepth 100000 in
set_option maxHeartbeats 3200000 in
theorem made_c (S R p1 p2 : Nat) (F : List Int → Int) (w : World) (hS : 2 ≤ S) (hS4 : S ≤ 4) (hR : R ≤ 10) (hsz : S ^ (2 * R + 1) ≤ 4096) (hB : Becomes w 21 p1 p2 S (2 * R + 1) F) :
    Calls Try.prog 20 #[.int .i64 (S : Int), .int .i64 (R : Int), .func (.func 21) #[] #[.pointer (some ⟨p1, 0, none⟩), .pointer (some ⟨p2, 0, none⟩)]] w fun e w' => ∃ g N, e = .returned (.tuple #[.agg #[.int .i64 2, .int .i64 0, .int .i64 0, .int .i64 (S : Int), .int .i64 (R : Int), .slice (some ⟨g, 0, none⟩) N N, .string ⟨#[]⟩], .nilIface]) ∧ N = S ^ (2 * R + 1) ∧ w.heap.size ≤ g ∧ Cel w' g (madeL S R F) ∧ Below w.heap.size w w' := by
  obtain ⟨q, hq⟩ : ∃ q, S * S = q := ⟨_, rfl⟩
  have q1 : (S : Int) * (S : Int) = (q : Int) := by rw [← hq]; simp
  have hq16 : q ≤ 16 := by rw [← hq]; exact Nat.mul_le_mul hS4 hS4
  have HQ := hide' hq
  have PW := hide' (show ∀ i, i ≤ R → S ^ (2 * i + 1) ≤ 4096 from fun i hi => Nat.le_trans (Nat.pow_le_pow_right (by omega) (by omega)) hsz)
  have HB := hide' hB
  have Z0 := hide' (ZB.new w 28)
  clear hq hB
  go_enter Try.func20, Try.ntmps20
  go_wp2
  go_loop [8, 9] (fun ev iv => ∃ i e : Nat, iv = .int .i64 (i : Int) ∧ ev = .int .i64 (e : Int) ∧ i ≤ R ∧ Hid (e = S ^ (2 * i + 1))) (fun _ iv => R - (intOf iv).toNat)
  case atStart => exact ⟨0, S, rfl, rfl, by omega, hide' (by simp)⟩
  case round =>
    obtain ⟨i, e, rfl, rfl, hi, HE⟩ := hrel
    have he4 : e ≤ 4096 := by rw [HE.out]; exact PW.out i hi
    by_cases d : (i : Int) < (R : Int)
    · obtain ⟨f, hf⟩ : ∃ f, e * q = f := ⟨_, rfl⟩
      have q2 : (e : Int) * (q : Int) = (f : Int) := by rw [← hf]; simp
      have FE := hide' (show f = S ^ (2 * (i + 1) + 1) by rw [← hf, HE.out, ← HQ.out, show 2 * (i + 1) + 1 = (2 * i + 1) + 2 by omega, Nat.pow_add S (2 * i + 1) 2, Nat.pow_two])
      have hf4 : f ≤ 4096 := by rw [FE.out]; exact PW.out (i + 1) (by omega)
      clear hf
      go_wp2
      exact ⟨⟨i + 1, f, by go_num, rfl, by omega, FE⟩, by simp [intOf]; omega⟩
    · have EN := hide' (show e = S ^ (2 * R + 1) by rw [HE.out, show i = R by omega])
      clear HE
      have hmk1 := run_make_row' (P := Try.prog) 26 3 (.int .i64 0) 8 Try.underlying26 info_int rfl .i64 .i64 e (by omega) (by omega)
      obtain ⟨L, hL⟩ : ∃ L, 2 * R + 1 = L := ⟨_, rfl⟩
      have q3 : 2 * (R : Int) + 1 = (L : Int) := by omega
      have hmk2 := run_make_row' (P := Try.prog) 26 3 (.int .i64 0) 8 Try.underlying26 info_int rfl .i64 .i64 L (by omega) (by omega)
      have HL := hide' hL
      have hL2 : L ≤ 21 := by omega
      clear hL
      obtain ⟨w3, hw3⟩ : ∃ w3, (((w.alloc (.cells #[.int .i64 0, .int .i64 0, .int .i64 0, .int .i64 0, .int .i64 0, .slice none 0 0, .string ⟨#[]⟩] 28)).alloc (.cells (madeCells #[.int .i64 0] e) 3)).alloc (.cells (madeCells #[.int .i64 0] L) 3)) = w3 := ⟨_, rfl⟩
      have z3 : w3.heap.size = w.heap.size + 3 := by rw [← hw3]; simp
      have M0 := hide' (show MD w w3 (w.heap.size + 1) (w.heap.size + 1 + 1) e L (mixL (madeL S R F) (List.replicate e 0) 0) (List.replicate L 0) by
        have c1 := (Cel.made (w.alloc (.cells #[.int .i64 0, .int .i64 0, .int .i64 0, .int .i64 0, .int .i64 0, .slice none 0 0, .string ⟨#[]⟩] 28)) e 3).below ((Below.refl _ _).alloc (Nat.le_refl _) (.cells (madeCells #[.int .i64 0] L) 3))
        have c2 := Cel.made ((w.alloc (.cells #[.int .i64 0, .int .i64 0, .int .i64 0, .int .i64 0, .int .i64 0, .slice none 0 0, .string ⟨#[]⟩] 28)).alloc (.cells (madeCells #[.int .i64 0] e) 3)) L 3
        rw [World.size_alloc] at c1
        rw [World.size_alloc, World.size_alloc] at c2
        rw [hw3] at c1 c2
        refine ⟨?_, by rw [mixL_zero]; exact c1, c2, by rw [mixL_length]; simp, by simp, ?_⟩
        · rw [← hw3]
          exact (Z0.out.next ((Below.refl _ _).alloc (Nat.le_refl _) _)).next ((Below.refl _ _).alloc (Nat.le_refl _) _)
        · rw [← hw3]
          exact (((Below.refl _ _).alloc (Nat.le_refl _) _).alloc (by simp) _).alloc (by simp; omega) _)
      go_wp2
      clear hw3 hmk1 hmk2
      go_loopw [36] (fun iv wr => ∃ (i : Nat) (ds : List Int), iv = .int .i64 (i : Int) ∧ i ≤ e ∧ MD w wr (w.heap.size + 1) (w.heap.size + 1 + 1) e L (mixL (madeL S R F) (List.replicate e 0) i) ds) (fun iv _ => e - (intOf iv).toNat)
      case atStart => exact ⟨0, _, rfl, by omega, M0.out⟩
      case round =>
        obtain ⟨j, ds, rfl, hj, md⟩ := hrel
        have MDH := hide' md
        clear md M0
        by_cases dj : (j : Int) < (e : Int)
        · go_wp2_with fail
          refine (spell_any S L j (w.heap.size + 1 + 1) ds _ hS hS4 (by omega) (by omega) MDH.out.cw MDH.out.lw).mono ?_
          rintro e' w4 ⟨rfl, c4, r4⟩
          have C4 := hide' c4
          have hz4 := r4.size
          have B4 := hide' (show Below w.heap.size w w4 from MDH.out.below.trans (r4.below (by omega) MDH.out.below.size))
          have T4 := hide' (MDH.out.ct.rd r4 (by omega))
          have Z4 := hide' (MDH.out.zb.block (r4.block _ MDH.out.zb.lt (by omega)))
          clear c4 r4
          go_wp2_with fail
          have KK := HB.out (spellL S L j) w4 (w.heap.size + 1 + 1) B4.out C4.out (by rw [spellL_length, HL.out]) (spellL_ok S L j hS) (by omega)
          rw [HL.out] at KK
          refine KK.mono ?_
          clear KK
          rintro e' w5 ⟨rfl, b5⟩
          have hz5 := b5.size
          have B5 := hide' (B4.out.trans (b5.mono B4.out.size))
          have T5 := hide' (T4.out.below b5)
          have C5 := hide' (C4.out.below b5)
          have Z5 := hide' (Z4.out.next b5)
          have c6 := T5.out.cells j (by rw [mixL_length]; simp; omega)
          have f6 := T5.out.fz j
          have EN2 := hide' (show (madeL S R F).getD j 0 = F (spellL S L j) by rw [madeL_at S R F (by rw [← EN.out]; omega), HL.out])
          obtain ⟨x, hx⟩ : ∃ x, F (spellL S L j) = x := ⟨_, rfl⟩
          rw [hx] at EN2 ⊢
          have je : j < e := by omega
          clear b5 hx
          go_wp2
          refine ⟨⟨j + 1, spellL S L j, by go_num, by omega, ?_⟩, by simp [intOf]; omega⟩
          refine ⟨Z5.out.block (Below.heap_setCell _ _ _ _ (by simp)), ?_, C5.out.rd (b := w.heap.size + 1) ((Rd.refl _ _).set j _) (by omega), by rw [mixL_length]; simp, spellL_length S L j, B5.out.setCell (by simp) _⟩
          rw [← mixL_set (madeL S R F) (List.replicate e 0) j EN2.out]
          exact Cel.set T5.out j x (by rw [mixL_length]; simp; omega)
        · have FIN := hide' (show Cel wr (w.heap.size + 1) (madeL S R F) by
            have h := MDH.out.ct
            have hjl : j = (List.replicate e (0 : Int)).length := by simp; omega
            rw [hjl, mixL_full _ _ (by rw [madeL_length, ← EN.out]; simp)] at h
            exact h)
          obtain ⟨r0, r1, r2, r3, r4, r5, r6, rf⟩ := MDH.out.zb
          have f0 := rf 0
          have f1 := rf 1
          have f2 := rf 2
          have f3 := rf 3
          have f4 := rf 4
          have f5 := rf 5
          have f6 := rf 6
          clear rf
          go_wp2
          refine bodyPost_ret (v := .tuple #[.agg #[.int .i64 2, .int .i64 0, .int .i64 0, .int .i64 (S : Int), .int .i64 (R : Int), .slice (some ⟨w.heap.size + 1, 0, none⟩) e e, .string ⟨#[]⟩], .nilIface]) (by simp [results, Try.results20, go_sem, r0, r1, r2, r3, r4, r5, r6]) rfl ?_
          refine ⟨w.heap.size + 1, e, rfl, EN.out, by omega, ?_, ?_⟩
          · exact ((((((FIN.out.rd ((Rd.refl w.heap.size _).set 0 _) (by omega)).rd ((Rd.refl w.heap.size _).set 1 _) (by omega)).rd ((Rd.refl w.heap.size _).set 2 _) (by omega)).rd ((Rd.refl w.heap.size _).set 3 _) (by omega)).rd ((Rd.refl w.heap.size _).set 4 _) (by omega)).rd ((Rd.refl w.heap.size _).set 5 _) (by omega)).rd ((Rd.refl w.heap.size _).set 6 _) (by omega)
          · exact ((((((MDH.out.below.setCell (by simp) _).setCell (by simp) _).setCell (by simp) _).setCell (by simp) _).setCell (by simp) _).setCell (by simp) _).setCell (by simp) _

set_option maxRecDepth 100000 in
set_option maxHeartbeats 3200000 in
theorem made_w (S R p1 p2 : Nat) (F : List Int → Int) (w : World) (hS : 2 ≤ S) (hS4 : S ≤ 4) (hR : R ≤ 10) (hsz : S ^ (2 * R + 1) ≤ 4096) (hB : Becomes w 23 p1 p2 S (2 * R + 1) F) :
    Calls Try.prog 20 #[.int .i64 (S : Int), .int .i64 (R : Int), .func (.func 23) #[] #[.pointer (some ⟨p1, 0, none⟩), .pointer (some ⟨p2, 0, none⟩)]] w fun e w' => ∃ g N, e = .returned (.tuple #[.agg #[.int .i64 2, .int .i64 0, .int .i64 0, .int .i64 (S : Int), .int .i64 (R : Int), .slice (some ⟨g, 0, none⟩) N N, .string ⟨#[]⟩], .nilIface]) ∧ N = S ^ (2 * R + 1) ∧ w.heap.size ≤ g ∧ Cel w' g (madeL S R F) ∧ Below w.heap.size w w' := by
  obtain ⟨q, hq⟩ : ∃ q, S * S = q := ⟨_, rfl⟩
  have q1 : (S : Int) * (S : Int) = (q : Int) := by rw [← hq]; simp
  have hq16 : q ≤ 16 := by rw [← hq]; exact Nat.mul_le_mul hS4 hS4
  have HQ := hide' hq
  have PW := hide' (show ∀ i, i ≤ R → S ^ (2 * i + 1) ≤ 4096 from fun i hi => Nat.le_trans (Nat.pow_le_pow_right (by omega) (by omega)) hsz)
  have HB := hide' hB
  have Z0 := hide' (ZB.new w 28)
  clear hq hB
  go_enter Try.func20, Try.ntmps20
  go_wp2
  go_loop [8, 9] (fun ev iv => ∃ i e : Nat, iv = .int .i64 (i : Int) ∧ ev = .int .i64 (e : Int) ∧ i ≤ R ∧ Hid (e = S ^ (2 * i + 1))) (fun _ iv => R - (intOf iv).toNat)
  case atStart => exact ⟨0, S, rfl, rfl, by omega, hide' (by simp)⟩
  case round =>
    obtain ⟨i, e, rfl, rfl, hi, HE⟩ := hrel
    have he4 : e ≤ 4096 := by rw [HE.out]; exact PW.out i hi
    by_cases d : (i : Int) < (R : Int)
    · obtain ⟨f, hf⟩ : ∃ f, e * q = f := ⟨_, rfl⟩
      have q2 : (e : Int) * (q : Int) = (f : Int) := by rw [← hf]; simp
      have FE := hide' (show f = S ^ (2 * (i + 1) + 1) by rw [← hf, HE.out, ← HQ.out, show 2 * (i + 1) + 1 = (2 * i + 1) + 2 by omega, Nat.pow_add S (2 * i + 1) 2, Nat.pow_two])
      have hf4 : f ≤ 4096 := by rw [FE.out]; exact PW.out (i + 1) (by omega)
      clear hf
      go_wp2
      exact ⟨⟨i + 1, f, by go_num, rfl, by omega, FE⟩, by simp [intOf]; omega⟩
    · have EN := hide' (show e = S ^ (2 * R + 1) by rw [HE.out, show i = R by omega])
      clear HE
      have hmk1 := run_make_row' (P := Try.prog) 26 3 (.int .i64 0) 8 Try.underlying26 info_int rfl .i64 .i64 e (by omega) (by omega)
      obtain ⟨L, hL⟩ : ∃ L, 2 * R + 1 = L := ⟨_, rfl⟩
      have q3 : 2 * (R : Int) + 1 = (L : Int) := by omega
      have hmk2 := run_make_row' (P := Try.prog) 26 3 (.int .i64 0) 8 Try.underlying26 info_int rfl .i64 .i64 L (by omega) (by omega)
      have HL := hide' hL
      have hL2 : L ≤ 21 := by omega
      clear hL
      obtain ⟨w3, hw3⟩ : ∃ w3, (((w.alloc (.cells #[.int .i64 0, .int .i64 0, .int .i64 0, .int .i64 0, .int .i64 0, .slice none 0 0, .string ⟨#[]⟩] 28)).alloc (.cells (madeCells #[.int .i64 0] e) 3)).alloc (.cells (madeCells #[.int .i64 0] L) 3)) = w3 := ⟨_, rfl⟩
      have z3 : w3.heap.size = w.heap.size + 3 := by rw [← hw3]; simp
      have M0 := hide' (show MD w w3 (w.heap.size + 1) (w.heap.size + 1 + 1) e L (mixL (madeL S R F) (List.replicate e 0) 0) (List.replicate L 0) by
        have c1 := (Cel.made (w.alloc (.cells #[.int .i64 0, .int .i64 0, .int .i64 0, .int .i64 0, .int .i64 0, .slice none 0 0, .string ⟨#[]⟩] 28)) e 3).below ((Below.refl _ _).alloc (Nat.le_refl _) (.cells (madeCells #[.int .i64 0] L) 3))
        have c2 := Cel.made ((w.alloc (.cells #[.int .i64 0, .int .i64 0, .int .i64 0, .int .i64 0, .int .i64 0, .slice none 0 0, .string ⟨#[]⟩] 28)).alloc (.cells (madeCells #[.int .i64 0] e) 3)) L 3
        rw [World.size_alloc] at c1
        rw [World.size_alloc, World.size_alloc] at c2
        rw [hw3] at c1 c2
        refine ⟨?_, by rw [mixL_zero]; exact c1, c2, by rw [mixL_length]; simp, by simp, ?_⟩
        · rw [← hw3]
          exact (Z0.out.next ((Below.refl _ _).alloc (Nat.le_refl _) _)).next ((Below.refl _ _).alloc (Nat.le_refl _) _)
        · rw [← hw3]
          exact (((Below.refl _ _).alloc (Nat.le_refl _) _).alloc (by simp) _).alloc (by simp; omega) _)
      go_wp2
      clear hw3 hmk1 hmk2
      go_loopw [36] (fun iv wr => ∃ (i : Nat) (ds : List Int), iv = .int .i64 (i : Int) ∧ i ≤ e ∧ MD w wr (w.heap.size + 1) (w.heap.size + 1 + 1) e L (mixL (madeL S R F) (List.replicate e 0) i) ds) (fun iv _ => e - (intOf iv).toNat)
      case atStart => exact ⟨0, _, rfl, by omega, M0.out⟩
      case round =>
        obtain ⟨j, ds, rfl, hj, md⟩ := hrel
        have MDH := hide' md
        clear md M0
        by_cases dj : (j : Int) < (e : Int)
        · go_wp2_with fail
          refine (spell_any S L j (w.heap.size + 1 + 1) ds _ hS hS4 (by omega) (by omega) MDH.out.cw MDH.out.lw).mono ?_
          rintro e' w4 ⟨rfl, c4, r4⟩
          have C4 := hide' c4
          have hz4 := r4.size
          have B4 := hide' (show Below w.heap.size w w4 from MDH.out.below.trans (r4.below (by omega) MDH.out.below.size))
          have T4 := hide' (MDH.out.ct.rd r4 (by omega))
          have Z4 := hide' (MDH.out.zb.block (r4.block _ MDH.out.zb.lt (by omega)))
          clear c4 r4
          go_wp2_with fail
          have KK := HB.out (spellL S L j) w4 (w.heap.size + 1 + 1) B4.out C4.out (by rw [spellL_length, HL.out]) (spellL_ok S L j hS) (by omega)
          rw [HL.out] at KK
          refine KK.mono ?_
          clear KK
          rintro e' w5 ⟨rfl, b5⟩
          have hz5 := b5.size
          have B5 := hide' (B4.out.trans (b5.mono B4.out.size))
          have T5 := hide' (T4.out.below b5)
          have C5 := hide' (C4.out.below b5)
          have Z5 := hide' (Z4.out.next b5)
          have c6 := T5.out.cells j (by rw [mixL_length]; simp; omega)
          have f6 := T5.out.fz j
          have EN2 := hide' (show (madeL S R F).getD j 0 = F (spellL S L j) by rw [madeL_at S R F (by rw [← EN.out]; omega), HL.out])
          obtain ⟨x, hx⟩ : ∃ x, F (spellL S L j) = x := ⟨_, rfl⟩
          rw [hx] at EN2 ⊢
          have je : j < e := by omega
          clear b5 hx
          go_wp2
          refine ⟨⟨j + 1, spellL S L j, by go_num, by omega, ?_⟩, by simp [intOf]; omega⟩
          refine ⟨Z5.out.block (Below.heap_setCell _ _ _ _ (by simp)), ?_, C5.out.rd (b := w.heap.size + 1) ((Rd.refl _ _).set j _) (by omega), by rw [mixL_length]; simp, spellL_length S L j, B5.out.setCell (by simp) _⟩
          rw [← mixL_set (madeL S R F) (List.replicate e 0) j EN2.out]
          exact Cel.set T5.out j x (by rw [mixL_length]; simp; omega)
        · have FIN := hide' (show Cel wr (w.heap.size + 1) (madeL S R F) by
            have h := MDH.out.ct
            have hjl : j = (List.replicate e (0 : Int)).length := by simp; omega
            rw [hjl, mixL_full _ _ (by rw [madeL_length, ← EN.out]; simp)] at h
            exact h)
          obtain ⟨r0, r1, r2, r3, r4, r5, r6, rf⟩ := MDH.out.zb
          have f0 := rf 0
          have f1 := rf 1
          have f2 := rf 2
          have f3 := rf 3
          have f4 := rf 4
          have f5 := rf 5
          have f6 := rf 6
          clear rf
          go_wp2
          refine bodyPost_ret (v := .tuple #[.agg #[.int .i64 2, .int .i64 0, .int .i64 0, .int .i64 (S : Int), .int .i64 (R : Int), .slice (some ⟨w.heap.size + 1, 0, none⟩) e e, .string ⟨#[]⟩], .nilIface]) (by simp [results, Try.results20, go_sem, r0, r1, r2, r3, r4, r5, r6]) rfl ?_
          refine ⟨w.heap.size + 1, e, rfl, EN.out, by omega, ?_, ?_⟩
          · exact ((((((FIN.out.rd ((Rd.refl w.heap.size _).set 0 _) (by omega)).rd ((Rd.refl w.heap.size _).set 1 _) (by omega)).rd ((Rd.refl w.heap.size _).set 2 _) (by omega)).rd ((Rd.refl w.heap.size _).set 3 _) (by omega)).rd ((Rd.refl w.heap.size _).set 4 _) (by omega)).rd ((Rd.refl w.heap.size _).set 5 _) (by omega)).rd ((Rd.refl w.heap.size _).set 6 _) (by omega)
          · exact ((((((MDH.out.below.setCell (by simp) _).setCell (by simp) _).setCell (by simp) _).setCell (by simp) _).setCell (by simp) _).setCell (by simp) _).setCell (by simp) _
end Go.Proofs.Ytdhbdkkchobinaa

