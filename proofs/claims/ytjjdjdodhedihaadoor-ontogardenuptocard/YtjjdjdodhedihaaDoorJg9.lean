/-
  What the last text of this claim leans on, part 9: Ob2, Ob3, Ob4.
-/
import Derived.Test.YtjjdjdodhedihaaDoorJg8
import Derived.Deep.RegionHeld3
namespace Go.Proofs.YtjjdjdodhedihaaDoor
open Go.RowKit
set_option linter.unusedVariables false

/-- The graph's box and a list of the call's own. -/
structure PS (w wr : World) (S R n : Nat) (v : Value) (g : Nat) (xs : List Int) : Prop where
  gb : GB w.heap.size S R n v wr
  bl : Below w.heap.size w wr
  cl : Cel wr g xs
  lt : w.heap.size < g
theorem PS.below {w wr w' : World} {S R n g : Nat} {v : Value} {xs : List Int} (h : PS w wr S R n v g xs) (hb : Below wr.heap.size wr w') : PS w w' S R n v g xs :=
  ⟨h.gb.next hb, h.bl.trans (hb.mono h.bl.size), h.cl.below hb, h.lt⟩
theorem heap_setCell_other (w : World) (g i k : Nat) (v : Value) (h : k ≠ g) : (w.setCell ⟨g, i, none⟩ v).heap[k]? = w.heap[k]? := RowKit.Below.heap_setCell _ _ _ _ h
theorem PS.set {w wr : World} {S R n g : Nat} {v : Value} {xs : List Int} (h : PS w wr S R n v g xs) (i : Nat) (x : Int) (hi : i < xs.length) : PS w (wr.setCell ⟨g, i, none⟩ (.int .i64 x)) S R n v g (xs.set i x) :=
  ⟨h.gb.block (heap_setCell_other _ _ _ _ _ (by have := h.lt; omega)), h.bl.setCell (Nat.le_of_lt h.lt) _, h.cl.set i x hi, h.lt⟩
theorem PS.setOther {w wr : World} {S R n g f : Nat} {v : Value} {xs : List Int} (h : PS w wr S R n v g xs) (hf : w.heap.size < f) (hne : g ≠ f) (i : Nat) (u : Value) : PS w (wr.setCell ⟨f, i, none⟩ u) S R n v g xs :=
  ⟨h.gb.block (heap_setCell_other _ _ _ _ _ (by omega)), h.bl.setCell (Nat.le_of_lt hf) _, h.cl.block (by simp) (heap_setCell_other _ _ _ _ _ hne), h.lt⟩
theorem PS.drew {w wr : World} {S R n g : Nat} {v : Value} {xs : List Int} (h : PS w wr S R n v g xs) : PS w wr.drew S R n v g xs :=
  ⟨⟨h.gb.c0, h.gb.c1, h.gb.c2, h.gb.c3⟩, h.bl.drew, ⟨h.cl.lt, h.cl.cells, h.cl.fz⟩, h.lt⟩
theorem PS.at {w wr : World} {S R n g : Nat} {v : Value} {xs : List Int} (h : PS w wr S R n v g xs) {i : Nat} (hi : i < xs.length) : wr.cell? ⟨g, i, none⟩ = some (.int .i64 (xs.getD i 0)) := h.cl.cells i hi
theorem PS.new {w wr : World} {S R n g : Nat} {v : Value} {xs : List Int} (h : PS w wr S R n v g xs) (N : Nat) (t : TypeId) : PS w (wr.alloc (.cells (madeCells #[.int .i64 0] N) t)) S R n v wr.heap.size (List.replicate N 0) :=
  ⟨h.gb.block (Below.heap_alloc _ _ _ h.gb.lt), h.bl.alloc h.bl.size _, Cel.made wr N t, Nat.lt_of_lt_of_le h.gb.lt (Nat.le_refl _)⟩
theorem PS.start (w : World) (S R n : Nat) (v : Value) (t t' : TypeId) : PS w ((w.alloc (.cells #[.int .i64 (S : Int), .int .i64 (2 * (R : Int)), .int .i64 (n : Int), v] t)).alloc (.cells (madeCells #[.int .i64 0] n) t')) S R n v (w.heap.size + 1) (List.replicate n 0) := by
  have b := GB.new w S R n v t
  have c := Cel.made (w.alloc (.cells #[.int .i64 (S : Int), .int .i64 (2 * (R : Int)), .int .i64 (n : Int), v] t)) n t'
  rw [World.size_alloc] at c
  exact ⟨b.block (Below.heap_alloc _ _ _ b.lt), ((Below.refl _ _).alloc (Nat.le_refl _) _).alloc (by simp) _, c, by omega⟩

set_option maxRecDepth 100000 in
set_option maxHeartbeats 6400000 in
theorem parents_any (S R n : Nat) (T : List Int) (ta : Option Addr) (tn tc : Nat) (ws : List Int) (wa : Option Addr) (L wc : Nat) (w : World) (hT : ArgP w T ta tn tc) (hW : ArgP w ws wa L wc) (hn : 0 < n) (hn16 : n ≤ 16) (hS : 2 ≤ S) (hS4 : S ≤ 4) (htn : tn = n * S) (hl : L ≤ 1000) :
    Calls Tryd.prog 45 #[.agg #[.int .i64 (S : Int), .int .i64 (2 * (R : Int)), .int .i64 (n : Int), .slice ta tn tc], .slice wa L wc] w fun e w' => e = .returned (.int .i64 (parL S n T ws)) ∧ Below w.heap.size w w' := by
  have AT := hide' hT
  have AW := hide' hW
  have HTN := hide' htn
  have HLN := hide' hW.len
  have LL := hide' (fun i => cntL_length S n T ws i)
  have LS := hide' (fun i => cntL_small S n T ws i)
  have hmk := run_make_row' (P := Tryd.prog) 22 3 (.int .i64 0) 8 Tryd.underlying22 info_int rfl .i64 .i64 n (by omega) (by omega)
  have P0 := hide' (PS.start w S R n (.slice ta tn tc) 79 3)
  obtain ⟨y0, y1, y2, y3⟩ := GB.new w S R n (.slice ta tn tc) 79
  obtain ⟨ans, hans⟩ : ∃ ans, parL S n T ws = ans := ⟨_, rfl⟩
  have ANS := hide' hans
  rw [hans]
  clear hT hW htn hans
  go_enter Tryd.func45, Tryd.ntmps45
  go_wp2
  clear y0 y1 y2 y3
  go_loopw [23] (fun iv wr => ∃ i : Nat, iv = .int .i64 (i : Int) ∧ i ≤ n ∧ Hid (PS w wr S R n (.slice ta tn tc) (w.heap.size + 1) (mixL (List.replicate n 1) (List.replicate n 0) i))) (fun iv _ => n - (intOf iv).toNat)
  case atStart => exact ⟨0, rfl, by omega, hide' (by rw [mixL_zero]; exact P0.out)⟩
  case round =>
    clear P0
    obtain ⟨i, rfl, hi, HH⟩ := hrel
    by_cases d : (i : Int) < (n : Int)
    · have HC := HH.out.at (i := i) (by rw [mixL_length]; simp; omega)
      have HF := HH.out.cl.fz i
      go_wp2
      refine ⟨⟨i + 1, by go_num, by omega, hide' ?_⟩, by simp [intOf]; omega⟩
      have := HH.out.set i 1 (by rw [mixL_length]; simp; omega)
      rw [mixL_set _ _ _ (show (List.replicate n (1 : Int)).getD i 0 = 1 by simp [List.getD, show i < n by omega])] at this
      exact this
    · have P1 := hide' (show PS w wr S R n (.slice ta tn tc) (w.heap.size + 1) (cntL S n T ws 0) by
        have := HH.out
        rw [show i = (List.replicate n (0 : Int)).length by simp; omega, mixL_full _ _ (by simp)] at this
        exact this)
      clear HH
      go_wp2
      go_loopw [5, 32] (fun cv iv wr => ∃ i g : Nat, cv = .slice (some ⟨g, 0, none⟩) n n ∧ iv = .int .i64 (i : Int) ∧ i ≤ L ∧ Hid (PS w wr S R n (.slice ta tn tc) g (cntL S n T ws i))) (fun _ iv _ => L - (intOf iv).toNat)
      case atStart => exact ⟨0, _, rfl, rfl, by omega, P1⟩
      case round =>
        clear P1
        obtain ⟨i, g, rfl, rfl, hi, H1⟩ := hrel
        by_cases d : (i : Int) < (L : Int)
        · obtain ⟨ga, off, rfl, hcw⟩ := (AW.out.below H1.out.bl).at (k := i) (by omega)
          obtain ⟨s, hs⟩ : ∃ s, ws.getD i 0 = s := ⟨_, rfl⟩
          have HS := hide' hs
          rw [hs] at hcw
          have P1 := hide' (H1.out.new n 3)
          have Q1 := hide' (H1.out.below ((Below.refl _ _).alloc (Nat.le_refl _) (.cells (madeCells #[.int .i64 0] n) 3)))
          obtain ⟨f, hf⟩ : ∃ f, wr.heap.size = f := ⟨_, rfl⟩
          have fl : w.heap.size < f := by have := H1.out.gb.lt; omega
          have fg : g ≠ f := by have := H1.out.cl.lt; omega
          obtain ⟨y0, y1, y2, y3⟩ := H1.out.gb
          rw [hf] at P1
          clear hs H1
          go_wp2
          try rw [hf]
          clear y0 y1 y2 y3 hcw
          go_loopw [41] (fun iv wr => ∃ q : Nat, iv = .int .i64 (q : Int) ∧ q ≤ n ∧ Hid (PS w wr S R n (.slice ta tn tc) g (cntL S n T ws i) ∧ PS w wr S R n (.slice ta tn tc) f (cntS S n T (cntL S n T ws i) s (q * S)))) (fun iv _ => n - (intOf iv).toNat)
          case atStart => exact ⟨0, rfl, by omega, hide' ⟨Q1.out, by rw [Nat.zero_mul]; exact P1.out⟩⟩
          case round =>
            clear P1 Q1 hf
            obtain ⟨q, rfl, hq, H2⟩ := hrel
            by_cases d : (q : Int) < (n : Int)
            · have hcq := H2.out.1.at (i := q) (by rw [LL.out]; omega)
              obtain ⟨x, hx⟩ : ∃ x, (cntL S n T ws i).getD q 0 = x := ⟨_, rfl⟩
              have HX := hide' hx
              have XS := hide' (show 0 ≤ x ∧ x ≤ big by rw [← hx]; exact LS.out i q)
              rw [hx] at hcq
              obtain ⟨y0, y1, y2, y3⟩ := H2.out.1.gb
              clear hx
              go_wp2
              clear y0 y1 y2 y3 hcq
              go_loopw [48] (fun iv wr => ∃ c : Nat, iv = .int .i64 (c : Int) ∧ c ≤ S ∧ Hid (PS w wr S R n (.slice ta tn tc) g (cntL S n T ws i) ∧ PS w wr S R n (.slice ta tn tc) f (cntS S n T (cntL S n T ws i) s (q * S + c)))) (fun iv _ => S - (intOf iv).toNat)
              case atStart => exact ⟨0, rfl, by omega, H2⟩
              case round =>
                clear H2
                obtain ⟨c, rfl, hc, H3⟩ := hrel
                by_cases d : (c : Int) < (S : Int)
                · obtain ⟨y0, y1, y2, y3⟩ := H3.out.1.gb
                  obtain ⟨j, hj⟩ : ∃ j, q * S + c = j := ⟨_, rfl⟩
                  have jt : j < tn := by
                    rw [HTN.out, ← hj]
                    have : (q + 1) * S ≤ n * S := Nat.mul_le_mul_right _ (by omega)
                    rw [Nat.add_mul] at this
                    omega
                  have jd := hide' (show j / S = q by rw [← hj, Nat.mul_comm, Nat.mul_add_div (by omega), Nat.div_eq_of_lt (by omega)]; omega)
                  have t64 : tn ≤ 64 := by rw [HTN.out]; exact Nat.mul_le_mul hn16 hS4
                  have ON := hide' (on_any S R n T ta tn tc q c wr (AT.out.below H3.out.1.bl) hn (by rw [hj]; exact jt) (by omega) hS4 (by omega) (by omega))
                  rw [hj] at ON
                  obtain ⟨m, hm⟩ : ∃ m, j % n = m := ⟨_, rfl⟩
                  have mn : m < n := by rw [← hm]; exact Nat.mod_lt _ hn
                  obtain ⟨t, ht⟩ : ∃ t, T.getD j 0 = t := ⟨_, rfl⟩
                  rw [hm, ht] at ON
                  have NX := hide' (show cntS S n T (cntL S n T ws i) s (j + 1) = if t = s then (cntS S n T (cntL S n T ws i) s j).set m (satB ((cntS S n T (cntL S n T ws i) s j).getD m 0) x) else cntS S n T (cntL S n T ws i) s j by
                    rw [cntS, ht, hm, jd.out, HX.out])
                  rw [hj] at H3
                  have JJ := hide' (show q * S + (c + 1) = j + 1 by omega)
                  clear hm ht jd jt
                  go_wp2_with fail
                  refine ON.out.mono ?_
                  rintro e w5 ⟨rfl, b5⟩
                  have H5 := hide' (show PS w w5 S R n (.slice ta tn tc) g (cntL S n T ws i) ∧ PS w w5 S R n (.slice ta tn tc) f (cntS S n T (cntL S n T ws i) s j) from ⟨H3.out.1.below b5, H3.out.2.below b5⟩)
                  clear y0 y1 y2 y3 b5 ON H3
                  obtain ⟨y, hy⟩ : ∃ y, (cntS S n T (cntL S n T ws i) s j).getD m 0 = y := ⟨_, rfl⟩
                  have YS := hide' (show 0 ≤ y ∧ y ≤ big by rw [← hy]; exact cntS_small S n T _ s (LS.out i) j m)
                  have cy := H5.out.2.at (i := m) (by rw [cntS_length]; exact mn)
                  have cf := H5.out.2.cl.fz m
                  rw [hy] at cy NX
                  clear hy
                  by_cases dts : t = s
                  · have N1 := hide' (show cntS S n T (cntL S n T ws i) s (j + 1) = (cntS S n T (cntL S n T ws i) s j).set m (satB y x) by rw [NX.out, if_pos dts])
                    have e1 : (t == s) = true := by simp [dts]
                    clear dts NX
                    go_wp2_with fail
                    refine (sum_any y x _ YS.out.1 YS.out.2 XS.out.1 XS.out.2).mono ?_
                    rintro e w6 ⟨rfl, rfl⟩
                    go_wp2
                    refine ⟨⟨c + 1, by go_num, by omega, hide' ?_⟩, by simp [intOf]; omega⟩
                    rw [JJ.out, N1.out]
                    exact ⟨H5.out.1.setOther fl fg _ _, H5.out.2.set m _ (by rw [cntS_length]; exact mn)⟩
                  · have N1 := hide' (show cntS S n T (cntL S n T ws i) s (j + 1) = cntS S n T (cntL S n T ws i) s j by rw [NX.out, if_neg dts])
                    have e1 : (t == s) = false := by simp [dts]
                    clear dts NX
                    go_wp2
                    refine ⟨⟨c + 1, by go_num, by omega, hide' ?_⟩, by simp [intOf]; omega⟩
                    rw [JJ.out, N1.out]
                    exact H5.out
                · have H4 := hide' (show PS w wr S R n (.slice ta tn tc) g (cntL S n T ws i) ∧ PS w wr S R n (.slice ta tn tc) f (cntS S n T (cntL S n T ws i) s ((q + 1) * S)) by
                    have := H3.out
                    rw [show q * S + c = (q + 1) * S by rw [Nat.add_mul]; omega] at this
                    exact this)
                  clear H3
                  go_wp2
                  exact ⟨⟨q + 1, by go_num, by omega, H4⟩, by simp [intOf]; omega⟩
            · have H4 := hide' (show PS w wr S R n (.slice ta tn tc) f (cntL S n T ws (i + 1)) by
                have := H2.out.2
                rw [show q = n by omega, ← HS.out] at this
                exact this)
              clear H2
              go_wp2
              exact ⟨⟨i + 1, f, rfl, by go_num, by omega, H4⟩, by simp [intOf]; omega⟩
        · have HI := hide' (show i = ws.length by have := HLN.out; omega)
          obtain ⟨xs, hxs⟩ : ∃ xs, cntL S n T ws i = xs := ⟨_, rfl⟩
          have XL := hide' (show xs.length = n by rw [← hxs]; exact LL.out i)
          have XB := hide' (show smallB xs by rw [← hxs]; exact LS.out i)
          have AN := hide' (show sumB xs n = ans by rw [← ANS.out, ← hxs, HI.out]; rfl)
          rw [hxs] at H1
          clear hxs
          go_wp2
          go_loopw [15, 76] (fun tv iv wr => ∃ k : Nat, tv = .int .i64 (sumB xs k) ∧ iv = .int .i64 (k : Int) ∧ k ≤ n ∧ Hid (PS w wr S R n (.slice ta tn tc) g xs)) (fun _ iv _ => n - (intOf iv).toNat)
          case atStart => exact ⟨0, rfl, rfl, by omega, H1⟩
          case round =>
            clear H1
            obtain ⟨k, rfl, rfl, hk, H2⟩ := hrel
            by_cases d : (k : Int) < (n : Int)
            · have hck := H2.out.at (i := k) (by rw [XL.out]; omega)
              obtain ⟨y, hy⟩ : ∃ y, xs.getD k 0 = y := ⟨_, rfl⟩
              have YS := hide' (show 0 ≤ y ∧ y ≤ big by rw [← hy]; exact XB.out k)
              have TS := hide' (sumB_in xs XB.out k)
              have NX := hide' (show sumB xs (k + 1) = satB (sumB xs k) y by rw [sumB, hy])
              rw [hy] at hck
              clear hy
              go_wp2_with fail
              refine (sum_any _ y _ TS.out.1 TS.out.2 YS.out.1 YS.out.2).mono ?_
              rintro e w6 ⟨rfl, rfl⟩
              go_wp2
              exact ⟨⟨k + 1, by rw [NX.out], by go_num, by omega, H2⟩, by simp [intOf]; omega⟩
            · have E := hide' (show sumB xs k = ans by rw [show k = n by omega]; exact AN.out)
              go_wp2
              go_ret
              exact ⟨by rw [← E.out]; rfl, H2.out.bl⟩
end Go.Proofs.YtjjdjdodhedihaaDoor

namespace Go.Proofs.YtjjdjdodhedihaaDoor
open Go.RowKit
set_option linter.unusedVariables false

/-- The rule's box and a list of the call's own. -/
structure QS (w wr : World) (S R : Nat) (v : Value) (g : Nat) (xs : List Int) : Prop where
  rb : RB w.heap.size S R v wr
  bl : Below w.heap.size w wr
  cl : Cel wr g xs
  lt : w.heap.size < g
theorem QS.below {w wr w' : World} {S R g : Nat} {v : Value} {xs : List Int} (h : QS w wr S R v g xs) (hb : Below wr.heap.size wr w') : QS w w' S R v g xs :=
  ⟨h.rb.next hb, h.bl.trans (hb.mono h.bl.size), h.cl.below hb, h.lt⟩
theorem QS.set {w wr : World} {S R g : Nat} {v : Value} {xs : List Int} (h : QS w wr S R v g xs) (i : Nat) (x : Int) (hi : i < xs.length) : QS w (wr.setCell ⟨g, i, none⟩ (.int .i64 x)) S R v g (xs.set i x) :=
  ⟨h.rb.block (heap_setCell_other _ _ _ _ _ (by have := h.lt; omega)), h.bl.setCell (Nat.le_of_lt h.lt) _, h.cl.set i x hi, h.lt⟩
theorem QS.setOther {w wr : World} {S R g f : Nat} {v : Value} {xs : List Int} (h : QS w wr S R v g xs) (hf : w.heap.size < f) (hne : g ≠ f) (i : Nat) (u : Value) : QS w (wr.setCell ⟨f, i, none⟩ u) S R v g xs :=
  ⟨h.rb.block (heap_setCell_other _ _ _ _ _ (by omega)), h.bl.setCell (Nat.le_of_lt hf) _, h.cl.block (by simp) (heap_setCell_other _ _ _ _ _ hne), h.lt⟩
theorem QS.drew {w wr : World} {S R g : Nat} {v : Value} {xs : List Int} (h : QS w wr S R v g xs) : QS w wr.drew S R v g xs :=
  ⟨h.rb.block rfl, h.bl.drew, ⟨h.cl.lt, h.cl.cells, h.cl.fz⟩, h.lt⟩
theorem QS.new {w wr : World} {S R g : Nat} {v : Value} {xs : List Int} (h : QS w wr S R v g xs) (N : Nat) (t : TypeId) : QS w (wr.alloc (.cells (madeCells #[.int .i64 0] N) t)) S R v wr.heap.size (List.replicate N 0) :=
  ⟨h.rb.alloc _, h.bl.alloc h.bl.size _, Cel.made wr N t, Nat.lt_of_lt_of_le h.rb.lt (Nat.le_refl _)⟩

end Go.Proofs.YtjjdjdodhedihaaDoor

namespace Go.Proofs.YtjjdjdodhedihaaDoor
open Go.RowKit
set_option linter.unusedVariables false

def SMg (w : World) (S R : Nat) (ta : Option Addr) (tn tc : Nat) (w' : World) : Prop := w'.cell? ⟨w.heap.size, 0, none⟩ = some (.int .i64 2) ∧ w'.cell? ⟨w.heap.size, 1, none⟩ = some (.int .i64 0) ∧ w'.cell? ⟨w.heap.size, 2, none⟩ = some (.int .i64 0) ∧ w'.cell? ⟨w.heap.size, 3, none⟩ = some (.int .i64 (S : Int)) ∧ w'.cell? ⟨w.heap.size, 4, none⟩ = some (.int .i64 (R : Int)) ∧ w'.cell? ⟨w.heap.size, 5, none⟩ = some (.slice ta tn tc) ∧ w'.cell? ⟨w.heap.size, 6, none⟩ = some (.string ⟨#[]⟩)
theorem SMg.of {w w' : World} {S R : Nat} {ta : Option Addr} {tn tc : Nat} (h : RB w.heap.size S R (.slice ta tn tc) w') : SMg w S R ta tn tc w' := by
  obtain ⟨x0, x1, x2, x3, x4, x5, x6⟩ := h
  exact ⟨x0, x1, x2, x3, x4, x5, x6⟩

theorem SMg.stored {w w2 : World} {S R : Nat} {ta : Option Addr} {tn tc : Nat} (h : RB w.heap.size S R (.slice ta tn tc) w2) (a b c d : Value) :
    SMg w S R ta tn tc ((((w2.setCell ⟨w.heap.size + 1, 0, none⟩ a).setCell ⟨w.heap.size + 1, 1, none⟩ b).setCell ⟨w.heap.size + 1, 2, none⟩ c).setCell ⟨w.heap.size + 1, 3, none⟩ d) :=
  SMg.of (h.block (by rw [heap_setCell_other _ _ _ _ _ (by omega), heap_setCell_other _ _ _ _ _ (by omega), heap_setCell_other _ _ _ _ _ (by omega), heap_setCell_other _ _ _ _ _ (by omega)]))

theorem stored4 {w2 : World} {p : Nat} {z0 z1 z2 z3 : Value} (h0 : w2.cell? ⟨p, 0, none⟩ = some z0) (h1 : w2.cell? ⟨p, 1, none⟩ = some z1) (h2 : w2.cell? ⟨p, 2, none⟩ = some z2) (h3 : w2.cell? ⟨p, 3, none⟩ = some z3) (a b c d : Value) {W : World}
    (e : W = ((((w2.setCell ⟨p, 0, none⟩ a).setCell ⟨p, 1, none⟩ b).setCell ⟨p, 2, none⟩ c).setCell ⟨p, 3, none⟩ d)) :
    W.cell? ⟨p, 0, none⟩ = some a ∧ W.cell? ⟨p, 1, none⟩ = some b ∧ W.cell? ⟨p, 2, none⟩ = some c ∧ W.cell? ⟨p, 3, none⟩ = some d := by
  subst e
  have o : ∀ (W : World) (i j : Nat) (u : Value), i ≠ j → (W.setCell ⟨p, i, none⟩ u).cell? ⟨p, j, none⟩ = W.cell? ⟨p, j, none⟩ := fun W i j u h => World.cell?_setCell_other _ ⟨p, i, none⟩ ⟨p, j, none⟩ _ (fun q => h (congrArg Addr.off q))
  refine ⟨?_, ?_, ?_, ?_⟩
  · rw [o _ 3 0 _ (by decide), o _ 2 0 _ (by decide), o _ 1 0 _ (by decide)]; exact World.cell?_setCell_same _ _ _ h0
  · rw [o _ 3 1 _ (by decide), o _ 2 1 _ (by decide)]; exact World.cell?_setCell_same _ _ _ (by rw [o _ 0 1 _ (by decide)]; exact h1)
  · rw [o _ 3 2 _ (by decide)]; exact World.cell?_setCell_same _ _ _ (by rw [o _ 1 2 _ (by decide), o _ 0 2 _ (by decide)]; exact h2)
  · exact World.cell?_setCell_same _ _ _ (by rw [o _ 2 3 _ (by decide), o _ 1 3 _ (by decide), o _ 0 3 _ (by decide)]; exact h3)
theorem below4 {w w2 : World} {p : Nat} (h : Below w.heap.size w w2) (hp : w.heap.size ≤ p) (a b c d : Value) : Below w.heap.size w ((((w2.setCell ⟨p, 0, none⟩ a).setCell ⟨p, 1, none⟩ b).setCell ⟨p, 2, none⟩ c).setCell ⟨p, 3, none⟩ d) :=
  (((h.setCell (p := ⟨p, 0, none⟩) hp _).setCell (p := ⟨p, 1, none⟩) hp _).setCell (p := ⟨p, 2, none⟩) hp _).setCell (p := ⟨p, 3, none⟩) hp _

set_option maxRecDepth 100000 in
set_option maxHeartbeats 3200000 in
theorem graphOf_any (S R : Nat) (T : List Int) (ta : Option Addr) (tn tc n : Nat) (w : World) (hL : LineOk S R T) (hn : tn / S = n) (ht : tn ≤ 4096) :
    Calls Tryd.prog 41 #[.agg #[.int .i64 2, .int .i64 0, .int .i64 0, .int .i64 (S : Int), .int .i64 (R : Int), .slice ta tn tc, .string ⟨#[]⟩]] w fun e w' => e = .returned (.agg #[.int .i64 (S : Int), .int .i64 (2 * (R : Int)), .int .i64 (n : Int), .slice ta tn tc]) ∧ Below w.heap.size w w' := by
  obtain ⟨w1, hw1⟩ : ∃ w1, (w.alloc (.cells #[.int .i64 2, .int .i64 0, .int .i64 0, .int .i64 (S : Int), .int .i64 (R : Int), .slice ta tn tc, .string ⟨#[]⟩] 24)).alloc (.cells #[.int .i64 0, .int .i64 0, .int .i64 0, .slice none 0 0] 79) = w1 := ⟨_, rfl⟩
  have BB := hide' (show Below w.heap.size w w1 by rw [← hw1]; exact ((Below.refl _ _).alloc (Nat.le_refl _) _).alloc (by simp) _)
  have RX := hide' (show RB w.heap.size S R (.slice ta tn tc) w1.drew by rw [← hw1]; exact ((RB.new w S R _ _).alloc _).block rfl)
  have s1 : w1.heap.size = w.heap.size + 2 := by rw [← hw1]; simp
  have ZC0 := hide' (show w1.cell? ⟨w.heap.size + 1, 0, none⟩ = some (.int .i64 0) by rw [← hw1, World.cell?_alloc_at _ _ _ _ (by simp)]; rfl)
  have ZC1 := hide' (show w1.cell? ⟨w.heap.size + 1, 1, none⟩ = some (.int .i64 0) by rw [← hw1, World.cell?_alloc_at _ _ _ _ (by simp)]; rfl)
  have ZC2 := hide' (show w1.cell? ⟨w.heap.size + 1, 2, none⟩ = some (.int .i64 0) by rw [← hw1, World.cell?_alloc_at _ _ _ _ (by simp)]; rfl)
  have ZC3 := hide' (show w1.cell? ⟨w.heap.size + 1, 3, none⟩ = some (.slice none 0 0) by rw [← hw1, World.cell?_alloc_at _ _ _ _ (by simp)]; rfl)
  have ZF := hide' (show ∀ k, w1.frozen? ⟨w.heap.size + 1, k, none⟩ = false by
    intro k
    rw [← hw1]; simp)
  have HP := hide' (fun (wr : World) => placesOf_any S R ta tn tc n wr hL.s2 hL.s4 hn ht)
  have r10 := hL.r10
  have S0 := hide' (SMg.of RX.out)
  clear hL hn
  go_enter Tryd.func41, Tryd.ntmps41
  go_upto_region 1 with fail
  go_region_held3 (fun w' => w'.cell? ⟨w.heap.size, 0, none⟩ = some (.int .i64 2) ∧ w'.cell? ⟨w.heap.size, 1, none⟩ = some (.int .i64 0) ∧ w'.cell? ⟨w.heap.size, 2, none⟩ = some (.int .i64 0) ∧ w'.cell? ⟨w.heap.size, 3, none⟩ = some (.int .i64 (S : Int)) ∧ w'.cell? ⟨w.heap.size, 4, none⟩ = some (.int .i64 (R : Int)) ∧ w'.cell? ⟨w.heap.size, 5, none⟩ = some (.slice ta tn tc) ∧ w'.cell? ⟨w.heap.size, 6, none⟩ = some (.string ⟨#[]⟩)) (first | exact S0.out | exact S2.out | exact SMg.stored R2.out _ _ _ _)
    ((go_at_call 73; refine (HP.out _).mono ?_; rintro e w2 ⟨rfl, b2⟩; have B2 := hide' b2; have R2 := hide' (RX.out.next b2); have S2 := hide' (SMg.of R2.out); clear b2; have hb := B2.out.block (w.heap.size + 1) (show w.heap.size + 1 < w1.heap.size by omega); have z0 := (World.cell?_of_block (w := w1) (a := ⟨w.heap.size + 1, 0, none⟩) hb).trans ZC0.out; have z1 := (World.cell?_of_block (w := w1) (a := ⟨w.heap.size + 1, 1, none⟩) hb).trans ZC1.out; have z2 := (World.cell?_of_block (w := w1) (a := ⟨w.heap.size + 1, 2, none⟩) hb).trans ZC2.out; have z3 := (World.cell?_of_block (w := w1) (a := ⟨w.heap.size + 1, 3, none⟩) hb).trans ZC3.out; have f0 := (World.frozen?_of_block (w := w1) (a := ⟨w.heap.size + 1, 0, none⟩) hb).trans (ZF.out 0); have f1 := (World.frozen?_of_block (w := w1) (a := ⟨w.heap.size + 1, 1, none⟩) hb).trans (ZF.out 1); have f2 := (World.frozen?_of_block (w := w1) (a := ⟨w.heap.size + 1, 2, none⟩) hb).trans (ZF.out 2); have f3 := (World.frozen?_of_block (w := w1) (a := ⟨w.heap.size + 1, 3, none⟩) hb).trans (ZF.out 3); clear hb))
  have WR : IntKind.i64.wrap (2 * (R : Int)) = 2 * (R : Int) := by simp [IntKind.wrap, IntKind.bits, IntKind.signed]; omega
  have BF := hide' (below4 (p := w.heap.size + 1) (BB.out.drew.trans (B2.out.mono (by show w.heap.size ≤ w1.heap.size; omega))) (by omega) (.int .i64 (S : Int)) (.int .i64 (2 * (R : Int))) (.int .i64 (n : Int)) (.slice ta tn tc))
  obtain ⟨W, hW⟩ : ∃ W, W = ((((w2.setCell ⟨w.heap.size + 1, 0, none⟩ (.int .i64 (S : Int))).setCell ⟨w.heap.size + 1, 1, none⟩ (.int .i64 (2 * (R : Int)))).setCell ⟨w.heap.size + 1, 2, none⟩ (.int .i64 (n : Int))).setCell ⟨w.heap.size + 1, 3, none⟩ (.slice ta tn tc)) := ⟨_, rfl⟩
  obtain ⟨g0, g1, g2, g3⟩ := stored4 z0 z1 z2 z3 _ _ _ _ hW
  rw [← hW] at BF
  simp only [WR]
  rw [← hW]
  clear z0 z1 z2 z3
  go_wp2
  refine bodyPost_ret (v := .agg #[.int .i64 (S : Int), .int .i64 (2 * (R : Int)), .int .i64 (n : Int), .slice ta tn tc]) (by simp [results, Tryd.results41, go_sem, g0, g1, g2, g3]) rfl ?_
  exact ⟨rfl, BF.out⟩
end Go.Proofs.YtjjdjdodhedihaaDoor

