/-
  What the last text of this claim leans on, part 22: Rr3, Sw3.
-/
import Derived.Test.YtpppmollmiomlaaDoorZu12
import Derived.Test.YtpppmollmiomlaaDoorZu21
import Derived.Test.YtpppmollmiomlaaDoorZu3
namespace Go.Proofs.YtpppmollmiomlaaDoor
open Go.RowKit
set_option linter.unusedVariables false
set_option linter.unusedSimpArgs false
/-- Ways, signs and chips as they lie. -/
structure RfR (V : World) (A B0 P wb cap : Nat) (v : Nat → Value) (xs : List EgT) (sb sc cb cc : Nat) (sg cf : Nat → Nat) : Prop where
  al : AlR V A P wb cap v xs
  sgs : V.ownsRow B0 3 1 (.slice (some ⟨sb, 0, none⟩) P sc) P ((lsN P sg).map (Value.int .i64))
  chs : V.ownsRow B0 3 1 (.slice (some ⟨cb, 0, none⟩) P cc) P ((lsN P cf).map (Value.int .i64))
  ne : sb ≠ cb
  ls : sb < A
  lc : cb < A
theorem RfR.next {V V' : World} {A B0 P wb cap : Nat} {v : Nat → Value} {xs : List EgT} {sb sc cb cc : Nat} {sg cf : Nat → Nat} (h : RfR V A B0 P wb cap v xs sb sc cb cc sg cf) (b : Below V.heap.size V V') : RfR V' A B0 P wb cap v xs sb sc cb cc sg cf := ⟨h.al.next b, own_next h.sgs b, own_next h.chs b, h.ne, h.ls, h.lc⟩
theorem RfR.setS {V : World} {A B0 P wb cap : Nat} {v : Nat → Value} {xs : List EgT} {sb sc cb cc : Nat} {sg cf : Nat → Nat} (h : RfR V A B0 P wb cap v xs sb sc cb cc sg cf) (k x : Nat) : RfR (V.setCell ⟨sb, k, none⟩ (.int .i64 (x : Int))) A B0 P wb cap v xs sb sc cb cc (upN sg k x) cf := by
  have st := (h.sgs.stored k (.int .i64 (x : Int))).1
  rw [lsN_set] at st
  exact ⟨h.al.set h.ls _, st, h.chs.kept (grownBy_setR V sb k _) (Or.inr (by simp [Value.ownBlock]; exact fun e => h.ne e.symm)), h.ne, h.ls, h.lc⟩
theorem RfR.setC {V : World} {A B0 P wb cap : Nat} {v : Nat → Value} {xs : List EgT} {sb sc cb cc : Nat} {sg cf : Nat → Nat} (h : RfR V A B0 P wb cap v xs sb sc cb cc sg cf) (k x : Nat) : RfR (V.setCell ⟨cb, k, none⟩ (.int .i64 (x : Int))) A B0 P wb cap v xs sb sc cb cc sg (upN cf k x) := by
  have st := (h.chs.stored k (.int .i64 (x : Int))).1
  rw [lsN_set] at st
  exact ⟨h.al.set h.lc _, h.sgs.kept (grownBy_setR V cb k _) (Or.inr (by simp [Value.ownBlock]; exact h.ne)), st, h.ne, h.ls, h.lc⟩
theorem RfR.setO {V : World} {A B0 P wb cap : Nat} {v : Nat → Value} {xs : List EgT} {sb sc cb cc : Nat} {sg cf : Nat → Nat} (h : RfR V A B0 P wb cap v xs sb sc cb cc sg cf) {g : Nat} (k : Nat) (x : Value) (n1 : sb ≠ g) (n2 : cb ≠ g) (n3 : g < A) : RfR (V.setCell ⟨g, k, none⟩ x) A B0 P wb cap v xs sb sc cb cc sg cf :=
  ⟨h.al.set n3 _, h.sgs.kept (grownBy_setR V g k _) (Or.inr (by simp [Value.ownBlock]; exact n1)), h.chs.kept (grownBy_setR V g k _) (Or.inr (by simp [Value.ownBlock]; exact n2)), h.ne, h.ls, h.lc⟩
theorem own_cell {V : World} {B P g q : Nat} {f : Nat → Nat} (h : V.ownsRow B 3 1 (.slice (some ⟨g, 0, none⟩) P q) P ((lsN P f).map (Value.int .i64))) {k : Nat} (hk : k < P) : V.cell? ⟨g, k, none⟩ = some (.int .i64 (f k : Int)) := by
  rw [h.cellAt k (by omega), List.getElem?_map, lsN_get _ hk]
  rfl
/-- Where the chips are behind one that went. -/
def wentC (t : Nat) (cf : Nat → Nat) (k y : Nat) : Nat → Nat := if y = t then upN cf k (cf k - 1) else upN (upN cf k (cf k - 1)) y (upN cf k (cf k - 1) y + 1)
def GoesOut (V : World) (A B0 P wb cap : Nat) (v : Nat → Value) (xs : List EgT) (sb sc cb cc : Nat) (sg cf : Nat → Nat) (t k : Nat) (e : Ending) (w' : World) : Prop :=
  e = .returned (.tuple #[]) ∧ RfR w' A B0 P wb cap v xs sb sc cb cc (upN sg k ((sg k + 1) % dgF xs k)) (wentC t cf k (wyF xs k ((sg k + 1) % dgF xs k))) ∧ KpB sb cb V w'
set_option maxRecDepth 100000 in
set_option maxHeartbeats 12800000 in
theorem refGoes_any (V : World) (A B0 P wb cap : Nat) (v : Nat → Value) (xs : List EgT) (sb sc cb cc : Nat) (sg cf : Nat → Nat) (h : RfR V A B0 P wb cap v xs sb sc cb cc sg cf) (t k : Nat) (hk : k < P) (hs : sg k < dgF xs k) (hd : dgF xs k ≤ 100000) (hc : 1 ≤ cf k) (hm : ∀ j, j < P → cf j ≤ 1000000) (hy : ∀ i, i < dgF xs k → wyF xs k i < P) :
    Calls Tryd.prog 24 #[.slice (some ⟨wb, 0, none⟩) P cap, .int .i64 (t : Int), .slice (some ⟨sb, 0, none⟩) P sc, .slice (some ⟨cb, 0, none⟩) P cc, .int .i64 (k : Int)] V (GoesOut V A B0 P wb cap v xs sb sc cb cc sg cf t k) := by
  obtain ⟨g, q, ev, hcell⟩ := h.al.at hk (by rw [wyO_len]; omega)
  have x1 := own_cell h.sgs hk
  have x2 := h.sgs.frozenAt k
  have x3 := h.al.cell hk
  rw [ev, wyO_len] at x3
  obtain ⟨m, hmm⟩ : ∃ m, dgF xs k = m := ⟨_, rfl⟩
  obtain ⟨y, hyy⟩ : ∃ y, sg k = y := ⟨_, rfl⟩
  obtain ⟨s', hs'⟩ : ∃ s', (y + 1) % m = s' := ⟨_, rfl⟩
  obtain ⟨r, hr⟩ : ∃ r, wyF xs k s' = r := ⟨_, rfl⟩
  have SM := hide' (show s' < m by rw [← hs']; exact Nat.mod_lt _ (by omega))
  have RP := hide' (show r < P by rw [← hr]; exact hy s' (by rw [hmm]; exact SM.out))
  have OUT := hide' (fun (e : Ending) (w' : World) (h1 : e = .returned (.tuple #[])) (h2 : RfR w' A B0 P wb cap v xs sb sc cb cc (upN sg k s') (wentC t cf k r)) (h3 : KpB sb cb V w') => show GoesOut V A B0 P wb cap v xs sb sc cb cc sg cf t k e w' by
    unfold GoesOut
    rw [hmm, hyy, hs', hr]
    exact ⟨h1, h2, h3⟩)
  have EV := hide' ev
  have MW := hide' (show (wyO xs k).length = m by rw [wyO_len, hmm])
  have CELL := hide' (fun (X : World) (hX : AlR X A P wb cap v xs) => show X.cell? ⟨g, s', none⟩ = some (.int .i64 (r : Int)) by
    obtain ⟨g', q', e', hc'⟩ := hX.at hk (by rw [wyO_len]; omega)
    rw [ev] at e'
    simp at e'
    obtain ⟨rfl, rfl⟩ := e'
    have l : s' < (wyO xs k).length := by rw [wyO_len, hmm]; exact SM.out
    have := hc' s' l
    rw [this, ← at_getD l, wyO_at, hr])
  rw [hmm] at x3 hs hd
  rw [hyy] at x1 hs
  have H1 := hide' (h.setS k s')
  have K1 := hide' (KpB.setS sb cb V k (.int .i64 (s' : Int)))
  have l1 : (k : Int) < (P : Int) := by omega
  have e1 : (y : Int) + 1 = ((y + 1 : Nat) : Int) := by omega
  obtain ⟨y1, hy1⟩ : ∃ y1, y + 1 = y1 := ⟨_, rfl⟩
  rw [hy1] at hs' e1
  have e2 : (y1 : Int).tmod (m : Int) = (s' : Int) := by rw [Int.tmod_eq_emod_of_nonneg (by omega), ← hs']; simp
  have e3 : ¬ (m : Int) = 0 := by omega
  have e4 : IntKind.i64.wrap (y1 : Int) = (y1 : Int) := by simp [IntKind.wrap, IntKind.bits, IntKind.signed]; omega
  have e5 : IntKind.i64.wrap (s' : Int) = (s' : Int) := by have := SM.out; simp [IntKind.wrap, IntKind.bits, IntKind.signed]; omega
  have e6 : ((m : Int) == 0) = false := by simp; omega
  have CK := hide' (And.intro hc (And.intro hm hk))
  clear h ev hcell hmm hyy hs' hr hy hc hm hy1 hk
  go_enter Tryd.func24, Tryd.ntmps24
  go_upto_region 0 with fail
  go_region
  obtain ⟨w2, hw2⟩ : ∃ w2, (V.setCell ⟨sb, k, none⟩ (.int .i64 (s' : Int))).drew = w2 := ⟨_, rfl⟩
  have H2 := hide' (show RfR w2 A B0 P wb cap v xs sb sc cb cc (upN sg k s') cf by rw [← hw2]; exact H1.out.next (Below.refl _ _).drew)
  have K2 := hide' (show KpB sb cb V w2 by rw [← hw2]; exact K1.out.trans (KpB.of (Below.refl _ _).drew))
  rw [hw2]
  clear hw2 x1 x2 x3 e1 e2 e3 e4 e5 e6 H1 K1
  have z1 := own_cell H2.out.chs CK.out.2.2
  have z2 := H2.out.chs.frozenAt k
  obtain ⟨l, hl⟩ : ∃ l, cf k = l := ⟨_, rfl⟩
  obtain ⟨l', hl'⟩ : ∃ l', l - 1 = l' := ⟨_, rfl⟩
  have b1 : 1 ≤ l := by rw [← hl]; exact CK.out.1
  have b2 : l ≤ 1000000 := by rw [← hl]; exact CK.out.2.1 k CK.out.2.2
  have e4 : (l : Int) - 1 = (l' : Int) := by omega
  rw [hl] at z1
  obtain ⟨w3, hw3⟩ : ∃ w3, w2.setCell ⟨cb, k, none⟩ (.int .i64 (l' : Int)) = w3 := ⟨_, rfl⟩
  have H3 := hide' (show RfR w3 A B0 P wb cap v xs sb sc cb cc (upN sg k s') (upN cf k (cf k - 1)) by rw [← hw3, hl, hl']; exact H2.out.setC k l')
  have K3 := hide' (show KpB sb cb V w3 by rw [← hw3]; exact K2.out.trans (KpB.setT sb cb w2 k _))
  have HW3 := hide' hw3
  have HL := hide' (And.intro hl hl')
  clear hl hl' hw3
  go_upto_region 2 with fail
  rw [HW3.out]
  clear z1 z2 e4 b1 b2
  have x1 := own_cell H3.out.sgs CK.out.2.2
  rw [show upN sg k s' k = s' by unfold upN; rw [if_pos rfl]] at x1
  have x3 := H3.out.al.cell CK.out.2.2
  rw [EV.out] at x3
  obtain ⟨m2, hm2⟩ : ∃ m2, (wyO xs k).length = m2 := ⟨_, rfl⟩
  rw [hm2] at x3
  have l2 : (s' : Int) < (m2 : Int) := by have := SM.out; have e := MW.out; omega
  have x4 := CELL.out w3 H3.out.al
  clear hm2
  go_quiet (fail)
  obtain ⟨w4, hw4⟩ : ∃ w4, w3.drewN nq = w4 := ⟨_, rfl⟩
  have B4 := hide' (show Below w3.heap.size w3 w4 by rw [← hw4]; exact ⟨rfl, rfl, rfl, Nat.le_refl _, fun _ _ => rfl⟩)
  have H4 := hide' (H3.out.next B4.out)
  have K4 := hide' (K3.out.trans (KpB.of B4.out))
  rw [hw4]
  clear hw4 x1 x3 x4 l2
  by_cases d : r = t
  · have e1 : ((r : Int) != (t : Int)) = false := by rw [d]; simp
    have X := hide' (OUT.out _ w4 rfl (by unfold wentC; rw [if_pos d]; exact H4.out) K4.out)
    clear d
    go_wp2
    go_end0
    exact X.out
  · have e1 : ((r : Int) != (t : Int)) = true := by simp; omega
    have z1 := own_cell H4.out.chs RP.out
    have z2 := H4.out.chs.frozenAt r
    have lr : (r : Int) < (P : Int) := by have := RP.out; omega
    obtain ⟨p, hp⟩ : ∃ p, upN cf k (cf k - 1) r = p := ⟨_, rfl⟩
    have p5 : p ≤ 1000000 := by
      rw [← hp]
      have a := CK.out.2.1 r RP.out
      have b := CK.out.2.1 k CK.out.2.2
      unfold upN
      split <;> omega
    have X := hide' (show ∀ W, W = w4.setCell ⟨cb, r, none⟩ (.int .i64 ((p : Int) + 1)) → GoesOut V A B0 P wb cap v xs sb sc cb cc sg cf t k (.returned (.tuple #[])) W from fun W e => OUT.out _ W rfl (by
        unfold wentC
        rw [if_neg d, e, hp]
        have := H4.out.setC r (p + 1)
        rw [show ((p + 1 : Nat) : Int) = (p : Int) + 1 by omega] at this
        exact this) (by rw [e]; exact K4.out.trans (KpB.setT sb cb w4 r _)))
    rw [hp] at z1
    clear d hp
    go_wp2
    go_end0
    exact X.out _ rfl
end Go.Proofs.YtpppmollmiomlaaDoor

namespace Go.Proofs.YtpppmollmiomlaaDoor
open Go.RowKit
set_option linter.unusedVariables false
set_option maxRecDepth 100000 in
theorem Fault_places (P : Int) (ea : Option Addr) (n c : Nat) (w : World) (hp : P < 1 ∨ 10 < P) :
    Calls Tryd.prog 15 #[.agg #[.int .i64 P, .slice ea n c]] w fun e w' => e = .returned (.int .i64 1) ∧ Below w.heap.size w w' := by
  obtain ⟨w1, hw1⟩ : ∃ w1, w.alloc (.cells #[.int .i64 P, .slice ea n c] 24) = w1 := ⟨_, rfl⟩
  have HW1 := hide' hw1
  have B1 := hide' (show Below w.heap.size w w1 by rw [← hw1]; exact (Below.refl _ _).alloc (Nat.le_refl _) _)
  have R1 := hide' (show w1.heap[w.heap.size]? = some (.cells #[.int .i64 P, .slice ea n c] 24 (0, 0)) by rw [← hw1]; exact heap_alloc_new _ _)
  have y0 := cell_of_row w1 _ 0 _ _ _ R1.out
  have y1 := cell_of_row w1 _ 1 _ _ _ R1.out
  simp at y0 y1
  clear hw1
  go_enter Tryd.func15, Tryd.ntmps15
  go_upto_region 1 with fail
  rw [HW1.out]
  by_cases q1 : P < 1
  · clear hp
    go_wp2
    go_ret
    exact ⟨rfl, B1.out⟩
  · have q2 : 10 < P := by omega
    clear hp
    go_wp2
    go_ret
    exact ⟨rfl, B1.out⟩
set_option maxRecDepth 100000 in
theorem Fault_full (P : Int) (ea : Option Addr) (n c : Nat) (w : World) (q1 : ¬ P < 1) (q2 : ¬ 10 < P) (n4 : 40 < n) :
    Calls Tryd.prog 15 #[.agg #[.int .i64 P, .slice ea n c]] w fun e w' => e = .returned (.int .i64 4) ∧ Below w.heap.size w w' := by
  obtain ⟨w1, hw1⟩ : ∃ w1, w.alloc (.cells #[.int .i64 P, .slice ea n c] 24) = w1 := ⟨_, rfl⟩
  have HW1 := hide' hw1
  have B1 := hide' (show Below w.heap.size w w1 by rw [← hw1]; exact (Below.refl _ _).alloc (Nat.le_refl _) _)
  have R1 := hide' (show w1.heap[w.heap.size]? = some (.cells #[.int .i64 P, .slice ea n c] 24 (0, 0)) by rw [← hw1]; exact heap_alloc_new _ _)
  have y0 := cell_of_row w1 _ 0 _ _ _ R1.out
  have y1 := cell_of_row w1 _ 1 _ _ _ R1.out
  simp at y0 y1
  have q3 : 40 < (n : Int) := by omega
  clear hw1
  go_enter Tryd.func15, Tryd.ntmps15
  go_upto_region 1 with fail
  rw [HW1.out]
  go_wp2
  go_ret
  exact ⟨rfl, B1.out⟩
set_option maxRecDepth 100000 in
set_option maxHeartbeats 6400000 in
theorem Fault_edge (P : Int) (xs : List EgT) (ea : Option Addr) (n c : Nat) (w : World) (hE : ArgE w xs ea n c) (q1 : ¬ P < 1) (q2 : ¬ 10 < P) (n4 : n ≤ 40) (bad : ∃ j, j < xs.length ∧ badE P (xs.getD j egz)) :
    Calls Tryd.prog 15 #[.agg #[.int .i64 P, .slice ea n c]] w fun e w' => e = .returned (.int .i64 1) ∧ Below w.heap.size w w' := by
  obtain ⟨w1, hw1⟩ : ∃ w1, w.alloc (.cells #[.int .i64 P, .slice ea n c] 24) = w1 := ⟨_, rfl⟩
  have HW1 := hide' hw1
  have B1 := hide' (show Below w.heap.size w w1 by rw [← hw1]; exact (Below.refl _ _).alloc (Nat.le_refl _) _)
  have R1 := hide' (show w1.heap[w.heap.size]? = some (.cells #[.int .i64 P, .slice ea n c] 24 (0, 0)) by rw [← hw1]; exact heap_alloc_new _ _)
  have y0 := cell_of_row w1 _ 0 _ _ _ R1.out
  have y1 := cell_of_row w1 _ 1 _ _ _ R1.out
  simp at y0 y1
  have q3 : ¬ 40 < (n : Int) := by omega
  have HE := hide' (fun (V : World) (h : Below w.heap.size w V) => hE.below h)
  have HL := hide' hE.len
  have BAD := hide' bad
  clear hw1 hE bad
  go_enter Tryd.func15, Tryd.ntmps15
  go_upto_region 1 with fail
  rw [HW1.out]
  go_wp2
  go_loopw [3] (fun iv wr => ∃ i : Nat, iv = .int .i64 (i : Int) ∧ i ≤ n ∧ Hid (Below w1.heap.size w1 wr) ∧ Hid (∀ j, j < i → ¬ badE P (xs.getD j egz))) (fun iv _ => n - (intOf iv).toNat)
  case atStart => exact ⟨0, rfl, by omega, hide' (Below.refl _ _), hide' fun j h => by omega⟩
  case round =>
    obtain ⟨i, rfl, hi, BW, HA⟩ := hrel
    clear y0 y1
    have R2 := (BW.out.block _ (ltS_of_block R1.out)).trans R1.out
    have y0 := cell_of_row wr _ 0 _ _ _ R2
    have y1 := cell_of_row wr _ 1 _ _ _ R2
    simp at y0 y1
    by_cases d : (i : Int) < (n : Int)
    · have hl : i < xs.length := by have := HL.out; omega
      obtain ⟨g, off, rfl, hg, c0, c1, c2⟩ := (HE.out wr (B1.out.trans (BW.out.mono B1.out.size))).cells i hl
      obtain ⟨⟨p, q, t⟩, hx⟩ : ∃ x, xs[i] = x := ⟨_, rfl⟩
      rw [hx] at c0 c1 c2
      simp only at c0 c1 c2
      have EQ := hide' (show xs.getD i egz = ⟨p, q, t⟩ by rw [eg_at hl, hx])
      have BN := hide' (show ∀ o, Below w1.heap.size w1 (wr.alloc o) from fun o => BW.out.alloc BW.out.size o)
      have FN := hide' (show ∀ o, Below w.heap.size w (wr.alloc o) from fun o => B1.out.trans ((BN.out o).mono B1.out.size))
      have lw := ltS_of_block R2
      clear hx R2
      by_cases k0 : p < 0
      · go_wp2
        go_ret
        exact ⟨rfl, FN.out _⟩
      · by_cases k1 : P ≤ p
        · go_wp2
          go_ret
          exact ⟨rfl, FN.out _⟩
        · by_cases k2 : q < 0
          · go_wp2
            go_ret
            exact ⟨rfl, FN.out _⟩
          · by_cases k3 : P ≤ q
            · go_wp2
              go_ret
              exact ⟨rfl, FN.out _⟩
            · by_cases k4 : p = q
              · have e4 : (p == q) = true := by simpa using k4
                go_wp2
                go_ret
                exact ⟨rfl, FN.out _⟩
              · have e4 : (p == q) = false := by simpa using k4
                by_cases k5 : t < 1
                · go_wp2
                  go_ret
                  exact ⟨rfl, FN.out _⟩
                · by_cases k6 : 100 < t
                  · go_wp2
                    go_ret
                    exact ⟨rfl, FN.out _⟩
                  · have NB := hide' (show ∀ j, j < i + 1 → ¬ badE P (xs.getD j egz) from fun j h => by
                      by_cases e : j = i
                      · rw [e, EQ.out]; unfold badE; simp only; omega
                      · exact HA.out j (by omega))
                    go_wp2
                    exact ⟨⟨i + 1, by go_num, by omega, hide' (BN.out _), NB⟩, by simp [intOf]; omega⟩
    · exfalso
      obtain ⟨j, h1, h2⟩ := BAD.out
      exact HA.out j (by have := HL.out; omega) h2
end Go.Proofs.YtpppmollmiomlaaDoor

