/-
  What the last text of this claim leans on, part 12: Rr1, Rr2.
-/
import Derived.Test.YtpppmollmiomlaaDoorZu9
import Derived.Test.YtpppmollmiomlaaDoorZu11
import Derived.Deep.AppendLies
namespace Go.Proofs.YtpppmollmiomlaaDoor
open Go.RowKit
set_option linter.unusedVariables false
set_option linter.unusedSimpArgs false
theorem wl_yesA {xs : List EgT} {i m a b k : Nat} (h : a = k) : wlI xs i (m + 1) a b k = wlI xs i m a b k ++ [(b : Int)] := by
  unfold wlI wlP wyE
  simp [h, List.replicate_succ']
theorem wl_yesB {xs : List EgT} {i m a b k : Nat} (h0 : a ≠ k) (h : b = k) : wlI xs i (m + 1) a b k = wlI xs i m a b k ++ [(a : Int)] := by
  unfold wlI wlP wyE
  simp [h, h0, List.replicate_succ']
theorem wl_no {xs : List EgT} {i m a b k : Nat} (h0 : a ≠ k) (h : b ≠ k) : wlI xs i (m + 1) a b k = wlI xs i m a b k := by
  unfold wlI wlP wyE
  simp [h, h0]
def RWaysOut (w : World) (xs : List EgT) (k : Nat) (e : Ending) (w' : World) : Prop := ∃ v, e = .returned v ∧ w'.ownsRow w.heap.size 3 1 v (wyO xs k).length ((wyO xs k).map (Value.int .i64)) ∧ Below w.heap.size w w'
set_option maxRecDepth 100000 in
set_option maxHeartbeats 12800000 in
theorem refWays_any (P : Nat) (xs : List EgT) (ea : Option Addr) (n c : Nat) (k : Nat) (w : World) (hE : ArgE w xs ea n c) (n4 : n ≤ 40) (ok : ∀ j, j < xs.length → ¬ badE P (xs.getD j egz)) :
    Calls Tryd.prog 33 #[.agg #[.int .i64 (P : Int), .slice ea n c], .int .i64 (k : Int)] w (RWaysOut w xs k) := by
  obtain ⟨i0, hi0, hz⟩ := Option.map_eq_some_iff.1 info_int
  simp only [Prod.mk.injEq] at hz
  obtain ⟨hz0, hz1, hz2⟩ := hz
  obtain ⟨w1, hw1⟩ : ∃ w1, w.alloc (.cells #[.int .i64 (P : Int), .slice ea n c] 24) = w1 := ⟨_, rfl⟩
  have HW1 := hide' hw1
  have B1 := hide' (show Below w.heap.size w w1 by rw [← hw1]; exact (Below.refl _ _).alloc (Nat.le_refl _) _)
  have R1 := hide' (show w1.heap[w.heap.size]? = some (.cells #[.int .i64 (P : Int), .slice ea n c] 24 (0, 0)) by rw [← hw1]; exact heap_alloc_new _ _)
  have HE := hide' (fun (V : World) (h : Below w.heap.size w V) => hE.below h)
  have HL := hide' hE.len
  have OK := hide' ok
  have S1 := hide' (show w.heap.size + 1 = w1.heap.size by rw [← hw1]; simp)
  clear hw1 hE ok
  go_enter Tryd.func33, Tryd.ntmps33
  go_upto_region 1 with fail
  rw [HW1.out]
  go_wp2
  go_loopw [5, 6] (fun vv iv wr => ∃ (i : Nat) (v : Value), v = vv ∧ iv = .int .i64 (i : Int) ∧ i ≤ n ∧ Hid (wr.ownsRow w1.heap.size 3 1 v (waI xs i k).length ((waI xs i k).map (Value.int .i64))) ∧ Hid (Below w1.heap.size w1 wr)) (fun _ iv _ => n - (intOf iv).toNat)
  case atStart => exact ⟨0, _, rfl, rfl, by omega, hide' (World.ownsRow_nil _ _ _ _), hide' (Below.refl _ _)⟩
  case round =>
    obtain ⟨i, v, rfl, rfl, hi, OW, BW⟩ := hrel
    have FW := hide' (B1.out.trans (BW.out.mono B1.out.size))
    have y1 := cell_of_row wr _ 1 _ _ _ ((BW.out.block _ (ltS_of_block R1.out)).trans R1.out)
    simp at y1
    by_cases d : (i : Int) < (n : Int)
    · have hl : i < xs.length := by have := HL.out; omega
      obtain ⟨g, off, rfl, hg, c0, c1, c2⟩ := (HE.out wr FW.out).cells i hl
      obtain ⟨⟨p, q, t⟩, hx⟩ : ∃ x, xs[i] = x := ⟨_, rfl⟩
      rw [hx] at c0 c1 c2
      simp only at c0 c1 c2
      have EQ' := hide' (show xs.getD i egz = ⟨p, q, t⟩ by rw [eg_at hl, hx])
      have b1 := OK.out i hl
      rw [EQ'.out] at b1
      unfold badE at b1
      simp only at b1
      obtain ⟨pa, rfl⟩ := Int.eq_ofNat_of_zero_le (show 0 ≤ p by omega)
      obtain ⟨qa, rfl⟩ := Int.eq_ofNat_of_zero_le (show 0 ≤ q by omega)
      obtain ⟨ta, rfl⟩ := Int.eq_ofNat_of_zero_le (show 0 ≤ t by omega)
      have EQ := hide' (show xs.getD i egz = ⟨(pa : Int), (qa : Int), (ta : Int)⟩ from EQ'.out)
      have npq := hide' (show pa ≠ qa from fun e => b1 (by rw [e]; simp))
      have t100 : ta ≤ 100 := by omega
      obtain ⟨eb, heb⟩ : ∃ eb, wr.heap.size = eb := ⟨_, rfl⟩
      obtain ⟨w3, hw3⟩ : ∃ w3, wr.alloc (.cells #[.int .i64 (pa : Int), .int .i64 (qa : Int), .int .i64 (ta : Int)] 62) = w3 := ⟨_, rfl⟩
      have E3 := hide' (show w3.heap[eb]? = some (.cells #[.int .i64 (pa : Int), .int .i64 (qa : Int), .int .i64 (ta : Int)] 62 (0, 0)) by rw [← hw3, ← heb]; exact heap_alloc_new _ _)
      have O3 := hide' (show w3.ownsRow w1.heap.size 3 1 v (wlI xs i 0 pa qa k).length ((wlI xs i 0 pa qa k).map (Value.int .i64)) by
        rw [wl_zero, ← hw3]
        exact OW.out.alloc _)
      have B3 := hide' (show Below w1.heap.size w1 w3 by rw [← hw3]; exact BW.out.alloc BW.out.size _)
      have HEB := hide' heb
      have HW3 := hide' hw3
      clear hx b1 EQ' heb hw3
      go_upto_region 6 with fail
      rw [HEB.out, HW3.out]
      clear c0 c1 c2 y1
      go_wp2
      go_loopw [5, 8] (fun vv mv V => ∃ (m : Nat) (v : Value), v = vv ∧ mv = .int .i64 (m : Int) ∧ m ≤ ta ∧ Hid (V.ownsRow w1.heap.size 3 1 v (wlI xs i m pa qa k).length ((wlI xs i m pa qa k).map (Value.int .i64))) ∧ Hid (Below w1.heap.size w1 V) ∧ Hid (V.heap[eb]? = some (.cells #[.int .i64 (pa : Int), .int .i64 (qa : Int), .int .i64 (ta : Int)] 62 (0, 0)))) (fun _ mv _ => ta - (intOf mv).toNat)
      case atStart => exact ⟨0, _, rfl, rfl, by omega, O3, B3, E3⟩
      case round =>
        obtain ⟨m, v', rfl, rfl, hm, OM, BM, EM⟩ := hrel
        have z0 := cell_of_row wr eb 0 _ _ _ EM.out
        have z1 := cell_of_row wr eb 1 _ _ _ EM.out
        have z2 := cell_of_row wr eb 2 _ _ _ EM.out
        simp at z0 z1 z2
        by_cases dm : (m : Int) < (ta : Int)
        · have HX := hide' (fun j (hj : j < xs.length) => show (xs.getD j egz).t ≤ 100 by have := OK.out j hj; unfold badE at this; omega)
          have LN := hide' (wl_len (m := m) (a := pa) (b := qa) (k := k) (show i ≤ 40 by omega) HX.out)
          have SZ := hide' BM.out.size
          have NOE := hide' (show some eb ≠ v'.ownBlock from not_rowR EM.out (by decide) OM.out)
          have NX := hide' (fun (y : Int) (e : wlI xs i (m + 1) pa qa k = wlI xs i m pa qa k ++ [y]) (g cap : Nat) (w5 : World) (hown : w5.ownsRow w1.heap.size 3 1 (.slice (some ⟨g, 0, none⟩) ((wlI xs i m pa qa k).length + 1) cap) ((wlI xs i m pa qa k).length + 1) ((wlI xs i m pa qa k).map (Value.int .i64) ++ [.int .i64 y])) (hgr : (wr.alloc (.cells #[.int .i64 y] 3)).grownBy w5 v'.ownBlock) => show w5.ownsRow w1.heap.size 3 1 (.slice (some ⟨g, 0, none⟩) ((wlI xs i m pa qa k).length + 1) cap) (wlI xs i (m + 1) pa qa k).length ((wlI xs i (m + 1) pa qa k).map (Value.int .i64)) ∧ Below w1.heap.size w1 w5 ∧ w5.heap[eb]? = some (.cells #[.int .i64 (pa : Int), .int .i64 (qa : Int), .int .i64 (ta : Int)] 62 (0, 0)) from by
            rw [e, List.length_append, List.map_append]
            refine ⟨hown, (BM.out.alloc BM.out.size _).grown hgr (by simp; have := SZ.out; omega) (fun j ej => ((OM.out.lt j ej).1)), ?_⟩
            exact (hgr.block eb (by simp; have := ltS_of_block EM.out; omega) NOE.out).trans ((heap_alloc_old _ _ (ltS_of_block EM.out)).trans EM.out))
          by_cases ka : pa = k
          · have e1 : ((pa : Int) == (k : Int)) = true := by rw [ka]; simp
            have kb : qa ≠ k := fun e => npq.out (by rw [ka, e])
            have e2 : ((qa : Int) == (k : Int)) = false := by simp; omega
            have Y := hide' (wl_yesA (xs := xs) (i := i) (m := m) (b := qa) ka)
            clear ka kb
            go_upto_region 11 with (at_builtin; go_loud (refine wpList_append_lies _ rfl _ _ 25 rfl w1.heap.size 3 i0 (.int .i64 0) 1 8 Tryd.underlying25 hi0 hz0 hz1 hz2 rfl (by decide) v' (wlI xs i m pa qa k).length ((wlI xs i m pa qa k).map (Value.int .i64)) rfl (OM.out.alloc _) ⟨wr.heap.size, 0, none⟩ 1 1 [.int .i64 (qa : Int)] rfl rfl (cell_one_new _ _ _) (fun u hu => by simp at hu; rw [hu]; rfl) (by omega) (by unfold maxLen; have := LN.out; omega) (by have := LN.out; omega) (by simp; have := SZ.out; omega) (wr.heap.size + 1) (by simp) ?_; intro g5 cap5 w5 hown hgr hat hlt; go_frame))
            have Q := NX.out (qa : Int) Y.out g5 cap5 w5 hown hgr
            have O5 := hide' Q.1
            have B5 := hide' Q.2.1
            have E5 := hide' Q.2.2
            clear Q hown hgr hat hlt z0 z1 z2
            have z1 := cell_of_row w5 eb 1 _ _ _ E5.out
            simp at z1
            go_wp2
            exact ⟨⟨m + 1, _, rfl, by go_num, by omega, O5, B5, E5⟩, by simp [intOf]; omega⟩
          · have e1 : ((pa : Int) == (k : Int)) = false := by simp; omega
            by_cases kb : qa = k
            · have e2 : ((qa : Int) == (k : Int)) = true := by rw [kb]; simp
              have Y := hide' (wl_yesB (xs := xs) (i := i) (m := m) ka kb)
              clear ka kb
              go_wp2_with (at_builtin; go_loud (refine wpList_append_lies _ rfl _ _ 25 rfl w1.heap.size 3 i0 (.int .i64 0) 1 8 Tryd.underlying25 hi0 hz0 hz1 hz2 rfl (by decide) v' (wlI xs i m pa qa k).length ((wlI xs i m pa qa k).map (Value.int .i64)) rfl (OM.out.alloc _) ⟨wr.heap.size, 0, none⟩ 1 1 [.int .i64 (pa : Int)] rfl rfl (cell_one_new _ _ _) (fun u hu => by simp at hu; rw [hu]; rfl) (by omega) (by unfold maxLen; have := LN.out; omega) (by have := LN.out; omega) (by simp; have := SZ.out; omega) (wr.heap.size + 1) (by simp) ?_; intro g5 cap5 w5 hown hgr hat hlt; go_frame))
              have Q := NX.out (pa : Int) Y.out g5 cap5 w5 hown hgr
              exact ⟨⟨m + 1, _, rfl, by go_num, by omega, hide' Q.1, hide' Q.2.1, hide' Q.2.2⟩, by simp [intOf]; omega⟩
            · have e2 : ((qa : Int) == (k : Int)) = false := by simp; omega
              have O5 := hide' (show wr.ownsRow w1.heap.size 3 1 v' (wlI xs i (m + 1) pa qa k).length ((wlI xs i (m + 1) pa qa k).map (Value.int .i64)) by rw [wl_no ka kb]; exact OM.out)
              clear ka kb
              go_wp2
              exact ⟨⟨m + 1, _, rfl, by go_num, by omega, O5, BM, EM⟩, by simp [intOf]; omega⟩
        · obtain rfl : m = ta := by omega
          have KN := hide' (show wr.ownsRow w1.heap.size 3 1 v' (waI xs (i + 1) k).length ((waI xs (i + 1) k).map (Value.int .i64)) by
            rw [← wl_end hl EQ.out]; exact OM.out)
          go_wp2
          exact ⟨⟨i + 1, _, rfl, by go_num, by omega, KN, BM⟩, by simp [intOf]; omega⟩
    · obtain rfl : i = n := by omega
      have KN := hide' (show wr.ownsRow w.heap.size 3 1 v (wyO xs k).length ((wyO xs k).map (Value.int .i64)) by
        have e := OW.out
        rw [show waI xs i k = wyO xs k from by unfold waI wyO; rw [HL.out, List.take_length]] at e
        exact own_mono e B1.out.size)
      go_wp2
      go_ret
      exact ⟨v, rfl, KN.out, FW.out⟩
end Go.Proofs.YtpppmollmiomlaaDoor

namespace Go.Proofs.YtpppmollmiomlaaDoor
open Go.RowKit
set_option linter.unusedVariables false
set_option linter.unusedSimpArgs false
/-- All ways as they lie: a row of rows. -/
structure AlR (V : World) (B P wb cap : Nat) (v : Nat → Value) (xs : List EgT) : Prop where
  out : V.ownsRow B 25 1 (.slice (some ⟨wb, 0, none⟩) P cap) P ((List.range P).map v)
  row : ∀ k, k < P → V.ownsRow B 3 1 (v k) (wyO xs k).length ((wyO xs k).map (Value.int .i64))
def AllOut (w : World) (P : Nat) (xs : List EgT) (e : Ending) (w' : World) : Prop := ∃ wb cap v, e = .returned (.slice (some ⟨wb, 0, none⟩) P cap) ∧ AlR w' w.heap.size P wb cap v xs ∧ Below w.heap.size w w'
theorem range_push (k : Nat) (v : Nat → Value) (x : Value) : (List.range k).map v ++ [x] = (List.range (k + 1)).map (upV v k x) := by
  rw [List.range_succ, List.map_append]
  congr 1
  · apply List.map_congr_left
    intro j hj
    unfold upV
    rw [if_neg (by have := List.mem_range.1 hj; omega)]
  · simp [upV]
set_option maxRecDepth 100000 in
set_option maxHeartbeats 12800000 in
theorem refAll_any (P : Nat) (xs : List EgT) (ea : Option Addr) (n c : Nat) (w : World) (hE : ArgE w xs ea n c) (p1 : 1 ≤ P) (p2 : P ≤ 10) (n4 : n ≤ 40) (ok : ∀ j, j < xs.length → ¬ badE P (xs.getD j egz)) :
    Calls Tryd.prog 20 #[.agg #[.int .i64 (P : Int), .slice ea n c]] w (AllOut w P xs) := by
  obtain ⟨i0, hi0, hz⟩ := Option.map_eq_some_iff.1 info_listR
  simp only [Prod.mk.injEq] at hz
  obtain ⟨hz0, hz1, hz2⟩ := hz
  obtain ⟨w1, hw1⟩ : ∃ w1, w.alloc (.cells #[.int .i64 (P : Int), .slice ea n c] 24) = w1 := ⟨_, rfl⟩
  have HW1 := hide' hw1
  have B1 := hide' (show Below w.heap.size w w1 by rw [← hw1]; exact (Below.refl _ _).alloc (Nat.le_refl _) _)
  have R1 := hide' (show w1.heap[w.heap.size]? = some (.cells #[.int .i64 (P : Int), .slice ea n c] 24 (0, 0)) by rw [← hw1]; exact heap_alloc_new _ _)
  have WY := hide' (fun (V : World) (h : Below w.heap.size w V) (k : Nat) => refWays_any P xs ea n c k V (hE.below h) n4 ok)
  clear hw1 hE ok
  go_enter Tryd.func20, Tryd.ntmps20
  go_upto_region 1 with fail
  rw [HW1.out]
  go_wp2
  go_loopw [3, 4] (fun vv iv wr => ∃ (k : Nat) (o : Value) (v : Nat → Value), o = vv ∧ iv = .int .i64 (k : Int) ∧ k ≤ P ∧ Hid (wr.ownsRow w1.heap.size 25 1 o k ((List.range k).map v)) ∧ Hid (∀ j, j < k → wr.ownsRow w1.heap.size 3 1 (v j) (wyO xs j).length ((wyO xs j).map (Value.int .i64))) ∧ Hid (Below w1.heap.size w1 wr)) (fun _ iv _ => P - (intOf iv).toNat)
  case atStart => exact ⟨0, _, fun _ => undef, rfl, rfl, by omega, hide' (World.ownsRow_nil _ _ _ _), hide' fun j h => by omega, hide' (Below.refl _ _)⟩
  case round =>
    obtain ⟨k, o, v, rfl, rfl, hk, OO, OI, BW⟩ := hrel
    have FW := hide' (B1.out.trans (BW.out.mono B1.out.size))
    have y0 := cell_of_row wr _ 0 _ _ _ ((BW.out.block _ (ltS_of_block R1.out)).trans R1.out)
    have y1 := cell_of_row wr _ 1 _ _ _ ((BW.out.block _ (ltS_of_block R1.out)).trans R1.out)
    simp at y0 y1
    by_cases d : (k : Int) < (P : Int)
    · have WC := hide' (WY.out wr FW.out k)
      go_wp2_with fail
      refine WC.out.mono ?_
      rintro e w4 ⟨x, rfl, ho, b4⟩
      obtain ⟨xa, xn, xc, rfl⟩ := ownsRow_slice ho
      have B4 := hide' (BW.out.trans (b4.mono BW.out.size))
      have O4 := hide' (own_next OO.out b4)
      have N4 := hide' (fun j (hj : j < k) => own_next (OI.out j hj) b4)
      have X4 := hide' (own_mono ho BW.out.size)
      have SZ := hide' B4.out.size
      clear ho b4 y0 y1
      go_wp2_with (at_builtin; go_loud (refine wpList_append_lies _ rfl _ _ 51 rfl w1.heap.size 25 i0 (.slice none 0 0) 1 24 Tryd.underlying51 hi0 hz0 hz1 hz2 rfl (by decide) o k ((List.range k).map v) rfl (O4.out.alloc _) ⟨w4.heap.size, 0, none⟩ 1 1 [.slice xa xn xc] rfl rfl (cell_one_new _ _ _) (fun u hu => by simp at hu; rw [hu]; rfl) (by omega) (by unfold maxLen; omega) (by omega) (by simp; have := SZ.out; omega) (w4.heap.size + 1) (by simp) ?_; intro g5 cap5 w5 hown hgr hat hlt; go_frame))
      have AL : ∀ (o' : Obj), Below w4.heap.size w4 (w4.alloc o') := fun o' => (Below.refl _ _).alloc (Nat.le_refl _) _
      have kp : ∀ {y : Value} {m : Nat} {l : List Value}, w4.ownsRow w1.heap.size 3 1 y m l → w5.ownsRow w1.heap.size 3 1 y m l := fun {y m l} h => by
        refine (own_next h (AL _)).kept hgr ?_
        rcases h.2 with ⟨e, _⟩ | ⟨g, cap, cur, e, _, hgb, _⟩
        · left; rw [e]; rfl
        · right
          rw [e]
          intro q
          exact not_rowR hgb (by decide) O4.out q
      refine ⟨⟨k + 1, _, upV v k (.slice xa xn xc), rfl, by go_num, by omega, hide' ?_, hide' fun j hj => ?_, hide' ?_⟩, by simp [intOf]; omega⟩
      · rw [← range_push]
        exact hown
      · unfold upV
        by_cases e : j = k
        · rw [if_pos e, e]; exact kp X4.out
        · rw [if_neg e]; exact kp (N4.out j (by omega))
      · exact (B4.out.alloc B4.out.size _).grown hgr (by simp; have := SZ.out; omega) (fun j ej => (O4.out.lt j ej).1)
    · obtain rfl : k = P := by omega
      obtain ⟨g, cap, rfl, hb, hlt⟩ := OO.out.form (by omega)
      go_wp2
      go_ret
      exact ⟨g, cap, v, rfl, ⟨own_mono OO.out B1.out.size, fun j hj => own_mono (OI.out j hj) B1.out.size⟩, FW.out⟩
theorem AlR.cell {V : World} {B P wb cap : Nat} {v : Nat → Value} {xs : List EgT} (h : AlR V B P wb cap v xs) {k : Nat} (hk : k < P) : V.cell? ⟨wb, k, none⟩ = some (v k) := by
  rw [h.out.cellAt k (by omega)]
  simp [hk]
theorem AlR.next {V V' : World} {B P wb cap : Nat} {v : Nat → Value} {xs : List EgT} (h : AlR V B P wb cap v xs) (b : Below V.heap.size V V') : AlR V' B P wb cap v xs := ⟨own_next h.out b, fun k hk => own_next (h.row k hk) b⟩
theorem AlR.set {V : World} {B P wb cap : Nat} {v : Nat → Value} {xs : List EgT} (h : AlR V B P wb cap v xs) {g i : Nat} (hg : g < B) (x : Value) : AlR (V.setCell ⟨g, i, none⟩ x) B P wb cap v xs :=
  ⟨ownsRow_setCell_below h.out hg x, fun k hk => ownsRow_setCell_below (h.row k hk) hg x⟩
theorem AlR.at {V : World} {B P wb cap : Nat} {v : Nat → Value} {xs : List EgT} (h : AlR V B P wb cap v xs) {k : Nat} (hk : k < P) (hp : 0 < (wyO xs k).length) : ∃ g q, v k = .slice (some ⟨g, 0, none⟩) (wyO xs k).length q ∧ ∀ i (hi : i < (wyO xs k).length), V.cell? ⟨g, i, none⟩ = some (.int .i64 (wyO xs k)[i]) := by
  obtain ⟨g, q, e, _, _⟩ := (h.row k hk).form hp
  have o := h.row k hk
  rw [e] at o
  refine ⟨g, q, e, fun i hi => ?_⟩
  rw [o.cellAt i (by omega), List.getElem?_map, List.getElem?_eq_getElem hi]
  rfl
end Go.Proofs.YtpppmollmiomlaaDoor

