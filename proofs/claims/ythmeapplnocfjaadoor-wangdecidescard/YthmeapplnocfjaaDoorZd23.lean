/-
  What the last text of this claim leans on, part 23: Wx6.
-/
import Derived.Test.YthmeapplnocfjaaDoorZd22
namespace Go.Proofs.YthmeapplnocfjaaDoor
open Go.RowKit
set_option linter.unusedVariables false
set_option linter.unusedSimpArgs false
/-- The answer's place, still without an answer. -/
def ZdS (w wr : World) : Prop := Below w.heap.size w wr ∧ wr.heap[w.heap.size]? = some (.cells #[.bool false, .int .i64 0, .int .i64 0, .slice none 0 0] 40 (0, 0))
theorem ZdS.keep {w wr V : World} (h : ZdS w wr) (b : Below wr.heap.size wr V) : ZdS w V := ⟨h.1.trans (b.mono h.1.size), (b.block _ (lt_blockT h.2)).trans h.2⟩
/-- What torus answers. -/
def ToO (xs : List TlT) (n s : Nat) (w : World) (e : Ending) (w' : World) : Prop :=
  (∃ v h c oa oc, 1 ≤ h ∧ h ≤ s ∧ 1 ≤ v ∧ v ≤ s ∧ (v = s ∨ h = s) ∧ PreW xs n s h v ∧ FirstW n (v * h) (okW xs v h true) c ∧ e = .returned (.tuple #[.agg #[.bool true, .int .i64 ((v : Nat) : Int), .int .i64 ((h : Nat) : Int), .slice oa (v * h) oc], .bool true]) ∧ Hid (ArgP w' ((List.range (v * h)).map fun i => ((c i : Nat) : Int)) oa (v * h) oc) ∧ Hid (∀ p off, oa = some ⟨p, off, none⟩ → w.heap.size < p) ∧ Hid (Below w.heap.size w w'))
  ∨ ((∀ h v, 1 ≤ h → h ≤ s → 1 ≤ v → v ≤ s → (v = s ∨ h = s) → NoRg xs n v h) ∧ e = .returned (.tuple #[.agg #[.bool false, .int .i64 0, .int .i64 0, .slice none 0 0], .bool false]) ∧ Hid (Below w.heap.size w w'))
theorem argP_row {w : World} {zs : List Int} {a : Option Addr} {n c g : Nat} {cs : Array Value} (h : ArgP w zs a n c) (hn : ∀ p off, a = some ⟨p, off, none⟩ → p ≠ g) : ArgP (w.setRow g cs) zs a n c :=
  ⟨h.len, h.max, fun k hk => by
    obtain ⟨p, off, e, hp, hc⟩ := h.cells k hk
    exact ⟨p, off, e, by simp; exact hp, (World.cell?_of_block (w := w) (a := ⟨p, off + k, none⟩) (setRow_other _ _ _ _ (hn p off e))).trans hc⟩⟩
set_option maxRecDepth 100000 in
set_option maxHeartbeats 25600000 in
theorem torus_anyW (xs : List TlT) (a : Option Addr) (n c s : Nat) (w : World) (hA : ArgT w xs a n c) (hT : TzTab w) (ht : tlF xs = 0) (hn1 : 1 ≤ n) (hn : n ≤ 16) (s1 : 1 ≤ s) (s5 : s ≤ 5) :
    Calls Tryd.prog 24 #[.slice a n c, .int .i64 (s : Int)] w (ToO xs n s w) := by
  have LC := hide' (fun (v h : Nat) (V : World) (hb : Below w.heap.size w V) (v1 : 1 ≤ v) (v5 : v ≤ 5) (h1 : 1 ≤ h) (h5 : h ≤ 5) => lay_anyW xs a n c v h true V (hA.below hb) ht hn1 hn v1 v5 h1 h5)
  have FL := hide' (fun (v h : Nat) (B : BdW) (g : Nat) (W V : World) hL hB hV (hw : Below w.heap.size w W) hb hg (v1 : 1 ≤ v) (v5 : v ≤ 5) (h1 : 1 ≤ h) (h5 : h ≤ 5) => fill_laid xs n v h true B g W V hL hB hV (hT.below hw) hb hg v1 v5 h1 h5)
  clear hA hT ht
  obtain ⟨w1, hw1⟩ : ∃ w1, w.alloc (.cells #[.bool false, .int .i64 0, .int .i64 0, .slice none 0 0] 40) = w1 := ⟨_, rfl⟩
  have Z1 := hide' (show ZdS w w1 from ⟨by rw [← hw1]; exact (Below.refl _ _).alloc (Nat.le_refl _) _, by rw [← hw1]; exact heap_alloc_new _ _⟩)
  have zv := zero_boardW
  obtain ⟨Z, hZ⟩ : ∃ Z, arV 92 (bdV zeB) = Z := ⟨_, rfl⟩
  rw [hZ] at zv
  have ZS : Z.size = 92 := by rw [← hZ, arV_size]
  have zn' : ¬ Z = #[] := fun e => by rw [e] at ZS; simp at ZS
  clear hZ
  go_enter Tryd.func24, Tryd.ntmps24
  go_wp2
  try rw [hw1]
  clear hw1
  go_loopw [6, 7, 8, 9, 10] (fun hv _ _ _ _ wr => ∃ h : Nat, hv = .int .i64 (h : Int) ∧ 1 ≤ h ∧ h ≤ s + 1 ∧ Hid (PreW xs n s h 0) ∧ Hid (ZdS w wr)) (fun hv _ _ _ _ _ => s + 1 - (intOf hv).toNat)
  case atStart => exact ⟨1, rfl, by omega, by omega, hide' (fun h' v' a b c d e f => by omega), Z1⟩
  case round =>
    clear Z1
    obtain ⟨h, rfl, h1, hs, PH, DH⟩ := hrel
    by_cases e : (h : Int) ≤ (s : Int)
    · go_wp2
      obtain ⟨VA, rfl⟩ : ∃ VV, VV = wr := ⟨_, rfl⟩
      go_loopw [7, 8, 9, 10] (fun vv _ _ _ wr => ∃ v : Nat, vv = .int .i64 (v : Int) ∧ 1 ≤ v ∧ v ≤ s + 1 ∧ Hid (PreW xs n s h v) ∧ Hid (ZdS w wr)) (fun vv _ _ _ _ => s + 1 - (intOf vv).toNat)
      case atStart => exact ⟨1, rfl, by omega, by omega, hide' (fun h' v' a b c d e f => PH.out h' v' a b c d e (by omega)), DH⟩
      case round =>
        clear DH
        obtain ⟨v, rfl, v1, vs, PV, DV⟩ := hrel
        by_cases f : (v : Int) ≤ (s : Int)
        · by_cases q : v = s ∨ h = s
          · have NX := hide' (fun (no : NoRg xs n v h) => show PreW xs n s h (v + 1) from fun h' v' a b c d e g => by
              by_cases t : h' = h ∧ v' = v
              · rw [t.1, t.2]; exact no
              · exact PV.out h' v' a b c d e (by omega))
            have QQ := hide' q
            have LY := hide' (LC.out v h wr DV.out.1 (by omega) (by omega) (by omega) (by omega))
            have nq : ¬ ((v : Int) < (s : Int) ∧ (h : Int) < (s : Int)) := by omega
            have go1 : ∀ {P : Prop}, ((v : Int) < (s : Int) → ¬ (h : Int) < (s : Int) → P) → (¬ (v : Int) < (s : Int) → P) → P := fun hp hq => by
              by_cases x : (v : Int) < (s : Int)
              · exact hp x (by omega)
              · exact hq x
            clear q nq
            refine go1 (fun x y => ?_) (fun x => ?_)
            all_goals (
              go_wp2_with fail
              refine LY.out.mono ?_
              rintro o w2 ⟨B, hLB, hBO, rfl, b2⟩
              obtain ⟨A, hA⟩ : ∃ A, arV 92 (bdV B) = A := ⟨_, rfl⟩
              have os : A.size = 92 := by rw [← hA, arV_size]
              have ol : A.all (·.oneCell') = true := by rw [← hA]; exact arV_all (fun k _ => bdV_one _ k)
              rw [hA]
              have G0 := heap_alloc_new w2 (.cells Z 58)
              have B2 := hide' b2
              have LB := hide' hLB
              have BO := hide' hBO
              clear b2 hLB hBO LY
              go_upto_region 9 with (refine wpList_store_row rfl 58 _ _ rfl w2.heap.size A rfl rfl 58 Z G0 (by rw [os]; exact size_boardW) (by rw [os]; exact ZS) ol ?_)
              obtain ⟨g, hg⟩ : ∃ g, w2.heap.size = g := ⟨_, rfl⟩
              rw [hg] at G0
              obtain ⟨w3, hw3⟩ : ∃ w3, (w2.alloc (.cells Z 58)).setRow g A = w3 := ⟨_, rfl⟩
              have D3 := hide' (show BrdA w3 g B by unfold BrdA; rw [← hw3, setRow_heap _ _ _ _ _ _ G0, hA])
              have B3 := hide' (show Below wr.heap.size wr w3 by rw [← hw3]; exact belowW_set (B2.out.alloc B2.out.size _) (by have := B2.out.size; omega) _)
              have FC := hide' (FL.out v h B g wr w3 LB.out BO.out D3.out DV.out.1 B3.out (by have := B2.out.size; omega) (by omega) (by omega) (by omega) (by omega))
              rw [hg, hw3]
              clear hw3 hg G0 ol os hA
              go_wp2_with fail
              refine FC.out.mono ?_
              rintro o w4 (⟨no, rfl, b4⟩ | ⟨d, oa, oc, yes, rfl, hp, lo, b4⟩)
              · have NN := hide' (NX.out no)
                have D4 := hide' (DV.out.keep b4.out)
                clear no
                go_wp2
                exact ⟨⟨v + 1, by go_num, by omega, by omega, NN, D4⟩, by simp [intOf]; omega⟩
              · have D4 := hide' (DV.out.keep b4.out)
                have gb := D4.out.2
                have YES := hide' yes
                have HP := hide' hp.out
                clear yes hp
                obtain ⟨N, hN⟩ : ∃ N, v * h = N := ⟨_, rfl⟩
                have N1 : 1 ≤ N := by rw [← hN]; exact Nat.mul_le_mul v1 h1
                have N25 : N ≤ 25 := by rw [← hN]; exact Nat.le_trans (Nat.mul_le_mul (show v ≤ 5 by omega) (show h ≤ 5 by omega)) (by decide)
                have HN := hide' hN
                rw [hN] at HP
                rw [hN]
                clear hN
                obtain ⟨O, hO⟩ : ∃ O, (#[.bool true, .int .i64 ((v : Nat) : Int), .int .i64 ((h : Nat) : Int), .slice oa N oc] : Array Value) = O := ⟨_, rfl⟩
                have os : O.size = 4 := by rw [← hO]; rfl
                have ol : O.all (·.oneCell') = true := by rw [← hO]; simp [Value.oneCell']
                have APT := hide' (show ∀ p off, oa = some ⟨p, off, none⟩ → w.heap.size < p from fun p off e => by
                  have h1 := lo.out p off e
                  have h2 := lt_blockT DV.out.2
                  omega)
                have FIN := hide' (show ToO xs n s w (.returned (.tuple #[.agg O, .bool true])) (w4.setRow w.heap.size O) from Or.inl ⟨v, h, d, oa, oc, h1, by omega, v1, by omega, QQ.out, PV.out, YES.out, by rw [← hO, HN.out], by rw [HN.out]; exact hide' (argP_row HP.out (fun p off e => by have := APT.out p off e; omega)), APT, hide' (belowW_set D4.out.1 (by omega) _)⟩)
                clear lo YES
                go_wp2_with (first
                  | (refine wpList_store_row rfl 40 _ _ rfl w.heap.size O rfl (by first | rfl | (rw [← hO]; rfl)) 40 _ gb (by rw [os]; kernel_rfl) (by rw [os]; rfl) ol ?_))
                refine bodyPost_ret (v := .tuple #[.agg O, .bool true]) (results_rowW Tryd.results24 _ _ w.heap.size 40 _ (0, 0) _ rfl (setRow_heap _ _ _ _ _ _ gb) Tryd.underlying40 rfl (by rw [os]; kernel_rfl)) rfl ?_
                exact FIN.out)
          · have NX := hide' (show PreW xs n s h (v + 1) from fun h' v' a b c d e g => by
              by_cases t : h' = h ∧ v' = v
              · rw [t.1, t.2] at e; exact absurd e q
              · exact PV.out h' v' a b c d e (by omega))
            have x : (v : Int) < (s : Int) := by omega
            have y : (h : Int) < (s : Int) := by omega
            clear q
            go_wp2
            exact ⟨⟨v + 1, by go_num, by omega, by omega, NX, DV⟩, by simp [intOf]; omega⟩
        · have NX := hide' (show PreW xs n s (h + 1) 0 from fun h' v' a b c d e g => PV.out h' v' a b c d e (by omega))
          go_wp2
          exact ⟨⟨h + 1, by go_num, by omega, by omega, NX, DV⟩, by simp [intOf]; omega⟩
    · have NO := hide' (show ∀ h v, 1 ≤ h → h ≤ s → 1 ≤ v → v ≤ s → (v = s ∨ h = s) → NoRg xs n v h from fun h' v' a b c d e => PH.out h' v' a b c d e (by omega))
      have gb := DH.out.2
      obtain ⟨O, hO⟩ : ∃ O, (#[.bool false, .int .i64 0, .int .i64 0, .slice none 0 0] : Array Value) = O := ⟨_, rfl⟩
      have os : O.size = 4 := by rw [← hO]; rfl
      have ol : O.all (·.oneCell') = true := by rw [← hO]; simp [Value.oneCell']
      go_wp2_with (first
        | (refine wpList_store_row rfl 40 _ _ rfl w.heap.size O rfl (by first | rfl | (rw [← hO]; rfl)) 40 _ gb (by rw [os]; kernel_rfl) (by rw [os]; rfl) ol ?_))
      refine bodyPost_ret (v := .tuple #[.agg O, .bool false]) (results_rowW Tryd.results24 _ _ w.heap.size 40 _ (0, 0) _ rfl (setRow_heap _ _ _ _ _ _ gb) Tryd.underlying40 rfl (by rw [os]; kernel_rfl)) rfl ?_
      exact Or.inr ⟨NO.out, by rw [hO], hide' (belowW_set DH.out.1 (by omega) _)⟩
end Go.Proofs.YthmeapplnocfjaaDoor

