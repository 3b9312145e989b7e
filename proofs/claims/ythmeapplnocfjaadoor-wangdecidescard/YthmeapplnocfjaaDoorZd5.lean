/-
  What the last text of this claim leans on, part 5: Wq5, Wq7.
-/
import Derived.Test.YthmeapplnocfjaaDoorZd4
import Derived.Laws.ResultCell
namespace Go.Proofs.YthmeapplnocfjaaDoor
open Go.RowKit
set_option linter.unusedVariables false
set_option linter.unusedSimpArgs false
/-- No ring so high and so wide. -/
def NoRg (xs : List TlT) (n v h : Nat) : Prop := NoneW n (v * h) (okW xs v h true)
/-- Of this size nothing is told: no ring, and the square is filled. -/
def LevW (xs : List TlT) (n s : Nat) : Prop := (∀ h v, 1 ≤ h → h ≤ s → 1 ≤ v → v ≤ s → (v = s ∨ h = s) → NoRg xs n v h) ∧ ¬ NoneW n (s * s) (okW xs s s false)
/-- No ring of this size ahead of this one. -/
def PreW (xs : List TlT) (n s h v : Nat) : Prop := ∀ h' v', 1 ≤ h' → h' ≤ s → 1 ≤ v' → v' ≤ s → (v' = s ∨ h' = s) → (h' < h ∨ (h' = h ∧ v' < v)) → NoRg xs n v' h'
/-- A ring is told; a square; neither. -/
def DecT (xs : List TlT) (n most v h : Nat) : Prop := ∃ s, 1 ≤ s ∧ s ≤ most ∧ (∀ r, 1 ≤ r → r < s → LevW xs n r) ∧ 1 ≤ h ∧ h ≤ s ∧ 1 ≤ v ∧ v ≤ s ∧ (v = s ∨ h = s) ∧ PreW xs n s h v ∧ ¬ NoRg xs n v h
def DecS (xs : List TlT) (n most s : Nat) : Prop := 1 ≤ s ∧ s ≤ most ∧ (∀ r, 1 ≤ r → r < s → LevW xs n r) ∧ (∀ h v, 1 ≤ h → h ≤ s → 1 ≤ v → v ≤ s → (v = s ∨ h = s) → NoRg xs n v h) ∧ NoneW n (s * s) (okW xs s s false)
def DecL (xs : List TlT) (n most : Nat) : Prop := ∀ r, 1 ≤ r → r ≤ most → LevW xs n r
theorem dec_tt {xs : List TlT} {n most v h v' h' : Nat} (a : DecT xs n most v h) (b : DecT xs n most v' h') : v = v' ∧ h = h' := by
  obtain ⟨s, a1, a2, a3, a4, a5, a6, a7, a8, a9, a10⟩ := a
  obtain ⟨s', b1, b2, b3, b4, b5, b6, b7, b8, b9, b10⟩ := b
  have e : s = s' := by
    rcases Nat.lt_trichotomy s s' with q | q | q
    · exact absurd ((b3 s a1 q).1 h v a4 a5 a6 a7 a8) a10
    · exact q
    · exact absurd ((a3 s' b1 q).1 h' v' b4 b5 b6 b7 b8) b10
  subst e
  rcases Nat.lt_trichotomy h h' with q | q | q
  · exact absurd (b9 h v a4 a5 a6 a7 a8 (Or.inl q)) a10
  · subst q
    rcases Nat.lt_trichotomy v v' with q | q | q
    · exact absurd (b9 h v a4 a5 a6 a7 a8 (Or.inr ⟨rfl, q⟩)) a10
    · exact ⟨q, rfl⟩
    · exact absurd (a9 h v' b4 b5 b6 b7 b8 (Or.inr ⟨rfl, q⟩)) b10
  · exact absurd (a9 h' v' b4 b5 b6 b7 b8 (Or.inl q)) b10
theorem dec_ss {xs : List TlT} {n most s s' : Nat} (a : DecS xs n most s) (b : DecS xs n most s') : s = s' := by
  rcases Nat.lt_trichotomy s s' with q | q | q
  · exact absurd a.2.2.2.2 (b.2.2.1 s a.1 q).2
  · exact q
  · exact absurd b.2.2.2.2 (a.2.2.1 s' b.1 q).2
theorem dec_ts {xs : List TlT} {n most v h s : Nat} (a : DecT xs n most v h) (b : DecS xs n most s) : False := by
  obtain ⟨r, a1, a2, a3, a4, a5, a6, a7, a8, a9, a10⟩ := a
  rcases Nat.lt_trichotomy r s with q | q | q
  · exact a10 ((b.2.2.1 r a1 q).1 h v a4 a5 a6 a7 a8)
  · subst q; exact a10 (b.2.2.2.1 h v a4 a5 a6 a7 a8)
  · exact (a3 s b.1 q).2 b.2.2.2.2
theorem dec_tl {xs : List TlT} {n most v h : Nat} (a : DecT xs n most v h) (b : DecL xs n most) : False := by
  obtain ⟨r, a1, a2, a3, a4, a5, a6, a7, a8, a9, a10⟩ := a
  exact a10 ((b r a1 a2).1 h v a4 a5 a6 a7 a8)
theorem dec_sl {xs : List TlT} {n most s : Nat} (a : DecS xs n most s) (b : DecL xs n most) : False := (b s a.1 a.2.1).2 a.2.2.2.2
/-- What Decide answers. -/
def DcO (xs : List TlT) (n most : Nat) (w : World) (e : Ending) (w' : World) : Prop :=
  (∃ v h c g, DecT xs n most v h ∧ FirstW n (v * h) (okW xs v h true) c ∧ e = .returned (.tuple #[.agg #[.bool true, .int .i64 ((v : Nat) : Int), .int .i64 ((h : Nat) : Int), .slice (some ⟨g, 0, none⟩) (v * h) (v * h)], .bool true]) ∧ RowW w' g (v * h) (fun i => ((c i : Nat) : Int)) ∧ w.heap.size ≤ g)
  ∨ (∃ s, DecS xs n most s ∧ e = .returned (.tuple #[.agg #[.bool false, .int .i64 ((s : Nat) : Int), .int .i64 ((s : Nat) : Int), .slice none 0 0], .bool true]))
  ∨ (DecL xs n most ∧ e = .returned (.tuple #[.agg #[.bool false, .int .i64 0, .int .i64 0, .slice none 0 0], .bool false]))
theorem results_rowW {P : Program} {fn : Func} {p u : Tmp} {ty : TypeId} (h : fn.results = #[.cell p ty, .tmp u]) (tmps : Array Value) (w : World) (g : Nat) (t : TypeId) (cs : Array Value) (fr : Nat × Nat) (d : TypeDesc)
    (hp : tmps.getD p undef = .pointer (some ⟨g, 0, none⟩)) (hg : w.heap[g]? = some (.cells cs t fr))
    (hu : P.underlying ty = some d) (hd : (match d with | .struct _ | .array _ _ => true | _ => false) = true) (hi : (P.info? ty).map (·.size) = some cs.size) :
    (results fn tmps).run P w = .ok (.tuple #[.agg cs, tmps.getD u undef]) w := by
  have hp' : tmps[p]?.getD undef = .pointer (some ⟨g, 0, none⟩) := by simpa using hp
  simp [results, h, hp', asAddr, run_loadVar_row w g t ty cs fr d hg hu hd hi]
theorem belowW_set {B : Nat} {a w : World} (h : Below B a w) {g : Nat} (hg : B ≤ g) (cs : Array Value) : Below B a (w.setRow g cs) := h.trans ⟨rfl, rfl, rfl, by simp, fun k hk => setRow_other _ _ _ _ (by omega)⟩
/-- The answer's place while it is looked for. -/
def DsS (w wr : World) : Prop := Below w.heap.size w wr ∧ wr.heap[w.heap.size]? = some (.cells #[.bool false, .int .i64 0, .int .i64 0, .slice none 0 0] 40 (0, 0))
theorem DsS.keep {w wr V : World} (h : DsS w wr) (b : Below wr.heap.size wr V) : DsS w V := ⟨h.1.trans (b.mono h.1.size), (b.block _ (lt_blockT h.2)).trans h.2⟩
set_option maxRecDepth 100000 in
set_option maxHeartbeats 25600000 in
theorem refDecide_any (xs : List TlT) (ta : Option Addr) (n tc most : Nat) (w : World) (hA : ArgT w xs ta n tc) (hn : n ≤ 16) (hm : most ≤ 5) :
    Calls Tryd.prog 16 #[.slice ta n tc, .int .i64 (most : Int)] w fun e w' => DcO xs n most w e w' ∧ Below w.heap.size w w' := by
  have FC := hide' (fun (v h : Nat) (ring : Bool) (V : World) (b : Below w.heap.size w V) (h1 : 1 ≤ v) (h2 : v ≤ 5) (h3 : 1 ≤ h) (h4 : h ≤ 5) => refFill_any xs ta n tc v h ring V (hA.below b) hn h1 h2 h3 h4)
  clear hA
  obtain ⟨w1, hw1⟩ : ∃ w1, w.alloc (.cells #[.bool false, .int .i64 0, .int .i64 0, .slice none 0 0] 40) = w1 := ⟨_, rfl⟩
  have D0 := hide' (show DsS w w1 by rw [← hw1]; exact ⟨(Below.refl _ _).alloc (Nat.le_refl _) _, heap_alloc_new _ _⟩)
  go_enter Tryd.func16, Tryd.ntmps16
  go_wp2
  try rw [hw1]
  clear hw1
  go_loopw [6, 7, 8, 9, 10, 11, 12] (fun sv _ _ _ _ _ _ wr => ∃ s : Nat, sv = .int .i64 (s : Int) ∧ 1 ≤ s ∧ s ≤ 6 ∧ Hid (∀ r, 1 ≤ r → r < s → LevW xs n r) ∧ Hid (DsS w wr)) (fun sv _ _ _ _ _ _ _ => 6 - (intOf sv).toNat)
  case atStart => exact ⟨1, rfl, by omega, by omega, hide' (fun r h1 h2 => by omega), D0⟩
  case round =>
    obtain ⟨s, rfl, s1, s6, LV, DW⟩ := hrel
    by_cases d : (s : Int) ≤ (most : Int)
    · go_wp2
      obtain ⟨VV, rfl⟩ : ∃ VV, VV = wr := ⟨_, rfl⟩
      go_loopw [7, 8, 9, 10] (fun hv _ _ _ wr => ∃ h : Nat, hv = .int .i64 (h : Int) ∧ 1 ≤ h ∧ h ≤ s + 1 ∧ Hid (PreW xs n s h 0) ∧ Hid (DsS w wr)) (fun hv _ _ _ _ => s + 1 - (intOf hv).toNat)
      case atStart => exact ⟨1, rfl, by omega, by omega, hide' (fun h' v' a b c d e f => by omega), DW⟩
      case round =>
        obtain ⟨h, rfl, h1, hs, PH, DH⟩ := hrel
        by_cases e : (h : Int) ≤ (s : Int)
        · go_wp2
          obtain ⟨VU, rfl⟩ : ∃ VU, VU = wr := ⟨_, rfl⟩
          go_loopw [8, 9, 10] (fun vv _ _ wr => ∃ v : Nat, vv = .int .i64 (v : Int) ∧ 1 ≤ v ∧ v ≤ s + 1 ∧ Hid (PreW xs n s h v) ∧ Hid (DsS w wr)) (fun vv _ _ _ => s + 1 - (intOf vv).toNat)
          case atStart => exact ⟨1, rfl, by omega, by omega, hide' (fun h' v' a b c d e f => PH.out h' v' a b c d e (by omega)), DH⟩
          case round =>
            obtain ⟨v, rfl, v1, vs, PV, DV⟩ := hrel
            by_cases f : (v : Int) ≤ (s : Int)
            · by_cases q : v = s ∨ h = s
              · have FF := hide' (FC.out v h true wr DV.out.1 (by omega) (by omega) (by omega) (by omega))
                have NX := hide' (fun (no : NoRg xs n v h) => show PreW xs n s h (v + 1) from fun h' v' a b c d e g => by
                  by_cases t : h' = h ∧ v' = v
                  · rw [t.1, t.2]; exact no
                  · exact PV.out h' v' a b c d e (by omega))
                have TT := hide' (fun (yes : ¬ NoRg xs n v h) => show DecT xs n most v h from ⟨s, s1, by omega, LV.out, h1, by omega, v1, by omega, q, PV.out, yes⟩)
                by_cases q1 : (v : Int) = (s : Int)
                · have qb : ((v : Int) == (s : Int)) = true := by simp; omega
                  have QQ := hide' q
                  clear q
                  try clear q1
                  go_wp2_with fail
                  refine FF.out.mono ?_
                  rintro o w3 ⟨r3, b3⟩
                  have D3 := hide' (DV.out.keep b3)
                  have WL := hide' DV.out.1.size
                  clear b3
                  rcases r3 with ⟨c, g, hf, rfl, hr, hg⟩ | ⟨hf, rfl⟩
                  · have DT := hide' (TT.out hf.none)
                    have HFI := hide' hf
                    have HRO := hide' (And.intro hr (Nat.le_trans WL.out hg))
                    have gne : g ≠ w.heap.size := by have := lt_blockT DV.out.2; omega
                    clear hf hr hg
                    have gb := D3.out.2
                    obtain ⟨N, hN⟩ : ∃ N, v * h = N := ⟨_, rfl⟩
                    rw [hN] at HFI HRO
                    rw [hN]
                    obtain ⟨O, hO⟩ : ∃ O, (#[.bool true, .int .i64 ((v : Nat) : Int), .int .i64 ((h : Nat) : Int), .slice (some ⟨g, 0, none⟩) N N] : Array Value) = O := ⟨_, rfl⟩
                    have os : O.size = 4 := by rw [← hO]; rfl
                    have ol : O.all (·.oneCell') = true := by rw [← hO]; simp [Value.oneCell']
                    have HNN := hide' hN
                    clear hN
                    go_wp2_with (first
                      | (refine wpList_store_row rfl 40 _ _ rfl w.heap.size O rfl (by first | rfl | (rw [← hO]; rfl)) 40 _ gb (by rw [os]; kernel_rfl) (by rw [os]; rfl) ol ?_))
                    refine bodyPost_ret (v := .tuple #[.agg O, .bool true]) (results_rowW Tryd.results16 _ _ w.heap.size 40 _ (0, 0) _ rfl (setRow_heap _ _ _ _ _ _ gb) Tryd.underlying40 rfl (by rw [os]; kernel_rfl)) rfl ?_
                    refine ⟨Or.inl ⟨v, h, c, g, DT.out, by rw [HNN.out]; exact HFI.out, by rw [HNN.out, hO], ?_, HRO.out.2⟩, belowW_set D3.out.1 (by omega) _⟩
                    rw [HNN.out]
                    exact (setRow_other _ _ _ _ gne).trans HRO.out.1
                  · have NN := hide' (NX.out hf)
                    clear hf
                    go_wp2
                    exact ⟨⟨v + 1, by go_num, by omega, by omega, NN, D3⟩, by simp [intOf]; omega⟩
                · have qb : ((v : Int) == (s : Int)) = false := by simp; omega
                  have q2 : (h : Int) = (s : Int) := by omega
                  have qc : ((h : Int) == (s : Int)) = true := by simp; omega
                  clear q2
                  have QQ := hide' q
                  clear q
                  try clear q1
                  go_wp2_with fail
                  refine FF.out.mono ?_
                  rintro o w3 ⟨r3, b3⟩
                  have D3 := hide' (DV.out.keep b3)
                  have WL := hide' DV.out.1.size
                  clear b3
                  rcases r3 with ⟨c, g, hf, rfl, hr, hg⟩ | ⟨hf, rfl⟩
                  · have DT := hide' (TT.out hf.none)
                    have HFI := hide' hf
                    have HRO := hide' (And.intro hr (Nat.le_trans WL.out hg))
                    have gne : g ≠ w.heap.size := by have := lt_blockT DV.out.2; omega
                    clear hf hr hg
                    have gb := D3.out.2
                    obtain ⟨N, hN⟩ : ∃ N, v * h = N := ⟨_, rfl⟩
                    rw [hN] at HFI HRO
                    rw [hN]
                    obtain ⟨O, hO⟩ : ∃ O, (#[.bool true, .int .i64 ((v : Nat) : Int), .int .i64 ((h : Nat) : Int), .slice (some ⟨g, 0, none⟩) N N] : Array Value) = O := ⟨_, rfl⟩
                    have os : O.size = 4 := by rw [← hO]; rfl
                    have ol : O.all (·.oneCell') = true := by rw [← hO]; simp [Value.oneCell']
                    have HNN := hide' hN
                    clear hN
                    go_wp2_with (first
                      | (refine wpList_store_row rfl 40 _ _ rfl w.heap.size O rfl (by first | rfl | (rw [← hO]; rfl)) 40 _ gb (by rw [os]; kernel_rfl) (by rw [os]; rfl) ol ?_))
                    refine bodyPost_ret (v := .tuple #[.agg O, .bool true]) (results_rowW Tryd.results16 _ _ w.heap.size 40 _ (0, 0) _ rfl (setRow_heap _ _ _ _ _ _ gb) Tryd.underlying40 rfl (by rw [os]; kernel_rfl)) rfl ?_
                    refine ⟨Or.inl ⟨v, h, c, g, DT.out, by rw [HNN.out]; exact HFI.out, by rw [HNN.out, hO], ?_, HRO.out.2⟩, belowW_set D3.out.1 (by omega) _⟩
                    rw [HNN.out]
                    exact (setRow_other _ _ _ _ gne).trans HRO.out.1
                  · have NN := hide' (NX.out hf)
                    clear hf
                    go_wp2
                    exact ⟨⟨v + 1, by go_num, by omega, by omega, NN, D3⟩, by simp [intOf]; omega⟩
              · have qb : ((v : Int) == (s : Int)) = false := by simp; omega
                have qc : ((h : Int) == (s : Int)) = false := by simp; omega
                have NX := hide' (show PreW xs n s h (v + 1) from fun h' v' a b c d e g => by
                  by_cases t : h' = h ∧ v' = v
                  · rw [t.1, t.2] at e; exact absurd e q
                  · exact PV.out h' v' a b c d e (by omega))
                clear q
                go_wp2
                exact ⟨⟨v + 1, by go_num, by omega, by omega, NX, DV⟩, by simp [intOf]; omega⟩
            · have NX := hide' (show PreW xs n s (h + 1) 0 from fun h' v' a b c d e g => PV.out h' v' a b c d e (by omega))
              go_wp2
              exact ⟨⟨h + 1, by go_num, by omega, by omega, NX, DV⟩, by simp [intOf]; omega⟩
        · have NO := hide' (show ∀ h v, 1 ≤ h → h ≤ s → 1 ≤ v → v ≤ s → (v = s ∨ h = s) → NoRg xs n v h from fun h' v' a b c d e => PH.out h' v' a b c d e (by omega))
          have FF := hide' (FC.out s s false wr DH.out.1 (by omega) (by omega) (by omega) (by omega))
          go_wp2_with fail
          refine FF.out.mono ?_
          rintro o w3 ⟨r3, b3⟩
          have D3 := hide' (DH.out.keep b3)
          clear b3
          rcases r3 with ⟨c, g, hf, rfl, -, -⟩ | ⟨hf, rfl⟩
          · have LS := hide' (show ∀ r, 1 ≤ r → r < s + 1 → LevW xs n r from fun r a b => by
              by_cases t : r = s
              · rw [t]; exact ⟨NO.out, hf.none⟩
              · exact LV.out r a (by omega))
            clear hf
            go_wp2
            exact ⟨⟨s + 1, by go_num, by omega, by omega, LS, D3⟩, by simp [intOf]; omega⟩
          · have DS := hide' (show DecS xs n most s from ⟨s1, by omega, LV.out, NO.out, hf⟩)
            clear hf
            have gb := D3.out.2
            obtain ⟨O, hO⟩ : ∃ O, (#[.bool false, .int .i64 ((s : Nat) : Int), .int .i64 ((s : Nat) : Int), .slice none 0 0] : Array Value) = O := ⟨_, rfl⟩
            have os : O.size = 4 := by rw [← hO]; rfl
            have ol : O.all (·.oneCell') = true := by rw [← hO]; simp [Value.oneCell']
            go_wp2_with (first
              | (refine wpList_store_row rfl 40 _ _ rfl w.heap.size O rfl (by first | rfl | (rw [← hO]; rfl)) 40 _ gb (by rw [os]; kernel_rfl) (by rw [os]; rfl) ol ?_))
            refine bodyPost_ret (v := .tuple #[.agg O, .bool true]) (results_rowW Tryd.results16 _ _ w.heap.size 40 _ (0, 0) _ rfl (setRow_heap _ _ _ _ _ _ gb) Tryd.underlying40 rfl (by rw [os]; kernel_rfl)) rfl ?_
            exact ⟨Or.inr (Or.inl ⟨s, DS.out, by rw [hO]⟩), belowW_set D3.out.1 (by omega) _⟩
    · have DL := hide' (show DecL xs n most from fun r a b => LV.out r a (by omega))
      have gb := DW.out.2
      obtain ⟨O, hO⟩ : ∃ O, (#[.bool false, .int .i64 0, .int .i64 0, .slice none 0 0] : Array Value) = O := ⟨_, rfl⟩
      have os : O.size = 4 := by rw [← hO]; rfl
      have ol : O.all (·.oneCell') = true := by rw [← hO]; simp [Value.oneCell']
      go_wp2_with (first
        | (refine wpList_store_row rfl 40 _ _ rfl w.heap.size O rfl (by first | rfl | (rw [← hO]; rfl)) 40 _ gb (by rw [os]; kernel_rfl) (by rw [os]; rfl) ol ?_))
      refine bodyPost_ret (v := .tuple #[.agg O, .bool false]) (results_rowW Tryd.results16 _ _ w.heap.size 40 _ (0, 0) _ rfl (setRow_heap _ _ _ _ _ _ gb) Tryd.underlying40 rfl (by rw [os]; kernel_rfl)) rfl ?_
      exact ⟨Or.inr (Or.inr ⟨DL.out, by rw [hO]⟩), belowW_set DW.out.1 (by omega) _⟩
end Go.Proofs.YthmeapplnocfjaaDoor

namespace Go.Proofs.YthmeapplnocfjaaDoor
open Go.RowKit
set_option linter.unusedVariables false
set_option linter.unusedSimpArgs false
theorem drewW {B : Nat} {w V : World} (h : Below B w V) (k : Nat) : Below B w (V.drewN k) := ⟨h.os, h.tape, h.output, h.size, h.block⟩
theorem nilW (w : World) : ArgP w [] none 0 0 := ⟨rfl, by simp, fun k hk => absurd hk (by simp)⟩
theorem sdF_ok {xs : List TlT} {W H : Int} (h : sdF xs W H = 0) : tlF xs = 0 ∧ 1 ≤ xs.length ∧ xs.length ≤ 16 ∧ ∃ v u : Nat, W = (v : Int) ∧ H = (u : Int) ∧ 1 ≤ v ∧ v ≤ 5 ∧ 1 ≤ u ∧ u ≤ 5 := by
  unfold sdF at h
  split at h
  · rename_i q
    split at h
    · cases h
    · rename_i q2
      have q3 := q
      unfold tlF at q3
      split at q3
      · cases q3
      · rename_i q4
        exact ⟨q, by omega, by omega, W.toNat, H.toNat, by omega, by omega, by omega, by omega, by omega, by omega⟩
  · rename_i q
    exact absurd h q
theorem range_argP {V : World} {g N : Nat} {c : Nat → Nat} (h : RowW V g N (fun i => ((c i : Nat) : Int))) (hN : N ≤ 25) : ArgP V ((List.range N).map fun i => ((c i : Nat) : Int)) (some ⟨g, 0, none⟩) N N := by
  refine ⟨by simp, by unfold maxLen; omega, fun k hk => ⟨g, 0, rfl, lt_blockT h, ?_⟩⟩
  have hk' : k < N := by simpa using hk
  rw [Nat.zero_add, h.cell hk']
  simp
/-- A thing that was decided is told, and a word besides. -/
def DecA (w : World) (tor : Bool) (wd hg : Int) (ys : List Int) (x : Value) (e : Ending) (w' : World) : Prop := ∃ a n c, e = .returned (.tuple #[.agg #[.bool tor, .int .i64 wd, .int .i64 hg, .slice a n c], x]) ∧ Hid (ArgP w' ys a n c) ∧ Hid (Below w.heap.size w w')
def DecR (w : World) (tor : Bool) (wd hg : Int) (ys : List Int) (x : Value) (e : Ending) (w' : World) : Prop := ∃ a n c, e = .returned (.tuple #[.agg #[.bool tor, .int .i64 wd, .int .i64 hg, .slice a n c], x]) ∧ Hid (ArgP w' ys a n c) ∧ Hid (∀ g off, a = some ⟨g, off, none⟩ → w.heap.size ≤ g) ∧ Hid (Below w.heap.size w w')
theorem blkW {w V : World} {p : Nat} {o : Obj} (h : w.heap[p]? = some o) (b : Below w.heap.size w V) : V.heap[p]? = some o := (b.block p (lt_blockT h)).trans h
/-- What wang.Decide ought to answer. -/
def WdA (xs : List TlT) (n : Nat) (M : Int) (V : World) (e : Ending) (w' : World) : Prop :=
  (sdF xs M M ≠ 0 ∧ DecA V false 0 0 [] (errOf (sdF xs M M)) e w')
  ∨ (sdF xs M M = 0 ∧ DecL xs n M.toNat ∧ DecA V false 0 0 [] (errOf 6) e w')
  ∨ (sdF xs M M = 0 ∧ ∃ s, DecS xs n M.toNat s ∧ DecA V false (s : Int) (s : Int) [] .nilIface e w')
  ∨ (sdF xs M M = 0 ∧ ∃ v h c, DecT xs n M.toNat v h ∧ FirstW n (v * h) (okW xs v h true) c ∧ DecA V true (v : Int) (h : Int) ((List.range (v * h)).map fun i => ((c i : Nat) : Int)) .nilIface e w')
end Go.Proofs.YthmeapplnocfjaaDoor

