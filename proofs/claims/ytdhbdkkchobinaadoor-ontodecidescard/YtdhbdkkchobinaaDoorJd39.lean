/-
  What the last text of this claim leans on, part 39: Oj8.
-/
import Derived.Test.YtdhbdkkchobinaaDoorJd38
import Derived.Test.YtdhbdkkchobinaaDoorJd18
namespace Go.Proofs.YtdhbdkkchobinaaDoor
open Go.RowKit
set_option linter.unusedVariables false

theorem row_of_blk {X : World} {base g m : Nat} {xs : List Int} (h : Blk X g (valsI xs) 3) (hg : base ≤ g) (hm : xs.length = m) (hx : m ≤ maxLen) : X.ownsRow base 3 1 (.slice (some ⟨g, 0, none⟩) m m) m (xs.map fun y => Value.int .i64 y) := by
  refine ⟨by simp [hm], Or.inr ⟨g, m, valsI xs, rfl, hg, h, Nat.le_refl _, hx, by simp [valsI, hm], ?_⟩⟩
  rw [Nat.mul_one]
  show ((xs.map fun y => Value.int .i64 y).toArray.toList).take m = _
  rw [List.toList_toArray]
  exact List.take_of_length_le (by simp [hm])
theorem TW.call1 {base pb : Nat} {bx : Array Value} {w X Y : World} {v1 v2 : Value} {n1 n2 : Nat} {x1 x2 : List Value} (h : TW base pb bx w X v1 n1 x1 v2 n2 x2) {g m : Nat} {xs : List Int} (hk : Blk Y g (valsI xs) 3) (hg : X.heap.size ≤ g) (hb : Below X.heap.size X Y) (hm : xs.length = m) (hx : m ≤ maxLen) : TW base pb bx w Y (.slice (some ⟨g, 0, none⟩) m m) m (xs.map fun y => Value.int .i64 y) v2 n2 x2 := by
  have sz := h.sz
  refine ⟨row_of_blk hk (by omega) hm hx, h.b2.kept (grown_of_below hb) (Classical.em _), fun b e1 e2 => ?_, h.box.of (hb.block pb h.box.lt), h.bl.trans (hb.mono sz), by have := hb.size; omega⟩
  obtain rfl : g = b := by simpa [Value.ownBlock] using e1
  have := row_lt h.b2 _ e2
  omega
theorem TW.call2 {base pb : Nat} {bx : Array Value} {w X Y : World} {v1 v2 : Value} {n1 n2 : Nat} {x1 x2 : List Value} (h : TW base pb bx w X v1 n1 x1 v2 n2 x2) {g m : Nat} {xs : List Int} (hk : Blk Y g (valsI xs) 3) (hg : X.heap.size ≤ g) (hb : Below X.heap.size X Y) (hm : xs.length = m) (hx : m ≤ maxLen) : TW base pb bx w Y v1 n1 x1 (.slice (some ⟨g, 0, none⟩) m m) m (xs.map fun y => Value.int .i64 y) :=
  (h.swap.call1 hk hg hb hm hx).swap
/-- A way that leaves the pairs of alike places and comes back. -/
def IsTwin (S n : Nat) (T : List Int) (p : Nat) (full : List (Nat × Nat)) : Prop := p < n ∧ okP S n T (p, p) full ∧ (∃ cs d, full = cs ++ [d] ∧ wantTf S n (endP S n (p, p) cs) d = true) ∧ full.length ≤ 257
def NoTwin (S n : Nat) (T : List Int) : Prop := ∀ p, p < n → ∀ cs c, okP S n T (p, p) cs → OkWay S T (endP S n (p, p) cs) c → wantTf S n (endP S n (p, p) cs) c = false
def TwinsPost (S R n : Nat) (T : List Int) (w : World) (e : Ending) (w' : World) : Prop :=
  ((∃ p full v1 v2, e = .returned (.tuple #[v1, v2]) ∧ w'.ownsRow w.heap.size 3 1 v1 (2 * R + full.length) ((winL S (2 * R) p ++ full.map fun y => (y.1 : Int)).map fun y => Value.int .i64 y) ∧ w'.ownsRow w.heap.size 3 1 v2 (2 * R + full.length) ((winL S (2 * R) p ++ full.map fun y => (y.2 : Int)).map fun y => Value.int .i64 y) ∧ IsTwin S n T p full) ∨
   (e = .returned (.tuple #[.slice none 0 0, .slice none 0 0]) ∧ NoTwin S n T)) ∧ Below w.heap.size w w'
theorem addr_add (g j : Nat) : (⟨g, 0, none⟩ : Addr).add j = ⟨g, j, none⟩ := by unfold Addr.add; split <;> simp_all
theorem row_cells {w : World} {base g n cap : Nat} {xs : List Value} (h : w.ownsRow base 3 1 (.slice (some ⟨g, 0, none⟩) n cap) n xs) : ∀ j u, xs[j]? = some u → w.cell? ⟨g, j, none⟩ = some u := fun j u hu => by
  have hl := h.1
  rcases h.2 with ⟨h1, _⟩ | ⟨g', cap', cur, e, hg, hh, hc, hm, hs, ht⟩
  · injection h1 with h1; cases h1
  · injection e with e1 _ _
    injection e1 with e1
    injection e1 with e1
    subst e1
    have hj : j < xs.length := (List.getElem?_eq_some_iff.1 hu).1
    rw [← ht, List.getElem?_take, if_pos (by omega)] at hu
    simp only [World.cell?, hh]
    rw [← Array.getElem?_toList]
    exact hu
def diagL (k : Nat) : List (Nat × Nat) := (List.range k).map fun p => (p, p)
theorem diagL_succ (k : Nat) : diagL (k + 1) = diagL k ++ [(k, k)] := by simp [diagL, List.range_succ]
theorem diagL_length (k : Nat) : (diagL k).length = k := by simp [diagL]

set_option maxRecDepth 100000 in
set_option maxHeartbeats 12800000 in
theorem twins_any (S R n : Nat) (T : List Int) (ta : Option Addr) (tn tc : Nat) (w : World) (hn : 0 < n) (hn16 : n ≤ 16) (hS : 2 ≤ S) (hS4 : S ≤ 4) (hR : R ≤ 10) (htn : tn = n * S) (hT : ArgP w T ta tn tc) (hta : ∀ g off, ta = some ⟨g, off, none⟩ → g < w.heap.size) :
    Calls Tryd.prog 136 #[.agg #[.int .i64 (S : Int), .int .i64 (2 * (R : Int)), .int .i64 (n : Int), .slice ta tn tc]] w (TwinsPost S R n T w) := by
  obtain ⟨w1, hw1⟩ : ∃ w1, w.alloc (.cells #[.int .i64 (S : Int), .int .i64 (2 * (R : Int)), .int .i64 (n : Int), .slice ta tn tc] 150) = w1 := ⟨_, rfl⟩
  have z1 : w1.heap.size = w.heap.size + 1 := by rw [← hw1]; simp
  have BB := hide' (show Below w.heap.size w w1 by rw [← hw1]; exact (Below.refl _ _).alloc (Nat.le_refl _) _)
  have GX := hide' (show GB w.heap.size S R n (.slice ta tn tc) w1 by rw [← hw1]; exact GB.new w S R n _ _)
  have AT := hide' hT
  have HTA := hide' hta
  have Z1 := hide' z1
  have SE := hide' (fun (g0 sc : Nat) (sts : List (Nat × Nat)) (W : World) (h : ArgP W T ta tn tc) (h2 : ∀ g off, ta = some ⟨g, off, none⟩ → g < W.heap.size) (hP : PC W g0 sts.length (prAt sts)) (hsl : sts.length ≤ 256) (hsr : ∀ u ∈ sts, u.1 < n ∧ u.2 < n) => searchT_any S R n T ta tn tc g0 sc sts W hn hn16 hS hS4 htn h h2 hP hsl hsr)
  obtain ⟨m, hm⟩ : ∃ m, 2 * R = m := ⟨_, rfl⟩
  have m20 : m ≤ 20 := by omega
  have WC := hide' (fun (p : Nat) (W : World) (hp : p < 4096) => word_any S R n p ta tn tc W hS hS4 hR hp)
  have HM := hide' hm
  unfold RowPost at WC
  simp only [winL_length, hm] at WC
  obtain ⟨i0, hi0, hz0, hz1, hz2⟩ := info_parts info_pair
  obtain ⟨i1, hi1, hy0, hy1, hy2⟩ := info_parts info_int
  clear hT hta htn z1 hm
  obtain ⟨c0, c1, c2, c3⟩ := GX.out
  go_enter Tryd.func136, Tryd.ntmps136
  go_wp2
  clear c0 c1 c2 c3 hw1
  go_loopw [4, 10] (fun sv iv wr => ∃ (k : Nat), iv = .int .i64 (k : Int) ∧ k ≤ n ∧ Hid (wr.ownsRow w1.heap.size 193 2 sv k (prCells (diagL k)) ∧ Below w1.heap.size w1 wr)) (fun _ iv _ => n - (intOf iv).toNat)
  case atStart => exact ⟨0, rfl, by omega, hide' ⟨⟨by simp [diagL, prCells], Or.inl ⟨rfl, rfl⟩⟩, Below.refl _ _⟩⟩
  case round =>
    obtain ⟨k, rfl, hk, H⟩ := hrel
    have sz := H.out.2.size
    by_cases d : (k : Int) < (n : Int)
    · have OW := hide' H.out.1
      have BL := hide' H.out.2
      clear H
      go_wp2_with (at_builtin; refine wpList_append_own_at _ rfl _ _ 191 rfl w1.heap.size 193 i0 (.agg #[.int .i64 0, .int .i64 0]) 2 16 Tryd.underlying191 hi0 hz0 hz1 hz2 rfl (by decide) _ k (prCells (diagL k)) rfl (OW.out.alloc _) ⟨wr.heap.size, 0, none⟩ 1 1 [.int .i64 (k : Int), .int .i64 (k : Int)] rfl rfl (two_new _ _ _ _) (by simp [Value.oneCell']) (by unfold maxLen; omega) (by omega) (by simp; omega) ?_; intro v' w3 hown' hgrow3 hnil3 hloc3; have ON := hide' hown'; have BG := hide' (show Below w1.heap.size w1 w3 from (BL.out.alloc (by omega) _).grown hgrow3 (by simp; omega) (row_base OW.out)); clear hown' hgrow3 hnil3 hloc3)
      refine ⟨⟨k + 1, by go_num, by omega, hide' ⟨?_, BG.out⟩⟩, by simp [intOf]; omega⟩
      rw [diagL_succ, prCells_snoc]
      exact ON.out
    · obtain rfl : k = n := by omega
      obtain ⟨g0, sc, rfl, hg0, _, _, pc⟩ := ownsRow_pc (l := diagL k) (by rw [diagL_length]; exact H.out.1) (by rw [diagL_length]; exact hn)
      have BL := hide' H.out.2
      have PCX := hide' pc
      have B1 := hide' (BB.out.trans (BL.out.mono BB.out.size))
      have SX := hide' (SE.out g0 sc (diagL k) wr (AT.out.below B1.out) (fun g off e => by have := HTA.out g off e; have := B1.out.size; omega) PCX.out (by rw [diagL_length]; omega) (fun u hu => by simp [diagL] at hu; obtain ⟨q, hq, rfl⟩ := hu; exact ⟨hq, hq⟩))
      rw [diagL_length] at SX ⊢
      clear H pc d
      obtain ⟨c0, c1, c2, c3⟩ := GX.out.next BL.out
      go_wp2_with fail
      refine (show Calls Tryd.prog _ _ _ _ from SX.out).mono ?_
      unfold SearchPost
      rintro e w4 ⟨hor, b4⟩
      have B4 := hide' (BL.out.trans (b4.mono sz))
      clear c0 c1 c2 c3 b4
      obtain ⟨c0, c1, c2, c3⟩ := GX.out.next B4.out
      rcases hor with ⟨root, full, g, c, rfl, pcf, hg, hfc, hcm, hr, okp, ⟨cs, dd, hcd, hw⟩, hfl⟩ | ⟨rfl, hno⟩
      · obtain ⟨p, hp, rfl⟩ : ∃ p, p < k ∧ (p, p) = root := by simpa [diagL] using hr
        have L0 : 0 < full.length := by rw [hcd]; simp
        have IT := hide' (show IsTwin S k T p full from ⟨hp, okp, ⟨cs, dd, hcd, hw⟩, hfl⟩)
        have k0 : ((full.length : Int) == 0) = false := by rw [beq_eq_false_iff_ne]; omega
        have b5 : Below w4.heap.size w4 (w4.alloc (.cells #[.int .i64 (p : Int), .int .i64 (p : Int)] 193)) := (Below.refl _ _).alloc (Nat.le_refl _) _
        have PF := hide' (pcf.block b5.size (b5.block g pcf.lt))
        have PB := hide' (Blk.new w4 #[.int .i64 (p : Int), .int .i64 (p : Int)] 193)
        have B5 := hide' (B4.out.trans (b5.mono B4.out.size))
        have SPL := hide' (split_any full g c _ PF.out (by omega))
        have sz4 := B4.out.size
        obtain ⟨pb, hpb⟩ : ∃ pb, w4.heap.size = pb := ⟨_, rfl⟩
        rw [hpb] at PB
        clear pcf hr okp hcd hw hfc hcm hg b5
        go_wp2_with fail
        refine (show Calls Tryd.prog _ _ _ _ from SPL.out).mono ?_
        unfold SplitPost
        rintro e w6 ⟨v1, v2, rfl, o1, o2, b6⟩
        have B6 := hide' (B5.out.trans (b6.mono (by simp; omega)))
        have PB6 := hide' (PB.out.of (b6.block pb (by simp; omega)))
        obtain ⟨g8, c8, rfl⟩ := row_form o1 L0
        obtain ⟨g9, c9, rfl⟩ := row_form o2 L0
        have CA := hide' (row_cells o1)
        have CB := hide' (row_cells o2)
        have LT8 := hide' (row_lt o1 g8 rfl)
        have LT9 := hide' (row_lt o2 g9 rfl)
        clear o1 o2 b6 c0 c1 c2 c3 SPL PF PB SX
        have G6 := hide' (GX.out.next B6.out)
        have T0 := hide' (show TW w6.heap.size pb #[.int .i64 (p : Int), .int .i64 (p : Int)] w6 w6.drew (.slice none 0 0) 0 [] (.slice none 0 0) 0 [] from ⟨⟨rfl, Or.inl ⟨rfl, rfl⟩⟩, ⟨rfl, Or.inl ⟨rfl, rfl⟩⟩, fun b e => by simp [Value.ownBlock] at e, PB6.out.of rfl, (Below.refl _ _).drew, Nat.le_refl _⟩)
        have CKs := hide' (show ∀ X : World, Below w6.heap.size w6 X → X.cell? ⟨w.heap.size, 0, none⟩ = some (.int .i64 (S : Int)) ∧ X.cell? ⟨w.heap.size, 1, none⟩ = some (.int .i64 (2 * (R : Int))) ∧ X.cell? ⟨w.heap.size, 2, none⟩ = some (.int .i64 (k : Int)) ∧ X.cell? ⟨w.heap.size, 3, none⟩ = some (.slice ta tn tc) ∧ X.cell? ⟨pb, 0, none⟩ = some (.int .i64 (p : Int)) ∧ X.cell? ⟨pb, 1, none⟩ = some (.int .i64 (p : Int)) from fun X hb => by
          obtain ⟨a0, a1, a2, a3⟩ := G6.out.next hb
          have q := PB6.out.of (hb.block pb PB6.out.lt)
          exact ⟨a0, a1, a2, a3, q.cell 0, q.cell 1⟩)
        have SR1 := hide' (show ∀ X : World, Below w6.heap.size w6 X → ∀ j u, (full.map fun y => Value.int .i64 (y.1 : Int))[j]? = some u → X.cell? ((⟨g8, 0, none⟩ : Addr).add j) = some u from fun X hb j u hu => (hb.cell (by show ((⟨g8, 0, none⟩ : Addr).add j).block < _; rw [addr_add]; exact LT8.out)).trans (by rw [addr_add]; exact CA.out j u hu))
        have SR2 := hide' (show ∀ X : World, Below w6.heap.size w6 X → ∀ j u, (full.map fun y => Value.int .i64 (y.2 : Int))[j]? = some u → X.cell? ((⟨g9, 0, none⟩ : Addr).add j) = some u from fun X hb j u hu => (hb.cell (by show ((⟨g9, 0, none⟩ : Addr).add j).block < _; rw [addr_add]; exact LT9.out)).trans (by rw [addr_add]; exact CB.out j u hu))
        have FLN := hide' (show full.length = full.length from rfl)
        have WLM := hide' (winL_length S m p)
        obtain ⟨c0, c1, c2, c3⟩ := G6.out
        have q0 := PB6.out.cell 0
        have q1 := PB6.out.cell 1
        try rw [hpb]
        clear hpb
        go_upto_region 11 with fail
        go_region_held3 (fun w' => w'.cell? ⟨w.heap.size, 0, none⟩ = some (.int .i64 (S : Int)) ∧ w'.cell? ⟨w.heap.size, 1, none⟩ = some (.int .i64 (2 * (R : Int))) ∧ w'.cell? ⟨w.heap.size, 2, none⟩ = some (.int .i64 (k : Int)) ∧ w'.cell? ⟨w.heap.size, 3, none⟩ = some (.slice ta tn tc) ∧ w'.cell? ⟨pb, 0, none⟩ = some (.int .i64 (p : Int)) ∧ w'.cell? ⟨pb, 1, none⟩ = some (.int .i64 (p : Int))) (first | exact CKs.out _ T0.out.bl | exact CKs.out _ T10.out.bl | exact CKs.out _ T11.out.bl | exact CKs.out _ T20.out.bl | exact CKs.out _ T21.out.bl | exact CKs.out _ T12.out.bl | exact CKs.out _ T22.out.bl)
          (first
            | (go_at_call 190; refine (WC.out p _ (by omega)).mono ?_; rintro e wA ⟨gA, rfl, kA, hgA, bA⟩; have T10 := hide' (T0.out.call1 kA hgA bA WLM.out (by unfold maxLen; omega)); clear kA hgA bA)
            | (go_at_call 190; refine (WC.out p _ (by omega)).mono ?_; rintro e wB ⟨gB, rfl, kB, hgB, bB⟩; (first | (have T21 := hide' (T20.out.call2 kB hgB bB WLM.out (by unfold maxLen; omega))) | (have T11 := hide' (T10.out.call2 kB hgB bB WLM.out (by unfold maxLen; omega)))); clear kB hgB bB)
            | (refine step_append_lies _ (by rfl) _ _ _ (by rfl) w6.heap.size 3 i1 _ 1 8 Tryd.underlying22 hi1 hy0 hy1 hy2 rfl (by omega) (.slice (some ⟨gA, 0, none⟩) m m) m ((winL S m p).map fun y => Value.int .i64 y) (by rfl) (by first | exact T12.out.b1 | exact T11.out.b1 | exact T10.out.b1) _ _ _ (full.map fun y => Value.int .i64 (y.1 : Int)) (by rfl) (by simp) (by first | exact SR1.out _ T12.out.bl | exact SR1.out _ T11.out.bl | exact SR1.out _ T10.out.bl) (by intro u hu; obtain ⟨y, _, rfl⟩ := List.mem_map.1 hu; rfl) L0 (by unfold maxLen; omega) (by omega) (by first | exact T12.out.sz | exact T11.out.sz | exact T10.out.sz) _ rfl ?_; intro g1 d1 y1 hown hgrow hat hlt; (first | (have T22 := hide' (T12.out.app1 hown hgrow hat)) | (have T21 := hide' (T11.out.app1 hown hgrow hat)) | (have T20 := hide' (T10.out.app1 hown hgrow hat))); clear hown hgrow hat hlt)
            | (refine step_append_lies _ (by rfl) _ _ _ (by rfl) w6.heap.size 3 i1 _ 1 8 Tryd.underlying22 hi1 hy0 hy1 hy2 rfl (by omega) (.slice (some ⟨gB, 0, none⟩) m m) m ((winL S m p).map fun y => Value.int .i64 y) (by rfl) (by first | exact T21.out.b2 | exact T11.out.b2) _ _ _ (full.map fun y => Value.int .i64 (y.2 : Int)) (by rfl) (by simp) (by first | exact SR2.out _ T21.out.bl | exact SR2.out _ T11.out.bl) (by intro u hu; obtain ⟨y, _, rfl⟩ := List.mem_map.1 hu; rfl) L0 (by unfold maxLen; omega) (by omega) (by first | exact T21.out.sz | exact T11.out.sz) _ rfl ?_; intro g2 d2 y2 hown hgrow hat hlt; (first | (have T22 := hide' (T21.out.app2 hown hgrow hat)) | (have T12 := hide' (T11.out.app2 hown hgrow hat))); clear hown hgrow hat hlt)
            | fail)
        all_goals
          go_wp2
          go_ret2
          have sw : w.heap.size ≤ w6.heap.size := by have := BB.out.size; have := B6.out.size; omega
          refine ⟨Or.inl ⟨p, full, _, _, rfl, ?_, ?_, IT.out⟩, BB.out.trans ((B6.out.trans (T22.out.bl.mono B6.out.size)).mono BB.out.size)⟩
          · have h := row_base_mono T22.out.b1 sw
            rw [HM.out, List.map_append, List.map_map]
            exact h
          · have h := row_base_mono T22.out.b2 sw
            rw [HM.out, List.map_append, List.map_map]
            exact h
      · have NT := hide' (show NoTwin S k T from fun p hp cs c h1 h2 => hno (p, p) (by simp [diagL]; exact hp) cs c h1 h2)
        clear hno
        have B5 := hide' (B4.out.alloc B4.out.size (.cells #[.int .i64 0, .int .i64 0] 193))
        go_wp2
        go_ret2
        exact ⟨Or.inr ⟨rfl, NT.out⟩, BB.out.trans (B5.out.mono BB.out.size)⟩
end Go.Proofs.YtdhbdkkchobinaaDoor

