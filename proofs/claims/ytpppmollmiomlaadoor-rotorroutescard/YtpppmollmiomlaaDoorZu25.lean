/-
  What the last text of this claim leans on, part 25: Rr6.
-/
import Derived.Test.YtpppmollmiomlaaDoorZu23
import Derived.Test.YtpppmollmiomlaaDoorZu24
namespace Go.Proofs.YtpppmollmiomlaaDoor
open Go.RowKit
set_option linter.unusedVariables false
set_option linter.unusedSimpArgs false
/-- What stands while the document's chips are routed. -/
structure RtS (V : World) (w1 : World) (A P t wb cap : Nat) (v : Nat → Value) (xs : List EgT) (sb sc cb cc mb : Nat) (sg : Nat → Nat) (c : Nat → Int) (u : Nat → Nat) : Prop where
  rf : RfR V A w1.heap.size P wb cap v xs sb sc cb cc (sgR (dgF xs) sg u) (lfR P t (wyF xs) (dgF xs) sg c u)
  wt : V.ownsRow w1.heap.size 3 1 (.slice (some ⟨mb, 0, none⟩) P P) P ((lsN P u).map (Value.int .i64))
  n1 : sb ≠ mb
  n2 : cb ≠ mb
  lm : mb < A
  b1 : w1.heap.size ≤ sb
  b2 : w1.heap.size ≤ cb
  b3 : w1.heap.size ≤ mb
  bl : Below w1.heap.size w1 V
theorem RtS.next {V V' w1 : World} {A P t wb cap : Nat} {v : Nat → Value} {xs : List EgT} {sb sc cb cc mb : Nat} {sg : Nat → Nat} {c : Nat → Int} {u : Nat → Nat} (h : RtS V w1 A P t wb cap v xs sb sc cb cc mb sg c u) (b : Below V.heap.size V V') : RtS V' w1 A P t wb cap v xs sb sc cb cc mb sg c u :=
  ⟨h.rf.next b, own_next h.wt b, h.n1, h.n2, h.lm, h.b1, h.b2, h.b3, h.bl.trans (b.mono h.bl.size)⟩
/-- One chip goes a step: what Goes leaves, and one more that went. -/
theorem RtS.gone {V V' w1 : World} {A P t wb cap : Nat} {v : Nat → Value} {xs : List EgT} {sb sc cb cc mb : Nat} {sg : Nat → Nat} {c : Nat → Int} {u : Nat → Nat} {x : Nat} (h : RtS V w1 A P t wb cap v xs sb sc cb cc mb sg c u) (hx : x < P) (xt : x ≠ t) (wk : WkR P t (wyF xs) (dgF xs) sg c u) (h0 : chR P t (wyF xs) (dgF xs) sg c u x ≠ 0) (inn : ∀ k i, k < P → i < dgF xs k → wyF xs k i < P) (hd : 0 < dgF xs x)
    (g : RfR V' A w1.heap.size P wb cap v xs sb sc cb cc (upN (sgR (dgF xs) sg u) x ((sgR (dgF xs) sg u x + 1) % dgF xs x)) (wentC t (lfR P t (wyF xs) (dgF xs) sg c u) x (wyF xs x ((sgR (dgF xs) sg u x + 1) % dgF xs x)))) (k : KpB sb cb V V') :
    RtS (V'.setCell ⟨mb, x, none⟩ (.int .i64 ((u x + 1 : Nat) : Int))) w1 A P t wb cap v xs sb sc cb cc mb sg c (upR u x) := by
  have e1 : (sgR (dgF xs) sg u x + 1) % dgF xs x = sgR (dgF xs) sg (upR u x) x := by
    have := congrFun (sg_up (dgF xs) sg u x) x
    unfold tnR at this
    rw [if_pos rfl] at this
    exact this
  have wt' : V'.ownsRow w1.heap.size 3 1 (.slice (some ⟨mb, 0, none⟩) P P) P ((lsN P u).map (Value.int .i64)) := own_KpB h.wt k (Ne.symm h.n1) (Ne.symm h.n2)
  have st := (wt'.stored x (.int .i64 ((u x + 1 : Nat) : Int))).1
  rw [lsN_set, show upN u x (u x + 1) = upR u x from funext fun j => by unfold upN upR; by_cases q : j = x <;> simp [q]] at st
  rw [up_sg (P := P), e1] at g
  have ex : ∀ j, j < P → wentC t (lfR P t (wyF xs) (dgF xs) sg c u) x (wyF xs x (sgR (dgF xs) sg (upR u x) x)) j = lfR P t (wyF xs) (dgF xs) sg c (upR u x) j := fun j hj => by
    unfold wentC
    by_cases q : wyF xs x (sgR (dgF xs) sg (upR u x) x) = t
    · rw [if_pos q]; exact lf_sink wk hx xt h0 q j hj
    · rw [if_neg q]; exact lf_on wk hx xt h0 rfl (inn x _ hx (by unfold sgR; exact Nat.mod_lt _ hd)) q j hj
  have g2 : RfR V' A w1.heap.size P wb cap v xs sb sc cb cc (sgR (dgF xs) sg (upR u x)) (lfR P t (wyF xs) (dgF xs) sg c (upR u x)) := ⟨g.al, g.sgs, by rw [← lsN_ext ex]; exact g.chs, g.ne, g.ls, g.lc⟩
  exact ⟨g2.setO x _ h.n1 h.n2 h.lm, st, h.n1, h.n2, h.lm, h.b1, h.b2, h.b3, (h.bl.trans (k.below h.b1 h.b2 h.bl.size)).setCell h.b3 _⟩
def RRouteOut (w : World) (P t : Nat) (xs : List EgT) (ss cs : List Int) (e : Ending) (w' : World) : Prop :=
  Below w.heap.size w w' ∧ ∃ (u : Nat → Nat) (sb sc mb : Nat), e = .returned (.tuple #[.slice (some ⟨sb, 0, none⟩) P sc, .slice (some ⟨mb, 0, none⟩) P P]) ∧ WkR P t (wyF xs) (dgF xs) (sgN ss) (chN cs) u ∧ doneR P t (wyF xs) (dgF xs) (sgN ss) (chN cs) u ∧ ArgP w' (lsN P (sgR (dgF xs) (sgN ss) u)) (some ⟨sb, 0, none⟩) P sc ∧ ArgP w' (lsN P u) (some ⟨mb, 0, none⟩) P P
theorem news_arg {V : World} {xs : List Int} {g off n c : Nat} (h : ArgP V xs (some ⟨g, off, none⟩) n c) : ∀ j u, (xs.map (Value.int .i64))[j]? = some u → V.cell? ((⟨g, off, none⟩ : Addr).add j) = some u := fun j u hj => by
  have hl : j < xs.length := by simpa using (List.getElem?_eq_some_iff.1 hj).1
  obtain ⟨g', o, e, hg, hc⟩ := h.cells j hl
  simp at e
  obtain ⟨rfl, rfl⟩ := e
  have ad : (⟨g, off, none⟩ : Addr).add j = ⟨g, off + j, none⟩ := by unfold Addr.add; split <;> simp_all
  rw [ad, hc]
  simpa [hl] using hj
set_option maxRecDepth 100000 in
set_option maxHeartbeats 12800000 in
theorem refRoute_any (P t : Nat) (xs : List EgT) (ea : Option Addr) (n c : Nat) (ss : List Int) (sa : Option Addr) (sn sc' : Nat) (cs : List Int) (ca : Option Addr) (cn cc' : Nat) (w : World) (hE : ArgE w xs ea n c) (hS : ArgP w ss sa sn sc') (hC : ArgP w cs ca cn cc') (ok : RtOk P t xs (sgN ss)) (ls : ss = lsN P (sgN ss)) (ch : ChOk P t cs) (tot : smS P (chN cs) ≤ 1000) :
    Calls Tryd.prog 11 #[.agg #[.int .i64 (P : Int), .slice ea n c], .int .i64 (t : Int), .slice sa sn sc', .slice ca cn cc'] w (RRouteOut w P t xs ss cs) := by
  obtain ⟨i0, hi0, hz⟩ := Option.map_eq_some_iff.1 info_int
  simp only [Prod.mk.injEq] at hz
  obtain ⟨hz0, hz1, hz2⟩ := hz
  have p1 := ok.gr.p1
  have p2 := ok.gr.p2
  have sq : sn = P := by rw [hS.len, ls, lsN_len]
  have cq : cn = P := by rw [hC.len]; exact ch.len
  subst sq
  obtain rfl : sn = cn := cq.symm
  obtain ⟨g0, o0, rfl, hg0, -⟩ := hS.cells 0 (by rw [← hS.len]; omega)
  obtain ⟨g1, o1, rfl, hg1, -⟩ := hC.cells 0 (by rw [← hC.len]; omega)
  obtain ⟨w1, hw1⟩ : ∃ w1, w.alloc (.cells #[.int .i64 (sn : Int), .slice ea n c] 24) = w1 := ⟨_, rfl⟩
  have HW1 := hide' hw1
  have B1 := hide' (show Below w.heap.size w w1 by rw [← hw1]; exact (Below.refl _ _).alloc (Nat.le_refl _) _)
  have R1 := hide' (show w1.heap[w.heap.size]? = some (.cells #[.int .i64 (sn : Int), .slice ea n c] 24 (0, 0)) by rw [← hw1]; exact heap_alloc_new _ _)
  have RW := hide' (fun (V : World) (h : Below w1.heap.size w1 V) => (h.block _ (ltS_of_block R1.out)).trans R1.out)
  have AL := hide' (fun (V : World) (h : Below w.heap.size w V) => refAll_any sn xs ea n c V (hE.below h) p1 p2 (by rw [hE.len]; exact ok.gr.n4) ok.gr.ok)
  have HS := hide' (fun (V : World) (h : Below w.heap.size w V) => hS.below h)
  have HC := hide' (fun (V : World) (h : Below w.heap.size w V) => hC.below h)
  have LS := hide' (show (ss.map (Value.int .i64)).length = sn * 1 by rw [List.length_map, ← hS.len]; omega)
  have LC := hide' (show (cs.map (Value.int .i64)).length = sn * 1 by rw [List.length_map, ← hC.len]; omega)
  have OK := hide' ok
  have CH := hide' ch
  have TOT := hide' tot
  have LSS := hide' ls
  have mk := mk_intR sn p2
  clear hw1 hE hS hC ok ch tot hg0 hg1 ls
  go_enter Tryd.func11, Tryd.ntmps11
  go_upto_region 1 with fail
  rw [HW1.out]
  have A1 := hide' (HS.out w1 B1.out)
  go_upto_region 4 with (at_builtin; go_loud (refine wpList_append_lies _ rfl _ _ 25 rfl w1.heap.size 3 i0 (.int .i64 0) 1 8 Tryd.underlying25 hi0 hz0 hz1 hz2 rfl (by decide) (.slice none 0 0) 0 [] rfl (World.ownsRow_nil _ _ _ _) ⟨g0, o0, none⟩ sn sc' (ss.map (Value.int .i64)) rfl LS.out (news_arg A1.out) (fun u hu => by obtain ⟨x, _, rfl⟩ := List.mem_map.1 hu; rfl) (by omega) (by unfold maxLen; omega) (by omega) (Nat.le_refl _) w1.heap.size rfl ?_; intro sb sc w2 hown2 hgr2 hat2 hlt2; go_frame))
  have B2 := hide' (show Below w1.heap.size w1 w2 from (Below.refl _ _).grown hgr2 (Nat.le_refl _) (fun k hk => by simp [Value.ownBlock] at hk))
  have O2 := hide' (show w2.ownsRow w1.heap.size 3 1 (.slice (some ⟨sb, 0, none⟩) sn sc) sn (ss.map (Value.int .i64)) by simpa using hown2)
  have F2 := hide' (B1.out.trans (B2.out.mono B1.out.size))
  have LT2 := hide' hlt2
  clear hown2 hgr2 hat2 hlt2
  rw [Nat.zero_add]
  have A2 := hide' (HC.out w2 F2.out)
  go_upto_region 5 with (at_builtin; go_loud (refine wpList_append_lies _ rfl _ _ 25 rfl w1.heap.size 3 i0 (.int .i64 0) 1 8 Tryd.underlying25 hi0 hz0 hz1 hz2 rfl (by decide) (.slice none 0 0) 0 [] rfl (World.ownsRow_nil _ _ _ _) ⟨g1, o1, none⟩ sn cc' (cs.map (Value.int .i64)) rfl LC.out (news_arg A2.out) (fun u hu => by obtain ⟨x, _, rfl⟩ := List.mem_map.1 hu; rfl) (by omega) (by unfold maxLen; omega) (by omega) (B2.out.size) w2.heap.size rfl ?_; intro cb cc w3 hown3 hgr3 hat3 hlt3; go_frame))
  have G3 := hide' (show Below w2.heap.size w2 w3 from (Below.refl _ _).grown hgr3 (Nat.le_refl _) (fun k hk => by simp [Value.ownBlock] at hk))
  have B3 := hide' (B2.out.trans (G3.out.mono B2.out.size))
  have CB := hide' (show cb = w2.heap.size by rcases hat3 with h | h; { simp [Value.ownBlock] at h }; { exact h })
  have O3 := hide' (show w3.ownsRow w1.heap.size 3 1 (.slice (some ⟨cb, 0, none⟩) sn cc) sn (cs.map (Value.int .i64)) by simpa using hown3)
  have S3 := hide' (own_next O2.out G3.out)
  have LT3 := hide' hlt3
  clear hown3 hgr3 hat3 hlt3
  rw [Nat.zero_add]
  have y0 := cell_of_row w3 _ 0 _ _ _ (RW.out w3 B3.out)
  simp at y0
  go_upto_region 6 with fail
  obtain ⟨mb, hmb⟩ : ∃ mb, w3.heap.size = mb := ⟨_, rfl⟩
  obtain ⟨w4, hw4⟩ : ∃ w4, w3.alloc (.cells (arrS sn fun _ => .int .i64 0) 3) = w4 := ⟨_, rfl⟩
  have G4 := hide' (show Below w3.heap.size w3 w4 by rw [← hw4]; exact (Below.refl _ _).alloc (Nat.le_refl _) _)
  have O4 := hide' (show w4.ownsRow w1.heap.size 3 1 (.slice (some ⟨mb, 0, none⟩) sn sn) sn ((lsN sn fun _ => 0).map (Value.int .i64)) by
    rw [← hw4, ← hmb]
    have := World.ownsRow_lit (e := 3) (size := 1) (base := w1.heap.size) w3 (arrS sn fun _ => .int .i64 0) sn B3.out.size (by unfold maxLen; omega) (by simp [arrS])
    rw [show (arrS sn fun _ => Value.int .i64 0).toList = (lsN sn fun _ => 0).map (Value.int .i64) by simp [arrS, lsN, List.map_const']] at this
    exact this)
  have LM := hide' (show mb = w3.heap.size from hmb.symm)
  have SZ4 := hide' (show mb < w4.heap.size by rw [← hw4, ← hmb]; simp)
  rw [hmb, hw4]
  clear hmb hw4 mk y0
  have B4 := hide' (B3.out.trans (G4.out.mono B3.out.size))
  have F4 := hide' (B1.out.trans (B4.out.mono B1.out.size))
  have y0 := cell_of_row w4 _ 0 _ _ _ (RW.out w4 B4.out)
  have y1 := cell_of_row w4 _ 1 _ _ _ (RW.out w4 B4.out)
  simp at y0 y1
  have AC := hide' (AL.out w4 F4.out)
  go_wp2_with fail
  refine AC.out.mono ?_
  rintro e w5 ⟨wb, cap, v, rfl, hA, b5⟩
  have ST := hide' (show RtS w5 w1 w4.heap.size sn t wb cap v xs sb sc cb cc mb (sgN ss) (chN cs) fun _ => 0 by
    have l2 := LT2.out
    have l3 := LT3.out
    have cbe := CB.out
    have mbe := LM.out
    have z2 := B2.out.size
    have z3 := G3.out.size
    have z4 := G4.out.size
    have m4 := SZ4.out
    have es : (sgR (dgF xs) (sgN ss) fun _ => 0) = sgN ss := funext fun k => by unfold sgR; rw [Nat.add_zero, OK.out.nrm]
    have o2 := own_next (own_next S3.out G4.out) b5
    have o3 := own_next (own_next O3.out G4.out) b5
    rw [LSS.out] at o2
    rw [chips_ls (xs := xs) (sg := sgN ss) CH.out] at o3
    have b1 : w1.heap.size ≤ sb := (O2.out.lt sb rfl).1
    refine ⟨⟨hA, by rw [es]; have e3 : sgN (lsN sn (sgN ss)) = sgN ss := by rw [← LSS.out]
                    exact o2, o3, by omega, by omega, by omega⟩, own_next O4.out b5, by omega, by omega, by omega, b1, by omega, by omega, B4.out.trans (b5.mono B4.out.size)⟩)
  have S0 := hide' (RSt.start (n := sn) (s := t) (wy := wyF xs) (d := dgF xs) (sg := sgN ss) (c := chN cs) CH.out.lo)
  clear hA b5 y0 y1
  go_wp2
  go_loopw [14] (fun kv wr => ∃ (k : Nat) (u : Nat → Nat), kv = .int .i64 (k : Int) ∧ k ≤ sn ∧ Hid (RSt sn t (wyF xs) (dgF xs) (sgN ss) (chN cs) k 0 u) ∧ Hid (RtS wr w1 w4.heap.size sn t wb cap v xs sb sc cb cc mb (sgN ss) (chN cs) u)) (fun kv _ => sn - (intOf kv).toNat)
  case atStart => exact ⟨0, _, rfl, by omega, S0, ST⟩
  case round =>
    obtain ⟨k, u, rfl, hk, HU, HS'⟩ := hrel
    have y0 := cell_of_row wr _ 0 _ _ _ (RW.out wr HS'.out.bl)
    simp at y0
    by_cases dk : (k : Int) < (sn : Int)
    · obtain ⟨N, hN⟩ := Int.eq_ofNat_of_zero_le (CH.out.lo k (by omega))
      have HN := hide' hN
      clear hN
      go_wp2
      obtain ⟨wo, hwo⟩ : ∃ wo : World, wo = wr := ⟨_, rfl⟩
      rw [← hwo] at HS' ⊢
      clear y0 hwo
      go_loopg [15] N (fun g av V => ∃ (i : Nat) (u2 : Nat → Nat), Hid (i + g = N) ∧ Hid (RSt sn t (wyF xs) (dgF xs) (sgN ss) (chN cs) k i u2) ∧ Hid (RtS V w1 w4.heap.size sn t wb cap v xs sb sc cb cc mb (sgN ss) (chN cs) u2))
      case atStart => exact ⟨0, u, hide' (by omega), HU, HS'⟩
      case round =>
        obtain ⟨i, u2, HI, HU2, HS2⟩ := hrel
        have x0 := own_cell HS2.out.rf.chs (show k < sn by omega)
        have LV := hide' (show lfR sn t (wyF xs) (dgF xs) (sgN ss) (chN cs) u2 k = N - i by
          by_cases e : k = t
          · have a := HN.out
            rw [e, CH.out.zs] at a
            have : lfR sn t (wyF xs) (dgF xs) (sgN ss) (chN cs) u2 k = 0 := by unfold lfR; rw [if_pos e]
            omega
          · have a := lf_at HU2.out.wk (show k < sn by omega) e
            rw [HU2.out.ch k (by omega) e, if_neg (by omega), if_pos rfl, HN.out] at a
            have := HI.out
            omega)
        rw [LV.out] at x0
        obtain ⟨l, hl⟩ : ∃ l, N - i = l := ⟨_, rfl⟩
        rw [hl] at x0
        by_cases dl : 0 < l
        · have dl2 : 0 < (l : Int) := by omega
          have kt := hide' (show k ≠ t from fun e => by
            have a := HN.out
            rw [e, CH.out.zs] at a
            omega)
          have r2 := hide' (OK.out.on HU2.out.wk.zero HU2.out.zr)
          have ck : chR sn t (wyF xs) (dgF xs) (sgN ss) (chN cs) u2 k = chN cs k - i := by rw [HU2.out.ch k (by omega) kt.out, if_neg (by omega), if_pos rfl]
          have hc := ch_nonneg HU2.out.wk (by rw [CH.out.zs]; omega)
          have cv : 1 ≤ chR sn t (wyF xs) (dgF xs) (sgN ss) (chN cs) u2 k := by rw [ck, HN.out]; omega
          obtain ⟨M, uM, hM⟩ := comes (OK.out.gr.gr OK.out.sk) OK.out.gr.wy (OK.out.gr.pos OK.out.sk) r2.out.nrm hc (show k < sn by omega) kt.out cv
          have HM := hide' hM
          have START := hide' (OnR.start (n := sn) (s := t) (v := k) (wy := wyF xs) r2.out.nrm hc)
          have STEP := hide' (fun (i x : Nat) (u' : Nat → Nat) (hx : x < sn) (xt : x ≠ t) (q : OnR sn t k (wyF xs) (dgF xs) (sgR (dgF xs) (sgN ss) u2) (chR sn t (wyF xs) (dgF xs) (sgN ss) (chN cs) u2) i x u') => q.step hc cv hx xt)
          have CAN := hide' (fun (i x : Nat) (u' : Nat → Nat) (hx : x < sn) (xt : x ≠ t) (q : OnR sn t k (wyF xs) (dgF xs) (sgR (dgF xs) (sgN ss) u2) (chR sn t (wyF xs) (dgF xs) (sgN ss) (chN cs) u2) i x u') => show 1 ≤ chR sn t (wyF xs) (dgF xs) (sgN ss) (chN cs) (fun j => u2 j + u' j) x from by rw [← ch_sg]; exact q.can hc cv hx xt)
          have BND := hide' (fun (i x : Nat) (u' : Nat → Nat) (q : OnR sn t k (wyF xs) (dgF xs) (sgR (dgF xs) (sgN ss) u2) (chR sn t (wyF xs) (dgF xs) (sgN ss) (chN cs) u2) i x u') (j : Nat) (hj : j < sn) => show lfR sn t (wyF xs) (dgF xs) (sgN ss) (chN cs) (fun j => u2 j + u' j) j ≤ 1000000 from by
            by_cases e : j = t
            · unfold lfR; rw [if_pos e]; omega
            · have a := lf_at (HU2.out.wk.then q.2.2.1) hj e
              rw [← ch_sg, q.2.2.2.1 j hj e] at a
              have b := HU2.out.ch j hj e
              have d := CH.out.hi j hj
              have f := CH.out.lo j hj
              have d2 := CH.out.hi k (by omega)
              have g : chR sn t (wyF xs) (dgF xs) (sgN ss) (chN cs) u2 j ≤ 10000 := by
                rw [b]
                split
                · omega
                · split <;> omega
              have h1 : (if j = k then (1 : Int) else 0) ≥ 0 := by split <;> omega
              have h2 : (if j = x then (1 : Int) else 0) ≤ 1 := by split <;> omega
              omega)
          have HL2 := hide' hl
          clear ck hc cv hM hl
          go_wp2
          obtain ⟨wp, hwp⟩ : ∃ wp : World, wp = wr := ⟨_, rfl⟩
          rw [← hwp] at HS2 ⊢
          clear x0 hwp
          go_loopg [15] M (fun g av V => ∃ (i' x : Nat) (u' : Nat → Nat), av = .int .i64 (x : Int) ∧ Hid (i' + g = M) ∧ Hid (x < sn) ∧ Hid (OnR sn t k (wyF xs) (dgF xs) (sgR (dgF xs) (sgN ss) u2) (chR sn t (wyF xs) (dgF xs) (sgN ss) (chN cs) u2) i' x u') ∧ Hid (RtS V w1 w4.heap.size sn t wb cap v xs sb sc cb cc mb (sgN ss) (chN cs) fun j => u2 j + u' j))
          case atStart => exact ⟨0, k, fun _ => 0, rfl, hide' (by omega), hide' (by omega), START, HS2⟩
          case round =>
            obtain ⟨i', x, u', rfl, HI', HX, HO, HR⟩ := hrel
            by_cases q : x = t
            · have e1 : ((x : Int) != (t : Int)) = false := by rw [q]; simp
              have UN := hide' (HU2.out.lead (show k < sn by omega) kt.out (m := i') (u2 := u') (by have := HO.out; rw [q] at this; exact this))
              clear q
              go_wp2
              go_roundg (N - (i + 1))
              case measure => have := HI.out; have := HL2.out; omega
              case rel =>
                have Z : Hid (i + 1 + (N - (i + 1)) = N) := hide' (by have := HI.out; have := HL2.out; omega)
                first
                  | exact ⟨i + 1, _, Z, UN, HR⟩
                  | ((repeat apply Exists.intro); exact ⟨⟨i + 1, _, Z, UN, HR⟩, rfl⟩)
            · have e1 : ((x : Int) != (t : Int)) = true := by simp; omega
              have WKN := hide' (HU2.out.wk.then HO.out.2.2.1)
              have CN := hide' (CAN.out i' x u' HX.out q HO.out)
              have LI := hide' (HO.out.before HM.out q (by have := HI'.out; omega))
              have NO := hide' (STEP.out i' x u' HX.out q HO.out)
              have DP := hide' (OK.out.gr.pos OK.out.sk x HX.out q)
              have LA := hide' (lf_at WKN.out HX.out q)
              have GC := hide' (refGoes_any wr w4.heap.size w1.heap.size sn wb cap v xs sb sc cb cc _ _ HR.out.rf t x HX.out (by unfold sgR; exact Nat.mod_lt _ DP.out) (by have := OK.out.gr.few x; omega) (by have := LA.out; have := CN.out; omega) (BND.out i' x u' HO.out) (fun i hi => OK.out.gr.wy.inn x i HX.out hi))
              have XT := hide' q
              clear q
              go_wp2_with fail
              refine GC.out.mono ?_
              rintro e w7 ⟨rfl, h7, k7⟩
              have W7 := hide' (own_KpB HR.out.wt k7 (Ne.symm HR.out.n1) (Ne.symm HR.out.n2))
              have z1 := own_cell W7.out HX.out
              have z2 := W7.out.frozenAt x
              obtain ⟨p, hp⟩ : ∃ p, u2 x + u' x = p := ⟨_, rfl⟩
              have p5 : p < 10000000000 := by rw [← hp]; exact went_few OK.out CH.out.lo (by have := TOT.out; omega) WKN.out x HX.out
              have G8 := hide' (HR.out.gone HX.out XT.out WKN.out (by have := CN.out; omega) OK.out.gr.wy.inn DP.out h7 k7)
              rw [hp] at z1 G8
              have lx : (x : Int) < (sn : Int) := by have := HX.out; omega
              have e7 : ((p + 1 : Nat) : Int) = (p : Int) + 1 := by omega
              rw [e7] at G8
              obtain ⟨w8, hw8⟩ : ∃ w8, w7.setCell ⟨mb, x, none⟩ (.int .i64 ((p : Int) + 1)) = w8 := ⟨_, rfl⟩
              rw [hw8] at G8
              have HW8 := hide' hw8
              have UP := hide' (show upR (fun j => u2 j + u' j) x = fun j => u2 j + upR u' x j from funext fun j => by unfold upR; dsimp only; split <;> omega)
              rw [UP.out] at G8
              clear h7 k7 hp e7 hw8
              go_upto_region 15 with fail
              rw [HW8.out]
              clear z1 z2 p5
              have x1 := own_cell G8.out.rf.sgs HX.out
              have x3 := G8.out.rf.al.cell HX.out
              obtain ⟨g2, q2, ev, hc2⟩ := G8.out.rf.al.at HX.out (by rw [wyO_len]; exact DP.out)
              have lo : sgR (dgF xs) (sgN ss) (fun j => u2 j + upR u' x j) x < (wyO xs x).length := by rw [wyO_len]; unfold sgR; exact Nat.mod_lt _ DP.out
              have x4 := hc2 _ lo
              rw [← at_getD lo, wyO_at] at x4
              have SG := hide' (show sgR (dgF xs) (sgR (dgF xs) (sgN ss) u2) (upR u' x) x = sgR (dgF xs) (sgN ss) (fun j => u2 j + upR u' x j) x from sg_then ..)
              rw [SG.out] at NO
              rw [ev] at x3
              obtain ⟨a, ha⟩ : ∃ a, sgR (dgF xs) (sgN ss) (fun j => u2 j + upR u' x j) x = a := ⟨_, rfl⟩
              obtain ⟨b, hb⟩ : ∃ b, (wyO xs x).length = b := ⟨_, rfl⟩
              rw [ha] at x1 x4 lo NO
              rw [hb] at x3 lo
              obtain ⟨z, hz'⟩ : ∃ z, wyF xs x a = z := ⟨_, rfl⟩
              rw [hz'] at x4 NO
              have ZN := hide' (show z < sn by
                rw [← hz']
                refine OK.out.gr.wy.inn x a HX.out ?_
                have := wyO_len xs x
                omega)
              have l2 : (a : Int) < (b : Int) := by omega
              clear ev hc2 ha hb hz' lo
              go_quiet (fail)
              obtain ⟨w9, hw9⟩ : ∃ w9, w8.drewN nq = w9 := ⟨_, rfl⟩
              have G9 := hide' (show RtS w9 w1 w4.heap.size sn t wb cap v xs sb sc cb cc mb (sgN ss) (chN cs) fun j => u2 j + upR u' x j by rw [← hw9]; exact G8.out.next ⟨rfl, rfl, rfl, Nat.le_refl _, fun _ _ => rfl⟩)
              rw [hw9]
              clear hw9 x1 x3 x4 l2
              go_wp2
              go_roundg (M - (i' + 1))
              case measure => have := HI'.out; have := LI.out; omega
              case rel =>
                have Z : Hid (i' + 1 + (M - (i' + 1)) = M) := hide' (by have := LI.out; omega)
                first
                  | exact ⟨i' + 1, z, upR u' x, rfl, Z, ZN, NO, G9⟩
                  | ((repeat apply Exists.intro); exact ⟨⟨i' + 1, z, upR u' x, rfl, Z, ZN, NO, G9⟩, rfl⟩)
        · have dl2 : ¬ 0 < (l : Int) := by omega
          have UN := hide' (HU2.out.next (fun _ => by have := HI.out; have := HN.out; omega))
          clear hl
          go_wp2
          exact ⟨⟨k + 1, u2, by go_num, by omega, UN, HS2⟩, by simp [intOf]; omega⟩
    · obtain rfl : k = sn := by omega
      have FW := hide' (B1.out.trans (HS'.out.bl.mono B1.out.size))
      go_wp2
      go_ret2
      exact ⟨FW.out, u, sb, sc, mb, rfl, HU.out.wk, HU.out.done, own_arg HS'.out.rf.sgs p2, own_arg HS'.out.wt p2⟩
end Go.Proofs.YtpppmollmiomlaaDoor

