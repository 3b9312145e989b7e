/-
  What the last text of this claim leans on, part 26: Rr7.
-/
import Derived.Test.YtpppmollmiomlaaDoorZu25
namespace Go.Proofs.YtpppmollmiomlaaDoor
open Go.RowKit
set_option linter.unusedVariables false
set_option linter.unusedSimpArgs false
theorem rf_gone {V' : World} {A B0 P t wb cap : Nat} {v : Nat → Value} {xs : List EgT} {sb sc cb cc : Nat} {sg : Nat → Nat} {c : Nat → Int} {u : Nat → Nat} {x : Nat} (hx : x < P) (xt : x ≠ t) (wk : WkR P t (wyF xs) (dgF xs) sg c u) (h0 : chR P t (wyF xs) (dgF xs) sg c u x ≠ 0) (inn : ∀ k i, k < P → i < dgF xs k → wyF xs k i < P) (hd : 0 < dgF xs x)
    (g : RfR V' A B0 P wb cap v xs sb sc cb cc (upN (sgR (dgF xs) sg u) x ((sgR (dgF xs) sg u x + 1) % dgF xs x)) (wentC t (lfR P t (wyF xs) (dgF xs) sg c u) x (wyF xs x ((sgR (dgF xs) sg u x + 1) % dgF xs x)))) :
    RfR V' A B0 P wb cap v xs sb sc cb cc (sgR (dgF xs) sg (upR u x)) (lfR P t (wyF xs) (dgF xs) sg c (upR u x)) := by
  have e1 : (sgR (dgF xs) sg u x + 1) % dgF xs x = sgR (dgF xs) sg (upR u x) x := by
    have := congrFun (sg_up (dgF xs) sg u x) x
    unfold tnR at this
    rw [if_pos rfl] at this
    exact this
  rw [up_sg (P := P), e1] at g
  have ex : ∀ j, j < P → wentC t (lfR P t (wyF xs) (dgF xs) sg c u) x (wyF xs x (sgR (dgF xs) sg (upR u x) x)) j = lfR P t (wyF xs) (dgF xs) sg c (upR u x) j := fun j hj => by
    unfold wentC
    by_cases q : wyF xs x (sgR (dgF xs) sg (upR u x) x) = t
    · rw [if_pos q]; exact lf_sink wk hx xt h0 q j hj
    · rw [if_neg q]; exact lf_on wk hx xt h0 rfl (inn x _ hx (by unfold sgR; exact Nat.mod_lt _ hd)) q j hj
  exact ⟨g.al, g.sgs, by rw [← lsN_ext ex]; exact g.chs, g.ne, g.ls, g.lc⟩
def RWalkOut (w : World) (P t : Nat) (xs : List EgT) (ss cs os : List Int) (e : Ending) (w' : World) : Prop :=
  ∃ f : Nat, f = (walkU P t (wyF xs) (dgF xs) (sgN ss) (chN cs) os fun _ => 0).1 ∧ Below w.heap.size w w' ∧ ((¬ f = 0 ∧ e = .returned (.tuple #[.slice none 0 0, .slice none 0 0, .int .i64 (f : Int)])) ∨ (f = 0 ∧ ∃ (u : Nat → Nat) (sb sc cb cc : Nat), e = .returned (.tuple #[.slice (some ⟨sb, 0, none⟩) P sc, .slice (some ⟨cb, 0, none⟩) P cc, .int .i64 0]) ∧ u = (walkU P t (wyF xs) (dgF xs) (sgN ss) (chN cs) os fun _ => 0).2 ∧ ArgP w' (lsN P (sgR (dgF xs) (sgN ss) u)) (some ⟨sb, 0, none⟩) P sc ∧ ArgP w' (lsN P (lfR P t (wyF xs) (dgF xs) (sgN ss) (chN cs) u)) (some ⟨cb, 0, none⟩) P cc))
set_option maxRecDepth 100000 in
set_option maxHeartbeats 12800000 in
theorem refWalk_any (P t : Nat) (xs : List EgT) (ea : Option Addr) (n c : Nat) (ss : List Int) (sa : Option Addr) (sn sc' : Nat) (cs : List Int) (ca : Option Addr) (cn cc' : Nat) (os : List Int) (oa : Option Addr) (on oc : Nat) (w : World) (hE : ArgE w xs ea n c) (hS : ArgP w ss sa sn sc') (hC : ArgP w cs ca cn cc') (hOs : ArgP w os oa on oc) (ok : RtOk P t xs (sgN ss)) (ls : ss = lsN P (sgN ss)) (ch : ChOk P t cs) :
    Calls Tryd.prog 13 #[.agg #[.int .i64 (P : Int), .slice ea n c], .int .i64 (t : Int), .slice sa sn sc', .slice ca cn cc', .slice oa on oc] w (RWalkOut w P t xs ss cs os) := by
  obtain ⟨i0, hi0, hz⟩ := Option.map_eq_some_iff.1 info_int
  simp only [Prod.mk.injEq] at hz
  obtain ⟨hz0, hz1, hz2⟩ := hz
  have p1 := ok.gr.p1
  have p2 := ok.gr.p2
  have sq : sn = P := by rw [hS.len, ls, lsN_len]
  have cq : cn = P := by rw [hC.len]; exact ch.len
  subst sq
  obtain rfl : sn = cn := cq.symm
  obtain ⟨g0, o0, rfl, hg0, -⟩ := hS.cells 0 (by rw [← hS.len]; omega)
  obtain ⟨g1, o1, rfl, hg1, -⟩ := hC.cells 0 (by rw [← hC.len]; omega)
  obtain ⟨w1, hw1⟩ : ∃ w1, w.alloc (.cells #[.int .i64 (sn : Int), .slice ea n c] 24) = w1 := ⟨_, rfl⟩
  have HW1 := hide' hw1
  have B1 := hide' (show Below w.heap.size w w1 by rw [← hw1]; exact (Below.refl _ _).alloc (Nat.le_refl _) _)
  have R1 := hide' (show w1.heap[w.heap.size]? = some (.cells #[.int .i64 (sn : Int), .slice ea n c] 24 (0, 0)) by rw [← hw1]; exact heap_alloc_new _ _)
  have RW := hide' (fun (V : World) (h : Below w1.heap.size w1 V) => (h.block _ (ltS_of_block R1.out)).trans R1.out)
  have AL := hide' (fun (V : World) (h : Below w.heap.size w V) => refAll_any sn xs ea n c V (hE.below h) p1 p2 (by rw [hE.len]; exact ok.gr.n4) ok.gr.ok)
  have HS := hide' (fun (V : World) (h : Below w.heap.size w V) => hS.below h)
  have HC := hide' (fun (V : World) (h : Below w.heap.size w V) => hC.below h)
  have LS := hide' (show (ss.map (Value.int .i64)).length = sn * 1 by rw [List.length_map, ← hS.len]; omega)
  have LC := hide' (show (cs.map (Value.int .i64)).length = sn * 1 by rw [List.length_map, ← hC.len]; omega)
  have OK := hide' ok
  have CH := hide' ch
  have TOT := hide' (ch.all p2)
  have HO := hide' (fun (V : World) (h : Below w.heap.size w V) => hOs.below h)
  have OL := hide' hOs.len
  have om := hOs.max
  unfold maxLen at om
  have LSS := hide' ls
  clear hw1 hE hS hC hOs ok ch hg0 hg1 ls
  go_enter Tryd.func13, Tryd.ntmps13
  go_upto_region 1 with fail
  rw [HW1.out]
  have A1 := hide' (HS.out w1 B1.out)
  go_upto_region 4 with (at_builtin; go_loud (refine wpList_append_lies _ rfl _ _ 25 rfl w1.heap.size 3 i0 (.int .i64 0) 1 8 Tryd.underlying25 hi0 hz0 hz1 hz2 rfl (by decide) (.slice none 0 0) 0 [] rfl (World.ownsRow_nil _ _ _ _) ⟨g0, o0, none⟩ sn sc' (ss.map (Value.int .i64)) rfl LS.out (news_arg A1.out) (fun u hu => by obtain ⟨x, _, rfl⟩ := List.mem_map.1 hu; rfl) (by omega) (by unfold maxLen; omega) (by omega) (Nat.le_refl _) w1.heap.size rfl ?_; intro sb sc w2 hown2 hgr2 hat2 hlt2; go_frame))
  have B2 := hide' (show Below w1.heap.size w1 w2 from (Below.refl _ _).grown hgr2 (Nat.le_refl _) (fun k hk => by simp [Value.ownBlock] at hk))
  have O2 := hide' (show w2.ownsRow w1.heap.size 3 1 (.slice (some ⟨sb, 0, none⟩) sn sc) sn (ss.map (Value.int .i64)) by simpa using hown2)
  have F2 := hide' (B1.out.trans (B2.out.mono B1.out.size))
  have LT2 := hide' hlt2
  clear hown2 hgr2 hat2 hlt2
  rw [Nat.zero_add]
  have A2 := hide' (HC.out w2 F2.out)
  go_upto_region 5 with (at_builtin; go_loud (refine wpList_append_lies _ rfl _ _ 25 rfl w1.heap.size 3 i0 (.int .i64 0) 1 8 Tryd.underlying25 hi0 hz0 hz1 hz2 rfl (by decide) (.slice none 0 0) 0 [] rfl (World.ownsRow_nil _ _ _ _) ⟨g1, o1, none⟩ sn cc' (cs.map (Value.int .i64)) rfl LC.out (news_arg A2.out) (fun u hu => by obtain ⟨x, _, rfl⟩ := List.mem_map.1 hu; rfl) (by omega) (by unfold maxLen; omega) (by omega) (B2.out.size) w2.heap.size rfl ?_; intro cb cc w3 hown3 hgr3 hat3 hlt3; go_frame))
  have G3 := hide' (show Below w2.heap.size w2 w3 from (Below.refl _ _).grown hgr3 (Nat.le_refl _) (fun k hk => by simp [Value.ownBlock] at hk))
  have B3 := hide' (B2.out.trans (G3.out.mono B2.out.size))
  have CB := hide' (show cb = w2.heap.size by rcases hat3 with h | h; { simp [Value.ownBlock] at h }; { exact h })
  have O3 := hide' (show w3.ownsRow w1.heap.size 3 1 (.slice (some ⟨cb, 0, none⟩) sn cc) sn (cs.map (Value.int .i64)) by simpa using hown3)
  have S3 := hide' (own_next O2.out G3.out)
  have LT3 := hide' hlt3
  clear hown3 hgr3 hat3 hlt3
  rw [Nat.zero_add]
  have y0 := cell_of_row w3 _ 0 _ _ _ (RW.out w3 B3.out)
  have y1 := cell_of_row w3 _ 1 _ _ _ (RW.out w3 B3.out)
  simp at y0 y1
  have F3 := hide' (B1.out.trans (B3.out.mono B1.out.size))
  have AC := hide' (AL.out w3 F3.out)
  go_wp2_with fail
  refine AC.out.mono ?_
  rintro e w5 ⟨wb, cap, v, rfl, hA, b5⟩
  have b1 : w1.heap.size ≤ sb := (O2.out.lt sb rfl).1
  have b2 : w1.heap.size ≤ cb := (O3.out.lt cb rfl).1
  have ST := hide' (show RfR w5 w3.heap.size w1.heap.size sn wb cap v xs sb sc cb cc (sgR (dgF xs) (sgN ss) fun _ => 0) (lfR sn t (wyF xs) (dgF xs) (sgN ss) (chN cs) fun _ => 0) by
    have l2 := LT2.out
    have l3 := LT3.out
    have cbe := CB.out
    have z3 := G3.out.size
    have es : (sgR (dgF xs) (sgN ss) fun _ => 0) = sgN ss := funext fun k => by unfold sgR; rw [Nat.add_zero, OK.out.nrm]
    have o2 := own_next S3.out b5
    have o3 := own_next O3.out b5
    rw [LSS.out] at o2
    rw [chips_ls (xs := xs) (sg := sgN ss) CH.out] at o3
    exact ⟨hA, by rw [es]; exact o2, o3, by omega, by omega, by omega⟩)
  have B5 := hide' (B3.out.trans (b5.mono B3.out.size))
  have SB := hide' (And.intro b1 b2)
  have S0 := hide' (WSt.start (n := sn) (s := t) (wy := wyF xs) (d := dgF xs) (sg := sgN ss) (c := chN cs) CH.out.lo)
  clear hA b5 y0 y1 b1 b2
  go_wp2
  go_loopw [16] (fun iv wr => ∃ (i : Nat) (u : Nat → Nat), iv = .int .i64 (i : Int) ∧ i ≤ on ∧ Hid (walkU sn t (wyF xs) (dgF xs) (sgN ss) (chN cs) os (fun _ => 0) = walkU sn t (wyF xs) (dgF xs) (sgN ss) (chN cs) (os.drop i) u) ∧ Hid (WSt sn t (wyF xs) (dgF xs) (sgN ss) (chN cs) u) ∧ Hid (RfR wr w3.heap.size w1.heap.size sn wb cap v xs sb sc cb cc (sgR (dgF xs) (sgN ss) u) (lfR sn t (wyF xs) (dgF xs) (sgN ss) (chN cs) u)) ∧ Hid (Below w1.heap.size w1 wr)) (fun iv _ => on - (intOf iv).toNat)
  case atStart => exact ⟨0, _, rfl, by omega, hide' rfl, S0, ST, B5⟩
  case round =>
    obtain ⟨i, u, rfl, hi, HU, SU, KU, BU⟩ := hrel
    have FU := hide' (B1.out.trans (BU.out.mono B1.out.size))
    by_cases d : (i : Int) < (on : Int)
    · have hl : i < os.length := by have := OL.out; omega
      obtain ⟨g, off, rfl, -, c0⟩ := (HO.out wr FU.out).cells i hl
      obtain ⟨x, hx⟩ : ∃ x, os[i] = x := ⟨_, rfl⟩
      rw [hx] at c0
      have DR := hide' (show os.drop i = x :: os.drop (i + 1) by rw [← hx]; exact drop_at hl)
      have y0 := cell_of_row wr _ 0 _ _ _ (RW.out wr BU.out)
      simp at y0
      have ERR := hide' (fun (f : Nat) (h : ¬ f = 0) (q : walkU sn t (wyF xs) (dgF xs) (sgN ss) (chN cs) (os.drop i) u = (f, u)) => show RWalkOut w sn t xs ss cs os (.returned (.tuple #[.slice none 0 0, .slice none 0 0, .int .i64 (f : Int)])) wr from ⟨f, by rw [HU.out, q], FU.out, Or.inl ⟨h, rfl⟩⟩)
      clear hx
      by_cases k1 : x < 0
      · have X := hide' (ERR.out 1 (by decide) (by rw [DR.out]; exact walk_off (Or.inl k1)))
        go_wp2
        go_ret3
        exact X.out
      by_cases k2 : (sn : Int) ≤ x
      · have X := hide' (ERR.out 1 (by decide) (by rw [DR.out]; exact walk_off (Or.inr (Or.inl k2))))
        go_wp2
        go_ret3
        exact X.out
      by_cases k3 : x = (t : Int)
      · have X := hide' (ERR.out 1 (by decide) (by rw [DR.out]; exact walk_off (Or.inr (Or.inr k3))))
        have e2 : (x == (t : Int)) = true := by simpa using k3
        clear k3
        go_wp2
        go_ret3
        exact X.out
      have e2 : (x == (t : Int)) = false := by simpa using k3
      obtain ⟨k, rfl⟩ := Int.eq_ofNat_of_zero_le (show 0 ≤ x by omega)
      have KQ := hide' (show k < sn by omega)
      have KT := hide' (show k ≠ t by omega)
      have z1 := own_cell KU.out.chs KQ.out
      have LA := hide' (lf_at SU.out.wk KQ.out KT.out)
      obtain ⟨l, hl'⟩ : ∃ l, lfR sn t (wyF xs) (dgF xs) (sgN ss) (chN cs) u k = l := ⟨_, rfl⟩
      have HLK := hide' hl'
      rw [hl'] at z1 LA
      have lk : (k : Int) < (sn : Int) := by omega
      clear k1 k2 k3 hl'
      by_cases k3 : l = 0
      · have X := hide' (ERR.out 7 (by decide) (by rw [DR.out]; exact walk_none KQ.out KT.out (by rw [← LA.out, k3]; rfl)))
        have e3 : ((l : Int) == 0) = true := by rw [k3]; rfl
        clear k3
        go_wp2
        go_ret3
        exact X.out
      · have e3 : ((l : Int) == 0) = false := by simp; omega
        have NZ := hide' (show chR sn t (wyF xs) (dgF xs) (sgN ss) (chN cs) u k ≠ 0 by rw [← LA.out]; omega)
        have GO := hide' (show walkU sn t (wyF xs) (dgF xs) (sgN ss) (chN cs) os (fun _ => 0) = walkU sn t (wyF xs) (dgF xs) (sgN ss) (chN cs) (os.drop (i + 1)) (upR u k) by rw [HU.out, DR.out]; exact walk_go KQ.out KT.out NZ.out)
        have SN := hide' (SU.out.step OK.out.gr.wy.inn (OK.out.gr.pos OK.out.sk) KQ.out KT.out NZ.out)
        have DP := hide' (OK.out.gr.pos OK.out.sk k KQ.out KT.out)
        have GC := hide' (refGoes_any wr w3.heap.size w1.heap.size sn wb cap v xs sb sc cb cc _ _ KU.out t k KQ.out (by unfold sgR; exact Nat.mod_lt _ DP.out) (by have := OK.out.gr.few k; omega) (by rw [HLK.out]; omega) (fun j hj => by
          by_cases e : j = t
          · unfold lfR; rw [if_pos e]; omega
          · have a := lf_at SU.out.wk hj e
            have b := SU.out.le (by rw [CH.out.zs]; omega) hj
            have c := TOT.out
            omega) (fun i hi => OK.out.gr.wy.inn k i KQ.out hi))
        clear k3
        go_wp2_with fail
        refine GC.out.mono ?_
        rintro e w7 ⟨rfl, h7, k7⟩
        have G7 := hide' (rf_gone KQ.out KT.out SU.out.wk NZ.out OK.out.gr.wy.inn DP.out h7)
        have B7 := hide' (BU.out.trans (k7.below SB.out.1 SB.out.2 BU.out.size))
        clear h7 k7 z1 y0 c0
        go_wp2
        exact ⟨⟨i + 1, upR u k, by go_num, by omega, GO, SN, G7, B7⟩, by simp [intOf]; omega⟩
    · obtain rfl : i = on := by omega
      have EN := hide' (show walkU sn t (wyF xs) (dgF xs) (sgN ss) (chN cs) os (fun _ => 0) = (0, u) by rw [HU.out, OL.out, List.drop_length]; rfl)
      go_wp2
      go_ret3
      exact ⟨0, by rw [EN.out], FU.out, Or.inr ⟨rfl, u, sb, sc, cb, cc, rfl, by rw [EN.out], own_arg KU.out.sgs p2, own_arg KU.out.chs p2⟩⟩
end Go.Proofs.YtpppmollmiomlaaDoor

