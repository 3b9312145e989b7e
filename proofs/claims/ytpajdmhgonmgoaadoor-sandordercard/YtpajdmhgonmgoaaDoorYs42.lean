/-
  What the last text of this claim leans on, part 42: Kf5.
-/
import Derived.Test.YtpajdmhgonmgoaaDoorYs41
namespace Go.Proofs.YtpajdmhgonmgoaaDoor
open Go.RowKit
set_option linter.unusedVariables false
open Go.Conc Go.ConcN Go.RowKit Go.Conc.Lib Go.ConcR.Gen
open Go.ConcR (KK wgBlock WgAt stA smA rd wr Payload DC0)
set_option linter.unusedSimpArgs false
theorem cw_of_ga {w0 w : World} {C n s : Nat} {b : Nat → Nat → Int} {c0 : Nat → Int} (h : GaW w0 C (gdF n s b) c0 n w) (hn : n ≤ 10) (hs : c0 s = 0) : CwAt C n s b c0 (fun _ => 0) w := by
  have hcell : ∀ k, k < 132 → w.cell? ⟨C, k, none⟩ = some (gaV (gdF n s b) c0 n k) := fun k hk => by
    have := cell_of_row w C k _ _ (0, 0) h.row
    rw [arrS_get _ hk] at this
    exact this
  refine ⟨⟨_, h.row, arrS_size _ _⟩, fun j hj => ?_, fun q hq => ?_, fun q hq => ?_⟩
  · rw [hcell j (by omega)]
    unfold gaV
    rw [if_pos hj]
  · refine ⟨if q < n then c0 q else 0, ?_, fun hqn => ?_⟩
    · show w.cell? ⟨C, 112 + q, none⟩ = _
      rw [hcell (112 + q) (by omega)]
      unfold gaV
      rw [if_neg (by omega)]
      by_cases h1 : q < n
      · rw [if_pos (by omega), if_pos h1, show 112 + q - 112 = q by omega]
      · rw [if_neg (by omega), if_neg h1]
    · rw [if_pos hqn]
      unfold chS
      by_cases h2 : q = s
      · rw [if_pos h2, h2, hs]
      · rw [if_neg h2, lap_zero]; omega
  · refine ⟨0, ?_, fun _ => rfl⟩
    show w.cell? ⟨C, 122 + q, none⟩ = _
    rw [hcell (122 + q) (by omega)]
    unfold gaV
    rw [if_neg (by omega), if_neg (by omega)]
/-- What Crowd has left when it has returned. -/
def CrowdEnd (n s : Nat) (b : Nat → Nat → Int) (c0 : Nat → Int) (b₀ : Frame) (a₀ : Act) (ops₀ : Array Oper) (i₀ : Nat) (rest₀ : List Nat) (k₀ : List Item) (cs : List Frame) (w : World) (m : Machine) (t : Trace) : Prop :=
  ∃ Shun B g1 g2 w' u, Bes Tryd.prog Shun B (G (b₀.at (a₀.put ((ops₀[i₀]?).bind (·.dst)) (.tuple #[.agg #[slV g1 n, slV g2 n], Value.nilIface])) (.inRegion ops₀ rest₀ :: k₀)) cs) w' m t ∧
    PlS n s b c0 u ∧ stillS n s b c0 u ∧ w'.heap.size ≤ B ∧ w'.heap[g1]? = some (.cells (arrS n (fun k => .int .i64 (chS n s b c0 u k))) 3) ∧ w'.heap[g2]? = some (.cells (arrS n (fun k => .int .i64 (u k))) 3) ∧
    (∀ k, k < w.heap.size → w'.heap[k]? = w.heap[k]?) ∧ (∀ a, Shun (.cell a) → w.heap.size ≤ a.block ∧ a.block ≠ g1 ∧ a.block ≠ g2) ∧ w.heap.size ≤ g1 ∧ w.heap.size ≤ g2 ∧ w.heap.size ≤ w'.heap.size ∧ (∀ a, Shun (.cell a) → a.block < w'.heap.size) ∧ (w'.os = w.os ∧ w'.tape = w.tape ∧ w'.output = w.output)
set_option maxRecDepth 100000 in
set_option maxHeartbeats 6400000 in
theorem crowd_reach {n sn en ec cn cc nw : Nat} {xs : List EgT} {cl : List Int} {ea ca : Option Addr} {w : World} (GC : GoodC n sn xs cl) (hE : ArgE w xs ea en ec) (hP : ArgP w cl ca cn cc) (h1 : 1 ≤ nw) (h2 : nw ≤ 8) {b₀ : Frame} {a₀ : Act} {ops₀ : Array Oper} {i₀ : Nat} {rest₀ : List Nat} {k₀ : List Item} {cs : List Frame} :
    Reach Tryd.prog (G ((base 10).at ⟨#[.agg #[.int .i64 (n : Int), .slice ea en ec], .int .i64 (sn : Int), .slice ca cn cc, .int .i64 (nw : Int), undef, undef, undef, undef, undef, undef, undef, undef, undef, undef, undef, undef, undef, undef, undef, undef, undef, undef, undef, undef, undef, undef, undef, undef, undef, undef, undef, undef, undef, undef, undef, undef, undef], []⟩ [.code (bodyOf Tryd.f10)]) (b₀.at a₀ (.inRegion ops₀ (i₀ :: rest₀) :: k₀) :: cs)) w (CrowdEnd n sn (btX xs) (chF cl) b₀ a₀ ops₀ i₀ rest₀ k₀ cs w) := by
  obtain ⟨w0, hw0⟩ : ∃ w0, w.alloc (.cells #[.int .i64 (n : Int), .slice ea en ec] 24) = w0 := ⟨_, rfl⟩
  obtain ⟨w1, hw1⟩ : ∃ w1, w0.alloc (.cells #[.slice none 0 0, .slice none 0 0] 33) = w1 := ⟨_, rfl⟩
  obtain ⟨rb, hrb⟩ : ∃ rb, w.heap.size + 1 = rb := ⟨_, rfl⟩
  have z0 : w0.heap.size = rb := by rw [← hw0, ← hrb]; simp
  have HW0 := hide' hw0
  have HW1 := hide' hw1
  have B0 : Below w.heap.size w w0 := by rw [← hw0]; exact (Below.refl _ _).alloc (Nat.le_refl _) _
  have B1 := hide' (show Below w.heap.size w w1 by rw [← hw1]; exact B0.alloc B0.size _)
  have R0 : w0.heap[w.heap.size]? = some (.cells #[.int .i64 (n : Int), .slice ea en ec] 24 (0, 0)) := by rw [← hw0]; exact heap_alloc_new _ _
  have R1 := hide' (show w1.heap[w.heap.size]? = some (.cells #[.int .i64 (n : Int), .slice ea en ec] 24 (0, 0)) by rw [← hw1]; exact (heap_alloc_old _ _ (ltS_of_block R0)).trans R0)
  have Q1 := hide' (show w1.heap[rb]? = some (.cells #[.slice none 0 0, .slice none 0 0] 33 (0, 0)) by rw [← hw1, ← z0]; exact heap_alloc_new _ _)
  have LR := hide' (show w.heap.size < rb by omega)
  have CK := hide' (checkChips_any n xs ea en ec sn cl ca cn cc w1 (hE.below B1.out) (hP.below B1.out))
  have HE := hide' hE
  have HP := hide' hP
  have HG := hide' GC
  have NW := hide' (And.intro h1 h2)
  have HRB := hide' hrb
  clear hw0 hw1 hE hP z0 B0 R0 hrb GC
  simp only [bodyOf, Tryd.f10, Option.getD_some]
  refine reach_seq sand_mild (by k_ne) funcs10 inits10 (by decide +kernel) rfl ?_
  go_wp2
  rw [HRB.out, HW0.out, HW1.out]
  have y0 := cell_of_row w1 _ 0 _ _ _ R1.out
  have y1 := cell_of_row w1 _ 1 _ _ _ R1.out
  simp at y0 y1
  refine reach_seq sand_mild (by k_ne) funcs10 inits10 (by decide +kernel) rfl ?_
  go_wp2_with fail
  refine CK.out.mono ?_
  rintro e w2 ⟨f, hf, rfl, b2⟩
  have f0 := hf.only HG.out.is
  subst f0
  rw [show errOf 0 = .nilIface from rfl]
  have B2 := hide' (B1.out.trans (b2.mono B1.out.size))
  have R2 := hide' ((b2.block _ (ltS_of_block R1.out)).trans R1.out)
  have Q2 := hide' ((b2.block _ (ltS_of_block Q1.out)).trans Q1.out)
  clear hf b2 y0 y1
  go_wp2
  have c1 : ¬ (nw : Int) < 1 := by have := NW.out; omega
  have c2 : ¬ (8 : Int) < (nw : Int) := by have := NW.out; omega
  refine reach_seq sand_mild (by k_ne) funcs10 inits10 (by decide +kernel) rfl ?_
  go_wp2
  clear c1 c2
  refine Reach.ctl rfl stepG_seq ?_
  refine Reach.ctl rfl stepG_region ?_
  try simp only [List.size_toArray, List.length_cons, List.length_nil, Nat.reduceAdd, Nat.zero_add, List.range, List.range.loop]
  have y0 := cell_of_row w2 _ 0 _ _ _ R2.out
  have y1 := cell_of_row w2 _ 1 _ _ _ R2.out
  simp at y0 y1
  have lw2 := ltS_of_block R2.out
  refine reach_opk rfl rfl (by k_ne) (fun K hK => ?_)
  go_simp
  with_reducible refine hK _ (fun e' he => ?_) ?_
  · clear hK
    simp [go_sem, *] at he
    rcases he with rfl | rfl
    · exact ⟨lw2, fun m h => by cases h⟩
    · exact ⟨lw2, fun m h => by cases h⟩
  clear hK K
  try walk_nrm
  iterate 2
    refine reach_opk rfl rfl (by k_ne) (fun K hK => ?_)
    go_simp
    with_reducible refine hK _ (fun e' he => ?_) ?_
    · (clear hK; simp [go_sem, *] at he)
    clear hK K
    try walk_nrm
  refine reach_call rfl rfl (by k_ne) rfl Tryd.func22 rfl rfl ?_
  walk_nrmf Tryd.f22
  refine gather_reachE ?_ HG.out (HE.out.below B2.out) (HP.out.below B2.out) ?_
  · simp only [bodyOf, Tryd.f22, Option.getD_some]
  intro C wa wb hba hCw ga m t hb
  have hc := atRel_c
  have key := fun hG => bes_walk (S := fun g w' => AtRel wb w' ∧ HeadC nw C rb b₀ a₀ ops₀ i₀ rest₀ k₀ cs g) (n := 20) (F := AtRel wb) hG (atRel_refl wb) hb
  obtain ⟨N, m1, t1, g1, w3, r1, ⟨hw3, hg1⟩, hb1⟩ := key (by
    unfold HeadC
    simp only [cO, cL, cR, bodyOf, Tryd.f10, Option.getD_some]
    walk_nrm
    refine gp_opk (hc _) rfl rfl (by k_ne) (fun w hF K' hK => ?_)
    go_simp
    with_reducible refine hK _ (fun e' he => ?_) ?_
    · (clear hK; simp [go_sem, *] at he)
    clear hK K' hF
    clear w
    try walk_nrm
    refine gp_done (hc _) ?_
    refine gp_seq (hc _) ?_
    refine gp_block (hc _) ?_
    refine gp_loop (hc _) ?_
    exact Gp.stop (hc _) (fun w hF => ⟨hF, _, _, _, _, _, _, _, _, _, _, _, _, _, _, _, _, _, _, _, _, _, _, _, _, _, _, _, _, _, _, _, _, _, rfl⟩))
  obtain ⟨d, rfl⟩ := hw3
  have G0 := HG.out
  have s1 : rb < w2.heap.size := ltS_of_block Q2.out
  have s2 := hba.size
  have s3 : wb.heap.size = wa.heap.size := ga.sz
  have hCl : C < wb.heap.size := ltS_of_block ga.row
  have hRb : (wb.at d).heap[rb]? = some (.cells #[.slice none 0 0, .slice none 0 0] 33 (0, 0)) := (ga.old rb (by omega)).trans ((hba.block rb s1).trans Q2.out)
  have cw := cw_of_ga ga G0.ok.p2 G0.sink
  have cw' : CwAt C n sn (btX xs) (chF cl) (fun _ => 0) (wb.at d) := cw.on rfl
  have szd : (wb.at d).heap.size = wb.heap.size := rfl
  obtain ⟨N2, m2, t2, Shun', N1, g', w', wl, u, r2, ho⟩ := crowd_tail (C := C) (N0 := wb.heap.size) (Rb := rb) (nw := nw) G0.pile NW.out.1 (by have := NW.out.2; omega) hCl (by omega) (by omega) _ (fun _ => 0) (fun _ => False) (wb.at d) m1 t1 g1 rfl (PlS.start fun k hk => (G0.bnd k hk).1) (fun k hk => Int.le_refl 0) cw' (ShOk.none _ _ _) (Nat.le_refl _) hRb hg1 (by rw [szd, s3]; exact hb1)
  obtain ⟨ga1, ga2, w'', po, oth, hsz, hoso, rfl⟩ := ho.out
  have bg := ho.big
  have zz := LR.out
  have z2 := B2.out.size
  have ps := po.sz
  obtain ⟨p1, p2, p3⟩ := po.r1
  obtain ⟨q1, q2, q3⟩ := po.r2
  refine ⟨N + N2, m2, t2, by rw [runNT_then r1]; exact r2, Shun', N1 + 4, ga1, ga2, w', u, ho.bes, ho.pl, ho.still, by omega, (oth ga1 (by omega)).trans p3, (oth ga2 (by omega)).trans q3, fun k hk => ?_, fun a ha => ?_, by omega, by omega, by omega, fun a ha => ?_, hoso.1.trans (po.os.1.trans (ho.os.1.trans (ga.os.1.trans (hba.os.trans B2.out.os)))), hoso.2.1.trans (po.os.2.1.trans (ho.os.2.1.trans (ga.os.2.1.trans (hba.tape.trans B2.out.tape)))), hoso.2.2.trans (po.os.2.2.trans (ho.os.2.2.trans (ga.os.2.2.trans (hba.output.trans B2.out.output))))⟩
  · refine (oth k (by omega)).trans ((po.old k (by omega)).trans ((ho.old k (by omega) (by omega)).trans ?_))
    exact (ga.old k (by omega)).trans ((hba.block k (by omega)).trans (B2.out.block k hk))
  · have l1 : a.block < N1 := ho.sh.low _ ha
    rcases ho.sh.cell a ha with ⟨l2, _⟩ | l2
    · exact ⟨by omega, by omega, by omega⟩
    · exact ⟨by omega, by omega, by omega⟩
  · have l1 : a.block < N1 := ho.sh.low _ ha
    omega
end Go.Proofs.YtpajdmhgonmgoaaDoor

