/-
  What the last text of this claim leans on, part 12: Ke5, Kb5, Kb6.
-/
import Derived.Test.YtpajdmhgonmgoaaDoorYs10
import Derived.Test.YtpajdmhgonmgoaaDoorYs9
import Derived.Conc.WgWords
import Derived.Conc.AtomicLaws2
namespace Go.Proofs.YtpajdmhgonmgoaaDoor
open Go.RowKit
set_option linter.unusedVariables false
set_option linter.unusedSimpArgs false
/-- How often. -/
def ofX (P s : Nat) (b : Nat → Nat → Int) (k : Nat) (v : Int) : Int := if k = s then 0 else v.tdiv (smS P (b k))
theorem ofX_facts {P s k : Nat} {b : Nat → Nat → Int} {v : Int} (hv : 0 ≤ v ∧ v ≤ 100000) (hd : k ≠ s → 1 ≤ smS P (b k)) : 0 ≤ ofX P s b k v ∧ ofX P s b k v ≤ 100000 ∧ ofX P s b k v * smS P (b k) ≤ v := by
  unfold ofX
  split
  · omega
  · rename_i h
    have h1 := hd h
    obtain ⟨q1, q2, q3⟩ := div_facts hv.1 h1
    refine ⟨q1, ?_, q2⟩
    have : v.tdiv (smS P (b k)) * 1 ≤ v.tdiv (smS P (b k)) * smS P (b k) := Int.mul_le_mul_of_nonneg_left h1 q1
    omega
set_option maxRecDepth 100000 in
set_option maxHeartbeats 6400000 in
theorem oftenX_any (pb k P s : Nat) (b : Nat → Nat → Int) (v : Int) (w : World) (c1 : w.cell? ⟨pb, 1, none⟩ = some (.int .i64 (s : Int))) (c2 : w.cell? ⟨pb, 2 + k, none⟩ = some (.int .i64 (smS P (b k)))) (hk : k < 10) (hv : 0 ≤ v ∧ v ≤ 100000) (hd : k ≠ s → 1 ≤ smS P (b k)) :
    Calls Tryd.prog 27 #[.pointer (some ⟨pb, 0, none⟩), .int .i64 (k : Int), .int .i64 v] w (fun e w' => e = .returned (.int .i64 (ofX P s b k v)) ∧ w' = w) := by
  have l0 : (0 : Int) ≤ (k : Int) := by omega
  have l1 : (k : Int) < 10 := by omega
  have OF := hide' (ofX_facts hv hd)
  by_cases h : k = s
  · have e1 : ((k : Int) == (s : Int)) = true := by simp; omega
    have HH := hide' h
    clear h hv hd
    go_enter Tryd.func27, Tryd.ntmps27
    go_wp2
    go_ret
    exact ⟨by unfold ofX; rw [if_pos HH.out]; rfl, rfl⟩
  · have e1 : ((k : Int) == (s : Int)) = false := by simp; omega
    have h1 := hd h
    obtain ⟨dg, hdg⟩ : ∃ dg, smS P (b k) = dg := ⟨_, rfl⟩
    rw [hdg] at h1 c2
    have e2 : (dg == 0) = false := by simp; omega
    obtain ⟨z, hz⟩ : ∃ z, v.tdiv dg = z := ⟨_, rfl⟩
    have e3 : wrap64 z = z := by
      have := OF.out
      unfold ofX at this
      rw [if_neg h, hdg, hz] at this
      exact wrap_mid (by omega) (by omega)
    have HH := hide' (show ofX P s b k v = z by unfold ofX; rw [if_neg h, hdg, hz])
    have HZ := hide' hz
    have e4 : ¬ dg = 0 := by omega
    clear h hv hd hdg OF
    go_enter Tryd.func27, Tryd.ntmps27
    go_wp2
    go_ret
    refine ⟨?_, rfl⟩
    rw [HH.out]
    show Ending.returned (Value.int .i64 (wrap64 z)) = _
    rw [e3]
/-- Nothing can topple. -/
def stX (P s : Nat) (b : Nat → Nat → Int) (f : Nat → Int) : Prop := ∀ k, k < P → k ≠ s → f k < smS P (b k)
theorem of_pos {P s k : Nat} {b : Nat → Nat → Int} {v : Int} (hv : 0 ≤ v) (hd : k ≠ s → 1 ≤ smS P (b k)) : 0 < ofX P s b k v ↔ k ≠ s ∧ smS P (b k) ≤ v := by
  unfold ofX
  by_cases h : k = s
  · rw [if_pos h]; exact ⟨fun x => absurd x (by omega), fun x => absurd h x.1⟩
  · rw [if_neg h]
    have h1 := hd h
    obtain ⟨q1, q2, q3⟩ := div_facts hv h1
    constructor
    · intro x
      refine ⟨h, ?_⟩
      have : 1 * smS P (b k) ≤ v.tdiv (smS P (b k)) * smS P (b k) := Int.mul_le_mul_of_nonneg_right (by omega) (by omega)
      omega
    · rintro ⟨_, x⟩
      rcases Int.lt_or_le 0 (v.tdiv (smS P (b k))) with y | y
      · exact y
      · have e : v.tdiv (smS P (b k)) = 0 := by omega
        rw [e] at q3
        omega
def StabW (P s : Nat) (b : Nat → Nat → Int) (f : Nat → Int) (w : World) (e : Ending) (w' : World) : Prop := (∃ t, e = .returned (.bool t) ∧ (t = true ↔ stX P s b f)) ∧ w' = w
set_option maxRecDepth 100000 in
set_option maxHeartbeats 6400000 in
theorem stable_any (pb ca q ta P s : Nat) (b : Nat → Nat → Int) (f u : Nat → Int) (w : World) (h : PilAt w pb ca q ta P s b f u) (hP : P ≤ 10) (hd : ∀ k, k < P → k ≠ s → 1 ≤ smS P (b k)) (hf : ∀ j, j < P → 0 ≤ f j ∧ f j ≤ 100000) :
    Calls Tryd.prog 34 #[.pointer (some ⟨pb, 0, none⟩)] w (StabW P s b f w) := by
  have c0 := h.chs
  have OF := hide' (fun (k : Nat) (hk : k < P) => oftenX_any pb k P s b (f k) w (h.ground (k := 1) (by omega)) (by rw [h.ground (k := 2 + k) (by omega), gdX_d P s b (by omega)]) (by omega) (hf k hk) (hd k hk))
  have PO := hide' (fun (k : Nat) (hk : k < P) => of_pos (s := s) (b := b) (hf k hk).1 (hd k hk))
  have H := hide' h
  have HP := hide' hP
  clear h hP hd hf
  go_enter Tryd.func34, Tryd.ntmps34
  go_wp2
  go_loopw [10] (fun iv V => ∃ (i : Nat), iv = .int .i64 (i : Int) ∧ i ≤ P ∧ V = w ∧ Hid (∀ k, k < i → k ≠ s → f k < smS P (b k))) (fun iv _ => P - (intOf iv).toNat)
  case atStart => exact ⟨0, rfl, by omega, rfl, hide' fun k hk => absurd hk (Nat.not_lt_zero k)⟩
  case round =>
    obtain ⟨i, rfl, hi, rfl, KF⟩ := hrel
    by_cases d : (i : Int) < (P : Int)
    · have hin : i < P := by omega
      have l0 : (0 : Int) ≤ (i : Int) := by omega
      obtain ⟨c2, -⟩ := H.out.chip hin
      obtain ⟨x, hx⟩ : ∃ x, f i = x := ⟨_, rfl⟩
      rw [hx] at c2
      have HX := hide' hx
      have CO := hide' (by have := OF.out i hin; rw [hx] at this; exact this)
      have PI := hide' (by have := PO.out i hin; rw [hx] at this; exact this)
      clear hx
      go_wp2_with fail
      refine CO.out.mono ?_
      rintro e w2 ⟨rfl, rfl⟩
      obtain ⟨t, ht⟩ : ∃ t, ofX P s b i x = t := ⟨_, rfl⟩
      have PT := hide' (by have := PI.out; rw [ht] at this; exact this)
      rw [ht]
      clear ht c2
      by_cases g : 0 < t
      · go_wp2
        go_ret
        refine ⟨⟨false, rfl, ?_⟩, rfl⟩
        refine ⟨fun h => by simp at h, fun h => ?_⟩
        obtain ⟨g1, g2⟩ := PT.out.1 g
        have := h i hin g1
        rw [HX.out] at this
        omega
      · have NG := hide' g
        have hP10 := HP.out
        go_wp2
        exact ⟨⟨i + 1, by go_num, by omega, (by first | rfl | trivial), hide' fun k hk ks => by
          by_cases e : k = i
          · subst e
            rcases Int.lt_or_le (f k) (smS P (b k)) with y | y
            · exact y
            · rw [HX.out] at y
              exact absurd (PT.out.2 ⟨ks, y⟩) (by have := NG.out; omega)
          · exact KF.out k (by omega) ks⟩, by simp [intOf]; omega⟩
    · obtain rfl : i = P := by omega
      go_wp2
      go_ret
      exact ⟨⟨true, rfl, fun _ => KF.out, fun _ => rfl⟩, rfl⟩
end Go.Proofs.YtpajdmhgonmgoaaDoor

namespace Go.Proofs.YtpajdmhgonmgoaaDoor
open Go.RowKit
set_option linter.unusedVariables false
open Go.Conc Go.ConcN Go.RowKit Go.Conc.Lib Go.ConcR.Gen
open Go.ConcR (KK wgBlock WgAt stA smA rd wr Payload DC0)
set_option linter.unusedSimpArgs false
section
variable [Payload] {C N n s : Nat} {b : Nat → Nat → Int} {c0 u0 : Nat → Int} {K : Int} {nw L : Nat} {Shun : Loc → Prop} {t : Site} {w : World}
theorem gw_dq (e : SiteS t C N n s b c0 u0 K nw L Shun) {S : Goroutine → World → Prop} {m : Nat} {g : Goroutine} (h : Gw Tryd.prog false t.Fix (EvR C N) S m g) (w : World) : Goes t.P false t.R0 t.Dq S m g w := by
  have h1 := h w
  have h2 := e.eP
  have h3 := e.erd
  unfold Site.R0 Site.Dq
  rw [h2, h3]
  exact h1
end
theorem evix1 {a : Addr} {k : IntKind} {i : Int} {w : World} {es : Array Event} (h1 : 0 ≤ i) (h2 : i < 10) : (Instr.indexAt 55 (.pointer (some a)) (.int k i)).events Tryd.prog w es = es := events_indexAt_array _ _ _ _ _ _ Tryd.underlying55 ⟨h1, h2⟩
theorem evix2 {a : Addr} {k : IntKind} {i : Int} {w : World} {es : Array Event} (h1 : 0 ≤ i) (h2 : i < 10) : (Instr.indexAt 82 (.pointer (some a)) (.int k i)).events Tryd.prog w es = es := events_indexAt_array _ _ _ _ _ _ Tryd.underlying82 ⟨h1, h2⟩
theorem evix3 {a : Addr} {k : IntKind} {i : Int} {w : World} {es : Array Event} (h1 : 0 ≤ i) (h2 : i < 10) : (Instr.indexAt 56 (.pointer (some a)) (.int k i)).events Tryd.prog w es = es := events_indexAt_array _ _ _ _ _ _ Tryd.underlying56 ⟨h1, h2⟩
theorem wrap_fit {x : Int} (h : Fits x) : IntKind.wrap .i64 x = x := by
  unfold Fits at h
  simp [IntKind.wrap, IntKind.signed, IntKind.bits]
  split <;> omega
theorem addr_add0 (x : Addr) (h : x.spot = none) : x.add 0 = x := by
  obtain ⟨b, o, s⟩ := x
  dsimp only at h
  subst h
  rfl
set_option maxRecDepth 100000 in
set_option maxHeartbeats 1600000 in
theorem load_x [Payload] {C N n s : Nat} {b : Nat → Nat → Int} {c0 u0 : Nat → Int} {K : Int} {nw L : Nat} {Shun : Loc → Prop} {t : Site} (e : SiteS t C N n s b c0 u0 K nw L Shun) {fb : Frame} {a : Act} {k : List Item} {cs : List Frame} {ops : Array Oper} {i : Nat} {rest : List Nat} {o : Oper} {x : Operand} {ats : Array TypeId} {p : Nat}
    (ho : ops[i]? = some o) (hw : Region.wanted o (yielded ops a.tmps) = true) (hk : fb.kind ≠ .early) (hop : o.op = .call { callee := .value (.func 42), args := #[x], argTypes := ats }) (hx : a.eval x = .pointer (some (cpL C p)))
    (hn : ∀ v, (p < n ∧ p ≠ s ∧ 0 ≤ v ∧ v ≤ 100000) → ∃ M, Gw Tryd.prog false t.Fix (EvR C N) (t.AtAdds (t.plan p v)) M (G (fb.at (a.put o.dst (.int .i64 v)) (.inRegion ops rest :: k)) cs)) :
    Gw Tryd.prog false t.Fix (EvR C N) (t.AtLoad p) 20 (G (fb.at a (.inRegion ops (i :: rest) :: k)) cs) := by
  refine gw_call ho hw hk hop Tryd.func42 rfl rfl ?_
  simp only [List.map_toArray, List.map_cons, List.map_nil, hx, Tryd.f42]
  walk_nrm
  refine gw_seq ?_
  refine gw_region ?_
  try simp only [List.size_toArray, List.length_cons, List.length_nil, Nat.reduceAdd, Nat.zero_add, List.range, List.range.loop]
  refine gw_opk rfl rfl (by k_ne) (fun w hF K' hK => ?_)
  go_simp
  refine hK _ (fun e he => ?_) ?_
  · (clear hK; simp [go_sem, *, evix1, evix2, evix3] at he)
  clear hK K' hF
  clear w
  try walk_nrm
  refine gw_done ?_
  refine gw_seq ?_
  refine gw_region ?_
  try simp only [List.size_toArray, List.length_cons, List.length_nil, Nat.reduceAdd, Nat.zero_add, List.range, List.range.loop]
  refine gw_opk rfl rfl (by k_ne) (fun w hF K' hK => ?_)
  go_simp
  refine hK _ (fun e he => ?_) ?_
  · (clear hK; simp [go_sem, *, evix1, evix2, evix3] at he)
  clear hK K' hF
  clear w
  try walk_nrm
  refine gw_opk rfl rfl (by k_ne) (fun w hF K' hK => ?_)
  go_simp
  refine hK _ (fun e he => ?_) ?_
  · (clear hK; simp [go_sem, *, evix1, evix2, evix3] at he)
  clear hK K' hF
  clear w
  try walk_nrm
  refine gw_opk rfl rfl (by k_ne) (fun w hF K' hK => ?_)
  go_simp
  refine hK _ (fun e he => ?_) ?_
  · (clear hK; simp [go_sem, *, evix1, evix2, evix3] at he)
  clear hK K' hF
  clear w
  try walk_nrm
  refine Gw.stop (fun w hF => ?_)
  refine ⟨rfl, fun v hv hg => ?_⟩
  rw [e.ecp] at hv
  rw [e.egv] at hg
  obtain ⟨M, hM⟩ := hn v hg
  refine ⟨_, (by rw [e.eP, e.ecp]; exact stepG_load_atomic rfl rfl (by k_ne) rfl Tryd.func69 rfl rfl rfl .i64 rfl rfl hv), M + 10, gw_dq e ?_ w⟩
  walk_nrm
  refine gw_opk rfl rfl (by k_ne) (fun w hF K' hK => ?_)
  go_simp
  refine hK _ (fun e he => ?_) ?_
  · (clear hK; simp [go_sem, *, evix1, evix2, evix3] at he)
  clear hK K' hF
  clear w
  try walk_nrm
  refine gw_done ?_
  refine gw_ret ?_
  refine gw_leave1 rfl rfl Tryd.func42 rfl ?_
  try walk_nrm
  rw [ho]
  exact Gw.mono hM (by omega)
set_option maxRecDepth 100000 in
set_option maxHeartbeats 1600000 in
theorem add_x [Payload] {C N n s : Nat} {b : Nat → Nat → Int} {c0 u0 : Nat → Int} {K : Int} {nw L : Nat} {Shun : Loc → Prop} {t : Site} (e : SiteS t C N n s b c0 u0 K nw L Shun) {fb : Frame} {a : Act} {k : List Item} {cs : List Frame} {ops : Array Oper} {i : Nat} {rest : List Nat} {o : Oper} {x y : Operand} {ats : Array TypeId} {ad : Addr} {d : Int} {ls : List (Addr × Int)} (hat : atS C N ad)
    (ho : ops[i]? = some o) (hw : Region.wanted o (yielded ops a.tmps) = true) (hk : fb.kind ≠ .early) (hop : o.op = .call { callee := .value (.func 39), args := #[x, y], argTypes := ats }) (hx : a.eval x = .pointer (some ad)) (hy : a.eval y = .int .i64 d)
    (hn : ∀ v, ∃ M, Gw Tryd.prog false t.Fix (EvR C N) (t.AtAdds ls) M (G (fb.at (a.put o.dst (.int .i64 v)) (.inRegion ops rest :: k)) cs)) :
    Gw Tryd.prog false t.Fix (EvR C N) (t.AtAdds ((ad, d) :: ls)) 20 (G (fb.at a (.inRegion ops (i :: rest) :: k)) cs) := by
  refine gw_call ho hw hk hop Tryd.func39 rfl rfl ?_
  simp only [List.map_toArray, List.map_cons, List.map_nil, hx, hy, Tryd.f39]
  walk_nrm
  have hsp : ad.spot = none := by
    rcases hat with ⟨q, _, rfl⟩ | ⟨q, _, rfl⟩ | rfl <;> rfl
  have ha0 := addr_add0 ad hsp
  refine gw_seq ?_
  refine gw_region ?_
  try simp only [List.size_toArray, List.length_cons, List.length_nil, Nat.reduceAdd, Nat.zero_add, List.range, List.range.loop]
  refine gw_opk rfl rfl (by k_ne) (fun w hF K' hK => ?_)
  go_simp
  refine hK _ (fun e he => ?_) ?_
  · (clear hK; simp [go_sem, *, evix1, evix2, evix3] at he)
  clear hK K' hF
  clear w
  try walk_nrm
  refine gw_done ?_
  refine gw_seq ?_
  refine gw_region ?_
  try simp only [List.size_toArray, List.length_cons, List.length_nil, Nat.reduceAdd, Nat.zero_add, List.range, List.range.loop]
  refine gw_opk rfl rfl (by k_ne) (fun w hF K' hK => ?_)
  go_simp
  refine hK _ (fun e he => ?_) ?_
  · (clear hK; simp [go_sem, *, evix1, evix2, evix3] at he)
  clear hK K' hF
  clear w
  try walk_nrm
  refine gw_opk rfl rfl (by k_ne) (fun w hF K' hK => ?_)
  go_simp
  refine hK _ (fun e he => ?_) ?_
  · (clear hK; simp [go_sem, *, evix1, evix2, evix3] at he)
  clear hK K' hF
  clear w
  try walk_nrm
  refine gw_opk rfl rfl (by k_ne) (fun w hF K' hK => ?_)
  go_simp
  refine hK _ (fun e he => ?_) ?_
  · (clear hK; simp [go_sem, *, evix1, evix2, evix3] at he)
  clear hK K' hF
  clear w
  try walk_nrm
  refine gw_opk rfl rfl (by k_ne) (fun w hF K' hK => ?_)
  go_simp
  refine hK _ (fun e he => ?_) ?_
  · (clear hK; simp [go_sem, *, evix1, evix2, evix3] at he)
  clear hK K' hF
  clear w
  try walk_nrm
  refine Gw.stop (fun w hF => ?_)
  refine ⟨rfl, fun v hv hf => ?_⟩
  have hz : w.frozen? ad = false := by
    obtain ⟨_, _, h⟩ := hF.ats ad (by rw [e.eat]; exact hat)
    exact h
  have hwr : IntKind.wrap .i64 (v + d) = v + d := wrap_fit hf
  obtain ⟨M, hM⟩ := hn (v + d)
  have st := stepG_add_atomic (P := Tryd.prog) (main := false) (w := w) (b := base 39) (a := ⟨#[.pointer (some ad), .int .i64 d, undef, undef, .int .i64 0, .pointer (some ad), .pointer (some ad), .pointer (some ad), .int .i64 d, undef], []⟩) (ops := cO (cL (cR (bodyOf Tryd.f39)))) (i := 4) (rest := [5]) (kk := [.code .ret]) (cs := fb.at a (.inRegion ops (i :: rest) :: k) :: cs) rfl rfl (by k_ne) rfl Tryd.func63 rfl rfl rfl .i64 rfl (x := .tmp 7) (y := .tmp 8) rfl rfl hv hz
  rw [hwr] at st
  refine ⟨_, (by rw [e.eP]; exact st), M + 10, gw_dq e ?_ _⟩
  simp only [cO, cL, cR, bodyOf, Tryd.f39, Option.getD_some]
  walk_nrm
  refine gw_opk rfl rfl (by k_ne) (fun w hF K' hK => ?_)
  go_simp
  refine hK _ (fun e he => ?_) ?_
  · (clear hK; simp [go_sem, *, evix1, evix2, evix3] at he)
  clear hK K' hF
  clear w
  try walk_nrm
  refine gw_done ?_
  refine gw_ret ?_
  refine gw_leave1 rfl rfl Tryd.func39 rfl ?_
  try walk_nrm
  rw [ho]
  exact Gw.mono hM (by omega)
end Go.Proofs.YtpajdmhgonmgoaaDoor

namespace Go.Proofs.YtpajdmhgonmgoaaDoor
open Go.RowKit
set_option linter.unusedVariables false
open Go.Conc Go.ConcN Go.RowKit Go.Conc.Lib Go.ConcR.Gen
open Go.ConcR (KK wgBlock WgAt stA smA rd wr Payload DC0)
set_option linter.unusedSimpArgs false
theorem gd_sink (n s : Nat) (b : Nat → Nat → Int) : gdF n s b 1 = (s : Int) := rfl
theorem gd_n (n s : Nat) (b : Nat → Nat → Int) : gdF n s b 0 = (n : Int) := rfl
theorem gd_deg (n s : Nat) (b : Nat → Nat → Int) {p : Nat} (hp : p < 10) : gdF n s b (2 + p) = smS n (b p) := by
  unfold gdF
  rw [if_neg (by omega), if_neg (by omega), if_pos (by omega), show 2 + p - 2 = p by omega]
theorem gd_gv (n s : Nat) (b : Nat → Nat → Int) {p q : Nat} (hq : q < 10) : gdF n s b (12 + 10 * p + q) = gvS n s b p q := by
  unfold gdF
  rw [if_neg (by omega), if_neg (by omega), if_neg (by omega), show (12 + 10 * p + q - 12) / 10 = p by omega, show (12 + 10 * p + q - 12) % 10 = q by omega]
set_option maxRecDepth 100000 in
set_option maxHeartbeats 1600000 in
theorem often_x [Payload] {C N n s : Nat} {b : Nat → Nat → Int} {c0 u0 : Nat → Int} {K : Int} {nw L : Nat} {Shun : Loc → Prop} {t : Site} (e : SiteS t C N n s b c0 u0 K nw L Shun) {S : Goroutine → World → Prop} {M : Nat} {fb : Frame} {a : Act} {k : List Item} {cs : List Frame} {ops : Array Oper} {i : Nat} {rest : List Nat} {o : Oper} {x y z : Operand} {ats : Array TypeId} {p : Nat} {v : Int} (hp : p < n) (hn10 : n ≤ 10) (hps : p ≠ s) (hv0 : 0 ≤ v) (hv1 : v ≤ 100000) (hd : 1 ≤ smS n (b p))
    (ho : ops[i]? = some o) (hw : Region.wanted o (yielded ops a.tmps) = true) (hk : fb.kind ≠ .early) (hop : o.op = .call { callee := .value (.func 27), args := #[x, y, z], argTypes := ats }) (hx : a.eval x = .pointer (some ⟨C, 0, none⟩)) (hy : a.eval y = .int .i64 (p : Int)) (hz : a.eval z = .int .i64 v)
    (hn : Gw Tryd.prog false t.Fix (EvR C N) S M (G (fb.at (a.put o.dst (.int .i64 (v.tdiv (smS n (b p))))) (.inRegion ops rest :: k)) cs)) :
    Gw Tryd.prog false t.Fix (EvR C N) S (M + 40) (G (fb.at a (.inRegion ops (i :: rest) :: k)) cs) := by
  obtain ⟨dg, hdg⟩ : ∃ dg, smS n (b p) = dg := ⟨_, rfl⟩
  rw [hdg] at hn hd
  have hps' : ((p : Int) == (s : Int)) = false := by simp; omega
  have hwr : IntKind.wrap .i64 (v.tdiv dg) = v.tdiv dg := by
    obtain ⟨h1, h2, h3⟩ := div_facts hv0 hd
    have h4 : v.tdiv dg ≤ v := by
      have : v.tdiv dg * 1 ≤ v.tdiv dg * dg := Int.mul_le_mul_of_nonneg_left hd h1
      omega
    exact wrap_fit ⟨by omega, by omega⟩
  have hdz : ¬ dg = 0 := by omega
  have hp0 : (0 : Int) ≤ (p : Int) := by omega
  have hp1 : (p : Int) < 10 := by omega
  have k1 : ∀ w, t.Fix w → w.cell? ⟨C, 1, none⟩ = some (.int .i64 (s : Int)) := fun w hF => by rw [fix_gd e hF (by omega), gd_sink]
  have k2 : ∀ w, t.Fix w → w.cell? ⟨C, 2 + p, none⟩ = some (.int .i64 dg) := fun w hF => by rw [fix_gd e hF (by omega), gd_deg _ _ _ (by omega), hdg]
  refine gw_call ho hw hk hop Tryd.func27 rfl rfl ?_
  simp only [List.map_toArray, List.map_cons, List.map_nil, hx, hy, hz, Tryd.f27]
  walk_nrm
  refine gw_seq ?_
  refine gw_region ?_
  try simp only [List.size_toArray, List.length_cons, List.length_nil, Nat.reduceAdd, Nat.zero_add, List.range, List.range.loop]
  refine gw_opk rfl rfl (by k_ne) (fun w hF K' hK => ?_)
  go_simp
  refine hK _ (fun e he => ?_) ?_
  · (clear hK; simp [go_sem, *, evix1, evix2, evix3] at he)
  clear hK K' hF
  clear w
  try walk_nrm
  refine gw_done ?_
  refine gw_seq ?_
  refine gw_seq ?_
  refine gw_region ?_
  try simp only [List.size_toArray, List.length_cons, List.length_nil, Nat.reduceAdd, Nat.zero_add, List.range, List.range.loop]
  refine gw_opk rfl rfl (by k_ne) (fun w hF K' hK => ?_)
  go_simp
  refine hK _ (fun e he => ?_) ?_
  · (clear hK; simp [go_sem, *, evix1, evix2, evix3] at he)
  clear hK K' hF
  clear w
  try walk_nrm
  refine gw_opk rfl rfl (by k_ne) (fun w hF K' hK => ?_)
  go_simp
  refine hK _ (fun e he => ?_) ?_
  · (clear hK; simp [go_sem, *, evix1, evix2, evix3] at he)
  clear hK K' hF
  clear w
  try walk_nrm
  refine gw_opk rfl rfl (by k_ne) (fun w hF K' hK => ?_)
  go_simp
  refine hK _ (fun e he => ?_) ?_
  · (clear hK; simp [go_sem, *, evix1, evix2, evix3] at he)
  clear hK K' hF
  clear w
  try walk_nrm
  refine gw_opk rfl rfl (by k_ne) (fun w hF K' hK => ?_)
  go_simp
  refine hK _ (fun e he => ?_) ?_
  · (clear hK; simp [go_sem, *, evix1, evix2, evix3] at he)
  clear hK K' hF
  clear w
  try walk_nrm
  refine gw_opk rfl rfl (by k_ne) (fun w hF K' hK => ?_)
  have fc0 := k1 w hF
  go_simp
  refine hK _ (fun e he => ?_) ?_
  · (clear hK; simp [go_sem, *, evix1, evix2, evix3] at he; subst he; exact ⟨_, rfl, Or.inl ⟨1, by omega, rfl⟩⟩)
  clear hK K' hF
  clear fc0
  clear w
  try walk_nrm
  refine gw_opk rfl rfl (by k_ne) (fun w hF K' hK => ?_)
  go_simp
  refine hK _ (fun e he => ?_) ?_
  · (clear hK; simp [go_sem, *, evix1, evix2, evix3] at he)
  clear hK K' hF
  clear w
  try walk_nrm
  refine gw_done ?_
  refine gw_cond false rfl ?_
  simp only [if_false, Bool.false_eq_true, ↓reduceIte]
  refine gw_skip ?_
  refine gw_seq ?_
  refine gw_region ?_
  try simp only [List.size_toArray, List.length_cons, List.length_nil, Nat.reduceAdd, Nat.zero_add, List.range, List.range.loop]
  refine gw_opk rfl rfl (by k_ne) (fun w hF K' hK => ?_)
  go_simp
  refine hK _ (fun e he => ?_) ?_
  · (clear hK; simp [go_sem, *, evix1, evix2, evix3] at he)
  clear hK K' hF
  clear w
  try walk_nrm
  refine gw_opk rfl rfl (by k_ne) (fun w hF K' hK => ?_)
  go_simp
  refine hK _ (fun e he => ?_) ?_
  · (clear hK; simp [go_sem, *, evix1, evix2, evix3] at he)
  clear hK K' hF
  clear w
  try walk_nrm
  refine gw_opk rfl rfl (by k_ne) (fun w hF K' hK => ?_)
  go_simp
  refine hK _ (fun e he => ?_) ?_
  · (clear hK; simp [go_sem, *, evix1, evix2, evix3] at he)
  clear hK K' hF
  clear w
  try walk_nrm
  refine gw_opk rfl rfl (by k_ne) (fun w hF K' hK => ?_)
  go_simp
  refine hK _ (fun e he => ?_) ?_
  · (clear hK; simp [go_sem, *, evix1, evix2, evix3] at he)
  clear hK K' hF
  clear w
  try walk_nrm
  refine gw_opk rfl rfl (by k_ne) (fun w hF K' hK => ?_)
  go_simp
  refine hK _ (fun e he => ?_) ?_
  · (clear hK; simp [go_sem, *, evix1, evix2, evix3] at he)
  clear hK K' hF
  clear w
  try walk_nrm
  refine gw_opk rfl rfl (by k_ne) (fun w hF K' hK => ?_)
  go_simp
  refine hK _ (fun e he => ?_) ?_
  · (clear hK; simp [go_sem, *, evix1, evix2, evix3] at he)
  clear hK K' hF
  clear w
  try walk_nrm
  refine gw_opk rfl rfl (by k_ne) (fun w hF K' hK => ?_)
  have fc0 := k2 w hF
  go_simp
  refine hK _ (fun e he => ?_) ?_
  · (clear hK; simp [go_sem, *, evix1, evix2, evix3] at he; subst he; exact ⟨_, rfl, Or.inl ⟨2 + p, by omega, rfl⟩⟩)
  clear hK K' hF
  clear fc0
  clear w
  try walk_nrm
  refine gw_opk rfl rfl (by k_ne) (fun w hF K' hK => ?_)
  go_simp
  refine hK _ (fun e he => ?_) ?_
  · (clear hK; simp [go_sem, *, evix1, evix2, evix3] at he)
  clear hK K' hF
  clear w
  try walk_nrm
  refine gw_opk rfl rfl (by k_ne) (fun w hF K' hK => ?_)
  go_simp
  refine hK _ (fun e he => ?_) ?_
  · (clear hK; simp [go_sem, *, evix1, evix2, evix3] at he)
  clear hK K' hF
  clear w
  try walk_nrm
  refine gw_done ?_
  refine gw_ret ?_
  refine gw_leave1 rfl rfl Tryd.func27 rfl ?_
  try walk_nrm
  rw [ho]
  exact Gw.mono hn (by omega)
end Go.Proofs.YtpajdmhgonmgoaaDoor

