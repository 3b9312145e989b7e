/-
  What the last text of this claim leans on, part 32: Kd6, Kdd0, Kdd.
-/
import Derived.Test.YtpajdmhgonmgoaaDoorYs26
import Derived.Test.YtpajdmhgonmgoaaDoorYs31
import Derived.Test.YtpajdmhgonmgoaaDoorYs16
import Derived.Test.YtpajdmhgonmgoaaDoorYs29
namespace Go.Proofs.YtpajdmhgonmgoaaDoor
open Go.RowKit
set_option linter.unusedVariables false
open Go.Conc Go.ConcN Go.RowKit
open Go.ConcR (KK wgBlock WgAt stA smA rd wr Payload DC0)
set_option linter.unusedSimpArgs false
theorem Gw.weakF {P : Program} {main : Bool} {F F' : World → Prop} {E : Event → Prop} {S : Goroutine → World → Prop} (hF : ∀ w, F' w → F w) : ∀ (n : Nat) (g : Goroutine), Gw P main F E S n g → Gw P main F' E S n g := by
  intro n
  induction n with
  | zero => exact fun g h w w₁ h₁ => h w w₁ (hF _ h₁)
  | succ n ih =>
    intro g h w
    rcases h w with h1 | ⟨hs, h1⟩
    · exact Or.inl fun w₁ h₁ => h1 w₁ (hF _ h₁)
    · refine Or.inr ⟨hs, fun w₁ h₁ => ?_⟩
      obtain ⟨g₁, w₂, es, hgo, hd, hg⟩ := goes_elim (h1 _ (hF _ h₁))
      rw [hgo]
      exact ⟨hd, ih g₁ (fun w₃ => goes_any (X := F) hg) _⟩
theorem gw_and {P : Program} {main : Bool} {F : World → Prop} {E : Event → Prop} {S : Goroutine → World → Prop} : ∀ {n : Nat} {g : Goroutine}, Gw P main F E S n g → Gw P main F E (fun g w => S g w ∧ F w) n g := by
  intro n
  induction n with
  | zero => exact fun {g} h w w₁ h₁ => ⟨h w w₁ h₁, h₁⟩
  | succ n ih =>
    intro g h w
    rcases h w with h1 | ⟨hs, h1⟩
    · exact Or.inl fun w₁ h₁ => ⟨h1 w₁ h₁, h₁⟩
    · refine Or.inr ⟨hs, fun w₁ h₁ => ?_⟩
      obtain ⟨g₁, w₂, es, hgo, hd, hg⟩ := goes_elim (h1 _ h₁)
      rw [hgo]
      exact ⟨hd, ih (fun w₃ => goes_any (X := F) hg) _⟩
/-- What nobody may touch but atomically behind a round. -/
def ShR (Shun : Loc → Prop) (C N : Nat) : Loc → Prop := fun l => Shun l ∨ (∃ a, l = .cell a ∧ (atS C N a ∨ a.block = N + 4)) ∨ l = .obj (N + 1)
theorem its_nodup (n s : Nat) : (itS n s).Nodup := List.Nodup.sublist List.filter_sublist List.nodup_range
theorem its_all (n s : Nat) : ∀ p, p < n → p ≠ s → p ∈ itS n s := fun p hp ps => List.mem_filter.2 ⟨List.mem_range.2 hp, by simpa using ps⟩
theorem its_len (n s : Nat) : (itS n s).length ≤ n := Nat.le_trans (List.length_filter_le _ _) (by simp)
/-- The goroutine that is about to do a round. -/
def IsRoundG (C nw : Nat) (cs : List Frame) (g : Goroutine) : Prop := g = G ((base 23).at ⟨#[.pointer (some ⟨C, 0, none⟩), .int .i64 (nw : Int), undef, undef, undef, undef, undef, undef, undef, undef, undef, undef, undef, undef, undef, undef, undef, undef, undef, undef, undef, undef, undef, undef, undef, undef, undef, undef, undef, undef, undef, undef, undef, undef, undef, undef, undef, undef], []⟩ [.code (bodyOf Tryd.f23)]) cs
theorem round_run {C n s nw : Nat} {b : Nat → Nat → Int} {c0 u0 : Nat → Int} {K : Int} {Shun : Loc → Prop} {w : World} {m : Machine} {t : Trace} {b₀ : Frame} {a₀ : Act} {ops₀ : Array Oper} {i₀ : Nat} {rest₀ : List Nat} {k₀ : List Item} {cs : List Frame}
    (P : Pile n s b c0 u0 (itS n s) K) (pl : PlS n s b c0 u0) (hn1 : 1 ≤ nw) (hn2 : nw < 1000) (hcw : CwAt C n s b c0 u0 w) (hS : ∀ l, Shun l → l.low w.heap.size) (hG : ∀ j, j < 112 → ¬ Shun (.cell ⟨C, j, none⟩))
    {g : Goroutine} (hg : IsRoundG C nw (b₀.at a₀ (.inRegion ops₀ (i₀ :: rest₀) :: k₀) :: cs) g) (hB : Bes Tryd.prog Shun w.heap.size g w m t) :
    ∃ N m' t' w' u v, runNT Tryd.prog N m t = (.next m', t') ∧ Bes Tryd.prog (ShR Shun C w.heap.size) (w.heap.size + 5) (G (b₀.at (a₀.put ((ops₀[i₀]?).bind (·.dst)) (.bool (decide (0 < v)))) (.inRegion ops₀ rest₀ :: k₀)) cs) w' m' t' ∧
      KeepR C w.heap.size w w' ∧ CwAt C n s b c0 u w' ∧ PlS n s b c0 u ∧ (∀ q, q < n → u0 q ≤ u q) ∧ v = smS n u - smS n u0 ∧ (v = 0 → stillS n s b c0 u) := by
  unfold IsRoundG at hg
  subst hg
  letI : Payload := ⟨84⟩
  obtain ⟨N, hN⟩ : ∃ N, w.heap.size = N := ⟨_, rfl⟩
  rw [hN] at hS hB ⊢
  have hC : C < N := by rw [← hN]; exact hcw.lt
  have hSN : ∀ a, N ≤ a.block → ¬ Shun (.cell a) := fun a ha hs => by
    have h : a.block < N := hS _ hs
    omega
  have hn10 := P.n10
  obtain ⟨N1, m1, t1, g1, w1, r1, ⟨hw1, x1, x3, x8, x9, x12, x13, x14, x15, x16, x17, x18, x19, x20, x21, x22, x23, x24, x25, x26, x27, x28, x29, x30, x31, x32, x33, x34, x35, x36, x37, rfl⟩, hb1⟩ := bes_walk (enter_x (nw := nw) (Shun := Shun) hN hC hSN) (atRel_refl w) (hB.mono (B' := N + 4) (by omega))
  obtain ⟨gs, sl, q, rfl, h0, hL, hP⟩ := hb1
  obtain ⟨st, e, z, ek⟩ := site_is C N n s b c0 u0 K nw gs.size Shun (b₀.at a₀ (.inRegion ops₀ (i₀ :: rest₀) :: k₀) :: cs) w
  have hL0 : 0 < gs.size := (Array.getElem?_eq_some_iff.1 h0).1
  have ok : st.Ok := site_ok e z P hC hL0 hn1 hn2 (fun a ha => by
    rcases ha with ⟨j, hj, rfl⟩ | rfl | rfl
    · exact hG j hj
    · exact hSN _ (Nat.le_refl _)
    · exact hSN _ (by simp only []; omega)) (fun w2 w3 k1 k2 k3 k4 k5 k6 => by
    rw [ek] at k6 ⊢
    obtain ⟨q1, q2, q3, q4, q5⟩ := k6
    exact ⟨k1.trans q1, k2.trans q2, k3.trans q3, k4.trans q4, fun k hk hkc => (k5 k (by omega) (by omega) hkc (by omega)).trans (q5 k hk hkc)⟩)
  have hF : st.Fix w1 := fix_start rfl e ek hN hn10 hcw hw1
  obtain ⟨M, hM⟩ := spawn_x e z hn10 hn2 nw 0 (by omega) x1 x3 x8 x9 x12 x13 x14 x15 x16 x17 x18 x19 x20 x21 x22 x23 x24 x25 x26 x27 x28 x29 x30 x31 x32 x33 x34 x35 x36 x37
  have hsp := spawns_of e (by omega) hM w1
  obtain ⟨f, hf⟩ : ∃ f : Addr → Int, ∀ a x, w1.cell? a = some (.int .i64 x) → f a = x := ⟨fun a => match w1.cell? a with | some (.int _ x) => x | _ => 0, fun a x h => by simp only [h]⟩
  have hv : ∀ a, st.IsAt a → w1.cell? a = some (.int .i64 (f a)) := fun a ha => by
    obtain ⟨x, hx, _⟩ := hF.ats a ha
    rw [hf a x hx]; exact hx
  have hw1h : ∀ k : Nat, w1.heap[k]? = (roundW C w).heap[k]? := by
    obtain ⟨d, rfl⟩ := hw1
    exact fun _ => rfl
  have hcw1 : CwAt C n s b c0 u0 w1 := hcw.on (by rw [hw1h]; exact roundW_old (by omega))
  have hgi : st.GI f [] st.items (fun _ => (none, [])) := by
    rw [e.eGI, e.eit]
    refine gi_start P pl (its_nodup n s) (its_all n s) (fun p hp => ?_) (fun p hp => ?_) ?_
    · obtain ⟨x, hx, hy⟩ := hcw1.cp p (by omega)
      rw [hf _ x hx]; exact hy hp
    · obtain ⟨x, hx, hy⟩ := hcw1.tp p (by omega)
      rw [hf _ x hx]; exact hy hp
    · refine hf _ 0 ?_
      have b3 : w1.heap[N + 3]? = some togO := by rw [hw1h, ← hN]; exact roundW_tog
      exact cell_of_row _ (N + 3) 0 _ _ (0, 0) b3
  have ePs : ∀ {p : Program}, st.P = p → p = st.P := fun h => h.symm
  obtain ⟨N2, m2, t2, r2, hD⟩ := crew_run ok (by rw [e.en]; exact hn1) (Shun := Shun) (B := N + 4) (by rw [e.esh]; exact fun l hl => Or.inl hl) (by rw [e.eB]; omega) (by rw [e.eWg]; exact Nat.le_refl _) h0 (by rw [e.eP]; exact hL) hP e.eL (by rw [e.en]; exact hsp) hF hv
    (by rw [e.ech, e.eca]; exact ⟨0, 0, by rw [hw1h, ← hN]; exact roundW_chn⟩) hgi (by rw [e.eit, e.eca]; exact Nat.le_trans (its_len n s) hn10) (by rw [e.ety, e.eWg]; show w1.heap[N + 4]? = _; rw [hw1h, ← hN]; exact roundW_grp)
  rw [e.eP] at r2
  obtain ⟨gs2, w2, sl2, a2, q2, f2, rfl, _, h02, _, hfin, hlv, hpast, hfix, hvals, hgi2, _⟩ := hD
  rw [e.eP] at hlv
  rw [e.eB] at hpast
  have hSh : st.Sh = ShR Shun C N := e.esh
  rw [hSh] at hpast
  rw [z.efi] at hfin
  rw [e.eGI] at hgi2
  obtain ⟨u, u1, u2, u3, u4, u5, u6⟩ := gi_end (its_all n s) hgi2
  have hb2 : Bes Tryd.prog (ShR Shun C N) (N + 5) a2 w2 (crowd gs2 w2 sl2) t2 := ⟨gs2, sl2, q2, rfl, h02, hlv, hpast⟩
  obtain ⟨mf, hmf⟩ := hfin
  obtain ⟨N3, m3, t3, g3, w3, r3, ⟨⟨fr, hfr, rfl⟩, hw3⟩, hb3⟩ := bes_walk (S := fun g w => (∃ fr, IsRdE N fr ∧ g = G fr (b₀.at a₀ (.inRegion ops₀ (i₀ :: rest₀) :: k₀) :: cs)) ∧ AtRel w2 w) (F := AtRel w2) (gp_of_gw (atRel_c w2) (fun _ h => h.elim) mf a2 (gw_and (Gw.weakF (fun _ _ => trivial) mf a2 hmf))) (atRel_refl w2) hb2
  have hv3 : w3.cell? ⟨N + 3, 0, none⟩ = some (.int .i64 (f2 (tgL (N + 3)))) := by
    obtain ⟨d, rfl⟩ := hw3
    exact hvals (tgL (N + 3)) (by rw [e.eat]; exact Or.inr (Or.inr rfl))
  obtain ⟨N4, m4, t4, g4, w4, r4, ⟨hw4, rfl⟩, hb4⟩ := bes_walk (end_x (Shun := ShR Shun C N) (B := N + 5) hfr hv3 (by omega)) (atRel_refl w3) hb3
  obtain ⟨d, hd⟩ : AtRel w2 w4 := atRel_trans _ _ _ hw3 hw4
  refine ⟨N1 + (N2 + (N3 + N4)), m4, t4, w4, u, f2 (tgL (N + 3)), ?_, hb4, ?_, ?_, u1, u2, u5, u6⟩
  · rw [runNT_then r1, runNT_then r2, runNT_then r3]; exact r4
  · have := hfix.keep
    rw [ek] at this
    rw [hd]; exact this
  · rw [hd]
    have hp := hfix.pay
    rw [e.ecB, e.ecs] at hp
    refine ⟨hp, fun j hj => fix_gd e hfix hj, fun p hp => ⟨f2 (cpL C p), hvals _ (by rw [e.eat]; exact Or.inl ⟨p, hp, rfl⟩), fun h => u3 p h⟩, fun p hp => ⟨f2 (tpL C p), hvals _ (by rw [e.eat]; exact Or.inr (Or.inl ⟨p, hp, rfl⟩)), fun h => u4 p h⟩⟩
end Go.Proofs.YtpajdmhgonmgoaaDoor

namespace Go.Proofs.YtpajdmhgonmgoaaDoor
open Go.RowKit
set_option linter.unusedVariables false
open Go.Conc Go.RowKit
set_option linter.unusedSimpArgs false
theorem gp_then {P : Program} {E : Event → Prop} {S S' : Goroutine → World → Prop} {m : Nat} {F : World → Prop} : ∀ {n : Nat} {g : Goroutine}, Gp P E S n g F → (∀ g w, S g w → Gp P E S' m g (AtRel w)) → Gp P E S' (n + m) g F := by
  intro n
  induction n generalizing F with
  | zero =>
    intro g h h2 w hw
    have h3 : ∀ w₁, AtRel w w₁ → S g w₁ := h w hw
    rw [Nat.zero_add]
    exact h2 g w (h3 w (atRel_refl w)) w (atRel_refl w)
  | succ n ih =>
    intro g h h2 w hw
    rcases h w hw with h1 | ⟨hs, h1⟩
    · exact (h2 g w (h1 w (atRel_refl w)) w (atRel_refl w)).mono (by omega)
    · rw [show n + 1 + m = (n + m) + 1 by omega]
      refine Or.inr ⟨hs, fun w₁ h₁ => ?_⟩
      obtain ⟨g₁, w₂, es, hgo, hd, hg⟩ := goes_elim (h1 _ h₁)
      rw [hgo]
      refine ⟨hd, ?_⟩
      have hG : Gp P E S n g₁ (AtRel w₂) := fun w₃ h₃ => Goes.rely atRel_trans hg h₃
      exact ih hG h2 w₂ (atRel_refl w₂)
end Go.Proofs.YtpajdmhgonmgoaaDoor

namespace Go.Proofs.YtpajdmhgonmgoaaDoor
open Go.RowKit
set_option linter.unusedVariables false
open Go.Conc Go.ConcN Go.RowKit Go.Conc.Lib Go.ConcR.Gen
open Go.ConcR (KK wgBlock WgAt stA smA rd wr Payload DC0)
set_option linter.unusedSimpArgs false
/-- Crowd stands at its loop's head. -/
def HeadC (nw C Rb : Nat) (b₀ : Frame) (a₀ : Act) (ops₀ : Array Oper) (i₀ : Nat) (rest₀ : List Nat) (k₀ : List Item) (cs : List Frame) (g : Goroutine) : Prop := ∃ x0 x1 x2 x4 x5 x6 x7 x10 x12 x13 x14 x15 x16 x17 x18 x19 x20 x21 x22 x23 x24 x25 x26 x27 x28 x29 x30 x31 x32 x33 x34 x35 x36 : Value, g = G ((base 10).at ⟨#[x0, x1, x2, (.int .i64 (nw : Int)), x4, x5, x6, x7, (Value.pointer (some ⟨Rb, 0, none⟩)), Value.nilIface, x10, (Value.pointer (some ⟨C, 0, none⟩)), x12, x13, x14, x15, x16, x17, x18, x19, x20, x21, x22, x23, x24, x25, x26, x27, x28, x29, x30, x31, x32, x33, x34, x35, x36], []⟩ [.code (cL (cL (cL (cR (cR (cR (cR (bodyOf Tryd.f10)))))))), .inLoop (cL (cL (cL (cR (cR (cR (cR (bodyOf Tryd.f10)))))))), .inBlock 0, .code (cR (cR (cR (cR (cR (bodyOf Tryd.f10))))))]) (b₀.at a₀ (.inRegion ops₀ (i₀ :: rest₀) :: k₀) :: cs)
/-- Crowd has a round done. -/
def CallC (nw C Rb : Nat) (b₀ : Frame) (a₀ : Act) (ops₀ : Array Oper) (i₀ : Nat) (rest₀ : List Nat) (k₀ : List Item) (cs : List Frame) (a : Act) : Prop := ∃ x0 x1 x2 x4 x5 x6 x7 x10 x12 x13 x14 x15 x16 x17 x18 x19 x20 x21 x22 x23 x24 x25 x26 x27 x28 x29 x30 x31 x34 x35 x36 : Value, a = ⟨#[x0, x1, x2, (.int .i64 (nw : Int)), x4, x5, x6, x7, (Value.pointer (some ⟨Rb, 0, none⟩)), Value.nilIface, x10, (Value.pointer (some ⟨C, 0, none⟩)), x12, x13, x14, x15, x16, x17, x18, x19, x20, x21, x22, x23, x24, x25, x26, x27, x28, x29, x30, x31, (Value.pointer (some ⟨C, 0, none⟩)), (.int .i64 (nw : Int)), x34, x35, x36], []⟩
set_option maxRecDepth 100000 in
set_option maxHeartbeats 3200000 in
/-- From the head into a round. -/
theorem head_x {Shun : Loc → Prop} {B nw C Rb : Nat} {b₀ : Frame} {a₀ : Act} {ops₀ : Array Oper} {i₀ : Nat} {rest₀ : List Nat} {k₀ : List Item} {cs : List Frame} {g : Goroutine} (hg : HeadC nw C Rb b₀ a₀ ops₀ i₀ rest₀ k₀ cs g) (w0 : World) :
    Gp Tryd.prog (EvL Shun B) (fun g w => AtRel w0 w ∧ ∃ a, CallC nw C Rb b₀ a₀ ops₀ i₀ rest₀ k₀ cs a ∧ IsRoundG C nw ((base 10).at a (.inRegion (cO (cL (cL (cL (cL (cL (cR (cR (cR (cR (bodyOf Tryd.f10))))))))))) (2 :: []) :: [.code (cR (cL (cL (cL (cL (cR (cR (cR (cR (bodyOf Tryd.f10)))))))))), .code (cR (cL (cL (cL (cR (cR (cR (cR (bodyOf Tryd.f10))))))))), .inLoop (cL (cL (cL (cR (cR (cR (cR (bodyOf Tryd.f10)))))))), .inBlock 0, .code (cR (cR (cR (cR (cR (bodyOf Tryd.f10))))))]) :: (b₀.at a₀ (.inRegion ops₀ (i₀ :: rest₀) :: k₀) :: cs)) g) 20 g (AtRel w0) := by
  have hc := atRel_c
  obtain ⟨x0, x1, x2, x4, x5, x6, x7, x10, x12, x13, x14, x15, x16, x17, x18, x19, x20, x21, x22, x23, x24, x25, x26, x27, x28, x29, x30, x31, x32, x33, x34, x35, x36, rfl⟩ := hg
  unfold IsRoundG
  simp only [cO, cL, cR, bodyOf, Tryd.f10, Option.getD_some]
  refine gp_seq (hc _) ?_
  refine gp_seq (hc _) ?_
  refine gp_region (hc _) ?_
  try simp only [List.size_toArray, List.length_cons, List.length_nil, Nat.reduceAdd, Nat.zero_add, List.range, List.range.loop]
  refine gp_opk (hc _) rfl rfl (by k_ne) (fun w hF K' hK => ?_)
  go_simp
  with_reducible refine hK _ (fun e' he => ?_) ?_
  · (clear hK; simp [go_sem, *] at he)
  clear hK K' hF
  clear w
  try walk_nrm
  refine gp_opk (hc _) rfl rfl (by k_ne) (fun w hF K' hK => ?_)
  go_simp
  with_reducible refine hK _ (fun e' he => ?_) ?_
  · (clear hK; simp [go_sem, *] at he)
  clear hK K' hF
  clear w
  try walk_nrm

  refine gp_call (hc _) rfl rfl (by k_ne) rfl Tryd.func23 rfl rfl ?_
  walk_nrmf Tryd.f23
  refine Gp.stop (hc _) (fun w hF => ⟨hF, _, ?_, rfl⟩)
  exact ⟨_, _, _, _, _, _, _, _, _, _, _, _, _, _, _, _, _, _, _, _, _, _, _, _, _, _, _, _, _, _, _, rfl⟩
set_option maxRecDepth 100000 in
set_option maxHeartbeats 3200000 in
/-- A round that toppled some: back to the head. -/
theorem again_x {Shun : Loc → Prop} {B nw C Rb : Nat} {b₀ : Frame} {a₀ : Act} {ops₀ : Array Oper} {i₀ : Nat} {rest₀ : List Nat} {k₀ : List Item} {cs : List Frame} {a : Act} (ha : CallC nw C Rb b₀ a₀ ops₀ i₀ rest₀ k₀ cs a) (w0 : World) :
    Gp Tryd.prog (EvL Shun B) (fun g w => AtRel w0 w ∧ HeadC nw C Rb b₀ a₀ ops₀ i₀ rest₀ k₀ cs g) 20 (G ((base 10).at (a.put ((((cO (cL (cL (cL (cL (cL (cR (cR (cR (cR (bodyOf Tryd.f10))))))))))) : Array Oper)[2]?).bind (·.dst)) (.bool true)) (.inRegion (cO (cL (cL (cL (cL (cL (cR (cR (cR (cR (bodyOf Tryd.f10))))))))))) [] :: [.code (cR (cL (cL (cL (cL (cR (cR (cR (cR (bodyOf Tryd.f10)))))))))), .code (cR (cL (cL (cL (cR (cR (cR (cR (bodyOf Tryd.f10))))))))), .inLoop (cL (cL (cL (cR (cR (cR (cR (bodyOf Tryd.f10)))))))), .inBlock 0, .code (cR (cR (cR (cR (cR (bodyOf Tryd.f10))))))])) (b₀.at a₀ (.inRegion ops₀ (i₀ :: rest₀) :: k₀) :: cs)) (AtRel w0) := by
  have hc := atRel_c
  obtain ⟨x0, x1, x2, x4, x5, x6, x7, x10, x12, x13, x14, x15, x16, x17, x18, x19, x20, x21, x22, x23, x24, x25, x26, x27, x28, x29, x30, x31, x34, x35, x36, rfl⟩ := ha
  unfold HeadC
  simp only [cO, cL, cR, bodyOf, Tryd.f10, Option.getD_some]
  walk_nrm
  refine gp_done (hc _) ?_
  refine gp_cond (hc _) true ?_ ?_
  · (first | rfl | (simp [Act.eval, *]; done))
  simp only [if_true, ↓reduceIte]
  refine gp_skip (hc _) ?_
  refine gp_block (hc _) ?_
  refine gp_skip (hc _) ?_
  refine gp_inBlock (hc _) ?_
  refine gp_inLoop (hc _) ?_
  exact Gp.stop (hc _) (fun w hF => ⟨hF, _, _, _, _, _, _, _, _, _, _, _, _, _, _, _, _, _, _, _, _, _, _, _, _, _, _, _, _, _, _, _, _, _, rfl⟩)
theorem crowd_res (w : World) (T : Array Value) (g : Nat) (x y : Value) (hp : T.getD 8 undef = .pointer (some ⟨g, 0, none⟩)) (h9 : T.getD 9 undef = Value.nilIface) (hg : w.heap[g]? = some (.cells #[x, y] 33 (0, 0))) : (results Tryd.f10 T).run Tryd.prog w = .ok (.tuple #[.agg #[x, y], Value.nilIface]) w ∧ (results Tryd.f10 T).events Tryd.prog w #[] = #[⟨.cell ⟨g, 0, none⟩, false, false⟩, ⟨.cell ⟨g, 1, none⟩, false, false⟩] := by
  obtain ⟨k1, k2, _, _, k5⟩ := set2 (x := x) (y := y) hg
  have hp' : T[8]?.getD undef = .pointer (some ⟨g, 0, none⟩) := by simpa using hp
  have h9' : T[9]?.getD undef = Value.nilIface := by simpa using h9
  constructor
  · simp [results, Tryd.f10, hp', h9', asAddr, go_sem, loadCells, k1, k5, Addr.add]
  · simp [results, Tryd.f10, hp', h9', asAddr, go_sem, loadCells, k1, k5, Addr.add]
/-- What Crowd leaves. -/
def CrAt (Rb : Nat) (w0 : World) (N n : Nat) (f1 f2 : Nat → Int) (b₀ : Frame) (a₀ : Act) (ops₀ : Array Oper) (i₀ : Nat) (rest₀ : List Nat) (k₀ : List Item) (cs : List Frame) (g : Goroutine) (w : World) : Prop :=
  ∃ g1 g2 w', PiOut w0 N n f1 f2 g1 g2 w' ∧ (∀ k, k ≠ Rb → w.heap[k]? = w'.heap[k]?) ∧ w.heap.size = w'.heap.size ∧ (w.os = w'.os ∧ w.tape = w'.tape ∧ w.output = w'.output) ∧ g = G (b₀.at (a₀.put ((ops₀[i₀]?).bind (·.dst)) (.tuple #[.agg #[slV g1 n, slV g2 n], Value.nilIface])) (.inRegion ops₀ rest₀ :: k₀)) cs
set_option maxRecDepth 100000 in
set_option maxHeartbeats 6400000 in
/-- A round that toppled none: Crowd tells what lies there. -/
theorem last_x {Shun : Loc → Prop} {N n nw C Rb : Nat} {f1 f2 : Nat → Int} {b₀ : Frame} {a₀ : Act} {ops₀ : Array Oper} {i₀ : Nat} {rest₀ : List Nat} {k₀ : List Item} {cs : List Frame} {a : Act} (ha : CallC nw C Rb b₀ a₀ ops₀ i₀ rest₀ k₀ cs a) {w0 : World} {x' y' : Value}
    (hC : C < N) (hn10 : n ≤ 10) (hS : ∀ a, N ≤ a.block → ¬ Shun (.cell a)) (hx1 : ∀ q, q < n → w0.cell? ⟨C, 112 + q, none⟩ = some (.int .i64 (f1 q))) (hx2 : ∀ q, q < n → w0.cell? ⟨C, 122 + q, none⟩ = some (.int .i64 (f2 q))) (hN : w0.heap.size = N) (hSC : ¬ Shun (.cell ⟨C, 0, none⟩)) (hx : w0.cell? ⟨C, 0, none⟩ = some (.int .i64 (n : Int)))
    (hR : w0.heap[Rb]? = some (.cells #[x', y'] 33 (0, 0))) (hRN : Rb < N) (hSR : ∀ a : Addr, a.block = Rb → ¬ Shun (.cell a)) :
    ∃ M, Gp Tryd.prog (EvL Shun (N + 4)) (CrAt Rb w0 N n f1 f2 b₀ a₀ ops₀ i₀ rest₀ k₀ cs) M (G ((base 10).at (a.put ((((cO (cL (cL (cL (cL (cL (cR (cR (cR (cR (bodyOf Tryd.f10))))))))))) : Array Oper)[2]?).bind (·.dst)) (.bool false)) (.inRegion (cO (cL (cL (cL (cL (cL (cR (cR (cR (cR (bodyOf Tryd.f10))))))))))) [] :: [.code (cR (cL (cL (cL (cL (cR (cR (cR (cR (bodyOf Tryd.f10)))))))))), .code (cR (cL (cL (cL (cR (cR (cR (cR (bodyOf Tryd.f10))))))))), .inLoop (cL (cL (cL (cR (cR (cR (cR (bodyOf Tryd.f10)))))))), .inBlock 0, .code (cR (cR (cR (cR (cR (bodyOf Tryd.f10))))))])) (b₀.at a₀ (.inRegion ops₀ (i₀ :: rest₀) :: k₀) :: cs)) (AtRel w0) := by
  have hc := atRel_c
  obtain ⟨x0, x1, x2, x4, x5, x6, x7, x10, x12, x13, x14, x15, x16, x17, x18, x19, x20, x21, x22, x23, x24, x25, x26, x27, x28, x29, x30, x31, x34, x35, x36, rfl⟩ := ha
  have pl := piled_x (b₀ := base 10) (a₀ := ⟨#[x0, x1, x2, (.int .i64 (nw : Int)), x4, x5, x6, x7, (Value.pointer (some ⟨Rb, 0, none⟩)), Value.nilIface, x10, (Value.pointer (some ⟨C, 0, none⟩)), x12, x13, x14, x15, x16, x17, x18, x19, x20, x21, x22, x23, x24, x25, x26, x27, x28, x29, x30, x31, (Value.pointer (some ⟨C, 0, none⟩)), (.int .i64 (nw : Int)), .bool false, (Value.pointer (some ⟨C, 0, none⟩)), x36], []⟩) (ops₀ := (cO (cL (cR (cR (cR (cR (cR (bodyOf Tryd.f10))))))))) (i₀ := 1) (rest₀ := [2, 3]) (k₀ := [.code (cR (cR (cR (cR (cR (cR (bodyOf Tryd.f10)))))))]) (cs := (b₀.at a₀ (.inRegion ops₀ (i₀ :: rest₀) :: k₀) :: cs)) hC hn10 hS hx1 hx2 hN hSC hx
  have tail : ∀ g w, PiAt w0 N n f1 f2 (base 10) ⟨#[x0, x1, x2, (.int .i64 (nw : Int)), x4, x5, x6, x7, (Value.pointer (some ⟨Rb, 0, none⟩)), Value.nilIface, x10, (Value.pointer (some ⟨C, 0, none⟩)), x12, x13, x14, x15, x16, x17, x18, x19, x20, x21, x22, x23, x24, x25, x26, x27, x28, x29, x30, x31, (Value.pointer (some ⟨C, 0, none⟩)), (.int .i64 (nw : Int)), .bool false, (Value.pointer (some ⟨C, 0, none⟩)), x36], []⟩ (cO (cL (cR (cR (cR (cR (cR (bodyOf Tryd.f10)))))))) 1 [2, 3] [.code (cR (cR (cR (cR (cR (cR (bodyOf Tryd.f10)))))))] (b₀.at a₀ (.inRegion ops₀ (i₀ :: rest₀) :: k₀) :: cs) g w → Gp Tryd.prog (EvL Shun (N + 4)) (CrAt Rb w0 N n f1 f2 b₀ a₀ ops₀ i₀ rest₀ k₀ cs) 20 g (AtRel w) := by
    rintro g w1 ⟨g1, g2, po, rfl⟩
    have hR1 : w1.heap[Rb]? = some (.cells #[x', y'] 33 (0, 0)) := (po.old Rb hRN).trans hR
    simp only [cO, cL, cR, bodyOf, Tryd.f10, Option.getD_some]
    walk_nrm
    obtain ⟨w2, hw2⟩ : ∃ w2, w2 = (w1.setCell ⟨Rb, 0, none⟩ (slV g1 n)).setCell ⟨Rb, 1, none⟩ (slV g2 n) := ⟨_, rfl⟩
    refine gp_valw (F' := AtRel w2) (hc _) rfl rfl (by k_ne) undef (fun w hF => ?_) ?_
    · obtain ⟨d, rfl⟩ := hF
      refine ⟨w2.at d, Or.inr ⟨?_, rfl⟩, fun e he => ?_, ⟨d, rfl⟩⟩
      · rw [(st_run (w := w1.at d) (g := Rb) (a1 := some ⟨g1, 0, none⟩) (n1 := n) (m1 := n) (a2 := some ⟨g2, 0, none⟩) (n2 := n) (m2 := n) hR1 (by simp) (by simp [slV]) rfl).1, hw2]
        rfl
      · rw [(st_run (w := w1.at d) (g := Rb) (a1 := some ⟨g1, 0, none⟩) (n1 := n) (m1 := n) (a2 := some ⟨g2, 0, none⟩) (n2 := n) (m2 := n) hR1 (by simp) (by simp [slV]) rfl).2] at he
        exact mem_two he (evL_cell _ _ (hSR _ rfl) (by show Rb < N + 4; omega)) (evL_cell _ _ (hSR _ rfl) (by show Rb < N + 4; omega))
    walk_nrm
    refine gp_opk (hc _) rfl rfl (by k_ne) (fun w hF K' hK => ?_)
    go_simp
    with_reducible refine hK _ (fun e' he => ?_) ?_
    · (clear hK; simp [go_sem, *] at he)
    clear hK K' hF
    clear w
    try walk_nrm
    refine gp_done (hc _) ?_

    have r2 : w2.heap[Rb]? = some (.cells #[slV g1 n, slV g2 n] 33 (0, 0)) := by
      rw [hw2]
      have k1 := heap_setCell_same w1 Rb 0 _ _ (slV g1 n) hR1
      exact heap_setCell_same _ Rb 1 _ _ (slV g2 n) k1
    have oth : ∀ k, k ≠ Rb → w2.heap[k]? = w1.heap[k]? := fun k hk => by rw [hw2, hSet _ _ _ _ hk, hSet _ _ _ _ hk]
    refine gp_ret (hc _) ?_
    refine gp_leaveR (hc _) (v := .tuple #[.agg #[slV g1 n, slV g2 n], Value.nilIface]) rfl rfl Tryd.func10 (fun w hF => ?_) ?_
    · obtain ⟨d, rfl⟩ := hF
      refine ⟨(crowd_res (w2.at d) _ Rb (slV g1 n) (slV g2 n) (by simp) (by simp) r2).1, fun e he => ?_⟩
      exact mem_two (Eq.mp (congrArg (fun x => e ∈ x) (crowd_res (w2.at d) _ Rb (slV g1 n) (slV g2 n) (by simp) (by simp) r2).2) he) (evL_cell _ _ (hSR _ rfl) (by show Rb < N + 4; omega)) (evL_cell _ _ (hSR _ rfl) (by show Rb < N + 4; omega))
    refine Gp.stop (hc _) (fun w hF => ⟨g1, g2, w1, po, ?_, ?_, ?_, rfl⟩)
    · obtain ⟨d, rfl⟩ := hF
      exact oth
    · obtain ⟨d, rfl⟩ := hF
      show w2.heap.size = _
      rw [hw2]; simp
    · obtain ⟨d, rfl⟩ := hF
      rw [hw2]; exact ⟨rfl, rfl, rfl⟩
  have both := gp_then pl tail
  refine ⟨700 * n + 700, ?_⟩
  simp only [cO, cL, cR, bodyOf, Tryd.f10, Option.getD_some] at both ⊢
  walk_nrm
  refine gp_done (hc _) ?_
  refine gp_cond (hc _) false ?_ ?_
  · (first | rfl | (simp [Act.eval, *]; done))
  simp only [if_false, Bool.false_eq_true, ↓reduceIte]
  refine gp_exit (hc _) rfl ?_
  refine gp_seq (hc _) ?_
  refine gp_region (hc _) ?_
  try simp only [List.size_toArray, List.length_cons, List.length_nil, Nat.reduceAdd, Nat.zero_add, List.range, List.range.loop]
  refine gp_opk (hc _) rfl rfl (by k_ne) (fun w hF K' hK => ?_)
  go_simp
  with_reducible refine hK _ (fun e' he => ?_) ?_
  · (clear hK; simp [go_sem, *] at he)
  clear hK K' hF
  clear w
  try walk_nrm

  refine gp_call (hc _) rfl rfl (by k_ne) rfl Tryd.func24 rfl rfl ?_
  walk_nrmf Tryd.f24
  simp only [Tryd.f24, Option.getD_some] at both
  exact Gp.mono both (by omega)
end Go.Proofs.YtpajdmhgonmgoaaDoor

