/-
  What the last text of this claim leans on, part 5: Ca7, Ca8, Ca9.
-/
import Derived.Test.YtcfoeadfhkojeaaGreatDoorZm4
import Derived.Laws.IdiomCopy
import Derived.Lib.SliceRun
namespace Go.Proofs.YtcfoeadfhkojeaaGreatDoor
open Go.RowKit
set_option linter.unusedVariables false
/-- The error that tells an end, as it lies. -/
def EndT (w : World) (eb : Addr) : Prop := w.cell? ⟨3, 0, none⟩ = some (.iface 158 (.pointer (some eb)))
theorem EndT.lt {w : World} {eb : Addr} (h : EndT w eb) : 3 < w.heap.size := by
  unfold EndT at h
  rcases Nat.lt_or_ge 3 w.heap.size with q | q
  · exact q
  · simp [World.cell?, Array.getElem?_eq_none q] at h
theorem EndT.below {w w' : World} {eb : Addr} {B : Nat} (h : EndT w eb) (hb : Below B w w') (hB : 3 < B) : EndT w' eb := by
  unfold EndT at h ⊢
  rw [hb.cell (p := ⟨3, 0, none⟩) hB]; exact h
theorem goM_halt {xs : List InsT} {f k : Nat} {s : MaS} (h : (lnM xs s.2).1 = 3) : goM xs f s k = (s, k, 0) := by cases f <;> simp [goM, h]
theorem goM_long {xs : List InsT} {k : Nat} {s : MaS} (h : ¬ (lnM xs s.2).1 = 3) : goM xs 0 s k = (s, k, 6) := by simp [goM, h]
theorem goM_full {xs : List InsT} {f k : Nat} {s : MaS} (h : ¬ (lnM xs s.2).1 = 3) (hf : fullM xs s = true) : goM xs (f + 1) s k = (s, k, 4) := by simp [goM, h, hf]
theorem goM_next {xs : List InsT} {f k : Nat} {s : MaS} (h : ¬ (lnM xs s.2).1 = 3) (hf : fullM xs s = false) : goM xs (f + 1) s k = goM xs f (nextM xs s) (k + 1) := by simp [goM, h, hf]
/-- What goOn answers. -/
def WentM (R : MaS × Nat × Nat) (mb B : Nat) (sl : Value) (w : World) (e : Ending) (w' : World) : Prop :=
  Below B w w' ∧ ((R.2.2 = 0 ∧ e = .returned (.tuple #[.int .i64 (R.2.1 : Int), .nilIface]) ∧ MaB w' mb sl R.1.1 R.1.2) ∨ (R.2.2 ≠ 0 ∧ e = .returned (.tuple #[.int .i64 0, .iface 73 (.int .i64 (R.2.2 : Int))])))
set_option maxRecDepth 100000 in
set_option maxHeartbeats 6400000 in
theorem goOnM_any (xs : List InsT) (a : Option Addr) (n c : Nat) (mb fuel B : Nat) (s : MaS) (eb : Addr) (w : World) (hm : MaB w mb (.slice a n c) s.1 s.2) (hB : B ≤ mb) (hBw : B ≤ w.heap.size)
    (hP : ∀ V, Below B w V → ArgI V xs a n c) (hE : ∀ V, Below B w V → EndT V eb) (hc : codeE xs = 0) (hok : OkM xs s) (hf : fuel ≤ 100000) :
    Calls Tryz.prog 15 #[.int .i64 (fuel : Int), .func (.func 16) #[.pointer (some ⟨mb, 0, none⟩)] #[]] w (WentM (goM xs fuel s 0) mb B (.slice a n c) w) := by
  obtain ⟨R, hR⟩ : ∃ R, goM xs fuel s 0 = R := ⟨_, rfl⟩
  rw [hR]
  have HS := hide' (show ∃ s', goM xs (fuel - 0) s' 0 = R ∧ OkM xs s' ∧ MaB w mb (.slice a n c) s'.1 s'.2 from ⟨s, hR, hok, hm⟩)
  have HP := hide' hP
  have HE := hide' hE
  have HC := hide' hc
  have HB := hide' hB
  have HW := hide' hBw
  have IS := hide' (fun V => is_same eb V)
  have IN := hide' (fun V => is_nil eb V)
  have IE := hide' (fun m V => is_errno m eb V)
  clear hm hP hE hc hR hok hB hBw s
  go_enter Tryz.func15, Tryz.ntmps15
  go_wp2
  go_loopw [6] (fun kv wr => ∃ k : Nat, kv = .int .i64 (k : Int) ∧ k ≤ fuel ∧ Hid (Below B w wr) ∧ Hid (∃ s', goM xs (fuel - k) s' k = R ∧ OkM xs s' ∧ MaB wr mb (.slice a n c) s'.1 s'.2)) (fun kv _ => fuel - (intOf kv).toNat)
  case atStart => exact ⟨0, rfl, by omega, hide' (Below.refl _ _), HS⟩
  case round =>
    obtain ⟨k, rfl, hk, BW, HSk⟩ := hrel
    obtain ⟨s, gs, ok, ms⟩ := HSk.out
    have AI := HP.out wr BW.out
    have ET := HE.out wr BW.out
    obtain ⟨_, _, hx⟩ := code_at HC.out
    have hi := ins_parts (hx s.2 ok.2)
    rw [← ln_at ok.2] at hi
    by_cases h3 : (lnM xs s.2).1 = 3
    · have ST := hide' (step_halt xs a n c mb s eb wr ms AI ok.2 h3 ET ET.lt)
      rw [goM_halt h3] at gs
      have EV := hide' (fun V (hb : Below wr.heap.size wr V) => ET.below hb ET.lt)
      have FIN := hide' (show ∀ V, Below wr.heap.size wr V → WentM R mb B (.slice a n c) w (.returned (.tuple #[.int .i64 (k : Int), .nilIface])) V from fun V hb => by
        rw [← gs]
        exact ⟨BW.out.trans (hb.mono (Nat.le_trans HW.out BW.out.size)), Or.inl ⟨rfl, rfl, ms.below hb ms.lt⟩⟩)
      clear gs ms AI ET hx hi h3 HSk ok
      go_wp2_with fail
      refine ST.out.mono ?_
      rintro e w1 ⟨rfl, b1⟩
      have E1 : w1.cell? ⟨3, 0, none⟩ = some (.iface 158 (.pointer (some eb))) := EV.out w1 b1
      go_wp2_with (go_at_call 31; refine (IS.out _).mono ?_; rintro e w2 ⟨rfl, rfl⟩)
      go_ret2
      exact FIN.out _ b1
    · have hi' : (lnM xs s.2).1 = 1 ∨ (lnM xs s.2).1 = 2 := by rcases hi with h | h | h; exact Or.inl h.1; exact Or.inr h.1; exact absurd h.1 h3
      have ha : 0 ≤ (lnM xs s.2).2.1 ∧ (lnM xs s.2).2.1 < 4 ∧ 0 ≤ (lnM xs s.2).2.2.1 ∧ 0 ≤ (lnM xs s.2).2.2.2 := by rcases hi with h | h | h <;> omega
      cases hfu : fullM xs s
      · have NX : (k ≠ fuel ∧ goM xs (fuel - (k + 1)) (nextM xs s) (k + 1) = R) ∨ (k = fuel ∧ (s, k, 6) = R) := by
          by_cases kf : k = fuel
          · right; subst kf; rw [Nat.sub_self, goM_long h3] at gs; exact ⟨rfl, gs⟩
          · left; rw [show fuel - k = (fuel - (k + 1)) + 1 by omega, goM_next h3 hfu] at gs; exact ⟨kf, gs⟩
        have NO := hide' (next_ok HC.out ok h3 hfu)
        have ST := hide' (show Calls Tryz.prog 16 #[.pointer (some ⟨mb, 0, none⟩)] wr fun x w' => x = .returned .nilIface ∧ MaB w' mb (.slice a n c) (nextM xs s).1 (nextM xs s).2 ∧ Below B wr w' from by
          rcases hi' with h1 | h2
          · refine step_inc xs a n c mb s B wr ms AI ok.2 h1 ⟨ha.1, ha.2.1⟩ ha.2.2.1 (fun q => ?_) ok.1 HB.out
            unfold fullM at hfu
            rw [h1, q] at hfu
            simp at hfu
          · exact step_dec xs a n c mb s B wr ms AI ok.2 h2 ⟨ha.1, ha.2.1⟩ ⟨ha.2.2.1, ha.2.2.2⟩ ok.1 HB.out)
        have EV := hide' (fun V (hb : Below B wr V) => HE.out V (BW.out.trans hb))
        have N' := hide' NX
        obtain ⟨s1, hs1⟩ : ∃ s1, nextM xs s = s1 := ⟨_, rfl⟩
        rw [hs1] at ST NO N'
        clear NX gs ms AI ET hx hi hi' ha h3 hfu HSk ok hs1
        by_cases kf : (k : Int) = (fuel : Int)
        · have FIN := hide' (show ∀ V, Below B wr V → WentM R mb B (.slice a n c) w (.returned (.tuple #[.int .i64 0, .iface 73 (.int .i64 6)])) V from fun V hb => by
            rcases N'.out with ⟨h, -⟩ | ⟨-, h⟩
            · exact absurd (Int.ofNat.inj kf) h
            · rw [← h]
              exact ⟨BW.out.trans hb, Or.inr ⟨by simp, rfl⟩⟩)
          go_wp2_with fail
          refine ST.out.mono ?_
          rintro e w1 ⟨rfl, m1, b1⟩
          have E1 : w1.cell? ⟨3, 0, none⟩ = some (.iface 158 (.pointer (some eb))) := EV.out w1 b1
          go_wp2_with (go_at_call 31; refine (IN.out _).mono ?_; rintro e w2 ⟨rfl, rfl⟩)
          go_ret2
          exact FIN.out _ b1
        · have kf' : ¬ (fuel : Int) = (k : Int) := fun q => kf q.symm
          have kn : k ≠ fuel := fun q => kf (by rw [q])
          have NG := hide' (show goM xs (fuel - (k + 1)) s1 (k + 1) = R from by rcases N'.out with ⟨-, h⟩ | ⟨h, -⟩; exact h; exact absurd h kn)
          have k1 : k + 1 ≤ fuel := by omega
          clear kn
          go_wp2_with fail
          refine ST.out.mono ?_
          rintro e w1 ⟨rfl, m1, b1⟩
          have E1 : w1.cell? ⟨3, 0, none⟩ = some (.iface 158 (.pointer (some eb))) := EV.out w1 b1
          have M1 := hide' m1
          clear m1
          go_wp2_with (go_at_call 31; refine (IN.out _).mono ?_; rintro e w2 ⟨rfl, rfl⟩)
          exact ⟨⟨k + 1, by go_num, k1, hide' (BW.out.trans b1), hide' ⟨s1, NG.out, NO.out, M1.out⟩⟩, by simp [intOf]; omega⟩
      · have h1 : (lnM xs s.2).1 = 1 := by unfold fullM at hfu; simp at hfu; exact hfu.1
        have hf2 : s.1 (lnM xs s.2).2.1.toNat = 1000000 := by unfold fullM at hfu; simp at hfu; exact hfu.2
        have ST := hide' (step_full xs a n c mb s wr ms AI ok.2 h1 ⟨ha.1, ha.2.1⟩ hf2)
        have NX := hide' (show (k = fuel ∧ (s, k, 6) = R) ∨ (k ≠ fuel ∧ (s, k, 4) = R) from by
          by_cases kf : k = fuel
          · left; subst kf; rw [Nat.sub_self, goM_long h3] at gs; exact ⟨rfl, gs⟩
          · right; rw [show fuel - k = (fuel - (k + 1)) + 1 by omega, goM_full h3 hfu] at gs; exact ⟨kf, gs⟩)
        have EV := hide' (fun V (hb : Below wr.heap.size wr V) => ET.below hb ET.lt)
        have BV := hide' (fun V (hb : Below wr.heap.size wr V) => BW.out.trans (hb.mono (Nat.le_trans HW.out BW.out.size)))
        clear gs ms AI ET hx hi hi' ha h3 hfu HSk ok h1 hf2
        by_cases kf : (k : Int) = (fuel : Int)
        · have FIN := hide' (show ∀ V, Below wr.heap.size wr V → WentM R mb B (.slice a n c) w (.returned (.tuple #[.int .i64 0, .iface 73 (.int .i64 6)])) V from fun V hb => by
            rcases NX.out with ⟨-, h⟩ | ⟨h, -⟩
            · rw [← h]
              exact ⟨BV.out V hb, Or.inr ⟨by simp, rfl⟩⟩
            · exact absurd (Int.ofNat.inj kf) h)
          go_wp2_with fail
          refine ST.out.mono ?_
          rintro e w1 ⟨rfl, b1⟩
          have E1 : w1.cell? ⟨3, 0, none⟩ = some (.iface 158 (.pointer (some eb))) := EV.out w1 b1
          go_wp2_with (go_at_call 31; refine (IE.out _ _).mono ?_; rintro e w2 ⟨rfl, rfl⟩)
          go_ret2
          exact FIN.out _ b1
        · have kf' : ¬ (fuel : Int) = (k : Int) := fun q => kf q.symm
          have FIN := hide' (show ∀ V, Below wr.heap.size wr V → WentM R mb B (.slice a n c) w (.returned (.tuple #[.int .i64 0, .iface 73 (.int .i64 4)])) V from fun V hb => by
            rcases NX.out with ⟨h, -⟩ | ⟨-, h⟩
            · exact absurd (by rw [h]) kf
            · rw [← h]
              exact ⟨BV.out V hb, Or.inr ⟨by simp, rfl⟩⟩)
          go_wp2_with fail
          refine ST.out.mono ?_
          rintro e w1 ⟨rfl, b1⟩
          have E1 : w1.cell? ⟨3, 0, none⟩ = some (.iface 158 (.pointer (some eb))) := EV.out w1 b1
          go_wp2_with (go_at_call 31; refine (IE.out _ _).mono ?_; rintro e w2 ⟨rfl, rfl⟩)
          go_ret2
          exact FIN.out _ b1
end Go.Proofs.YtcfoeadfhkojeaaGreatDoor

namespace Go.Proofs.YtcfoeadfhkojeaaGreatDoor
open Go.RowKit
set_option linter.unusedVariables false
theorem info_intC : (Tryz.prog.info? 3).map (fun i => (i.zero, i.size, i.bytes)) = some (some (.int .i64 0), 1, 8) := by kernel_rfl
theorem own_argP {w : World} {base : Nat} {v : Value} {xs : List Int} (h : w.ownsRow base 3 1 v xs.length (xs.map (Value.int .i64))) (h0 : v ≠ .slice none 0 0) : ∃ g q, v = .slice (some ⟨g, 0, none⟩) xs.length q ∧ ArgP w xs (some ⟨g, 0, none⟩) xs.length q ∧ base ≤ g := by
  rcases h.2 with ⟨e, -⟩ | ⟨g, cap, cur, rfl, hb, hg, hn, hm, hs, ht⟩
  · exact absurd e h0
  · refine ⟨g, cap, rfl, ⟨rfl, Nat.le_trans hn hm, fun k hk => ⟨g, 0, rfl, lt_of_block hg, ?_⟩⟩, hb⟩
    have e1 := congrArg (fun l => l[k]?) ht
    simp only [Nat.mul_one] at e1
    rw [List.getElem?_take_of_lt hk, Array.getElem?_toList] at e1
    rw [Nat.zero_add, cell_of_row w _ k _ _ _ hg, e1]
    simp [hk]
set_option maxRecDepth 100000 in
set_option maxHeartbeats 3200000 in
theorem clone4_any (mb : Nat) (a b c d : Int) (w : World) (h0 : w.cell? ⟨mb, 1, none⟩ = some (.int .i64 a)) (h1 : w.cell? ⟨mb, 2, none⟩ = some (.int .i64 b)) (h2 : w.cell? ⟨mb, 3, none⟩ = some (.int .i64 c)) (h3 : w.cell? ⟨mb, 4, none⟩ = some (.int .i64 d)) (lt : mb < w.heap.size) :
    Calls Tryz.prog 17 #[.slice (some ⟨mb, 1, none⟩) 4 4] w fun e w' => ∃ g q, e = .returned (.slice (some ⟨g, 0, none⟩) 4 q) ∧ ArgP w' [a, b, c, d] (some ⟨g, 0, none⟩) 4 q ∧ Below w.heap.size w w' ∧ w.heap.size ≤ g := by
  obtain ⟨i0, hi0, hz⟩ := Option.map_eq_some_iff.1 info_intC
  simp only [Prod.mk.injEq] at hz
  obtain ⟨hz0, hz1, hz2⟩ := hz
  have q22 : ∀ (w : World) (a : Option Addr) (n c n' c' : Nat), (binOp .eql 23 (.slice a n c) (.slice none n' c')).run Tryz.prog w = .ok (.bool a.isNone) w := fun w a n c n' c' => Lib.run_eql_slice_nil w _ _ a n c n' c' Tryz.underlying23
  have NW := hide' (show ∀ j u, [Value.int .i64 a, .int .i64 b, .int .i64 c, .int .i64 d][j]? = some u → ∀ ob, (w.alloc ob).cell? ((⟨mb, 1, none⟩ : Addr).add j) = some u from fun j u hj ob => by
    have hl : j < 4 := by
      rcases Nat.lt_or_ge j 4 with h | h
      · exact h
      · rw [List.getElem?_eq_none (by simpa using h)] at hj; cases hj
    rw [World.cell?_alloc_lt _ _ _ (by unfold Addr.add; split <;> exact lt)]
    rcases (show j = 0 ∨ j = 1 ∨ j = 2 ∨ j = 3 by omega) with rfl | rfl | rfl | rfl
    · exact h0.trans hj
    · exact h1.trans hj
    · exact h2.trans hj
    · exact h3.trans hj)
  clear h0 h1 h2 h3
  go_enter Tryz.func17, Tryz.ntmps17
  go_wp2_with (at_builtin; refine wpList_append_own _ rfl _ _ 23 rfl w.heap.size 3 i0 (.int .i64 0) 1 8 Tryz.underlying23 hi0 hz0 hz1 hz2 rfl (by decide) _ _ _ rfl (World.ownsRow_made w #[] 0 (Nat.le_refl _) (Nat.zero_le _) rfl) ⟨mb, 1, none⟩ 4 4 [Value.int .i64 a, .int .i64 b, .int .i64 c, .int .i64 d] rfl rfl (fun j u hj => NW.out j u hj _) (fun u hu => by simp at hu; rcases hu with rfl | rfl | rfl | rfl <;> rfl) (by unfold maxLen; omega) (by omega) (by simp) ?_)
  intro v' w1 hown hgrow hnil
  go_wp2
  go_ret
  obtain ⟨g, q, rfl, h1, h2⟩ := own_argP (xs := [a, b, c, d]) (base := w.heap.size) (by simpa using hown) hnil
  exact ⟨g, q, rfl, h1, ((Below.refl _ w).alloc (Nat.le_refl _) _).grown hgrow (by simp) (by intro k hk; simp [Value.ownBlock] at hk; omega), h2⟩
end Go.Proofs.YtcfoeadfhkojeaaGreatDoor

namespace Go.Proofs.YtcfoeadfhkojeaaGreatDoor
open Go.RowKit
set_option linter.unusedVariables false
def begM (cs : List Int) : MaS := (fun k => cs.getD k 0, 0)
def fourM (c : Nat → Int) : List Int := [c 0, c 1, c 2, c 3]
/-- What a run comes to: counters, how many lines, the line that halts, what is wrong. -/
def cntA (xs : List InsT) (cs : List Int) (f : Int) : List Int × Nat × Nat × Nat :=
  if runE xs cs f ≠ 0 then ([], 0, 0, runE xs cs f)
  else if (goM xs f.toNat (begM cs) 0).2.2 = 0 then (fourM (goM xs f.toNat (begM cs) 0).1.1, (goM xs f.toNat (begM cs) 0).2.1, (goM xs f.toNat (begM cs) 0).1.2, 0)
  else ([], 0, 0, (goM xs f.toNat (begM cs) 0).2.2)
def RanC (A : List Int × Nat × Nat × Nat) (w : World) (e : Ending) (w' : World) : Prop :=
  ∃ a q, e = .returned (.tuple #[.slice a A.1.length q, .int .i64 (A.2.1 : Int), errOf A.2.2.2]) ∧ ArgP w' A.1 a A.1.length q ∧ Below w.heap.size w w'
theorem argP_nil (w : World) (a : Option Addr) (c : Nat) : ArgP w [] a 0 c := ⟨rfl, by unfold maxLen; omega, fun k hk => by cases hk⟩
theorem runE_code {xs : List InsT} {cs : List Int} {f : Int} (h : runE xs cs f = 0) : codeE xs = 0 ∧ cs.length = 4 ∧ (∀ k, k < 4 → 0 ≤ cs.getD k 0 ∧ cs.getD k 0 ≤ 1000000) ∧ 0 ≤ f ∧ f ≤ 100000 := by
  unfold runE at h
  split at h
  · rename_i q; exact absurd h q
  · rename_i q
    split at h
    · cases h
    · rename_i q4
      split at h
      · rename_i al
        unfold fuelE at h
        split at h
        · cases h
        · refine ⟨by omega, by omega, fun k hk => ?_, by omega, by omega⟩
          have hk' : k < cs.length := by omega
          have := List.all_eq_true.1 al cs[k] (List.getElem_mem hk')
          simp at this
          rw [show cs.getD k 0 = cs[k] by simp [List.getD, hk']]
          exact this
      · cases h
set_option maxRecDepth 100000 in
set_option maxHeartbeats 6400000 in
theorem counterRun_bad (xs : List InsT) (a : Option Addr) (n c : Nat) (cs : List Int) (b : Option Addr) (m d : Nat) (f : Int) (w : World) (hP : ArgI w xs a n c) (hU : UsT w) (hC : ArgP w cs b m d) (hr : runE xs cs f ≠ 0) :
    Calls Tryz.prog 4 #[.slice a n c, .slice b m d, .int .i64 f] w (RanC (cntA xs cs f) w) := by
  have CK := hide' (checkRunC_any xs a n c cs b m d f w hP hU hC)
  have A := hide' (show cntA xs cs f = ([], 0, 0, runE xs cs f) by unfold cntA; rw [if_pos hr])
  rw [errOf_is hr] at CK
  have E := hide' (errOf_is hr)
  clear hP hU hC hr
  go_enter Tryz.func4, Tryz.ntmps4
  go_wp2_with fail
  refine CK.out.mono ?_
  rintro e w1 ⟨rfl, b1⟩
  go_wp2
  refine bodyPost_ret (v := .tuple #[.slice none 0 0, .int .i64 0, .iface 73 (.int .i64 (runE xs cs f : Int))]) (by simp [results, Tryz.results4, go_sem]) rfl ?_
  refine ⟨none, 0, ?_, ?_, b1⟩
  · rw [A.out]; simp only; rw [E.out]; rfl
  · rw [A.out]; exact argP_nil _ _ _
set_option maxRecDepth 100000 in
set_option maxHeartbeats 6400000 in
theorem counterRun_ok (xs : List InsT) (a : Option Addr) (n c : Nat) (cs : List Int) (b : Option Addr) (m d : Nat) (f : Int) (eb : Addr) (w : World) (hP : ArgI w xs a n c) (hU : UsT w) (hC : ArgP w cs b m d) (hE : EndT w eb) (hr : runE xs cs f = 0) :
    Calls Tryz.prog 4 #[.slice a n c, .slice b m d, .int .i64 f] w (RanC (cntA xs cs f) w) := by
  have CK := hide' (checkRunC_any xs a n c cs b m d f w hP hU hC)
  obtain ⟨hc, h4, hcs, f0, f1⟩ := runE_code hr
  rw [hr, show errOf 0 = .nilIface from rfl] at CK
  obtain ⟨f, rfl⟩ : ∃ k : Nat, f = (k : Int) := ⟨f.toNat, by omega⟩
  have A := hide' (show cntA xs cs (f : Int) = if (goM xs f (begM cs) 0).2.2 = 0 then (fourM (goM xs f (begM cs) 0).1.1, (goM xs f (begM cs) 0).2.1, (goM xs f (begM cs) 0).1.2, 0) else ([], 0, 0, (goM xs f (begM cs) 0).2.2) by unfold cntA; rw [if_neg (by simp [hr]), Int.toNat_natCast])
  have OK := hide' (show OkM xs (begM cs) from ⟨hcs, (code_at hc).1⟩)
  have ml := hC.len
  obtain rfl : m = 4 := by omega
  obtain ⟨g, off, rfl, hg, -⟩ := hC.cells 0 (by omega)
  have cell : ∀ k, k < 4 → w.cell? ⟨g, off + k, none⟩ = some (.int .i64 (cs.getD k 0)) := fun k hk => by
    have hk' : k < cs.length := by omega
    obtain ⟨g', off', e, -, hh⟩ := hC.cells k hk'
    cases e
    rw [hh]; simp [List.getD, hk']
  obtain ⟨x0, y0⟩ : ∃ x, cs.getD 0 0 = x := ⟨_, rfl⟩
  obtain ⟨x1, y1⟩ : ∃ x, cs.getD 1 0 = x := ⟨_, rfl⟩
  obtain ⟨x2, y2⟩ : ∃ x, cs.getD 2 0 = x := ⟨_, rfl⟩
  obtain ⟨x3, y3⟩ : ∃ x, cs.getD 3 0 = x := ⟨_, rfl⟩
  have XS := hide' (And.intro y0 (And.intro y1 (And.intro y2 y3)))
  have CE := hide' cell
  have HP := hide' hP
  have HC := hide' hc
  have HG := hide' hg
  have HE := hide' hE
  clear hP hU hC hr hc hcs f0 ml h4 cell y0 y1 y2 y3 hg hE
  go_enter Tryz.func4, Tryz.ntmps4
  go_wp2_with fail
  refine CK.out.mono ?_
  rintro e w1 ⟨rfl, b1⟩
  obtain ⟨mb, hmb⟩ : ∃ mb, w1.heap.size = mb := ⟨_, rfl⟩
  obtain ⟨w2, hw2⟩ : ∃ w2, w1.alloc (.cells #[.slice a n c, .int .i64 0, .int .i64 0, .int .i64 0, .int .i64 0, .int .i64 0] 49) = w2 := ⟨_, rfl⟩
  have B2 := hide' (show Below w.heap.size w w2 by rw [← hw2]; exact b1.alloc b1.size _)
  have r2 := hide' (show w2.heap[mb]? = some (.cells #[.slice a n c, .int .i64 0, .int .i64 0, .int .i64 0, .int .i64 0, .int .i64 0] 49 (0, 0)) by rw [← hw2, ← hmb]; exact heap_alloc_new _ _)
  obtain ⟨w3, hw3⟩ : ∃ w3, w2.setCells mb 1 [.int .i64 x0, .int .i64 x1, .int .i64 x2, .int .i64 x3] = w3 := ⟨_, rfl⟩
  have MB := hide' (show w.heap.size ≤ mb by rw [← hmb]; exact b1.size)
  have hrun : (Builtin.copy_ #[23, 23] 3 #[.slice (some ⟨mb, 1, none⟩) 4 4, .slice (some ⟨g, off, none⟩) 4 d]).run Tryz.prog w2 = .ok (.int .i64 4) w3 := by
    rw [← hw3]
    refine run_copy_cells (P := Tryz.prog) w2 23 23 3 3 mb 1 4 4 ⟨g, off, none⟩ 4 d [.int .i64 x0, .int .i64 x1, .int .i64 x2, .int .i64 x3] Tryz.underlying23 (by kernel_rfl) rfl (fun j v hj => ?_) (fun j hj => ?_) (fun j hj => frozen_of_row w2 _ _ _ _ r2.out) (fun v hv => by simp at hv; rcases hv with rfl | rfl | rfl | rfl <;> rfl)
    · have hl : j < 4 := by
        rcases Nat.lt_or_ge j 4 with h | h
        · exact h
        · rw [List.getElem?_eq_none (by simpa using h)] at hj; cases hj
      have ea : (⟨g, off, none⟩ : Addr).add j = ⟨g, off + j, none⟩ := by
        unfold Addr.add
        split
        · rename_i hz; subst hz; rfl
        · simp
      obtain ⟨y0, y1, y2, y3⟩ := XS.out
      rw [ea, B2.out.cell (p := ⟨g, off + j, none⟩) HG.out, CE.out j hl]
      rcases (show j = 0 ∨ j = 1 ∨ j = 2 ∨ j = 3 by omega) with rfl | rfl | rfl | rfl
      · rw [y0]; exact hj
      · rw [y1]; exact hj
      · rw [y2]; exact hj
      · rw [y3]; exact hj
    · rw [cell_of_row w2 _ _ _ _ _ r2.out]
      simp at hj
      rcases (show j = 0 ∨ j = 1 ∨ j = 2 ∨ j = 3 by omega) with rfl | rfl | rfl | rfl <;> rfl
  have c3 : ∀ k (hk : k < 4), w3.cell? ⟨mb, 1 + k, none⟩ = some (.int .i64 (cs.getD k 0)) := fun k hk => by
    rw [← hw3, World.cell?_setCells_in mb [.int .i64 x0, .int .i64 x1, .int .i64 x2, .int .i64 x3] 1 w2 (fun j hj => by
      rw [cell_of_row w2 _ _ _ _ _ r2.out]
      simp at hj
      rcases (show j = 0 ∨ j = 1 ∨ j = 2 ∨ j = 3 by omega) with rfl | rfl | rfl | rfl <;> rfl) k hk]
    obtain ⟨y0, y1, y2, y3⟩ := XS.out
    rcases (show k = 0 ∨ k = 1 ∨ k = 2 ∨ k = 3 by omega) with rfl | rfl | rfl | rfl
    · rw [y0]; rfl
    · rw [y1]; rfl
    · rw [y2]; rfl
    · rw [y3]; rfl
  have B3 := hide' (show Below w.heap.size w w3 by
    rw [← hw3]
    show Below _ _ ((((w2.setCell ⟨mb, 1, none⟩ _).setCell ⟨mb, 2, none⟩ _).setCell ⟨mb, 3, none⟩ _).setCell ⟨mb, 4, none⟩ _)
    exact (((B2.out.setCell MB.out _).setCell MB.out _).setCell MB.out _).setCell MB.out _)
  have z3 : w3.heap.size = w2.heap.size := by
    rw [← hw3]
    show ((((w2.setCell ⟨mb, 1, none⟩ _).setCell ⟨mb, 2, none⟩ _).setCell ⟨mb, 3, none⟩ _).setCell ⟨mb, 4, none⟩ _).heap.size = _
    simp
  have M3 := hide' (show MaB w3 mb (.slice a n c) (begM cs).1 (begM cs).2 from ⟨by
    rw [← hw3, World.cell?_setCells_out mb _ 1 w2 ⟨mb, 0, none⟩ (fun _ _ => Or.inl (by simp)), cell_of_row w2 _ _ _ _ _ r2.out]; rfl, c3, by
    rw [← hw3, World.cell?_setCells_out mb _ 1 w2 ⟨mb, 5, none⟩ (fun _ _ => Or.inr (by simp)), cell_of_row w2 _ _ _ _ _ r2.out]; rfl, fun k => by
    rw [← hw3, World.frozen?_setCells]; exact frozen_of_row w2 _ _ _ _ r2.out, by rw [z3]; exact lt_of_block r2.out⟩)
  have GO := hide' (goOnM_any xs a n c mb f w.heap.size (begM cs) eb w3 M3.out MB.out (Nat.le_trans MB.out (Nat.le_of_lt M3.out.lt)) (fun V hb => HP.out.below (B3.out.trans hb)) (fun V hb => HE.out.below (B3.out.trans hb) HE.out.lt) HC.out OK.out (by omega))
  obtain ⟨R, hR⟩ : ∃ R, goM xs f (begM cs) 0 = R := ⟨_, rfl⟩
  rw [hR] at GO A
  have HB1 := hide' b1
  have HW2 := hide' hw2
  have HMB := hide' hmb
  have HRUN := hide' hrun
  clear hw3 c3 z3 hR b1 hw2 hmb hrun
  go_upto_region 5 with fail
  rw [HW2.out, HMB.out]
  have hrun := HRUN.out
  go_upto_region 6 with fail
  clear hrun
  go_wp2_with fail
  refine GO.out.mono ?_
  rintro e w4 ⟨b4, ⟨r0, rfl, m4⟩ | ⟨r0, rfl⟩⟩
  · rw [if_pos r0] at A
    have B4 := hide' (B3.out.trans b4)
    have CL := hide' (clone4_any mb _ _ _ _ w4 (m4.cnt 0 (by omega)) (m4.cnt 1 (by omega)) (m4.cnt 2 (by omega)) (m4.cnt 3 (by omega)) m4.lt)
    clear m4 b4 r0
    go_wp2_with fail
    refine CL.out.mono ?_
    rintro e w5 ⟨gq, q, rfl, h5, b5, -⟩
    have H5 := hide' h5
    clear h5
    go_wp2
    refine bodyPost_ret (v := .tuple #[.slice (some ⟨gq, 0, none⟩) 4 q, .int .i64 (R.2.1 : Int), .nilIface]) (by simp [results, Tryz.results4, go_sem]) rfl ?_
    refine ⟨some ⟨gq, 0, none⟩, q, ?_, ?_, B4.out.trans (b5.mono B4.out.size)⟩
    · rw [A.out]; rfl
    · rw [A.out]; exact H5.out
  · rw [if_neg r0] at A
    have E := hide' (errOf_is r0)
    have B4 := hide' (B3.out.trans b4)
    clear b4 r0
    go_wp2
    refine bodyPost_ret (v := .tuple #[.slice none 0 0, .int .i64 0, .iface 73 (.int .i64 (R.2.2 : Int))]) (by simp [results, Tryz.results4, go_sem]) rfl ?_
    refine ⟨none, 0, ?_, ?_, B4.out⟩
    · rw [A.out]; simp only; rw [E.out]; rfl
    · rw [A.out]; exact argP_nil _ _ _
end Go.Proofs.YtcfoeadfhkojeaaGreatDoor

