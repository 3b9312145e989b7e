/-
  What the last text of this claim leans on, part 12: Cb7, Cm4, Rk2, Rk3, Clone, Rk4, Pr1, Pr2, Pr3, Pr4, Ref3, Rk5, Rk6.
-/
import Derived.Test.YtcfoeadfhkojeaaGreatDoorZm11
import Derived.Test.YtcfoeadfhkojeaaGreatDoorZm5
import Derived.Test.YtcfoeadfhkojeaaGreatDoorZm1
import Derived.Test.YtcfoeadfhkojeaaGreatDoorProg
import Derived.Lib.Strings
import Derived.Lib.Walk
import Derived.Lib.BufferWrite
import Derived.Lib.UnsafeStr
import Derived.Lib.Hide
import Derived.Laws.MakeOwn
import Derived.WalkKit
import Derived.Deep.RegionWith
namespace Go.Proofs.YtcfoeadfhkojeaaGreatDoor
open Go.RowKit
set_option linter.unusedVariables false
/-- What goOn answers. -/
def WentG (R : Nat × Nat × Nat) (gb B : Nat) (sl : Value) (w : World) (e : Ending) (w' : World) : Prop :=
  Below B w w' ∧ ((R.2.2 = 0 ∧ e = .returned (.tuple #[.int .i64 (R.2.1 : Int), .nilIface]) ∧ GaB w' gb sl R.1) ∨ (R.2.2 ≠ 0 ∧ e = .returned (.tuple #[.int .i64 0, .iface 73 (.int .i64 (R.2.2 : Int))])))
set_option maxRecDepth 100000 in
set_option maxHeartbeats 6400000 in
theorem goOnG_any (xs : List FraT) (a : Option Addr) (m c : Nat) (gb fuel B n : Nat) (eb : Addr) (w : World) (hm : GaB w gb (.slice a m c) n) (hB : B ≤ gb) (hBw : B ≤ w.heap.size)
    (hP : ∀ V, Below B w V → ArgF V xs a m c) (hE : ∀ V, Below B w V → EndT V eb) (al : xs.all fraB = true) (hn : n < 9223372036854775808) (hf : fuel ≤ 100000) :
    Calls Tryz.prog 15 #[.int .i64 (fuel : Int), .func (.func 28) #[.pointer (some ⟨gb, 0, none⟩)] #[]] w (WentG (goG xs fuel n 0) gb B (.slice a m c) w) := by
  obtain ⟨R, hR⟩ : ∃ R, goG xs fuel n 0 = R := ⟨_, rfl⟩
  rw [hR]
  have HS := hide' (show ∃ n', goG xs (fuel - 0) n' 0 = R ∧ n' < 9223372036854775808 ∧ GaB w gb (.slice a m c) n' from ⟨n, hR, hn, hm⟩)
  have HP := hide' hP
  have HE := hide' hE
  have AL := hide' al
  have HB := hide' hB
  have HW := hide' hBw
  have IS := hide' (fun V => is_same eb V)
  have IN := hide' (fun V => is_nil eb V)
  have IE := hide' (fun m V => is_errno m eb V)
  clear hm hP hE al hR hn hB hBw n
  go_enter Tryz.func15, Tryz.ntmps15
  go_wp2
  go_loopw [6] (fun kv wr => ∃ k : Nat, kv = .int .i64 (k : Int) ∧ k ≤ fuel ∧ Hid (Below B w wr) ∧ Hid (∃ n', goG xs (fuel - k) n' k = R ∧ n' < 9223372036854775808 ∧ GaB wr gb (.slice a m c) n')) (fun kv _ => fuel - (intOf kv).toNat)
  case atStart => exact ⟨0, rfl, by omega, hide' (Below.refl _ _), HS⟩
  case round =>
    obtain ⟨k, rfl, hk, BW, HSk⟩ := hrel
    obtain ⟨n, gs, ok, ms⟩ := HSk.out
    have ST := hide' (gameStep_any xs a m c gb B n eb wr ms (HP.out wr BW.out) (HE.out wr BW.out) ok HB.out AL.out)
    have GS := hide' gs
    have MS := hide' ms
    have ET := HE.out wr BW.out
    have EV := hide' (fun V (hb : Below wr.heap.size wr V) => ET.below hb ET.lt)
    have EW := hide' (fun V (hb : Below B wr V) => HE.out V (BW.out.trans hb))
    have BV := hide' (fun V (hb : Below wr.heap.size wr V) => BW.out.trans (hb.mono (Nat.le_trans HW.out BW.out.size)))
    clear gs ms ET HSk ok
    go_wp2_with fail
    refine ST.out.mono ?_
    rintro e w1 (⟨h1, rfl, b1⟩ | ⟨p, h1, h2, rfl, b1⟩ | ⟨p, h1, h2, rfl, m1, b1⟩)
    · have gs := GS.out
      rw [goG_end h1] at gs
      have FIN := hide' (show WentG R gb B (.slice a m c) w (.returned (.tuple #[.int .i64 (k : Int), .nilIface])) w1 from by
        rw [← gs]
        exact ⟨BV.out w1 b1, Or.inl ⟨rfl, rfl, MS.out.below b1 MS.out.lt⟩⟩)
      have E1 : w1.cell? ⟨3, 0, none⟩ = some (.iface 158 (.pointer (some eb))) := EV.out w1 b1
      clear gs h1
      go_wp2_with (go_at_call 31; refine (IS.out _).mono ?_; rintro e w2 ⟨rfl, rfl⟩)
      go_ret2
      exact FIN.out
    · have NX := hide' (show (k = fuel ∧ (n, k, 6) = R) ∨ (k ≠ fuel ∧ (n, k, 4) = R) from by
        have gs := GS.out
        by_cases kf : k = fuel
        · left; subst kf; rw [Nat.sub_self, goG_long h1] at gs; exact ⟨rfl, gs⟩
        · right; rw [show fuel - k = (fuel - (k + 1)) + 1 by omega, goG_full h1 h2] at gs; exact ⟨kf, gs⟩)
      have E1 : w1.cell? ⟨3, 0, none⟩ = some (.iface 158 (.pointer (some eb))) := EV.out w1 b1
      clear h1 h2
      by_cases kf : (k : Int) = (fuel : Int)
      · have FIN := hide' (show WentG R gb B (.slice a m c) w (.returned (.tuple #[.int .i64 0, .iface 73 (.int .i64 6)])) w1 from by
          rcases NX.out with ⟨-, h⟩ | ⟨h, -⟩
          · rw [← h]
            exact ⟨BV.out w1 b1, Or.inr ⟨by simp, rfl⟩⟩
          · exact absurd (Int.ofNat.inj kf) h)
        go_wp2_with (go_at_call 31; refine (IE.out _ _).mono ?_; rintro e w2 ⟨rfl, rfl⟩)
        go_ret2
        exact FIN.out
      · have kf' : ¬ (fuel : Int) = (k : Int) := fun q => kf q.symm
        have FIN := hide' (show WentG R gb B (.slice a m c) w (.returned (.tuple #[.int .i64 0, .iface 73 (.int .i64 4)])) w1 from by
          rcases NX.out with ⟨h, -⟩ | ⟨-, h⟩
          · exact absurd (by rw [h]) kf
          · rw [← h]
            exact ⟨BV.out w1 b1, Or.inr ⟨by simp, rfl⟩⟩)
        go_wp2_with (go_at_call 31; refine (IE.out _ _).mono ?_; rintro e w2 ⟨rfl, rfl⟩)
        go_ret2
        exact FIN.out
    · have NX := hide' (show (k = fuel ∧ (n, k, 6) = R) ∨ (k ≠ fuel ∧ goG xs (fuel - (k + 1)) (nextF n p) (k + 1) = R) from by
        have gs := GS.out
        by_cases kf : k = fuel
        · left; subst kf; rw [Nat.sub_self, goG_long h1] at gs; exact ⟨rfl, gs⟩
        · right; rw [show fuel - k = (fuel - (k + 1)) + 1 by omega, goG_next h1 h2] at gs; exact ⟨kf, gs⟩)
      have E1 : w1.cell? ⟨3, 0, none⟩ = some (.iface 158 (.pointer (some eb))) := EW.out w1 b1
      have N2 := hide' (show nextF n p < 9223372036854775808 by omega)
      have M1 := hide' m1
      clear h1 h2 m1
      by_cases kf : (k : Int) = (fuel : Int)
      · have FIN := hide' (show WentG R gb B (.slice a m c) w (.returned (.tuple #[.int .i64 0, .iface 73 (.int .i64 6)])) w1 from by
          rcases NX.out with ⟨-, h⟩ | ⟨h, -⟩
          · rw [← h]
            exact ⟨BW.out.trans b1, Or.inr ⟨by simp, rfl⟩⟩
          · exact absurd (Int.ofNat.inj kf) h)
        go_wp2_with (go_at_call 31; refine (IN.out _).mono ?_; rintro e w2 ⟨rfl, rfl⟩)
        go_ret2
        exact FIN.out
      · have kf' : ¬ (fuel : Int) = (k : Int) := fun q => kf q.symm
        have kn : k ≠ fuel := fun q => kf (by rw [q])
        have NG := hide' (show goG xs (fuel - (k + 1)) (nextF n p) (k + 1) = R from by rcases NX.out with ⟨h, -⟩ | ⟨-, h⟩; exact absurd h kn; exact h)
        have k1 : k + 1 ≤ fuel := by omega
        have B9 := hide' (BW.out.trans b1)
        clear kn
        go_wp2_with (go_at_call 31; refine (IN.out _).mono ?_; rintro e w2 ⟨rfl, rfl⟩)
        exact ⟨⟨k + 1, by go_num, k1, B9, hide' ⟨_, NG.out, N2.out, M1.out⟩⟩, by simp [intOf]; omega⟩
/-- What a game comes to, or what is wrong. -/
def plyA (xs : List FraT) (n f : Int) : Nat × Nat × Nat :=
  if playE xs n f ≠ 0 then (0, 0, playE xs n f)
  else if (goG xs f.toNat n.toNat 0).2.2 = 0 then goG xs f.toNat n.toNat 0 else (0, 0, (goG xs f.toNat n.toNat 0).2.2)
def PlaC (A : Nat × Nat × Nat) (w : World) (e : Ending) (w' : World) : Prop := e = .returned (.tuple #[.int .i64 (A.1 : Int), .int .i64 (A.2.1 : Int), errOf A.2.2]) ∧ Below w.heap.size w w'
theorem playE_ok {xs : List FraT} {n f : Int} (h : playE xs n f = 0) : xs.all fraB = true ∧ 1 ≤ n ∧ 0 ≤ f ∧ f ≤ 100000 := by
  unfold playE fuelE at h
  split at h
  · rename_i al
    split at h
    · cases h
    · split at h
      · cases h
      · exact ⟨al, by omega, by omega, by omega⟩
  · cases h
set_option maxRecDepth 100000 in
set_option maxHeartbeats 6400000 in
theorem counterPlay_bad (xs : List FraT) (a : Option Addr) (m c : Nat) (n f : Int) (w : World) (hP : ArgF w xs a m c) (hr : playE xs n f ≠ 0) :
    Calls Tryz.prog 12 #[.slice a m c, .int .i64 n, .int .i64 f] w (PlaC (plyA xs n f) w) := by
  have CK := hide' (checkPlay_any xs a m c n f w hP)
  have A := hide' (show plyA xs n f = (0, 0, playE xs n f) by unfold plyA; rw [if_pos hr])
  rw [errOf_is hr] at CK
  have E := hide' (errOf_is hr)
  clear hP hr
  go_enter Tryz.func12, Tryz.ntmps12
  go_wp2_with fail
  refine CK.out.mono ?_
  rintro e w1 ⟨rfl, b1⟩
  go_wp2
  refine bodyPost_ret (v := .tuple #[.int .i64 0, .int .i64 0, .iface 73 (.int .i64 (playE xs n f : Int))]) (by simp [results, Tryz.results12, go_sem]) rfl ?_
  refine ⟨?_, b1⟩
  rw [A.out]; simp only; rw [E.out]; rfl
set_option maxRecDepth 100000 in
set_option maxHeartbeats 6400000 in
theorem counterPlay_ok (xs : List FraT) (a : Option Addr) (m c : Nat) (n f : Int) (eb : Addr) (w : World) (hP : ArgF w xs a m c) (hE : EndT w eb) (hn : n ≤ 9223372036854775807) (hr : playE xs n f = 0) :
    Calls Tryz.prog 12 #[.slice a m c, .int .i64 n, .int .i64 f] w (PlaC (plyA xs n f) w) := by
  have CK := hide' (checkPlay_any xs a m c n f w hP)
  obtain ⟨al, n1, f0, f1⟩ := playE_ok hr
  rw [hr, show errOf 0 = .nilIface from rfl] at CK
  obtain ⟨f, rfl⟩ : ∃ k : Nat, f = (k : Int) := ⟨f.toNat, by omega⟩
  obtain ⟨n, rfl⟩ : ∃ k : Nat, n = (k : Int) := ⟨n.toNat, by omega⟩
  have A := hide' (show plyA xs (n : Int) (f : Int) = if (goG xs f n 0).2.2 = 0 then goG xs f n 0 else (0, 0, (goG xs f n 0).2.2) by unfold plyA; rw [if_neg (by simp [hr]), Int.toNat_natCast, Int.toNat_natCast])
  have GO := hide' (fun (w1 : World) (b1 : Below w.heap.size w w1) (gb : Nat) (V : World) (g : GaB V gb (.slice a m c) n) (hb : Below w.heap.size w V) (hw : w.heap.size ≤ gb) => goOnG_any xs a m c gb f w.heap.size n eb V g hw hb.size (fun U hU => hP.below (B := 0) (hb.trans hU)) (fun U hU => hE.below (hb.trans hU) hE.lt) al (by omega) (by omega))
  obtain ⟨R, hR⟩ : ∃ R, goG xs f n 0 = R := ⟨_, rfl⟩
  rw [hR] at GO A
  clear hR hP hE hr al f0 n1
  go_enter Tryz.func12, Tryz.ntmps12
  go_wp2_with fail
  refine CK.out.mono ?_
  rintro e w1 ⟨rfl, b1⟩
  obtain ⟨w2, hw2⟩ : ∃ w2, w1.alloc (.cells #[.slice a m c, .int .i64 (n : Int)] 72) = w2 := ⟨_, rfl⟩
  have B2 := hide' (show Below w.heap.size w w2 by rw [← hw2]; exact b1.alloc b1.size _)
  have G2 := hide' (show GaB w2 w1.heap.size (.slice a m c) n from ⟨by rw [← hw2]; exact heap_alloc_new _ _⟩)
  have GQ := hide' (GO.out w1 b1 w1.heap.size w2 G2.out B2.out b1.size)
  have HW2 := hide' hw2
  clear hw2 b1
  go_upto_region 5 with fail
  rw [HW2.out]
  go_wp2_with fail
  refine GQ.out.mono ?_
  rintro e w4 ⟨b4, ⟨r0, rfl, m4⟩ | ⟨r0, rfl⟩⟩
  · rw [if_pos r0] at A
    have B4 := hide' (B2.out.trans b4)
    have s1 := cell_of_row w4 _ 1 _ _ _ m4.row
    simp at s1
    have E0 := hide' r0
    clear m4 b4 r0
    go_wp2
    refine bodyPost_ret (v := .tuple #[.int .i64 (R.1 : Int), .int .i64 (R.2.1 : Int), .nilIface]) (by simp [results, Tryz.results12, go_sem]) rfl ?_
    refine ⟨?_, B4.out⟩
    rw [A.out, E0.out]; rfl
  · rw [if_neg r0] at A
    have E := hide' (errOf_is r0)
    have B4 := hide' (B2.out.trans b4)
    clear b4 r0
    go_wp2
    refine bodyPost_ret (v := .tuple #[.int .i64 0, .int .i64 0, .iface 73 (.int .i64 (R.2.2 : Int))]) (by simp [results, Tryz.results12, go_sem]) rfl ?_
    refine ⟨?_, B4.out⟩
    rw [A.out]; simp only; rw [E.out]; rfl
end Go.Proofs.YtcfoeadfhkojeaaGreatDoor

namespace Go.Proofs.YtcfoeadfhkojeaaGreatDoor
open Go.RowKit
set_option linter.unusedVariables false
theorem goM_ok {xs : List InsT} (hc : codeE xs = 0) : ∀ (f : Nat) (s : MaS) (k : Nat), OkM xs s → OkM xs (goM xs f s k).1
  | 0, s, k, h => by
    rw [goM]
    split <;> exact h
  | f + 1, s, k, h => by
    rw [goM]
    split
    · exact h
    · rename_i h3
      split
      · exact h
      · rename_i hf
        exact goM_ok hc f _ _ (next_ok hc h h3 (by simpa using hf))
theorem goM_le' {xs : List InsT} : ∀ (f : Nat) (s : MaS) (k : Nat), (goM xs f s k).2.1 ≤ k + f
  | 0, s, k => by rw [goM]; split <;> simp
  | f + 1, s, k => by
    rw [goM]
    split
    · simp
    · split
      · simp
      · have := goM_le' (xs := xs) f (nextM xs s) (k + 1); omega
theorem fraL_pos {xs : List InsT} (hx : LnOk xs) : (fraL xs).all fraB = true := by
  have n12 := hx.n12
  have nf : ∀ a b : Nat, 1 ≤ a → 1 ≤ b → fraB (natF a b) = true := fun a b ha hb => by unfold fraB natF; simp; omega
  have p1 : ∀ i, i < 28 → 1 ≤ prN i := fun i hi => by have := pr_two hi; omega
  have hl : ∀ k, k < xs.length → ∀ q ∈ lineF k (lnM xs k), fraB q = true := fun k hk q hq => by
    unfold lineF at hq
    rcases hx.at_ k hk with ⟨o, ha, ht⟩ | ⟨o, ha, ht, he⟩ | o
    · rw [if_pos o] at hq
      simp only [List.mem_singleton] at hq; subst hq
      exact nf _ _ (Nat.mul_pos (p1 _ (by omega)) (p1 _ (by omega))) (p1 _ (by omega))
    · rw [if_neg (by omega), if_pos o] at hq
      simp only [List.mem_cons, List.not_mem_nil, or_false] at hq
      rcases hq with rfl | rfl
      · exact nf _ _ (p1 _ (by omega)) (Nat.mul_pos (p1 _ (by omega)) (p1 _ (by omega)))
      · exact nf _ _ (p1 _ (by omega)) (p1 _ (by omega))
    · rw [if_neg (by omega), if_neg (by omega)] at hq
      cases hq
  have hn : ∀ k, k ≤ xs.length → ∀ q ∈ linesF xs k, fraB q = true := fun k => by
    induction k with
    | zero => intro _ q hq; cases hq
    | succ k ih => intro hk q hq; rw [linesF, List.mem_append] at hq; exact hq.elim (ih (by omega) q) (hl k (by omega) q)
  have he : ∀ k, k ≤ xs.length → ∀ q ∈ endsF k, fraB q = true := fun k => by
    induction k with
    | zero => intro _ q hq; cases hq
    | succ k ih => intro hk q hq; rw [endsF, List.mem_append] at hq; exact hq.elim (ih (by omega) q) (fun h => by simp only [List.mem_singleton] at h; subst h; exact nf _ _ (p1 _ (by omega)) (p1 _ (by omega)))
  refine List.all_eq_true.2 fun p hp => ?_
  unfold fraL at hp
  rw [List.mem_append] at hp
  exact hp.elim (hn _ (Nat.le_refl _) p) (he _ (Nat.le_refl _) p)
/-- The parts of a run that ends. -/
structure RunEnds (xs : List InsT) (cs : List Int) (f : Int) (c' : Nat → Int) (n t : Nat) : Prop where
  ans : cntA xs cs f = (fourM c', n, t, 0)
  len : cs.length = 4
  rng : ∀ k, k < 4 → 0 ≤ cs.getD k 0 ∧ cs.getD k 0 ≤ 1000000
  rng' : ∀ k, k < 4 → 0 ≤ (fourM c').getD k 0 ∧ (fourM c').getD k 0 ≤ 1000000
  at_ : t < xs.length
  few : n ≤ 100000
  play : ∀ x : Nat, valP (fun k => cs.getD k 0) * prN 4 = x → x ≤ 4611686018427387904 → n ≤ 50000 → plyA (fraL xs) (x : Int) (2 * (n : Int)) = (0, 0, 4) ∨ (plyA (fraL xs) (x : Int) (2 * (n : Int)) = (valP c' * prN (4 + 2 * t), 2 * n, 0) ∧ valP c' * prN (4 + 2 * t) ≤ 4611686018427387904)
theorem run_ends {xs : List InsT} {cs : List Int} {f : Int} (hc : codeE xs = 0) (h0 : (cntA xs cs f).2.2.2 = 0) : ∃ c' n t, RunEnds xs cs f c' n t := by
  unfold cntA at h0
  split at h0
  · rename_i q; exact absurd h0 q
  · rename_i q
    have hr : runE xs cs f = 0 := Classical.byContradiction q
    obtain ⟨_, h4, hcs, f0, f1⟩ := runE_code hr
    split at h0
    · rename_i hg
      have ok0 : OkM xs (begM cs) := ⟨hcs, by have := (code_at hc).1; show 0 < _; omega⟩
      have ok1 := goM_ok hc f.toNat (begM cs) 0 ok0
      have lt := goM_le' (xs := xs) f.toNat (begM cs) 0
      refine ⟨(goM xs f.toNat (begM cs) 0).1.1, (goM xs f.toNat (begM cs) 0).2.1, (goM xs f.toNat (begM cs) 0).1.2, ?_, h4, hcs, ?_, ok1.2, by omega, ?_⟩
      · unfold cntA; rw [if_neg q, if_pos hg]
      · intro k hk
        have := ok1.1 k hk
        rcases (show k = 0 ∨ k = 1 ∨ k = 2 ∨ k = 3 by omega) with rfl | rfl | rfl | rfl <;> exact this
      · intro x hx hx2 hn
        have hE : goM xs f.toNat (begM cs) 0 = ((goM xs f.toNat (begM cs) 0).1, (goM xs f.toNat (begM cs) 0).2.1, 0) := Prod.ext rfl (Prod.ext rfl hg)
        have hx' : numN (begM cs).1 (4 + 2 * (begM cs).2) = x := hx
        have gc := (game_counts hc f.toNat (begM cs) _ 0 _ 0 ok0 hE (by rw [hx']; exact hx2)).2
        rw [hx'] at gc
        have x1 : 1 ≤ x := by
          rw [← hx]
          exact Nat.mul_pos (valP_pos _) (by have := pr_two (i := 4) (by omega); omega)
        have hp : playE (fraL xs) (x : Int) (2 * ((goM xs f.toNat (begM cs) 0).2.1 : Int)) = 0 := by
          unfold playE fuelE
          rw [if_pos (fraL_pos (ln_ok hc)), if_neg (by omega), if_neg (by omega)]
        have e1 : (2 * ((goM xs f.toNat (begM cs) 0).2.1 : Int)).toNat = 2 * ((goM xs f.toNat (begM cs) 0).2.1 - 0) := by omega
        unfold plyA
        rw [if_neg (by rw [hp]; simp), e1, Int.toNat_natCast]
        rcases gc with g4 | ⟨ge, gb⟩
        · left
          rw [if_neg (by rw [g4]; omega), g4]
        · right
          rw [ge]
          simp only [if_true, Nat.zero_add, Nat.sub_zero]
          exact ⟨rfl, gb⟩
    · rename_i hg; exact absurd h0 hg
end Go.Proofs.YtcfoeadfhkojeaaGreatDoor

namespace Go.Proofs.YtcfoeadfhkojeaaGreatDoor
open Go.RowKit

end Go.Proofs.YtcfoeadfhkojeaaGreatDoor

namespace Go.Proofs.YtcfoeadfhkojeaaGreatDoor
open Go.RowKit
set_option linter.unusedVariables false

/-- What a call on the reader comes to: the rule, and how far; or the fault's place, by a panic. -/
def Reads (x : (Out × Nat) ⊕ Nat) (b : Nat) (s : ByteArray) (w : World) (e : Ending) (w' : World) : Prop :=
  match x with
  | .inr a => e = .panicked oops ∧ At b s a w' ∧ Rd b w w'
  | .inl (o, p) => ∃ v, e = .returned (o.val v) ∧ Tab w' v o.table ∧ Fresh w v ∧ At b s p w' ∧ Rd b w w' ∧ p ≤ s.size

theorem Reads.bad {b : Nat} {s : ByteArray} {w w' : World} {a : Nat} (ha : At b s a w') (hr : Rd b w w') : Reads (.inr a) b s w (.panicked oops) w' := ⟨rfl, ha, hr⟩

end Go.Proofs.YtcfoeadfhkojeaaGreatDoor

namespace Go.Proofs.YtcfoeadfhkojeaaGreatDoor
open Go.RowKit

theorem info_u8 : (Tryz.prog.info? 5).map (fun i => (i.zero, i.size, i.bytes)) = some (some (.int .u8 0), 1, 1) := by kernel_rfl

end Go.Proofs.YtcfoeadfhkojeaaGreatDoor

namespace Go.Proofs.YtcfoeadfhkojeaaGreatDoor
open Go.RowKit
set_option linter.unusedVariables false

theorem At.below {b : Nat} {s : ByteArray} {i : Nat} {w w' : World} (h : At b s i w) (hb : Below w.heap.size w w') : At b s i w' := by
  have e := hb.block b h.lt
  exact ⟨(World.cell?_of_block (w := w) (a := ⟨b, 0, none⟩) e).trans h.txt, (World.cell?_of_block (w := w) (a := ⟨b, 1, none⟩) e).trans h.pos,
    (World.frozen?_of_block (w := w) (a := ⟨b, 0, none⟩) e).trans h.fz0, (World.frozen?_of_block (w := w) (a := ⟨b, 1, none⟩) e).trans h.fz1⟩
theorem At.drew {b : Nat} {s : ByteArray} {i : Nat} {w : World} (h : At b s i w) : At b s i w.drew := ⟨h.txt, h.pos, h.fz0, h.fz1⟩
end Go.Proofs.YtcfoeadfhkojeaaGreatDoor

namespace Go.Proofs.YtcfoeadfhkojeaaGreatDoor
open Go.RowKit
set_option linter.unusedVariables false

/-- A rule that came in, as a value: its table at v. -/
structure ArgR (w : World) (o : Out) (a : Option Addr) (n c : Nat) : Prop where
  len : n = o.table.length
  max : n ≤ maxLen
  tmax : o.turns.size ≤ maxLen
  cells : ∀ k (h : k < o.table.length), ∃ g off, a = some ⟨g, off, none⟩ ∧ g < w.heap.size ∧ w.cell? ⟨g, off + k, none⟩ = some (.int .i64 o.table[k])
  rmax : o.radius ≤ 9223372036854775807

theorem ArgR.below {w w' : World} {o : Out} {a : Option Addr} {n c : Nat} (h : ArgR w o a n c) (hb : Below w.heap.size w w') : ArgR w' o a n c :=
  ⟨h.len, h.max, h.tmax, fun k hk => by
    obtain ⟨g, off, e, hg, hc⟩ := h.cells k hk
    exact ⟨g, off, e, Nat.lt_of_lt_of_le hg hb.size, (World.cell?_of_block (w := w) (a := ⟨g, off + k, none⟩) (hb.block g hg)).trans hc⟩, h.rmax⟩
theorem ArgR.alloc {w : World} {o : Out} {a : Option Addr} {n c : Nat} (h : ArgR w o a n c) (x : Obj) : ArgR (w.alloc x) o a n c :=
  h.below ((Below.refl _ _).alloc (Nat.le_refl _) _)

end Go.Proofs.YtcfoeadfhkojeaaGreatDoor

namespace Go.Proofs.YtcfoeadfhkojeaaGreatDoor
open Go.RowKit
set_option linter.unusedVariables false

end Go.Proofs.YtcfoeadfhkojeaaGreatDoor

namespace Go.Proofs.YtcfoeadfhkojeaaGreatDoor
open Go.RowKit
set_option linter.unusedVariables false

end Go.Proofs.YtcfoeadfhkojeaaGreatDoor

namespace Go.Proofs.YtcfoeadfhkojeaaGreatDoor
open Go.RowKit
set_option linter.unusedVariables false

end Go.Proofs.YtcfoeadfhkojeaaGreatDoor

namespace Go.Proofs.YtcfoeadfhkojeaaGreatDoor
open Go.RowKit
set_option linter.unusedVariables false

def RefParsed (x : Out ⊕ Nat) (w : World) (e : Ending) (w' : World) : Prop :=
  match x with
  | .inr a => e = .returned (.tuple #[.agg zeroCells, .int .i64 (a : Int), .bool false]) ∧ Below w.heap.size w w'
  | .inl o => ∃ v, e = .returned (.tuple #[o.val v, .int .i64 0, .bool true]) ∧ Tab w' v o.table ∧ Below w.heap.size w w'
theorem RefParsed.bad {a : Nat} {w w' : World} (h : Below w.heap.size w w') : RefParsed (.inr a) w (.returned (.tuple #[.agg zeroCells, .int .i64 (a : Int), .bool false])) w' := ⟨rfl, h⟩

end Go.Proofs.YtcfoeadfhkojeaaGreatDoor

namespace Go.Proofs.YtcfoeadfhkojeaaGreatDoor
open Go.RowKit
set_option linter.unusedVariables false

theorem Fresh.old {w w' : World} {v : Value} (h : Fresh w' v) (hs : w.heap.size ≤ w'.heap.size) : Fresh w v := fun g k c q => Nat.le_trans hs (h g k c q)

end Go.Proofs.YtcfoeadfhkojeaaGreatDoor

namespace Go.Proofs.YtcfoeadfhkojeaaGreatDoor
open Go.RowKit
set_option linter.unusedVariables false

/-- What reading a whole text comes to. -/
def Ruled (x : Out ⊕ Nat) (b : Nat) (s : ByteArray) (w : World) (e : Ending) (w' : World) : Prop :=
  match x with
  | .inr a => e = .panicked oops ∧ At b s a w' ∧ Rd b w w'
  | .inl o => ∃ v, e = .returned (o.val v) ∧ Tab w' v o.table ∧ Fresh w v ∧ At b s s.size w' ∧ Rd b w w'
theorem Ruled.bad {b : Nat} {s : ByteArray} {w w' : World} {a : Nat} (ha : At b s a w') (hr : Rd b w w') : Ruled (.inr a) b s w (.panicked oops) w' := ⟨rfl, ha, hr⟩

theorem Tab.alloc {w : World} {v : Value} {xs : List Int} (h : Tab w v xs) (o : Obj) : Tab (w.alloc o) v xs := by
  rcases h with h | ⟨g, cap, hv, hg, hc⟩
  · exact Or.inl h
  · have e : (w.alloc o).heap[g]? = w.heap[g]? := Below.heap_alloc _ _ _ hg
    exact Or.inr ⟨g, cap, hv, by rw [World.size_alloc]; omega, fun k hk => (World.cell?_of_block (w := w) (a := ⟨g, k, none⟩) e).trans (hc k hk)⟩
end Go.Proofs.YtcfoeadfhkojeaaGreatDoor

