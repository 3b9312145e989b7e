/-
  What the last text of this claim leans on, part 10: Gz7, Gy1, LawGq.
-/
import Derived.Test.YtmnacanjbhlfeaaZf8
import Derived.Test.YtmnacanjbhlfeaaZf9
import Derived.Test.YtmnacanjbhlfeaaZf1
namespace Go.Proofs.Ytmnacanjbhlfeaa
open Go.RowKit
set_option linter.unusedVariables false
set_option linter.unusedSimpArgs false
theorem cnW_it {xs : List (List UInt8)} : ∀ {m : Nat} {l s : List UInt8}, cnW xs m l = some s → itW xs m l = s
  | 0, l, s, h => Option.some.inj h
  | m + 1, l, s, h => by
    rw [cnW_succ] at h
    split at h
    · cases h
    · show itW xs m (imgL xs l) = s
      exact cnW_it h
theorem LkS.of {w wr : World} {xs : List (List UInt8)} {m : Nat} (h : SzS w wr ((m + 1) * 8) (szA xs)) : LkS wr xs w.heap.size m :=
  ⟨lt_of_block h.row, fun q y hq hy => by
    rw [h.cell (show q * 8 + y < (m + 1) * 8 by omega)]
    unfold szA
    rw [show (q * 8 + y) / 8 = q by omega, show (q * 8 + y) % 8 = y by omega]⟩
set_option maxRecDepth 100000 in
set_option maxHeartbeats 12800000 in
theorem growLetter_some (xs : List (List UInt8)) (a : Option Addr) (k c : Nat) (l : List UInt8) (m t : Nat) (s : List UInt8) (w : World) (hA : ArgX w xs a k c) (hl : l.length ≤ maxLen) (h0 : gwF xs l (m : Int) = 0) (hs : cnW xs m l = some s) (ht : t < s.length) :
    Calls Try.prog 10 #[.slice a k c, .string ⟨l.toArray⟩, .int .i64 (m : Int), .int .i64 (t : Int)] w fun e w' => e = .returned (.tuple #[.string ⟨#[s.getD t 0]⟩, .nilIface]) ∧ Below w.heap.size w w' := by
  have CR := hide' (checkRounds_any xs a k c l (m : Int) w hA hl)
  obtain ⟨ok, l4, la, n0, n6⟩ := gwF_good h0
  rw [← hA.len] at la
  have m6 : m ≤ 60 := by omega
  have CB := hide' (fun (V : World) (h : Below w.heap.size w V) => countBehind_any xs a k c l m 1000000000000000000 V (hA.below h) ok l4 la (by omega) (by omega))
  have SB := hide' (fun (V : World) (h : Below w.heap.size w V) => sizesBehind_any xs a k c m V (hA.below h) ok m6)
  have k8 : k ≤ 8 := by rw [hA.len]; exact (imF_ok ok).2.1
  have TG := hide' (fun (V : World) => together_any (szV xs m) l k V (fun x => szV_le xs m x) k8 la (by omega))
  have ei := cnW_it hs
  have s18 := cnW_le hs (by omega)
  have t63 : t < 1000000000000000000 := by omega
  have TE : min 9223372036854775808 (smW (szV xs m) l) = s.length := by
    rw [smW_ext (n := k) (g := fun x => min 9223372036854775808 (szT xs m x)) (fun x hx => by unfold szV; rw [if_pos (by rw [← hA.len]; exact hx)]) la, min_smW, ← itW_len, ei]
    omega
  rw [TE] at TG
  have LK := hide' (fun (g : Nat) (V : World) (h : Below w.heap.size w V) (hL : LkS V xs g m) => look_any xs a k c g (m + 1) ok hA.len (by omega) m (by omega) l t V (hA.below h) la l4 hL (by rw [ei]; exact ht) (by omega))
  rw [ei] at LK
  rw [show arrF 8 (uF (szV xs m)) = #[.int .u64 ((szV xs m 0 : Nat) : Int), .int .u64 ((szV xs m 1 : Nat) : Int), .int .u64 ((szV xs m 2 : Nat) : Int), .int .u64 ((szV xs m 3 : Nat) : Int), .int .u64 ((szV xs m 4 : Nat) : Int), .int .u64 ((szV xs m 5 : Nat) : Int), .int .u64 ((szV xs m 6 : Nat) : Int), .int .u64 ((szV xs m 7 : Nat) : Int)] from rfl] at TG
  simp only [bdW_cn, hs] at CB
  rw [h0, errOf_yes] at CR
  obtain ⟨A, hAn⟩ : ∃ A, s.getD t 0 = A := ⟨_, rfl⟩
  rw [hAn] at LK
  rw [hAn]
  obtain ⟨S, hS⟩ : ∃ S, s.length = S := ⟨_, rfl⟩
  rw [hS] at TG ht s18
  clear hA hs h0 ok la n0 n6 TE ei hAn hS hl
  obtain ⟨M, hM⟩ : ∃ M, m + 1 = M := ⟨_, rfl⟩
  rw [hM] at LK
  have m0 : (0 : Int) ≤ (m : Int) := by omega
  have mM : (m : Int) < (M : Int) := by omega
  have tS : ¬ (S : Int) ≤ (t : Int) := by omega
  go_enter Try.func10, Try.ntmps10
  go_wp2_with fail
  refine CR.out.mono ?_
  rintro o w3 ⟨rfl, b3⟩
  have B3 := hide' b3
  clear b3
  go_wp2_with fail
  refine (SB.out w3 B3.out).mono ?_
  rintro o w4 ⟨rfl, z4⟩
  have B4 := hide' (B3.out.trans (z4.below.mono B3.out.size))
  have L4 := hide' (LkS.of z4)
  rw [hM]
  clear z4
  obtain ⟨g, hg⟩ : ∃ g, w3.heap.size = g := ⟨_, rfl⟩
  rw [hg] at L4
  rw [hg]
  clear hg
  have d0 := L4.out.2 m 0 (Nat.le_refl _) (by omega)
  have d1 := L4.out.2 m 1 (Nat.le_refl _) (by omega)
  have d2 := L4.out.2 m 2 (Nat.le_refl _) (by omega)
  have d3 := L4.out.2 m 3 (Nat.le_refl _) (by omega)
  have d4 := L4.out.2 m 4 (Nat.le_refl _) (by omega)
  have d5 := L4.out.2 m 5 (Nat.le_refl _) (by omega)
  have d6 := L4.out.2 m 6 (Nat.le_refl _) (by omega)
  have d7 := L4.out.2 m 7 (Nat.le_refl _) (by omega)
  rw [Nat.add_zero] at d0
  go_wp2_with fail
  refine (TG.out _).mono ?_
  rintro o w5 ⟨rfl, b5⟩
  have B5 := hide' (B4.out.trans (b5.mono B4.out.size))
  have L5 := hide' (L4.out.below b5)
  clear b5 d0 d1 d2 d3 d4 d5 d6 d7
  go_wp2_with fail
  refine (CB.out w5 B5.out).mono ?_
  rintro o w6 ⟨r6, b6⟩
  have B6 := hide' (B5.out.trans (b6.mono B5.out.size))
  have L6 := hide' (L5.out.below b6)
  clear b6
  rcases r6 with ⟨s', hs', rfl⟩ | ⟨hs', rfl⟩
  · obtain ⟨Z, hZ⟩ : ∃ Z, arrF 8 (uF (ctL s')) = Z := ⟨_, rfl⟩
    have zsz : Z.size = 8 := by rw [← hZ, arrF_size]
    have zl : Z.all (·.oneCell') = true := by rw [← hZ]; exact arrF_all _ _ (fun k _ => rfl)
    rw [hZ]
    have gz : (w6.alloc (.cells #[.int .u64 0, .int .u64 0, .int .u64 0, .int .u64 0, .int .u64 0, .int .u64 0, .int .u64 0, .int .u64 0] 40)).heap[w6.heap.size]? = some (.cells #[.int .u64 0, .int .u64 0, .int .u64 0, .int .u64 0, .int .u64 0, .int .u64 0, .int .u64 0, .int .u64 0] 40 (0, 0)) := heap_alloc_new w6 _
    obtain ⟨V, hV⟩ : ∃ V, (w6.alloc (.cells #[.int .u64 0, .int .u64 0, .int .u64 0, .int .u64 0, .int .u64 0, .int .u64 0, .int .u64 0, .int .u64 0] 40)).setRow w6.heap.size Z = V := ⟨_, rfl⟩
    have bv : Below w6.heap.size w6 V := by rw [← hV]; exact below_setRow ((Below.refl _ _).alloc (Nat.le_refl _) _) (Nat.le_refl _) _
    have BV := hide' (B6.out.trans (bv.mono B6.out.size))
    have LC := hide' (LK.out g V BV.out (L6.out.below bv))
    clear hZ hs' bv
    go_wp2_with (first
      | (refine wpList_store_row rfl 40 _ _ rfl w6.heap.size Z rfl rfl 40 _ gz (by rw [zsz]; kernel_rfl) (by rw [zsz]; rfl) zl ?_; rw [hV]))
    refine LC.out.mono ?_
    rintro o w7 ⟨rfl, b7⟩
    have B7 := hide' (BV.out.trans (b7.mono BV.out.size))
    clear b7 hV gz
    go_wp2
    go_ret2
    exact ⟨rfl, B7.out⟩
  · cases hs'
end Go.Proofs.Ytmnacanjbhlfeaa

namespace Go.Proofs.Ytmnacanjbhlfeaa
open Go.RowKit
set_option linter.unusedVariables false
set_option linter.unusedSimpArgs false
theorem cut_Y (L : List UInt8) (a b : Nat) : (⟨L.toArray⟩ : ByteArray).extract a b = ⟨((L.drop a).take (b - a)).toArray⟩ := by apply ByteArray.ext; simp
theorem wrap_natY {n : Nat} (h : n < 2 ^ 62) : IntKind.i64.wrap (n : Int) = (n : Int) := by simp [IntKind.wrap, IntKind.signed, IntKind.bits]; omega
/-- The last place below k at which two texts are unlike, or -1. -/
def luF (p q : List UInt8) : Nat → Int
  | 0 => -1
  | k + 1 => if p.getD k 0 = q.getD k 0 then luF p q k else (k : Int)
theorem luF_cases (p q : List UInt8) (k : Nat) : (luF p q k = -1 ∧ ∀ j, j < k → p.getD j 0 = q.getD j 0) ∨ ∃ u : Nat, luF p q k = (u : Int) ∧ u < k ∧ p.getD u 0 ≠ q.getD u 0 := by
  induction k with
  | zero => exact Or.inl ⟨rfl, fun j h => by omega⟩
  | succ k ih =>
    by_cases e : p.getD k 0 = q.getD k 0
    · rw [luF, if_pos e]
      rcases ih with ⟨h1, h2⟩ | ⟨u, h1, h2, h3⟩
      · refine Or.inl ⟨h1, fun j h => ?_⟩
        by_cases jk : j = k
        · rw [jk]; exact e
        · exact h2 j (by omega)
      · exact Or.inr ⟨u, h1, by omega, h3⟩
    · rw [luF, if_neg e]
      exact Or.inr ⟨k, rfl, by omega, e⟩
set_option maxRecDepth 100000 in
set_option maxHeartbeats 6400000 in
theorem lastUnlike_any (p q : List UInt8) (w : World) (hp : p.length ≤ 40000) (hq : q.length = p.length) : Calls Try.prog 30 #[.string ⟨p.toArray⟩, .string ⟨q.toArray⟩] w fun e w' => e = .returned (.int .i64 (luF p q p.length)) ∧ ∃ m, w' = w.drewN m := by
  go_enter Try.func30, Try.ntmps30
  go_wp2
  go_loopw [5] (fun iv wr => ∃ (k m : Nat), iv = .int .i64 ((k : Int) - 1) ∧ k ≤ p.length ∧ Hid (luF p q k = luF p q p.length) ∧ wr = w.drewN m) (fun iv _ => (intOf iv + 1).toNat)
  case atStart => exact ⟨p.length, 0, rfl, by omega, hide' rfl, rfl⟩
  case round =>
    obtain ⟨k, m, rfl, hk, HK, rfl⟩ := hrel
    rcases k with _ | u
    · have HM := hide' (HK.out.symm)
      clear HK
      go_wp2
      go_ret
      exact ⟨by rw [HM.out]; rfl, m, rfl⟩
    · rw [show ((u + 1 : Nat) : Int) - 1 = (u : Int) by omega]
      have u0 : (0 : Int) ≤ (u : Int) := by omega
      obtain ⟨g0, G0⟩ := byte_at p (i := u) (by omega)
      obtain ⟨g1, G1⟩ := byte_at q (i := u) (by omega)
      have YES := hide' (fun (h : p.getD u 0 = q.getD u 0) => show luF p q u = luF p q p.length by rw [← HK.out, luF, if_pos h])
      have NO := hide' (fun (h : ¬ p.getD u 0 = q.getD u 0) => show luF p q p.length = (u : Int) by rw [← HK.out, luF, if_neg h])
      obtain ⟨c, hc⟩ : ∃ c, p.getD u 0 = c := ⟨_, rfl⟩
      obtain ⟨c', hc'⟩ : ∃ c, q.getD u 0 = c := ⟨_, rfl⟩
      rw [hc, hc'] at NO YES
      rw [hc] at G0
      rw [hc'] at G1
      clear hc hc' HK
      by_cases e : c = c'
      · have YY := hide' (YES.out e)
        have q' : (c.toNat : Int) = (c'.toNat : Int) := by rw [e]
        clear e YES NO
        go_wp2
        go_quiet (fail)
        all_goals go_wp2
        all_goals exact ⟨⟨u, _, by go_num, by omega, YY, rfl⟩, by simp [intOf]⟩
      · have NN := hide' (NO.out e)
        have q' : ¬ (c.toNat : Int) = (c'.toNat : Int) := fun h => e (UInt8.toNat_inj.1 (by omega))
        clear e YES NO
        go_wp2
        go_quiet (fail)
        all_goals go_wp2
        all_goals go_ret
        all_goals exact ⟨by rw [NN.out]; rfl, _, World.drewN_drewN _ _ _⟩
theorem drewT {w wr : World} (h : ∃ m, wr = w.drewN m) (k : Nat) : ∃ m, wr.drewN k = w.drewN m := by
  obtain ⟨m, rfl⟩ := h
  exact ⟨_, World.drewN_drewN _ _ _⟩
theorem luF_pieces (l : List UInt8) (a s k u : Nat) (h1 : a + k ≤ l.length) (h2 : a + s + k ≤ l.length) (hu : u < k) : (((l.drop a).take k).getD u 0 = l.getD (a + u) 0) ∧ (((l.drop (a + s)).take k).getD u 0 = l.getD (a + s + u) 0) := by
  simp [List.getD, List.getElem?_take, hu, List.getElem?_drop]
/-- What comesAgain answers. -/
def CaO (l : List UInt8) (s k : Nat) (e : Ending) : Prop :=
  (∃ a : Nat, a + s + k ≤ l.length ∧ smL l a (a + s) k ∧ (∀ a', a' < a → ¬ smL l a' (a' + s) k) ∧ e = .returned (.tuple #[.int .i64 (a : Int), .bool true]))
  ∨ ((∀ a', a' + s + k ≤ l.length → ¬ smL l a' (a' + s) k) ∧ e = .returned (.tuple #[.int .i64 0, .bool false]))
set_option maxRecDepth 100000 in
set_option maxHeartbeats 6400000 in
theorem comesAgain_any (l : List UInt8) (s k : Nat) (w : World) (hl : l.length ≤ 40000) (hs : s ≤ 40000) (hk1 : 1 ≤ k) (hk : k ≤ 40001) : Calls Try.prog 20 #[.string ⟨l.toArray⟩, .int .i64 (s : Int), .int .i64 (k : Int)] w fun e w' => CaO l s k e ∧ ∃ m, w' = w.drewN m := by
  go_enter Try.func20, Try.ntmps20
  go_wp2
  go_loopw [8, 9] (fun av _ wr => ∃ (a : Nat), av = .int .i64 (a : Int) ∧ a ≤ l.length ∧ Hid (∀ a', a' < a → ¬ smL l a' (a' + s) k) ∧ Hid (∃ m, wr = w.drewN m)) (fun av _ _ => l.length - (intOf av).toNat)
  case atStart => exact ⟨0, rfl, by omega, hide' fun j h => by omega, hide' ⟨0, rfl⟩⟩
  case round =>
    obtain ⟨a, rfl, ha, HA, HW⟩ := hrel
    by_cases d : (a : Int) + (s : Int) + (k : Int) ≤ (l.length : Int)
    · have LU := hide' (fun (p q : List UInt8) (hp : p = (l.drop a).take k) (hq : q = (l.drop (a + s)).take k) (V : World) => lastUnlike_any p q V (by rw [hp, List.length_take]; omega) (by rw [hp, hq, List.length_take, List.length_take, List.length_drop, List.length_drop]; omega))
      have LN := hide' (show ((l.drop a).take k).length = k by rw [List.length_take, List.length_drop]; omega)
      have CS := hide' (luF_cases ((l.drop a).take k) ((l.drop (a + s)).take k) k)
      have PC := hide' (fun u (h : u < k) => luF_pieces l a s k u (by omega) (by omega) h)
      have x1 : (⟨l.toArray⟩ : ByteArray).extract a (a + k) = ⟨((l.drop a).take k).toArray⟩ := by rw [cut_Y, show a + k - a = k by omega]
      have x2 : (⟨l.toArray⟩ : ByteArray).extract (a + s) (a + s + k) = ⟨((l.drop (a + s)).take k).toArray⟩ := by rw [cut_Y, show a + s + k - (a + s) = k by omega]
      obtain ⟨p, hp⟩ : ∃ p, (l.drop a).take k = p := ⟨_, rfl⟩
      obtain ⟨q, hq⟩ : ∃ q, (l.drop (a + s)).take k = q := ⟨_, rfl⟩
      rw [hp] at x1 CS LN PC
      rw [hq] at x2 CS PC
      have LU2 := hide' (LU.out p q hp.symm hq.symm)
      rw [LN.out] at LU2
      clear LU hp hq
      obtain ⟨b, hb⟩ : ∃ b, a + k = b := ⟨_, rfl⟩
      obtain ⟨c, hc⟩ : ∃ c, a + s = c := ⟨_, rfl⟩
      obtain ⟨f, hf⟩ : ∃ f, c + k = f := ⟨_, rfl⟩
      rw [hb] at x1
      rw [hc, hf] at x2
      have e1 : (a : Int) + (k : Int) = (b : Int) := by omega
      have e2 : (a : Int) + (s : Int) = (c : Int) := by omega
      have e3 : (c : Int) + (k : Int) = (f : Int) := by omega
      have fl : f ≤ l.length := by omega
      have bl : b ≤ l.length := by omega
      have ab : a ≤ b := by omega
      have cf : c ≤ f := by omega
      have HB := hide' (And.intro hb (And.intro hc hf))
      have b4 : (b : Int) ≤ 40000 := by omega
      have c4 : (c : Int) ≤ 40000 := by omega
      have f4 : (f : Int) ≤ 40000 := by omega
      have a0 : (0 : Int) ≤ (a : Int) := by omega
      have c0 : (0 : Int) ≤ (c : Int) := by omega
      have b0 : (0 : Int) ≤ (b : Int) := by omega
      have f0 : (0 : Int) ≤ (f : Int) := by omega
      have ab' : (a : Int) ≤ (b : Int) := by omega
      have cf' : (c : Int) ≤ (f : Int) := by omega
      have bl' : (b : Int) ≤ (l.length : Int) := by omega
      have fl' : (f : Int) ≤ (l.length : Int) := by omega
      clear hb hc hf
      have wb : IntKind.i64.wrap (b : Int) = (b : Int) := wrap_natY (by omega)
      have wc : IntKind.i64.wrap (c : Int) = (c : Int) := wrap_natY (by omega)
      have wf : IntKind.i64.wrap (f : Int) = (f : Int) := wrap_natY (by omega)
      rcases CS.out with ⟨h1, h2⟩ | ⟨u, h1, h2, h3⟩
      · rw [h1] at LU2
        have YY := hide' (show smL l a (a + s) k from fun j hj => by rw [← (PC.out j hj).1, ← (PC.out j hj).2]; exact h2 j hj)
        clear h1 h2 CS
        go_wp2
        go_quiet ((go_at_call 30; exact Calls.quiet_of (LU2.out _)))
        all_goals go_wp2
        all_goals go_ret2
        all_goals exact ⟨Or.inl ⟨a, by omega, YY.out, HA.out, rfl⟩, drewT HW.out _⟩
      · rw [h1] at LU2
        have NN := hide' (show ∀ a', a' < a + u + 1 → ¬ smL l a' (a' + s) k from fun a' h' sm => by
          by_cases q : a' < a
          · exact HA.out a' q sm
          · have := sm (a + u - a') (by omega)
            rw [show a' + (a + u - a') = a + u by omega, show a' + s + (a + u - a') = a + s + u by omega] at this
            exact h3 (by rw [(PC.out u h2).1, (PC.out u h2).2]; exact this))
        clear h1 h3 CS
        go_wp2
        go_quiet ((go_at_call 30; exact Calls.quiet_of (LU2.out _)))
        all_goals go_wp2
        all_goals exact ⟨⟨a + u + 1, by go_num, by omega, NN, hide' (drewT HW.out _)⟩, by simp [intOf]; omega⟩
    · have NN := hide' (show ∀ a', a' + s + k ≤ l.length → ¬ smL l a' (a' + s) k from fun a' h' => HA.out a' (by omega))
      go_wp2
      go_ret2
      exact ⟨Or.inr ⟨NN.out, rfl⟩, HW.out⟩
end Go.Proofs.Ytmnacanjbhlfeaa

namespace Go.Proofs.Ytmnacanjbhlfeaa
open Go.RowKit
set_option linter.unusedVariables false
set_option linter.unusedSimpArgs false
theorem rpL_only {l : List UInt8} {m e n e' n' : Nat} (h1 : rpL l m e n) (h2 : noR l m e) (h3 : noS l m e n) (k1 : rpL l m e' n') (k2 : noR l m e') (k3 : noS l m e' n') : e = e' ∧ n = n' := by
  have q : e = e' := by
    rcases Nat.lt_trichotomy e e' with q | q | q
    · exact absurd h1 (k2 e n q)
    · exact q
    · exact absurd k1 (h2 e' n' q)
  subst q
  refine ⟨rfl, ?_⟩
  rcases Nat.lt_trichotomy n n' with q | q | q
  · exact absurd h1 (k3 n q)
  · exact q
  · exact absurd k1 (h3 n' q)
/-- There is one answer. -/
theorem RepOut.only {l : List UInt8} {m : Nat} {o o' : Ending} (h : RepOut l m o) (h' : RepOut l m o') : o = o' := by
  rcases h with ⟨e, n, he, h1, h2, h3, h4, rfl⟩ | ⟨h1, rfl⟩
  · rcases h' with ⟨e', n', he', k1, k2, k3, k4, rfl⟩ | ⟨k1, rfl⟩
    · obtain ⟨rfl, rfl⟩ := rpL_only h1 h2 h3 k1 k2 k3; rfl
    · rcases k1 with k | k
      · omega
      · exact absurd h1 (k e n (by omega))
  · rcases h' with ⟨e', n', he', k1, k2, k3, k4, rfl⟩ | ⟨k1, rfl⟩
    · rcases h1 with k | k
      · omega
      · exact absurd k1 (k e' n' (by omega))
    · rfl
theorem RepOut.form {l : List UInt8} {m : Nat} {o : Ending} (h : RepOut l m o) : ∃ (x y : Int) (z : Bool), o = .returned (.tuple #[.int .i64 x, .int .i64 y, .bool z]) := by
  rcases h with ⟨e, n, he, h1, h2, h3, h4, rfl⟩ | ⟨h1, rfl⟩
  · exact ⟨_, _, _, rfl⟩
  · exact ⟨_, _, _, rfl⟩
end Go.Proofs.Ytmnacanjbhlfeaa

