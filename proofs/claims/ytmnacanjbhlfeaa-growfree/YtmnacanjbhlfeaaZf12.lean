/-
  What the last text of this claim leans on, part 12: Gx3, LawGf0, LawGfA.
-/
import Derived.Test.YtmnacanjbhlfeaaZf11
import Derived.Test.YtmnacanjbhlfeaaZf10
namespace Go.Proofs.Ytmnacanjbhlfeaa
open Go.RowKit
set_option linter.unusedVariables false
set_option linter.unusedSimpArgs false
theorem itL_append (xs : List (List UInt8)) : ∀ (n : Nat) (a b : List UInt8), itL xs n (a ++ b) = itL xs n a ++ itL xs n b
  | 0, a, b => rfl
  | n + 1, a, b => by show itL xs n (imgL xs (a ++ b)) = itL xs n (imgL xs a) ++ itL xs n (imgL xs b); rw [imgL_append, itL_append xs n]
theorem itL_last (xs : List (List UInt8)) : ∀ (n : Nat) (l : List UInt8), itL xs (n + 1) l = imgL xs (itL xs n l)
  | 0, l => rfl
  | n + 1, l => by show itL xs (n + 1) (imgL xs l) = _; rw [itL_last xs n]; rfl
theorem gwN_it {xs : List (List UInt8)} : ∀ {n : Nat} {l s : List UInt8}, gwN xs n l = some s → s = itL xs n l
  | 0, l, s, h => (Option.some.inj h).symm
  | n + 1, l, s, h => by
    rw [gwN_succ] at h
    split at h
    · cases h
    · have e : s = itL xs n (imgL xs l) := gwN_it h
      exact e
theorem gwN_some {xs : List (List UInt8)} : ∀ {n : Nat} {l : List UInt8}, (∀ k, k < n → (itL xs (k + 1) l).length ≤ 40000) → gwN xs n l = some (itL xs n l)
  | 0, l, h => rfl
  | n + 1, l, h => by
    rw [gwN_succ, if_neg]
    · exact gwN_some (fun k hk => h (k + 1) (by omega))
    · have := h 0 (by omega)
      have e : itL xs 1 l = imgL xs l := rfl
      rw [e] at this
      omega
/-- n rounds and m are n + m. -/
theorem gwN_add (xs : List (List UInt8)) (m : Nat) : ∀ (n : Nat) (l : List UInt8), gwN xs (n + m) l = (gwN xs n l).bind (gwN xs m)
  | 0, l => by rw [Nat.zero_add]; rfl
  | n + 1, l => by
    rw [show n + 1 + m = (n + m) + 1 by omega, gwN_succ, gwN_succ]
    split
    · rfl
    · exact gwN_add xs m n _
/-- What grows is what is counted. -/
theorem gwN_cnW {xs : List (List UInt8)} : ∀ {n : Nat} {l s : List UInt8}, gwN xs n l = some s → cnW xs n l = some s
  | 0, l, s, h => h
  | n + 1, l, s, h => by
    rw [gwN_succ] at h
    rw [cnW_succ]
    split at h
    · cases h
    · rw [if_neg (by omega)]; exact gwN_cnW h
theorem gwN_len {xs : List (List UInt8)} : ∀ {n : Nat} {l s : List UInt8}, gwN xs n l = some s → l.length ≤ 40000 → s.length ≤ 40000
  | 0, l, s, h, hl => by rw [← Option.some.inj h]; exact hl
  | n + 1, l, s, h, hl => by
    rw [gwN_succ] at h
    split at h
    · cases h
    · exact gwN_len h (by omega)
theorem gwN_all {xs : List (List UInt8)} {n : Nat} (h : ∀ k, k < n → (xs.getD k []).all (ltB n) = true) {m : Nat} {l s : List UInt8} (hl : l.all (ltB n) = true) (e : gwN xs m l = some s) : s.all (ltB n) = true := cnW_all h hl (gwN_cnW e)
/-- The front of what grows stays. -/
theorem itL_front {xs : List (List UInt8)} {r : List UInt8} (h : imgL xs [97] = 97 :: r) : ∀ d n, ∃ t, itL xs (n + d) [97] = itL xs n [97] ++ t
  | 0, n => ⟨[], by rw [List.append_nil]; rfl⟩
  | d + 1, n => by
    obtain ⟨t, e⟩ := itL_front h d n
    have : itL xs (n + (d + 1)) [97] = itL xs (n + d) [97] ++ itL xs (n + d) r := by
      rw [show n + (d + 1) = (n + d) + 1 by omega]
      show itL xs (n + d) (imgL xs [97]) = _
      rw [h, show (97 :: r : List UInt8) = [97] ++ r from rfl, itL_append]
    exact ⟨t ++ itL xs (n + d) r, by rw [this, e, List.append_assoc]⟩
theorem front_take {xs : List (List UInt8)} {r : List UInt8} (h : imgL xs [97] = 97 :: r) {N : Nat} (hN : 1200 ≤ (itL xs N [97]).length) (n : Nat) : ∃ k, (itL xs n [97]).take 1200 = ((itL xs N [97]).take 1200).take k := by
  by_cases q : n ≤ N
  · obtain ⟨t, e⟩ := itL_front h (N - n) n
    rw [show n + (N - n) = N by omega] at e
    refine ⟨(itL xs n [97]).length, ?_⟩
    rw [e, List.take_take, Nat.min_comm, ← List.take_take, List.take_left]
  · obtain ⟨t, e⟩ := itL_front h (n - N) N
    rw [show N + (n - N) = n by omega] at e
    refine ⟨1200, ?_⟩
    rw [e, List.take_take, Nat.min_self, List.take_append_of_le_length hN]
theorem noR_take {l : List UInt8} {m : Nat} (h : noR l m (l.length + 1)) (k : Nat) : noR (l.take k) m ((l.take k).length + 1) := fun e n he r => by
  have le : e ≤ l.length ∧ e ≤ k := by rw [List.length_take] at he; omega
  have := r.2.1
  exact h e n (by omega) ⟨r.1, r.2.1, smL_take (k := k) (by omega) (by omega) r.2.2⟩
theorem free_noR {l : List UInt8} {a b c m P : Nat} (ha : mskL 97 l = a) (hb : mskL 98 l = b) (hc : mskL 99 l = c) (hl : l.all (ltB 3) = true) (h : freB a b c m P = true) (hP : l.length ≤ 2 * P + 1) : noR l m (l.length + 1) := fun e n he r =>
  free_of ha hb hc (fun j hj => by
    obtain ⟨q1, q2⟩ := ltB_at hl hj
    rcases (show (l.getD j 0).toNat = 97 ∨ (l.getD j 0).toNat = 98 ∨ (l.getD j 0).toNat = 99 by omega) with q | q | q
    · left; exact UInt8.toNat_inj.1 q
    · right; left; exact UInt8.toNat_inj.1 q
    · right; right; exact UInt8.toNat_inj.1 q) h hP e n (by omega) r
theorem thT_all : thT.all (ltB 3) = true := by kernel_rfl
theorem teT_all : teT.all (ltB 3) = true := by kernel_rfl
theorem thT_noR : noR thT 1 (thT.length + 1) := free_noR thT_a thT_b thT_c thT_all thT_free (by rw [thT_len]; omega)
theorem teT_noR : noR teT 0 (teT.length + 1) := free_noR teT_a teT_b teT_c teT_all teT_free (by rw [teT_len]; omega)
theorem len_ge {l : List UInt8} {k : Nat} (h : (l.take k).length = k) : k ≤ l.length := by rw [List.length_take] at h; omega
/-- THUE: what grows of ab, ba has no overlap (of its first 1200 letters). -/
theorem th_free {n : Nat} {s : List UInt8} (h : gwN thX n [97] = some s) : noR (s.take 1200) 1 ((s.take 1200).length + 1) := by
  obtain rfl := gwN_it h
  obtain ⟨k, e⟩ := front_take (xs := thX) (r := [98]) rfl (N := 11) (len_ge thT_len) n
  rw [e]
  exact noR_take thT_noR k
/-- .. and of abc, ac, b no square. -/
theorem te_free {n : Nat} {s : List UInt8} (h : gwN teX n [97] = some s) : noR (s.take 1200) 0 ((s.take 1200).length + 1) := by
  obtain rfl := gwN_it h
  obtain ⟨k, e⟩ := front_take (xs := teX) (r := [98, 99]) rfl (N := 10) (len_ge teT_len) n
  rw [e]
  exact noR_take teT_noR k
theorem it_all {xs : List (List UInt8)} {n : Nat} (h : ∀ k, k < n → (xs.getD k []).all (ltB n) = true) : ∀ (m : Nat) {l : List UInt8}, l.all (ltB n) = true → (itL xs m l).all (ltB n) = true
  | 0, l, hl => hl
  | m + 1, l, hl => it_all h m (imgL_all h hl)
theorem thX_ok : ∀ k, k < 2 → (thX.getD k []).all (ltB 2) = true := fun k hk => by
  rcases (show k = 0 ∨ k = 1 by omega) with rfl | rfl <;> kernel_rfl
theorem teX_ok : ∀ k, k < 3 → (teX.getD k []).all (ltB 3) = true := fun k hk => by
  rcases (show k = 0 ∨ k = 1 ∨ k = 2 by omega) with rfl | rfl | rfl <;> kernel_rfl
theorem th_len : ∀ n, (itL thX n [97]).length = 2 ^ n
  | 0 => rfl
  | n + 1 => by
    have al := it_all thX_ok n (l := [97]) (by kernel_rfl)
    have e := lnV_is (xs := thX) al
    have s := ctL_sum al
    rw [th_len n] at s
    have c0 : (thX.getD 0 []).length = 2 := rfl
    have c1 : (thX.getD 1 []).length = 2 := rfl
    simp only [lnV, smG, c0, c1] at e s
    rw [itL_last, ← e, Nat.pow_succ]
    omega
theorem te_cnt : ∀ n, ctL (itL teX (n + 1) [97]) 0 = 2 ^ n ∧ ctL (itL teX (n + 1) [97]) 1 = 2 ^ n ∧ ctL (itL teX (n + 1) [97]) 2 = 2 ^ n
  | 0 => by refine ⟨?_, ?_, ?_⟩ <;> kernel_rfl
  | n + 1 => by
    obtain ⟨i0, i1, i2⟩ := te_cnt n
    have al := it_all teX_ok (n + 1) (l := [97]) (by kernel_rfl)
    have e := nxV_is (xs := teX) al
    have g : ∀ x, ctL (itL teX (n + 1 + 1) [97]) x = 2 ^ n * ctL (teX.getD 0 []) x + 2 ^ n * ctL (teX.getD 1 []) x + 2 ^ n * ctL (teX.getD 2 []) x := fun x => by
      rw [itL_last, ← e]
      simp only [nxV, smG, i0, i1, i2]
      omega
    have k0 : ctL (teX.getD 0 []) 0 = 1 ∧ ctL (teX.getD 1 []) 0 = 1 ∧ ctL (teX.getD 2 []) 0 = 0 := by refine ⟨?_, ?_, ?_⟩ <;> kernel_rfl
    have k1 : ctL (teX.getD 0 []) 1 = 1 ∧ ctL (teX.getD 1 []) 1 = 0 ∧ ctL (teX.getD 2 []) 1 = 1 := by refine ⟨?_, ?_, ?_⟩ <;> kernel_rfl
    have k2 : ctL (teX.getD 0 []) 2 = 1 ∧ ctL (teX.getD 1 []) 2 = 1 ∧ ctL (teX.getD 2 []) 2 = 0 := by refine ⟨?_, ?_, ?_⟩ <;> kernel_rfl
    refine ⟨?_, ?_, ?_⟩
    · rw [g, k0.1, k0.2.1, k0.2.2, Nat.pow_succ]; omega
    · rw [g, k1.1, k1.2.1, k1.2.2, Nat.pow_succ]; omega
    · rw [g, k2.1, k2.2.1, k2.2.2, Nat.pow_succ]; omega
theorem te_len (n : Nat) : (itL teX (n + 1) [97]).length = 3 * 2 ^ n := by
  have al := it_all teX_ok (n + 1) (l := [97]) (by kernel_rfl)
  have s := ctL_sum al
  obtain ⟨i0, i1, i2⟩ := te_cnt n
  simp only [smG, i0, i1, i2] at s
  omega
theorem th_some {n : Nat} (hn : n ≤ 15) : gwN thX n [97] = some (itL thX n [97]) := gwN_some fun k hk => by
  rw [th_len]
  have : 2 ^ (k + 1) ≤ 2 ^ 15 := Nat.pow_le_pow_right (by omega) (by omega)
  omega
theorem te_some {n : Nat} (hn : n ≤ 14) : gwN teX n [97] = some (itL teX n [97]) := gwN_some fun k hk => by
  rw [te_len]
  have : 2 ^ k ≤ 2 ^ 13 := Nat.pow_le_pow_right (by omega) (by omega)
  omega
end Go.Proofs.Ytmnacanjbhlfeaa

namespace Go.Proofs.Ytmnacanjbhlfeaa
open Go.RowKit
set_option linter.unusedVariables false
set_option linter.unusedSimpArgs false
/-- Lists of texts that are built on the spot. -/
theorem argX_two (x y : List UInt8) (hx : x.length ≤ 12) (hy : y.length ≤ 12) (V : World) : ArgX (V.alloc (.cells #[.string ⟨x.toArray⟩, .string ⟨y.toArray⟩] 9)) [x, y] (some ⟨V.heap.size, 0, none⟩) 2 2 := by
  have e := heap_alloc_new V (.cells #[.string ⟨x.toArray⟩, .string ⟨y.toArray⟩] 9)
  refine ⟨rfl, by unfold maxLen; omega, fun k hk => ?_, fun k hk => ⟨V.heap.size, 0, rfl, lt_of_block e, ?_⟩⟩
  · match k, hk with
    | 0, _ => show x.length ≤ _; unfold maxLen; omega
    | 1, _ => show y.length ≤ _; unfold maxLen; omega
  · rw [cell_of_row _ _ _ _ _ _ e]
    match k, hk with
    | 0, _ => rfl
    | 1, _ => rfl
theorem argX_three (x y z : List UInt8) (hx : x.length ≤ 12) (hy : y.length ≤ 12) (hz : z.length ≤ 12) (V : World) : ArgX (V.alloc (.cells #[.string ⟨x.toArray⟩, .string ⟨y.toArray⟩, .string ⟨z.toArray⟩] 9)) [x, y, z] (some ⟨V.heap.size, 0, none⟩) 3 3 := by
  have e := heap_alloc_new V (.cells #[.string ⟨x.toArray⟩, .string ⟨y.toArray⟩, .string ⟨z.toArray⟩] 9)
  refine ⟨rfl, by unfold maxLen; omega, fun k hk => ?_, fun k hk => ⟨V.heap.size, 0, rfl, lt_of_block e, ?_⟩⟩
  · match k, hk with
    | 0, _ => show x.length ≤ _; unfold maxLen; omega
    | 1, _ => show y.length ≤ _; unfold maxLen; omega
    | 2, _ => show z.length ≤ _; unfold maxLen; omega
  · rw [cell_of_row _ _ _ _ _ _ e]
    match k, hk with
    | 0, _ => rfl
    | 1, _ => rfl
    | 2, _ => rfl
theorem gwA_some {xs : List (List UInt8)} {l : List UInt8} {n : Int} {e : Ending} {s : List UInt8} (h : GwA xs l n e) (h0 : gwF xs l n = 0) (hs : gwN xs n.toNat l = some s) : e = .returned (.tuple #[.string ⟨s.toArray⟩, .nilIface]) := by
  rcases h with ⟨_, s', hs', rfl⟩ | ⟨_, hn, _⟩ | ⟨hq, _⟩
  · rw [hs] at hs'; cases hs'; rfl
  · rw [hs] at hn; cases hn
  · exact absurd h0 hq
/-- The fact that the law begins with. -/
theorem fact_any (V : World) : Calls Try.prog 8 #[.slice (some ⟨V.heap.size, 0, none⟩) 2 2, .string ⟨#[97]⟩, .int .i64 4] (V.alloc (.cells #[.string ⟨#[97, 98]⟩, .string ⟨#[97]⟩] 9)) fun e w' => e = .returned (.tuple #[.string ⟨#[97, 98, 97, 97, 98, 97, 98, 97]⟩, .nilIface]) ∧ Below V.heap.size V w' := by
  refine (growGrow_any [[97, 98], [97]] _ 2 2 [97] 4 _ (argX_two [97, 98] [97] (by decide) (by decide) V) (by unfold maxLen; decide)).mono ?_
  rintro e w' ⟨h, b⟩
  exact ⟨gwA_some h (by kernel_rfl) (by kernel_rfl), ((Below.refl _ _).alloc (Nat.le_refl _) _).trans (b.mono (by simp))⟩
theorem th_gw {n : Nat} (hn : n ≤ 15) : gwF thX [97] (n : Int) = 0 := by
  have h1 : imF thX = 0 := by kernel_rfl
  have h2 : ([97] : List UInt8).all (ltB thX.length) = true := by kernel_rfl
  unfold gwF
  rw [if_pos h1, if_neg (by decide), if_pos h2, if_neg (by omega)]
theorem te_gw {n : Nat} (hn : n ≤ 15) : gwF teX [97] (n : Int) = 0 := by
  have h1 : imF teX = 0 := by kernel_rfl
  have h2 : ([97] : List UInt8).all (ltB teX.length) = true := by kernel_rfl
  unfold gwF
  rw [if_pos h1, if_neg (by decide), if_pos h2, if_neg (by omega)]
/-- Thue's first word. -/
theorem thG_any (n : Nat) (hn : n ≤ 15) (V : World) : Calls Try.prog 8 #[.slice (some ⟨V.heap.size, 0, none⟩) 2 2, .string ⟨#[97]⟩, .int .i64 (n : Int)] (V.alloc (.cells #[.string ⟨#[97, 98]⟩, .string ⟨#[98, 97]⟩] 9)) fun e w' => (∃ s : List UInt8, e = .returned (.tuple #[.string ⟨s.toArray⟩, .nilIface]) ∧ s.length ≤ 40000 ∧ noR (s.take 1200) 1 ((s.take 1200).length + 1)) ∧ Below V.heap.size V w' := by
  refine (growGrow_any thX _ 2 2 [97] n _ (argX_two [97, 98] [98, 97] (by decide) (by decide) V) (by unfold maxLen; decide)).mono ?_
  rintro e w' ⟨h, b⟩
  have hs := th_some hn
  exact ⟨⟨_, gwA_some h (th_gw hn) (by rw [Int.toNat_natCast]; exact hs), gwN_len hs (by decide), th_free hs⟩, ((Below.refl _ _).alloc (Nat.le_refl _) _).trans (b.mono (by simp))⟩
/-- His second one. -/
theorem teG_any (n : Nat) (hn : n ≤ 15) (V : World) : Calls Try.prog 8 #[.slice (some ⟨V.heap.size, 0, none⟩) 3 3, .string ⟨#[97]⟩, .int .i64 (n : Int)] (V.alloc (.cells #[.string ⟨#[97, 98, 99]⟩, .string ⟨#[97, 99]⟩, .string ⟨#[98]⟩] 9)) fun e w' => ((∃ s : List UInt8, e = .returned (.tuple #[.string ⟨s.toArray⟩, .nilIface]) ∧ s.length ≤ 40000 ∧ noR (s.take 1200) 0 ((s.take 1200).length + 1)) ∨ (14 < n ∧ e = .returned (.tuple #[.string ⟨#[]⟩, .iface 48 (.int .i64 4)]))) ∧ Below V.heap.size V w' := by
  refine (growGrow_any teX _ 3 3 [97] n _ (argX_three [97, 98, 99] [97, 99] [98] (by decide) (by decide) (by decide) V) (by unfold maxLen; decide)).mono ?_
  rintro e w' ⟨h, b⟩
  refine ⟨?_, ((Below.refl _ _).alloc (Nat.le_refl _) _).trans (b.mono (by simp))⟩
  rcases h with ⟨_, s, hs, rfl⟩ | ⟨_, hs, rfl⟩ | ⟨hq, _⟩
  · rw [Int.toNat_natCast] at hs
    exact Or.inl ⟨s, rfl, gwN_len hs (by decide), te_free hs⟩
  · rw [Int.toNat_natCast] at hs
    refine Or.inr ⟨?_, rfl⟩
    rcases Nat.lt_or_ge 14 n with q | q
    · exact q
    · rw [te_some q] at hs; cases hs
  · exact absurd (te_gw hn) hq
/-- Nothing stands there twice. -/
theorem none_over {l : List UInt8} {m : Nat} {e : Ending} (h : RepOut l m e) (hn : noR l m (l.length + 1)) : e = .returned (.tuple #[.int .i64 0, .int .i64 0, .bool false]) := by
  rcases h with ⟨x, y, hx, h1, _⟩ | ⟨_, rfl⟩
  · exact absurd h1 (hn x y (by omega))
  · rfl
theorem take_all {l : List UInt8} {k : Nat} (h : l.length ≤ k) : l.take k = l := List.take_of_length_le h
/-- Where rounds go on. -/
theorem gwF_on {xs : List (List UInt8)} {l s : List UInt8} {n m : Nat} (h0 : gwF xs l (n : Int) = 0) (hs : gwN xs n l = some s) (hm : n + m ≤ 60) : gwF xs s (m : Int) = 0 ∧ gwF xs l ((n + m : Nat) : Int) = 0 := by
  obtain ⟨ok, l4, la, n0, n6⟩ := gwF_good h0
  have OK3 := (imF_ok ok).2.2
  have sa := gwN_all (n := xs.length) (fun k hk => (OK3 k hk).2) la hs
  have s4 := gwN_len hs l4
  constructor
  · unfold gwF; rw [if_pos ok, if_neg (by omega), if_pos sa, if_neg (by omega)]
  · unfold gwF; rw [if_pos ok, if_neg (by omega), if_pos la, if_neg (by omega)]
/-- What the last two Grows answer is the same. -/
theorem two_same {xs : List (List UInt8)} {l s : List UInt8} {n m : Nat} {e f : Ending} (h0 : gwF xs l (n : Int) = 0) (hs : gwN xs n l = some s) (hm : n + m ≤ 60) (he : GwA xs s (m : Int) e) (hf : GwA xs l ((n + m : Nat) : Int) f) :
    (∃ t : List UInt8, e = .returned (.tuple #[.string ⟨t.toArray⟩, .nilIface]) ∧ f = .returned (.tuple #[.string ⟨t.toArray⟩, .nilIface])) ∨ (e = .returned (.tuple #[.string ⟨#[]⟩, .iface 48 (.int .i64 4)]) ∧ f = .returned (.tuple #[.string ⟨#[]⟩, .iface 48 (.int .i64 4)])) := by
  obtain ⟨g1, g2⟩ := gwF_on h0 hs hm
  have ad := gwN_add xs m n l
  rw [hs, Option.bind_some] at ad
  rcases he with ⟨_, t, ht, rfl⟩ | ⟨_, ht, rfl⟩ | ⟨q, _⟩
  · rw [Int.toNat_natCast] at ht
    exact Or.inl ⟨t, rfl, gwA_some hf g2 (by rw [Int.toNat_natCast, ad]; exact ht)⟩
  · rw [Int.toNat_natCast] at ht
    rcases hf with ⟨_, u, hu, _⟩ | ⟨_, _, rfl⟩ | ⟨q, _⟩
    · rw [Int.toNat_natCast, ad, ht] at hu; cases hu
    · exact Or.inr ⟨rfl, rfl⟩
    · exact absurd g2 q
  · exact absurd g1 q
/-- How often a letter stands there, a place on. -/
theorem ct_on {s : List UInt8} {n : Nat} (ha : s.all (ltB n) = true) {j i : Nat} (hj : j < s.length) : ctL (s.take (j + 1)) i = if ((s.getD j 0).toNat : Int) - 97 = (i : Int) then ctL (s.take j) i + 1 else ctL (s.take j) i := by
  have h := ltB_at ha hj
  rw [ctL_next hj]
  by_cases e : i = (s.getD j 0).toNat - 97
  · rw [if_pos e, if_pos (by omega)]
  · rw [if_neg e, if_neg (by omega)]
end Go.Proofs.Ytmnacanjbhlfeaa

namespace Go.Proofs.Ytmnacanjbhlfeaa
open Go.RowKit
set_option linter.unusedVariables false
set_option linter.unusedSimpArgs false
set_option maxRecDepth 100000 in
set_option maxHeartbeats 51200000 in
theorem law_free_A (xs : List (List UInt8)) (a : Option Addr) (k c : Nat) (l : List UInt8) (n m t : Int) (w : World) (hA : ArgX w xs a k c) (hl : l.length ≤ maxLen) (hm : m ≤ 9223372036854775807) (hn : n < 0) :
    Calls Try.prog 4 #[.slice a k c, .string ⟨l.toArray⟩, .int .i64 n, .int .i64 m, .int .i64 t] w fun e w' => e = .returned (.bool true) ∧ Below w.heap.size w w' := by
  have FC := hide' (fact_any w)
  have KL := hide' hA.len
  have GG := hide' (fun (V : World) (h : Below w.heap.size w V) => growGrow_any xs a k c l n V (hA.below h) hl)
  have CG := hide' (fun (V : World) (h : Below w.heap.size w V) => growCount_any xs a k c l n V (hA.below h) hl)
  have LG := hide' (fun (n' t' : Nat) (s : List UInt8) (h0 : gwF xs l (n' : Int) = 0) (hs : cnW xs n' l = some s) (ht : t' < s.length) (V : World) (h : Below w.heap.size w V) => growLetter_some xs a k c l n' t' s V (hA.below h) hl h0 hs ht)
  have G2 := hide' (fun (s : List UInt8) (hs : s.length ≤ maxLen) (x : Int) (V : World) (h : Below w.heap.size w V) => growGrow_any xs a k c s x V (hA.below h) hs)
  have HLL := hide' hl
  clear hA hl
  go_enter Try.func4, Try.ntmps4
  go_wp2_with fail
  refine FC.out.mono ?_
  rintro o w1 ⟨rfl, b1⟩
  have B1 := hide' b1
  clear b1 FC
  have BW := B1
  go_wp2_with fail
  refine (GG.out _ BW.out).mono ?_
  rintro o w2 ⟨r2, b2⟩
  have B2 := hide' (BW.out.trans (b2.mono BW.out.size))
  clear b2
  rcases r2 with ⟨q, s, hs, rfl⟩ | ⟨q, hs, rfl⟩ | ⟨q, rfl⟩
  · obtain ⟨ok, l4, la, n0, n6⟩ := gwF_good q
    omega
  · go_wp2
    go_ret
    exact ⟨rfl, B2.out⟩
  · rw [errOf_no q]
    go_wp2
    go_ret
    exact ⟨rfl, B2.out⟩
end Go.Proofs.Ytmnacanjbhlfeaa

