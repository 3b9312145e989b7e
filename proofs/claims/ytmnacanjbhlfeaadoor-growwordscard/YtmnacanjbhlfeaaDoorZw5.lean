/-
  What the last text of this claim leans on, part 5: Gw7, Gw8, Gw9.
-/
import Derived.Test.YtmnacanjbhlfeaaDoorZw4
namespace Go.Proofs.YtmnacanjbhlfeaaDoor
open Go.RowKit
set_option linter.unusedVariables false
set_option linter.unusedSimpArgs false
/-- What Count answers. -/
def CnO (o : Option (Nat → Nat)) (w : World) (n : Nat) (e : Ending) (w' : World) : Prop :=
  (∃ f g, o = some f ∧ e = .returned (.tuple #[.slice (some ⟨g, 0, none⟩) n n, .int .i64 0]) ∧ RowG w' g n f ∧ w.heap.size ≤ g ∧ ∀ k, k < n → f k ≤ 1000000000000000000)
  ∨ (o = none ∧ e = .returned (.tuple #[.slice none 0 0, .int .i64 4]))
set_option maxRecDepth 100000 in
set_option maxHeartbeats 25600000 in
theorem refCount_any (xs : List (List UInt8)) (a : Option Addr) (n c : Nat) (l : List UInt8) (m : Nat) (w : World) (hA : ArgX w xs a n c) (ok : imF xs = 0) (hl : l.length ≤ 40000) (hlt : l.all (ltB n) = true) (hm : m ≤ 60) :
    Calls Tryd.prog 12 #[.slice a n c, .string ⟨l.toArray⟩, .int .i64 (m : Int)] w fun e w' => CnO (cnN xs n m (ctL l)) w n e w' ∧ Below w.heap.size w w' := by
  obtain ⟨a1, a2, a3⟩ := imF_ok ok
  have OKX := hide' (fun k (hk : k < n) => show (xs.getD k []).length ≤ 12 ∧ (xs.getD k []).all (ltB n) = true by rw [hA.len] at hk ⊢; exact a3 k hk)
  have NL := hide' hA.len
  have HA := hide' (fun (V : World) (h : Below w.heap.size w V) => hA.below h)
  have hn8 : n ≤ 8 := by rw [hA.len]; exact a2
  have LT := hide' hlt
  have MK := hide' (fun (V : World) => run_make_row' (P := Tryd.prog) 33 3 (.int .i64 0) 8 Tryd.underlying33 info_int rfl .i64 .i64 n (by omega) (by omega) V)
  have mk := MK.out w
  obtain ⟨w1, hw1⟩ : ∃ w1, w.alloc (.cells (madeCells #[.int .i64 0] n) 3) = w1 := ⟨_, rfl⟩
  have R1 := hide' (show RowG w1 w.heap.size n (fun _ => 0) by rw [← hw1]; exact RowG.made w n)
  have B1 := hide' (show Below w.heap.size w w1 by rw [← hw1]; exact (Below.refl _ _).alloc (Nat.le_refl _) _)
  rw [hw1] at mk
  clear hA ok a1 a2 a3 hlt hw1
  go_enter Tryd.func12, Tryd.ntmps12
  go_wp2
  clear mk
  go_loopw [9] (fun iv wr => ∃ (i : Nat), iv = .int .i64 (i : Int) ∧ i ≤ l.length ∧ Hid (RowG wr w.heap.size n (ctL (l.take i))) ∧ Hid (Below w.heap.size w wr)) (fun iv _ => l.length - (intOf iv).toNat)
  case atStart => exact ⟨0, rfl, by omega, hide' (R1.out.ext (fun k _ => by simp [ctL])), B1⟩
  case round =>
    obtain ⟨i, rfl, hi, RW, BW⟩ := hrel
    by_cases d : (i : Int) < (l.length : Int)
    · have il : i < l.length := by omega
      have i0 : (0 : Int) ≤ (i : Int) := by omega
      obtain ⟨gi, GI⟩ := byte_at l il
      have LA := ltB_at LT.out il
      have CN := hide' (fun x => ctL_next il x)
      obtain ⟨ch, hch⟩ : ∃ ch, l.getD i 0 = ch := ⟨_, rfl⟩
      rw [hch] at GI LA CN
      obtain ⟨x, hx⟩ : ∃ x, ch.toNat = x := ⟨_, rfl⟩
      rw [hx] at GI LA CN
      have xb : x < 256 := by have := ch.toNat_lt; omega
      obtain ⟨k, hk⟩ : ∃ k, x - 97 = k := ⟨_, rfl⟩
      rw [hk] at CN
      have ek : (x : Int) - 97 = (k : Int) := by omega
      have kn : k < n := by omega
      have k0 : (0 : Int) ≤ (k : Int) := by omega
      have co := RW.out.cell kn
      have fo := frozen_of_row wr _ k _ _ RW.out
      have lo := RW.out.lt
      have vb : ctL (l.take i) k ≤ 40000 := Nat.le_trans (ctL_le _ _) (by rw [List.length_take]; omega)
      have NX := hide' ((RW.out.set k (ctL (l.take i) k + 1)).ext (f' := ctL (l.take (i + 1))) (fun y _ => by rw [CN.out y]; by_cases e : y = k <;> simp [e]))
      have NB := hide' (fun v => show Below w.heap.size w (wr.setCell ⟨w.heap.size, k, none⟩ v) from BW.out.setCell (by simp) v)
      obtain ⟨v, hv⟩ : ∃ v, ctL (l.take i) k = v := ⟨_, rfl⟩
      rw [hv] at co vb NX
      clear hch hx hk LA hv
      go_wp2
      exact ⟨⟨i + 1, by go_num, by omega, hide' (by first | exact NX.out | (have q := NX.out; simpa using q)), hide' (NB.out _)⟩, by simp [intOf]; omega⟩
    · have il : i = l.length := by omega
      have RF := hide' (show RowG wr w.heap.size n (ctL l) by
        have := RW.out
        rw [il, List.take_length] at this
        exact this)
      have C0 := hide' (show ∀ k, k < n → ctL l k ≤ 1000000000000000000 from fun k _ => by have := ctL_le l k; omega)
      clear il
      go_wp2
      go_loopw [8, 10, 11, 12, 13, 14, 15] (fun cv rv _ _ _ _ _ wr => ∃ (r g : Nat) (f : Nat → Nat), cv = .slice (some ⟨g, 0, none⟩) n n ∧ rv = .int .i64 (r : Int) ∧ r ≤ m ∧ Hid (RowG wr g n f) ∧ Hid (w.heap.size ≤ g) ∧ Hid (∀ k, k < n → f k ≤ 1000000000000000000) ∧ Hid (cnN xs n m (ctL l) = cnN xs n (m - r) f) ∧ Hid (Below w.heap.size w wr)) (fun _ rv _ _ _ _ _ _ => m - (intOf rv).toNat)
      case atStart => exact ⟨0, w.heap.size, ctL l, rfl, rfl, by omega, RF, hide' (Nat.le_refl _), C0, hide' rfl, BW⟩
      case round =>
        obtain ⟨r, g, f, rfl, rfl, hr, RG, GL, FB, CE, BV⟩ := hrel
        by_cases d : (r : Int) < (m : Int)
        · have mk := MK.out wr
          obtain ⟨V, hV⟩ : ∃ V, V = wr := ⟨_, rfl⟩
          obtain ⟨g2, hg2⟩ : ∃ g2, wr.heap.size = g2 := ⟨_, rfl⟩
          obtain ⟨w2, hw2⟩ : ∃ w2, wr.alloc (.cells (madeCells #[.int .i64 0] n) 3) = w2 := ⟨_, rfl⟩
          have R2 := hide' (show RowG w2 g2 n (fun _ => 0) by rw [← hw2, ← hg2]; exact RowG.made wr n)
          have B2 := hide' (show Below V.heap.size V w2 by rw [← hw2, hV]; exact (Below.refl _ _).alloc (Nat.le_refl _) _)
          have BU := hide' (show Below w.heap.size w V by rw [hV]; exact BV.out)
          have RV := hide' (show RowG V g n f by rw [hV]; exact RG.out)
          have SV := hide' (show V.heap.size = g2 by rw [hV]; exact hg2)
          have GS := hide' (show cnN xs n m (ctL l) = if 1000000000000000000 < lnV xs f n then none else cnN xs n (m - (r + 1)) (nxV xs f n) by
            rw [CE.out, show m - r = (m - (r + 1)) + 1 by omega, cnN_succ])
          have RM := hide' (show r + 1 ≤ m by omega)
          rw [hw2, hg2] at mk
          clear hV hg2 hw2
          go_wp2
          clear mk
          go_loopw [12, 13, 14, 15] (fun av iv _ _ wr => ∃ (i s : Nat), av = .int .i64 (s : Int) ∧ iv = .int .i64 (i : Int) ∧ i ≤ n ∧ s ≤ 1000000000000000000 ∧ Hid (s = lnV xs f i) ∧ Hid (RowG wr g2 n (nxV xs f i)) ∧ Hid (Below V.heap.size V wr)) (fun _ iv _ _ _ => n - (intOf iv).toNat)
          case atStart => exact ⟨0, 0, rfl, rfl, by omega, by omega, hide' rfl, hide' (R2.out.ext (fun k _ => rfl)), B2⟩
          case round =>
            obtain ⟨i, s, rfl, rfl, hi, hs, SE, RN, BZ⟩ := hrel
            by_cases di : (i : Int) < (n : Int)
            · have i0 : (0 : Int) ≤ (i : Int) := by omega
              have iN : i < n := by omega
              have SE' := hide' (SE.out.trans (plV_zero xs f i).symm)
              have RN' := hide' (RN.out.ext (f' := pnV xs f i 0) (fun x _ => (pnV_zero xs f i x).symm))
              go_wp2
              go_loopw [12, 14, 15] (fun av kv _ wr => ∃ (k s : Nat), av = .int .i64 (s : Int) ∧ kv = .int .i64 (k : Int) ∧ k ≤ 12 ∧ s ≤ 1000000000000000000 ∧ Hid (k ≤ (xs.getD i []).length) ∧ Hid (s = plV xs f i k) ∧ Hid (RowG wr g2 n (pnV xs f i k)) ∧ Hid (Below V.heap.size V wr)) (fun _ kv _ _ => 12 - (intOf kv).toNat)
              case atStart => exact ⟨0, s, rfl, rfl, by omega, hs, hide' (Nat.zero_le _), SE', RN', BZ⟩
              case round =>
                obtain ⟨k, s, rfl, rfl, hk, hs, KL, SE, RN, BZ⟩ := hrel
                have FW := hide' (BU.out.trans (BZ.out.mono BU.out.size))
                obtain ⟨ga, off, rfl, -, hst⟩ := (HA.out wr FW.out).cells i (by have := NL.out; omega)
                have OK := OKX.out i iN
                have RS := hide' (RV.out.below BZ.out RV.out.lt)
                have cf := RS.out.cell iN
                have fb := FB.out i iN
                have PN := hide' (fun (h : k < (xs.getD i []).length) x => pnV_next xs f h x)
                have PL := hide' (plV_next xs f i k)
                have PQ := hide' (fun (h : k + 1 ≤ (xs.getD i []).length) => plV_le xs f iN h)
                have PF := hide' (fun (h : k = (xs.getD i []).length) => And.intro (show plV xs f i k = lnV xs f (i + 1) by rw [h]; exact plV_full xs f i) (show ∀ x, pnV xs f i k x = nxV xs f (i + 1) x from fun x => by rw [h]; exact pnV_full xs f i x))
                obtain ⟨y, hy⟩ : ∃ y, xs.getD i [] = y := ⟨_, rfl⟩
                rw [hy] at hst OK PN PQ PF KL
                have y12 : y.length ≤ 12 := OK.1
                have kl := KL.out
                by_cases dk : (k : Int) < (y.length : Int)
                · have kl' : k < y.length := by omega
                  have k0 : (0 : Int) ≤ (k : Int) := by omega
                  obtain ⟨gi, GI⟩ := byte_at y kl'
                  have LA := ltB_at OK.2 kl'
                  have PZ := hide' (PN.out kl')
                  have PY := hide' (PQ.out kl')
                  obtain ⟨ch, hch⟩ : ∃ ch, y.getD k 0 = ch := ⟨_, rfl⟩
                  rw [hch] at GI LA PZ
                  obtain ⟨x, hx⟩ : ∃ x, ch.toNat = x := ⟨_, rfl⟩
                  rw [hx] at GI LA PZ
                  have xb : x < 256 := by have := ch.toNat_lt; omega
                  obtain ⟨j, hj⟩ : ∃ j, x - 97 = j := ⟨_, rfl⟩
                  rw [hj] at PZ
                  have ej : (x : Int) - 97 = (j : Int) := by omega
                  have jn : j < n := by omega
                  have j0 : (0 : Int) ≤ (j : Int) := by omega
                  have cn := RN.out.cell jn
                  have fn := frozen_of_row wr _ j _ _ RN.out
                  have ln := RN.out.lt
                  have NX := hide' ((RN.out.set j (pnV xs f i k j + f i)).ext (f' := pnV xs f i (k + 1)) (fun y _ => by rw [PZ.out y]; by_cases e : y = j <;> simp [e]))
                  have pb : pnV xs f i k j ≤ s := by rw [SE.out]; exact pnV_le xs f i k j
                  have gg : ¬ g = g2 := by have := RV.out.lt; have := SV.out; omega
                  have NB := hide' (fun v => show Below V.heap.size V (wr.setCell ⟨g2, j, none⟩ v) from BZ.out.setCell (by rw [SV.out]; exact Nat.le_refl _) v)
                  have SN := hide' (show s + f i = plV xs f i (k + 1) by rw [PL.out, ← SE.out])
                  have SB := hide' (SN.out.symm ▸ PY.out)
                  obtain ⟨u, hu⟩ : ∃ u, pnV xs f i k j = u := ⟨_, rfl⟩
                  obtain ⟨t, ht⟩ : ∃ t, f i = t := ⟨_, rfl⟩
                  rw [hu] at cn pb NX
                  rw [ht] at cf fb NX SN SB
                  have cf' : ∀ v, (wr.setCell ⟨g2, j, none⟩ v).cell? ⟨g, i, none⟩ = some (.int .i64 (t : Int)) := fun v => (cell_of_row _ _ _ _ _ _ ((Below.heap_setCell _ _ _ _ (by simpa using gg)).trans RS.out)).trans (by rw [arrF_get _ iN, ht])
                  have KX := hide' (show k + 1 ≤ (xs.getD i []).length by rw [hy]; omega)
                  clear hch hx hj LA hu ht OK hy
                  rw [Int.natCast_add] at NX
                  have NXD := hide' NX.out.drew
                  have NBD := hide' (fun v => (NB.out v).drew)
                  by_cases bg : (1000000000000000000 : Int) < (s : Int) + (t : Int)
                  · have GN := hide' (show cnN xs n m (ctL l) = none by rw [GS.out, if_pos]; have := SB.out; omega)
                    go_upto_region 18 with fail
                    go_region
                    go_wp2
                    go_ret2
                    exact ⟨Or.inr ⟨GN.out, rfl⟩, BU.out.trans ((NBD.out _).mono BU.out.size)⟩
                  · have sb : s + t ≤ 1000000000000000000 := by omega
                    go_upto_region 18 with fail
                    go_region
                    go_wp2
                    exact ⟨⟨k + 1, s + t, by go_num, by go_num, by omega, sb, KX, SN, NXD, hide' (NBD.out _)⟩, by simp [intOf]; omega⟩
                · have KF := PF.out (by omega)
                  have SN := hide' (SE.out.trans KF.1)
                  have RN2 := hide' (RN.out.ext (fun x _ => KF.2 x))
                  clear KF
                  go_wp2
                  exact ⟨⟨i + 1, s, rfl, by go_num, by omega, hs, SN, RN2, BZ⟩, by simp [intOf]; omega⟩
            · have ni : i = n := by omega
              have RN2 := hide' (show RowG wr g2 n (nxV xs f n) by rw [← ni]; exact ni ▸ RN.out)
              have SN := hide' (show s = lnV xs f n by rw [← ni]; exact SE.out)
              have GN := hide' (show cnN xs n m (ctL l) = cnN xs n (m - (r + 1)) (nxV xs f n) by rw [GS.out, if_neg]; have := SN.out; omega)
              have FN := hide' (show ∀ k, k < n → nxV xs f n k ≤ 1000000000000000000 from fun k _ => by have := nxV_le xs f n k; have := SN.out; omega)
              have G2 := hide' (show w.heap.size ≤ g2 by have := BU.out.size; have := SV.out; omega)
              have BF := hide' (BU.out.trans (BZ.out.mono BU.out.size))
              clear ni
              go_wp2
              exact ⟨⟨r + 1, g2, nxV xs f n, rfl, by go_num, RM.out, RN2, G2, FN, GN, BF⟩, by have := RM.out; simp [intOf]; omega⟩
        · obtain rfl : r = m := by omega
          have GN := hide' (show cnN xs n r (ctL l) = some f by rw [CE.out, Nat.sub_self, cnN_zero])
          go_wp2
          go_ret2
          exact ⟨Or.inl ⟨f, g, GN.out, rfl, RG.out, GL.out, FB.out⟩, BV.out⟩
end Go.Proofs.YtmnacanjbhlfeaaDoor

namespace Go.Proofs.YtmnacanjbhlfeaaDoor
open Go.RowKit
set_option linter.unusedVariables false
set_option linter.unusedSimpArgs false
/-- The word behind n rounds; none: one on the way has more than 10^18 letters. -/
def cnW (xs : List (List UInt8)) : Nat → List UInt8 → Option (List UInt8)
  | 0, l => some l
  | n + 1, l => if 1000000000000000000 < (imgL xs l).length then none else cnW xs n (imgL xs l)
theorem cnW_zero (xs : List (List UInt8)) (l : List UInt8) : cnW xs 0 l = some l := rfl
theorem cnW_succ (xs : List (List UInt8)) (n : Nat) (l : List UInt8) : cnW xs (n + 1) l = if 1000000000000000000 < (imgL xs l).length then none else cnW xs n (imgL xs l) := rfl
theorem imgL_append (xs : List (List UInt8)) (a b : List UInt8) : imgL xs (a ++ b) = imgL xs a ++ imgL xs b := by unfold imgL; rw [List.flatMap_append]
theorem imgL_cons (xs : List (List UInt8)) (c : UInt8) (b : List UInt8) : imgL xs (c :: b) = xs.getD (c.toNat - 97) [] ++ imgL xs b := by unfold imgL; rw [List.flatMap_cons]
theorem cnW_append {xs : List (List UInt8)} : ∀ {m : Nat} {a b s : List UInt8}, cnW xs m (a ++ b) = some s → ∃ s1 s2, cnW xs m a = some s1 ∧ cnW xs m b = some s2 ∧ s = s1 ++ s2
  | 0, a, b, s, h => by
    rw [cnW_zero] at h
    exact ⟨a, b, rfl, rfl, (Option.some.inj h).symm⟩
  | m + 1, a, b, s, h => by
    rw [cnW_succ, imgL_append, List.length_append] at h
    split at h
    · cases h
    · rename_i q
      obtain ⟨s1, s2, h1, h2, e⟩ := cnW_append h
      refine ⟨s1, s2, ?_, ?_, e⟩
      · rw [cnW_succ, if_neg (by omega)]; exact h1
      · rw [cnW_succ, if_neg (by omega)]; exact h2
theorem cnW_nil {xs : List (List UInt8)} : ∀ {m : Nat} {s : List UInt8}, cnW xs m [] = some s → s = []
  | 0, s, h => (Option.some.inj h).symm
  | m + 1, s, h => by
    rw [cnW_succ] at h
    have e : imgL xs [] = [] := by unfold imgL; simp
    rw [e, if_neg (by simp)] at h
    exact cnW_nil h
theorem smG_add (f g : Nat → Nat) : ∀ n, smG (fun i => f i + g i) n = smG f n + smG g n
  | 0 => rfl
  | n + 1 => by show smG _ n + (f n + g n) = smG f n + f n + (smG g n + g n); rw [smG_add f g n]; omega
theorem smG_zero : ∀ n, smG (fun _ => 0) n = 0
  | 0 => rfl
  | n + 1 => by show smG _ n + 0 = 0; rw [smG_zero n]
theorem smG_pick (g : Nat → Nat) (k : Nat) : ∀ n, smG (fun i => if i = k then g i else 0) n = if k < n then g k else 0
  | 0 => by simp [smG]
  | n + 1 => by
    show smG _ n + (if n = k then g n else 0) = _
    rw [smG_pick g k n]
    by_cases e : n = k
    · subst e; simp
    · by_cases q : k < n
      · rw [if_pos q, if_neg e, if_pos (by omega)]; omega
      · rw [if_neg q, if_neg e, if_neg (by omega)]
theorem smG_ext {f g : Nat → Nat} (h : ∀ i, f i = g i) (n : Nat) : smG f n = smG g n := by rw [show f = g from funext h]
theorem ctL_cons (c : UInt8) (l : List UInt8) (x : Nat) : ctL (c :: l) x = (if x = c.toNat - 97 then 1 else 0) + ctL l x := by
  unfold ctL
  rw [List.countP_cons]
  simp only [beq_iff_eq]
  by_cases e : x = c.toNat - 97
  · rw [if_pos e, if_pos e.symm]; omega
  · rw [if_neg e, if_neg (fun h => e h.symm)]; omega
theorem ctL_append (a b : List UInt8) (x : Nat) : ctL (a ++ b) x = ctL a x + ctL b x := by unfold ctL; rw [List.countP_append]
theorem wsum (g : Nat → Nat) {n : Nat} : ∀ {l : List UInt8}, l.all (ltB n) = true → smG (fun i => ctL l i * g i) n = (l.map fun c => g (c.toNat - 97)).sum
  | [], _ => by
    rw [smG_ext (g := fun _ => 0) (fun i => by simp [ctL]), smG_zero]; rfl
  | c :: l, h => by
    rw [List.all_cons, Bool.and_eq_true] at h
    have q : 97 ≤ c.toNat ∧ c.toNat < n + 97 := by simpa [ltB] using h.1
    rw [smG_ext (g := fun i => (if i = c.toNat - 97 then g i else 0) + ctL l i * g i) (fun i => by
      rw [ctL_cons, Nat.add_mul]
      by_cases e : i = c.toNat - 97 <;> simp [e]), smG_add, smG_pick, if_pos (by omega), wsum g h.2]
    rfl
theorem ctL_img (xs : List (List UInt8)) (x : Nat) : ∀ l : List UInt8, ctL (imgL xs l) x = (l.map fun c => ctL (xs.getD (c.toNat - 97) []) x).sum
  | [] => by simp [imgL, ctL]
  | c :: l => by rw [imgL_cons, ctL_append, ctL_img xs x l]; rfl
theorem len_img (xs : List (List UInt8)) : ∀ l : List UInt8, (imgL xs l).length = (l.map fun c => (xs.getD (c.toNat - 97) []).length).sum
  | [] => by simp [imgL]
  | c :: l => by rw [imgL_cons, List.length_append, len_img xs l]; rfl
theorem nxV_is {xs : List (List UInt8)} {n : Nat} {l : List UInt8} (h : l.all (ltB n) = true) : nxV xs (ctL l) n = ctL (imgL xs l) := by
  funext x
  rw [ctL_img]
  exact wsum (fun i => ctL (xs.getD i []) x) h
theorem lnV_is {xs : List (List UInt8)} {n : Nat} {l : List UInt8} (h : l.all (ltB n) = true) : lnV xs (ctL l) n = (imgL xs l).length := by
  rw [len_img]
  exact wsum (fun i => (xs.getD i []).length) h
/-- What is counted is there. -/
theorem cnN_is {xs : List (List UInt8)} {n : Nat} (h : ∀ k, k < n → (xs.getD k []).all (ltB n) = true) : ∀ (m : Nat) {l : List UInt8}, l.all (ltB n) = true → cnN xs n m (ctL l) = (cnW xs m l).map ctL
  | 0, l, hl => rfl
  | m + 1, l, hl => by
    rw [cnN_succ, cnW_succ, lnV_is hl, nxV_is hl]
    split
    · rfl
    · exact cnN_is h m (imgL_all h hl)
/-- All counts together are all letters. -/
theorem ctL_sum {n : Nat} {l : List UInt8} (h : l.all (ltB n) = true) : smG (ctL l) n = l.length := by
  have := wsum (fun _ => 1) h
  simp only [Nat.mul_one] at this
  rw [this]
  clear this h
  induction l with
  | nil => rfl
  | cons c l ih => simp only [List.map_cons, List.sum_cons, List.length_cons, ih]; omega
end Go.Proofs.YtmnacanjbhlfeaaDoor

namespace Go.Proofs.YtmnacanjbhlfeaaDoor
open Go.RowKit
set_option linter.unusedVariables false
set_option linter.unusedSimpArgs false
/-- What is left to be looked for. -/
def LkG (xs : List (List UInt8)) (M : Nat) (l : List UInt8) (i t : Nat) (z : UInt8) : Prop := ∃ si, cnW xs M (l.drop i) = some si ∧ t < si.length ∧ si.getD t 0 = z
theorem LkG.lt {xs : List (List UInt8)} {M : Nat} {l : List UInt8} {i t : Nat} {z : UInt8} (h : LkG xs M l i t z) : i < l.length := by
  obtain ⟨si, h1, h2, _⟩ := h
  by_cases q : i < l.length
  · exact q
  · rw [List.drop_eq_nil_of_le (by omega)] at h1
    rw [cnW_nil h1] at h2
    cases h2
theorem LkG.parts {xs : List (List UInt8)} {M : Nat} {l : List UInt8} {i t : Nat} {z : UInt8} (h : LkG xs M l i t z) : ∃ s1, cnW xs M [l.getD i 0] = some s1 ∧ (t < s1.length → s1.getD t 0 = z) ∧ (¬ t < s1.length → LkG xs M l (i + 1) (t - s1.length) z) := by
  have il := h.lt
  obtain ⟨si, h1, h2, h3⟩ := h
  have e : l.drop i = [l.getD i 0] ++ l.drop (i + 1) := by rw [List.drop_eq_getElem_cons il]; simp [List.getD, il]
  rw [e] at h1
  obtain ⟨s1, s2, q1, q2, rfl⟩ := cnW_append h1
  refine ⟨s1, q1, fun q => ?_, fun q => ⟨s2, q2, by rw [List.length_append] at h2; omega, ?_⟩⟩
  · rw [← h3, List.getD, List.getD, List.getElem?_append_left q]
  · rw [← h3, List.getD, List.getD, List.getElem?_append_right (by omega)]
end Go.Proofs.YtmnacanjbhlfeaaDoor

