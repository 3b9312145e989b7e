/-
  What the last text of this claim leans on, part 23: Sf3, Sf4.
-/
import Derived.Test.YtjjdjdodhedihaaDoorJl22
import Derived.Test.YtjjdjdodhedihaaDoorJl14
namespace Go.Proofs.YtjjdjdodhedihaaDoor
open Go.RowKit
set_option linter.unusedVariables false

/-- All but two blocks lie as they lay. -/
structure K2 (gs gr : Nat) (W W' : World) : Prop where
  os : W'.os = W.os
  tape : W'.tape = W.tape
  output : W'.output = W.output
  size : W.heap.size ≤ W'.heap.size
  block : ∀ k, k < W.heap.size → k ≠ gs → k ≠ gr → W'.heap[k]? = W.heap[k]?
theorem K2.refl (gs gr : Nat) (W : World) : K2 gs gr W W := ⟨rfl, rfl, rfl, Nat.le_refl _, fun _ _ _ _ => rfl⟩
theorem K2.rds {gs gr : Nat} {A B C : World} (h : K2 gs gr A B) (r : Rd gs B C) : K2 gs gr A C := ⟨r.os.trans h.os, r.tape.trans h.tape, r.output.trans h.output, Nat.le_trans h.size r.size, fun k hk h1 h2 => (r.block k (Nat.lt_of_lt_of_le hk h.size) h1).trans (h.block k hk h1 h2)⟩
theorem K2.rdr {gs gr : Nat} {A B C : World} (h : K2 gs gr A B) (r : Rd gr B C) : K2 gs gr A C := ⟨r.os.trans h.os, r.tape.trans h.tape, r.output.trans h.output, Nat.le_trans h.size r.size, fun k hk h1 h2 => (r.block k (Nat.lt_of_lt_of_le hk h.size) h2).trans (h.block k hk h1 h2)⟩
theorem K2.blk {gs gr : Nat} {A B : World} (h : K2 gs gr A B) {p : Nat} {cs : Array Value} {t : TypeId} (hp : Blk A p cs t) (h1 : p ≠ gs) (h2 : p ≠ gr) : Blk B p cs t := hp.of (h.block p hp.lt h1 h2)
theorem K2.arg {gs gr : Nat} {A B : World} (h : K2 gs gr A B) {cs : List Int} {a : Option Addr} {n c : Nat} (hp : ArgP A cs a n c) (hn : ∀ g off, a = some ⟨g, off, none⟩ → g ≠ gs ∧ g ≠ gr) : ArgP B cs a n c :=
  ⟨hp.len, hp.max, fun k hk => by
    obtain ⟨g, off, e, hg, hc⟩ := hp.cells k hk
    have q := hn g off e
    exact ⟨g, off, e, Nat.lt_of_lt_of_le hg h.size, (World.cell?_of_block (w := A) (a := ⟨g, off + k, none⟩) (h.block g hg q.1 q.2)).trans hc⟩⟩

/-- The ring, its first k cells already the sums' rests. -/
def modL (S : Int) (us xs : List Int) (k : Nat) : List Int := (us.map fun x => x % S).take k ++ xs.drop k
theorem modL_length {S : Int} {us xs : List Int} {k : Nat} (h : us.length = xs.length) (hk : k ≤ xs.length) : (modL S us xs k).length = xs.length := by simp [modL]; omega
theorem modL_zero (S : Int) (us xs : List Int) : modL S us xs 0 = xs := by simp [modL]
theorem modL_all {S : Int} {us xs : List Int} {k : Nat} (h : us.length = k) (h2 : xs.length = k) : modL S us xs k = us.map fun x => x % S := by
  unfold modL
  rw [List.take_of_length_le (by simp; omega), List.drop_eq_nil_of_le (by omega), List.append_nil]
theorem modL_set {S : Int} {us xs : List Int} {k : Nat} (h : us.length = xs.length) (hk : k < xs.length) : (modL S us xs k).set k (us.getD k 0 % S) = modL S us xs (k + 1) := by
  have tl : ((us.map fun x => x % S).take k).length = k := by simp; omega
  unfold modL
  rw [List.set_append_right _ _ (by omega), tl, Nat.sub_self, List.drop_eq_getElem_cons hk, List.set_cons_zero, List.take_add_one, List.append_assoc]
  congr 1
  simp [List.getD_eq_getElem?_getD, List.getElem?_eq_getElem (show k < us.length by omega)]
theorem wrapsmall (z : Int) (h1 : -100000 ≤ z) (h2 : z ≤ 100000) : wrap64 z = z := by
  simp [wrap64]; omega

set_option maxRecDepth 100000 in
set_option maxHeartbeats 6400000 in
theorem stepper1_any (S R a L : Nat) (cs xs us : List Int) (ps pn pS gs gr : Nat) (na : Option Addr) (m cc c2 : Nat) (w : World) (hsb : Blk w ps #[.slice (some ⟨gs, 0, none⟩) L L] 22) (hnb : Blk w pn #[.slice na m cc] 22) (hst : Blk w pS #[.int .i64 (S : Int)] 3)
    (hu : Cel w gs us) (hr : Cel w gr xs) (hN : ArgP w cs na m cc) (hna : ∀ g off, na = some ⟨g, off, none⟩ → g ≠ gs ∧ g ≠ gr) (ne : gs ≠ gr) (n1 : ps ≠ gs ∧ ps ≠ gr) (n2 : pn ≠ gs ∧ pn ≠ gr) (n3 : pS ≠ gs ∧ pS ≠ gr)
    (l1 : us.length = L) (l2 : xs.length = L) (h0 : 0 < L) (hl : L ≤ 1000) (s2 : 2 ≤ S) (s4 : S ≤ 4) (hx : cellsOk S xs) (hc : cellsOk S cs) (hm : m = 2 * R + 1) (r10 : R ≤ 10) (ha : a ≤ 1000) :
    Calls Tryd.prog 114 #[.slice (some ⟨gr, 0, none⟩) L c2, .int .i64 (a : Int), .pointer (some ⟨ps, 0, none⟩), .pointer (some ⟨pn, 0, none⟩), .pointer (some ⟨pS, 0, none⟩)] w fun e w' => e = .returned (.tuple #[]) ∧ Cel w' gr (stepA S R a cs xs) ∧ (∃ us', us'.length = L ∧ Cel w' gs us') ∧ K2 gs gr w w' := by
  have SB := hide' hsb
  have NB := hide' hnb
  have ST := hide' hst
  have HN := hide' hN
  have HNA := hide' hna
  have N1 := hide' n1
  have N2 := hide' n2
  have N3 := hide' n3
  have NE := hide' ne
  have L2 := hide' l2
  have HM := hide' hm
  have m21 : m ≤ 21 := by omega
  have mR : (m : Int).tdiv 2 = (R : Int) := by rw [Int.tdiv_eq_ediv_of_nonneg (by omega)]; omega
  have CL := hide' hN.len
  have HC := hide' hc
  have cb : ∀ i, 0 ≤ coefF cs i ∧ coefF cs i ≤ 3 := fun i => by
    unfold coefF
    by_cases q : i < cs.length
    · have := cellsOk_at hc q; omega
    · rw [List.getD_eq_getElem?_getD, List.getElem?_eq_none (by omega)]; simp
  have xb : ∀ j, 0 ≤ rat xs j ∧ rat xs j ≤ 3 := fun j => by have := rat_ok hx (by omega) j; omega
  have UB := hide' (show ∀ i, i ≤ m → ∀ x ∈ sumsL R a cs xs i, 0 ≤ x ∧ x ≤ 1000 from fun i hi x hx' => by
    obtain ⟨k, _, rfl⟩ := List.mem_map.1 hx'
    have := opF_bound (s := shF R a) cb xb i (k : Int)
    omega)
  have ADD := hide' (fun (i : Nat) (hi : i < m) (W : World) (h1 : Cel W gs (sumsL R a cs xs i)) (h2 : Cel W gr xs) => addTurned_any gs gr L L c2 (sumsL R a cs xs i) xs (shF R a i) (cs.getD i 0) W h1 h2 ne (by rw [sumsL_length]; exact l2) l2 h0 hl (fun x hx' => by have := hx x hx'; omega) (fun x hx' => by have := UB.out i (by omega) x hx'; omega) (cb i).1 (by have := (cb i).2; unfold coefF at this; omega) (by
    unfold shF
    have e1 : -((2 * R + 1 : Nat) : Int) * 1000 ≤ ((i : Int) - R) * (a : Int) ∧ ((i : Int) - R) * (a : Int) ≤ ((2 * R + 1 : Nat) : Int) * 1000 := by
      rcases Int.le_total 0 ((i : Int) - R) with q | q
      · have h1 : ((i : Int) - R) * (a : Int) ≤ ((2 * R + 1 : Nat) : Int) * 1000 := Int.mul_le_mul (by omega) (by omega) (by omega) (by omega)
        have h2 : 0 ≤ ((i : Int) - R) * (a : Int) := Int.mul_nonneg q (by omega)
        omega
      · have h1 : ((R : Int) - i) * (a : Int) ≤ ((2 * R + 1 : Nat) : Int) * 1000 := Int.mul_le_mul (by omega) (by omega) (by omega) (by omega)
        have h2 : 0 ≤ ((R : Int) - i) * (a : Int) := Int.mul_nonneg (by omega) (by omega)
        have h3 : ((i : Int) - R) * (a : Int) = -(((R : Int) - i) * (a : Int)) := by rw [← Int.neg_mul]; congr 1; omega
        omega
    omega))
  have SB1 := hide' (show ∀ i : Nat, i ≤ m → -100000 ≤ ((i : Int) - (R : Int)) * (a : Int) ∧ ((i : Int) - (R : Int)) * (a : Int) ≤ 100000 from fun i hi => by
    rcases Int.le_total 0 ((i : Int) - R) with q | q
    · have h1 : ((i : Int) - R) * (a : Int) ≤ 21 * 1000 := Int.mul_le_mul (by omega) (by omega) (by omega) (by omega)
      have h2 : 0 ≤ ((i : Int) - R) * (a : Int) := Int.mul_nonneg q (by omega)
      omega
    · have h1 : ((R : Int) - i) * (a : Int) ≤ 21 * 1000 := Int.mul_le_mul (by omega) (by omega) (by omega) (by omega)
      have h2 : 0 ≤ ((R : Int) - i) * (a : Int) := Int.mul_nonneg (by omega) (by omega)
      have h3 : ((i : Int) - R) * (a : Int) = -(((R : Int) - i) * (a : Int)) := by rw [← Int.neg_mul]; congr 1; omega
      omega)
  have AN := hide' (fun i => show addL (sumsL R a cs xs i) xs (cs.getD i 0) (shF R a i) L = sumsL R a cs xs (i + 1) by rw [← l2]; exact sumsL_next R a cs xs i)
  have AS := hide' (fun i (h : cs.getD i 0 = 0) => sumsL_skip (R := R) (a := a) (xs := xs) h)
  have STP := hide' (show ((sumsL R a cs xs m).map fun x => x % (S : Int)) = stepA S R a cs xs by rw [hm]; exact sumsL_step S R a cs xs)
  have SL := hide' (fun i => show (sumsL R a cs xs i).length = L by rw [sumsL_length]; exact l2)
  have hcl := fun (ty : TypeId) => clear_run gs L L us w ty hu l1 h0
  have S0 := hide' (show Cel (w.setCells gs 0 (List.replicate L (.int .i64 0))) gs (sumsL R a cs xs 0) by rw [sumsL_zero, l2]; exact cleared hu l1)
  have RD0 := hide' (setCells_rd gs (List.replicate L (.int .i64 0)) 0 w w (Rd.refl _ _))
  have R0 := hide' (hr.rd RD0.out (fun q => ne q.symm))
  obtain ⟨W0, hW0⟩ : ∃ W0, w.setCells gs 0 (List.replicate L (.int .i64 0)) = W0 := ⟨_, rfl⟩
  simp only [hW0] at hcl
  rw [hW0] at S0 RD0 R0
  have K0 := hide' ((K2.refl gs gr w).rds RD0.out)
  have c1 := hsb.cell 0
  have c2' := (K0.out.blk hnb n2.1 n2.2).cell 0
  clear hsb hnb hst hu hr hN hna ne n1 n2 n3 l1 l2 hx hc hm cb xb hW0
  go_enter Tryd.func114, Tryd.ntmps114
  go_wp2
  go_loopw [14] (fun iv wr => ∃ i : Nat, iv = .int .i64 (i : Int) ∧ i ≤ m ∧ Hid (Cel wr gs (sumsL R a cs xs i) ∧ Cel wr gr xs ∧ K2 gs gr w wr)) (fun iv _ => m - (intOf iv).toNat)
  case atStart => exact ⟨0, rfl, by omega, hide' ⟨S0.out, R0.out, K0.out⟩⟩
  case round =>
    clear S0 R0 K0 RD0 hcl c1 c2'
    obtain ⟨i, rfl, hi, H⟩ := hrel
    by_cases d : (i : Int) < (m : Int)
    · obtain ⟨g, off, eN, cN⟩ := (H.out.2.2.arg HN.out HNA.out).at (k := i) (by omega)
      subst eN
      obtain ⟨x, hx⟩ : ∃ x, cs.getD i 0 = x := ⟨_, rfl⟩
      have xb : 0 ≤ x ∧ x < (S : Int) := by rw [← hx]; exact cellsOk_at HC.out (k := i) (by have := CL.out; omega)
      have AD := hide' (ADD.out i (by omega) wr H.out.1 H.out.2.1)
      have AE := AN.out i
      have AZ := AS.out i
      rw [hx] at cN AD AE AZ
      have AE := hide' AE
      have AZ := hide' AZ
      have c1 := (H.out.2.2.blk SB.out N1.out.1 N1.out.2).cell 0
      have c2' := (H.out.2.2.blk NB.out N2.out.1 N2.out.2).cell 0
      by_cases e : x = 0
      · subst e
        go_wp2
        exact ⟨⟨i + 1, by go_num, by omega, hide' (by rw [AZ.out rfl]; exact H.out)⟩, by simp [intOf]; omega⟩
      · have e1 : (x == 0) = false := by rw [beq_eq_false_iff_ne]; exact e
        have SH := hide' (show wrap64 (((i : Int) - (R : Int)) * (a : Int)) = shF R a i from wrapsmall _ (SB1.out i hi).1 (SB1.out i hi).2)
        go_wp2_with fail
        rw [SH.out]
        refine (show Calls Tryd.prog _ _ _ _ from AD.out).mono ?_
        rintro e w3 ⟨rfl, b1, b2⟩
        rw [AE.out] at b1
        have H3 := hide' (show Cel w3 gs (sumsL R a cs xs (i + 1)) ∧ Cel w3 gr xs ∧ K2 gs gr w w3 from ⟨b1, H.out.2.1.rd b2 (fun q => NE.out q.symm), H.out.2.2.rds b2⟩)
        clear b1 b2 H cN c1 c2' AD
        go_wp2
        exact ⟨⟨i + 1, by go_num, by omega, H3⟩, by simp [intOf]; omega⟩
    · have H' := hide' (show Cel wr gs (sumsL R a cs xs m) ∧ Cel wr gr xs ∧ K2 gs gr w wr by rw [show m = i by omega]; exact H.out)
      obtain ⟨US, hUS⟩ : ∃ US, sumsL R a cs xs m = US := ⟨_, rfl⟩
      have LU := hide' (SL.out m)
      have UU := hide' (UB.out m (Nat.le_refl _))
      rw [hUS] at H' STP LU UU
      have c1 := (H'.out.2.2.blk SB.out N1.out.1 N1.out.2).cell 0
      clear hUS H
      go_wp2
      go_loopw [35] (fun kv wr => ∃ k : Nat, kv = .int .i64 (k : Int) ∧ k ≤ L ∧ Hid (Cel wr gs US ∧ Cel wr gr (modL S US xs k) ∧ K2 gs gr w wr)) (fun kv _ => L - (intOf kv).toNat)
      case atStart => exact ⟨0, rfl, by omega, hide' ⟨H'.out.1, by rw [modL_zero]; exact H'.out.2.1, H'.out.2.2⟩⟩
      case round =>
        clear H' c1
        obtain ⟨k, rfl, hk, H⟩ := hrel
        by_cases e : (k : Int) < (L : Int)
        · have ku : k < US.length := by rw [LU.out]; omega
          have cu := H.out.1.cells k ku
          have cf := H.out.2.1.fz k
          have cr := H.out.2.1.cells k (by rw [modL_length (by rw [LU.out, L2.out]) (by rw [L2.out]; omega), L2.out]; omega)
          have c3 := (H.out.2.2.blk ST.out N3.out.1 N3.out.2).cell 0
          have SET := hide' (modL_set (S := S) (us := US) (xs := xs) (k := k) (by rw [LU.out, L2.out]) (by rw [L2.out]; omega))
          have ub := UU.out (US.getD k 0) (by rw [List.getD_eq_getElem?_getD, List.getElem?_eq_getElem ku]; exact List.getElem_mem ku)
          have ML := hide' (show k < (modL S US xs k).length by rw [modL_length (by rw [LU.out, L2.out]) (by rw [L2.out]; omega), L2.out]; omega)
          obtain ⟨u, hu⟩ : ∃ u, US.getD k 0 = u := ⟨_, rfl⟩
          have hu' : US[k] = u := by rw [← hu, List.getD_eq_getElem?_getD, List.getElem?_eq_getElem ku]; rfl
          first | rw [hu] at cu | rw [hu'] at cu
          rw [hu] at ub SET
          have TM : u.tmod (S : Int) = u % (S : Int) := Int.tmod_eq_emod_of_nonneg ub.1
          clear hu hu' ku
          go_wp2
          exact ⟨⟨k + 1, by go_num, by omega, hide' ⟨H.out.1.block (by simp) (heap_setCell_other _ _ _ _ _ NE.out), by rw [← SET.out]; exact H.out.2.1.set k _ ML.out, H.out.2.2.rdr (rd_set1 (Rd.refl _ _) k _)⟩⟩, by simp [intOf]; omega⟩
        · have q : k = L := by omega
          have FI := hide' (show Cel wr gr (stepA S R a cs xs) ∧ Cel wr gs US ∧ K2 gs gr w wr by
            have h2 := H.out.2.1
            rw [q, modL_all LU.out L2.out, STP.out] at h2
            exact ⟨h2, H.out.1, H.out.2.2⟩)
          go_wp2
          go_end0
          exact ⟨rfl, FI.out.1, ⟨US, LU.out, FI.out.2.1⟩, FI.out.2.2⟩
end Go.Proofs.YtjjdjdodhedihaaDoor

namespace Go.Proofs.YtjjdjdodhedihaaDoor
open Go.RowKit
set_option linter.unusedVariables false

set_option maxRecDepth 100000 in
set_option maxHeartbeats 6400000 in
theorem primeOf_any (S p : Nat) (h : Prm S p) (w : World) : Calls Tryd.prog 89 #[.int .i64 (S : Int)] w fun e w' => e = .returned (.int .i64 (p : Int)) ∧ w' = w := by
  rcases h with ⟨rfl, rfl⟩ | ⟨rfl, rfl⟩ | ⟨rfl, rfl⟩
  all_goals
    go_enter Tryd.func89, Tryd.ntmps89
    go_wp2
    go_ret
    exact ⟨rfl, rfl⟩
set_option maxRecDepth 100000 in
set_option maxHeartbeats 6400000 in
theorem stepperS_any (S L m cc : Nat) (na : Option Addr) (w : World) (hl : L ≤ 1000) : Calls Tryd.prog 90 #[.slice na m cc, .int .i64 (S : Int), .int .i64 (L : Int)] w fun e w' => e = .returned (.func (.func 114) #[] #[.pointer (some ⟨w.heap.size + 3, 0, none⟩), .pointer (some ⟨w.heap.size, 0, none⟩), .pointer (some ⟨w.heap.size + 1, 0, none⟩)]) ∧ Blk w' (w.heap.size + 3) #[.slice (some ⟨w.heap.size + 2, 0, none⟩) L L] 22 ∧ Blk w' w.heap.size #[.slice na m cc] 22 ∧ Blk w' (w.heap.size + 1) #[.int .i64 (S : Int)] 3 ∧ Cel w' (w.heap.size + 2) (List.replicate L 0) ∧ Below w.heap.size w w' ∧ w'.heap.size = w.heap.size + 4 := by
  have hmf : ∀ (fn : Fn) (first cap : Array Value) (w : World), (Instr.makeFunc fn first cap).run Tryd.prog w = .ok (.func fn first cap) w := fun _ _ _ _ => rfl
  have hmk := run_make_row' (P := Tryd.prog) 22 3 (.int .i64 0) 8 Tryd.underlying22 info_int rfl .i64 .i64 L (by omega) (by omega)
  obtain ⟨w1, hw1⟩ : ∃ w1, w.alloc (.cells #[.slice na m cc] 22) = w1 := ⟨_, rfl⟩
  obtain ⟨w2, hw2⟩ : ∃ w2, w1.alloc (.cells #[.int .i64 (S : Int)] 3) = w2 := ⟨_, rfl⟩
  obtain ⟨w3, hw3⟩ : ∃ w3, w2.alloc (.cells (madeCells #[.int .i64 0] L) 3) = w3 := ⟨_, rfl⟩
  have z1 : w1.heap.size = w.heap.size + 1 := by rw [← hw1]; simp
  have z2 : w2.heap.size = w.heap.size + 2 := by rw [← hw2]; simp; omega
  have z3 : w3.heap.size = w.heap.size + 3 := by rw [← hw3]; simp; omega
  have F := hide' (show Blk (w3.alloc (.cells #[.slice (some ⟨w.heap.size + 2, 0, none⟩) L L] 22)) (w.heap.size + 3) #[.slice (some ⟨w.heap.size + 2, 0, none⟩) L L] 22 from z3 ▸ Blk.new w3 _ _)
  have b1 : Blk w1 w.heap.size #[.slice na m cc] 22 := hw1 ▸ Blk.new w _ _
  have b2 : Blk w2 (w.heap.size + 1) #[.int .i64 (S : Int)] 3 := by rw [← hw2, ← z1]; exact Blk.new w1 _ _
  have b3 : Cel w3 (w.heap.size + 2) (List.replicate L 0) := by rw [← hw3, ← z2]; exact Cel.made w2 L _
  have bb : Below w.heap.size w w3 := by
    rw [← hw3, ← hw2, ← hw1]
    exact (((Below.refl _ _).alloc (Nat.le_refl _) _).alloc (by simp) _).alloc (by simp; omega) _
  have G1 := hide' (((show Blk w3 w.heap.size #[.slice na m cc] 22 by rw [← hw3, ← hw2]; exact (b1.alloc _).alloc _)).alloc (.cells #[.slice (some ⟨w.heap.size + 2, 0, none⟩) L L] 22))
  have G2 := hide' (((show Blk w3 (w.heap.size + 1) #[.int .i64 (S : Int)] 3 by rw [← hw3]; exact b2.alloc _)).alloc (.cells #[.slice (some ⟨w.heap.size + 2, 0, none⟩) L L] 22))
  have G3 := hide' (b3.below ((Below.refl _ _).alloc (Nat.le_refl _) (.cells #[.slice (some ⟨w.heap.size + 2, 0, none⟩) L L] 22)))
  have G4 := hide' (bb.alloc (by omega) (.cells #[.slice (some ⟨w.heap.size + 2, 0, none⟩) L L] 22))
  have G5 := hide' (show (w3.alloc (.cells #[.slice (some ⟨w.heap.size + 2, 0, none⟩) L L] 22)).heap.size = w.heap.size + 4 by simp; omega)
  subst hw3 hw2 hw1
  clear z1 z2 z3 b1 b2 b3 bb
  go_enter Tryd.func90, Tryd.ntmps90
  go_wp2
  go_ret
  exact ⟨rfl, F.out, G1.out, G2.out, G3.out, G4.out, G5.out⟩
end Go.Proofs.YtjjdjdodhedihaaDoor

