/-
  What the last text of this claim leans on, part 7: Li2, Li3, Li4.
-/
import Derived.Test.YtdhbdkkchobinaaJz6
import Derived.Laws.CopyOwn
import Derived.Laws.IdiomCopy
namespace Go.Proofs.Ytdhbdkkchobinaa
open Go.RowKit
set_option linter.unusedVariables false

theorem Rd.setCells {b : Nat} : ∀ (cs : List Value) (off : Nat) {a w : World}, Rd b a w → Rd b a (w.setCells b off cs)
  | [], _, _, _, h => h
  | c :: cs, off, _, _, h => Rd.setCells cs (off + 1) (h.set off c)

/-- The ring in the midst, and i cells more at each side. -/
def layP (xs ws : List Int) (R i : Nat) : List Int := (List.range (xs.length + 2 * R)).map fun t : Nat => if R ≤ t + i ∧ t < R + xs.length + i then rat xs ((t : Int) - R) else ws.getD t 0
theorem layP_length (xs ws : List Int) (R i : Nat) : (layP xs ws R i).length = xs.length + 2 * R := by simp [layP]
theorem layP_at (xs ws : List Int) (R i : Nat) {t : Nat} (h : t < xs.length + 2 * R) : (layP xs ws R i).getD t 0 = if R ≤ t + i ∧ t < R + xs.length + i then rat xs ((t : Int) - R) else ws.getD t 0 := by
  simp [layP, List.getD, h]
theorem layP_full (xs ws : List Int) (R : Nat) : layP xs ws R R = wideL R xs := by
  unfold layP wideL
  refine List.map_congr_left fun t ht => ?_
  rw [List.mem_range] at ht
  rw [if_pos (by omega)]
theorem layP_step (xs ws : List Int) (R i : Nat) (hi : i < R) (hx : 0 < xs.length) :
    ((layP xs ws R i).set (R - 1 - i) (xs.getD (xs.length - 1 - i % xs.length) 0)).set (R + xs.length + i) (xs.getD (i % xs.length) 0) = layP xs ws R (i + 1) := by
  apply List.ext_getElem (by simp [layP])
  intro t h1 h2
  have ht : t < xs.length + 2 * R := by simpa [layP] using h2
  rw [List.getElem_set, List.getElem_set]
  simp only [layP, List.getElem_map, List.getElem_range]
  by_cases e1 : R + xs.length + i = t
  · rw [if_pos e1, if_pos (by omega), ← rat_right xs hx i]
    congr 1
    omega
  · rw [if_neg e1]
    by_cases e2 : R - 1 - i = t
    · rw [if_pos e2, if_pos (by omega), ← rat_left xs hx i]
      congr 1
      omega
    · rw [if_neg e2]
      by_cases d : R ≤ t + i ∧ t < R + xs.length + i
      · rw [if_pos d, if_pos (by omega)]
      · rw [if_neg d, if_neg (by omega)]
theorem lay_copy {w : World} {g : Nat} {xs ws : List Int} {R : Nat} (h : Cel w g ws) (hw : ws.length = xs.length + 2 * R) : Cel (w.setCells g R (xs.map fun x => Value.int .i64 x)) g (layP xs ws R 0) := by
  refine ⟨?_, fun k hk => ?_, fun k => by rw [World.frozen?_setCells]; exact h.fz k⟩
  · have := (Rd.setCells (xs.map fun x => Value.int .i64 x) R (Rd.refl g w)).size
    have := h.lt
    omega
  · rw [layP_length] at hk
    rw [layP_at _ _ _ _ hk]
    by_cases d : R ≤ k + 0 ∧ k < R + xs.length + 0
    · rw [if_pos d]
      have hj : k - R < (xs.map fun x => Value.int .i64 x).length := by simp; omega
      have := World.cell?_setCells_in g (xs.map fun x => Value.int .i64 x) R w (fun j hj => by
        rw [List.length_map] at hj
        rw [h.cells (R + j) (by omega)]; rfl) (k - R) hj
      rw [show R + (k - R) = k by omega] at this
      rw [this, show ((k : Int) - R) = ((k - R : Nat) : Int) by omega, rat_mid xs (by omega)]
      simp [List.getD, show k - R < xs.length by omega]
    · rw [if_neg d, World.cell?_setCells_out g _ R w ⟨g, k, none⟩ (fun _ _ => by simp only [List.length_map]; omega)]
      exact h.cells k (by omega)

set_option maxRecDepth 100000 in
set_option maxHeartbeats 1600000 in
theorem layOut_any (R : Nat) (xs ws : List Int) (gr cr gw n N : Nat) (w : World) (hx : Cel w gr xs) (hw : Cel w gw ws) (hn : xs.length = n) (hN : ws.length = N) (hN2 : N = n + 2 * R) (h0 : 0 < n) (hn1 : n ≤ 1000) (hR : R ≤ 10) (hg : gr ≠ gw) :
    Calls Try.prog 45 #[.slice (some ⟨gr, 0, none⟩) n cr, .slice (some ⟨gw, 0, none⟩) N N, .int .i64 (R : Int)] w fun e w' => e = .returned (.tuple #[]) ∧ Cel w' gw (wideL R xs) ∧ Rd gw w w' := by
  have HX := hide' hx
  have HN := hide' hn
  have HW := hide' (show ws.length = xs.length + 2 * R by rw [hN, hn, hN2])
  have HN2 := hide' hN2
  have C0 := hide' (lay_copy (R := R) hw HW.out)
  have n0 : ((n : Int) == 0) = false := by simp; omega
  have v3 : ¬ N = R := by omega
  have v5 : R ≤ N := by omega
  have SRC := hide' (show ∀ (j : Nat) (v : Value), (xs.map fun x => Value.int .i64 x)[j]? = some v → w.cell? ((⟨gr, 0, none⟩ : Addr).add j) = some v from fun j v hv => by
    rw [List.getElem?_map] at hv
    obtain ⟨x, hx', rfl⟩ := Option.map_eq_some_iff.1 hv
    obtain ⟨hj, he⟩ := List.getElem?_eq_some_iff.1 hx'
    have ea : (⟨gr, 0, none⟩ : Addr).add j = ⟨gr, j, none⟩ := by
      unfold Addr.add
      split
      · rename_i hz; subst hz; rfl
      · rw [Nat.zero_add]
    rw [ea, hx.cells j hj]
    simp [List.getD, hj, he])
  have DST := hide' (show ∀ j, j < (xs.map fun x => Value.int .i64 x).length → (w.cell? ⟨gw, R + j, none⟩).isSome = true from fun j hj => by
    rw [List.length_map] at hj
    rw [hw.cells (R + j) (by rw [HW.out]; omega)]; rfl)
  have FZ := hide' (show ∀ j, j < (xs.map fun x => Value.int .i64 x).length → w.frozen? ⟨gw, R + j, none⟩ = false from fun j hj => hw.fz _)
  have LN := hide' (show (xs.map fun x => Value.int .i64 x).length = n by rw [List.length_map]; exact hn)
  obtain ⟨cs, hcs⟩ : ∃ cs, (xs.map fun x => Value.int .i64 x) = cs := ⟨_, rfl⟩
  have ONE := hide' (show ∀ v ∈ cs, v.oneCell' = true from fun v hv => by rw [← hcs] at hv; obtain ⟨x, -, rfl⟩ := List.mem_map.1 hv; rfl)
  rw [hcs] at C0 SRC DST FZ LN
  obtain ⟨w2, hw2⟩ : ∃ w2, w.setCells gw R cs = w2 := ⟨_, rfl⟩
  have hrun : (Builtin.copy_ #[26, 26] 3 #[.slice (some ⟨gw, R, none⟩) (N - R) (N - R), .slice (some ⟨gr, 0, none⟩) n cr]).run Try.prog w = .ok (.int .i64 (n : Int)) w2 := by
    have h := run_copy_cells (P := Try.prog) w 26 26 3 3 gw R (N - R) (N - R) ⟨gr, 0, none⟩ n cr cs Try.underlying26 (by kernel_rfl) (by rw [LN.out]; exact (Nat.min_eq_left (by omega)).symm) SRC.out DST.out FZ.out ONE.out
    rw [h, hw2, LN.out]
    rfl
  have RD2 := hide' (show Rd gw w w2 by rw [← hw2]; exact Rd.setCells cs R (Rd.refl _ _))
  rw [hw2] at C0
  clear hx hw hn hN hN2 hcs hw2
  go_enter Try.func45, Try.ntmps45
  go_wp2
  clear hrun
  go_loopw [7] (fun iv wr => ∃ i : Nat, iv = .int .i64 (i : Int) ∧ i ≤ R ∧ Cel wr gw (layP xs ws R i) ∧ Rd gw w wr) (fun iv _ => R - (intOf iv).toNat)
  case atStart => exact ⟨0, rfl, by omega, C0.out, RD2.out⟩
  case round =>
    obtain ⟨i, rfl, hi, ce, rd⟩ := hrel
    have CE := hide' ce
    have RR := hide' rd
    clear ce rd
    by_cases d : (i : Int) < (R : Int)
    · have CX := hide' (HX.out.rd RR.out hg)
      obtain ⟨r, hr⟩ : ∃ r, i % n = r := ⟨_, rfl⟩
      have hrn : r < n := by rw [← hr]; exact Nat.mod_lt _ h0
      have q1 : (i : Int) % (n : Int) = (r : Int) := by rw [← hr]; simp
      obtain ⟨e, he⟩ : ∃ e, n - 1 - r = e := ⟨_, rfl⟩
      have q2 : (n : Int) - 1 - (r : Int) = (e : Int) := by omega
      obtain ⟨t, ht⟩ : ∃ t, R - 1 - i = t := ⟨_, rfl⟩
      have q3 : (R : Int) - 1 - (i : Int) = (t : Int) := by omega
      have c1 := CX.out.cells e (by have := HN.out; omega)
      have c2 := CX.out.cells r (by have := HN.out; omega)
      obtain ⟨u, hu⟩ : ∃ u, xs.getD e 0 = u := ⟨_, rfl⟩
      obtain ⟨v, hv⟩ : ∃ v, xs.getD r 0 = v := ⟨_, rfl⟩
      rw [hu] at c1
      rw [hv] at c2
      have k1 := CE.out.cells t (by rw [layP_length]; have := HN.out; omega)
      have k2 := CE.out.cells (R + n + i) (by rw [layP_length]; have := HN.out; omega)
      have f1 := CE.out.fz t
      have f2 := CE.out.fz (R + n + i)
      have hg' : gw ≠ gr := fun e => hg e.symm
      have t1 : t ≠ R + n + i := by omega
      have l1 : t < N := by have := HN2.out; omega
      have l2 : R + n + i < N := by have := HN2.out; omega
      have l3 : e < n := by omega
      have STEP := hide' (show ((layP xs ws R i).set t u).set (R + n + i) v = layP xs ws R (i + 1) by
        have h := layP_step xs ws R i (by omega) (by have := HN.out; omega)
        rw [HN.out, hr, he, ht, hu, hv] at h
        exact h)
      clear hr he ht hu hv
      go_wp2
      refine ⟨⟨i + 1, by go_num, by omega, ?_, (RR.out.set _ _).set _ _⟩, by simp [intOf]; omega⟩
      rw [← STEP.out]
      exact Cel.set (Cel.set CE.out t u (by rw [layP_length]; have := HN.out; omega)) (R + n + i) v (by rw [List.length_set, layP_length]; have := HN.out; omega)
    · have FIN := hide' (show Cel wr gw (wideL R xs) by
        have h := CE.out
        rw [show i = R by omega, layP_full] at h
        exact h)
      go_wp2
      go_end0
      exact ⟨rfl, FIN.out, RR.out⟩
end Go.Proofs.Ytdhbdkkchobinaa

namespace Go.Proofs.Ytdhbdkkchobinaa
open Go.RowKit
set_option linter.unusedVariables false

theorem shorten_pos (S R : Nat) (T : List Int) (ta : Option Addr) (tn tc : Nat) (fs : List Int) (fa : Option Addr) (fn fc gt m cm : Nat) (ts : List Int) (w : World)
    (hL : LineOk S R T) (hT : ArgP w T ta tn tc) (hF : ArgP w fs fa fn fc) (hp : 0 < fc) (hfc : fn ≤ fc) (hfm : fc ≤ maxLen) (hok : cellsOk S fs) (hC : Cel w gt ts) (hm : ts.length = m) (hfn : fn = m + 2 * R) (hm1 : m ≤ 1100)
    (hTg : ∀ g off, ta = some ⟨g, off, none⟩ → g ≠ gt) (hFg : ∀ g off, fa = some ⟨g, off, none⟩ → g ≠ gt) :
    Calls Try.prog 33 #[.agg #[.int .i64 2, .int .i64 0, .int .i64 0, .int .i64 (S : Int), .int .i64 (R : Int), .slice ta tn tc, .string ⟨#[]⟩], .slice fa fn fc, .slice (some ⟨gt, 0, none⟩) m cm] w fun e w' => e = .returned (.tuple #[]) ∧ Cel w' gt (applyL S R T fs) ∧ Rd gt w w' := by
  obtain ⟨k, rfl⟩ : ∃ k, fc = k + 1 := ⟨fc - 1, by omega⟩
  exact shorten_any S R T ta tn tc fs fa fn k gt m cm ts w hL hT hF hfc hfm hok hC hm hfn hm1 hTg hFg

/-- Only two blocks have turned, and new ones were made. -/
structure Rd2 (a b : Nat) (w w' : World) : Prop where
  os : w'.os = w.os
  tape : w'.tape = w.tape
  output : w'.output = w.output
  size : w.heap.size ≤ w'.heap.size
  block : ∀ k, k < w.heap.size → k ≠ a → k ≠ b → w'.heap[k]? = w.heap[k]?
theorem Rd2.refl (a b : Nat) (w : World) : Rd2 a b w w := ⟨rfl, rfl, rfl, Nat.le_refl _, fun _ _ _ _ => rfl⟩
theorem Rd2.trans {a b : Nat} {u v w : World} (h : Rd2 a b u v) (k : Rd2 a b v w) : Rd2 a b u w :=
  ⟨k.os.trans h.os, k.tape.trans h.tape, k.output.trans h.output, Nat.le_trans h.size k.size, fun i hi h1 h2 => (k.block i (Nat.lt_of_lt_of_le hi h.size) h1 h2).trans (h.block i hi h1 h2)⟩
theorem Rd2.left {a b : Nat} {w w' : World} (h : Rd a w w') : Rd2 a b w w' := ⟨h.os, h.tape, h.output, h.size, fun k hk h1 _ => h.block k hk h1⟩
theorem Rd2.right {a b : Nat} {w w' : World} (h : Rd b w w') : Rd2 a b w w' := ⟨h.os, h.tape, h.output, h.size, fun k hk _ h2 => h.block k hk h2⟩
theorem Rd2.below {a b B : Nat} {w w' : World} (h : Rd2 a b w w') (ha : B ≤ a) (hb : B ≤ b) (hs : B ≤ w.heap.size) : Below B w w' :=
  ⟨h.os, h.tape, h.output, h.size, fun k hk => h.block k (by omega) (by omega) (by omega)⟩
theorem RB.rd2 {p S R a b : Nat} {v : Value} {w w' : World} (h : RB p S R v w) (hb : Rd2 a b w w') (h1 : p ≠ a) (h2 : p ≠ b) : RB p S R v w' := h.block (hb.block p h.lt h1 h2)

/-- What stepper has made: the rule's box, the wide word's box and block. -/
structure ST (w : World) (pr pw gw S R N : Nat) (T : List Int) (ta : Option Addr) (tn tc : Nat) (ws : List Int) : Prop where
  rb : RB pr S R (.slice ta tn tc) w
  wb : w.cell? ⟨pw, 0, none⟩ = some (.slice (some ⟨gw, 0, none⟩) N N)
  wl : pw < w.heap.size
  cw : Cel w gw ws
  wn : ws.length = N
  ap : ArgP w T ta tn tc
  ne1 : pr ≠ gw
  ne2 : pw ≠ gw
  ne3 : ∀ g off, ta = some ⟨g, off, none⟩ → g ≠ gw

set_option maxRecDepth 100000 in
set_option maxHeartbeats 1600000 in
theorem step_ring (S R : Nat) (T : List Int) (ta : Option Addr) (tn tc pr pw gw N gr cr n : Nat) (xs ws : List Int) (w : World)
    (hL : LineOk S R T) (hS : ST w pr pw gw S R N T ta tn tc ws) (hx : Cel w gr xs) (hn : xs.length = n) (hN : N = n + 2 * R) (h0 : 0 < n) (hn1 : n ≤ 1000) (hok : cellsOk S xs) (hg : gr ≠ gw) (hg2 : pr ≠ gr) (hg3 : pw ≠ gr) (hg4 : ∀ g off, ta = some ⟨g, off, none⟩ → g ≠ gr) :
    Calls Try.prog 44 #[.slice (some ⟨gr, 0, none⟩) n cr, .pointer (some ⟨pw, 0, none⟩), .pointer (some ⟨pr, 0, none⟩)] w fun e w' => e = .returned (.tuple #[]) ∧ ST w' pr pw gw S R N T ta tn tc (wideL R xs) ∧ Cel w' gr (stepL S R T xs) ∧ Rd2 gw gr w w' := by
  have HS := hide' hS
  have HX := hide' hx
  have HL := hide' hL
  have HN := hide' hN
  have Hn := hide' hn
  have OKx := hide' hok
  have G4 := hide' hg4
  obtain ⟨x0, x1, x2, x3, x4, x5, x6⟩ := hS.rb
  have y0 := hS.wb
  have r10 := hL.r10
  clear hS hx hL hN hn hok hg4
  go_enter Try.func44, Try.ntmps44
  go_wp2_with fail
  refine (layOut_any R xs ws gr cr gw n N _ HX.out HS.out.cw Hn.out HS.out.wn HN.out h0 hn1 r10 hg).mono ?_
  rintro e w2 ⟨rfl, c2, r2⟩
  have CW := hide' c2
  have R2 := hide' r2
  have RB2 := hide' (HS.out.rb.rd r2 HS.out.ne1)
  have AP2 := hide' (HS.out.ap.rd r2 HS.out.ne3)
  have CX2 := hide' (HX.out.rd r2 hg)
  clear x0 x1 x2 x3 x4 x5 x6 c2 r2
  have y1 : w2.cell? ⟨pw, 0, none⟩ = some (.slice (some ⟨gw, 0, none⟩) N N) := (World.cell?_of_block (w := w) (a := ⟨pw, 0, none⟩) (R2.out.block pw HS.out.wl HS.out.ne2)).trans y0
  clear y0
  obtain ⟨x0, x1, x2, x3, x4, x5, x6⟩ := RB2.out
  have AW := hide' (CW.out.argP (c := N) (show (wideL R xs).length = N by rw [wideL_length, Hn.out, HN.out]) (by unfold maxLen; have := HN.out; omega))
  have OKW := hide' (wideL_ok (R := R) OKx.out (by rw [Hn.out]; exact h0))
  go_wp2_with fail
  refine (shorten_pos S R T ta tn tc (wideL R xs) (some ⟨gw, 0, none⟩) N N gr n cr xs _ HL.out AP2.out AW.out (by have := HN.out; omega) (Nat.le_refl _) (by unfold maxLen; have := HN.out; omega) OKW.out CX2.out Hn.out HN.out (by omega) G4.out (fun g off e => by injection e with e; injection e with e; subst e; exact fun q => hg q.symm)).mono ?_
  rintro e w3 ⟨rfl, c3, r3⟩
  have CR3 := hide' (show Cel w3 gr (stepL S R T xs) by rw [stepL_wide]; exact c3)
  have ST3 := hide' (show ST w3 pr pw gw S R N T ta tn tc (wideL R xs) from ⟨RB2.out.rd r3 hg2, (World.cell?_of_block (w := w2) (a := ⟨pw, 0, none⟩) (r3.block pw (Nat.lt_of_lt_of_le HS.out.wl R2.out.size) hg3)).trans y1, Nat.lt_of_lt_of_le HS.out.wl (Nat.le_trans R2.out.size r3.size), CW.out.rd r3 (fun q => hg q.symm), by rw [wideL_length, Hn.out, HN.out], AP2.out.rd r3 G4.out, HS.out.ne1, HS.out.ne2, HS.out.ne3⟩)
  have RR := hide' ((Rd2.left (b := gr) R2.out).trans (Rd2.right (a := gw) r3))
  clear c3 r3
  go_wp2
  go_end0
  exact ⟨rfl, ST3.out, CR3.out, RR.out⟩
end Go.Proofs.Ytdhbdkkchobinaa

namespace Go.Proofs.Ytdhbdkkchobinaa
open Go.RowKit
set_option linter.unusedVariables false

theorem Cel.made (w : World) (N : Nat) (t : TypeId) : Cel (w.alloc (.cells (madeCells #[.int .i64 0] N) t)) w.heap.size (List.replicate N 0) := by
  refine ⟨by simp, fun k hk => ?_, fun k => by simp⟩
  rw [World.cell?_alloc_at _ _ _ _ (by simp)]
  rw [List.length_replicate] at hk
  rw [show (List.replicate N (0 : Int)).getD k 0 = 0 by simp [List.getD, hk]]
  rw [← Array.getElem?_toList, toList_madeCells_one]
  simp [hk]

set_option maxRecDepth 100000 in
set_option maxHeartbeats 1600000 in
theorem stepper_any (S R : Nat) (T : List Int) (ta : Option Addr) (tn tc n : Nat) (w : World) (hL : LineOk S R T) (hT : ArgP w T ta tn tc) (hn1 : n ≤ 1000) (hTg : ∀ g off, ta = some ⟨g, off, none⟩ → g < w.heap.size) :
    Calls Try.prog 29 #[.agg #[.int .i64 2, .int .i64 0, .int .i64 0, .int .i64 (S : Int), .int .i64 (R : Int), .slice ta tn tc, .string ⟨#[]⟩], .int .i64 (n : Int)] w fun e w' => e = .returned (.func (.func 44) #[] #[.pointer (some ⟨w.heap.size + 2, 0, none⟩), .pointer (some ⟨w.heap.size, 0, none⟩)]) ∧ ST w' w.heap.size (w.heap.size + 2) (w.heap.size + 1) S R (n + 2 * R) T ta tn tc (List.replicate (n + 2 * R) 0) ∧ Below w.heap.size w w' ∧ w'.heap.size = w.heap.size + 3 := by
  have hmf : ∀ (fn : Fn) (first cap : Array Value) (w : World), (Instr.makeFunc fn first cap).run Try.prog w = .ok (.func fn first cap) w := fun _ _ _ _ => rfl
  have r10 := hL.r10
  have hmk := run_make_row' (P := Try.prog) 26 3 (.int .i64 0) 8 Try.underlying26 info_int rfl .i64 .i64 (n + 2 * R) (by omega) (by omega)
  obtain ⟨N, hN⟩ : ∃ N, n + 2 * R = N := ⟨_, rfl⟩
  have q1 : (n : Int) + 2 * (R : Int) = (N : Int) := by omega
  have hN4 : N ≤ 1020 := by omega
  rw [hN] at hmk ⊢
  have HT := hide' hT
  have TG := hide' hTg
  have HL := hide' hL
  clear hN hT hTg hL
  go_enter Try.func29, Try.ntmps29
  go_wp2
  go_ret
  refine ⟨rfl, ?_, ?_, by simp⟩
  · have b := (((RB.new w S R (.slice ta tn tc) 28).alloc (.cells (madeCells #[.int .i64 0] N) 3)).alloc (.cells #[.slice (some ⟨w.heap.size + 1, 0, none⟩) N N] 26))
    have c := (Cel.made (w.alloc (.cells #[.int .i64 2, .int .i64 0, .int .i64 0, .int .i64 (S : Int), .int .i64 (R : Int), .slice ta tn tc, .string ⟨#[]⟩] 28)) N 3).below ((Below.refl _ _).alloc (Nat.le_refl _) (.cells #[.slice (some ⟨w.heap.size + 1, 0, none⟩) N N] 26))
    rw [World.size_alloc] at c
    refine ⟨b, ?_, by simp, c, by simp, ((HT.out.alloc _).alloc _).alloc _, by omega, by omega, fun g off e => by have := TG.out g off e; omega⟩
    rw [World.cell?_alloc_at _ _ _ _ (by simp)]
    rfl
  · exact (((Below.refl _ _).alloc (Nat.le_refl _) _).alloc (by simp) _).alloc (by simp; omega) _
end Go.Proofs.Ytdhbdkkchobinaa

