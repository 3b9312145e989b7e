/-
  What the last text of this claim leans on, part 3: Li3, Li4, Li7, Rk2, Rk3, Clone, Rk4.
-/
import Derived.Test.YtjjdjdodhedihaaJj2
import Derived.Test.YtjjdjdodhedihaaJj1
import Derived.Test.YtjjdjdodhedihaaProg
import Derived.Lib.Strings
import Derived.Lib.Walk
import Derived.Lib.BufferWrite
import Derived.Lib.UnsafeStr
import Derived.Lib.Hide
import Derived.Laws.MakeOwn
import Derived.WalkKit
import Derived.Deep.RegionWith
namespace Go.Proofs.Ytjjdjdodhedihaa
open Go.RowKit
set_option linter.unusedVariables false

theorem shorten_pos (S R : Nat) (T : List Int) (ta : Option Addr) (tn tc : Nat) (fs : List Int) (fa : Option Addr) (fn fc gt m cm : Nat) (ts : List Int) (w : World)
    (hL : LineOk S R T) (hT : ArgP w T ta tn tc) (hF : ArgP w fs fa fn fc) (hp : 0 < fc) (hfc : fn ≤ fc) (hfm : fc ≤ maxLen) (hok : cellsOk S fs) (hC : Cel w gt ts) (hm : ts.length = m) (hfn : fn = m + 2 * R) (hm1 : m ≤ 1100)
    (hTg : ∀ g off, ta = some ⟨g, off, none⟩ → g ≠ gt) (hFg : ∀ g off, fa = some ⟨g, off, none⟩ → g ≠ gt) :
    Calls Try.prog 18 #[.agg #[.int .i64 2, .int .i64 0, .int .i64 0, .int .i64 (S : Int), .int .i64 (R : Int), .slice ta tn tc, .string ⟨#[]⟩], .slice fa fn fc, .slice (some ⟨gt, 0, none⟩) m cm] w fun e w' => e = .returned (.tuple #[]) ∧ Cel w' gt (applyL S R T fs) ∧ Rd gt w w' := by
  obtain ⟨k, rfl⟩ : ∃ k, fc = k + 1 := ⟨fc - 1, by omega⟩
  exact shorten_any S R T ta tn tc fs fa fn k gt m cm ts w hL hT hF hfc hfm hok hC hm hfn hm1 hTg hFg

/-- Only two blocks have turned, and new ones were made. -/
structure Rd2 (a b : Nat) (w w' : World) : Prop where
  os : w'.os = w.os
  tape : w'.tape = w.tape
  output : w'.output = w.output
  size : w.heap.size ≤ w'.heap.size
  block : ∀ k, k < w.heap.size → k ≠ a → k ≠ b → w'.heap[k]? = w.heap[k]?
theorem Rd2.refl (a b : Nat) (w : World) : Rd2 a b w w := ⟨rfl, rfl, rfl, Nat.le_refl _, fun _ _ _ _ => rfl⟩
theorem Rd2.trans {a b : Nat} {u v w : World} (h : Rd2 a b u v) (k : Rd2 a b v w) : Rd2 a b u w :=
  ⟨k.os.trans h.os, k.tape.trans h.tape, k.output.trans h.output, Nat.le_trans h.size k.size, fun i hi h1 h2 => (k.block i (Nat.lt_of_lt_of_le hi h.size) h1 h2).trans (h.block i hi h1 h2)⟩
theorem Rd2.left {a b : Nat} {w w' : World} (h : Rd a w w') : Rd2 a b w w' := ⟨h.os, h.tape, h.output, h.size, fun k hk h1 _ => h.block k hk h1⟩
theorem Rd2.right {a b : Nat} {w w' : World} (h : Rd b w w') : Rd2 a b w w' := ⟨h.os, h.tape, h.output, h.size, fun k hk _ h2 => h.block k hk h2⟩
theorem Rd2.below {a b B : Nat} {w w' : World} (h : Rd2 a b w w') (ha : B ≤ a) (hb : B ≤ b) (hs : B ≤ w.heap.size) : Below B w w' :=
  ⟨h.os, h.tape, h.output, h.size, fun k hk => h.block k (by omega) (by omega) (by omega)⟩
/-- What stepper has made: the rule's box, the wide word's box and block. -/
structure ST (w : World) (pr pw gw S R N : Nat) (T : List Int) (ta : Option Addr) (tn tc : Nat) (ws : List Int) : Prop where
  rb : RB pr S R (.slice ta tn tc) w
  wb : w.cell? ⟨pw, 0, none⟩ = some (.slice (some ⟨gw, 0, none⟩) N N)
  wl : pw < w.heap.size
  cw : Cel w gw ws
  wn : ws.length = N
  ap : ArgP w T ta tn tc
  ne1 : pr ≠ gw
  ne2 : pw ≠ gw
  ne3 : ∀ g off, ta = some ⟨g, off, none⟩ → g ≠ gw

set_option maxRecDepth 100000 in
set_option maxHeartbeats 1600000 in
theorem step_ring (S R : Nat) (T : List Int) (ta : Option Addr) (tn tc pr pw gw N gr cr n : Nat) (xs ws : List Int) (w : World)
    (hL : LineOk S R T) (hS : ST w pr pw gw S R N T ta tn tc ws) (hx : Cel w gr xs) (hn : xs.length = n) (hN : N = n + 2 * R) (h0 : 0 < n) (hn1 : n ≤ 1000) (hok : cellsOk S xs) (hg : gr ≠ gw) (hg2 : pr ≠ gr) (hg3 : pw ≠ gr) (hg4 : ∀ g off, ta = some ⟨g, off, none⟩ → g ≠ gr) :
    Calls Try.prog 16 #[.slice (some ⟨gr, 0, none⟩) n cr, .pointer (some ⟨pw, 0, none⟩), .pointer (some ⟨pr, 0, none⟩)] w fun e w' => e = .returned (.tuple #[]) ∧ ST w' pr pw gw S R N T ta tn tc (wideL R xs) ∧ Cel w' gr (stepL S R T xs) ∧ Rd2 gw gr w w' := by
  have HS := hide' hS
  have HX := hide' hx
  have HL := hide' hL
  have HN := hide' hN
  have Hn := hide' hn
  have OKx := hide' hok
  have G4 := hide' hg4
  obtain ⟨x0, x1, x2, x3, x4, x5, x6⟩ := hS.rb
  have y0 := hS.wb
  have r10 := hL.r10
  clear hS hx hL hN hn hok hg4
  go_enter Try.func16, Try.ntmps16
  go_wp2_with fail
  refine (layOut_any R xs ws gr cr gw n N _ HX.out HS.out.cw Hn.out HS.out.wn HN.out h0 hn1 r10 hg).mono ?_
  rintro e w2 ⟨rfl, c2, r2⟩
  have CW := hide' c2
  have R2 := hide' r2
  have RB2 := hide' (HS.out.rb.rd r2 HS.out.ne1)
  have AP2 := hide' (HS.out.ap.rd r2 HS.out.ne3)
  have CX2 := hide' (HX.out.rd r2 hg)
  clear x0 x1 x2 x3 x4 x5 x6 c2 r2
  have y1 : w2.cell? ⟨pw, 0, none⟩ = some (.slice (some ⟨gw, 0, none⟩) N N) := (World.cell?_of_block (w := w) (a := ⟨pw, 0, none⟩) (R2.out.block pw HS.out.wl HS.out.ne2)).trans y0
  clear y0
  obtain ⟨x0, x1, x2, x3, x4, x5, x6⟩ := RB2.out
  have AW := hide' (CW.out.argP (c := N) (show (wideL R xs).length = N by rw [wideL_length, Hn.out, HN.out]) (by unfold maxLen; have := HN.out; omega))
  have OKW := hide' (wideL_ok (R := R) OKx.out (by rw [Hn.out]; exact h0))
  go_wp2_with fail
  refine (shorten_pos S R T ta tn tc (wideL R xs) (some ⟨gw, 0, none⟩) N N gr n cr xs _ HL.out AP2.out AW.out (by have := HN.out; omega) (Nat.le_refl _) (by unfold maxLen; have := HN.out; omega) OKW.out CX2.out Hn.out HN.out (by omega) G4.out (fun g off e => by injection e with e; injection e with e; subst e; exact fun q => hg q.symm)).mono ?_
  rintro e w3 ⟨rfl, c3, r3⟩
  have CR3 := hide' (show Cel w3 gr (stepL S R T xs) by rw [stepL_wide]; exact c3)
  have ST3 := hide' (show ST w3 pr pw gw S R N T ta tn tc (wideL R xs) from ⟨RB2.out.rd r3 hg2, (World.cell?_of_block (w := w2) (a := ⟨pw, 0, none⟩) (r3.block pw (Nat.lt_of_lt_of_le HS.out.wl R2.out.size) hg3)).trans y1, Nat.lt_of_lt_of_le HS.out.wl (Nat.le_trans R2.out.size r3.size), CW.out.rd r3 (fun q => hg q.symm), by rw [wideL_length, Hn.out, HN.out], AP2.out.rd r3 G4.out, HS.out.ne1, HS.out.ne2, HS.out.ne3⟩)
  have RR := hide' ((Rd2.left (b := gr) R2.out).trans (Rd2.right (a := gw) r3))
  clear c3 r3
  go_wp2
  go_end0
  exact ⟨rfl, ST3.out, CR3.out, RR.out⟩
end Go.Proofs.Ytjjdjdodhedihaa

namespace Go.Proofs.Ytjjdjdodhedihaa
open Go.RowKit
set_option linter.unusedVariables false

theorem Cel.made (w : World) (N : Nat) (t : TypeId) : Cel (w.alloc (.cells (madeCells #[.int .i64 0] N) t)) w.heap.size (List.replicate N 0) := by
  refine ⟨by simp, fun k hk => ?_, fun k => by simp⟩
  rw [World.cell?_alloc_at _ _ _ _ (by simp)]
  rw [List.length_replicate] at hk
  rw [show (List.replicate N (0 : Int)).getD k 0 = 0 by simp [List.getD, hk]]
  rw [← Array.getElem?_toList, toList_madeCells_one]
  simp [hk]

set_option maxRecDepth 100000 in
set_option maxHeartbeats 1600000 in
theorem stepper_any (S R : Nat) (T : List Int) (ta : Option Addr) (tn tc n : Nat) (w : World) (hL : LineOk S R T) (hT : ArgP w T ta tn tc) (hn1 : n ≤ 1000) (hTg : ∀ g off, ta = some ⟨g, off, none⟩ → g < w.heap.size) :
    Calls Try.prog 10 #[.agg #[.int .i64 2, .int .i64 0, .int .i64 0, .int .i64 (S : Int), .int .i64 (R : Int), .slice ta tn tc, .string ⟨#[]⟩], .int .i64 (n : Int)] w fun e w' => e = .returned (.func (.func 16) #[] #[.pointer (some ⟨w.heap.size + 2, 0, none⟩), .pointer (some ⟨w.heap.size, 0, none⟩)]) ∧ ST w' w.heap.size (w.heap.size + 2) (w.heap.size + 1) S R (n + 2 * R) T ta tn tc (List.replicate (n + 2 * R) 0) ∧ Below w.heap.size w w' ∧ w'.heap.size = w.heap.size + 3 := by
  have hmf : ∀ (fn : Fn) (first cap : Array Value) (w : World), (Instr.makeFunc fn first cap).run Try.prog w = .ok (.func fn first cap) w := fun _ _ _ _ => rfl
  have r10 := hL.r10
  have hmk := run_make_row' (P := Try.prog) 22 3 (.int .i64 0) 8 Try.underlying22 info_int rfl .i64 .i64 (n + 2 * R) (by omega) (by omega)
  obtain ⟨N, hN⟩ : ∃ N, n + 2 * R = N := ⟨_, rfl⟩
  have q1 : (n : Int) + 2 * (R : Int) = (N : Int) := by omega
  have hN4 : N ≤ 1020 := by omega
  rw [hN] at hmk ⊢
  have HT := hide' hT
  have TG := hide' hTg
  have HL := hide' hL
  clear hN hT hTg hL
  go_enter Try.func10, Try.ntmps10
  go_wp2
  go_ret
  refine ⟨rfl, ?_, ?_, by simp⟩
  · have b := (((RB.new w S R (.slice ta tn tc) 24).alloc (.cells (madeCells #[.int .i64 0] N) 3)).alloc (.cells #[.slice (some ⟨w.heap.size + 1, 0, none⟩) N N] 22))
    have c := (Cel.made (w.alloc (.cells #[.int .i64 2, .int .i64 0, .int .i64 0, .int .i64 (S : Int), .int .i64 (R : Int), .slice ta tn tc, .string ⟨#[]⟩] 24)) N 3).below ((Below.refl _ _).alloc (Nat.le_refl _) (.cells #[.slice (some ⟨w.heap.size + 1, 0, none⟩) N N] 22))
    rw [World.size_alloc] at c
    refine ⟨b, ?_, by simp, c, by simp, ((HT.out.alloc _).alloc _).alloc _, by omega, by omega, fun g off e => by have := TG.out g off e; omega⟩
    rw [World.cell?_alloc_at _ _ _ _ (by simp)]
    rfl
  · exact (((Below.refl _ _).alloc (Nat.le_refl _) _).alloc (by simp) _).alloc (by simp; omega) _
end Go.Proofs.Ytjjdjdodhedihaa

namespace Go.Proofs.Ytjjdjdodhedihaa
open Go.RowKit
set_option linter.unusedVariables false

theorem ArgP.blk {w : World} {xs : List Int} {a : Option Addr} {n c : Nat} (h : ArgP w xs a n c) (hn : 0 < n) : ∀ g off, a = some ⟨g, off, none⟩ → g < w.heap.size := fun g off e => by
  obtain ⟨g', off', e', hg, -⟩ := h.cells 0 (by rw [← h.len]; exact hn)
  rw [e'] at e
  injection e with e
  injection e with e1
  omega
theorem LineOk.pos {S R : Nat} {T : List Int} (h : LineOk S R T) : 0 < T.length := by
  rw [h.len]
  exact Nat.pow_pos (by have := h.s2; omega)
theorem zeros_ok (S m : Nat) (h : 2 ≤ S) : cellsOk S (List.replicate m 0) := fun x hx => by
  rw [List.mem_replicate] at hx
  omega

set_option maxRecDepth 100000 in
set_option maxHeartbeats 1600000 in
theorem shorten_none (S R : Nat) (T : List Int) (ta : Option Addr) (tn tc : Nat) (fs : List Int) (fa : Option Addr) (fc : Nat) (w : World)
    (hL : LineOk S R T) (hT : ArgP w T ta tn tc) (hF : ArgP w fs fa (2 * R) (fc + 1)) (hfc : 2 * R ≤ fc + 1) (hfm : fc + 1 ≤ 1000) (hok : cellsOk S fs) :
    Calls Try.prog 18 #[.agg #[.int .i64 2, .int .i64 0, .int .i64 0, .int .i64 (S : Int), .int .i64 (R : Int), .slice ta tn tc, .string ⟨#[]⟩], .slice fa (2 * R) (fc + 1), .slice none 0 0] w fun e w' => e = .returned (.tuple #[]) ∧ Below w.heap.size w w' := by
  obtain ⟨w1, hw1⟩ : ∃ w1, w.alloc (.cells #[.int .i64 2, .int .i64 0, .int .i64 0, .int .i64 (S : Int), .int .i64 (R : Int), .slice ta tn tc, .string ⟨#[]⟩] 24) = w1 := ⟨_, rfl⟩
  have RX := hide' (show RB w.heap.size S R (.slice ta tn tc) w1 by rw [← hw1]; exact RB.new w S R _ _)
  have AF := hide' (show ArgP w1 fs fa (2 * R) (fc + 1) by rw [← hw1]; exact hF.alloc _)
  have BB := hide' (show Below w.heap.size w w1 by rw [← hw1]; exact (Below.refl _ _).alloc (Nat.le_refl _) _)
  have HL := hide' hL
  have HO := hide' hok
  have FL := hide' hF.len
  have s2 := hL.s2
  have s4 := hL.s4
  have r10 := hL.r10
  have hmx := hL.max
  have htn : tn ≤ 4096 := by have := hT.len; omega
  have s0 : ((S : Int) == 0) = false := by simp; omega
  have hq : ∃ q : Nat, (tn : Int) / (S : Int) = (q : Int) ∧ (q : Int) = (S : Int) ^ (2 * R) := ⟨S ^ (2 * R), by rw [hT.len, first_is hL]; simp, by simp⟩
  obtain ⟨q, hq1, hq2⟩ := hq
  have hq4 : (q : Int) ≤ 4096 := by rw [hq2]; exact pow_le_tab hL (by omega)
  have o2 : (2 * (R : Int)) ≤ ((fc : Int) + 1) := by omega
  clear hT hF hok hL hq2
  obtain ⟨x0, x1, x2, x3, x4, x5, x6⟩ := RX.out
  go_enter Try.func18, Try.ntmps18
  go_wp2
  clear hw1
  go_loop [8, 25] (fun wv iv => ∃ i v : Nat, iv = .int .i64 (i : Int) ∧ wv = .int .i64 (v : Int) ∧ i ≤ 2 * R ∧ Hid ((v : Int) = wn S (fun t => fs.getD t 0) 0 i)) (fun _ iv => 2 * R - (intOf iv).toNat)
  case atStart => exact ⟨0, 0, rfl, rfl, by omega, hide' rfl⟩
  case round =>
    obtain ⟨i, v, rfl, rfl, hi, HV⟩ := hrel
    by_cases d : (i : Int) < 2 * (R : Int)
    · obtain ⟨g, off, rfl, hc⟩ := AF.out.at (k := i) (by omega)
      obtain ⟨x, hx⟩ : ∃ x : Nat, fs.getD i 0 = (x : Int) := ⟨(fs.getD i 0).toNat, by have := cellsOk_at HO.out (k := i) (by have := FL.out; omega); omega⟩
      rw [hx] at hc
      obtain ⟨p, hp⟩ : ∃ p : Nat, (v : Int) * (S : Int) = (p : Int) := ⟨v * S, by simp⟩
      have HN := hide' (show ((p + x : Nat) : Int) = wn S (fun t => fs.getD t 0) 0 (i + 1) by rw [wn, ← HV.out, hp, Nat.zero_add, hx]; simp)
      have hlt : p + x ≤ 4096 := by
        have h1 := wn_lt (S := (S : Int)) (f := fun t => fs.getD t 0) (i := 0) (m := i + 1) (by omega) (fun e he => cellsOk_at HO.out (by have := FL.out; omega))
        have h2 := pow_le_tab HL.out (m := i + 1) (by omega)
        rw [← HN.out] at h1
        omega
      have k1 : i < 2 * R := by omega
      clear hx
      go_wp2
      exact ⟨⟨i + 1, p + x, by go_num, by go_num, by omega, HN.out⟩, by simp [intOf]; omega⟩
    · go_wp2
      go_loop [38] (fun iv => iv = .int .i64 0) (fun _ => 0)
      case atStart => rfl
      case round =>
        obtain rfl := hrel
        go_wp2
        go_end0
        exact ⟨rfl, BB.out⟩

set_option maxRecDepth 100000 in
set_option maxHeartbeats 1600000 in
theorem shorten_none0 (S : Nat) (T : List Int) (ta : Option Addr) (tn tc : Nat) (fa : Option Addr) (w : World) (hL : LineOk S 0 T) (hT : ArgP w T ta tn tc) :
    Calls Try.prog 18 #[.agg #[.int .i64 2, .int .i64 0, .int .i64 0, .int .i64 (S : Int), .int .i64 0, .slice ta tn tc, .string ⟨#[]⟩], .slice fa 0 0, .slice none 0 0] w fun e w' => e = .returned (.tuple #[]) ∧ Below w.heap.size w w' := by
  obtain ⟨w1, hw1⟩ : ∃ w1, w.alloc (.cells #[.int .i64 2, .int .i64 0, .int .i64 0, .int .i64 (S : Int), .int .i64 0, .slice ta tn tc, .string ⟨#[]⟩] 24) = w1 := ⟨_, rfl⟩
  have RX := hide' (show RB w.heap.size S 0 (.slice ta tn tc) w1 by rw [← hw1]; exact RB.new w S 0 _ _)
  have BB := hide' (show Below w.heap.size w w1 by rw [← hw1]; exact (Below.refl _ _).alloc (Nat.le_refl _) _)
  have s2 := hL.s2
  have s4 := hL.s4
  have hmx := hL.max
  have htn : tn ≤ 4096 := by have := hT.len; omega
  have s0 : ((S : Int) == 0) = false := by simp; omega
  have hq : ∃ q : Nat, (tn : Int) / (S : Int) = (q : Int) ∧ (q : Int) ≤ 4096 := ⟨1, by rw [hT.len, first_is hL]; simp, by omega⟩
  obtain ⟨q, hq1, hq4⟩ := hq
  clear hT hL
  obtain ⟨x0, x1, x2, x3, x4, x5, x6⟩ := RX.out
  go_enter Try.func18, Try.ntmps18
  go_wp2
  clear hw1
  go_loop [25] (fun iv => iv = .int .i64 0) (fun _ => 0)
  case atStart => rfl
  case round =>
    obtain rfl := hrel
    go_wp2
    go_loop [38] (fun iv => iv = .int .i64 0) (fun _ => 0)
    case atStart => rfl
    case round =>
      obtain rfl := hrel
      go_wp2
      go_end0
      exact ⟨rfl, BB.out⟩
end Go.Proofs.Ytjjdjdodhedihaa

namespace Go.Proofs.Ytjjdjdodhedihaa
open Go.RowKit

end Go.Proofs.Ytjjdjdodhedihaa

namespace Go.Proofs.Ytjjdjdodhedihaa
open Go.RowKit
set_option linter.unusedVariables false

end Go.Proofs.Ytjjdjdodhedihaa

namespace Go.Proofs.Ytjjdjdodhedihaa
open Go.RowKit

end Go.Proofs.Ytjjdjdodhedihaa

namespace Go.Proofs.Ytjjdjdodhedihaa
open Go.RowKit
set_option linter.unusedVariables false

theorem isTurn_any (c : Int) (w : World) :
    Calls Try.prog 29 #[.int .u8 c] w fun e w' => e = .returned (.bool (c == 76 || c == 82)) ∧ w' = w := by
  cases h1 : (c == 76)
  · cases h2 : (c == 82)
    · go_enter Try.func29, Try.ntmps29
      go_wp2
      go_ret
      exact ⟨rfl, rfl⟩
    · go_enter Try.func29, Try.ntmps29
      go_wp2
      go_ret
      exact ⟨rfl, rfl⟩
  · go_enter Try.func29, Try.ntmps29
    go_wp2
    go_ret
    exact ⟨rfl, rfl⟩

theorem isTurn_yes (c : Int) (w : World) (h : c = 76 ∨ c = 82) :
    Calls Try.prog 29 #[.int .u8 c] w fun e w' => e = .returned (.bool true) ∧ w' = w := by
  refine (isTurn_any c w).mono fun e w' ⟨he, hw⟩ => ⟨?_, hw⟩
  rw [he, show (c == 76 || c == 82) = true by simp; omega]
theorem isTurn_no (c : Int) (w : World) (h : ¬ (c = 76 ∨ c = 82)) :
    Calls Try.prog 29 #[.int .u8 c] w fun e w' => e = .returned (.bool false) ∧ w' = w := by
  refine (isTurn_any c w).mono fun e w' ⟨he, hw⟩ => ⟨?_, hw⟩
  rw [he, show (c == 76 || c == 82) = false by simp; omega]

theorem At.below {b : Nat} {s : ByteArray} {i : Nat} {w w' : World} (h : At b s i w) (hb : Below w.heap.size w w') : At b s i w' := by
  have e := hb.block b h.lt
  exact ⟨(World.cell?_of_block (w := w) (a := ⟨b, 0, none⟩) e).trans h.txt, (World.cell?_of_block (w := w) (a := ⟨b, 1, none⟩) e).trans h.pos,
    (World.frozen?_of_block (w := w) (a := ⟨b, 0, none⟩) e).trans h.fz0, (World.frozen?_of_block (w := w) (a := ⟨b, 1, none⟩) e).trans h.fz1⟩
theorem At.drew {b : Nat} {s : ByteArray} {i : Nat} {w : World} (h : At b s i w) : At b s i w.drew := ⟨h.txt, h.pos, h.fz0, h.fz1⟩
end Go.Proofs.Ytjjdjdodhedihaa

