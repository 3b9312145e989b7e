/-
  What the last text of this claim leans on, part 20: LawBbh, LawBb, OpenBb.
-/
import Derived.Test.YtfeddccbhmbkmaaZb15
import Derived.Test.YtfeddccbhmbkmaaZb16
import Derived.Test.YtfeddccbhmbkmaaZb17
import Derived.Test.YtfeddccbhmbkmaaZb18
import Derived.Test.YtfeddccbhmbkmaaZb19
import Derived.Test.YtfeddccbhmbkmaaZb4
import Derived.Test.YtfeddccbhmbkmaaRows
import Derived.Deep.CutRange
import Derived.WalkKit
import Derived.ProofKit
import Derived.OpenShut
import Derived.ChangeSame
import Derived.ChangeSlices
import Derived.ChangeVars
import Derived.RowKit
import Derived.Carry
namespace Go.Proofs.Ytfeddccbhmbkmaa
open Go.RowKit
set_option linter.unusedVariables false
set_option maxRecDepth 100000 in
set_option maxHeartbeats 6400000 in
theorem law_bb_ffe (W H ph k : Nat) (t xs ys qs zs bl : List Int) (sx sy : Int) (b : Option Addr) (m d : Nat) (a : Option Addr) (n c : Nat) (w : World) (hP : ArgP w xs a n c) (p1 : ph ≤ 1) (k1 : k ≤ 100000)
    (run : ∀ V, Below w.heap.size w V → Calls Try.prog 6 #[.slice b m d, .agg #[.int .i64 (W : Int), .int .i64 (H : Int), .slice a n c], .int .i64 (ph : Int), .int .i64 (k : Int)] V (RunOut W H ys V))
    (kee : ∀ V, Below w.heap.size w V → Calls Try.prog 7 #[.slice b m d] V (FlagPost false V))
    (cp : ∀ V, Below w.heap.size w V → Calls Try.prog 8 #[.agg #[.int .i64 (W : Int), .int .i64 (H : Int), .slice a n c]] V (CountOut sx V))
    (ca : ∀ V a n c, ArgP V ys a n c → Calls Try.prog 8 #[.agg #[.int .i64 (W : Int), .int .i64 (H : Int), .slice a n c]] V (CountOut sy V))
    (tur : ∀ V, Below w.heap.size w V → Calls Try.prog 9 #[.slice b m d] V (FlagPost false V))
    (bac : ∀ V, Below w.heap.size w V → Calls Try.prog 5 #[.slice b m d] V (BackErr V)) :
    Calls Try.prog 3 #[.slice b m d, .agg #[.int .i64 (W : Int), .int .i64 (H : Int), .slice a n c], .int .i64 (ph : Int), .int .i64 (k : Int)] w fun e w' => e = .returned (.bool true) ∧ Below w.heap.size w w' := by
  obtain ⟨w1, hw1⟩ : ∃ w1, w.alloc (.cells #[.int .i64 (W : Int), .int .i64 (H : Int), .slice a n c] 24) = w1 := ⟨_, rfl⟩
  have BB := hide' (show Below w.heap.size w w1 by rw [← hw1]; exact (Below.refl _ _).alloc (Nat.le_refl _) _)
  have g1 : w1.heap[w.heap.size]? = some (.cells #[.int .i64 (W : Int), .int .i64 (H : Int), .slice a n c] 24 (0, 0)) := by rw [← hw1]; exact heap_alloc_new _ _
  have SV := hide' (fun (V : World) (h : Below w1.heap.size w1 V) => show V.cell? ⟨w.heap.size, 0, none⟩ = some (.int .i64 (W : Int)) ∧ V.cell? ⟨w.heap.size, 1, none⟩ = some (.int .i64 (H : Int)) ∧ V.cell? ⟨w.heap.size, 2, none⟩ = some (.slice a n c) from by
    have e1 := (h.block _ (lt_of_block g1)).trans g1
    exact ⟨cell_of_row V _ 0 _ _ _ e1, cell_of_row V _ 1 _ _ _ e1, cell_of_row V _ 2 _ _ _ e1⟩)
  have BW := hide' (fun (V : World) (h : Below w1.heap.size w1 V) => BB.out.trans (h.mono BB.out.size))
  have C0 := hide' ((Below.refl w1.heap.size w1).alloc (Nat.le_refl _) (.cells #[.int .i64 0, .int .i64 8, .int .i64 4, .int .i64 3, .int .i64 2, .int .i64 5, .int .i64 9, .int .i64 7, .int .i64 1, .int .i64 6, .int .i64 10, .int .i64 11, .int .i64 12, .int .i64 13, .int .i64 14, .int .i64 15] 3))
  have GB := hide' (show (w1.alloc (.cells #[.int .i64 0, .int .i64 8, .int .i64 4, .int .i64 3, .int .i64 2, .int .i64 5, .int .i64 9, .int .i64 7, .int .i64 1, .int .i64 6, .int .i64 10, .int .i64 11, .int .i64 12, .int .i64 13, .int .i64 14, .int .i64 15] 3)).heap[w1.heap.size]? = some (.cells #[.int .i64 0, .int .i64 8, .int .i64 4, .int .i64 3, .int .i64 2, .int .i64 5, .int .i64 9, .int .i64 7, .int .i64 1, .int .i64 6, .int .i64 10, .int .i64 11, .int .i64 12, .int .i64 13, .int .i64 14, .int .i64 15] 3 (0, 0)) from heap_alloc_new _ _)
  have RUN := hide' (fun (V : World) (h : Below w1.heap.size w1 V) => run V (BW.out V h))
  have KEE := hide' (fun (V : World) (h : Below w1.heap.size w1 V) => kee V (BW.out V h))
  have CP := hide' (fun (V : World) (h : Below w1.heap.size w1 V) => cp V (BW.out V h))
  have CA' := hide' ca
  have TUR := hide' (fun (V : World) (h : Below w1.heap.size w1 V) => tur V (BW.out V h))
  have BAC := hide' (fun (V : World) (h : Below w1.heap.size w1 V) => bac V (BW.out V h))
  have PK := hide' (And.intro p1 k1)
  clear run kee cp ca tur bac hP p1 k1
  clear g1
  go_enter Try.func3, Try.ntmps3
  go_upto_region 1 with fail
  clear hw1
  go_wp2_with fail
  refine (fact8 _ _ GB.out).mono ?_
  rintro e w2 ⟨⟨g2, rfl, k8⟩, b⟩
  have C1 := hide' (C0.out.trans (b.mono C0.out.size))
  clear b C0 GB
  go_upto_region 4 with fail
  clear k8
  obtain ⟨x0, x1, x2⟩ := SV.out _ C1.out
  go_wp2_with fail
  refine (RUN.out w2 C1.out).mono ?_
  rintro e w3 ⟨fa, fn, fc, rfl, ap, b'⟩
  have C2 := hide' (C1.out.trans (b'.mono C1.out.size))
  clear b' x0 x1 x2 C1
  have Af := hide' ap
  clear ap
  have C3 := hide' (C2.out.alloc C2.out.size (.cells #[.int .i64 (W : Int), .int .i64 (H : Int), .slice fa fn fc] 24))
  have Af0 := hide' (Af.out.alloc (.cells #[.int .i64 (W : Int), .int .i64 (H : Int), .slice fa fn fc] 24))
  have Gf0 := hide' (show (w3.alloc (.cells #[.int .i64 (W : Int), .int .i64 (H : Int), .slice fa fn fc] 24)).heap[w3.heap.size]? = some (.cells #[.int .i64 (W : Int), .int .i64 (H : Int), .slice fa fn fc] 24 (0, 0)) from heap_alloc_new _ _)
  clear Af C2
  go_wp2_with fail
  refine (KEE.out _ C3.out).mono ?_
  rintro e w4 ⟨rfl, b'⟩
  have C4 := hide' (C3.out.trans (b'.mono C3.out.size))
  have Gf4 := hide' ((b'.block _ (lt_of_block Gf0.out)).trans Gf0.out)
  have Af4 := hide' (Af0.out.below b')
  clear b'  C3 Gf0 Af0
  obtain ⟨x0, x1, x2⟩ := SV.out _ C4.out
  go_wp2_with fail
  refine (CP.out _ C4.out).mono ?_
  rintro e w5 ⟨rfl, b'⟩
  have C5 := hide' (C4.out.trans (b'.mono C4.out.size))
  have Gf5 := hide' ((b'.block _ (lt_of_block Gf4.out)).trans Gf4.out)
  have Af5 := hide' (Af4.out.below b')
  clear b' x0 x1 x2 C4 Gf4 Af4
  have z0 := cell_of_row _ _ 0 _ _ _ Gf5.out
  have z1 := cell_of_row _ _ 1 _ _ _ Gf5.out
  have z2 := cell_of_row _ _ 2 _ _ _ Gf5.out
  simp at z0 z1 z2
  go_wp2_with fail
  refine (CA'.out _ fa fn fc Af5.out).mono ?_
  rintro e w6 ⟨rfl, b'⟩
  have C6 := hide' (C5.out.trans (b'.mono C5.out.size))
  have Gf6 := hide' ((b'.block _ (lt_of_block Gf5.out)).trans Gf5.out)
  have Af6 := hide' (Af5.out.below b')
  clear b' z0 z1 z2 C5 Gf5 Af5
  go_wp2_with fail
  refine (TUR.out _ C6.out).mono ?_
  rintro e w7 ⟨rfl, b'⟩
  have C7 := hide' (C6.out.trans (b'.mono C6.out.size))
  have Gf7 := hide' ((b'.block _ (lt_of_block Gf6.out)).trans Gf6.out)
  have Af7 := hide' (Af6.out.below b')
  clear b'  C6 Gf6 Af6
  go_wp2_with fail
  refine (BAC.out _ C7.out).mono ?_
  rintro e w12 ⟨rfl, b'⟩
  have C8 := hide' (C7.out.trans (b'.mono C7.out.size))
  have Gf8 := hide' ((b'.block _ (lt_of_block Gf7.out)).trans Gf7.out)
  have Af8 := hide' (Af7.out.below b')
  clear b'  C7 Gf7 Af7
  go_wp2
  go_ret
  exact ⟨rfl, BW.out _ C8.out⟩
end Go.Proofs.Ytfeddccbhmbkmaa

namespace Go.Proofs.Ytfeddccbhmbkmaa
open Go.RowKit
set_option linter.unusedVariables false
theorem back_ok (t : List Int) (b : Option Addr) (d : Nat) (w : World) (hT : ArgP w t b 16 d) (t0 : tabE t = 0) (hi : ∀ x y, x < 16 → y < 16 → tvF t x = tvF t y → x = y) : Calls Try.prog 5 #[.slice b 16 d] w (BackOk (backL (tvF t)) w) := by
  refine (back_good t b d (tvF t) w hT t0 (tab_TbB hT t0).2).mono ?_
  rintro e w' (⟨i, j, h1, h2, h3, _⟩ | ⟨_, g', rfl, _, h, bl⟩)
  · exact absurd (hi i j (by omega) h2 h3) (by omega)
  · refine ⟨g', rfl, ⟨by simp [backL], by unfold maxLen; omega, fun k hk => ⟨g', 0, rfl, lt_of_block h, ?_⟩⟩, bl⟩
    have hk' : k < 16 := by simpa [backL] using hk
    rw [Nat.zero_add, cell_of_row w' _ _ _ _ _ h, arrF_get _ hk']
    simp [backL]
theorem back_err (t : List Int) (b : Option Addr) (d : Nat) (w : World) (hT : ArgP w t b 16 d) (t0 : tabE t = 0) (hi : ¬ ∀ x y, x < 16 → y < 16 → tvF t x = tvF t y → x = y) : Calls Try.prog 5 #[.slice b 16 d] w (BackErr w) := by
  refine (back_good t b d (tvF t) w hT t0 (tab_TbB hT t0).2).mono ?_
  rintro e w' (⟨i, j, h1, h2, h3, rfl, bl⟩ | ⟨h, _⟩)
  · exact ⟨rfl, bl⟩
  · exact absurd h hi
theorem law_bb_all (t : List Int) (b : Option Addr) (m d : Nat) (W H : Int) (xs : List Int) (a : Option Addr) (n c : Nat) (ph k : Int) (w : World) (hT : ArgP w t b m d) (hP : ArgP w xs a n c) :
    Calls Try.prog 3 #[.slice b m d, .agg #[.int .i64 W, .int .i64 H, .slice a n c], .int .i64 ph, .int .i64 k] w fun e w' => e = .returned (.bool true) ∧ Below w.heap.size w w' := by
  by_cases f0 : runE t W H xs ph k = 0
  · obtain ⟨t0, Wn, Hn, V, U, p, kn, rfl, rfl, hW, hH, ev, rfl, hp, rfl, hk, hn, hx, s0⟩ := runE_zero f0
    obtain ⟨m16, tb⟩ := tab_TbB hT t0
    subst m16
    have ht : ∀ k, k < 16 → tvF t k < 16 := fun k hk => ((tabE_zero t0).2 k hk).2
    have n10 : Wn * Hn ≤ 10000 := Nat.mul_le_mul hW hH
    obtain ⟨ys1, ys2, ys3⟩ := runL8_shape (t := t) (ph := p) (n := kn) hW hH hx
    have nl : n = Wn * Hn := hP.len.trans hn
    have run := fun (V : World) (h : Below w.heap.size w V) => run_good t b 16 d Wn Hn xs a n c p kn V (hT.below h) (hP.below h) f0
    have kee := fun (V : World) (h : Below w.heap.size w V) => keeps_good t b d (tvF t) V (hT.below h) t0 (tab_TbB (hT.below h) t0).2
    have tur := fun (V : World) (h : Below w.heap.size w V) => turns_good t b d (tvF t) V (hT.below h) t0 (tab_TbB (hT.below h) t0).2
    have cp : ∀ V, Below w.heap.size w V → Calls Try.prog 8 #[.agg #[.int .i64 (Wn : Int), .int .i64 (Hn : Int), .slice a n c]] V (CountOut (sumI xs (Wn * Hn)) V) := fun V h => by
      have := count_any (Wn : Int) (Hn : Int) xs a n c V (hP.below h) hx (by omega)
      rw [nl] at this ⊢
      exact this
    have ca : ∀ V a n c, ArgP V (runL8 t Wn Hn p xs kn) a n c → Calls Try.prog 8 #[.agg #[.int .i64 (Wn : Int), .int .i64 (Hn : Int), .slice a n c]] V (CountOut (sumI (runL8 t Wn Hn p xs kn) (Wn * Hn)) V) := fun V a n c h => by
      have nl2 : n = Wn * Hn := h.len.trans ys3
      have := count_any (Wn : Int) (Hn : Int) _ a n c V h ys2 (by omega)
      rw [nl2] at this ⊢
      exact this
    have tp : ∀ V, Below w.heap.size w V → Calls Try.prog 10 #[.agg #[.int .i64 (Wn : Int), .int .i64 (Hn : Int), .slice a n c], .int .i64 1] V (TurnOut Hn Wn (qtrP Wn Hn xs) V) := fun V h => turn1_any Wn Hn xs a n c V (hP.below h) hn hW hH
    have ta : ∀ V a n c, ArgP V (runL8 t Wn Hn p xs kn) a n c → Calls Try.prog 10 #[.agg #[.int .i64 (Wn : Int), .int .i64 (Hn : Int), .slice a n c], .int .i64 1] V (TurnOut Hn Wn (qtrP Wn Hn (runL8 t Wn Hn p xs kn)) V) := fun V a n c h => turn1_any Wn Hn _ a n c V h ys3 hW hH
    have rq : turnB (tvF t) = true → ∀ V a n c, Below w.heap.size w V → ArgP V (qtrP Wn Hn xs) a n c → Calls Try.prog 6 #[.slice b 16 d, .agg #[.int .i64 (Hn : Int), .int .i64 (Wn : Int), .slice a n c], .int .i64 (p : Int), .int .i64 (kn : Int)] V (RunOut Hn Wn (qtrP Wn Hn (runL8 t Wn Hn p xs kn)) V) := fun tt V a n c h ha => by
      rw [← list_turned ev hp ht hx hn tt]
      exact run_good t b 16 d Hn Wn _ a n c p kn V (hT.below h) ha (runE_turned f0 hW hH hx)
    have rb : (∀ x y, x < 16 → y < 16 → tvF t x = tvF t y → x = y) → ∀ V g a n c, ArgP V (backL (tvF t)) (some ⟨g, 0, none⟩) 16 16 → ArgP V (runL8 t Wn Hn p xs kn) a n c → Calls Try.prog 6 #[.slice (some ⟨g, 0, none⟩) 16 16, .agg #[.int .i64 (Wn : Int), .int .i64 (Hn : Int), .slice a n c], .int .i64 (((p + kn + 1) % 2 : Nat) : Int), .int .i64 (kn : Int)] V (RunOut Wn Hn xs V) := fun hi V g a n c hb ha => by
      have := run_good (backL (tvF t)) (some ⟨g, 0, none⟩) 16 16 Wn Hn _ a n c ((p + kn + 1) % 2) kn V hb ha (runE_back f0 (backL_ok _) ys1 (by omega))
      rw [list_back ev hp ht hx hn hi] at this
      exact this
    have ck : keepB (tvF t) = true → sumI (runL8 t Wn Hn p xs kn) (Wn * Hn) = sumI xs (Wn * Hn) := fun h => count_kept ev hp hx hn h
    cases hkb : keepB (tvF t) <;> rw [hkb] at kee <;> cases htb : turnB (tvF t) <;> rw [htb] at tur
    · by_cases hi : ∀ x y, x < 16 → y < 16 → tvF t x = tvF t y → x = y
      · exact law_bb_ffo Wn Hn p kn t xs _ [] [] _ _ _ b 16 d a n c w hP hp hk run kee cp ca tur (fun V h => back_ok t b d V (hT.below h) t0 hi) (rb hi)
      · exact law_bb_ffe Wn Hn p kn t xs _ [] [] [] _ _ b 16 d a n c w hP hp hk run kee cp ca tur (fun V h => back_err t b d V (hT.below h) t0 hi)
    · by_cases hi : ∀ x y, x < 16 → y < 16 → tvF t x = tvF t y → x = y
      · exact law_bb_fto Wn Hn p kn t xs _ _ _ _ _ _ b 16 d a n c w hP hp hk run kee cp ca tur tp (rq htb) ta (fun V h => back_ok t b d V (hT.below h) t0 hi) (rb hi)
      · exact law_bb_fte Wn Hn p kn t xs _ _ _ [] _ _ b 16 d a n c w hP hp hk run kee cp ca tur tp (rq htb) ta (fun V h => back_err t b d V (hT.below h) t0 hi)
    · rw [ck hkb] at ca
      by_cases hi : ∀ x y, x < 16 → y < 16 → tvF t x = tvF t y → x = y
      · exact law_bb_tfo Wn Hn p kn t xs _ [] [] _ _ 0 b 16 d a n c w hP hp hk run kee cp ca tur (fun V h => back_ok t b d V (hT.below h) t0 hi) (rb hi)
      · exact law_bb_tfe Wn Hn p kn t xs _ [] [] [] _ 0 b 16 d a n c w hP hp hk run kee cp ca tur (fun V h => back_err t b d V (hT.below h) t0 hi)
    · rw [ck hkb] at ca
      by_cases hi : ∀ x y, x < 16 → y < 16 → tvF t x = tvF t y → x = y
      · exact law_bb_tto Wn Hn p kn t xs _ _ _ _ _ 0 b 16 d a n c w hP hp hk run kee cp ca tur tp (rq htb) ta (fun V h => back_ok t b d V (hT.below h) t0 hi) (rb hi)
      · exact law_bb_tte Wn Hn p kn t xs _ _ _ [] _ 0 b 16 d a n c w hP hp hk run kee cp ca tur tp (rq htb) ta (fun V h => back_err t b d V (hT.below h) t0 hi)
  · exact law_bb_bad t b m d W H xs a n c ph k w hT hP f0
end Go.Proofs.Ytfeddccbhmbkmaa

namespace Go.Proofs.Ytfeddccbhmbkmaa
open Go.ChangeShapes Go.WideShapes Go.ChangeAt Go.RowKit
open Go.ChangeMaps (setBlock shut_map_nil open_string shut_string keptBut_setBlock frozen?_setBlock heap_setBlock_same)
set_option linter.unusedVariables false

theorem laidOutP : laidOutB Try.prog = true := by kernel_rfl
theorem ownP : ownKnob Try.prog.godebug = none := by kernel_rfl
/-- A list of ints as it is read. -/
theorem ints_arg {H : Type} {enc : TypeId × Value → H} {W : World} {fuel : Nat} {cs : List Value} {x : DataW H × List MemPlace}
    (h : DataW.trod enc Try.prog W 0 (fun _ => true) true fuel 22 cs = some x) :
    ∃ (xs : List Int) (a : Option Addr) (c : Nat), cs = [.slice a xs.length c] ∧ ArgP W xs a xs.length c ∧ xs.length ≤ c ∧ c ≤ maxLen := by
  have q3 : Try.prog.cellsOf 3 = 1 := by kernel_rfl
  rcases open_ints Try.underlying22 Try.underlying3 q3 h with ⟨rfl, -⟩ | ⟨a, len, cap, zs, rfl, hb, hlc, hcm, hzl, -, hcell, hwf⟩
  · exact ⟨[], none, 0, rfl, ⟨rfl, by simp, fun k hk => absurd hk (by simp)⟩, by simp, by simp⟩
  · simp only [if_true] at hzl
    have hl : (zs.take len).length = len := by simp; omega
    refine ⟨zs.take len, some a, cap, by rw [hl], ⟨rfl, by omega, fun k hk => ?_⟩, by omega, hcm⟩
    have hk' : k < len ∧ k < zs.length := by simp only [List.length_take] at hk; omega
    have hc0 := hcell 0 (by omega)
    have hck := hcell k hk'.2
    obtain ⟨g, off, sp⟩ := a
    have hsp : sp = none := by
      cases sp with
      | none => rfl
      | some q =>
        exfalso
        simp [Addr.add, World.cell?] at hc0
        split at hc0 <;> simp at hc0
    subst hsp
    have ea : (⟨g, off, none⟩ : Addr).add k = ⟨g, off + k, none⟩ := by
      unfold Addr.add
      split
      · rename_i hz; subst hz; rfl
      · rfl
    rw [ea] at hck
    refine ⟨g, off, rfl, ?_, ?_⟩
    · rcases Nat.lt_or_ge g W.heap.size with q | q
      · exact q
      · simp [World.cell?, Array.getElem?_eq_none q] at hck
    · rw [hck]
      simp [List.getD, hk'.2]

set_option maxRecDepth 100000 in
/-- A pattern that came in. -/
theorem open_pattern {H : Type} {enc : TypeId × Value → H} {W : World} {base : Nat} {v : Value} {d : DataW H} {p : List MemPlace}
    (hv : Value.okWide Try.prog W .any base 24 v) (h : DataW.Trod enc Try.prog W 0 (fun _ => true) true 24 v d p) :
    ∃ (w h : Int) (xs : List Int) (a : Option Addr) (c : Nat), v = .agg #[.int .i64 w, .int .i64 h, .slice a xs.length c] ∧ ArgP W xs a xs.length c ∧ xs.length ≤ c ∧ c ≤ maxLen := by
  obtain ⟨cs, rfl, hsz⟩ := okWide_struct Try.underlying24 hv
  obtain ⟨fuel, h⟩ := h
  obtain ⟨xs, m, _, hx, hl, hlen, hf⟩ := DataW.trod_struct Try.underlying24 h
  have f0 := hf 0 _ rfl
  have f1 := hf 1 _ rfl
  have f2 := hf 2 _ rfl
  clear hf hx h hv hl
  have q3 : Try.prog.cellsOf 3 = 1 := by kernel_rfl
  have k22 : Try.prog.cellsOf 22 = 1 := by kernel_rfl
  rw [show Try.prog.cellsOf 24 = 3 by kernel_rfl] at hsz
  obtain ⟨cl⟩ := cs
  match cl, hsz with
  | [c0, c1, c2], _ =>
  match xs, hlen with
  | [y0, y1, y2], _ =>
  simp [Value.cells, q3, k22] at f0 f1 f2
  obtain ⟨k0, e0, -, w0⟩ := DataW.trod_int Try.underlying3 f0
  obtain ⟨k1, e1, -, w1⟩ := DataW.trod_int Try.underlying3 f1
  obtain ⟨zs, a, c, e2, ha, h1, h2⟩ := ints_arg f2
  simp only [List.cons.injEq, and_true] at e0 e1 e2
  subst e0 e1 e2
  exact ⟨k0, k1, zs, a, c, rfl, ha, h1, h2⟩

set_option maxRecDepth 100000 in
/-- A list of ints that came in. -/
theorem open_list {H : Type} {enc : TypeId × Value → H} {W : World} {base : Nat} {v : Value} {d : DataW H} {p : List MemPlace}
    (hv : Value.okWide Try.prog W .any base 22 v) (h : DataW.Trod enc Try.prog W 0 (fun _ => true) true 22 v d p) :
    ∃ (xs : List Int) (a : Option Addr) (c : Nat), v = .slice a xs.length c ∧ ArgP W xs a xs.length c ∧ xs.length ≤ c ∧ c ≤ maxLen := by
  obtain ⟨a0, n0, c0, rfl⟩ := okWide_slice Try.underlying22 hv
  obtain ⟨fuel, h⟩ := h
  obtain ⟨xs, a, c, e, ha, h1, h2⟩ := ints_arg h
  simp [Value.cells] at e
  obtain ⟨rfl, rfl, rfl⟩ := e
  exact ⟨xs, _, _, rfl, ha, h1, h2⟩
theorem trodAll_fourB {H : Type} {enc : TypeId × Value → H} {P : Program} {w : World} {base : Nat} {spare : Nat → Bool} {held : Bool} {t0 t1 t2 t3 : TypeId} {args : Array Value} {ds : List (DataW H)} {ps : List MemPlace} (h : DataW.TrodAll enc P w base spare held [t0, t1, t2, t3] args.toList ds ps) :
    ∃ v0 v1 v2 v3 d0 d1 d2 d3 p0 p1 p2 p3, args = #[v0, v1, v2, v3] ∧ ds = [d0, d1, d2, d3] ∧ ps = p0 ++ (p1 ++ (p2 ++ p3)) ∧ DataW.Trod enc P w base spare held t0 v0 d0 p0 ∧ DataW.Trod enc P w base spare held t1 v1 d1 p1 ∧ DataW.Trod enc P w base spare held t2 v2 d2 p2 ∧ DataW.Trod enc P w base spare held t3 v3 d3 p3 := by
  obtain ⟨v0, vs0, d0, ds0, p0, q0, hargs, rfl, rfl, hd0, r0⟩ := trodAll_cons h
  obtain ⟨v1, vs1, d1, ds1, p1, q1, rfl, rfl, rfl, hd1, r1⟩ := trodAll_cons r0
  obtain ⟨v2, vs2, d2, ds2, p2, q2, rfl, rfl, rfl, hd2, r2⟩ := trodAll_cons r1
  obtain ⟨v3, vs3, d3, ds3, p3, q3, rfl, rfl, rfl, hd3, r3⟩ := trodAll_cons r2
  obtain ⟨rfl, rfl, rfl⟩ := trodAll_nil r3
  exact ⟨v0, v1, v2, v3, d0, d1, d2, d3, p0, p1, p2, p3, by cases args; simp_all, rfl, by simp, hd0, hd1, hd2, hd3⟩
end Go.Proofs.Ytfeddccbhmbkmaa

