/-
  What the last text of this claim leans on, part 17: Od3, As, Err, Er1, Lk1, Lk2, Lk3, Lk4, LawN, Ob5.
-/
import Derived.Test.YtjjdjdodhedihaaDoorJs16
import Derived.Test.YtjjdjdodhedihaaDoorProg
import Derived.Test.YtjjdjdodhedihaaDoorJs3
import Derived.Test.YtjjdjdodhedihaaDoorJs7
import Derived.Test.YtjjdjdodhedihaaDoorJs8
import Derived.WalkKit
import Derived.LaidEql
import Derived.Stop.Asserts
import Derived.RowKitTokens
import Derived.WalkSpells
import Derived.WalkLawsBesides
import Derived.Maps.AppendAt
import Derived.OneCell
namespace Go.Proofs.YtjjdjdodhedihaaDoor
open Go.RowKit Go.Shelf
set_option linter.unusedVariables false
attribute [local go_sem] Oper.semAt_some

set_option maxRecDepth 100000 in
set_option maxHeartbeats 12800000 in
theorem rings_any (S R n : Nat) (T : List Int) (ta : Option Addr) (tn tc : Nat) (w : World) (hn : 0 < n) (hn16 : n ≤ 16) (hS : 2 ≤ S) (hS4 : S ≤ 4) (htn : tn = n * S) (hT : ArgP w T ta tn tc) (hta : ∀ g off, ta = some ⟨g, off, none⟩ → g < w.heap.size) :
    Calls Tryd.prog 44 #[.agg #[.int .i64 (S : Int), .int .i64 (2 * (R : Int)), .int .i64 (n : Int), .slice ta tn tc]] w (RingsPost S n T w) := by
  have hmf : ∀ (fn : Fn) (first cap : Array Value) (w : World), (Instr.makeFunc fn first cap).run Tryd.prog w = .ok (.func fn first cap) w := fun _ _ _ _ => rfl
  have HTN := hide' htn
  have HT := hide' hT
  have HTA := hide' hta
  obtain ⟨PP, hPP⟩ : ∃ PP, RingsPost S n T w = PP := ⟨_, rfl⟩
  have HPP := hide' hPP
  rw [hPP]
  obtain ⟨w1, hw1⟩ : ∃ w1, ((w.alloc (.cells #[.int .i64 (S : Int), .int .i64 (2 * (R : Int)), .int .i64 (n : Int), .slice ta tn tc] 79)).alloc (.cells #[.slice none 0 0] 22)).alloc (.cells #[.slice none 0 0] 22) = w1 := ⟨_, rfl⟩
  have s1 : w1.heap.size = w.heap.size + 3 := by rw [← hw1]; simp
  have BB := hide' (show Below w.heap.size w w1 by rw [← hw1]; exact (((Below.refl _ _).alloc (Nat.le_refl _) _).alloc (by simp) _).alloc (by simp; omega) _)
  have G1 := hide' (show Blk w1 w.heap.size #[.int .i64 (S : Int), .int .i64 (2 * (R : Int)), .int .i64 (n : Int), .slice ta tn tc] 79 by rw [← hw1]; exact ((Blk.new _ _ _).alloc _).alloc _)
  have R2 := hide' (show Blk w1 (w.heap.size + 1) #[.slice none 0 0] 22 by rw [← hw1]; exact (blk_new_at (by simp)).alloc _)
  have R3 := hide' (show Blk w1 (w.heap.size + 2) #[.slice none 0 0] 22 by rw [← hw1]; exact blk_new_at (by simp))
  have PA := hide' (fun (W' : World) => pairs_any S R n ta tn tc W')
  clear htn hT hta hPP
  have y0 : w1.cell? ⟨w.heap.size, 0, none⟩ = some (.int .i64 (S : Int)) := G1.out.cell 0
  have y1 : w1.cell? ⟨w.heap.size, 1, none⟩ = some (.int .i64 (2 * (R : Int))) := G1.out.cell 1
  have y2 : w1.cell? ⟨w.heap.size, 2, none⟩ = some (.int .i64 (n : Int)) := G1.out.cell 2
  have y3 : w1.cell? ⟨w.heap.size, 3, none⟩ = some (.slice ta tn tc) := G1.out.cell 3
  refine (callsIn_wide (n := 9)).1 ?_
  refine callsIn_of_wp_marks Tryd.func44 rfl trivial ?_
  simp only [Tryd.ntmps44, List.size_toArray, List.length_cons, List.length_nil, Nat.reduceAdd, Nat.reduceSub, Array.replicate_succ, Array.replicate_zero, List.push_toArray, List.append_toArray, List.nil_append, List.cons_append]
  gi_wp2_with fail
  refine ⟨trivial, (callsIn_wide.2 (PA.out _)).mono ?_⟩
  rintro e W2 ⟨rfl, gx, b2, sz2⟩
  have Sz : W2.heap.size = w.heap.size + 4 := by rw [sz2, s1]
  have gx' : Blk W2 (w.heap.size + 3) #[.int .i64 (S : Int), .int .i64 (2 * (R : Int)), .int .i64 (n : Int), .slice ta tn tc] 79 := by rw [s1] at gx; exact gx
  have I0 := hide' (show GI w W2 S R n T (.slice ta tn tc) W2.heap.size (([] : List (PairAt n)).map Subtype.val) from ⟨G1.out.of (b2.block _ G1.out.lt), R2.out.of (b2.block _ R2.out.lt), R3.out.of (b2.block _ R3.out.lt), gx', BB.out.trans (b2.mono BB.out.size), Nat.le_refl _, by omega, fun u hu => by simp at hu⟩)
  clear y0 y1 y2 y3 gx gx' b2 PA hw1 sz2
  gi_wp2
  try rw [s1]
  refine wpIn_rangeFunc_ownH (α := PairAt n) rfl (by decide) (gf := 109) (lb := #[.pointer (some ⟨w.heap.size + 3, 0, none⟩)]) rfl trivial (enters_of Tryd.func109 (by kernel_rfl) rfl)
    (pairs_stops 8 (by decide) S R n (.slice ta tn tc) (w.heap.size + 3) hn16 W2 I0.out.gx.gb) (fun h k => h.trans k) (KB.putObj (by omega) (by omega) (by omega)) (Below.refl _ _) (fun _ => rfl)
    (fun pre W' => GI w W' S R n T (.slice ta tn tc) W2.heap.size (pre.map Subtype.val))
    (fun c _ W' => c = .ret ∧ ∃ u full v1 v2, GF w W' S n T W2.heap.size u full v1 v2)
    (fun pre X Y row hs hg hr => hs.own hg hr)
    (fun c pre X Y row hs hg hr => by obtain ⟨e, a, b, g', c', h⟩ := hs; exact ⟨e, a, b, g', c', h.own hg hr⟩)
    I0.out
    (fun z a' W' => ∃ Bx, (W2.heap.size ≤ Bx ∧ Blk W' Bx #[.int .i64 (z.1.1 : Int), .int .i64 (z.1.2 : Int)] 127) ∧ ∃ (t0 t5 t6 t7 t8 t9 t10 t11 t12 t13 t14 t15 t16 t17 t18 t19 t20 t21 t22 t23 t24 : Value), a' = { tmps := #[t0, .pointer (some ⟨w.heap.size, 0, none⟩), .pointer (some ⟨w.heap.size + 1, 0, none⟩), .pointer (some ⟨w.heap.size + 2, 0, none⟩), .pointer (some ⟨Bx, 0, none⟩), t5, t6, t7, t8, t9, t10, t11, t12, t13, t14, t15, t16, t17, t18, t19, t20, t21, t22, t23, t24], defers := [] })
    (fun z a' _ X Y row hs hg hr => by obtain ⟨Bx, ⟨h1, h2⟩, h3⟩ := hs; exact ⟨Bx, ⟨h1, (KC.of_grown hg (fun r e => (hr r e).2)).blk h2⟩, h3⟩)
    ?assign ?body ?done ?stop
  case assign =>
    rintro l pre z W3 K R3' hK
    have I3 := hide' R3'
    have HK := hide' hK
    clear R3' hK
    unfold encP
    have AL := hide' (show Below W3.heap.size W3 (W3.alloc (.cells #[.int .i64 (z.1.1 : Int), .int .i64 (z.1.2 : Int)] 127)) from (Below.refl _ _).alloc (Nat.le_refl _) _)
    gi_wp2
    exact HK.out _ _ (keepsFrom_below AL.out) (KB.below AL.out (by have := I3.out.gx.lt; omega) (by have := I3.out.gx.lt; omega) (by omega)) (I3.out.next AL.out) ⟨W3.heap.size, ⟨I3.out.sB, Blk.new _ _ _⟩, _, _, _, _, _, _, _, _, _, _, _, _, _, _, _, _, _, _, _, _, _, rfl⟩
  case body =>
    rintro l pre ⟨u, hu⟩ a' W3 hl hr R3' ⟨Bx, ⟨hBx, bX⟩, t0, t5, t6, t7, t8, t9, t10, t11, t12, t13, t14, t15, t16, t17, t18, t19, t20, t21, t22, t23, t24, rfl⟩ hlt
    have I3 := hide' R3'
    have BX := hide' bX
    have HU := hide' hu
    have MP := hide' (show (pre ++ [(⟨u, hu⟩ : PairAt n)]).map Subtype.val = pre.map Subtype.val ++ [u] by simp)
    clear R3' hr hlt bX
    obtain ⟨W4, hW4⟩ : ∃ W4, W3.alloc (.cells #[.int .i64 (u.1 : Int), .int .i64 (u.2 : Int)] 127) = W4 := ⟨_, rfl⟩
    have B4 := hide' (show Below W3.heap.size W3 W4 by rw [← hW4]; exact (Below.refl _ _).alloc (Nat.le_refl _) _)
    have P4 := hide' (show PC W4 W3.heap.size 1 (prAt [u]) by
      have b : Blk W4 W3.heap.size #[.int .i64 (u.1 : Int), .int .i64 (u.2 : Int)] 127 := by rw [← hW4]; exact Blk.new _ _ _
      refine ⟨b.lt, fun k hk => ?_, fun k hk => ?_, fun k => b.frozen k⟩ <;> obtain rfl : k = 0 := by omega
      · exact b.cell 0
      · exact b.cell 1)
    have I4 := hide' (I3.out.next B4.out)
    have BX4 := hide' (BX.out.of (B4.out.block Bx BX.out.lt))
    have SR := hide' (searchR_any S R n T ta tn tc W3.heap.size 1 [u] u.1 u.2 Bx W4 hn hn16 hS hS4 HTN.out (HT.out.below I4.out.bl) (fun g off e => by have := HTA.out g off e; have := I4.out.bl.size; omega) P4.out (by simp) (fun v hv => by obtain rfl := List.mem_singleton.1 hv; have := HU.out; omega) BX4.out.pb)
    have y0 : W3.cell? ⟨w.heap.size, 0, none⟩ = some (.int .i64 (S : Int)) := I3.out.gb.cell 0
    have y1 : W3.cell? ⟨w.heap.size, 1, none⟩ = some (.int .i64 (2 * (R : Int))) := I3.out.gb.cell 1
    have y2 : W3.cell? ⟨w.heap.size, 2, none⟩ = some (.int .i64 (n : Int)) := I3.out.gb.cell 2
    have y3 : W3.cell? ⟨w.heap.size, 3, none⟩ = some (.slice ta tn tc) := I3.out.gb.cell 3
    have x0 : W3.cell? ⟨Bx, 0, none⟩ = some (.int .i64 (u.1 : Int)) := BX.out.cell 0
    have x1 : W3.cell? ⟨Bx, 1, none⟩ = some (.int .i64 (u.2 : Int)) := BX.out.cell 1
    gi_wp2_with fail
    refine ⟨trivial, (CallsIn.inRound l (callsIn_wide.2 SR.out)).mono ?_⟩
    unfold SearchPost
    rintro e W5 ⟨hor, b5⟩
    have I5 := hide' (I4.out.next b5)
    have B5 := hide' (B4.out.trans (b5.mono B4.out.size))
    clear y0 y1 y2 y3 x0 x1 b5 SR hW4
    rcases hor with ⟨root, full, g5, c5, rfl, pc5, hg5, hc5, hm5, hro, hok, hwa, hle⟩ | ⟨rfl, hno⟩
    · obtain rfl : root = u := by simpa using hro
      have h0 : 0 < full.length := by obtain ⟨cs, d, e, _⟩ := hwa; rw [e]; simp
      have IR := hide' (show IsRing S n T root full from ⟨HU.out.1, HU.out.2, hok, hwa, hle⟩)
      obtain ⟨W6, hW6⟩ : ∃ W6, W5.alloc (.cells #[.int .i64 (root.1 : Int), .int .i64 (root.2 : Int)] 127) = W6 := ⟨_, rfl⟩
      have B6 := hide' (show Below W5.heap.size W5 W6 by rw [← hW6]; exact (Below.refl _ _).alloc (Nat.le_refl _) _)
      have PC6 := hide' (pc5.belowW B6.out)
      have SP := hide' (split_any full g5 c5 W6 PC6.out (by omega))
      have I6 := hide' (I5.out.next B6.out)
      have BT := hide' (B5.out.trans (B6.out.mono B5.out.size))
      have hl0 : (0 : Int) < (full.length : Int) := by omega
      clear pc5 hro hok hwa
      gi_wp2_with fail
      refine ⟨trivial, (CallsIn.inRound l (callsIn_wide.2 SP.out)).mono ?_⟩
      unfold SplitPost
      rintro e W7 ⟨v1, v2, rfl, o1, o2, b7⟩
      obtain ⟨g8, c8, rfl⟩ := row_form o1 h0
      obtain ⟨g9, c9, rfl⟩ := row_form o2 h0
      have FO := hide' (I6.out.found IR.out b7 o1 o2)
      have I7 := hide' (I6.out.next b7)
      clear o1 o2 b7 SP hW6
      have r2 : W7.cell? ⟨w.heap.size + 1, 0, none⟩ = some (.slice none 0 0) := I7.out.r2.cell 0
      have r3 : W7.cell? ⟨w.heap.size + 2, 0, none⟩ = some (.slice none 0 0) := I7.out.r3.cell 0
      have f2 := I7.out.r2.frozen 0
      have f3 := I7.out.r3.frozen 0
      gi_wp2
      exact ⟨keepsFrom_trans (keepsFrom_below BT.out) FO.out.2, rfl, root, full, _, _, FO.out.1⟩
    · have NO := hide' (show NoRing S n T u from fun cs c h1 h2 => hno u (by simp) cs c h1 h2)
      have B6 := hide' (show Below W5.heap.size W5 (W5.alloc (.cells #[.int .i64 0, .int .i64 0] 127)) from (Below.refl _ _).alloc (Nat.le_refl _) _)
      have BT := hide' (B5.out.trans (B6.out.mono B5.out.size))
      have I6 := hide' (I5.out.next B6.out)
      clear hno
      gi_wp2
      refine ⟨keepsFrom_below BT.out, KB.below BT.out (by have := I3.out.gx.lt; omega) (by have := I3.out.gx.lt; omega) (by omega), ?_⟩
      show GI w _ S R n T (.slice ta tn tc) W2.heap.size ((pre ++ [(⟨u, hu⟩ : PairAt n)]).map Subtype.val)
      rw [MP.out]
      have q := I6.out
      exact ⟨q.gb, q.r2, q.r3, q.gx, q.bl, q.sB, q.wB, fun v hv => (List.mem_append.1 hv).elim (q.no v) (fun m => by rw [List.mem_singleton.1 m]; exact NO.out)⟩
  case done =>
    rintro D xs W5 hD hall I5' hK
    have I5 := hide' I5'
    have HKD := hide' hK
    have NO := hide' (show ∀ u : Nat × Nat, u.1 ≤ u.2 → u.2 < n → NoRing S n T u from fun u h1 h2 => I5'.no u (List.mem_map.2 ⟨⟨u, h1, h2⟩, hall _, rfl⟩))
    clear I5' hK hall
    have r2 : W5.cell? ⟨w.heap.size + 1, 0, none⟩ = some (.slice none 0 0) := I5.out.r2.cell 0
    have r3 : W5.cell? ⟨w.heap.size + 2, 0, none⟩ = some (.slice none 0 0) := I5.out.r3.cell 0
    have f2 := I5.out.r2.frozen 0
    have f3 := I5.out.r3.frozen 0
    obtain ⟨W6, hW6⟩ : ∃ W6, (W5.setCell ⟨w.heap.size + 1, 0, none⟩ (.slice none 0 0)).setCell ⟨w.heap.size + 2, 0, none⟩ (.slice none 0 0) = W6 := ⟨_, rfl⟩
    have A2 := hide' (show Blk W6 (w.heap.size + 1) #[.slice none 0 0] 22 by rw [← hW6]; exact (I5.out.r2.set 0 (.slice none 0 0)).setOther (by omega) _)
    have A3 := hide' (show Blk W6 (w.heap.size + 2) #[.slice none 0 0] 22 by rw [← hW6]; exact (I5.out.r3.setOther (g := w.heap.size + 1) (i := 0) (by omega) _).set 0 (.slice none 0 0))
    have AD := hide' (show W6.heap[D]? = some (.deferred (some [])) by rw [← hW6, heap_setCell_other _ _ _ _ _ (by omega), heap_setCell_other _ _ _ _ _ (by omega)]; exact HKD.out)
    have AB := hide' (show Below w.heap.size w W6 by rw [← hW6]; exact (I5.out.bl.setCell (p := ⟨w.heap.size + 1, 0, none⟩) (by show w.heap.size ≤ w.heap.size + 1; omega) _).setCell (p := ⟨w.heap.size + 2, 0, none⟩) (by show w.heap.size ≤ w.heap.size + 2; omega) _)
    gi_wp2
    show LeavesInM _ _ _ _ _ _ ([D].map mkD) _ _
    refine leaves_marks (v := .tuple #[.slice none 0 0, .slice none 0 0]) (B := w.heap.size) [D] W6 (by simp) (fun E hE => by rw [List.mem_singleton.1 hE]; exact AD.out) (fun E hE => by rw [List.mem_singleton.1 hE]; omega) (fun W' k b => ⟨?_, ?_⟩)
    · have c0 : W'.cell? ⟨w.heap.size + 1, 0, none⟩ = some (.slice none 0 0) := (k.blk A2.out).cell 0
      have c1 : W'.cell? ⟨w.heap.size + 2, 0, none⟩ = some (.slice none 0 0) := (k.blk A3.out).cell 0
      simp [results, Tryd.results44, go_sem, c0, c1]
    · rw [← HPP.out]
      exact ⟨Or.inr ⟨rfl, NO.out⟩, AB.out.trans b⟩
  case stop =>
    rintro D c pre W5 hD _ ⟨rfl, u, full, v1, v2, FX'⟩ hK
    have FX := hide' FX'
    have HKD := hide' hK
    clear FX' hK
    gi_wp2
    show LeavesInM _ _ _ _ _ _ ([D].map mkD) _ _
    refine leaves_marks (v := .tuple #[v1, v2]) (B := w.heap.size) [D] W5 (by simp) (fun E hE => by rw [List.mem_singleton.1 hE]; exact HKD.out) (fun E hE => by rw [List.mem_singleton.1 hE]; omega) (fun W' k b => ⟨?_, ?_⟩)
    · have c0 : W'.cell? ⟨w.heap.size + 1, 0, none⟩ = some v1 := (k.blk FX.out.r2).cell 0
      have c1 : W'.cell? ⟨w.heap.size + 2, 0, none⟩ = some v2 := (k.blk FX.out.r3).cell 0
      simp [results, Tryd.results44, go_sem, c0, c1]
    · rw [← HPP.out]
      exact ⟨Or.inl ⟨u, full, v1, v2, rfl, k.row FX.out.o1, k.row FX.out.o2, FX.out.is⟩, FX.out.bl.trans b⟩
end Go.Proofs.YtjjdjdodhedihaaDoor

namespace Go.Proofs.YtjjdjdodhedihaaDoor
open Go.RowKit Go.Extern.Stop Go.Stop Go.Extern

end Go.Proofs.YtjjdjdodhedihaaDoor

namespace Go.Proofs.YtjjdjdodhedihaaDoor
open Go.RowKit

/-- The cell of errors.errorType holds the handle of the type error. -/
def Handle (w : World) : Prop := w.cell? ⟨0, 0, none⟩ = some (.iface 201 (.agg #[.pointer (some ⟨3, 26, none⟩)]))

theorem Handle.lt {w : World} (hg : Handle w) : 0 < w.heap.size := by
  unfold Handle at hg
  rcases Nat.lt_or_ge 0 w.heap.size with h | h
  · exact h
  · simp [World.cell?, Array.getElem?_eq_none h] at hg

theorem Handle.below {w w' : World} (hg : Handle w) (h : Below w.heap.size w w') : Handle w' := by
  have := hg.lt
  unfold Handle at hg ⊢
  rw [h.cell (p := ⟨0, 0, none⟩) this]; exact hg

end Go.Proofs.YtjjdjdodhedihaaDoor

namespace Go.Proofs.YtjjdjdodhedihaaDoor
open Go.RowKit
set_option linter.unusedVariables false

end Go.Proofs.YtjjdjdodhedihaaDoor

namespace Go.Proofs.YtjjdjdodhedihaaDoor
open Go.RowKit
set_option linter.unusedVariables false

/-- What Step's function sees: its own place, the length, the word. -/
structure CloS (w : World) (pi pn pw : Nat) (i : Nat) (ws : List Int) (wa : Option Addr) (wc : Nat) : Prop where
  ci : w.cell? ⟨pi, 0, none⟩ = some (.int .i64 (i : Int))
  cn : w.cell? ⟨pn, 0, none⟩ = some (.int .i64 (ws.length : Int))
  cw : w.cell? ⟨pw, 0, none⟩ = some (.slice wa ws.length wc)
  arg : ArgP w ws wa ws.length wc
theorem cell_lt {w : World} {p o : Nat} {v : Value} (h : w.cell? ⟨p, o, none⟩ = some v) : p < w.heap.size := by
  rcases Nat.lt_or_ge p w.heap.size with k | k
  · exact k
  · simp [World.cell?, Array.getElem?_eq_none k] at h
theorem cell_next {w w' : World} {p o : Nat} {v : Value} (h : w.cell? ⟨p, o, none⟩ = some v) (hb : Below w.heap.size w w') : w'.cell? ⟨p, o, none⟩ = some v :=
  (World.cell?_of_block (w := w) (a := ⟨p, o, none⟩) (hb.block p (cell_lt h))).trans h
theorem CloS.below {w w' : World} {pi pn pw i : Nat} {ws : List Int} {wa : Option Addr} {wc : Nat} (h : CloS w pi pn pw i ws wa wc) (hb : Below w.heap.size w w') : CloS w' pi pn pw i ws wa wc :=
  ⟨cell_next h.ci hb, cell_next h.cn hb, cell_next h.cw hb, h.arg.below hb⟩

/-- What Apply's function sees. -/
structure CloA (w : World) (pw pi : Nat) (i : Nat) (ws : List Int) (wa : Option Addr) (wc : Nat) : Prop where
  cw : w.cell? ⟨pw, 0, none⟩ = some (.slice wa ws.length wc)
  ci : w.cell? ⟨pi, 0, none⟩ = some (.int .i64 (i : Int))
  arg : ArgP w ws wa ws.length wc
theorem CloA.below {w w' : World} {pw pi i : Nat} {ws : List Int} {wa : Option Addr} {wc : Nat} (h : CloA w pw pi i ws wa wc) (hb : Below w.heap.size w w') : CloA w' pw pi i ws wa wc :=
  ⟨cell_next h.cw hb, cell_next h.ci hb, h.arg.below hb⟩

end Go.Proofs.YtjjdjdodhedihaaDoor

namespace Go.Proofs.YtjjdjdodhedihaaDoor
open Go.RowKit
set_option linter.unusedVariables false

end Go.Proofs.YtjjdjdodhedihaaDoor

namespace Go.Proofs.YtjjdjdodhedihaaDoor
open Go.RowKit
set_option linter.unusedVariables false

theorem ownsRow_keepB {w w' : World} {base : Nat} {e : TypeId} {v : Value} {n : Nat} {xs : List Value} (h : w.ownsRow base e 1 v n xs) (hb : ∀ k, base ≤ k → k < w.heap.size → w'.heap[k]? = w.heap[k]?) : w'.ownsRow base e 1 v n xs := by
  refine ⟨h.1, ?_⟩
  rcases h.2 with h0 | ⟨g, cap, cur, hv, hg, hh, rest⟩
  · exact Or.inl h0
  · exact Or.inr ⟨g, cap, cur, hv, hg, (hb g hg (Array.getElem?_eq_some_iff.1 hh).1).trans hh, rest⟩
theorem ownsRow_lt {w : World} {base : Nat} {e : TypeId} {v : Value} {n : Nat} {xs : List Value} (h : w.ownsRow base e 1 v n xs) : ∀ k, v.ownBlock = some k → base ≤ k ∧ k < w.heap.size := by
  intro k hk
  rcases h.2 with ⟨h0, -⟩ | ⟨g, cap, cur, hv, hg, hh, -⟩
  · subst h0; cases hk
  · subst hv
    injection hk with e
    have e' : g = k := e
    subst e'
    exact ⟨hg, (Array.getElem?_eq_some_iff.1 hh).1⟩
/-- Between the rounds: the counter in its box, the list that grows; all else as it was. -/
structure LS (w0 wr : World) (p i : Nat) (v : Value) (xs : List Int) : Prop where
  below : Below w0.heap.size w0 wr
  ci : wr.cell? ⟨p, 0, none⟩ = some (.int .i64 (i : Int))
  fi : wr.frozen? ⟨p, 0, none⟩ = false
  pge : w0.heap.size ≤ p
  own : wr.ownsRow w0.heap.size 3 1 v xs.length (xs.map fun x => .int .i64 x)
  ne : v.ownBlock ≠ some p
theorem LS.start (w0 : World) (i : Nat) (t : TypeId) : LS w0 (w0.alloc (.cells #[.int .i64 (i : Int)] t)) w0.heap.size i (.slice none 0 0) [] :=
  ⟨(Below.refl _ _).alloc (Nat.le_refl _) _, by rw [World.cell?_alloc_at _ _ _ _ rfl]; rfl, by simp, Nat.le_refl _, ⟨by simp, Or.inl ⟨rfl, by simp⟩⟩, by intro h; cases h⟩
theorem LS.next {w0 wr w' : World} {p i : Nat} {v : Value} {xs : List Int} (h : LS w0 wr p i v xs) (hb : Below wr.heap.size wr w') : LS w0 w' p i v xs :=
  ⟨h.below.trans (hb.mono h.below.size), cell_next h.ci hb, (World.frozen?_of_block (w := wr) (a := ⟨p, 0, none⟩) (hb.block p (cell_lt h.ci))).trans h.fi, h.pge, ownsRow_keepB h.own fun k _ hk => hb.block k hk, h.ne⟩
theorem LS.grown {w0 wr w' : World} {p i : Nat} {v : Value} {xs : List Int} (h : LS w0 wr p i v xs) (x : Int) (hg : (wr.alloc (.cells #[.int .i64 x] 3)).grownBy w' v.ownBlock) : w'.cell? ⟨p, 0, none⟩ = some (.int .i64 (i : Int)) ∧ Below w0.heap.size w0 w' := by
  have hz := h.below.size
  have e : ∀ k, k < wr.heap.size → v.ownBlock ≠ some k → w'.heap[k]? = wr.heap[k]? := fun k hk hn => by
    rw [hg.block k (by rw [World.size_alloc]; omega) (fun q => hn q.symm)]
    exact Below.heap_alloc _ _ _ hk
  have hsz : wr.heap.size + 1 ≤ w'.heap.size := by have := hg.size; rw [World.size_alloc] at this; exact this
  refine ⟨(World.cell?_of_block (w := wr) (a := ⟨p, 0, none⟩) (e p (cell_lt h.ci) h.ne)).trans h.ci, h.below.trans ⟨hg.os, hg.tape, hg.output, by omega, fun k hk => e k (by omega) fun q => ?_⟩⟩
  have := (ownsRow_lt h.own k q).1
  omega
theorem LS.push {w0 wr w' : World} {p i : Nat} {v v' : Value} {xs : List Int} (h : LS w0 wr p i v xs) (x : Int) (t : TypeId) (k : Int) (hk : k = ((i + 1 : Nat) : Int)) (hg : (wr.alloc (.cells #[.int .i64 x] 3)).grownBy w' v.ownBlock) (ho : w'.ownsRow w0.heap.size 3 1 v' (xs.length + 1) ((xs.map fun x => .int .i64 x) ++ [.int .i64 x])) :
    LS w0 (w'.alloc (.cells #[.int .i64 k] t)) w'.heap.size (i + 1) v' (xs ++ [x]) := by
  have hb := (h.grown x hg).2
  have hz := hb.size
  have hl := ownsRow_lt ho
  have hne : v'.ownBlock ≠ some w'.heap.size := fun q => by have := (hl _ q).2; omega
  subst hk
  refine ⟨hb.alloc hz _, by rw [World.cell?_alloc_at _ _ _ _ rfl]; rfl, by simp, hz, ?_, hne⟩
  have h1 := ownsRow_keepB (w' := w'.alloc (.cells #[.int .i64 ((i + 1 : Nat) : Int)] t)) ho fun k _ hk => Below.heap_alloc _ _ _ hk
  simpa using h1
theorem ownsRow_len {w : World} {base : Nat} {e : TypeId} {v : Value} {n : Nat} {xs : List Value} (h : w.ownsRow base e 1 v n xs) : ∃ a c, v = .slice a n c := by
  rcases h.2 with ⟨h0, h1⟩ | ⟨g, cap, cur, hv, -⟩
  · subst h0 h1; exact ⟨none, 0, rfl⟩
  · exact ⟨_, cap, hv⟩
end Go.Proofs.YtjjdjdodhedihaaDoor

namespace Go.Proofs.YtjjdjdodhedihaaDoor
open Go.RowKit
set_option linter.unusedVariables false

end Go.Proofs.YtjjdjdodhedihaaDoor

namespace Go.Proofs.YtjjdjdodhedihaaDoor
open Go.RowKit
set_option linter.unusedVariables false

end Go.Proofs.YtjjdjdodhedihaaDoor

namespace Go.Proofs.YtjjdjdodhedihaaDoor
open Go.RowKit
set_option linter.unusedVariables false

theorem LineOk.graph {S R tn n : Nat} {T : List Int} (hL : LineOk S R T) (ht : tn = T.length) (hn : S ^ (2 * R) = n) : tn / S = n ∧ tn = n * S ∧ 0 < n := by
  have s2 := hL.s2
  refine ⟨by rw [places_of hL ht, hn], by rw [ht, hL.len, Nat.pow_succ, hn], ?_⟩
  rw [← hn]
  exact Nat.pow_pos (by omega)

end Go.Proofs.YtjjdjdodhedihaaDoor

