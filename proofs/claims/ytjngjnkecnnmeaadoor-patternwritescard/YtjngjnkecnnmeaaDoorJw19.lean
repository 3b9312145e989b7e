/-
  What the last text of this claim leans on, part 19: Wg1, Wh1.
-/
import Derived.Test.YtjngjnkecnnmeaaDoorJw17
import Derived.Test.YtjngjnkecnnmeaaDoorJw16
namespace Go.Proofs.YtjngjnkecnnmeaaDoor
open Go.RowKit
set_option linter.unusedVariables false

def ErrPost (f : Nat) (w : World) (e : Ending) (w' : World) : Prop :=
  e = .returned (.tuple #[.agg #[.int .i64 0, .int .i64 0, .slice none 0 0], .iface 87 (.int .i64 (f : Int))]) ∧ Below w.heap.size w w'
theorem errOf_pos {f : Nat} (h : f ≠ 0) : errOf f = .iface 87 (.int .i64 (f : Int)) := by unfold errOf; rw [if_neg h]

set_option maxRecDepth 100000 in
set_option maxHeartbeats 800000 in
theorem pTurn_bad (W H k : Int) (xs : List Int) (a : Option Addr) (n c : Nat) (w : World) (hP : ArgP w xs a n c) (hs : shapeF W H xs ≠ 0) :
    Calls Tryd.prog 32 #[.agg #[.int .i64 W, .int .i64 H, .slice a n c], .int .i64 k] w (ErrPost (shapeF W H xs) w) := by
  have AP0 := hide' ((hP.alloc (.cells #[.int .i64 W, .int .i64 H, .slice a n c] 51)).alloc (.cells #[.int .i64 0, .int .i64 0, .slice none 0 0] 51))
  have RX0 := TB.new (w.alloc (.cells #[.int .i64 W, .int .i64 H, .slice a n c] 51)) (.int .i64 0) (.int .i64 0) (.slice none 0 0) 51
  rw [World.size_alloc] at RX0
  have RX := hide' RX0
  obtain ⟨f, hf⟩ : ∃ f, shapeF W H xs = f := ⟨_, rfl⟩
  rw [hf] at hs ⊢
  have HF := hide' hf
  have HS := hide' hs
  clear hP RX0 hf hs
  go_enter Tryd.func32, Tryd.ntmps32
  go_wp2_with fail
  refine (Check_P W H xs a n c _ AP0.out).mono ?_
  rw [HF.out, errOf_pos HS.out]
  rintro e w2 ⟨rfl, b2⟩
  have BB := hide' (show Below w.heap.size w w2 from (((Below.refl _ _).alloc (Nat.le_refl _) _).alloc (by simp) _).trans (b2.mono (by simp only [World.size_alloc]; omega)))
  obtain ⟨r0, r1, r2, rf⟩ := RX.out.next b2
  have f0 := rf 0
  have f1 := rf 1
  have f2 := rf 2
  clear rf b2
  go_wp2
  refine bodyPost_ret (v := .tuple #[.agg #[.int .i64 0, .int .i64 0, .slice none 0 0], .iface 87 (.int .i64 (f : Int))]) (by simp [results, Tryd.results32, go_sem, r0, r1, r2]) rfl ?_
  exact ⟨rfl, ((BB.out.setCell (by simp) _).setCell (by simp) _).setCell (by simp) _⟩

set_option maxRecDepth 100000 in
set_option maxHeartbeats 800000 in
theorem pTurn_k (W H k : Int) (xs : List Int) (a : Option Addr) (n c : Nat) (w : World) (hP : ArgP w xs a n c) (hs : shapeF W H xs = 0) (hk : k < 0 ∨ 7 < k) :
    Calls Tryd.prog 32 #[.agg #[.int .i64 W, .int .i64 H, .slice a n c], .int .i64 k] w (ErrPost 1 w) := by
  have AP0 := hide' ((hP.alloc (.cells #[.int .i64 W, .int .i64 H, .slice a n c] 51)).alloc (.cells #[.int .i64 0, .int .i64 0, .slice none 0 0] 51))
  have RX0 := TB.new (w.alloc (.cells #[.int .i64 W, .int .i64 H, .slice a n c] 51)) (.int .i64 0) (.int .i64 0) (.slice none 0 0) 51
  rw [World.size_alloc] at RX0
  have RX := hide' RX0
  have HS := hide' hs
  clear hP RX0 hs
  go_enter Tryd.func32, Tryd.ntmps32
  go_wp2_with fail
  refine (Check_P W H xs a n c _ AP0.out).mono ?_
  rw [HS.out, show errOf 0 = .nilIface from rfl]
  rintro e w2 ⟨rfl, b2⟩
  have BB := hide' (show Below w.heap.size w w2 from (((Below.refl _ _).alloc (Nat.le_refl _) _).alloc (by simp) _).trans (b2.mono (by simp only [World.size_alloc]; omega)))
  obtain ⟨r0, r1, r2, rf⟩ := RX.out.next b2
  have f0 := rf 0
  have f1 := rf 1
  have f2 := rf 2
  clear rf b2
  rcases hk with h | h
  · go_wp2
    refine bodyPost_ret (v := .tuple #[.agg #[.int .i64 0, .int .i64 0, .slice none 0 0], .iface 87 (.int .i64 1)]) (by simp [results, Tryd.results32, go_sem, r0, r1, r2]) rfl ?_
    exact ⟨rfl, ((BB.out.setCell (by simp) _).setCell (by simp) _).setCell (by simp) _⟩
  · have h1 : ¬ k < 0 := by omega
    have h2 : (8 : Int) ≤ k := by omega
    go_wp2
    refine bodyPost_ret (v := .tuple #[.agg #[.int .i64 0, .int .i64 0, .slice none 0 0], .iface 87 (.int .i64 1)]) (by simp [results, Tryd.results32, go_sem, r0, r1, r2]) rfl ?_
    exact ⟨rfl, ((BB.out.setCell (by simp) _).setCell (by simp) _).setCell (by simp) _⟩

theorem pturned_any (p : Pat) (k : Nat) (a : Option Addr) (c : Nat) (w : World) (hP : ArgP w p.xs a p.xs.length c) (hp : p.ok) (lW : p.W ≤ 100) (lH : p.H ≤ 100) (hk : k < 8) :
    Calls Tryd.prog 80 #[.agg #[.int .i64 (p.W : Int), .int .i64 (p.H : Int), .slice a p.xs.length c], .int .i64 (k : Int)] w (TurnedPostC (p.turn k) w) := by
  obtain ⟨W, H, xs⟩ := p
  cases a with
  | some a => exact pturned_some W H xs k a c w hP hp lW lH hk
  | none =>
    cases xs with
    | nil => exact pturned_nil W H k c w hp lW lH hk
    | cons x xs =>
      obtain ⟨g, off, e, -⟩ := hP.cells 0 (by simp)
      cases e

set_option maxRecDepth 100000 in
set_option maxHeartbeats 800000 in
theorem pTurn_ok (p : Pat) (k : Nat) (a : Option Addr) (c : Nat) (w : World) (hP : ArgP w p.xs a p.xs.length c) (hp : p.ok) (lW : p.W ≤ 100) (lH : p.H ≤ 100) (hs : shapeF p.W p.H p.xs = 0) (hk : k < 8) :
    Calls Tryd.prog 32 #[.agg #[.int .i64 (p.W : Int), .int .i64 (p.H : Int), .slice a p.xs.length c], .int .i64 (k : Int)] w fun e w' => ∃ v, e = .returned (.tuple #[.agg #[.int .i64 ((p.turn k).W : Int), .int .i64 ((p.turn k).H : Int), v], .nilIface]) ∧ Tab w' v (p.turn k).xs ∧ FreshC w v ∧ Below w.heap.size w w' := by
  have AP0 := hide' ((hP.alloc (.cells #[.int .i64 (p.W : Int), .int .i64 (p.H : Int), .slice a p.xs.length c] 51)).alloc (.cells #[.int .i64 0, .int .i64 0, .slice none 0 0] 51))
  have BX := hide' ((TB.new w (.int .i64 (p.W : Int)) (.int .i64 (p.H : Int)) (.slice a p.xs.length c) 51).alloc (.cells #[.int .i64 0, .int .i64 0, .slice none 0 0] 51))
  have RX0 := TB.new (w.alloc (.cells #[.int .i64 (p.W : Int), .int .i64 (p.H : Int), .slice a p.xs.length c] 51)) (.int .i64 0) (.int .i64 0) (.slice none 0 0) 51
  rw [World.size_alloc] at RX0
  have RX := hide' RX0
  have HS := hide' hs
  have h1 : ¬ (k : Int) < 0 := by omega
  have h2 : ¬ (8 : Int) ≤ (k : Int) := by omega
  clear hP RX0 hs
  go_enter Tryd.func32, Tryd.ntmps32
  go_wp2_with fail
  refine (Check_P p.W p.H p.xs a p.xs.length c _ AP0.out).mono ?_
  rw [HS.out, show errOf 0 = .nilIface from rfl]
  rintro e w2 ⟨rfl, b2⟩
  have hz2 := b2.size
  simp only [World.size_alloc] at hz2
  have BB := hide' (show Below w.heap.size w w2 from (((Below.refl _ _).alloc (Nat.le_refl _) _).alloc (by simp) _).trans (b2.mono (by simp only [World.size_alloc]; omega)))
  obtain ⟨x0, x1, x2, -⟩ := BX.out.next b2
  have RX2 := hide' (RX.out.next b2)
  have AP2 := hide' (AP0.out.below b2)
  clear b2
  go_wp2_with fail
  refine (pturned_any p k a c _ AP2.out hp lW lH hk).mono ?_
  rintro e w3 ⟨v, rfl, tb, fr, b3⟩
  obtain ⟨va, vn, vc, rfl⟩ := tb.slice
  obtain ⟨r0, r1, r2, rf⟩ := RX2.out.next b3
  have f0 := rf 0
  have f1 := rf 1
  have f2 := rf 2
  have TBH := hide' tb
  have FR := hide' fr
  have B3 := hide' (BB.out.trans (b3.mono (by omega)))
  clear rf tb fr b3
  go_wp2
  refine bodyPost_ret (v := .tuple #[.agg #[.int .i64 ((p.turn k).W : Int), .int .i64 ((p.turn k).H : Int), .slice va vn vc], .nilIface]) (by simp [results, Tryd.results32, go_sem, r0, r1, r2]) rfl ?_
  refine ⟨_, rfl, ?_, fun g k c e => by have := FR.out g k c e; omega, ((B3.out.setCell (by simp) _).setCell (by simp) _).setCell (by simp) _⟩
  rcases TBH.out with h | ⟨g, cap, e, hg, hc⟩
  · exact Or.inl h
  · exact Or.inr ⟨g, cap, e, by rw [World.size_setCell, World.size_setCell, World.size_setCell]; exact hg, fun i hi => (World.cell?_of_block (w := w3) (a := ⟨g, i, none⟩) (stored_blk w3 (w.heap.size + 1) g _ _ _ (by have := FR.out g _ _ e; omega))).trans (hc i hi)⟩
end Go.Proofs.YtjngjnkecnnmeaaDoor

namespace Go.Proofs.YtjngjnkecnnmeaaDoor
open Go.RowKit
set_option linter.unusedVariables false

def cmpI (a b : Int) : Int := if a < b then -1 else if b < a then 1 else 0
def lexF : List Int → List Int → Int
  | x :: xs, y :: ys => if x < y then -1 else if y < x then 1 else lexF xs ys
  | [], [] => 0
  | [], _ :: _ => -1
  | _ :: _, [] => 1
def orI (a b c : Int) : Int := if a ≠ 0 then a else if b ≠ 0 then b else c
def cmpP (p q : Pat) : Int := orI (cmpI p.H q.H) (cmpI p.W q.W) (lexF p.xs q.xs)
def aheadB (p q : Pat) : Bool := decide (cmpP p q < 0)

theorem lexF_drop {xs ys : List Int} {i : Nat} (h1 : i < xs.length) (h2 : i < ys.length) : lexF (xs.drop i) (ys.drop i) = if xs[i] < ys[i] then -1 else if ys[i] < xs[i] then 1 else lexF (xs.drop (i + 1)) (ys.drop (i + 1)) := by
  rw [List.drop_eq_getElem_cons h1, List.drop_eq_getElem_cons h2, lexF]
theorem ahead_H {p q : Pat} (h : p.H ≠ q.H) : aheadB p q = decide ((p.H : Int) < (q.H : Int)) := by
  unfold aheadB cmpP orI cmpI
  by_cases c : (p.H : Int) < (q.H : Int)
  · simp [c]
  · have c2 : (q.H : Int) < (p.H : Int) := by omega
    simp [c, c2]
theorem ahead_W {p q : Pat} (h0 : p.H = q.H) (h : p.W ≠ q.W) : aheadB p q = decide ((p.W : Int) < (q.W : Int)) := by
  unfold aheadB cmpP orI cmpI
  by_cases c : (p.W : Int) < (q.W : Int)
  · simp [c, h0]
  · have c2 : (q.W : Int) < (p.W : Int) := by omega
    simp [c, c2, h0]
theorem ahead_xs {p q : Pat} (h0 : p.H = q.H) (h : p.W = q.W) : aheadB p q = decide (lexF p.xs q.xs < 0) := by
  unfold aheadB cmpP orI cmpI
  simp [h0, h]

set_option maxRecDepth 100000 in
set_option maxHeartbeats 800000 in
theorem ahead_any (p q : Pat) (a b : Option Addr) (c d : Nat) (w : World) (hP : ArgP w p.xs a p.xs.length c) (hQ : ArgP w q.xs b q.xs.length d) (hp : p.ok) (hq : q.ok) (l1 : p.W ≤ 100) (l2 : p.H ≤ 100) :
    Calls Tryd.prog 83 #[.agg #[.int .i64 (p.W : Int), .int .i64 (p.H : Int), .slice a p.xs.length c], .agg #[.int .i64 (q.W : Int), .int .i64 (q.H : Int), .slice b q.xs.length d]] w fun e w' => e = .returned (.bool (aheadB p q)) ∧ Below w.heap.size w w' := by
  have HP := hide' ((hP.alloc (.cells #[.int .i64 (p.W : Int), .int .i64 (p.H : Int), .slice a p.xs.length c] 51)).alloc (.cells #[.int .i64 (q.W : Int), .int .i64 (q.H : Int), .slice b q.xs.length d] 51))
  have HQ := hide' ((hQ.alloc (.cells #[.int .i64 (p.W : Int), .int .i64 (p.H : Int), .slice a p.xs.length c] 51)).alloc (.cells #[.int .i64 (q.W : Int), .int .i64 (q.H : Int), .slice b q.xs.length d] 51))
  have hsm := small p hp l1 l2
  have BB := hide' (show Below w.heap.size w ((w.alloc (.cells #[.int .i64 (p.W : Int), .int .i64 (p.H : Int), .slice a p.xs.length c] 51)).alloc (.cells #[.int .i64 (q.W : Int), .int .i64 (q.H : Int), .slice b q.xs.length d] 51)) from ((Below.refl _ _).alloc (Nat.le_refl _) _).alloc (by simp) _)
  clear hP hQ
  by_cases h1 : p.H = q.H
  · have m1 : ((p.H : Int) != (q.H : Int)) = false := by simp; omega
    by_cases h2 : p.W = q.W
    · have m2 : ((p.W : Int) != (q.W : Int)) = false := by simp; omega
      have AH := hide' (ahead_xs h1 h2)
      have hlen : q.xs.length = p.xs.length := by rw [hq, hp, h1, h2]
      have HLEN := hide' hlen
      clear h1 h2 hlen
      go_enter Tryd.func83, Tryd.ntmps83
      go_wp2
      go_loopw [5] (fun iv wr => ∃ i m : Nat, iv = .int .i64 (i : Int) ∧ i ≤ p.xs.length ∧ wr = ((w.alloc (.cells #[.int .i64 (p.W : Int), .int .i64 (p.H : Int), .slice a p.xs.length c] 51)).alloc (.cells #[.int .i64 (q.W : Int), .int .i64 (q.H : Int), .slice b q.xs.length d] 51)).drewN m ∧ lexF (p.xs.drop i) (q.xs.drop i) = lexF p.xs q.xs) (fun iv _ => p.xs.length - (intOf iv).toNat)
      case atStart => exact ⟨0, 0, rfl, by omega, rfl, rfl⟩
      case round =>
        obtain ⟨i, m, rfl, hi, rfl, hx⟩ := hrel
        have HX := hide' hx
        clear hx
        by_cases e : (i : Int) < (p.xs.length : Int)
        · have g1 : i < p.xs.length := by omega
          have g2 : i < q.xs.length := by rw [HLEN.out]; exact g1
          obtain ⟨ga, oa, rfl, hga, ca⟩ := HP.out.cells i g1
          obtain ⟨gb, ob, rfl, hgb, cb⟩ := HQ.out.cells i g2
          have DR := hide' ((lexF_drop g1 g2).symm.trans HX.out)
          obtain ⟨x, hx⟩ : ∃ x, p.xs[i] = x := ⟨_, rfl⟩
          obtain ⟨y, hy⟩ : ∃ y, q.xs[i] = y := ⟨_, rfl⟩
          rw [hx, hy] at DR
          rw [hx] at ca
          rw [hy] at cb
          clear hx hy
          by_cases ne : x = y
          · have m3 : (x != y) = false := by simp [ne]
            have NX := hide' (show lexF (p.xs.drop (i + 1)) (q.xs.drop (i + 1)) = lexF p.xs q.xs by have h := DR.out; rw [if_neg (by omega), if_neg (by omega)] at h; exact h)
            clear ne DR
            go_wp2
            go_quiet (fail)
            go_wp2
            exact ⟨⟨i + 1, _, by go_num, by omega, rfl, NX.out⟩, by simp [intOf]; omega⟩
          · have m3 : (x != y) = true := by simp [ne]
            have VV := hide' (show aheadB p q = decide (x < y) by
              rw [AH.out]
              have h := DR.out
              rw [← h]
              by_cases c1 : x < y
              · simp [c1]
              · have c2 : y < x := by omega
                simp [c1, c2])
            clear ne DR
            go_wp2
            go_quiet (fail)
            go_wp2
            go_quiet (fail)
            go_wp2
            go_ret
            rw [VV.out]
            exact ⟨rfl, BB.out.trans ⟨rfl, rfl, rfl, Nat.le_refl _, fun _ _ => rfl⟩⟩
        · have I := hide' (show i = p.xs.length by omega)
          have VV := hide' (show aheadB p q = false by
            rw [AH.out, ← HX.out, I.out, List.drop_length, ← HLEN.out, List.drop_length]
            rfl)
          go_wp2
          go_ret
          rw [VV.out]
          exact ⟨rfl, BB.out.trans ⟨rfl, rfl, rfl, Nat.le_refl _, fun _ _ => rfl⟩⟩
    · have m2 : ((p.W : Int) != (q.W : Int)) = true := by simp; omega
      have AH := hide' (ahead_W h1 h2)
      clear h1 h2
      go_enter Tryd.func83, Tryd.ntmps83
      go_wp2
      go_ret
      rw [AH.out]
      exact ⟨by simp, BB.out⟩
  · have m1 : ((p.H : Int) != (q.H : Int)) = true := by simp; omega
    have AH := hide' (ahead_H h1)
    clear h1
    go_enter Tryd.func83, Tryd.ntmps83
    go_wp2
    go_ret
    rw [AH.out]
    exact ⟨by simp, BB.out⟩
end Go.Proofs.YtjngjnkecnnmeaaDoor

