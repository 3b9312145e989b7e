/-
  What the last text of this claim leans on, part 15: Wh1, Wh2, Wh3.
-/
import Derived.Test.YtjngjnkecnnmeaaDoorJb12
namespace Go.Proofs.YtjngjnkecnnmeaaDoor
open Go.RowKit
set_option linter.unusedVariables false

def cmpI (a b : Int) : Int := if a < b then -1 else if b < a then 1 else 0
def lexF : List Int → List Int → Int
  | x :: xs, y :: ys => if x < y then -1 else if y < x then 1 else lexF xs ys
  | [], [] => 0
  | [], _ :: _ => -1
  | _ :: _, [] => 1
def orI (a b c : Int) : Int := if a ≠ 0 then a else if b ≠ 0 then b else c
def cmpP (p q : Pat) : Int := orI (cmpI p.H q.H) (cmpI p.W q.W) (lexF p.xs q.xs)
def aheadB (p q : Pat) : Bool := decide (cmpP p q < 0)

theorem lexF_drop {xs ys : List Int} {i : Nat} (h1 : i < xs.length) (h2 : i < ys.length) : lexF (xs.drop i) (ys.drop i) = if xs[i] < ys[i] then -1 else if ys[i] < xs[i] then 1 else lexF (xs.drop (i + 1)) (ys.drop (i + 1)) := by
  rw [List.drop_eq_getElem_cons h1, List.drop_eq_getElem_cons h2, lexF]
theorem ahead_H {p q : Pat} (h : p.H ≠ q.H) : aheadB p q = decide ((p.H : Int) < (q.H : Int)) := by
  unfold aheadB cmpP orI cmpI
  by_cases c : (p.H : Int) < (q.H : Int)
  · simp [c]
  · have c2 : (q.H : Int) < (p.H : Int) := by omega
    simp [c, c2]
theorem ahead_W {p q : Pat} (h0 : p.H = q.H) (h : p.W ≠ q.W) : aheadB p q = decide ((p.W : Int) < (q.W : Int)) := by
  unfold aheadB cmpP orI cmpI
  by_cases c : (p.W : Int) < (q.W : Int)
  · simp [c, h0]
  · have c2 : (q.W : Int) < (p.W : Int) := by omega
    simp [c, c2, h0]
theorem ahead_xs {p q : Pat} (h0 : p.H = q.H) (h : p.W = q.W) : aheadB p q = decide (lexF p.xs q.xs < 0) := by
  unfold aheadB cmpP orI cmpI
  simp [h0, h]

set_option maxRecDepth 100000 in
set_option maxHeartbeats 800000 in
theorem ahead_any (p q : Pat) (a b : Option Addr) (c d : Nat) (w : World) (hP : ArgP w p.xs a p.xs.length c) (hQ : ArgP w q.xs b q.xs.length d) (hp : p.ok) (hq : q.ok) (l1 : p.W ≤ 100) (l2 : p.H ≤ 100) :
    Calls Tryd.prog 83 #[.agg #[.int .i64 (p.W : Int), .int .i64 (p.H : Int), .slice a p.xs.length c], .agg #[.int .i64 (q.W : Int), .int .i64 (q.H : Int), .slice b q.xs.length d]] w fun e w' => e = .returned (.bool (aheadB p q)) ∧ Below w.heap.size w w' := by
  have HP := hide' ((hP.alloc (.cells #[.int .i64 (p.W : Int), .int .i64 (p.H : Int), .slice a p.xs.length c] 51)).alloc (.cells #[.int .i64 (q.W : Int), .int .i64 (q.H : Int), .slice b q.xs.length d] 51))
  have HQ := hide' ((hQ.alloc (.cells #[.int .i64 (p.W : Int), .int .i64 (p.H : Int), .slice a p.xs.length c] 51)).alloc (.cells #[.int .i64 (q.W : Int), .int .i64 (q.H : Int), .slice b q.xs.length d] 51))
  have hsm := small p hp l1 l2
  have BB := hide' (show Below w.heap.size w ((w.alloc (.cells #[.int .i64 (p.W : Int), .int .i64 (p.H : Int), .slice a p.xs.length c] 51)).alloc (.cells #[.int .i64 (q.W : Int), .int .i64 (q.H : Int), .slice b q.xs.length d] 51)) from ((Below.refl _ _).alloc (Nat.le_refl _) _).alloc (by simp) _)
  clear hP hQ
  by_cases h1 : p.H = q.H
  · have m1 : ((p.H : Int) != (q.H : Int)) = false := by simp; omega
    by_cases h2 : p.W = q.W
    · have m2 : ((p.W : Int) != (q.W : Int)) = false := by simp; omega
      have AH := hide' (ahead_xs h1 h2)
      have hlen : q.xs.length = p.xs.length := by rw [hq, hp, h1, h2]
      have HLEN := hide' hlen
      clear h1 h2 hlen
      go_enter Tryd.func83, Tryd.ntmps83
      go_wp2
      go_loopw [5] (fun iv wr => ∃ i m : Nat, iv = .int .i64 (i : Int) ∧ i ≤ p.xs.length ∧ wr = ((w.alloc (.cells #[.int .i64 (p.W : Int), .int .i64 (p.H : Int), .slice a p.xs.length c] 51)).alloc (.cells #[.int .i64 (q.W : Int), .int .i64 (q.H : Int), .slice b q.xs.length d] 51)).drewN m ∧ lexF (p.xs.drop i) (q.xs.drop i) = lexF p.xs q.xs) (fun iv _ => p.xs.length - (intOf iv).toNat)
      case atStart => exact ⟨0, 0, rfl, by omega, rfl, rfl⟩
      case round =>
        obtain ⟨i, m, rfl, hi, rfl, hx⟩ := hrel
        have HX := hide' hx
        clear hx
        by_cases e : (i : Int) < (p.xs.length : Int)
        · have g1 : i < p.xs.length := by omega
          have g2 : i < q.xs.length := by rw [HLEN.out]; exact g1
          obtain ⟨ga, oa, rfl, hga, ca⟩ := HP.out.cells i g1
          obtain ⟨gb, ob, rfl, hgb, cb⟩ := HQ.out.cells i g2
          have DR := hide' ((lexF_drop g1 g2).symm.trans HX.out)
          obtain ⟨x, hx⟩ : ∃ x, p.xs[i] = x := ⟨_, rfl⟩
          obtain ⟨y, hy⟩ : ∃ y, q.xs[i] = y := ⟨_, rfl⟩
          rw [hx, hy] at DR
          rw [hx] at ca
          rw [hy] at cb
          clear hx hy
          by_cases ne : x = y
          · have m3 : (x != y) = false := by simp [ne]
            have NX := hide' (show lexF (p.xs.drop (i + 1)) (q.xs.drop (i + 1)) = lexF p.xs q.xs by have h := DR.out; rw [if_neg (by omega), if_neg (by omega)] at h; exact h)
            clear ne DR
            go_wp2
            go_quiet (fail)
            go_wp2
            exact ⟨⟨i + 1, _, by go_num, by omega, rfl, NX.out⟩, by simp [intOf]; omega⟩
          · have m3 : (x != y) = true := by simp [ne]
            have VV := hide' (show aheadB p q = decide (x < y) by
              rw [AH.out]
              have h := DR.out
              rw [← h]
              by_cases c1 : x < y
              · simp [c1]
              · have c2 : y < x := by omega
                simp [c1, c2])
            clear ne DR
            go_wp2
            go_quiet (fail)
            go_wp2
            go_quiet (fail)
            go_wp2
            go_ret
            rw [VV.out]
            exact ⟨rfl, BB.out.trans ⟨rfl, rfl, rfl, Nat.le_refl _, fun _ _ => rfl⟩⟩
        · have I := hide' (show i = p.xs.length by omega)
          have VV := hide' (show aheadB p q = false by
            rw [AH.out, ← HX.out, I.out, List.drop_length, ← HLEN.out, List.drop_length]
            rfl)
          go_wp2
          go_ret
          rw [VV.out]
          exact ⟨rfl, BB.out.trans ⟨rfl, rfl, rfl, Nat.le_refl _, fun _ _ => rfl⟩⟩
    · have m2 : ((p.W : Int) != (q.W : Int)) = true := by simp; omega
      have AH := hide' (ahead_W h1 h2)
      clear h1 h2
      go_enter Tryd.func83, Tryd.ntmps83
      go_wp2
      go_ret
      rw [AH.out]
      exact ⟨by simp, BB.out⟩
  · have m1 : ((p.H : Int) != (q.H : Int)) = true := by simp; omega
    have AH := hide' (ahead_H h1)
    clear h1
    go_enter Tryd.func83, Tryd.ntmps83
    go_wp2
    go_ret
    rw [AH.out]
    exact ⟨by simp, BB.out⟩
end Go.Proofs.YtjngjnkecnnmeaaDoor

namespace Go.Proofs.YtjngjnkecnnmeaaDoor
open Go.RowKit
set_option linter.unusedVariables false

theorem cmp_any (x y : Int) (w : World) : Calls Tryd.prog 127 #[.int .i64 x, .int .i64 y] w fun e w' => e = .returned (.int .i64 (cmpI x y)) ∧ w' = w := by
  have s1 : (x != x) = false := by simp
  have s2 : (y != y) = false := by simp
  by_cases h1 : x < y
  · rw [show cmpI x y = -1 by unfold cmpI; rw [if_pos h1]]
    go_enter Tryd.func127, Tryd.ntmps127
    go_wp2
    go_ret
    exact ⟨rfl, rfl⟩
  · by_cases h2 : y < x
    · rw [show cmpI x y = 1 by unfold cmpI; rw [if_neg h1, if_pos h2]]
      go_enter Tryd.func127, Tryd.ntmps127
      go_wp2
      go_ret
      exact ⟨rfl, rfl⟩
    · rw [show cmpI x y = 0 by unfold cmpI; rw [if_neg h1, if_neg h2]]
      go_enter Tryd.func127, Tryd.ntmps127
      go_wp2
      go_ret
      exact ⟨rfl, rfl⟩

theorem lexF_cmp {xs ys : List Int} {i : Nat} (h1 : i < xs.length) (h2 : i < ys.length) : lexF (xs.drop i) (ys.drop i) = if cmpI xs[i] ys[i] ≠ 0 then cmpI xs[i] ys[i] else lexF (xs.drop (i + 1)) (ys.drop (i + 1)) := by
  rw [lexF_drop h1 h2]
  unfold cmpI
  by_cases a : xs[i] < ys[i]
  · simp [a]
  · by_cases b : ys[i] < xs[i]
    · simp [a, b]
    · simp [a, b]

set_option maxHeartbeats 800000 in
theorem scmp_any (xs ys : List Int) (a b : Option Addr) (c d : Nat) (w : World) (hP : ArgP w xs a xs.length c) (hQ : ArgP w ys b ys.length d) (l1 : xs.length ≤ 10000) (l2 : ys.length = xs.length) :
    Calls Tryd.prog 128 #[.slice a xs.length c, .slice b ys.length d] w fun e w' => e = .returned (.int .i64 (lexF xs ys)) ∧ w' = w := by
  have HP := hide' hP
  have HQ := hide' hQ
  have L2 := hide' l2
  have l3 : ys.length ≤ 10000 := by omega
  clear hP hQ l2
  go_enter Tryd.func128, Tryd.ntmps128
  go_wp2
  go_loop [11] (fun iv => ∃ i : Nat, iv = .int .i64 (i : Int) ∧ i ≤ xs.length ∧ lexF (xs.drop i) (ys.drop i) = lexF xs ys) (fun iv => xs.length - (intOf iv).toNat)
  case atStart => exact ⟨0, rfl, by omega, rfl⟩
  case round =>
    obtain ⟨i, rfl, hi, hx⟩ := hrel
    have HX := hide' hx
    clear hx
    by_cases e : (i : Int) < (xs.length : Int)
    · have g1 : i < xs.length := by omega
      have g2 : i < ys.length := by rw [L2.out]; exact g1
      have n1 : ¬ (ys.length : Int) ≤ (i : Int) := by omega
      obtain ⟨ga, oa, rfl, hga, ca⟩ := HP.out.cells i g1
      obtain ⟨gb, ob, rfl, hgb, cb⟩ := HQ.out.cells i g2
      have DR := hide' ((lexF_cmp g1 g2).symm.trans HX.out)
      obtain ⟨x, hx⟩ : ∃ x, xs[i] = x := ⟨_, rfl⟩
      obtain ⟨y, hy⟩ : ∃ y, ys[i] = y := ⟨_, rfl⟩
      rw [hx, hy] at DR
      rw [hx] at ca
      rw [hy] at cb
      obtain ⟨z, hz⟩ : ∃ z, cmpI x y = z := ⟨_, rfl⟩
      rw [hz] at DR
      have HZ := hide' hz
      clear hx hy hz
      by_cases z0 : z = 0
      · have m1 : (z != 0) = false := by simp [z0]
        have NX := hide' (show lexF (xs.drop (i + 1)) (ys.drop (i + 1)) = lexF xs ys by have h := DR.out; rw [if_neg (by simp [z0])] at h; exact h)
        clear z0 DR
        go_wp2_with fail
        refine (cmp_any x y _).mono ?_
        rw [HZ.out]
        rintro e w1 ⟨rfl, rfl⟩
        go_wp2
        exact ⟨⟨i + 1, by go_num, by omega, NX.out⟩, by simp [intOf]; omega⟩
      · have m1 : (z != 0) = true := by simp [z0]
        have VV := hide' (show lexF xs ys = z by have h := DR.out; rw [if_pos z0] at h; exact h.symm)
        clear z0 DR
        go_wp2_with fail
        refine (cmp_any x y _).mono ?_
        rw [HZ.out]
        rintro e w1 ⟨rfl, rfl⟩
        go_wp2
        go_ret
        rw [VV.out]
        exact ⟨rfl, rfl⟩
    · have I := hide' (show i = xs.length by omega)
      have n2 : ¬ (xs.length : Int) < (ys.length : Int) := by have := L2.out; omega
      have VV := hide' (show lexF xs ys = 0 by rw [← HX.out, I.out, List.drop_length, ← L2.out, List.drop_length]; rfl)
      go_wp2
      go_ret
      rw [VV.out]
      exact ⟨rfl, rfl⟩

set_option maxHeartbeats 800000 in
theorem or_any (x y z : Int) (g : Nat) (w : World) (c0 : w.cell? ⟨g, 0, none⟩ = some (.int .i64 x)) (c1 : w.cell? ⟨g, 1, none⟩ = some (.int .i64 y)) (c2 : w.cell? ⟨g, 2, none⟩ = some (.int .i64 z)) :
    Calls Tryd.prog 126 #[.slice (some ⟨g, 0, none⟩) 3 3] w fun e w' => e = .returned (.int .i64 (orI x y z)) ∧ w' = w := by
  go_enter Tryd.func126, Tryd.ntmps126
  go_wp2
  go_loop [8] (fun iv => ∃ i : Nat, iv = .int .i64 (i : Int) ∧ i ≤ 3 ∧ (0 < i → x = 0) ∧ (1 < i → y = 0) ∧ (2 < i → z = 0)) (fun iv => 3 - (intOf iv).toNat)
  case atStart => exact ⟨0, rfl, by omega, by omega, by omega, by omega⟩
  case round =>
    obtain ⟨i, rfl, hi, h0, h1, h2⟩ := hrel
    have H0 := hide' h0
    have H1 := hide' h1
    have H2 := hide' h2
    clear h0 h1 h2
    rcases (show i = 0 ∨ i = 1 ∨ i = 2 ∨ i = 3 by omega) with rfl | rfl | rfl | rfl
    · by_cases v : x = 0
      · have m : (x != 0) = false := by simp [v]
        have V := hide' v
        clear v
        go_wp2
        exact ⟨⟨1, rfl, by omega, fun _ => V.out, by omega, by omega⟩, by simp [intOf]⟩
      · have m : (x != 0) = true := by simp [v]
        have V := hide' v
        clear v
        go_wp2
        go_ret
        exact ⟨by unfold orI; rw [if_pos V.out]; rfl, rfl⟩
    · by_cases v : y = 0
      · have m : (y != 0) = false := by simp [v]
        have V := hide' v
        clear v
        go_wp2
        exact ⟨⟨2, rfl, by omega, fun _ => H0.out (by omega), fun _ => V.out, by omega⟩, by simp [intOf]⟩
      · have m : (y != 0) = true := by simp [v]
        have V := hide' v
        clear v
        go_wp2
        go_ret
        exact ⟨by unfold orI; rw [if_neg (by simp [H0.out (by omega)]), if_pos V.out]; rfl, rfl⟩
    · by_cases v : z = 0
      · have m : (z != 0) = false := by simp [v]
        have V := hide' v
        clear v
        go_wp2
        exact ⟨⟨3, rfl, by omega, fun _ => H0.out (by omega), fun _ => H1.out (by omega), fun _ => V.out⟩, by simp [intOf]⟩
      · have m : (z != 0) = true := by simp [v]
        clear v
        go_wp2
        go_ret
        exact ⟨by unfold orI; rw [if_neg (by simp [H0.out (by omega)]), if_neg (by simp [H1.out (by omega)])]; rfl, rfl⟩
    · go_wp2
      go_ret
      exact ⟨by unfold orI; rw [if_neg (by simp [H0.out (by omega)]), if_neg (by simp [H1.out (by omega)]), H2.out (by omega)]; rfl, rfl⟩
end Go.Proofs.YtjngjnkecnnmeaaDoor

namespace Go.Proofs.YtjngjnkecnnmeaaDoor
open Go.RowKit
set_option linter.unusedVariables false

def SC (w : World) (p q : Pat) (va vb : Value) (w' : World) : Prop :=
  w'.cell? ⟨w.heap.size, 0, none⟩ = some (.int .i64 (p.W : Int)) ∧ w'.cell? ⟨w.heap.size, 1, none⟩ = some (.int .i64 (p.H : Int)) ∧ w'.cell? ⟨w.heap.size, 2, none⟩ = some va ∧
  w'.cell? ⟨w.heap.size + 1, 0, none⟩ = some (.int .i64 (q.W : Int)) ∧ w'.cell? ⟨w.heap.size + 1, 1, none⟩ = some (.int .i64 (q.H : Int)) ∧ w'.cell? ⟨w.heap.size + 1, 2, none⟩ = some vb ∧
  Hid (w.heap.size + 2 ≤ w'.heap.size ∧ Below w.heap.size w w')
theorem SC.start (w : World) (p q : Pat) (va vb : Value) (t1 t2 : TypeId) : SC w p q va vb (((w.alloc (.cells #[.int .i64 (p.W : Int), .int .i64 (p.H : Int), va] t1)).alloc (.cells #[.int .i64 (q.W : Int), .int .i64 (q.H : Int), vb] t2))) := by
  have h1 := (TB.new w (.int .i64 (p.W : Int)) (.int .i64 (p.H : Int)) va t1).alloc (.cells #[.int .i64 (q.W : Int), .int .i64 (q.H : Int), vb] t2)
  have h2 := TB.new (w.alloc (.cells #[.int .i64 (p.W : Int), .int .i64 (p.H : Int), va] t1)) (.int .i64 (q.W : Int)) (.int .i64 (q.H : Int)) vb t2
  rw [World.size_alloc] at h2
  exact ⟨h1.c0, h1.c1, h1.c2, h2.c0, h2.c1, h2.c2, hide' ⟨by show _ ≤ ((w.alloc _).alloc _).heap.size; simp, ((Below.refl _ _).alloc (Nat.le_refl _) _).alloc (by simp) _⟩⟩
theorem SC.drew {w : World} {p q : Pat} {va vb : Value} {w1 : World} (h : SC w p q va vb w1) : SC w p q va vb w1.drew := ⟨h.1, h.2.1, h.2.2.1, h.2.2.2.1, h.2.2.2.2.1, h.2.2.2.2.2.1, hide' ⟨h.2.2.2.2.2.2.out.1, h.2.2.2.2.2.2.out.2.drew⟩⟩
theorem SC.next {w : World} {p q : Pat} {va vb : Value} {w1 w2 : World} (h : SC w p q va vb w1) (hb : Below w1.heap.size w1 w2) : SC w p q va vb w2 := by
  obtain ⟨c0, c1, c2, d0, d1, d2, hh⟩ := h
  have hz := hh.out.1
  have e : ∀ b k, b < w.heap.size + 2 → w2.cell? ⟨b, k, none⟩ = w1.cell? ⟨b, k, none⟩ := fun b k hbk => World.cell?_of_block (w := w1) (a := ⟨b, k, none⟩) (hb.block b (by omega))
  exact ⟨(e _ 0 (by omega)).trans c0, (e _ 1 (by omega)).trans c1, (e _ 2 (by omega)).trans c2, (e _ 0 (by omega)).trans d0, (e _ 1 (by omega)).trans d1, (e _ 2 (by omega)).trans d2, hide' ⟨Nat.le_trans hz hb.size, hh.out.2.trans (hb.mono (by omega))⟩⟩
theorem SC.alloc {w : World} {p q : Pat} {va vb : Value} {w1 : World} (h : SC w p q va vb w1) (o : Obj) : SC w p q va vb (w1.alloc o) := h.next ((Below.refl _ _).alloc (Nat.le_refl _) _)

theorem third_cell (w : World) (o1 o2 : Obj) (cs : Array Value) (t : TypeId) (k : Nat) : (((w.alloc o1).alloc o2).alloc (.cells cs t)).drew.cell? ⟨w.heap.size + 1 + 1, k, none⟩ = cs[k]? := by
  have h := cell_all_new ((w.alloc o1).alloc o2) cs t k
  simp only [World.size_alloc] at h
  exact h

set_option maxRecDepth 100000 in
set_option maxHeartbeats 2000000 in
theorem compare_any (p q : Pat) (a b : Option Addr) (c d : Nat) (w : World) (hP : ArgP w p.xs a p.xs.length c) (hQ : ArgP w q.xs b q.xs.length d) (hl : p.xs.length ≤ 10000) (he : q.xs.length = p.xs.length) :
    Calls Tryd.prog 81 #[.agg #[.int .i64 (p.W : Int), .int .i64 (p.H : Int), .slice a p.xs.length c], .agg #[.int .i64 (q.W : Int), .int .i64 (q.H : Int), .slice b q.xs.length d]] w fun e w' => e = .returned (.int .i64 (cmpP p q)) ∧ Below w.heap.size w w' := by
  have HP := hide' hP
  have HQ := hide' hQ
  have HE := hide' he
  clear hP hQ he
  have S0 := hide' (SC.start w p q (.slice a p.xs.length c) (.slice b q.xs.length d) 51 51)
  go_enter Tryd.func81, Tryd.ntmps81
  go_wp2_with fail
  go_region_held3 (fun w' => w'.cell? ⟨w.heap.size, 0, none⟩ = some (.int .i64 (p.W : Int)) ∧ w'.cell? ⟨w.heap.size, 1, none⟩ = some (.int .i64 (p.H : Int)) ∧ w'.cell? ⟨w.heap.size, 2, none⟩ = some (.slice a p.xs.length c) ∧ w'.cell? ⟨w.heap.size + 1, 0, none⟩ = some (.int .i64 (q.W : Int)) ∧ w'.cell? ⟨w.heap.size + 1, 1, none⟩ = some (.int .i64 (q.H : Int)) ∧ w'.cell? ⟨w.heap.size + 1, 2, none⟩ = some (.slice b q.xs.length d) ∧ Hid (w.heap.size + 2 ≤ w'.heap.size ∧ Below w.heap.size w w')) (first | (show SC w p q _ _ _; with_reducible exact S0.out.drew) | (show SC w p q _ _ _; with_reducible exact (S0.out.alloc _).drew))
    (first
      | (go_at_call_of 127 (Value.int .i64 (p.H : Int)); refine (cmp_any _ _ _).mono ?_; rintro e w' ⟨rfl, rfl⟩)
      | (go_at_call_of 127 (Value.int .i64 (p.W : Int)); refine (cmp_any _ _ _).mono ?_; rintro e w' ⟨rfl, rfl⟩)
      | (go_at_call 128; refine (scmp_any p.xs q.xs a b c d _ (HP.out.below S0.out.drew.2.2.2.2.2.2.out.2) (HQ.out.below S0.out.drew.2.2.2.2.2.2.out.2) hl HE.out).mono ?_; rintro e w' ⟨rfl, rfl⟩)
      | (go_at_call 126; refine (or_any _ _ _ _ _ (third_cell _ _ _ _ _ 0) (third_cell _ _ _ _ _ 1) (third_cell _ _ _ _ _ 2)).mono ?_; rintro e w' ⟨rfl, rfl⟩))
  go_wp2
  go_ret
  exact ⟨rfl, (S0.out.alloc _).drew.2.2.2.2.2.2.out.2⟩
end Go.Proofs.YtjngjnkecnnmeaaDoor

