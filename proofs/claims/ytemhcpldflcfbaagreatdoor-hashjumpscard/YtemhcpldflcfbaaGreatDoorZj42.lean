/-
  What the last text of this claim leans on, part 42: Hs1, In1.
-/
import Derived.Test.YtemhcpldflcfbaaGreatDoorZj25
import Derived.Test.YtemhcpldflcfbaaGreatDoorZj41
import Derived.Test.YtemhcpldflcfbaaGreatDoorZj15
import Derived.Test.YtemhcpldflcfbaaGreatDoorZj9
namespace Go.Proofs.YtemhcpldflcfbaaGreatDoor
set_option linter.unusedVariables false
def plG (s : Gst) : Int → Int → Int := ptF s.P.W s.P.H s.P.xs s.r s.d
theorem pt_cell {q : Pat} (hb : ∀ k, 0 ≤ q.xs.getD k 0 ∧ q.xs.getD k 0 ≤ 1) (R D : Int) (x y : Nat) : ptF q.W q.H q.xs R D (R + x) (D + y) = ((cellP q y x).toNat : Int) := by
 unfold ptF cellP
 have e1 : R + (x : Int) - R = (x : Int) := by omega
 have e2 : D + (y : Int) - D = (y : Int) := by omega
 rw [e1, e2]
 by_cases h : x < q.W ∧ y < q.H
 ·rw [if_pos (show inP q.W q.H x y by unfold inP; omega)]
  unfold cellF
  have e3 : ((y : Int) * (q.W : Int) + (x : Int)) = ((y * q.W + x : Nat) : Int) := by push_cast; rfl
  rw [e3, Int.toNat_natCast, decide_eq_true h.1, decide_eq_true h.2]
  have := hb (y * q.W + x)
  by_cases z : q.xs.getD (y * q.W + x) 0 = 1
  ·rw [z]; decide
  ·rw [show q.xs.getD (y * q.W + x) 0 = 0 by omega]; decide
 ·rw [if_neg (show ¬ inP q.W q.H x y by unfold inP; omega)]
  by_cases a : x < q.W
  ·rw [decide_eq_false (show ¬ y < q.H by omega)]; simp
  ·rw [decide_eq_false a]; simp
theorem pt_out {W H : Nat} {xs : List Int} {R D u v : Int} (h : ¬ (R ≤ u ∧ u < R + W ∧ D ≤ v ∧ v < D + H)) : ptF W H xs R D u v = 0 := by
 unfold ptF
 rw [if_neg (by unfold inP; omega)]
theorem pt_far {q : Pat} {R D u v : Int} (h : u < R ∨ v < D) : ptF q.W q.H q.xs R D u v = 0 := pt_out (by omega)
theorem pl_noG : plG noG = fun _ _ => 0 := by
 funext u v
 exact pt_out (by simp [noG])
theorem box_pl {q : Pat} (hb : ∀ k, 0 ≤ q.xs.getD k 0 ∧ q.xs.getD k 0 ≤ 1) (R D : Int) : plG (boxG q R D) = ptF q.W q.H q.xs R D := by
 have ok := box_ok hb R D
 funext u v
 rcases trim_cases q with ⟨h0, h1⟩ | ⟨l, t, r, b, hB, h1⟩
 ·have e : boxG q R D = noG := by unfold boxG; rw [h1, if_pos rfl]
  rw [e, pl_noG]
  by_cases h : u < R ∨ v < D
  ·rw [pt_far h]
  ·rw [show u = R + ((u - R).toNat : Int) by omega, show v = D + ((v - D).toNat : Int) by omega, pt_cell hb, h0]; rfl
 ·obtain ⟨y1, x1, c1, e1⟩ := hB.le
  have i1 := hB.inn _ _ c1
  have e : boxG q R D = ⟨⟨r - l, b - t, winP q.W l t (r - l) ((r - l) * (b - t)) q.xs⟩, R + (l : Int), D + (t : Int)⟩ := by
   unfold boxG
   rw [h1]
   dsimp only
   rw [if_neg (by omega)]
  rw [e] at ok ⊢
  unfold plG
  dsimp only
  by_cases h : u < R + l ∨ v < D + t
  ·rw [pt_out (by omega)]
   by_cases h2 : u < R ∨ v < D
   ·rw [pt_far h2]
   ·rw [show u = R + ((u - R).toNat : Int) by omega, show v = D + ((v - D).toNat : Int) by omega, pt_cell hb]
    cases c : cellP q (v - D).toNat (u - R).toNat with
    | false => rfl
    | true => have := hB.inn _ _ c; omega
  ·have p1 := pt_cell (q := ⟨r - l, b - t, winP q.W l t (r - l) ((r - l) * (b - t)) q.xs⟩) ok.bits (R + l) (D + t) (u - (R + l)).toNat (v - (D + t)).toNat
   have p2 := pt_cell hb R D (l + (u - (R + l)).toNat) (t + (v - (D + t)).toNat)
   rw [trim_cell hB] at p1
   rw [show R + (l : Int) + ((u - (R + l)).toNat : Int) = u by omega, show D + (t : Int) + ((v - (D + t)).toNat : Int) = v by omega] at p1
   rw [show R + ((l + (u - (R + l)).toNat : Nat) : Int) = u by omega, show D + ((t + (v - (D + t)).toNat : Nat) : Int) = v by omega] at p2
   dsimp only at p1
   rw [p1, p2]
   cases c : cellP q (t + (v - (D + t)).toNat) (l + (u - (R + l)).toNat) with
   | false => simp
   | true =>
    have := hB.inn _ _ c
    rw [decide_eq_true (show (u - (R + (l : Int))).toNat < r - l by omega), decide_eq_true (show (v - (D + (t : Int))).toNat < b - t by omega)]
    rfl
theorem c2_pl {q : Pat} (hb : ∀ k, 0 ≤ q.xs.getD k 0 ∧ q.xs.getD k 0 ≤ 1) (R D : Int) (x y : Nat) : ptF q.W q.H q.xs R D (R + x - 2) (D + y - 2) = ((c2 q y x).toNat : Int) := by
 unfold c2
 by_cases h : 2 ≤ x ∧ 2 ≤ y
 ·rw [show R + (x : Int) - 2 = R + ((x - 2 : Nat) : Int) by omega, show D + (y : Int) - 2 = D + ((y - 2 : Nat) : Int) by omega, pt_cell hb, decide_eq_true h.1, decide_eq_true h.2]; rfl
 ·rw [pt_far (by omega)]
  by_cases a : 2 ≤ x
  ·rw [decide_eq_false (show ¬ 2 ≤ y by omega)]; simp
  ·rw [decide_eq_false a]; simp
theorem next_pt {born stay : Nat} (hb0 : born % 2 = 0) {q : Pat} (hb : ∀ k, 0 ≤ q.xs.getD k 0 ∧ q.xs.getD k 0 ≤ 1) (R D : Int) : ptF (q.W + 2) (q.H + 2) (nextC born stay q).xs (R - 1) (D - 1) = nxF born stay (ptF q.W q.H q.xs R D) := by
 funext u v
 by_cases h : R - 1 ≤ u ∧ u < R - 1 + (q.W + 2 : Nat) ∧ D - 1 ≤ v ∧ v < D - 1 + (q.H + 2 : Nat)
 ·obtain ⟨x, hx⟩ : ∃ x : Nat, u = R - 1 + x := ⟨(u - (R - 1)).toNat, by omega⟩
  obtain ⟨y, hy⟩ : ∃ y : Nat, v = D - 1 + y := ⟨(v - (D - 1)).toNat, by omega⟩
  subst hx hy
  have e := pt_cell (q := nextC born stay q) (next_bits born stay q) (R - 1) (D - 1) x y
  rw [show (nextC born stay q).W = q.W + 2 from rfl, show (nextC born stay q).H = q.H + 2 from rfl] at e
  rw [e, nextC_cell, decide_eq_true (show x < q.W + 2 by omega), decide_eq_true (show y < q.H + 2 by omega), Bool.true_and, Bool.true_and]
  have b := becN_nx born stay q y x
  have n : (nbF (ptF q.W q.H q.xs R D) (R - 1 + x) (D - 1 + y)) = ((nb2 q y x : Nat) : Int) := by
   unfold nbF nb2
   rw [show R - 1 + (x : Int) - 1 = R + (x : Int) - 2 by omega, show D - 1 + (y : Int) - 1 = D + (y : Int) - 2 by omega, show R - 1 + (x : Int) = R + ((x + 1 : Nat) : Int) - 2 by omega, show D - 1 + (y : Int) = D + ((y + 1 : Nat) : Int) - 2 by omega, show R + ((x + 1 : Nat) : Int) - 2 + 1 = R + ((x + 2 : Nat) : Int) - 2 by omega, show D + ((y + 1 : Nat) : Int) - 2 + 1 = D + ((y + 2 : Nat) : Int) - 2 by omega]
   rw [c2_pl hb, c2_pl hb, c2_pl hb, c2_pl hb, c2_pl hb, c2_pl hb, c2_pl hb, c2_pl hb]
   push_cast
   omega
  unfold nxF
  rw [n, Int.toNat_natCast, show R - 1 + (x : Int) = R + ((x + 1 : Nat) : Int) - 2 by omega, show D - 1 + (y : Int) = D + ((y + 1 : Nat) : Int) - 2 by omega, c2_pl hb]
  unfold c2I at b
  rw [b]
  cases nxB born stay q y x <;> rfl
 ·rw [pt_out h]
  refine (nxF_none hb0 fun a b h1 h2 h3 h4 => pt_out ?_).symm
  push_cast at h
  omega
theorem next_pl {born stay : Nat} (hb0 : born % 2 = 0) {s : Gst} (hs : GOk s) : plG (nextG born stay s) = nxF born stay (plG s) := by
 unfold nextG
 rw [box_pl (next_bits born stay s.P)]
 exact next_pt hb0 hs.bits s.r s.d
def itG (born stay : Nat) : Nat → Gst → Gst
 | 0, s => s
 | n + 1, s => nextG born stay (itG born stay n s)
theorem it_ok {born stay : Nat} {s : Gst} (hs : GOk s) : ∀ n, GOk (itG born stay n s)
 | 0 => hs
 | n + 1 => next_ok born stay _
theorem it_bxd {born stay : Nat} {s : Gst} (hs : Bxd s) : ∀ n, Bxd (itG born stay n s)
 | 0 => hs
 | n + 1 => box_bxd (next_bits born stay _) _ _
theorem it_pl {born stay : Nat} (hb0 : born % 2 = 0) {s : Gst} (hs : GOk s) : ∀ n, plG (itG born stay n s) = stF born stay n (plG s)
 | 0 => rfl
 | n + 1 => by
  show plG (nextG born stay (itG born stay n s)) = nxF born stay (stF born stay n (plG s))
  rw [next_pl hb0 (it_ok hs n), it_pl hb0 hs n]
theorem bxd_ok {s : Gst} (h : Bxd s) : GOk s := by
 rcases h with rfl | ⟨-, h⟩
 ·exact noG_ok
 ·exact h
theorem bxd_box {s : Gst} (h : Bxd s) (hW : s.P.W ≠ 0) : BxF (plG s) s.r s.d (s.r + s.P.W) (s.d + s.P.H) := by
 have ok := bxd_ok h
 rcases h with rfl | ⟨hB, -⟩
 ·exact absurd rfl hW
 ·have al : ∀ y x, cellP s.P y x = true → plG s (s.r + x) (s.d + y) ≠ 0 := fun y x c => by
   unfold plG
   rw [pt_cell ok.bits, c]; decide
  obtain ⟨y1, x1, c1, e1⟩ := hB.le
  obtain ⟨y2, x2, c2, e2⟩ := hB.ri
  obtain ⟨y3, x3, c3, e3⟩ := hB.up
  obtain ⟨y4, x4, c4, e4⟩ := hB.lo
  refine ⟨fun u v q => ?_, ⟨s.d + y1, ?_⟩, ⟨s.d + y2, ?_⟩, ⟨s.r + x3, ?_⟩, ⟨s.r + x4, ?_⟩⟩
  ·refine Classical.byContradiction fun g => q (pt_out g)
  ·have := al _ _ c1; rwa [show s.r + (x1 : Int) = s.r by omega] at this
  ·have := al _ _ c2; rwa [show s.r + (x2 : Int) = s.r + s.P.W - 1 by omega] at this
  ·have := al _ _ c3; rwa [show s.d + (y3 : Int) = s.d by omega] at this
  ·have := al _ _ c4; rwa [show s.d + (y4 : Int) = s.d + s.P.H - 1 by omega] at this
theorem noG_of {s : Gst} (h : Bxd s) (hW : s.P.W = 0) : s = noG := by
 rcases h with h | ⟨hB, -⟩
 ·exact h
 ·obtain ⟨y, x, c, -⟩ := hB.le
  have := (cellP_at c).1
  omega
def NrG (s0 : Gst) (n : Nat) (s : Gst) : Prop := s = noG ∨ ((s0.r - n ≤ s.r ∧ s.r + s.P.W ≤ s0.r + s0.P.W + n) ∧ s0.d - n ≤ s.d ∧ s.d + s.P.H ≤ s0.d + s0.P.H + n)
theorem it_near {born stay : Nat} (b0 : born.testBit 0 = false) (hb0 : born % 2 = 0) {s : Gst} (hs : Bxd s) : ∀ n, NrG s n (itG born stay n s)
 | 0 => Or.inr ⟨by constructor <;> show _ ≤ _ <;> simp [itG], by constructor <;> show _ ≤ _ <;> simp [itG]⟩
 | n + 1 => by
  have ih := it_near (stay := stay) b0 hb0 hs n
  have ok := it_ok (born := born) (stay := stay) (bxd_ok hs) n
  by_cases z : (itG born stay (n + 1) s).P.W = 0
  ·exact Or.inl (noG_of (it_bxd hs (n + 1)) z)
  ·right
   have bx := bxd_box (it_bxd (born := born) (stay := stay) hs (n + 1)) z
   rcases ih with e | ⟨⟨h1, h2⟩, h3, h4⟩
   ·exfalso
    apply z
    show (nextG born stay (itG born stay n s)).P.W = 0
    rw [e, noG_next b0]; rfl
   ·have inn : ∀ u v, plG (itG born stay (n + 1) s) u v ≠ 0 → s.r - (n + 1 : Nat) ≤ u ∧ u < s.r + s.P.W + (n + 1 : Nat) ∧ s.d - (n + 1 : Nat) ≤ v ∧ v < s.d + s.P.H + (n + 1 : Nat) := fun u v q => by
     refine Classical.byContradiction fun g => q ?_
     show plG (nextG born stay (itG born stay n s)) u v = 0
     rw [next_pl hb0 ok]
     refine nxF_none hb0 fun a b k1 k2 k3 k4 => pt_out ?_
     push_cast at g
     omega
    obtain ⟨y1, a1⟩ := bx.hl
    obtain ⟨y2, a2⟩ := bx.hr
    obtain ⟨x3, a3⟩ := bx.hu
    obtain ⟨x4, a4⟩ := bx.hd
    have := inn _ _ a1
    have := inn _ _ a2
    have := inn _ _ a3
    have := inn _ _ a4
    omega
theorem st_again {born stay P : Nat} {F : Int → Int → Int} {R D : Int} (h : stF born stay P F = fun u v => F (-R + u) (-D + v)) : ∀ m : Nat, stF born stay (m * P) F = fun u v => F (-(m * R) + u) (-(m * D) + v)
 | 0 => by funext u v; simp [stF_zero]
 | m + 1 => by
  rw [Nat.add_mul, Nat.one_mul, Nat.add_comm, stF_add, h, stF_shift, st_again h m]
  funext u v
  have e : ∀ z x : Int, -(((m + 1 : Nat) : Int) * z) + x = -((m : Int) * z) + (-z + x) := fun z x => by push_cast; rw [Int.add_mul]; omega
  rw [e R u, e D v]
theorem agn_it {born stay : Nat} {s0 : Gst} : ∀ k i u, u = itG born stay i s0 → (agn born stay s0 k i u).f = 0 → ∃ j, i < j ∧ j ≤ i + k ∧ sameP (itG born stay j s0).P s0.P = true ∧ agn born stay s0 k i u = ⟨j, (itG born stay j s0).r - s0.r, (itG born stay j s0).d - s0.d, 0⟩
 | 0, i, u, hu, h => by cases h
 | k + 1, i, u, hu, h => by
  rw [agn] at h ⊢
  have e : nextG born stay u = itG born stay (i + 1) s0 := by rw [hu]; rfl
  split at h
  ·cases h
  ·rename_i c
   rw [if_neg c]
   split at h
   ·rename_i c2
    rw [if_pos c2]
    exact ⟨i + 1, by omega, by omega, by rw [← e]; exact c2, by rw [e]⟩
   ·rename_i c2
    rw [if_neg c2]
    obtain ⟨j, h1, h2, h3, h4⟩ := agn_it k (i + 1) _ e h
    exact ⟨j, by omega, by omega, h3, h4⟩
theorem same_eq {a b : Pat} (h : sameP a b = true) : a = b := by
 unfold sameP at h
 simp at h
 obtain ⟨⟨h1, h2⟩, h3⟩ := h
 cases a; cases b
 simp_all
theorem pt_move (W H : Nat) (xs : List Int) (r d a b : Int) : ptF W H xs (r + a) (d + b) = fun u v => ptF W H xs r d (-a + u) (-b + v) := by
 funext u v
 unfold ptF
 rw [show u - (r + a) = -a + u - r by omega, show v - (d + b) = -b + v - d by omega]
def jpG (born stay : Nat) (s0 : Gst) (n : Nat) : Gst :=
 if (agA born stay s0 64).f = 0 then itG born stay (n % (agA born stay s0 64).n) ⟨s0.P, s0.r + ((n / (agA born stay s0 64).n : Nat) : Int) * (agA born stay s0 64).r, s0.d + ((n / (agA born stay s0 64).n : Nat) : Int) * (agA born stay s0 64).d⟩ else itG born stay n s0
structure PerG (born stay : Nat) (s0 : Gst) (a : AgR) : Prop where
 pos : 1 ≤ a.n ∧ a.n ≤ 64
 alive : s0.P.W ≠ 0
 right : -(64 : Int) ≤ a.r ∧ a.r ≤ 64
 down : -(64 : Int) ≤ a.d ∧ a.d ≤ 64
 again : stF born stay a.n (plG s0) = fun u v => plG s0 (-a.r + u) (-a.d + v)
theorem per_of {born stay : Nat} (b0 : born.testBit 0 = false) (hb0 : born % 2 = 0) {s0 : Gst} (hs : Bxd s0) (h : (agA born stay s0 64).f = 0) : PerG born stay s0 (agA born stay s0 64) := by
 unfold agA at h ⊢
 split at h
 ·cases h
 ·rename_i c
  rw [if_neg c]
  obtain ⟨j, h1, h2, h3, h4⟩ := agn_it 64 0 s0 rfl h
  rw [h4]
  have nr := it_near (stay := stay) b0 hb0 hs j
  have pp := same_eq h3
  have al : itG born stay j s0 ≠ noG := fun e => by
   rw [e] at pp
   exact c (by rw [← pp]; rfl)
  rcases nr with e | ⟨⟨n1, n2⟩, n3, n4⟩
  ·exact absurd e al
  ·rw [pp] at n2 n4
   refine ⟨⟨by dsimp only; omega, by dsimp only; omega⟩, c, ⟨by dsimp only; omega, by dsimp only; omega⟩, ⟨by dsimp only; omega, by dsimp only; omega⟩, ?_⟩
   dsimp only
   rw [← it_pl hb0 (bxd_ok hs) j]
   unfold plG
   rw [pp, ← pt_move]
   congr 1 <;> omega
theorem jp_pl {born stay : Nat} (b0 : born.testBit 0 = false) (hb0 : born % 2 = 0) {s0 : Gst} (hs : Bxd s0) (n : Nat) : plG (jpG born stay s0 n) = stF born stay n (plG s0) ∧ Bxd (jpG born stay s0 n) := by
 unfold jpG
 split
 ·rename_i h
  have p := per_of b0 hb0 hs h
  obtain ⟨a, ha⟩ : ∃ a, agA born stay s0 64 = a := ⟨_, rfl⟩
  rw [ha] at p ⊢
  obtain ⟨m, hm⟩ : ∃ m, n / a.n = m := ⟨_, rfl⟩
  rw [hm]
  have bx : Bxd ⟨s0.P, s0.r + (m : Int) * a.r, s0.d + (m : Int) * a.d⟩ := by
   rcases hs with e | ⟨hB, ok⟩
   ·exact absurd (by rw [e]; rfl) p.alive
   ·exact Or.inr ⟨hB, ok.len, ok.bits⟩
  refine ⟨?_, it_bxd bx _⟩
  rw [it_pl hb0 (bxd_ok bx)]
  have e : plG ⟨s0.P, s0.r + (m : Int) * a.r, s0.d + (m : Int) * a.d⟩ = stF born stay (m * a.n) (plG s0) := by
   rw [st_again p.again]
   unfold plG
   dsimp only
   rw [pt_move]
  rw [e, ← stF_add, ← hm, Nat.mul_comm, Nat.div_add_mod]
 ·exact ⟨it_pl hb0 (bxd_ok hs) n, it_bxd hs n⟩
open Go.RowKit
theorem list_ne_len {xs ys : List Int} (h : xs.length ≠ ys.length) : decide (xs = ys) = false := by
 simp; intro e; exact h (by rw [e])
theorem list_ne_at {xs ys : List Int} {k : Nat} (hx : k < xs.length) (hy : k < ys.length) (h : xs[k] ≠ ys[k]) : decide (xs = ys) = false := by
 simp; intro e; subst e; exact h rfl
set_option maxHeartbeats 1600000 in
theorem Ints_any (xs ys : List Int) (a b : Option Addr) (n c m d : Nat) (w : World) (hA : ArgP w xs a n c) (hB : ArgP w ys b m d) :
  Calls Tryz.prog 72 #[.slice a n c, .slice b m d] w fun e w' => e = .returned (.bool (decide (xs = ys))) ∧ ∃ q, w' = w.drewN q := by
 have HA := hide' hA
 have HB := hide' hB
 have hlx := hA.len
 have hly := hB.len
 have hma := hA.max
 have hmb := hB.max
 have LX := hide' hlx
 have LY := hide' hly
 unfold maxLen at hma hmb
 by_cases hnm : n = m
 ·subst hnm
  clear hA hB hlx hly
  have EQ := hide' (fun (h : ∀ j (h1 : j < xs.length) (h2 : j < ys.length), xs[j] = ys[j]) => show decide (xs = ys) = true by
   simp; exact List.ext_getElem (by rw [← LX.out, ← LY.out]) fun j h1 h2 => h j h1 h2)
  go_enter Tryz.func72, Tryz.ntmps72
  go_wp2
  go_loopw [5] (fun iv wr => ∃ k q : Nat, iv = .int .i64 (k : Int) ∧ k ≤ n ∧ wr = w.drewN q ∧ Hid (∀ j (h1 : j < xs.length) (h2 : j < ys.length), j < k → xs[j] = ys[j])) (fun iv _ => n - (intOf iv).toNat)
  case atStart => exact ⟨0, 0, rfl, by omega, rfl, fun j h1 h2 h => by omega⟩
  case round =>
   obtain ⟨k, q, rfl, hk, rfl, HK⟩ := hrel
   by_cases hkn : (k : Int) < (n : Int)
   ·have l1 : k < xs.length := by have := LX.out; omega
    have l2 : k < ys.length := by have := LY.out; omega
    obtain ⟨ga, oa, rfl, -, c1⟩ := HA.out.cells k l1
    obtain ⟨gb, ob, rfl, -, c2⟩ := HB.out.cells k l2
    obtain ⟨x, hx⟩ : ∃ x, xs[k] = x := ⟨_, rfl⟩
    obtain ⟨y, hy⟩ : ∃ y, ys[k] = y := ⟨_, rfl⟩
    rw [hx] at c1
    rw [hy] at c2
    have HX := hide' hx
    have HY := hide' hy
    clear hx hy
    by_cases e : x = y
    ·subst e
     have m1 : (x != x) = false := by simp
     go_wp2
     go_quiet (fail)
     go_wp2
     refine ⟨⟨k + 1, q + nq, by go_num, by omega, rfl, fun j h1 h2 h => ?_⟩, by simp [intOf]; omega⟩
     by_cases ej : j = k
     ·subst ej; rw [HX.out, HY.out]
     ·exact HK.out j h1 h2 (by omega)
    ·have m1 : (x != y) = true := by simp [e]
     have F := hide' (list_ne_at l1 l2 (by rw [HX.out, HY.out]; exact e))
     clear e
     go_wp2
     go_quiet (fail)
     go_wp2
     go_ret
     exact ⟨by rw [F.out]; rfl, q + nq, by simp [World.drewN, Nat.add_assoc]⟩
   ·have F := hide' (EQ.out fun j h1 h2 => HK.out j h1 h2 (by have := LX.out; omega))
    go_wp2
    go_ret
    exact ⟨by rw [F.out]; rfl, q, rfl⟩
 ·have m1 : ((n : Int) != (m : Int)) = true := by simp; omega
  have F := hide' (list_ne_len (xs := xs) (ys := ys) (by rw [← hlx, ← hly]; exact hnm))
  clear hA hB hlx hly hnm
  go_enter Tryz.func72, Tryz.ntmps72
  go_wp2
  go_ret
  exact ⟨by rw [F.out]; rfl, 0, rfl⟩
set_option maxHeartbeats 1600000 in
theorem Alike_any (W H W' H' : Int) (xs ys : List Int) (a b : Option Addr) (n c m d : Nat) (w : World) (hA : ArgP w xs a n c) (hB : ArgP w ys b m d) :
  Calls Tryz.prog 39 #[.agg #[.int .i64 W, .int .i64 H, .slice a n c], .agg #[.int .i64 W', .int .i64 H', .slice b m d]] w fun e w' => e = .returned (.bool (decide (xs = ys) && (W == W') && (H == H'))) ∧ Below w.heap.size w w' := by
 have B := hide' (((Below.refl w.heap.size w).alloc (Nat.le_refl _) (.cells #[.int .i64 W, .int .i64 H, .slice a n c] 26)).alloc (by simp) (.cells #[.int .i64 W', .int .i64 H', .slice b m d] 26))
 have AA := hide' (hA.below B.out)
 have AB := hide' (hB.below B.out)
 obtain ⟨r, hr⟩ : ∃ r, decide (xs = ys) = r := ⟨_, rfl⟩
 have HR := hide' hr
 clear hA hB hr
 cases r
 ·go_enter Tryz.func39, Tryz.ntmps39
  go_wp2_with fail
  refine (Ints_any xs ys a b n c m d _ AA.out AB.out).mono ?_
  rw [HR.out]
  rintro e w1 ⟨rfl, q, rfl⟩
  go_wp2
  go_ret
  exact ⟨by rw [HR.out]; simp, below_drewN B.out q⟩
 ·cases e1 : (W == W')
  ·go_enter Tryz.func39, Tryz.ntmps39
   go_wp2_with fail
   refine (Ints_any xs ys a b n c m d _ AA.out AB.out).mono ?_
   rw [HR.out]
   rintro e w1 ⟨rfl, q, rfl⟩
   go_wp2
   go_ret
   exact ⟨by rw [HR.out]; simp, below_drewN B.out q⟩
  ·go_enter Tryz.func39, Tryz.ntmps39
   go_wp2_with fail
   refine (Ints_any xs ys a b n c m d _ AA.out AB.out).mono ?_
   rw [HR.out]
   rintro e w1 ⟨rfl, q, rfl⟩
   go_wp2
   go_ret
   exact ⟨by rw [HR.out]; simp, below_drewN B.out q⟩
end Go.Proofs.YtemhcpldflcfbaaGreatDoor
