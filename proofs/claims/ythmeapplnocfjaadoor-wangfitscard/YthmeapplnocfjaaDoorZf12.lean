/-
  What the last text of this claim leans on, part 12: Ws4, Ws5.
-/
import Derived.Test.YthmeapplnocfjaaDoorZf10
import Derived.Deep.AppendLies
import Derived.OwnWalk
namespace Go.Proofs.YthmeapplnocfjaaDoor
open Go.RowKit
set_option linter.unusedVariables false
set_option linter.unusedSimpArgs false
theorem and_u64W {a : Nat} (h0 : 0 < a) (ha : a < 65536) : bits .and .u64 (a : Int) ((a : Int) - 1) = ((a &&& (a - 1) : Nat) : Int) := by
  rw [show (a : Int) - 1 = ((a - 1 : Nat) : Int) by omega]
  exact bits_and_u64_nat a (a - 1) (by omega) (by omega)
theorem and_pred_lt {a : Nat} (h : 0 < a) : a &&& (a - 1) < a := Nat.lt_of_le_of_lt Nat.and_le_right (by omega)
set_option maxRecDepth 100000 in
set_option maxHeartbeats 12800000 in
theorem ends_any (b : BdW) (g r col : Nat) (w : World) (hB : BrdA w g b) (hb : BokW b) (hT : TzTab w) (hr : r < b.H) (hc : col < 8) :
    Calls Tryd.prog 42 #[.pointer (some ⟨g, 0, none⟩), .int .i64 (r : Int), .int .i64 (col : Int)] w (EnO b r col w) := by
  have W5 := hb.w5
  have W1 := hb.w1
  have H5 := hb.h5
  have HB := hide' (fun (V : World) (h : Below w.heap.size w V) => hB.below h)
  have TZ := hide' (fun (x : Nat) (V : World) (h : Below w.heap.size w V) (h0 : 0 < x) (h1 : x < 65536) => tz_any x V h0 (by omega) (hT.below h))
  have INC := hide' (fun (c k : Nat) (V : World) (h : Below w.heap.size w V) (hc : c < b.W) (hk : k < 16) => in_any b g r c k V (hB.below h) hb (by omega) (by omega) hk)
  have COL := hide' (fun (c k : Nat) => col_in hb.col r c k)
  have MAY := hide' hb.may
  have gl := lt_blockT hB
  clear hT hb
  have zv := zero_ends
  obtain ⟨Z, hZ⟩ : ∃ Z, (arV 48 fun _ => Value.int .i64 0) = Z := ⟨_, rfl⟩
  rw [hZ] at zv
  have ZS : Z.size = 48 := by rw [← hZ, arV_size]
  have zn : ¬ Z = #[] := fun e => by rw [e] at ZS; simp at ZS
  obtain ⟨w1, hw1⟩ : ∃ w1, w.alloc (.cells Z 98) = w1 := ⟨_, rfl⟩
  obtain ⟨w2, hw2⟩ : ∃ w2, w1.alloc (.cells Z 98) = w2 := ⟨_, rfl⟩
  have s1 : w1.heap.size = w.heap.size + 1 := by rw [← hw1]; simp
  have E2 := hide' (show EnW b g w w2 (fun _ => 0) from ⟨by rw [← hw2, ← hw1]; exact ((Below.refl _ _).alloc (Nat.le_refl _) _).alloc (by simp) _, by
    unfold EnB
    rw [← hw2, heap_alloc_old _ _ (by omega), ← hw1, hZ]; exact heap_alloc_new _ _, by
    unfold EnB
    rw [← hw2, ← s1, hZ]; exact heap_alloc_new _ _⟩)
  have cw := (HB.out w2 E2.out.below).wide
  have cz := E2.out.row.cell (i := b.W * 8 + col) (by omega)
  have fz := frozen_of_row w2 _ (b.W * 8 + col) _ _ E2.out.row
  have I0 := hide' (show EnS b r col (fun k => if k = b.W * 8 + col then 1 else 0) b.W from ⟨fun c x h1 h2 h3 => by
    obtain rfl : c = b.W := by omega
    show (if b.W * 8 + x = b.W * 8 + col then (1 : Int) else 0) = _
    rw [Nat.sub_self, enW]
    by_cases e : x = col
    · rw [if_pos (by omega), if_pos (by omega)]; rfl
    · rw [if_neg (by omega), if_neg (by omega)]; rfl, fun c x h1 h2 => by
    show (if c * 8 + x = b.W * 8 + col then (1 : Int) else 0) = _
    rw [if_neg (by omega)]⟩)
  have E3 := hide' (E2.out.set (b.W * 8 + col) 1)
  have HW := hide' (And.intro hw1 hw2)
  clear hw1 hw2 s1 hB
  have Wi0 : (0 : Int) ≤ (b.W : Int) := by omega
  have Wi6 : (b.W : Int) < 6 := by omega
  have ci0 : (0 : Int) ≤ (col : Int) := by omega
  have ci8 : (col : Int) < 8 := by omega
  go_enter Tryd.func42, Tryd.ntmps42
  go_upto_region 2 with fail
  rw [HW.out.1, HW.out.2]
  go_upto_region 3 with fail
  obtain ⟨w3, hw3⟩ : ∃ w3, w2.setCell ⟨w.heap.size + 1, b.W * 8 + col, none⟩ (.int .i64 1) = w3 := ⟨_, rfl⟩
  rw [hw3] at E3
  rw [hw3]
  clear hw3 cw cz fz E2
  have cw := (HB.out w3 E3.out.below).wide
  obtain ⟨W', eW⟩ : ∃ v, b.W - 1 = v := ⟨_, rfl⟩
  have EW : (b.W : Int) - 1 = (W' : Int) := by omega
  go_wp2
  clear cw
  go_loopw [8, 9, 10] (fun jv _ _ wr => ∃ (j : Nat) (f : Nat → Int), jv = .int .i64 ((j : Int) - 1) ∧ j ≤ b.W ∧ Hid (EnS b r col f j) ∧ Hid (EnW b g w wr f)) (fun jv _ _ _ => ((intOf jv) + 1).toNat)
  case atStart => exact ⟨b.W, _, by rw [← EW], Nat.le_refl _, I0, E3⟩
  case round =>
    obtain ⟨j, f, rfl, hj, ES, EV⟩ := hrel
    rcases j with _ | c
    · -- all columns are counted
      have ej : ((0 : Nat) : Int) - 1 = -1 := by omega
      rw [ej]
      obtain ⟨A, hA⟩ : ∃ A, (arV 48 fun i => Value.int .i64 (f i)) = A := ⟨_, rfl⟩
      have gr := EV.out.row
      unfold EnB at gr
      rw [hA] at gr
      have gb := EV.out.res
      unfold EnB at gb
      rw [hZ] at gb
      have os : A.size = 48 := by rw [← hA, arV_size]
      have ol : A.all (·.oneCell') = true := by rw [← hA]; exact arV_all (fun k _ => rfl)
      have BB := hide' EV.out.below
      clear EV
      go_wp2_with (first
        | (refine wpList_load_row rfl 98 _ rfl (w.heap.size + 1) rfl 98 A (0, 0) _ gr Tryd.underlying98 rfl (by rw [os]; kernel_rfl) ?_)
        | (refine wpList_store_row rfl 98 _ _ rfl w.heap.size A rfl rfl 98 _ gb (by rw [os]; kernel_rfl) (by rw [os]; exact ZS) ol ?_))
      refine bodyPost_ret (v := .agg A) (results_cell_row Tryd.results42 _ _ w.heap.size 98 _ (0, 0) _ rfl (setRow_heap _ _ _ _ _ _ gb) Tryd.underlying98 rfl (by rw [os]; kernel_rfl)) rfl ?_
      exact ⟨f, ES.out, by rw [hA], belowW_set BB.out (by omega) _⟩
    · have ej : ((c + 1 : Nat) : Int) - 1 = (c : Int) := by omega
      rw [ej]
      have cW : c < b.W := by omega
      have c0 : (0 : Int) ≤ (c : Int) := by omega
      have c5 : (c : Int) < 5 := by omega
      have c6 : (c : Int) < 6 := by omega
      have r0 : (0 : Int) ≤ (r : Int) := by omega
      have r5 : (r : Int) < 5 := by omega
      have cm := (HB.out wr EV.out.below).may (r := r) (c := c) (by omega) (by omega)
      have M16 := MAY.out r c
      have EP := hide' ES.out.begin
      have RS := hide' (RsW.start M16)
      clear ES I0 E3
      go_wp2
      clear cm
      obtain ⟨M, hM⟩ : ∃ M, b.may r c = M := ⟨_, rfl⟩
      rw [hM] at RS M16
      have HM := hide' hM
      try rw [hM]
      clear hM
      obtain ⟨V0, rfl⟩ : ∃ VV, VV = wr := ⟨_, rfl⟩
      go_loopw [9, 10] (fun rv _ wr => ∃ (n rest : Nat) (f : Nat → Int), rv = .int .u64 (rest : Int) ∧ Hid (RsW M n rest) ∧ Hid (EnP b r col f c n) ∧ Hid (EnW b g w wr f)) (fun rv _ _ => (intOf rv).toNat)
      case atStart => exact ⟨0, M, f, rfl, RS, EP, EV⟩
      case round =>
        clear EP RS EV
        obtain ⟨n, rest, f, rfl, RS, EP, EV⟩ := hrel
        have rl := RS.out.2.1
        rcases Nat.eq_zero_or_pos rest with z | z
        · subst z
          have NX := hide' (EP.out.done cW RS.out.1 (by rw [HM.out]; exact RS.out.fin))
          go_wp2
          exact ⟨⟨c, f, by go_num, by omega, NX, EV⟩, by simp [intOf] <;> omega⟩
        · have q1 : ((rest : Int) != 0) = true := by simp; omega
          obtain ⟨t1, t2⟩ := ctz_low z (by omega)
          have TZC := hide' (TZ.out rest wr EV.out.below z rl)
          obtain ⟨k, hk⟩ : ∃ k, Lib.ctz 64 rest = k := ⟨_, rfl⟩
          rw [hk] at t1 t2 TZC
          obtain ⟨nk, k16, mk, mz, RN⟩ := RS.out.step t1 t2
          have RN := hide' RN
          have IC := hide' (INC.out c k wr EV.out.below cW k16)
          have CO := COL.out c k
          obtain ⟨ln, hln⟩ : ∃ v : Nat, (inW b r c k).l = (v : Int) := ⟨(inW b r c k).l.toNat, by omega⟩
          obtain ⟨rn, hrn⟩ : ∃ v : Nat, (inW b r c k).r = (v : Int) := ⟨(inW b r c k).r.toNat, by omega⟩
          have l8 : ln < 8 := by omega
          have r8 : rn < 8 := by omega
          have NP := hide' (EP.out.next cW nk (by rw [HM.out]; exact mk) (by rw [HM.out]; exact mz) hln hrn l8 r8)
          have sm := EP.out.small (k := k) W5 cW RS.out.1 l8 r8
          obtain ⟨q, hq⟩ : ∃ q, inW b r c k = q := ⟨_, rfl⟩
          rw [hq] at IC hln hrn
          rw [hln, hrn] at IC
          clear hq CO hln hrn t1 t2 mk mz hk
          go_wp2_with fail
          refine TZC.out.mono ?_
          rintro e w' ⟨rfl, rfl⟩
          go_wp2_with fail
          refine IC.out.mono ?_
          rintro e w4 ⟨rfl, b4⟩
          have E4 := hide' (EV.out.keep b4)
          clear b4 EV
          obtain ⟨w5, hw5⟩ : ∃ w5, w4.alloc (.cells #[.int .i64 q.u, .int .i64 (rn : Int), .int .i64 q.d, .int .i64 (ln : Int)] 47) = w5 := ⟨_, rfl⟩
          have E5 := hide' (E4.out.keep (V := w5) (by rw [← hw5]; exact (Below.refl _ _).alloc (Nat.le_refl _) _))
          have G5 : w5.heap[w4.heap.size]? = some (.cells #[.int .i64 q.u, .int .i64 (rn : Int), .int .i64 q.d, .int .i64 (ln : Int)] 47 (0, 0)) := by rw [← hw5]; exact heap_alloc_new _ _
          go_upto_region 10 with fail
          try rw [hw5]
          have y1 : w5.cell? ⟨w4.heap.size, 1, none⟩ = some (.int .i64 (rn : Int)) := by rw [cell_of_row w5 _ _ _ _ _ G5]; rfl
          have y3 : w5.cell? ⟨w4.heap.size, 3, none⟩ = some (.int .i64 (ln : Int)) := by rw [cell_of_row w5 _ _ _ _ _ G5]; rfl
          clear hw5 G5
          have e1 := E5.out.row.cell (i := c * 8 + ln) (by omega)
          have e2 := E5.out.row.cell (i := (c + 1) * 8 + rn) (by omega)
          have fz := frozen_of_row w5 _ (c * 8 + ln) _ _ E5.out.row
          obtain ⟨p, hp⟩ : ∃ p, f (c * 8 + ln) = p := ⟨_, rfl⟩
          obtain ⟨u, hu⟩ : ∃ u, f ((c + 1) * 8 + rn) = u := ⟨_, rfl⟩
          rw [hp, hu] at sm NP
          rw [hp] at e1
          rw [hu] at e2
          clear hp hu
          have ln0 : (0 : Int) ≤ (ln : Int) := by omega
          have ln8 : (ln : Int) < 8 := by omega
          have rn0 : (0 : Int) ≤ (rn : Int) := by omega
          have rn8 : (rn : Int) < 8 := by omega
          obtain ⟨cc, hcc⟩ : ∃ cc, c + 1 = cc := ⟨_, rfl⟩
          have ec : (c : Int) + 1 = (cc : Int) := by omega
          have cc0 : (0 : Int) ≤ (cc : Int) := by omega
          have cc6 : (cc : Int) < 6 := by omega
          rw [hcc] at e2
          have wc : IntKind.i64.wrap ((c : Int) + 1) = (cc : Int) := by rw [ec]; simp [IntKind.wrap, IntKind.signed, IntKind.bits]; omega
          have wp : IntKind.i64.wrap (p + u) = p + u := by simp [IntKind.wrap, IntKind.signed, IntKind.bits]; omega
          have E6 := hide' (E5.out.set (c * 8 + ln) (p + u))
          clear sm
          have a1 : bits .and .u64 (rest : Int) ((rest : Int) - 1) = ((rest &&& (rest - 1) : Nat) : Int) := and_u64W z rl
          have dl : rest &&& (rest - 1) < rest := and_pred_lt z
          go_region
          go_wp2
          exact ⟨⟨k + 1, rest &&& (rest - 1), _, rfl, RN, NP, hide' (E6.out.keep (Below.drew (Below.refl _ _)))⟩, by simp [intOf]; omega⟩
end Go.Proofs.YthmeapplnocfjaaDoor

namespace Go.Proofs.YthmeapplnocfjaaDoor
open Go.RowKit
set_option linter.unusedVariables false
set_option linter.unusedSimpArgs false
/-- A look's cells. -/
def lkV (l : LkW) : List Value := [.int .u8 ((l.u.getD 0 0 : Nat) : Int), .int .u8 ((l.u.getD 1 0 : Nat) : Int), .int .u8 ((l.u.getD 2 0 : Nat) : Int), .int .u8 ((l.u.getD 3 0 : Nat) : Int), .int .u8 ((l.u.getD 4 0 : Nat) : Int), .int .u8 ((l.d.getD 0 0 : Nat) : Int), .int .u8 ((l.d.getD 1 0 : Nat) : Int), .int .u8 ((l.d.getD 2 0 : Nat) : Int), .int .u8 ((l.d.getD 3 0 : Nat) : Int), .int .u8 ((l.d.getD 4 0 : Nat) : Int)]
def LkB (V : World) (g : Nat) (l : LkW) : Prop := V.heap[g]? = some (.cells (lkV l).toArray 104 (0, 0))
theorem LkB.below {V V' : World} {g : Nat} {l : LkW} (h : LkB V g l) (k : Below V.heap.size V V') : LkB V' g l := (k.block g (lt_blockT h)).trans h
/-- Both are sides of five. -/
def LenL (l : LkW) : Prop := l.u.length = 5 ∧ l.d.length = 5
theorem LenL.put {l : LkW} (h : LenL l) (c x y : Nat) : LenL (l.put c x y) := ⟨by simp [LkW.put]; exact h.1, by simp [LkW.put]; exact h.2⟩
theorem getD_set (a : List Nat) (c i x : Nat) (h : c < a.length) : (a.set c x).getD i 0 = if i = c then x else a.getD i 0 := by
  by_cases e : i = c
  · subst e; simp [List.getD, h]
  · simp [List.getD, List.getElem?_set, Ne.symm e, e]
theorem lkV_put {l : LkW} (h : LenL l) {c : Nat} (hc : c < 5) (x y : Nat) : (((lkV l).toArray.setIfInBounds c (.int .u8 (x : Int))).setIfInBounds (5 + c) (.int .u8 (y : Int))) = (lkV (l.put c x y)).toArray := by
  have h1 : c < l.u.length := by rw [h.1]; exact hc
  have h2 : c < l.d.length := by rw [h.2]; exact hc
  unfold lkV LkW.put
  simp only [getD_set _ _ _ _ h1, getD_set _ _ _ _ h2]
  match c, hc with
  | 0, _ => rfl
  | 1, _ => rfl
  | 2, _ => rfl
  | 3, _ => rfl
  | 4, _ => rfl
/-- Looks in a row. -/
def flK (ls : List LkW) : List Value := ls.flatMap lkV
theorem flK_append (xs ys : List LkW) : flK (xs ++ ys) = flK xs ++ flK ys := by unfold flK; simp
theorem flK_length : ∀ ls : List LkW, (flK ls).length = ls.length * 10
  | [] => rfl
  | l :: ls => by
    have := flK_length ls
    unfold flK at *
    rw [List.flatMap_cons, List.length_append, this, List.length_cons]
    simp [lkV]
    omega
theorem flK_one (l : LkW) : flK [l] = lkV l := by unfold flK; simp
theorem one_flK (ls : List LkW) : ∀ u ∈ flK ls, u.oneCell' = true := fun u h => by
  unfold flK at h
  rw [List.mem_flatMap] at h
  obtain ⟨l, _, h⟩ := h
  unfold lkV at h
  simp only [List.mem_cons, List.not_mem_nil, or_false] at h
  rcases h with rfl | rfl | rfl | rfl | rfl | rfl | rfl | rfl | rfl | rfl <;> rfl
theorem flT_mono {α : Type} (f : Nat → List α) : ∀ {n m : Nat}, n ≤ m → (flT f n).length ≤ (flT f m).length
  | n, 0, h => by rw [show n = 0 by omega]; exact Nat.le_refl _
  | n, m + 1, h => by
    by_cases e : n = m + 1
    · rw [e]; exact Nat.le_refl _
    · rw [flT, List.length_append]
      have := flT_mono f (n := n) (m := m) (by omega)
      omega
/-- Rows of one's own: what else is kept while one grows from v to v'. -/
structure GrW (w w' : World) (v v' : Value) : Prop where
  gr : w.grownBy w' v.ownBlock
  blk : v'.ownBlock = v.ownBlock ∨ ∃ p, v'.ownBlock = some p ∧ w.heap.size ≤ p
theorem GrW.refl (w : World) (v : Value) : GrW w w v v := ⟨World.grownBy.refl _ _, Or.inl rfl⟩
theorem GrW.of_below {w w' : World} (v : Value) (h : Below w.heap.size w w') : GrW w w' v v := ⟨⟨h.os, h.tape, h.output, h.size, fun k hk _ => h.block k hk⟩, Or.inl rfl⟩
theorem GrW.trans {w w1 w2 : World} {v v1 v2 : Value} (h : GrW w w1 v v1) (k : GrW w1 w2 v1 v2) : GrW w w2 v v2 := by
  refine ⟨⟨k.gr.os.trans h.gr.os, k.gr.tape.trans h.gr.tape, k.gr.output.trans h.gr.output, Nat.le_trans h.gr.size k.gr.size, fun p hp hn => ?_⟩, ?_⟩
  · have : some p ≠ v1.ownBlock := by
      rcases h.blk with e | ⟨q, e, hq⟩
      · rw [e]; exact hn
      · rw [e]; intro e'; cases e'; omega
    rw [k.gr.block p (Nat.lt_of_lt_of_le hp h.gr.size) this, h.gr.block p hp hn]
  · rcases k.blk with e | ⟨q, e, hq⟩
    · rw [e]; exact h.blk
    · exact Or.inr ⟨q, e, Nat.le_trans h.gr.size hq⟩
/-- A block that is none of the row's. -/
theorem GrW.block {w w' : World} {v v' : Value} (h : GrW w w' v v') {p : Nat} (hp : p < w.heap.size) (hn : some p ≠ v.ownBlock) : w'.heap[p]? = w.heap[p]? := h.gr.block p hp hn
theorem GrW.below {w w' : World} {v v' : Value} {B : Nat} (h : GrW w w' v v') (hB : B ≤ w.heap.size) (hv : ∀ k, v.ownBlock = some k → B ≤ k) : Below B w w' :=
  ⟨h.gr.os, h.gr.tape, h.gr.output, h.gr.size, fun p hp => h.gr.block p (by omega) (fun e => by have := hv p e.symm; omega)⟩
/-- A block of another type is none of the row's. -/
theorem own_other {w : World} {B : Nat} {e t : TypeId} {size n : Nat} {v : Value} {xs cs : List Value} {c : Array Value} {fr : Nat × Nat} {p : Nat} (h : w.ownsRow B e size v n xs) (hp : w.heap[p]? = some (.cells c t fr)) (ht : t ≠ e) : some p ≠ v.ownBlock := by
  rcases h.2 with ⟨rfl, _⟩ | ⟨g, cap, cur, rfl, _, hg, _⟩
  · intro q; cases q
  · intro q
    have : p = g := by cases q; rfl
    subst this
    rw [hp] at hg
    cases hg
    exact ht rfl
theorem own_less {w : World} {B : Nat} {e : TypeId} {size n : Nat} {v : Value} {xs : List Value} {p : Nat} (h : w.ownsRow B e size v n xs) (hp : p < B) : some p ≠ v.ownBlock := fun q => by
  have := (h.lt p q.symm).1
  omega
theorem info_lookW : (Tryd.prog.info? 104).map (fun i => (i.zero, i.size, i.bytes)) = some (some (.agg (lkV lkZ).toArray), 10, 10) := by kernel_rfl
/-- What extend answers. -/
def ExO (w : World) (B : Nat) (v : Value) (ls news : List LkW) (e : Ending) (w' : World) : Prop := ∃ oa oc, e = .returned (.slice oa (ls.length + news.length) oc) ∧ Hid (w'.ownsRow B 104 10 (.slice oa (ls.length + news.length) oc) (ls.length + news.length) (flK (ls ++ news))) ∧ Hid (GrW w w' v (.slice oa (ls.length + news.length) oc))
/-- While a row is extended: the box at L, and the row. -/
structure ExS (w V : World) (B : Nat) (v0 v : Value) (ls : List LkW) (l : LkW) : Prop where
  own : V.ownsRow B 104 10 v ls.length (flK ls)
  gr : w.grownBy V v0.ownBlock
  blk : v.ownBlock = v0.ownBlock ∨ ∃ p, v.ownBlock = some p ∧ w.heap.size < p
  old : ∀ p, v0.ownBlock = some p → p < w.heap.size
  box : LkB V w.heap.size l
theorem ExS.ne {w V : World} {B : Nat} {v0 v : Value} {ls : List LkW} {l : LkW} (h : ExS w V B v0 v ls l) : some w.heap.size ≠ v.ownBlock := fun q => by
  rcases h.blk with e | ⟨p, e, hp⟩
  · have := h.old w.heap.size (by rw [← e]; exact q.symm)
    omega
  · rw [e] at q; cases q; omega
/-- What lies there and is none of the row's is kept. -/
theorem ExS.block {w V : World} {B : Nat} {v0 v : Value} {ls : List LkW} {l : LkW} (h : ExS w V B v0 v ls l) {p : Nat} (hp : p < w.heap.size) (hn : some p ≠ v0.ownBlock) : V.heap[p]? = w.heap[p]? := h.gr.block p hp hn
theorem ExS.less {w V : World} {B : Nat} {v0 v : Value} {ls : List LkW} {l : LkW} (h : ExS w V B v0 v ls l) : w.heap.size < V.heap.size := lt_blockT h.box
/-- The row grows. -/
theorem ExS.grow {w V V' : World} {B : Nat} {v0 v v' : Value} {ls ls' : List LkW} {l : LkW} (h : ExS w V B v0 v ls l) (k : GrW V V' v v') (ho : V'.ownsRow B 104 10 v' ls'.length (flK ls')) : ExS w V' B v0 v' ls' l := by
  have hl := h.less
  refine ⟨ho, ⟨k.gr.os.trans h.gr.os, k.gr.tape.trans h.gr.tape, k.gr.output.trans h.gr.output, Nat.le_trans h.gr.size k.gr.size, fun p hp hn => ?_⟩, ?_, h.old, ?_⟩
  · have : some p ≠ v.ownBlock := by
      rcases h.blk with e | ⟨q, e, hq⟩
      · rw [e]; exact hn
      · rw [e]; intro e'; cases e'; omega
    rw [k.gr.block p (by omega) this, h.gr.block p hp hn]
  · rcases k.blk with e | ⟨q, e, hq⟩
    · rw [e]; exact h.blk
    · exact Or.inr ⟨q, e, by omega⟩
  · unfold LkB
    rw [k.gr.block _ hl h.ne]
    exact h.box
/-- Nothing but new memory. -/
theorem ExS.keep {w V V' : World} {B : Nat} {v0 v : Value} {ls : List LkW} {l : LkW} (h : ExS w V B v0 v ls l) (k : Below V.heap.size V V') : ExS w V' B v0 v ls l :=
  h.grow (GrW.of_below v k) (h.own.kept (row := none) ⟨k.os, k.tape, k.output, k.size, fun p hp _ => k.block p hp⟩ (by
    rcases hv : v.ownBlock with _ | q
    · exact Or.inl rfl
    · exact Or.inr (by simp)))
/-- The box is written. -/
theorem ExS.put {w V V' : World} {B : Nat} {v0 v : Value} {ls : List LkW} {l l' : LkW} (h : ExS w V B v0 v ls l) (hb : LkB V' w.heap.size l') (ho : V'.os = V.os ∧ V'.tape = V.tape ∧ V'.output = V.output ∧ V'.heap.size = V.heap.size) (hk : ∀ p, p ≠ w.heap.size → V'.heap[p]? = V.heap[p]?) : ExS w V' B v0 v ls l' := by
  refine ⟨⟨h.own.1, ?_⟩, ⟨ho.1.trans h.gr.os, ho.2.1.trans h.gr.tape, ho.2.2.1.trans h.gr.output, by rw [ho.2.2.2]; exact h.gr.size, fun p hp hn => by rw [hk p (by omega)]; exact h.gr.block p hp hn⟩, h.blk, h.old, hb⟩
  rcases h.own.2 with q | ⟨g, cap, cur, e, h1, h2, h3⟩
  · exact Or.inl q
  · refine Or.inr ⟨g, cap, cur, e, h1, ?_, h3⟩
    rw [hk g ?_]
    · exact h2
    · intro q
      apply h.ne
      rw [e, ← q]
      rfl
/-- It is told to the caller. -/
theorem ExS.out {w V : World} {B : Nat} {v0 v : Value} {ls : List LkW} {l : LkW} (h : ExS w V B v0 v ls l) : GrW w V v0 v := ⟨h.gr, by
  rcases h.blk with e | ⟨p, e, hp⟩
  · exact Or.inl e
  · exact Or.inr ⟨p, e, by omega⟩⟩
end Go.Proofs.YthmeapplnocfjaaDoor

