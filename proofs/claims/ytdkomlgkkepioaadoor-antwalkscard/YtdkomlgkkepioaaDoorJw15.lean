/-
  What the last text of this claim leans on, part 15: Ab8, Ab9, Ac0.
-/
import Derived.Test.YtdkomlgkkepioaaDoorJw8
import Derived.Test.YtdkomlgkkepioaaDoorSortP
import Derived.Test.YtdkomlgkkepioaaDoorJw14
import Derived.Maps.RangeWalk
import Derived.Maps.AppendAt
namespace Go.Proofs.YtdkomlgkkepioaaDoor
open Go.RowKit Go.Shelf Go.Lib Go.Sort
set_option linter.unusedVariables false
def encS (p : SpotT) : List Value := [.int .i64 p.1, .int .i64 p.2.1, .int .i64 p.2.2]
theorem plc_neg (p q : SpotT) : ltOf plcA p q = decide (p.2.1 < q.2.1 ∨ (p.2.1 = q.2.1 ∧ p.1 < q.1)) := by
  unfold ltOf plcA cmpA
  by_cases h : p.2.1 = q.2.1
  · rw [if_pos h]
    by_cases l : p.1 < q.1
    · simp [l, h]
    · by_cases r : q.1 < p.1 <;> simp [l, r, h]
  · rw [if_neg h]
    by_cases l : p.2.1 < q.2.1
    · simp [l]
    · by_cases r : q.2.1 < p.2.1
      · simp [l, r, h]
      · exfalso; omega
theorem swoP : SWO (ltOf plcA) where
  irrefl x := by rw [plc_neg]; simp
  trans x y z h1 h2 := by rw [plc_neg] at *; simp at *; omega
  ntrans x y z h1 h2 := by rw [plc_neg] at *; simp at *; omega
theorem cmpL (blk off size : Nat) (w : World) : CmpLays Tryd.prog 117 #[] encS 3 plcA blk off size w := fun m os dk hs x y => by
  refine (byPlace_any x y _).mono ?_
  rintro e w' ⟨rfl, rfl⟩
  exact ⟨rfl, 0, _, by rw [alloc_eq_grow, alloc_eq_grow, grow_grow]; rfl⟩
theorem flat_at (d : Array SpotT) {k i : Nat} (hk : k < d.size) (hi : i < 3) : (flatK encS 3 d)[k * 3 + i]! = (encS d[k]!)[i]! := by
  rw [get_flatK _ _ _ _ (by omega), show (k * 3 + i) / 3 = k by omega, show (k * 3 + i) % 3 = i by omega]
theorem grown_sort {w : World} {g n : Nat} {os : Array Obj} (d : Array SpotT) : w.grownBy (sortWorldK encS 3 w g 0 n d os) (some g) := by
  unfold sortWorldK putRowK
  refine ⟨rfl, rfl, rfl, by simp, fun k hk hne => ?_⟩
  rw [heap_grow_old _ _ (by simpa using hk)]
  have : g ≠ k := fun e => hne (by rw [e])
  simp [putRow, mapBlock, Sort.ahead, Array.getElem?_modify, this]
/-- Sorted by place: no later one stands ahead. -/
def SortP (ys : List SpotT) : Prop := ∀ i j (hi : i < ys.length) (hj : j < ys.length), i < j → ltOf plcA ys[j] ys[i] = false
theorem sort_spots (blk cap : Nat) (xs : List SpotT) (w : World) (hb : blk < w.heap.size) (hc : ∀ k (h : k < xs.length), w.cell? ⟨blk, k * 3, none⟩ = some (.int .i64 xs[k].1) ∧ w.cell? ⟨blk, k * 3 + 1, none⟩ = some (.int .i64 xs[k].2.1) ∧ w.cell? ⟨blk, k * 3 + 2, none⟩ = some (.int .i64 xs[k].2.2)) (hf : ∀ j, w.frozen? ⟨blk, j, none⟩ = false) (hn : xs.length < 4611686018427387904) :
    Calls Tryd.prog 121 #[.slice (some ⟨blk, 0, none⟩) xs.length cap, .func (.func 117) #[] #[]] w fun e w' => e = .returned (.tuple #[]) ∧ ∃ ys, ys.Perm xs ∧ SortP ys ∧ ArgS w' ys (some ⟨blk, 0, none⟩) xs.length cap ∧ w.grownBy w' (some blk) := by
  have eg : ∀ args w, (callFunc 117 args).run Tryd.prog w = .ok (.enter 117 args) w := enters_of Tryd.func117 (by kernel_rfl) rfl
  obtain ⟨d, hd⟩ : ∃ d : Array SpotT, d = xs.toArray := ⟨_, rfl⟩
  have ds : d.size = xs.length := by rw [hd]; simp
  have dg : ∀ k (h : k < xs.length), d[k]! = xs[k] := fun k h => by rw [hd]; simp [h]
  have hH : HoldsK encS 3 w blk 0 d := fun j hj => by
    rw [size_flatK, ds] at hj
    have hk : j / 3 < xs.length := by omega
    obtain ⟨h0, h1, h2⟩ := hc (j / 3) hk
    refine ⟨?_, hf _⟩
    have e : j = j / 3 * 3 + j % 3 := by omega
    rw [Nat.zero_add]
    show w.cell? ⟨blk, j, none⟩ = some (flatK encS 3 d)[j]!
    rw [e, flat_at d (by omega) (by omega), dg _ hk]
    rcases (by omega : j % 3 = 0 ∨ j % 3 = 1 ∨ j % 3 = 2) with q | q | q <;> rw [q]
    · exact h0
    · exact h1
    · exact h2
  have hcon := AnyQ.slices_SortFunc Tryd.sortSp 3 Tryd.isAgg136 Tryd.sizeOf136 encS (fun _ => rfl) (fun x v hv => by simp [encS] at hv; rcases hv with rfl | rfl | rfl <;> rfl) plcA swoP 117 #[] blk 0 cap d w eg (cmpL blk 0 d.size w) hH hb (by omega)
  change Calls Tryd.prog 121 _ _ _ at hcon
  rw [ds] at hcon
  refine hcon.mono ?_
  rintro e w' ⟨rfl, d', n, os, ⟨ps, -, pp⟩, hs, rfl⟩
  have d's : d'.size = xs.length := by omega
  have HK : HoldsK encS 3 (sortWorldK encS 3 w blk 0 n d' os) blk 0 d' := holdsK_grow encS 3 _ os blk 0 d' (by unfold putRowK; simpa using hb) (holdsK_putRowK encS 3 _ blk 0 d d' (holdsK_ahead encS 3 w n blk 0 d hH) (by omega))
  have g' : ∀ k (h : k < d'.toList.length), d'[k]! = d'.toList[k] := fun k h => by simp at h; simp [h]
  refine ⟨rfl, d'.toList, ?_, fun i j hi hj hij => ?_, ⟨by simp; omega, by omega, fun k hk => ⟨blk, 0, rfl, ?_, ?_, ?_, ?_⟩⟩, grown_sort d'⟩
  · have e1 : d'.extract 0 xs.length = d' := by rw [← d's]; simp
    have e2 : d.extract 0 xs.length = d := by rw [← ds]; simp
    rw [e1, e2, hd] at pp
    simpa using pp
  · have := hs i j (Nat.zero_le _) hij (by simp at hj; omega)
    rw [g' i hi, g' j hj] at this
    exact this
  · exact Nat.lt_of_lt_of_le hb (grown_sort d').size
  · have hk' : k < d'.size := by simpa using hk
    have := (HK (k * 3 + 0) (by rw [size_flatK]; omega)).1
    rw [flat_at d' hk' (by omega), g' k hk] at this
    simpa [encS] using this
  · have hk' : k < d'.size := by simpa using hk
    have := (HK (k * 3 + 1) (by rw [size_flatK]; omega)).1
    rw [flat_at d' hk' (by omega), g' k hk] at this
    simpa [encS] using this
  · have hk' : k < d'.size := by simpa using hk
    have := (HK (k * 3 + 2) (by rw [size_flatK]; omega)).1
    rw [flat_at d' hk' (by omega), g' k hk] at this
    simpa [encS] using this
end Go.Proofs.YtdkomlgkkepioaaDoor

namespace Go.Proofs.YtdkomlgkkepioaaDoor
open Go.RowKit
open Go.Maps (Keyed)
set_option linter.unusedVariables false
theorem info_spot : (Tryd.prog.info? 136).map (fun i => (i.zero, i.size, i.bytes)) = some (some (.agg #[.int .i64 0, .int .i64 0, .int .i64 0]), 3, 24) := by kernel_rfl
theorem invVA (v : Value) (y : DataW Unit × List MemPlace) (h : plainElem Tryd.prog 3 v = some y) : ∃ c : Int, v = (fun c : Int => Value.int .i64 c) c := by
  obtain ⟨a, e, -⟩ := plainElem_int_inv Tryd.underlying3 h
  exact ⟨a, e⟩
theorem new3 (W : World) (a b c : Value) (t : TypeId) : ∀ j u, [a, b, c][j]? = some u → (W.alloc (.cells #[a, b, c] t)).cell? ((⟨W.heap.size, 0, none⟩ : Addr).add j) = some u := by
  intro j u hj
  have hl : j < 3 := by
    rcases Nat.lt_or_ge j 3 with h | h
    · exact h
    · rw [List.getElem?_eq_none (by simpa using h)] at hj; cases hj
  have ea : (⟨W.heap.size, 0, none⟩ : Addr).add j = ⟨W.heap.size, j, none⟩ := by
    unfold Addr.add
    split
    · rename_i hz; subst hz; rfl
    · simp
  rw [ea, cell_of_row _ _ j _ _ _ (heap_alloc_new W _), ← hj]
  simp
def flS (ys : List SpotT) : List Value := ys.flatMap encS
theorem flS_length : ∀ ys : List SpotT, (flS ys).length = ys.length * 3
  | [] => rfl
  | p :: r => by
    have := flS_length r
    unfold flS at *
    simp only [List.flatMap_cons, List.length_append, List.length_cons]
    rw [this]
    show 3 + _ = _
    omega
theorem flS_snoc (ys : List SpotT) (p : SpotT) : flS (ys ++ [p]) = flS ys ++ encS p := by unfold flS; simp
theorem flS_get : ∀ (ys : List SpotT) (k i : Nat) (hk : k < ys.length) (hi : i < 3), (flS ys)[k * 3 + i]? = (encS ys[k])[i]?
  | p :: r, 0, i, hk, hi => by
    unfold flS
    simp only [List.flatMap_cons, Nat.zero_mul, Nat.zero_add, List.getElem_cons_zero]
    rw [List.getElem?_append_left (by show i < 3; exact hi)]
  | p :: r, k + 1, i, hk, hi => by
    have ih := flS_get r k i (by simpa using hk) hi
    unfold flS at *
    simp only [List.flatMap_cons, List.getElem_cons_succ]
    rw [List.getElem?_append_right (by show 3 ≤ (k + 1) * 3 + i; omega), show (k + 1) * 3 + i - (encS p).length = k * 3 + i by show (k + 1) * 3 + i - 3 = _; omega]
    exact ih
/-- What has come of the cells so far. -/
def DoneS (D : DataW Unit) (col : Int → Int → Nat) (left : Lit → Bool) (ys : List SpotT) : Prop :=
  (∀ x y z, (x, y, z) ∈ ys ↔ (inC x ∧ inC y ∧ Maps.has D (kC x y) = true ∧ left (kC x y) = false ∧ z = (col x y : Int))) ∧ ys.Pairwise (fun p q => ¬ (p.1 = q.1 ∧ p.2.1 = q.2.1))
theorem done_start (D : DataW Unit) (col : Int → Int → Nat) : DoneS D col (Maps.has D) [] := ⟨fun x y z => ⟨fun h => absurd h (by simp), fun h => absurd (h.2.2.1.symm.trans h.2.2.2.1) (by simp)⟩, List.Pairwise.nil⟩
theorem done_step {D : DataW Unit} {col : Int → Int → Nat} {left : Lit → Bool} {ys : List SpotT} (h : DoneS D col left ys) {x y : Int} (hx : inC x) (hy : inC y) (hh : Maps.has D (kC x y) = true) (hl : left (kC x y) = true) : DoneS D col (fun z => left z && !z.sameKey (kC x y)) (ys ++ [(x, y, (col x y : Int))]) := by
  have same : ∀ u v, inC u → inC v → ((kC u v).sameKey (kC x y) = true ↔ u = x ∧ v = y) := fun u v hu hv => by
    constructor
    · intro e
      exact kC_inj hu hv hx hy (WideAt.sameKey_eq e)
    · rintro ⟨rfl, rfl⟩
      exact WideAt.sameKey_self trivial
  refine ⟨fun u v z => ?_, ?_⟩
  · rw [List.mem_append, h.1]
    constructor
    · rintro (⟨hu, hv, h1, h2, h3⟩ | hm)
      · exact ⟨hu, hv, h1, by show (left (kC u v) && _) = false; rw [h2]; rfl, h3⟩
      · simp at hm
        obtain ⟨rfl, rfl, rfl⟩ := hm
        exact ⟨hx, hy, hh, by show (left (kC u v) && !(kC u v).sameKey (kC u v)) = false; rw [(same u v hx hy).2 ⟨rfl, rfl⟩]; simp, rfl⟩
    · rintro ⟨hu, hv, h1, h2, h3⟩
      by_cases e : u = x ∧ v = y
      · right
        obtain ⟨rfl, rfl⟩ := e
        rw [h3]; simp
      · left
        refine ⟨hu, hv, h1, ?_, h3⟩
        have : (kC u v).sameKey (kC x y) = false := by
          cases q : (kC u v).sameKey (kC x y)
          · rfl
          · exact absurd ((same u v hu hv).1 q) e
        have h2' : (left (kC u v) && !(kC u v).sameKey (kC x y)) = false := h2
        rw [this] at h2'
        simpa using h2'
  · refine List.pairwise_append.2 ⟨h.2, List.pairwise_singleton _ _, fun p hp q hq => ?_⟩
    simp at hq
    subst hq
    intro e
    obtain ⟨a, b, c⟩ := p
    obtain ⟨e1, e2⟩ := e
    simp only at e1 e2
    subst e1 e2
    have := (h.1 a b c).1 hp
    rw [hl] at this
    cases this.2.2.2.1
/-- Spots that come out. -/
def SpotsOut (col : Int → Int → Nat) (ys : List SpotT) : Prop := SortP ys ∧ (∀ x y z, (x, y, z) ∈ ys ↔ (inC x ∧ inC y ∧ col x y ≠ 0 ∧ z = (col x y : Int))) ∧ ys.Pairwise (fun p q => ¬ (p.1 = q.1 ∧ p.2.1 = q.2.1)) ∧ (∀ x y, ¬ (inC x ∧ inC y) → col x y = 0)
set_option maxRecDepth 100000 in
set_option maxHeartbeats 12800000 in
theorem spots_anyA (kb tb mb n L : Nat) (t : Nat → Bool) (s : AntS) (w : World) (h : WK w kb tb mb n L t s) (hn : n ≤ 5000000000000) :
    Calls Tryd.prog 70 #[.pointer (some ⟨kb, 0, none⟩)] w fun e w' => ∃ ys g c, e = .returned (.slice (some ⟨g, 0, none⟩) ys.length c) ∧ ArgS w' ys (some ⟨g, 0, none⟩) ys.length c ∧ SpotsOut s.col ys ∧ (ys.length ≤ n ∧ w.heap.size ≤ g) ∧ Below w.heap.size w w' := by
  obtain ⟨D, hm, hc⟩ := h.mp
  obtain ⟨ra, ia, rd, id, hb, -⟩ := h.bl.blk
  have lk := h.lt.1
  obtain ⟨N, hN⟩ : ∃ N, Maps.size D = N := ⟨_, rfl⟩
  have Nn : N ≤ n := by rw [← hN]; exact hm.size_le
  obtain ⟨i0, hi0, hz⟩ := Option.map_eq_some_iff.1 info_spot
  simp only [Prod.mk.injEq] at hz
  obtain ⟨hz0, hz1, hz2⟩ := hz
  have HMK := fun V => run_make (P := Tryd.prog) V 48 136 i0 _ Tryd.underlying48 hi0 hz0 .i64 .i64 0 (N : Int) (by omega) (by omega) (by rw [hz2]; omega) (by omega)
  simp only [hz1, Int.toNat_natCast, Int.toNat_zero] at HMK
  have hlen := fun ty => hm.len (t := 211) Tryd.underlying211 ty
  rw [hN] at hlen
  have c1 := cell_of_row w _ 1 _ _ _ hb
  unfold wkV at c1
  simp at c1
  obtain ⟨w1, hw1⟩ : ∃ w1, w.alloc (.cells (madeCells #[.int .i64 0, .int .i64 0, .int .i64 0] (N * 3)) 136) = w1 := ⟨_, rfl⟩
  have B1 := hide' (show Below w.heap.size w w1 by rw [← hw1]; exact (Below.refl _ _).alloc (Nat.le_refl _) _)
  have z1 : w1.heap.size = w.heap.size + 1 := by rw [← hw1]; simp
  have d1 := cell_of_row w1 _ 1 _ _ _ ((B1.out.block kb lk).trans hb)
  unfold wkV at d1
  simp at d1
  have O1 := hide' (show w1.ownsRow w.heap.size 136 3 (.slice (some ⟨w.heap.size, 0, none⟩) 0 N) 0 [] from by rw [← hw1]; exact World.ownsRow_made w _ N (Nat.le_refl _) (by unfold maxLen; omega) (by unfold madeCells; simp))
  have hm1 : w1.ownsMap Tryd.prog 216 (plainElem Tryd.prog 3) mb n D := by rw [← hw1]; exact hm.alloc _
  have ML := hm.lt
  clear hb h hm
  go_enter Tryd.func70, Tryd.ntmps70
  go_upto_region 2 with fail
  try rw [hw1]
  clear hw1 c1 hlen HMK
  go_wp2_with (first
    | (at_range; refine wpList_range_own _ rfl _ 211 rfl 216 3 lawC Tryd.underlying211 _ mb n _ rfl hm1 ?_; intro w2 hrg2 hg2 hs2)
    | go_in)
  go_frame
  rw [z1] at hrg2 hs2 ⊢
  have SZ := hide' hN
  have HCO := hide' hc
  have B2 := hide' (show Below w.heap.size w w2 from B1.out.grown hg2 B1.out.size (fun j hj => by cases hj))
  have O2 := hide' (O1.out.kept hg2 (Or.inr (by simp [Value.ownBlock])))
  clear d1 hm1 hg2 hN hc
  go_loopw [3] (fun ov wr => ∃ (left : Lit → Bool) (cnt : Nat) (ys : List SpotT) (g cap : Nat), ov = .slice (some ⟨g, 0, none⟩) ys.length cap ∧ wr.ranges Tryd.prog 216 (plainElem Tryd.prog 3) mb (w.heap.size + 1) n D left cnt ∧ ys.length + cnt ≤ N ∧ Hid (wr.ownsRow w.heap.size 136 3 (.slice (some ⟨g, 0, none⟩) ys.length cap) ys.length (flS ys)) ∧ Hid (DoneS D s.col left ys) ∧ Hid (Below w.heap.size w wr) ∧ w.heap.size + 2 ≤ wr.heap.size)
    (fun _ wr => wr.rangeLeft mb (w.heap.size + 1))
  case atStart =>
    exact ⟨_, _, [], w.heap.size, N, rfl, hrg2, by rw [SZ.out]; simp, O2, hide' (done_start D s.col), B2, by omega⟩
  case round =>
    obtain ⟨left, cnt, ys, g, cap, rfl, hrg, hcn, OW, DN, BW, hws⟩ := hrel
    go_wp2_with (first
      | (at_next; go_loud (refine wpList_next_ranges _ rfl _ rfl 216 lawC (plainElem Tryd.prog 3) (fun v : Value => v) (fun c : Int => .int .i64 c) (fun key kl _ => ⟨key, rfl⟩) invVA mb (w.heap.size + 1) n _ _ _ rfl hrg ?_ ?_))
      | go_in)
    · intro hc0 hl0
      obtain ⟨-, o1⟩ := OW.out
      have o2 : ∃ cur, w.heap.size ≤ g ∧ wr.heap[g]? = some (.cells cur 136 (0, 0)) ∧ cur.toList.take (ys.length * 3) = flS ys := by
        rcases o1 with ⟨e, -⟩ | ⟨g', cap', cur, e, h1, h2, -, -, -, h3⟩
        · cases e
        · cases e; exact ⟨cur, h1, h2, h3⟩
      obtain ⟨cur, h1, h2, h3⟩ := o2
      have cl : ∀ k i (hk : k < ys.length) (hi : i < 3), wr.cell? ⟨g, k * 3 + i, none⟩ = (encS ys[k])[i]? := fun k i hk hi => by
        rw [cell_of_row wr _ _ _ _ _ h2, ← flS_get ys k i hk hi, ← h3, List.getElem?_take_of_lt (by omega), Array.getElem?_toList]
      have SO := hide' (sort_spots g cap ys wr (lt_of_block h2) (fun k hk => ⟨cl k 0 hk (by omega), cl k 1 hk (by omega), cl k 2 hk (by omega)⟩) (fun j => frozen_of_row wr _ j _ _ h2) (by omega))
      have FO := hide' (show ∀ x y z, (x, y, z) ∈ ys ↔ (inC x ∧ inC y ∧ s.col x y ≠ 0 ∧ z = (s.col x y : Int)) from fun x y z => by
        rw [DN.out.1]
        constructor
        · rintro ⟨hx, hy, h1, -, h3⟩
          rw [HCO.out.has x y hx hy] at h1
          exact ⟨hx, hy, by simpa using h1, h3⟩
        · rintro ⟨hx, hy, h1, h3⟩
          exact ⟨hx, hy, by rw [HCO.out.has x y hx hy]; simpa using h1, hl0 _, h3⟩)
      have GE := hide' h1
      clear o1 h1 h2 h3 cl
      go_wp2_with fail
      refine SO.out.mono ?_
      rintro e w9 ⟨rfl, zs, pz, sz, az, gz⟩
      have zl : zs.length = ys.length := pz.length_eq
      have FIN := hide' (show ArgS w9 zs (some ⟨g, 0, none⟩) zs.length cap ∧ SpotsOut s.col zs ∧ (zs.length ≤ n ∧ w.heap.size ≤ g) ∧ Below w.heap.size w w9 from by
        refine ⟨by rw [zl]; exact az, ⟨sz, fun x y z => ?_, ?_, HCO.out.out⟩, ⟨by omega, GE.out⟩, BW.out.grown gz BW.out.size (fun j hj => by cases hj; exact GE.out)⟩
        · rw [pz.mem_iff]; exact FO.out x y z
        · exact (pz.pairwise_iff (fun {p q} (hh : ¬ (p.1 = q.1 ∧ p.2.1 = q.2.1)) => fun e => hh ⟨e.1.symm, e.2.symm⟩)).2 DN.out.2)
      have ZL := hide' zl
      clear pz sz az gz zl
      go_wp2
      go_ret
      exact ⟨zs, g, cap, by rw [ZL.out]; rfl, FIN.out⟩
    · intro key c kl yd yp w3 cnt3 hkey hlk hR hat hrg3 hlt hg3 hs3 hen
      have hh : Maps.has D kl = true := Maps.has_true_of_atKey hat
      obtain ⟨u, v, hu, hv, rfl⟩ := HCO.out.keys kl hh
      have ek : key = .agg #[.int .i64 u, .int .i64 v] := lawC.inj hkey (key_cell hu hv)
      subst ek
      obtain ⟨c', e1, e2, e3⟩ := plainElem_int_inv Tryd.underlying3 hR
      have ec : c = (s.col u v : Int) := by
        have h1 := hat (.lit (.int .i64 0))
        have e2 := (Prod.mk.inj e2).1
        rw [HCO.out.at' u v hu hv, e2] at h1
        injection h1 with h1
        injection h1 with _ h1
        injection e1 with _ e1
        omega
      subst ec
      obtain ⟨q, hq⟩ : ∃ q, s.col u v = q := ⟨_, rfl⟩
      have NK := hide' (show DoneS D s.col (fun z => left z && !z.sameKey (kC u v)) (ys ++ [(u, v, (q : Int))]) from by rw [← hq]; exact done_step DN.out hu hv hh hlk)
      rw [hq] at hen ⊢
      have og : some g ≠ some (w.heap.size + 1) := fun e => by
        have e' : g = w.heap.size + 1 := Option.some.inj e
        obtain ⟨-, o1⟩ := OW.out
        rcases o1 with ⟨e1, -⟩ | ⟨g', cap', cur, e1, -, h2, -⟩
        · cases e1
        · cases e1
          obtain ⟨es, clock, since, seen, c0, -, -, -, -, hr, -⟩ := hrg
          rw [e', hr] at h2
          cases h2
      have O3 := hide' (OW.out.kept hg3 (Or.inr og))
      have gm : g ≠ mb := fun e => by
        have := (OW.out.lt g rfl).1
        omega
      have hz3 : i0.size = 3 := hz1
      have hz4 : i0.bytes = 24 := hz2
      have B3 := hide' (show Below w.heap.size w w3 from BW.out.grown hg3 BW.out.size (fun j hj => by cases hj; omega))
      have len2 := flS_length ys
      have HS3 := hide' hs3
      have ws3 : w.heap.size + 2 ≤ w3.heap.size := by omega
      clear hs3
      have v0 : (w3.alloc (.cells #[.int .i64 u, .int .i64 v] 216)).cell? ⟨w3.heap.size, 0, none⟩ = some (.int .i64 u) := cell_of_row _ _ 0 _ _ _ (heap_alloc_new _ _)
      have v1 : (w3.alloc (.cells #[.int .i64 u, .int .i64 v] 216)).cell? ⟨w3.heap.size, 1, none⟩ = some (.int .i64 v) := cell_of_row _ _ 1 _ _ _ (heap_alloc_new _ _)
      have NW : ∀ j z, (encS (u, v, (q : Int)))[j]? = some z → ((w3.alloc (.cells #[.int .i64 u, .int .i64 v] 216)).alloc (.cells #[.int .i64 u, .int .i64 v, .int .i64 (q : Int)] 136)).cell? ((⟨w3.heap.size + 1, 0, none⟩ : Addr).add j) = some z := by
        have := new3 (w3.alloc (.cells #[.int .i64 u, .int .i64 v] 216)) (.int .i64 u) (.int .i64 v) (.int .i64 (q : Int)) 136
        simp only [World.size_alloc] at this
        exact this
      go_wp2_with (first
        | (at_builtin; go_loud (refine wpList_append_own_at _ rfl _ _ 48 rfl w.heap.size 136 i0 _ 3 24 Tryd.underlying48 hi0 hz0 hz3 hz4 rfl (by decide) _ ys.length (flS ys) rfl ((O3.out.alloc _).alloc _) ⟨w3.heap.size + 1, 0, none⟩ 1 1 (encS (u, v, (q : Int))) rfl rfl NW (fun z hzz => by simp [encS] at hzz; rcases hzz with rfl | rfl | rfl <;> rfl) (by unfold maxLen; omega) (by omega) (by simp; omega) ?_; intro v' w6 ho6 hg6 hn6 hl6; go_frame))
        | go_in)
      have e6 : ∃ g6 cap6, v' = .slice (some ⟨g6, 0, none⟩) (ys.length + 1) cap6 := by
        rcases ho6.2 with ⟨-, e⟩ | ⟨g6, cap6, cur6, e, -⟩
        · omega
        · exact ⟨g6, cap6, e⟩
      obtain ⟨g6, cap6, rfl⟩ := e6
      have hg6' : ((w3.alloc (.cells #[.int .i64 u, .int .i64 v] 216)).alloc (.cells #[.int .i64 u, .int .i64 v, .int .i64 (q : Int)] 136)).grownBy w6 (some g) := hg6
      have hrg6 := ((hrg3.alloc (.cells #[.int .i64 u, .int .i64 v] 216)).alloc (.cells #[.int .i64 u, .int .i64 v, .int .i64 (q : Int)] 136)).kept hg6' (fun e => gm (Option.some.inj e).symm) (fun e => og e.symm)
      have z6 := hg6'.size
      simp only [World.size_alloc] at z6
      have gl := (OW.out.lt g rfl).1
      have B6 : Below w.heap.size w w6 := ((B3.out.alloc (by omega) (.cells #[.int .i64 u, .int .i64 v] 216)).alloc (by simp only [World.size_alloc]; omega) (.cells #[.int .i64 u, .int .i64 v, .int .i64 (q : Int)] 136)).grown hg6' (by simp only [World.size_alloc]; omega) (fun j hj => by cases hj; exact gl)
      refine ⟨⟨_, cnt3, ys ++ [(u, v, (q : Int))], g6, cap6, by simp, hrg6, by simp; omega, hide' ?_, NK, hide' B6, by omega⟩, ?_⟩
      · rw [flS_snoc, List.length_append]
        exact ho6
      · rw [hrg6.left_eq, hrg.left_eq]; exact hlt
end Go.Proofs.YtdkomlgkkepioaaDoor

namespace Go.Proofs.YtdkomlgkkepioaaDoor
open Go.RowKit Go.Shelf Go.Lib Go.Sort
set_option linter.unusedVariables false
theorem near_iff {x y : Int} (h : nearA x y = true) : -1000000 ≤ x ∧ x ≤ 1000000 ∧ -1000000 ≤ y ∧ y ≤ 1000000 := by
  unfold nearA at h
  simp at h
  omega
def pnS (p : SpotT) : Int := (p.2.1 + 1000000) * 2000001 + (p.1 + 1000000)
theorem spot_near {L : Int} {xs : List SpotT} (h : spotE L xs = 0) {k : Nat} (hk : k < xs.length) : -1000000 ≤ xs[k].1 ∧ xs[k].1 ≤ 1000000 ∧ -1000000 ≤ xs[k].2.1 ∧ xs[k].2.1 ≤ 1000000 := by
  have ha : xs.all (spotB L) = true := by
    unfold spotE at h
    by_cases q : xs.all (spotB L) = true
    · exact q
    · rw [if_neg q] at h; cases h
  have := List.all_eq_true.1 ha xs[k] (List.getElem_mem hk)
  unfold spotB at this
  simp at this
  exact near_iff this.1.1
theorem spot_ris {L : Int} {xs : List SpotT} (h : spotE L xs = 0) {k : Nat} (hk : k + 1 < xs.length) : ltOf plcA xs[k] xs[k + 1] = true := by
  have hr : risB xs = true := by
    unfold spotE at h
    by_cases q : xs.all (spotB L) = true
    · rw [if_pos q] at h
      by_cases r : risB xs = true
      · exact r
      · rw [if_neg r] at h; cases h
    · rw [if_neg q] at h; cases h
  have := List.all_eq_true.1 hr k (List.mem_range.2 (by omega))
  rw [getD_at (show k < xs.length by omega), getD_at hk] at this
  exact this
theorem spots_few {L : Int} {xs : List SpotT} (h : spotE L xs = 0) : xs.length ≤ 4000004000001 := by
  have key : ∀ k (hk : k < xs.length), (k : Int) ≤ pnS xs[k] := by
    intro k
    induction k with
    | zero =>
      intro hk
      obtain ⟨h1, h2, h3, h4⟩ := spot_near h hk
      unfold pnS
      have : 0 ≤ (xs[0].2.1 + 1000000) * 2000001 := Int.mul_nonneg (by omega) (by omega)
      omega
    | succ k ih =>
      intro hk
      have i1 := ih (by omega)
      have lt := spot_ris h hk
      rw [plc_neg] at lt
      obtain ⟨h1, h2, h3, h4⟩ := spot_near h (show k < xs.length by omega)
      obtain ⟨g1, g2, g3, g4⟩ := spot_near h hk
      simp at lt
      unfold pnS at *
      push_cast
      omega
  rcases Nat.eq_zero_or_pos xs.length with e | e
  · omega
  · have h1 := key (xs.length - 1) (by omega)
    obtain ⟨g1, g2, g3, g4⟩ := spot_near h (show xs.length - 1 < xs.length by omega)
    unfold pnS at h1
    omega
theorem runA_near (T : Nat → Bool) (L : Nat) (s : AntS) (h : -1000000 ≤ s.x ∧ s.x ≤ 1000000 ∧ -1000000 ≤ s.y ∧ s.y ≤ 1000000) : ∀ i : Nat, -1000000 - (i : Int) ≤ (runA T L s i).x ∧ (runA T L s i).x ≤ 1000000 + (i : Int) ∧ -1000000 - (i : Int) ≤ (runA T L s i).y ∧ (runA T L s i).y ≤ 1000000 + (i : Int)
  | 0 => by show _ ≤ s.x ∧ s.x ≤ _ ∧ _ ≤ s.y ∧ s.y ≤ _; simpa using h
  | i + 1 => by
    have ih := runA_near T L s h i
    have dx := dx_near (trnA T ((runA T L s i).col (runA T L s i).x (runA T L s i).y) (runA T L s i).d)
    have dy := dy_near (trnA T ((runA T L s i).col (runA T L s i).x (runA T L s i).y) (runA T L s i).d)
    rw [runA]
    unfold stepA'
    simp only
    push_cast
    omega
end Go.Proofs.YtdkomlgkkepioaaDoor

