/-
  What the last text of this claim leans on, part 11: Rw4.
-/
import Derived.Test.YtpppmollmiomlaaDoorZu9
import Derived.Test.YtpppmollmiomlaaDoorZu10
namespace Go.Proofs.YtpppmollmiomlaaDoor
open Go.RowKit
set_option linter.unusedVariables false
set_option linter.unusedSimpArgs false
theorem own_mono {w : World} {B B' : Nat} {v : Value} {n size : Nat} {xs : List Value} {e : TypeId} (h : w.ownsRow B e size v n xs) (hB : B' ≤ B) : w.ownsRow B' e size v n xs := by
  refine ⟨h.1, ?_⟩
  rcases h.2 with h | ⟨g, cap, cur, e1, e2, e3⟩
  · exact Or.inl h
  · exact Or.inr ⟨g, cap, cur, e1, Nat.le_trans hB e2, e3⟩
/-- A board as it lies: its sink, the ways, the signs, how many went. -/
structure BdR (V : World) (pb B P s wb sb sc tb : Nat) (v : Nat → Value) (L : Nat → List Int) (sg wt : List Int) : Prop where
  box : V.heap[pb]? = some (.cells #[.int .i64 (s : Int), .slice (some ⟨wb, 0, none⟩) P P, .slice (some ⟨sb, 0, none⟩) P sc, .slice (some ⟨tb, 0, none⟩) P P] 56 (0, 0))
  wy : WyA V wb B P v L
  sgs : V.ownsRow B 3 1 (.slice (some ⟨sb, 0, none⟩) P sc) P (sg.map (Value.int .i64))
  wts : V.ownsRow B 3 1 (.slice (some ⟨tb, 0, none⟩) P P) P (wt.map (Value.int .i64))
  ne : sb ≠ tb
  ns : ∀ k, k < P → (v k).ownBlock ≠ some sb
  nt : ∀ k, k < P → (v k).ownBlock ≠ some tb
  base : B ≤ pb
/-- What stands while it is made. -/
structure LyR (pvl : List (Option Value)) (W : World) (P s : Nat) (xs : List EgT) (sg : List Int) (L : Nat → Bool) (vals : Nat → Value) (w : World) : Prop where
  pure : ∀ i u, pvl[i]? = some (some u) → L i = true → vals i = u
  bl : Below W.heap.size W w
  ex : ∃ (wb sb sc tb : Nat) (v : Nat → Value), (L 2 = true → vals 2 = .slice (some ⟨wb, 0, none⟩) P P ∧ WyA w wb W.heap.size P v (wyO xs)) ∧
    (L 4 = true → vals 4 = .slice (some ⟨sb, 0, none⟩) P sc ∧ w.ownsRow W.heap.size 3 1 (.slice (some ⟨sb, 0, none⟩) P sc) P (sg.map (Value.int .i64))) ∧
    (L 7 = true → vals 7 = .slice (some ⟨tb, 0, none⟩) P P ∧ w.ownsRow W.heap.size 3 1 (.slice (some ⟨tb, 0, none⟩) P P) P ((List.replicate P (0 : Int)).map (Value.int .i64))) ∧
    (L 4 = true → L 7 = true → sb ≠ tb) ∧ (L 2 = true → L 4 = true → ∀ k, k < P → (v k).ownBlock ≠ some sb) ∧ (L 2 = true → L 7 = true → ∀ k, k < P → (v k).ownBlock ≠ some tb) ∧
    (L 8 = true → vals 8 = .agg #[.int .i64 (s : Int), .slice (some ⟨wb, 0, none⟩) P P, .slice (some ⟨sb, 0, none⟩) P sc, .slice (some ⟨tb, 0, none⟩) P P]) ∧
    (L 9 = true → ∃ pb, vals 9 = .pointer (some ⟨pb, 0, none⟩) ∧ w.heap[pb]? = some (.cells #[.int .i64 (s : Int), .slice (some ⟨wb, 0, none⟩) P P, .slice (some ⟨sb, 0, none⟩) P sc, .slice (some ⟨tb, 0, none⟩) P P] 56 (0, 0)) ∧ W.heap.size ≤ pb ∧ (L 10 = true → vals 10 = vals 9))
theorem LyR.cong {pvl : List (Option Value)} {W : World} {P s : Nat} {xs : List EgT} {sg : List Int} {L L' : Nat → Bool} {vals : Nat → Value} {w : World} (hl : pvl.length = 11) (e : ∀ i, i < 11 → L i = L' i) (h : LyR pvl W P s xs sg L vals w) : LyR pvl W P s xs sg L' vals w := by
  refine ⟨fun i u hi hL => h.pure i u hi (by rw [e i (by have := (List.getElem?_eq_some_iff.1 hi).1; omega)]; exact hL), h.bl, ?_⟩
  rw [← e 2 (by omega), ← e 4 (by omega), ← e 7 (by omega), ← e 8 (by omega), ← e 9 (by omega), ← e 10 (by omega)]
  exact h.ex
theorem LyR.start (pvl : List (Option Value)) (W : World) (P s : Nat) (xs : List EgT) (sg : List Int) (vals : Nat → Value) : LyR pvl W P s xs sg (fun _ => false) vals W :=
  ⟨fun i u _ h => (by cases h), Below.refl _ _, 0, 0, 0, 0, fun _ => undef, fun h => (by cases h), fun h => (by cases h), fun h => (by cases h), fun h => (by cases h), fun h => (by cases h), fun h => (by cases h), fun h => (by cases h), fun h => (by cases h)⟩
theorem own_next {w w' : World} {B : Nat} {v : Value} {n : Nat} {xs : List Value} {e : TypeId} (h : w.ownsRow B e 1 v n xs) (b : Below w.heap.size w w') : w'.ownsRow B e 1 v n xs :=
  h.kept (row := none) ⟨b.os, b.tape, b.output, b.size, fun k hk _ => b.block k hk⟩ (by cases v.ownBlock <;> simp)
theorem LyR.pure_step {pvl : List (Option Value)} {W : World} {P s : Nat} {xs : List EgT} {sg : List Int} {L : Nat → Bool} {vals : Nat → Value} {w : World} (h : LyR pvl W P s xs sg L vals w) (i : Nat) (u : Value) (hu : pvl[i]? = some (some u)) (n2 : 2 ≠ i) (n4 : 4 ≠ i) (n7 : 7 ≠ i) (n8 : 8 ≠ i) (n9 : 9 ≠ i) (n10 : 10 ≠ i) :
    LyR pvl W P s xs sg (fun j => if j = i then true else L j) (fun j => if j = i then u else vals j) w := by
  refine ⟨fun j z hj hL => ?_, h.bl, ?_⟩
  · by_cases e : j = i
    · rw [if_pos e]; rw [e, hu] at hj; simpa using hj
    · rw [if_neg e] at hL ⊢; exact h.pure j z hj hL
  · rw [if_neg n2, if_neg n4, if_neg n7, if_neg n8, if_neg n9, if_neg n10, if_neg n2, if_neg n4, if_neg n7, if_neg n8, if_neg n9, if_neg n10]
    exact h.ex
theorem pure_other {pvl : List (Option Value)} {L : Nat → Bool} {vals : Nat → Value} (h : ∀ i u, pvl[i]? = some (some u) → L i = true → vals i = u) (k : Nat) (v : Value) (hk : pvl[k]? = some none) : ∀ i u, pvl[i]? = some (some u) → (if i = k then true else L i) = true → (if i = k then v else vals i) = u := fun i u hi hL => by
  by_cases e : i = k
  · rw [e, hk] at hi; simp at hi
  · rw [if_neg e] at hL ⊢; exact h i u hi hL
theorem LyR.deal {pvl : List (Option Value)} {W : World} {P s : Nat} {xs : List EgT} {sg : List Int} {L : Nat → Bool} {vals : Nat → Value} {w w' : World} (h : LyR pvl W P s xs sg L vals w) (hp : pvl[2]? = some none) (l8 : L 8 = false) (l9 : L 9 = false) {wb : Nat} {v : Nat → Value} (hy : WyA w' wb w.heap.size P v (wyO xs)) (b : Below w.heap.size w w') :
    LyR pvl W P s xs sg (fun j => if j = 2 then true else L j) (fun j => if j = 2 then .slice (some ⟨wb, 0, none⟩) P P else vals j) w' := by
  obtain ⟨wb0, sb, sc, tb, v0, h2, h4, h7, hst, hvs, hvt, h8, h9⟩ := h.ex
  have old : ∀ {x n c : Nat} {l : List Value}, w.ownsRow W.heap.size 3 1 (.slice (some ⟨x, 0, none⟩) n c) n l → ∀ k, k < P → (v k).ownBlock ≠ some x := fun ho k hk e => by
    have a1 := ((hy.own k hk).lt _ e).1
    have a2 := (ho.lt _ rfl).2
    simp at a2
    omega
  refine ⟨pure_other h.pure 2 _ hp, h.bl.trans (b.mono h.bl.size), wb, sb, sc, tb, v, fun _ => ⟨rfl, ?_⟩, fun q => ?_, fun q => ?_, fun q q' => hst q q', fun _ q => ?_, fun _ q => ?_, fun q => ?_, fun q => ?_⟩
  · exact ⟨hy.blk, fun k hk => own_mono (hy.own k hk) h.bl.size, hy.apart, Nat.le_trans h.bl.size hy.base⟩
  · exact ⟨(h4 q).1, own_next (h4 q).2 b⟩
  · exact ⟨(h7 q).1, own_next (h7 q).2 b⟩
  · exact old (h4 q).2
  · exact old (h7 q).2
  · simp [l8] at q
  · simp [l9] at q
theorem LyR.clone {pvl : List (Option Value)} {W : World} {P s : Nat} {xs : List EgT} {sg : List Int} {L : Nat → Bool} {vals : Nat → Value} {w w' : World} (h : LyR pvl W P s xs sg L vals w) (hp : pvl[4]? = some none) (l8 : L 8 = false) (l9 : L 9 = false) {g q : Nat} (ho : w'.ownsRow w.heap.size 3 1 (.slice (some ⟨g, 0, none⟩) P q) P (sg.map (Value.int .i64))) (hg : w.heap.size ≤ g) (b : Below w.heap.size w w') :
    LyR pvl W P s xs sg (fun j => if j = 4 then true else L j) (fun j => if j = 4 then .slice (some ⟨g, 0, none⟩) P q else vals j) w' := by
  obtain ⟨wb0, sb, sc, tb, v0, h2, h4, h7, hst, hvs, hvt, h8, h9⟩ := h.ex
  refine ⟨pure_other h.pure 4 _ hp, h.bl.trans (b.mono h.bl.size), wb0, g, q, tb, v0, fun r => ?_, fun _ => ⟨rfl, own_mono ho h.bl.size⟩, fun r => ?_, fun _ r => ?_, fun r _ => ?_, fun r r' => hvt r r', fun r => ?_, fun r => ?_⟩
  · exact ⟨(h2 r).1, (h2 r).2.keep b⟩
  · exact ⟨(h7 r).1, own_next (h7 r).2 b⟩
  · have a2 := ((h7 r).2.lt _ rfl).2
    simp at a2
    omega
  · intro k hk e
    have a2 := (((h2 r).2.own k hk).lt _ e).2
    omega
  · simp [l8] at r
  · simp [l9] at r
theorem LyR.make {pvl : List (Option Value)} {W : World} {P s : Nat} {xs : List EgT} {sg : List Int} {L : Nat → Bool} {vals : Nat → Value} {w : World} (h : LyR pvl W P s xs sg L vals w) (hp : pvl[7]? = some none) (l8 : L 8 = false) (l9 : L 9 = false) (p10 : P ≤ 10) :
    LyR pvl W P s xs sg (fun j => if j = 7 then true else L j) (fun j => if j = 7 then .slice (some ⟨w.heap.size, 0, none⟩) P P else vals j) (w.alloc (.cells (arrS P fun _ => .int .i64 0) 3)) := by
  obtain ⟨wb0, sb, sc, tb, v0, h2, h4, h7, hst, hvs, hvt, h8, h9⟩ := h.ex
  have b : Below w.heap.size w (w.alloc (.cells (arrS P fun _ => .int .i64 0) 3)) := (Below.refl _ _).alloc (Nat.le_refl _) _
  refine ⟨pure_other h.pure 7 _ hp, h.bl.trans (b.mono h.bl.size), wb0, sb, sc, w.heap.size, v0, fun r => ?_, fun r => ?_, fun _ => ⟨rfl, ?_⟩, fun r _ => ?_, fun r r' => hvs r r', fun r _ => ?_, fun r => ?_, fun r => ?_⟩
  · exact ⟨(h2 r).1, (h2 r).2.keep b⟩
  · exact ⟨(h4 r).1, own_next (h4 r).2 b⟩
  · have := World.ownsRow_lit (e := 3) (size := 1) (base := W.heap.size) w (arrS P fun _ => .int .i64 0) P h.bl.size (by unfold maxLen; omega) (by simp [arrS])
    rw [show (arrS P fun _ => Value.int .i64 0).toList = (List.replicate P (0 : Int)).map (Value.int .i64) by simp [arrS, List.map_const']] at this
    exact this
  · have a2 := ((h4 r).2.lt _ rfl).2
    simp at a2
    omega
  · intro k hk e
    have a2 := (((h2 r).2.own k hk).lt _ e).2
    omega
  · simp [l8] at r
  · simp [l9] at r
theorem LyR.build {pvl : List (Option Value)} {W : World} {P s : Nat} {xs : List EgT} {sg : List Int} {L : Nat → Bool} {vals : Nat → Value} {w : World} (h : LyR pvl W P s xs sg L vals w) (hp : pvl[8]? = some none) (l9 : L 9 = false) (l2 : L 2 = true) (l4 : L 4 = true) (l7 : L 7 = true) :
    ∃ wb sb sc tb, vals 2 = .slice (some ⟨wb, 0, none⟩) P P ∧ vals 4 = .slice (some ⟨sb, 0, none⟩) P sc ∧ vals 7 = .slice (some ⟨tb, 0, none⟩) P P ∧ LyR pvl W P s xs sg (fun j => if j = 8 then true else L j) (fun j => if j = 8 then .agg #[.int .i64 (s : Int), .slice (some ⟨wb, 0, none⟩) P P, .slice (some ⟨sb, 0, none⟩) P sc, .slice (some ⟨tb, 0, none⟩) P P] else vals j) w := by
  obtain ⟨wb, sb, sc, tb, v0, h2, h4, h7, hst, hvs, hvt, h8, h9⟩ := h.ex
  exact ⟨wb, sb, sc, tb, (h2 l2).1, (h4 l4).1, (h7 l7).1, pure_other h.pure 8 _ hp, h.bl, wb, sb, sc, tb, v0, h2, h4, h7, hst, hvs, hvt, fun _ => rfl, fun r => (by simp [l9] at r)⟩
theorem LyR.box {pvl : List (Option Value)} {W : World} {P s : Nat} {xs : List EgT} {sg : List Int} {L : Nat → Bool} {vals : Nat → Value} {w : World} (h : LyR pvl W P s xs sg L vals w) (hp : pvl[9]? = some none) (l8 : L 8 = true) (l10 : L 10 = false) :
    ∃ C, vals 8 = .agg C ∧ LyR pvl W P s xs sg (fun j => if j = 9 then true else L j) (fun j => if j = 9 then .pointer (some ⟨w.heap.size, 0, none⟩) else vals j) (w.alloc (.cells C 56)) := by
  obtain ⟨wb, sb, sc, tb, v0, h2, h4, h7, hst, hvs, hvt, h8, h9⟩ := h.ex
  refine ⟨_, h8 l8, ?_⟩
  have b : Below w.heap.size w (w.alloc (.cells #[.int .i64 (s : Int), .slice (some ⟨wb, 0, none⟩) P P, .slice (some ⟨sb, 0, none⟩) P sc, .slice (some ⟨tb, 0, none⟩) P P] 56)) := (Below.refl _ _).alloc (Nat.le_refl _) _
  refine ⟨pure_other h.pure 9 _ hp, h.bl.trans (b.mono h.bl.size), wb, sb, sc, tb, v0, fun r => ⟨(h2 r).1, (h2 r).2.keep b⟩, fun r => ⟨(h4 r).1, own_next (h4 r).2 b⟩, fun r => ⟨(h7 r).1, own_next (h7 r).2 b⟩, hst, hvs, hvt, h8, fun _ => ⟨_, rfl, heap_alloc_new _ _, h.bl.size, fun r => (by simp [l10] at r)⟩⟩
theorem LyR.last {pvl : List (Option Value)} {W : World} {P s : Nat} {xs : List EgT} {sg : List Int} {L : Nat → Bool} {vals : Nat → Value} {w : World} (h : LyR pvl W P s xs sg L vals w) (hp : pvl[10]? = some none) (l9 : L 9 = true) :
    ∃ pb, vals 9 = .pointer (some ⟨pb, 0, none⟩) ∧ LyR pvl W P s xs sg (fun j => if j = 10 then true else L j) (fun j => if j = 10 then .pointer (some ⟨pb, 0, none⟩) else vals j) w := by
  obtain ⟨wb, sb, sc, tb, v0, h2, h4, h7, hst, hvs, hvt, h8, h9⟩ := h.ex
  obtain ⟨pb, e1, e2, e3, e4⟩ := h9 l9
  exact ⟨pb, e1, pure_other h.pure 10 _ hp, h.bl, wb, sb, sc, tb, v0, h2, h4, h7, hst, hvs, hvt, h8, fun _ => ⟨pb, e1, e2, e3, fun _ => e1.symm⟩⟩
def depsC : List (Nat × Nat) := [(2, 1), (4, 3), (6, 5), (7, 6), (8, 0), (8, 2), (8, 4), (8, 7), (9, 8), (10, 9)]
def BoardOut (w : World) (P s : Nat) (xs : List EgT) (sg : List Int) (e : Ending) (w' : World) : Prop := (∃ pb wb sb sc tb v, e = .returned (.pointer (some ⟨pb, 0, none⟩)) ∧ BdR w' pb w.heap.size P s wb sb sc tb v (wyO xs) sg (List.replicate P (0 : Int))) ∧ Below w.heap.size w w'
theorem LyR.done {pvl : List (Option Value)} {W : World} {P s : Nat} {xs : List EgT} {sg : List Int} {L : Nat → Bool} {vals : Nat → Value} {w : World} (h : LyR pvl W P s xs sg L vals w) (al : ∀ i, i < 11 → L i = true) : ∃ pb wb sb sc tb v, vals 10 = .pointer (some ⟨pb, 0, none⟩) ∧ BdR w pb W.heap.size P s wb sb sc tb v (wyO xs) sg (List.replicate P (0 : Int)) := by
  obtain ⟨wb, sb, sc, tb, v, h2, h4, h7, hst, hvs, hvt, h8, h9⟩ := h.ex
  obtain ⟨pb, e1, e2, e3, e4⟩ := h9 (al 9 (by omega))
  have a := al 2 (by omega)
  have b := al 4 (by omega)
  have c := al 7 (by omega)
  exact ⟨pb, wb, sb, sc, tb, v, (e4 (al 10 (by omega))).trans e1, e2, (h2 a).2, (h4 b).2, (h7 c).2, hst b c, hvs a b, hvt a c, e3⟩
theorem BdR.mono {V : World} {pb B B' P s wb sb sc tb : Nat} {v : Nat → Value} {L : Nat → List Int} {sg wt : List Int} (h : BdR V pb B P s wb sb sc tb v L sg wt) (hB : B' ≤ B) : BdR V pb B' P s wb sb sc tb v L sg wt :=
  ⟨h.box, ⟨h.wy.blk, fun k hk => own_mono (h.wy.own k hk) hB, h.wy.apart, Nat.le_trans hB h.wy.base⟩, own_mono h.sgs hB, own_mono h.wts hB, h.ne, h.ns, h.nt, Nat.le_trans hB h.base⟩
set_option maxRecDepth 100000 in
set_option maxHeartbeats 6400000 in
theorem layR_any (P s : Nat) (xs : List EgT) (ea : Option Addr) (n c : Nat) (sg : List Int) (ca : Option Addr) (cn cc : Nat) (w : World) (hE : ArgE w xs ea n c) (hC : ArgP w sg ca cn cc) (p1 : 1 ≤ P) (p2 : P ≤ 10) (n4 : n ≤ 40) (ok : ∀ j, j < xs.length → ¬ badE P (xs.getD j egz)) (hP : cn = P) :
    Calls Tryd.prog 29 #[.agg #[.int .i64 (P : Int), .slice ea n c], .int .i64 (s : Int), .slice ca cn cc] w (BoardOut w P s xs sg) := by
  obtain ⟨w1, hw1⟩ : ∃ w1, w.alloc (.cells #[.int .i64 (P : Int), .slice ea n c] 24) = w1 := ⟨_, rfl⟩
  have HW1 := hide' hw1
  have B1 := hide' (show Below w.heap.size w w1 by rw [← hw1]; exact (Below.refl _ _).alloc (Nat.le_refl _) _)
  have R1 := hide' (show w1.drew.heap[w.heap.size]? = some (.cells #[.int .i64 (P : Int), .slice ea n c] 24 (0, 0)) by rw [← hw1]; exact heap_alloc_new _ _)
  have LY := hide' (fun (V : World) (h : Below w.heap.size w V) => deal_any P xs ea n c V (hE.below h) p2 n4 ok)
  have CL := hide' (fun (V : World) (h : Below w.heap.size w V) => cloneR_any sg ca cn cc V (hC.below h) (by rw [hP]; exact p1) (by rw [hP]; exact p2))
  have HP := hide' hP
  have P2 := hide' p2
  have mk := hide' (mk_intR P p2)
  clear hw1 hE hC hP ok
  go_enter Tryd.func29, Tryd.ntmps29
  go_upto_region 1 with fail
  rw [HW1.out]
  obtain ⟨pvl, hpvl⟩ : ∃ l : List (Option Value), l = [some (.int .i64 (s : Int)), some (.agg #[.int .i64 (P : Int), .slice ea n c]), none, some (.slice ca cn cc), none, some (.pointer (some ⟨w.heap.size, 0, none⟩)), some (.int .i64 (P : Int)), none, none, none, none] := ⟨_, rfl⟩
  refine regionW (by kernel_rfl) _ 11 [7, 8, 9, 10, 11, 12, 13, 14, 15, 16, 6] depsC (LyR pvl w1.drew P s xs sg) rfl rfl (by decide) (by simp) rfl rfl (by kernel_rfl) (by kernel_rfl) ?hcong ?h0 ?hstep ?hQ
  case hcong => exact fun L L' vals w' e h => h.cong (by rw [hpvl]; rfl) e
  case h0 => exact LyR.start _ _ _ _ _ _ _
  case hstep =>
    intro L vals V a i o K hi ho hR cl hLi need hk hv hK
    have t1 : a.tmps[1]? = some (.int .i64 (s : Int)) := (hk 1 (by decide)).trans rfl
    have t2 : a.tmps[2]? = some (.slice ca cn cc) := (hk 2 (by decide)).trans rfl
    have t3 : a.tmps[3]? = some (.pointer (some ⟨w.heap.size, 0, none⟩)) := (hk 3 (by decide)).trans rfl
    have he := (hR.bl.block w.heap.size (ltS_of_block R1.out)).trans R1.out
    have y0 := cell_of_row V _ 0 _ _ _ he
    have y1 := cell_of_row V _ 1 _ _ _ he
    simp at y0 y1
    have bw : Below w.heap.size w V := B1.out.drew.trans (hR.bl.mono B1.out.size)
    have fls : ∀ x y, (x, y) ∈ depsC → L y = false → L x = false := fun x y m h => by
      cases q : L x with
      | false => rfl
      | true => rw [cl x y m q] at h; cases h
    have this : i = 0 ∨ i = 1 ∨ i = 2 ∨ i = 3 ∨ i = 4 ∨ i = 5 ∨ i = 6 ∨ i = 7 ∨ i = 8 ∨ i = 9 ∨ i = 10 := by omega
    rcases this with rfl | rfl | rfl | rfl | rfl | rfl | rfl | rfl | rfl | rfl | rfl
    · obtain rfl := Option.some.inj ho
      unfold Oper.wp
      simp [execOp, Act.eval, go_sem, t1]
      exact hK _ _ (hR.pure_step 0 _ (by rw [hpvl]; rfl) (by decide) (by decide) (by decide) (by decide) (by decide) (by decide))
    · obtain rfl := Option.some.inj ho
      unfold Oper.wp
      simp [execOp, Act.eval, go_sem, t3, y0, y1]
      exact hK _ _ (hR.pure_step 1 _ (by rw [hpvl]; rfl) (by decide) (by decide) (by decide) (by decide) (by decide) (by decide))
    · have d0 : a.tmps[8]? = some (.agg #[.int .i64 (P : Int), .slice ea n c]) := (hv 1 (by omega) (need 1 (by simp [depsC]))).trans (by rw [hR.pure 1 (.agg #[.int .i64 (P : Int), .slice ea n c]) (by rw [hpvl]; rfl) (need 1 (by simp [depsC]))])
      have ex : (execOp a.eval o).run Tryd.prog V = .ok (.enter 38 #[.agg #[.int .i64 (P : Int), .slice ea n c]]) V := by obtain rfl := Option.some.inj ho; simp [execOp, Act.eval, go_sem, d0]
      have l8 := fls 8 2 (by simp [depsC]) hLi
      have l9 := fls 9 8 (by simp [depsC]) l8
      unfold Oper.wp
      rw [ex, Oper.upon_enter]
      refine (LY.out V bw).mono ?_
      rintro e V2 ⟨wb, v, rfl, hy, b2⟩
      exact hK _ _ (hR.deal (by rw [hpvl]; rfl) l8 l9 hy b2)
    · obtain rfl := Option.some.inj ho
      unfold Oper.wp
      simp [execOp, Act.eval, go_sem, t2]
      exact hK _ _ (hR.pure_step 3 _ (by rw [hpvl]; rfl) (by decide) (by decide) (by decide) (by decide) (by decide) (by decide))
    · have d0 : a.tmps[10]? = some (.slice ca cn cc) := (hv 3 (by omega) (need 3 (by simp [depsC]))).trans (by rw [hR.pure 3 (.slice ca cn cc) (by rw [hpvl]; rfl) (need 3 (by simp [depsC]))])
      have ex : (execOp a.eval o).run Tryd.prog V = .ok (.enter 25 #[.slice ca cn cc]) V := by obtain rfl := Option.some.inj ho; simp [execOp, Act.eval, go_sem, d0]
      have l8 := fls 8 4 (by simp [depsC]) hLi
      have l9 := fls 9 8 (by simp [depsC]) l8
      unfold Oper.wp
      rw [ex, Oper.upon_enter]
      refine (CL.out V bw).mono ?_
      rintro e V2 ⟨g, q, rfl, ho, b2, hg⟩
      rw [HP.out] at ho ⊢
      exact hK _ _ (hR.clone (by rw [hpvl]; rfl) l8 l9 ho hg b2)
    · obtain rfl := Option.some.inj ho
      unfold Oper.wp
      simp [execOp, Act.eval, go_sem, t3]
      exact hK _ _ (hR.pure_step 5 _ (by rw [hpvl]; rfl) (by decide) (by decide) (by decide) (by decide) (by decide) (by decide))
    · obtain rfl := Option.some.inj ho
      have d0 : a.tmps[12]? = some (.pointer (some ⟨w.heap.size, 0, none⟩)) := (hv 5 (by omega) (need 5 (by simp [depsC]))).trans (by rw [hR.pure 5 (.pointer (some ⟨w.heap.size, 0, none⟩)) (by rw [hpvl]; rfl) (need 5 (by simp [depsC]))])
      unfold Oper.wp
      simp [execOp, Act.eval, go_sem, d0, y0]
      exact hK _ _ (hR.pure_step 6 _ (by rw [hpvl]; rfl) (by decide) (by decide) (by decide) (by decide) (by decide) (by decide))
    · obtain rfl := Option.some.inj ho
      have d0 : a.tmps[13]? = some (.int .i64 (P : Int)) := (hv 6 (by omega) (need 6 (by simp [depsC]))).trans (by rw [hR.pure 6 (.int .i64 (P : Int)) (by rw [hpvl]; rfl) (need 6 (by simp [depsC]))])
      have mk' := mk.out V
      have l8 := fls 8 7 (by simp [depsC]) hLi
      have l9 := fls 9 8 (by simp [depsC]) l8
      unfold Oper.wp
      simp [execOp, Act.eval, go_sem, d0, mk']
      exact hK _ _ (hR.make (by rw [hpvl]; rfl) l8 l9 P2.out)
    · have l9 := fls 9 8 (by simp [depsC]) hLi
      obtain ⟨wb, sb, sc, tb, e2, e4, e7, hN⟩ := hR.build (by rw [hpvl]; rfl) l9 (need 2 (by simp [depsC])) (need 4 (by simp [depsC])) (need 7 (by simp [depsC]))
      have d0 : a.tmps[7]? = some (.int .i64 (s : Int)) := (hv 0 (by omega) (need 0 (by simp [depsC]))).trans (by rw [hR.pure 0 (.int .i64 (s : Int)) (by rw [hpvl]; rfl) (need 0 (by simp [depsC]))])
      have d2 := hv 2 (by omega) (need 2 (by simp [depsC]))
      have d4 := hv 4 (by omega) (need 4 (by simp [depsC]))
      have d7 := hv 7 (by omega) (need 7 (by simp [depsC]))
      rw [e2] at d2
      rw [e4] at d4
      rw [e7] at d7
      have d2' : a.tmps[9]? = _ := d2
      have d4' : a.tmps[11]? = _ := d4
      have d7' : a.tmps[14]? = _ := d7
      obtain rfl := Option.some.inj ho
      unfold Oper.wp
      simp [execOp, Act.eval, go_sem, d0, d2', d4', d7']
      exact hK _ _ hN
    · have l10 := fls 10 9 (by simp [depsC]) hLi
      obtain ⟨C, e8, hN⟩ := hR.box (by rw [hpvl]; rfl) (need 8 (by simp [depsC])) l10
      have d8 := hv 8 (by omega) (need 8 (by simp [depsC]))
      rw [e8] at d8
      have d8' : a.tmps[15]? = some (.agg C) := d8
      obtain rfl := Option.some.inj ho
      unfold Oper.wp
      simp [execOp, Act.eval, go_sem, d8']
      exact hK _ _ hN
    · obtain ⟨pb, e9, hN⟩ := hR.last (by rw [hpvl]; rfl) (need 9 (by simp [depsC]))
      have d9 := hv 9 (by omega) (need 9 (by simp [depsC]))
      rw [e9] at d9
      have d9' : a.tmps[16]? = some (.pointer (some ⟨pb, 0, none⟩)) := d9
      obtain rfl := Option.some.inj ho
      unfold Oper.wp
      simp [execOp, Act.eval, go_sem, d9']
      exact hK _ _ hN
  case hQ =>
    intro L vals V hR al
    obtain ⟨pb, wb, sb, sc, tb, v, h1, h2⟩ := hR.done al
    have X := hide' (show BoardOut w P s xs sg (.returned (.pointer (some ⟨pb, 0, none⟩))) V from ⟨⟨pb, wb, sb, sc, tb, v, rfl, h2.mono B1.out.size⟩, B1.out.drew.trans (hR.bl.mono B1.out.size)⟩)
    simp only [List.range, List.range.loop, List.map, putsL, List.getD, List.getElem?_cons_zero, List.getElem?_cons_succ, Option.getD_some, Act.put, List.setIfInBounds_toArray, List.set_cons_zero, List.set_cons_succ]
    rw [h1]
    clear hR al h1 h2
    go_wp2
    go_ret
    exact X.out
end Go.Proofs.YtpppmollmiomlaaDoor

