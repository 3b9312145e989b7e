/-
  What the last text of this claim leans on, part 25: Ke7, Ke5, Kbf, Kb1.
-/
import Derived.Test.YtpajdmhgonmgoaaDoorYt24
import Derived.Test.YtpajdmhgonmgoaaDoorYt15
import Derived.Test.YtpajdmhgonmgoaaDoorProg
import Derived.Conc.WgGenN3
namespace Go.Proofs.YtpajdmhgonmgoaaDoor
open Go.RowKit
set_option linter.unusedVariables false
set_option linter.unusedSimpArgs false
/-- A row of numbers that lies there, at least so long. -/
def RowAt (w : World) (g n : Nat) (f : Nat → Int) : Prop := ∃ C, w.heap[g]? = some (.cells C 3 (0, 0)) ∧ ∀ k, k < n → C[k]? = some (.int .i64 (f k))
theorem RowAt.below {w w' : World} {g n : Nat} {f : Nat → Int} (h : RowAt w g n f) (b : Below w.heap.size w w') : RowAt w' g n f := by
  obtain ⟨C, h1, h2⟩ := h
  exact ⟨C, (b.block g (ltS_of_block h1)).trans h1, h2⟩
theorem row_of_own {w : World} {B g n q : Nat} {cs : List Int} (h : w.ownsRow B 3 1 (.slice (some ⟨g, 0, none⟩) n q) n (cs.map (Value.int .i64))) (hl : cs.length = n) : RowAt w g n (fun k => cs.getD k 0) := by
  obtain ⟨h1, h2⟩ := h
  rcases h2 with ⟨h2, _⟩ | ⟨g', cap, cur, h2, _, h3, _, _, _, h4⟩
  · cases h2
  · injection h2 with h2 _ _
    injection h2 with h2
    injection h2 with h2
    subst h2
    refine ⟨cur, h3, fun k hk => ?_⟩
    have e1 : cur[k]? = (cur.toList.take (n * 1))[k]? := by rw [List.getElem?_take, if_pos (by omega)]; simp
    have hk' : k < cs.length := by omega
    rw [e1, h4, List.getElem?_map, List.getElem?_eq_getElem hk']
    simp [List.getD_eq_getElem?_getD, List.getElem?_eq_getElem hk']
/-- What stands while sand.pour is walked, in whatever order. -/
structure PoX (pvl : List (Option Value)) (W : World) (P s : Nat) (xs : List EgT) (cs : List Int) (L : Nat → Bool) (vals : Nat → Value) (w : World) : Prop where
  pure : ∀ i u, pvl[i]? = some (some u) → L i = true → vals i = u
  bl : Below W.heap.size W w
  v2 : L 2 = true → vals 2 = .agg (arrS 112 fun k => .int .i64 (gdF P s (btX xs) k))
  v4 : L 4 = true → ∃ g q, vals 4 = .slice (some ⟨g, 0, none⟩) P q ∧ W.heap.size ≤ g ∧ RowAt w g P (fun k => cs.getD k 0)
  v7 : L 7 = true → ∃ g, vals 7 = .slice (some ⟨g, 0, none⟩) P P ∧ W.heap.size ≤ g ∧ w.heap[g]? = some (.cells (arrS P fun _ => .int .i64 0) 3 (0, 0))
  ne : L 4 = true → L 7 = true → ∀ g q g', vals 4 = .slice (some ⟨g, 0, none⟩) P q → vals 7 = .slice (some ⟨g', 0, none⟩) P P → g ≠ g'
  v8 : L 8 = true → ∃ g q g', L 4 = true ∧ L 7 = true ∧ vals 4 = .slice (some ⟨g, 0, none⟩) P q ∧ vals 7 = .slice (some ⟨g', 0, none⟩) P P ∧ vals 8 = .agg (arrS 114 (pilV (gdF P s (btX xs)) (some ⟨g, 0, none⟩) P q (some ⟨g', 0, none⟩) P P))
  v9 : L 9 = true → ∃ pb g q g', vals 9 = .pointer (some ⟨pb, 0, none⟩) ∧ PilAt w pb g q g' P s (btX xs) (fun k => cs.getD k 0) (fun _ => 0) ∧ W.heap.size ≤ pb ∧ W.heap.size ≤ g ∧ W.heap.size ≤ g'
  v10 : L 10 = true → ∃ pb g q g', vals 10 = .pointer (some ⟨pb, 0, none⟩) ∧ PilAt w pb g q g' P s (btX xs) (fun k => cs.getD k 0) (fun _ => 0) ∧ W.heap.size ≤ pb ∧ W.heap.size ≤ g ∧ W.heap.size ≤ g'
section
variable {pvl : List (Option Value)} {W w w' : World} {P s : Nat} {xs : List EgT} {cs : List Int} {L L' : Nat → Bool} {vals : Nat → Value}
theorem PoX.cong (hl : pvl.length = 11) (e : ∀ i, i < 11 → L i = L' i) (h : PoX pvl W P s xs cs L vals w) : PoX pvl W P s xs cs L' vals w := by
  have e2 := e 2 (by omega)
  have e4 := e 4 (by omega)
  have e7 := e 7 (by omega)
  have e8 := e 8 (by omega)
  have e9 := e 9 (by omega)
  have e10 := e 10 (by omega)
  exact ⟨fun i u hi hL => h.pure i u hi (by rw [e i (by have := (List.getElem?_eq_some_iff.1 hi).1; omega)]; exact hL), h.bl, by rw [← e2]; exact h.v2, by rw [← e4]; exact h.v4, by rw [← e7]; exact h.v7, by rw [← e4, ← e7]; exact h.ne, by rw [← e8, ← e4, ← e7]; exact h.v8, by rw [← e9]; exact h.v9, by rw [← e10]; exact h.v10⟩
theorem PoX.start (pvl : List (Option Value)) (W : World) (P s : Nat) (xs : List EgT) (cs : List Int) (vals : Nat → Value) : PoX pvl W P s xs cs (fun _ => false) vals W :=
  ⟨fun i u _ h => (by cases h), Below.refl _ _, fun h => (by cases h), fun h => (by cases h), fun h => (by cases h), fun h => (by cases h), fun h => (by cases h), fun h => (by cases h), fun h => (by cases h)⟩
theorem pil_below {pb g q g' : Nat} {b : Nat → Nat → Int} {f u : Nat → Int} (h : PilAt w pb g q g' P s b f u) (b2 : Below w.heap.size w w') : PilAt w' pb g q g' P s b f u := by
  obtain ⟨C, h1, _⟩ := h.ch
  exact h.on (b2.block _ (ltS_of_block h.pl)) (b2.block _ (ltS_of_block h1)) (b2.block _ (ltS_of_block h.tp))
/-- The others stand. -/
theorem PoX.bel (h : PoX pvl W P s xs cs L vals w) (b : Below w.heap.size w w') : PoX pvl W P s xs cs L vals w' :=
  ⟨h.pure, h.bl.trans (b.mono h.bl.size), h.v2, fun q => by obtain ⟨g, q', h1, h2, h3⟩ := h.v4 q; exact ⟨g, q', h1, h2, h3.below b⟩, fun q => by obtain ⟨g, h1, h2, h3⟩ := h.v7 q; exact ⟨g, h1, h2, (b.block _ (ltS_of_block h3)).trans h3⟩, h.ne, h.v8, fun q => by obtain ⟨pb, g, q', g', h1, h2, h3⟩ := h.v9 q; exact ⟨pb, g, q', g', h1, pil_below h2 b, h3⟩, fun q => by obtain ⟨pb, g, q', g', h1, h2, h3⟩ := h.v10 q; exact ⟨pb, g, q', g', h1, pil_below h2 b, h3⟩⟩
/-- Number i comes up: what is asked of it alone. -/
theorem PoX.come (h : PoX pvl W P s xs cs L vals w) (i : Nat) (v : Value) (h0 : ∀ u, pvl[i]? = some (some u) → v = u)
    (h2 : i = 2 → v = .agg (arrS 112 fun k => .int .i64 (gdF P s (btX xs) k))) (h4 : i = 4 → ∃ g q, v = .slice (some ⟨g, 0, none⟩) P q ∧ W.heap.size ≤ g ∧ RowAt w g P (fun k => cs.getD k 0) ∧ ∀ g', L 7 = true → vals 7 = .slice (some ⟨g', 0, none⟩) P P → g ≠ g')
    (h7 : i = 7 → ∃ g, v = .slice (some ⟨g, 0, none⟩) P P ∧ W.heap.size ≤ g ∧ w.heap[g]? = some (.cells (arrS P fun _ => .int .i64 0) 3 (0, 0)) ∧ ∀ g' q, L 4 = true → vals 4 = .slice (some ⟨g', 0, none⟩) P q → g' ≠ g)
    (hd : i = 4 ∨ i = 7 → L 8 = false)
    (h8 : i = 8 → ∃ g q g', L 4 = true ∧ L 7 = true ∧ vals 4 = .slice (some ⟨g, 0, none⟩) P q ∧ vals 7 = .slice (some ⟨g', 0, none⟩) P P ∧ v = .agg (arrS 114 (pilV (gdF P s (btX xs)) (some ⟨g, 0, none⟩) P q (some ⟨g', 0, none⟩) P P)))
    (h9 : i = 9 ∨ i = 10 → ∃ pb g q g', v = .pointer (some ⟨pb, 0, none⟩) ∧ PilAt w pb g q g' P s (btX xs) (fun k => cs.getD k 0) (fun _ => 0) ∧ W.heap.size ≤ pb ∧ W.heap.size ≤ g ∧ W.heap.size ≤ g') :
    PoX pvl W P s xs cs (fun j => if j = i then true else L j) (fun j => if j = i then v else vals j) w := by
  refine ⟨fun j u hj hL => ?_, h.bl, fun q => ?_, fun q => ?_, fun q => ?_, fun q4 q7 g q g' e4 e7 => ?_, fun q => ?_, fun q => ?_, fun q => ?_⟩
  · by_cases e : j = i
    · rw [if_pos e]; rw [e] at hj; exact h0 u hj
    · rw [if_neg e] at hL ⊢; exact h.pure j u hj hL
  · by_cases e : 2 = i
    · rw [if_pos e]; exact h2 e.symm
    · rw [if_neg e] at q ⊢; exact h.v2 q
  · by_cases e : 4 = i
    · rw [if_pos e]; obtain ⟨g, q, a1, a2, a3, _⟩ := h4 e.symm; exact ⟨g, q, a1, a2, a3⟩
    · rw [if_neg e] at q ⊢; exact h.v4 q
  · by_cases e : 7 = i
    · rw [if_pos e]; obtain ⟨g, a1, a2, a3, _⟩ := h7 e.symm; exact ⟨g, a1, a2, a3⟩
    · rw [if_neg e] at q ⊢; exact h.v7 q
  · by_cases e : 4 = i
    · rw [if_pos e] at e4
      rw [if_neg (by omega)] at q7 e7
      obtain ⟨g2, q2, a1, _, _, a4⟩ := h4 e.symm
      rw [a1] at e4
      injection e4 with e4 _ _
      injection e4 with e4
      injection e4 with e4
      subst e4
      exact a4 g' q7 e7
    · rw [if_neg e] at q4 e4
      by_cases e' : 7 = i
      · rw [if_pos e'] at e7
        obtain ⟨g2, a1, _, _, a4⟩ := h7 e'.symm
        rw [a1] at e7
        injection e7 with e7 _ _
        injection e7 with e7
        injection e7 with e7
        subst e7
        exact a4 g q q4 e4
      · rw [if_neg e'] at q7 e7
        exact h.ne q4 q7 g q g' e4 e7
  · by_cases e : 8 = i
    · obtain ⟨g, q2, g', a1, a2, a3, a4, a5⟩ := h8 e.symm
      refine ⟨g, q2, g', ?_, ?_, ?_, ?_, ?_⟩
      · rw [if_neg (by omega)]; exact a1
      · rw [if_neg (by omega)]; exact a2
      · rw [if_neg (by omega)]; exact a3
      · rw [if_neg (by omega)]; exact a4
      · rw [if_pos e]; exact a5
    · rw [if_neg e] at q ⊢
      have n4 : ¬ 4 = i := fun x => by rw [hd (Or.inl x.symm)] at q; cases q
      have n7 : ¬ 7 = i := fun x => by rw [hd (Or.inr x.symm)] at q; cases q
      rw [if_neg n4, if_neg n7]
      obtain ⟨g, q2, g', a1, a2, a3, a4, a5⟩ := h.v8 q
      exact ⟨g, q2, g', a1, a2, by rw [if_neg n4]; exact a3, by rw [if_neg n7]; exact a4, a5⟩
  · by_cases e : 9 = i
    · rw [if_pos e]; exact h9 (Or.inl e.symm)
    · rw [if_neg e] at q ⊢; exact h.v9 q
  · by_cases e : 10 = i
    · rw [if_pos e]; exact h9 (Or.inr e.symm)
    · rw [if_neg e] at q ⊢; exact h.v10 q
theorem PoX.keep (h : PoX pvl W P s xs cs L vals w) {i : Nat} (v : Value) (h0 : ∀ u, pvl[i]? = some (some u) → v = u) (n2 : i ≠ 2) (n4 : i ≠ 4) (n7 : i ≠ 7) (n8 : i ≠ 8) (n9 : i ≠ 9) (n10 : i ≠ 10) : PoX pvl W P s xs cs (fun j => if j = i then true else L j) (fun j => if j = i then v else vals j) w :=
  h.come i v h0 (fun e => absurd e n2) (fun e => absurd e n4) (fun e => absurd e n7) (fun e => e.elim (fun e => absurd e n4) (fun e => absurd e n7)) (fun e => absurd e n8) (fun e => e.elim (fun e => absurd e n9) (fun e => absurd e n10))
theorem PoX.step2 (h : PoX pvl W P s xs cs L vals w) (b : Below w.heap.size w w') (hp : pvl[2]? = some none) : PoX pvl W P s xs cs (fun j => if j = 2 then true else L j) (fun j => if j = 2 then .agg (arrS 112 fun k => .int .i64 (gdF P s (btX xs) k)) else vals j) w' :=
  (h.bel b).come 2 _ (fun u hu => by rw [hp] at hu; cases hu) (fun _ => rfl) (fun e => absurd e (by decide)) (fun e => absurd e (by decide)) (fun e => absurd e (by decide)) (fun e => absurd e (by decide)) (fun e => absurd e (by decide))
end
def PourX (w : World) (P s : Nat) (xs : List EgT) (cs : List Int) (e : Ending) (w' : World) : Prop := ∃ pb g q g', e = .returned (.pointer (some ⟨pb, 0, none⟩)) ∧ PilAt w' pb g q g' P s (btX xs) (fun k => cs.getD k 0) (fun _ => 0) ∧ Below w.heap.size w w' ∧ w.heap.size ≤ pb ∧ w.heap.size ≤ g ∧ w.heap.size ≤ g'
section
variable {pvl : List (Option Value)} {W w w' : World} {P s : Nat} {xs : List EgT} {cs : List Int} {L L' : Nat → Bool} {vals : Nat → Value}
theorem PoX.step4 (h : PoX pvl W P s xs cs L vals w) (b : Below w.heap.size w w') (hp : pvl[4]? = some none) (l8 : L 8 = false) {g q : Nat} (hg : w.heap.size ≤ g) (hr : RowAt w' g P (fun k => cs.getD k 0)) : PoX pvl W P s xs cs (fun j => if j = 4 then true else L j) (fun j => if j = 4 then .slice (some ⟨g, 0, none⟩) P q else vals j) w' :=
  (h.bel b).come 4 _ (fun u hu => by rw [hp] at hu; cases hu) (fun e => absurd e (by decide)) (fun _ => ⟨g, q, rfl, Nat.le_trans h.bl.size hg, hr, fun g' q7 e7 e => by
    obtain ⟨g2, a1, _, a3⟩ := h.v7 q7
    rw [e7] at a1
    injection a1 with a1 _ _
    injection a1 with a1
    injection a1 with a1
    have := ltS_of_block a3
    omega⟩) (fun e => absurd e (by decide)) (fun _ => l8) (fun e => absurd e (by decide)) (fun e => absurd e (by decide))
theorem PoX.step7 (h : PoX pvl W P s xs cs L vals w) (hp : pvl[7]? = some none) (l8 : L 8 = false) : PoX pvl W P s xs cs (fun j => if j = 7 then true else L j) (fun j => if j = 7 then .slice (some ⟨w.heap.size, 0, none⟩) P P else vals j) (w.alloc (.cells (arrS P fun _ => .int .i64 0) 3)) :=
  (h.bel ((Below.refl _ _).alloc (Nat.le_refl _) _)).come 7 _ (fun u hu => by rw [hp] at hu; cases hu) (fun e => absurd e (by decide)) (fun e => absurd e (by decide)) (fun _ => ⟨_, rfl, h.bl.size, heap_alloc_new _ _, fun g' q q4 e4 e => by
    obtain ⟨g2, q2, a1, _, C, a3, _⟩ := h.v4 q4
    rw [e4] at a1
    injection a1 with a1 _ _
    injection a1 with a1
    injection a1 with a1
    have := ltS_of_block a3
    omega⟩) (fun _ => l8) (fun e => absurd e (by decide)) (fun e => absurd e (by decide))
theorem PoX.step8 (h : PoX pvl W P s xs cs L vals w) (hp : pvl[8]? = some none) {g q g' : Nat} (hq : L 4 = true ∧ L 7 = true ∧ vals 4 = .slice (some ⟨g, 0, none⟩) P q ∧ vals 7 = .slice (some ⟨g', 0, none⟩) P P) : PoX pvl W P s xs cs (fun j => if j = 8 then true else L j) (fun j => if j = 8 then .agg (arrS 114 (pilV (gdF P s (btX xs)) (some ⟨g, 0, none⟩) P q (some ⟨g', 0, none⟩) P P)) else vals j) w :=
  h.come 8 _ (fun u hu => by rw [hp] at hu; cases hu) (fun e => absurd e (by decide)) (fun e => absurd e (by decide)) (fun e => absurd e (by decide)) (fun e => absurd e (by decide)) (fun _ => ⟨g, q, g', hq.1, hq.2.1, hq.2.2.1, hq.2.2.2, rfl⟩) (fun e => absurd e (by decide))
theorem PoX.step9 (h : PoX pvl W P s xs cs L vals w) (hp : pvl[9]? = some none) {g q g' : Nat} (q4 : L 4 = true) (q7 : L 7 = true) (e4 : vals 4 = .slice (some ⟨g, 0, none⟩) P q) (e7 : vals 7 = .slice (some ⟨g', 0, none⟩) P P) : PoX pvl W P s xs cs (fun j => if j = 9 then true else L j) (fun j => if j = 9 then .pointer (some ⟨w.heap.size, 0, none⟩) else vals j) (w.alloc (.cells (arrS 114 (pilV (gdF P s (btX xs)) (some ⟨g, 0, none⟩) P q (some ⟨g', 0, none⟩) P P)) 60)) := by
  have bb : Below w.heap.size w (w.alloc (.cells (arrS 114 (pilV (gdF P s (btX xs)) (some ⟨g, 0, none⟩) P q (some ⟨g', 0, none⟩) P P)) 60)) := (Below.refl _ _).alloc (Nat.le_refl _) _
  refine (h.bel bb).come 9 _ (fun u hu => by rw [hp] at hu; cases hu) (fun e => absurd e (by decide)) (fun e => absurd e (by decide)) (fun e => absurd e (by decide)) (fun e => absurd e (by decide)) (fun e => absurd e (by decide)) (fun _ => ?_)
  obtain ⟨g2, q2, a1, a2, a3⟩ := h.v4 q4
  obtain ⟨g3, b1, b2, b3⟩ := h.v7 q7
  have ne := h.ne q4 q7 g q g' e4 e7
  rw [e4] at a1
  injection a1 with a1 _ a1q
  injection a1 with a1
  injection a1 with a1
  rw [e7] at b1
  injection b1 with b1 _ _
  injection b1 with b1
  injection b1 with b1
  subst a1 b1
  obtain ⟨C, c1, c2⟩ := a3
  have l1 := ltS_of_block c1
  have l2 := ltS_of_block b3
  refine ⟨w.heap.size, g, q, g', rfl, ⟨heap_alloc_new _ _, ⟨C, (bb.block _ l1).trans c1, c2⟩, (bb.block _ l2).trans b3, by omega, by omega, ne⟩, h.bl.size, a2, b2⟩
theorem PoX.step10 (h : PoX pvl W P s xs cs L vals w) (hp : pvl[10]? = some none) {v : Value} (hv : ∃ pb g q g', v = .pointer (some ⟨pb, 0, none⟩) ∧ PilAt w pb g q g' P s (btX xs) (fun k => cs.getD k 0) (fun _ => 0) ∧ W.heap.size ≤ pb ∧ W.heap.size ≤ g ∧ W.heap.size ≤ g') : PoX pvl W P s xs cs (fun j => if j = 10 then true else L j) (fun j => if j = 10 then v else vals j) w :=
  h.come 10 _ (fun u hu => by rw [hp] at hu; cases hu) (fun e => absurd e (by decide)) (fun e => absurd e (by decide)) (fun e => absurd e (by decide)) (fun e => absurd e (by decide)) (fun e => absurd e (by decide)) (fun _ => hv)
end
set_option maxRecDepth 100000 in
set_option maxHeartbeats 6400000 in
theorem pourX_any (P : Nat) (xs : List EgT) (ea : Option Addr) (n c : Nat) (s : Nat) (cs : List Int) (ca : Option Addr) (cn cc : Nat) (w : World) (hE : ArgE w xs ea n c) (hC : ArgP w cs ca cn cc) (hO : OkG P xs) (hP : cn = P) (hs : s < P) :
    Calls Tryd.prog 20 #[.agg #[.int .i64 (P : Int), .slice ea n c], .int .i64 (s : Int), .slice ca cn cc] w (PourX w P s xs cs) := by
  obtain ⟨w1, hw1⟩ : ∃ w1, w.alloc (.cells #[.int .i64 (P : Int), .slice ea n c] 24) = w1 := ⟨_, rfl⟩
  have HW1 := hide' hw1
  have B1 := hide' (show Below w.heap.size w w1 by rw [← hw1]; exact (Below.refl _ _).alloc (Nat.le_refl _) _)
  have R1 := hide' (show w1.drew.heap[w.heap.size]? = some (.cells #[.int .i64 (P : Int), .slice ea n c] 24 (0, 0)) by rw [← hw1]; exact heap_alloc_new _ _)
  have LY := hide' (fun (V : World) (h : Below w.heap.size w V) => layX_any P xs ea n c s V (hE.below h) hO hs)
  have CL := hide' (fun (V : World) (h : Below w.heap.size w V) => cloneR_any cs ca cn cc V (hC.below h) (by rw [hP]; exact hO.p1) (by rw [hP]; exact hO.p2))
  have HP := hide' hP
  have HL := hide' (show cs.length = P by rw [← hC.len, hP])
  have HQ := hide' hO.p2
  have mk := hide' (mk_intR P hO.p2)
  clear hw1 hE hC hO hP hs
  go_enter Tryd.func20, Tryd.ntmps20
  go_upto_region 1 with fail
  rw [HW1.out]
  obtain ⟨pvl, hpvl⟩ : ∃ l : List (Option Value), l = [some (.agg #[.int .i64 (P : Int), .slice ea n c]), some (.int .i64 (s : Int)), none, some (.slice ca cn cc), none, some (.pointer (some ⟨w.heap.size, 0, none⟩)), some (.int .i64 (P : Int)), none, none, none, none] := ⟨_, rfl⟩
  refine regionW (by kernel_rfl) _ 11 [7, 8, 9, 10, 11, 12, 13, 14, 15, 16, 6] depsB (PoX pvl w1.drew P s xs cs) rfl rfl (by decide) (by simp) rfl rfl (by kernel_rfl) (by kernel_rfl) ?hcong ?h0 ?hstep ?hQ
  case hcong => exact fun L L' vals w' e h => h.cong (by rw [hpvl]; rfl) e
  case h0 => exact PoX.start _ _ _ _ _ _ _
  case hstep =>
    intro L vals V a i o K hi ho hR cl hLi need hk hv hK
    have t1 : a.tmps[1]? = some (.int .i64 (s : Int)) := (hk 1 (by decide)).trans rfl
    have t2 : a.tmps[2]? = some (.slice ca cn cc) := (hk 2 (by decide)).trans rfl
    have t3 : a.tmps[3]? = some (.pointer (some ⟨w.heap.size, 0, none⟩)) := (hk 3 (by decide)).trans rfl
    have he := (hR.bl.block w.heap.size (ltS_of_block R1.out)).trans R1.out
    have y0 := cell_of_row V _ 0 _ _ _ he
    have y1 := cell_of_row V _ 1 _ _ _ he
    simp at y0 y1
    have bw : Below w.heap.size w V := B1.out.drew.trans (hR.bl.mono B1.out.size)
    have this : i = 0 ∨ i = 1 ∨ i = 2 ∨ i = 3 ∨ i = 4 ∨ i = 5 ∨ i = 6 ∨ i = 7 ∨ i = 8 ∨ i = 9 ∨ i = 10 := by omega
    rcases this with rfl | rfl | rfl | rfl | rfl | rfl | rfl | rfl | rfl | rfl | rfl
    · obtain rfl := Option.some.inj ho
      unfold Oper.wp
      simp [execOp, Act.eval, go_sem, t3, y0, y1]
      exact hK _ _ (hR.keep (i := 0) _ (fun u hu => by rw [hpvl] at hu; simpa using hu) (by decide) (by decide) (by decide) (by decide) (by decide) (by decide))
    · obtain rfl := Option.some.inj ho
      unfold Oper.wp
      simp [execOp, Act.eval, go_sem, t1]
      exact hK _ _ (hR.keep (i := 1) _ (fun u hu => by rw [hpvl] at hu; simpa using hu) (by decide) (by decide) (by decide) (by decide) (by decide) (by decide))
    · have d0 : a.tmps[7]? = some (.agg #[.int .i64 (P : Int), .slice ea n c]) := (hv 0 (by omega) (need 0 (by simp [depsB]))).trans (by rw [hR.pure 0 (.agg #[.int .i64 (P : Int), .slice ea n c]) (by rw [hpvl]; rfl) (need 0 (by simp [depsB]))])
      have d1 : a.tmps[8]? = some (.int .i64 (s : Int)) := (hv 1 (by omega) (need 1 (by simp [depsB]))).trans (by rw [hR.pure 1 (.int .i64 (s : Int)) (by rw [hpvl]; rfl) (need 1 (by simp [depsB]))])
      have ex : (execOp a.eval o).run Tryd.prog V = .ok (.enter 32 #[.agg #[.int .i64 (P : Int), .slice ea n c], .int .i64 (s : Int)]) V := by obtain rfl := Option.some.inj ho; simp [execOp, Act.eval, go_sem, d0, d1]
      unfold Oper.wp
      rw [ex, Oper.upon_enter]
      refine (LY.out V bw).mono ?_
      rintro e V2 ⟨rfl, b2⟩
      exact hK _ _ (hR.step2 b2 (by rw [hpvl]; rfl))
    · obtain rfl := Option.some.inj ho
      unfold Oper.wp
      simp [execOp, Act.eval, go_sem, t2]
      exact hK _ _ (hR.keep (i := 3) _ (fun u hu => by rw [hpvl] at hu; simpa using hu) (by decide) (by decide) (by decide) (by decide) (by decide) (by decide))
    · have d0 : a.tmps[10]? = some (.slice ca cn cc) := (hv 3 (by omega) (need 3 (by simp [depsB]))).trans (by rw [hR.pure 3 (.slice ca cn cc) (by rw [hpvl]; rfl) (need 3 (by simp [depsB]))])
      have ex : (execOp a.eval o).run Tryd.prog V = .ok (.enter 33 #[.slice ca cn cc]) V := by obtain rfl := Option.some.inj ho; simp [execOp, Act.eval, go_sem, d0]
      unfold Oper.wp
      rw [ex, Oper.upon_enter]
      refine (CL.out V bw).mono ?_
      rintro e V2 ⟨g, q, rfl, o2, b2, g2⟩
      rw [HP.out] at o2 ⊢
      exact hK _ _ (hR.step4 b2 (by rw [hpvl]; rfl) (by cases h8 : L 8 with | false => rfl | true => exact absurd (cl 8 4 (by simp [depsB]) h8) (by rw [hLi]; decide)) g2 (row_of_own o2 HL.out))
    · obtain rfl := Option.some.inj ho
      unfold Oper.wp
      simp [execOp, Act.eval, go_sem, t3]
      exact hK _ _ (hR.keep (i := 5) _ (fun u hu => by rw [hpvl] at hu; simpa using hu) (by decide) (by decide) (by decide) (by decide) (by decide) (by decide))
    · obtain rfl := Option.some.inj ho
      have d0 : a.tmps[12]? = some (.pointer (some ⟨w.heap.size, 0, none⟩)) := (hv 5 (by omega) (need 5 (by simp [depsB]))).trans (by rw [hR.pure 5 (.pointer (some ⟨w.heap.size, 0, none⟩)) (by rw [hpvl]; rfl) (need 5 (by simp [depsB]))])
      unfold Oper.wp
      simp [execOp, Act.eval, go_sem, d0, y0]
      exact hK _ _ (hR.keep (i := 6) _ (fun u hu => by rw [hpvl] at hu; simpa using hu) (by decide) (by decide) (by decide) (by decide) (by decide) (by decide))
    · obtain rfl := Option.some.inj ho
      have d0 : a.tmps[13]? = some (.int .i64 (P : Int)) := (hv 6 (by omega) (need 6 (by simp [depsB]))).trans (by rw [hR.pure 6 (.int .i64 (P : Int)) (by rw [hpvl]; rfl) (need 6 (by simp [depsB]))])
      have mk' := mk.out V
      unfold Oper.wp
      simp [execOp, Act.eval, go_sem, d0, mk']
      exact hK _ _ (hR.step7 (by rw [hpvl]; rfl) (by cases h8 : L 8 with | false => rfl | true => exact absurd (cl 8 7 (by simp [depsB]) h8) (by rw [hLi]; decide)))
    · have e2 := hR.v2 (need 2 (by simp [depsB]))
      obtain ⟨g, q, e4, _, _⟩ := hR.v4 (need 4 (by simp [depsB]))
      obtain ⟨g', e7, _, _⟩ := hR.v7 (need 7 (by simp [depsB]))
      have d2 := hv 2 (by omega) (need 2 (by simp [depsB]))
      have d4 := hv 4 (by omega) (need 4 (by simp [depsB]))
      have d7 := hv 7 (by omega) (need 7 (by simp [depsB]))
      rw [e2] at d2
      rw [e4] at d4
      rw [e7] at d7
      have hC := built_pileX (gdF P s (btX xs)) (some ⟨g, 0, none⟩) (some ⟨g', 0, none⟩) P q P P
      have d2' : a.eval (.tmp 9) = _ := eval_ofE d2
      have d4' : a.eval (.tmp 11) = _ := eval_ofE d4
      have d7' : a.eval (.tmp 14) = _ := eval_ofE d7
      obtain rfl := Option.some.inj ho
      refine wp_build 60 _ rfl (by simp only [List.map_toArray, List.map_cons, List.map_nil, d2', d4', d7']; rw [hC]; rfl) ?_
      simp only [List.map_toArray, List.map_cons, List.map_nil, d2', d4', d7']
      rw [hC]
      exact hK _ _ (hR.step8 (by rw [hpvl]; rfl) ⟨need 4 (by simp [depsB]), need 7 (by simp [depsB]), e4, e7⟩)
    · obtain ⟨g, q, g', q4, q7, e4, e7, e8⟩ := hR.v8 (need 8 (by simp [depsB]))
      have d8 := hv 8 (by omega) (need 8 (by simp [depsB]))
      rw [e8] at d8
      obtain ⟨C, hCe⟩ : ∃ C, arrS 114 (pilV (gdF P s (btX xs)) (some ⟨g, 0, none⟩) P q (some ⟨g', 0, none⟩) P P) = C := ⟨_, rfl⟩
      have d8' : a.tmps[15]? = some (.agg C) := by rw [← hCe]; exact d8
      have key := hR.step9 (by rw [hpvl]; rfl) q4 q7 e4 e7
      rw [hCe] at key
      clear hCe d8 e8
      obtain rfl := Option.some.inj ho
      unfold Oper.wp
      simp [execOp, Act.eval, go_sem, d8']
      exact hK _ _ key
    · obtain ⟨pb, g, q, g', e9, hp9⟩ := hR.v9 (need 9 (by simp [depsB]))
      have d9 := hv 9 (by omega) (need 9 (by simp [depsB]))
      rw [e9] at d9
      have d9' : a.tmps[16]? = some (.pointer (some ⟨pb, 0, none⟩)) := d9
      have key := hR.step10 (by rw [hpvl]; rfl) ⟨pb, g, q, g', rfl, hp9⟩
      obtain rfl := Option.some.inj ho
      unfold Oper.wp
      simp [execOp, Act.eval, go_sem, d9']
      exact hK _ _ key
  case hQ =>
    intro L vals V hR al
    have p10 := hR.v10 (al 10 (by omega))
    have bw : Below w.heap.size w V := B1.out.drew.trans (hR.bl.mono B1.out.size)
    simp only [List.range, List.range.loop, List.map, putsL, List.getD, List.getElem?_cons_zero, List.getElem?_cons_succ, Option.getD_some, Act.put, List.setIfInBounds_toArray, List.set_cons_zero, List.set_cons_succ]
    obtain ⟨pb, g, q, g', e10, hp, k1, k2, k3⟩ := p10
    have sz := B1.out.size
    have X := hide' (show PourX w P s xs cs (.returned (vals 10)) V from ⟨pb, g, q, g', by rw [e10], hp, bw, Nat.le_trans sz k1, Nat.le_trans sz k2, Nat.le_trans sz k3⟩)
    rw [e10] at X ⊢
    clear hR al e10 hp k1 k2 k3 bw sz
    go_wp2
    go_ret
    exact X.out
end Go.Proofs.YtpajdmhgonmgoaaDoor

namespace Go.Proofs.YtpajdmhgonmgoaaDoor
open Go.RowKit
set_option linter.unusedVariables false
set_option linter.unusedSimpArgs false
/-- How often. -/
def ofX (P s : Nat) (b : Nat → Nat → Int) (k : Nat) (v : Int) : Int := if k = s then 0 else v.tdiv (smS P (b k))
theorem ofX_facts {P s k : Nat} {b : Nat → Nat → Int} {v : Int} (hv : 0 ≤ v ∧ v ≤ 100000) (hd : k ≠ s → 1 ≤ smS P (b k)) : 0 ≤ ofX P s b k v ∧ ofX P s b k v ≤ 100000 ∧ ofX P s b k v * smS P (b k) ≤ v := by
  unfold ofX
  split
  · omega
  · rename_i h
    have h1 := hd h
    obtain ⟨q1, q2, q3⟩ := div_facts hv.1 h1
    refine ⟨q1, ?_, q2⟩
    have : v.tdiv (smS P (b k)) * 1 ≤ v.tdiv (smS P (b k)) * smS P (b k) := Int.mul_le_mul_of_nonneg_left h1 q1
    omega
set_option maxRecDepth 100000 in
set_option maxHeartbeats 6400000 in
theorem oftenX_any (pb k P s : Nat) (b : Nat → Nat → Int) (v : Int) (w : World) (c1 : w.cell? ⟨pb, 1, none⟩ = some (.int .i64 (s : Int))) (c2 : w.cell? ⟨pb, 2 + k, none⟩ = some (.int .i64 (smS P (b k)))) (hk : k < 10) (hv : 0 ≤ v ∧ v ≤ 100000) (hd : k ≠ s → 1 ≤ smS P (b k)) :
    Calls Tryd.prog 27 #[.pointer (some ⟨pb, 0, none⟩), .int .i64 (k : Int), .int .i64 v] w (fun e w' => e = .returned (.int .i64 (ofX P s b k v)) ∧ w' = w) := by
  have l0 : (0 : Int) ≤ (k : Int) := by omega
  have l1 : (k : Int) < 10 := by omega
  have OF := hide' (ofX_facts hv hd)
  by_cases h : k = s
  · have e1 : ((k : Int) == (s : Int)) = true := by simp; omega
    have HH := hide' h
    clear h hv hd
    go_enter Tryd.func27, Tryd.ntmps27
    go_wp2
    go_ret
    exact ⟨by unfold ofX; rw [if_pos HH.out]; rfl, rfl⟩
  · have e1 : ((k : Int) == (s : Int)) = false := by simp; omega
    have h1 := hd h
    obtain ⟨dg, hdg⟩ : ∃ dg, smS P (b k) = dg := ⟨_, rfl⟩
    rw [hdg] at h1 c2
    have e2 : (dg == 0) = false := by simp; omega
    obtain ⟨z, hz⟩ : ∃ z, v.tdiv dg = z := ⟨_, rfl⟩
    have e3 : wrap64 z = z := by
      have := OF.out
      unfold ofX at this
      rw [if_neg h, hdg, hz] at this
      exact wrap_mid (by omega) (by omega)
    have HH := hide' (show ofX P s b k v = z by unfold ofX; rw [if_neg h, hdg, hz])
    have HZ := hide' hz
    have e4 : ¬ dg = 0 := by omega
    clear h hv hd hdg OF
    go_enter Tryd.func27, Tryd.ntmps27
    go_wp2
    go_ret
    refine ⟨?_, rfl⟩
    rw [HH.out]
    show Ending.returned (Value.int .i64 (wrap64 z)) = _
    rw [e3]
/-- Nothing can topple. -/
def stX (P s : Nat) (b : Nat → Nat → Int) (f : Nat → Int) : Prop := ∀ k, k < P → k ≠ s → f k < smS P (b k)
theorem of_pos {P s k : Nat} {b : Nat → Nat → Int} {v : Int} (hv : 0 ≤ v) (hd : k ≠ s → 1 ≤ smS P (b k)) : 0 < ofX P s b k v ↔ k ≠ s ∧ smS P (b k) ≤ v := by
  unfold ofX
  by_cases h : k = s
  · rw [if_pos h]; exact ⟨fun x => absurd x (by omega), fun x => absurd h x.1⟩
  · rw [if_neg h]
    have h1 := hd h
    obtain ⟨q1, q2, q3⟩ := div_facts hv h1
    constructor
    · intro x
      refine ⟨h, ?_⟩
      have : 1 * smS P (b k) ≤ v.tdiv (smS P (b k)) * smS P (b k) := Int.mul_le_mul_of_nonneg_right (by omega) (by omega)
      omega
    · rintro ⟨_, x⟩
      rcases Int.lt_or_le 0 (v.tdiv (smS P (b k))) with y | y
      · exact y
      · have e : v.tdiv (smS P (b k)) = 0 := by omega
        rw [e] at q3
        omega
def StabW (P s : Nat) (b : Nat → Nat → Int) (f : Nat → Int) (w : World) (e : Ending) (w' : World) : Prop := (∃ t, e = .returned (.bool t) ∧ (t = true ↔ stX P s b f)) ∧ w' = w
set_option maxRecDepth 100000 in
set_option maxHeartbeats 6400000 in
theorem stable_any (pb ca q ta P s : Nat) (b : Nat → Nat → Int) (f u : Nat → Int) (w : World) (h : PilAt w pb ca q ta P s b f u) (hP : P ≤ 10) (hd : ∀ k, k < P → k ≠ s → 1 ≤ smS P (b k)) (hf : ∀ j, j < P → 0 ≤ f j ∧ f j ≤ 100000) :
    Calls Tryd.prog 34 #[.pointer (some ⟨pb, 0, none⟩)] w (StabW P s b f w) := by
  have c0 := h.chs
  have OF := hide' (fun (k : Nat) (hk : k < P) => oftenX_any pb k P s b (f k) w (h.ground (k := 1) (by omega)) (by rw [h.ground (k := 2 + k) (by omega), gdX_d P s b (by omega)]) (by omega) (hf k hk) (hd k hk))
  have PO := hide' (fun (k : Nat) (hk : k < P) => of_pos (s := s) (b := b) (hf k hk).1 (hd k hk))
  have H := hide' h
  have HP := hide' hP
  clear h hP hd hf
  go_enter Tryd.func34, Tryd.ntmps34
  go_wp2
  go_loopw [10] (fun iv V => ∃ (i : Nat), iv = .int .i64 (i : Int) ∧ i ≤ P ∧ V = w ∧ Hid (∀ k, k < i → k ≠ s → f k < smS P (b k))) (fun iv _ => P - (intOf iv).toNat)
  case atStart => exact ⟨0, rfl, by omega, rfl, hide' fun k hk => absurd hk (Nat.not_lt_zero k)⟩
  case round =>
    obtain ⟨i, rfl, hi, rfl, KF⟩ := hrel
    by_cases d : (i : Int) < (P : Int)
    · have hin : i < P := by omega
      have l0 : (0 : Int) ≤ (i : Int) := by omega
      obtain ⟨c2, -⟩ := H.out.chip hin
      obtain ⟨x, hx⟩ : ∃ x, f i = x := ⟨_, rfl⟩
      rw [hx] at c2
      have HX := hide' hx
      have CO := hide' (by have := OF.out i hin; rw [hx] at this; exact this)
      have PI := hide' (by have := PO.out i hin; rw [hx] at this; exact this)
      clear hx
      go_wp2_with fail
      refine CO.out.mono ?_
      rintro e w2 ⟨rfl, rfl⟩
      obtain ⟨t, ht⟩ : ∃ t, ofX P s b i x = t := ⟨_, rfl⟩
      have PT := hide' (by have := PI.out; rw [ht] at this; exact this)
      rw [ht]
      clear ht c2
      by_cases g : 0 < t
      · go_wp2
        go_ret
        refine ⟨⟨false, rfl, ?_⟩, rfl⟩
        refine ⟨fun h => by simp at h, fun h => ?_⟩
        obtain ⟨g1, g2⟩ := PT.out.1 g
        have := h i hin g1
        rw [HX.out] at this
        omega
      · have NG := hide' g
        have hP10 := HP.out
        go_wp2
        exact ⟨⟨i + 1, by go_num, by omega, (by first | rfl | trivial), hide' fun k hk ks => by
          by_cases e : k = i
          · subst e
            rcases Int.lt_or_le (f k) (smS P (b k)) with y | y
            · exact y
            · rw [HX.out] at y
              exact absurd (PT.out.2 ⟨ks, y⟩) (by have := NG.out; omega)
          · exact KF.out k (by omega) ks⟩, by simp [intOf]; omega⟩
    · obtain rfl : i = P := by omega
      go_wp2
      go_ret
      exact ⟨⟨true, rfl, fun _ => KF.out, fun _ => rfl⟩, rfl⟩
end Go.Proofs.YtpajdmhgonmgoaaDoor

namespace Go.Proofs.YtpajdmhgonmgoaaDoor
open Go.RowKit
set_option linter.unusedVariables false
open Go.Conc Go.ConcN Go.RowKit Go.Conc.Lib Go.ConcR.Gen
open Go.ConcR (KK wgBlock WgAt stA smA rd wr Payload DC0)
set_option linter.unusedSimpArgs false
set_option maxRecDepth 100000 in
set_option maxHeartbeats 1600000 in
theorem shut_x {N : Nat} {F : World → Prop} {E : Event → Prop} {S : Goroutine → World → Prop} {M : Nat} {z x4 x7 x8 x9 x10 x11 x12 : Value}
    (hn : Gw Tryd.prog false F E S M (G ((baseD 38).at ⟨#[.pointer (some ⟨N + 4, 0, none⟩), undef, undef, undef], []⟩ [.code (bodyOf Tryd.f38)]) ({ (baseD 37).at (⟨#[.pointer (some ⟨N + 4, 0, none⟩), .pointer (some ⟨N + 2, 0, none⟩), .pointer (some ⟨N + 3, 0, none⟩), .pointer (some ⟨N, 0, none⟩), x4, .chan (some (N + 1)), .tuple #[z, .bool false], .bool false, x8, x9, x10, x11, x12], []⟩ : Act) [] with mode := .returning } :: [{ (default : Frame) with fn := Tryd.prog.funcs.size, defers := [], mode := .panicking [goexitEntry] }]))) :
    Gw Tryd.prog false F E S (M + 20) (G ((baseD 37).at (⟨#[.pointer (some ⟨N + 4, 0, none⟩), .pointer (some ⟨N + 2, 0, none⟩), .pointer (some ⟨N + 3, 0, none⟩), .pointer (some ⟨N, 0, none⟩), x4, .chan (some (N + 1)), .tuple #[z, .bool false], x7, x8, x9, x10, x11, x12], [dcall 38 #[.pointer (some ⟨N + 4, 0, none⟩)]]⟩ : Act) [.inRegion (cO (cL (cL (cL (cR (cR (bodyOf Tryd.f37))))))) [1], .code (cR (cL (cL (cR (cR (bodyOf Tryd.f37)))))), .inLoop (cL (cL (cR (cR (bodyOf Tryd.f37))))), .inBlock 0]) [{ (default : Frame) with fn := Tryd.prog.funcs.size, defers := [], mode := .panicking [goexitEntry] }]) := by
  have hkb : (baseD 37).kind ≠ .early := by simp [baseD]
  simp only [cO, cL, cR, bodyOf, Tryd.f37, Option.getD_some]
  refine gw_opk rfl rfl (by k_ne) (fun w hF K' hK => ?_)
  go_simp
  refine hK _ (fun e he => ?_) ?_
  · (clear hK; simp [go_sem, *, evix1, evix2, evix3] at he)
  clear hK K' hF
  clear w
  try walk_nrm
  refine gw_done ?_
  refine gw_seq ?_
  refine gw_cond false rfl ?_
  simp only [if_false, Bool.false_eq_true, ↓reduceIte]
  refine gw_exit rfl ?_
  refine gw_end ?_
  refine gw_ctl rfl (fun w => stepG_unwind_enter (f := 38) (args := #[.pointer (some ⟨N + 4, 0, none⟩)]) (ds := []) rfl Tryd.func38 rfl rfl) ?_
  walk_nrmf Tryd.f38
  simp only [bodyOf, Tryd.f38, Option.getD_some] at hn
  exact Gw.mono hn (by omega)
end Go.Proofs.YtpajdmhgonmgoaaDoor

namespace Go.Proofs.YtpajdmhgonmgoaaDoor
abbrev wgL : Go.Conc.Lib.WgLink := { add := 36, done := 38, wait := 41, relMerge := 50, disable := 51, enable := 52, inBubble := 53, associate := 54, fatal := 55, uOr := 56, uAdd := 57, raceRead := 58, uLoad := 59, uStore := 60, disassociate := 61, semrelease := 62, acquire := 64, isAssociated := 65, uCas := 66, raceWrite := 67, semacquire := 68, orU64 := 73, addU64 := 74, loadU64 := 75, storeU64 := 76, casU64 := 77, tWgP := 116, tUP := 100, tAssoc := 118, tWg := 93, tAU := 90, tU64 := 88, tUint := 122, tU32 := 91, tPU32 := 123, tPAU := 147, tPU64 := 149, tNoCopy := 87, tANoCopy := 78, tAlign64 := 79 }
theorem wgLib : Go.Conc.Lib.WgLib Tryd.prog wgL :=
  ⟨Tryd.func36, Tryd.func38, Tryd.func41, Tryd.func50, Tryd.func51, Tryd.func52, Tryd.func53, Tryd.func54, Tryd.func55, Tryd.func56, Tryd.func57, Tryd.func58, Tryd.func59, Tryd.func60, Tryd.func61, Tryd.func62, Tryd.func64, Tryd.func65, Tryd.func66, Tryd.func67, Tryd.func68, Tryd.func73, Tryd.func74, Tryd.func75, Tryd.func76, Tryd.func77, Tryd.underlying116, Tryd.runUnderlying116, Tryd.sizeOf116, Tryd.isAgg116, Tryd.zeroValue116, Tryd.underlying100, Tryd.runUnderlying100, Tryd.sizeOf100, Tryd.isAgg100, Tryd.zeroValue100, Tryd.underlying118, Tryd.runUnderlying118, Tryd.sizeOf118, Tryd.isAgg118, Tryd.zeroValue118, Tryd.underlying93, Tryd.runUnderlying93, Tryd.sizeOf93, Tryd.isAgg93, Tryd.zeroValue93, Tryd.underlying90, Tryd.runUnderlying90, Tryd.sizeOf90, Tryd.isAgg90, Tryd.zeroValue90, Tryd.underlying88, Tryd.runUnderlying88, Tryd.sizeOf88, Tryd.isAgg88, Tryd.zeroValue88, Tryd.underlying122, Tryd.runUnderlying122, Tryd.sizeOf122, Tryd.isAgg122, Tryd.zeroValue122, Tryd.underlying91, Tryd.runUnderlying91, Tryd.sizeOf91, Tryd.isAgg91, Tryd.zeroValue91, Tryd.underlying123, Tryd.runUnderlying123, Tryd.sizeOf123, Tryd.isAgg123, Tryd.zeroValue123, Tryd.underlying147, Tryd.runUnderlying147, Tryd.sizeOf147, Tryd.isAgg147, Tryd.zeroValue147, Tryd.underlying149, Tryd.runUnderlying149, Tryd.sizeOf149, Tryd.isAgg149, Tryd.zeroValue149, Tryd.underlying0, Tryd.runUnderlying0, Tryd.sizeOf0, Tryd.isAgg0, Tryd.zeroValue0, Tryd.underlying3, Tryd.runUnderlying3, Tryd.sizeOf3, Tryd.isAgg3, Tryd.zeroValue3, Tryd.underlying4, Tryd.runUnderlying4, Tryd.sizeOf4, Tryd.isAgg4, Tryd.zeroValue4, Tryd.underlying9, Tryd.runUnderlying9, Tryd.sizeOf9, Tryd.isAgg9, Tryd.zeroValue9, Tryd.underlying20, Tryd.runUnderlying20, Tryd.sizeOf20, Tryd.isAgg20, Tryd.zeroValue20, Tryd.underlying21, Tryd.runUnderlying21, Tryd.sizeOf21, Tryd.isAgg21, Tryd.zeroValue21, (by kernel_rfl), (by kernel_rfl)⟩
end Go.Proofs.YtpajdmhgonmgoaaDoor

