/-
  What the last text of this claim leans on, part 12: Oc7.
-/
import Derived.Test.YtjjdjdodhedihaaDoorJl11
import Derived.Deep.RegionHeld3
namespace Go.Proofs.YtjjdjdodhedihaaDoor
open Go.RowKit Go.Shelf
set_option linter.unusedVariables false
attribute [local go_sem] Oper.semAt_some

theorem run_store_func {P : Program} {w : World} {a : Addr} {m : Mode} (fn : Fn) (x y : Array Value) : (store a (.func fn x y) m).run P w = stored P w a (.func fn x y) m := run_store P w a _ m rfl
attribute [local go_sem] run_store_func
theorem info_bool : (Tryd.prog.info? 4).map (fun i => (i.zero, i.size, i.bytes)) = some (some (.bool false), 1, 1) := by kernel_rfl

/-- What search has laid ahead of its loops, and what it holds. -/
structure SS (w W : World) (S R n : Nat) (v3 fw : Value) (sn : List Bool) (st : List Stp) : Prop where
  vs : VS W S R n v3 w.heap.size (w.heap.size + 5) (w.heap.size + 4) (w.heap.size + 6) w.heap.size sn st
  wb : Blk W (w.heap.size + 1) #[fw] 132
  r6 : Blk W (w.heap.size + 2) #[.int .i64 0, .int .i64 0] 127
  r7 : Blk W (w.heap.size + 3) #[.slice none 0 0] 125
  vb : Blk W (w.heap.size + 7) #[.func (.func 106) #[] #[.pointer (some ⟨w.heap.size, 0, none⟩), .pointer (some ⟨w.heap.size + 5, 0, none⟩), .pointer (some ⟨w.heap.size + 6, 0, none⟩)]] 167
  bl : Below w.heap.size w W
  sz : w.heap.size + 8 ≤ W.heap.size
theorem SS.start (w : World) (S R n : Nat) (v3 fw : Value) : SS w ((((((((w.alloc (.cells #[.int .i64 (S : Int), .int .i64 (2 * (R : Int)), .int .i64 (n : Int), v3] 79)).alloc (.cells #[fw] 132)).alloc (.cells #[.int .i64 0, .int .i64 0] 127)).alloc (.cells #[.slice none 0 0] 125)).alloc (.cells (madeCells #[.bool false] (n * n)) 4)).alloc (.cells #[.slice (some ⟨w.heap.size + 4, 0, none⟩) (n * n) (n * n)] 90)).alloc (.cells #[.slice none 0 0] 164)).alloc (.cells #[.func (.func 106) #[] #[.pointer (some ⟨w.heap.size, 0, none⟩), .pointer (some ⟨w.heap.size + 5, 0, none⟩), .pointer (some ⟨w.heap.size + 6, 0, none⟩)]] 167)) S R n v3 fw (List.replicate (n * n) false) [] := by
  obtain ⟨a1, e1⟩ : ∃ a, w.alloc (.cells #[.int .i64 (S : Int), .int .i64 (2 * (R : Int)), .int .i64 (n : Int), v3] 79) = a := ⟨_, rfl⟩
  rw [e1]
  have b1 := Blk.new w #[.int .i64 (S : Int), .int .i64 (2 * (R : Int)), .int .i64 (n : Int), v3] 79
  rw [e1] at b1
  have s1 : a1.heap.size = w.heap.size + 1 := by rw [← e1]; simp
  have B1 := (Below.refl w.heap.size w).alloc (by exact Nat.le_refl _) (.cells #[.int .i64 (S : Int), .int .i64 (2 * (R : Int)), .int .i64 (n : Int), v3] 79)
  rw [e1] at B1
  obtain ⟨a2, e2⟩ : ∃ a, a1.alloc (.cells #[fw] 132) = a := ⟨_, rfl⟩
  rw [e2]
  have b1 := b1.alloc (.cells #[fw] 132)
  rw [e2] at b1
  have b2 := Blk.new a1 #[fw] 132
  rw [e2, s1] at b2
  have s2 : a2.heap.size = w.heap.size + 2 := by rw [← e2]; simp [s1]
  have B2 := B1.alloc (by omega) (.cells #[fw] 132)
  rw [e2] at B2
  obtain ⟨a3, e3⟩ : ∃ a, a2.alloc (.cells #[.int .i64 0, .int .i64 0] 127) = a := ⟨_, rfl⟩
  rw [e3]
  have b1 := b1.alloc (.cells #[.int .i64 0, .int .i64 0] 127)
  rw [e3] at b1
  have b2 := b2.alloc (.cells #[.int .i64 0, .int .i64 0] 127)
  rw [e3] at b2
  have b3 := Blk.new a2 #[.int .i64 0, .int .i64 0] 127
  rw [e3, s2] at b3
  have s3 : a3.heap.size = w.heap.size + 3 := by rw [← e3]; simp [s2]
  have B3 := B2.alloc (by omega) (.cells #[.int .i64 0, .int .i64 0] 127)
  rw [e3] at B3
  obtain ⟨a4, e4⟩ : ∃ a, a3.alloc (.cells #[.slice none 0 0] 125) = a := ⟨_, rfl⟩
  rw [e4]
  have b1 := b1.alloc (.cells #[.slice none 0 0] 125)
  rw [e4] at b1
  have b2 := b2.alloc (.cells #[.slice none 0 0] 125)
  rw [e4] at b2
  have b3 := b3.alloc (.cells #[.slice none 0 0] 125)
  rw [e4] at b3
  have b4 := Blk.new a3 #[.slice none 0 0] 125
  rw [e4, s3] at b4
  have s4 : a4.heap.size = w.heap.size + 4 := by rw [← e4]; simp [s3]
  have B4 := B3.alloc (by omega) (.cells #[.slice none 0 0] 125)
  rw [e4] at B4
  obtain ⟨a5, e5⟩ : ∃ a, a4.alloc (.cells (madeCells #[.bool false] (n * n)) 4) = a := ⟨_, rfl⟩
  rw [e5]
  have b1 := b1.alloc (.cells (madeCells #[.bool false] (n * n)) 4)
  rw [e5] at b1
  have b2 := b2.alloc (.cells (madeCells #[.bool false] (n * n)) 4)
  rw [e5] at b2
  have b3 := b3.alloc (.cells (madeCells #[.bool false] (n * n)) 4)
  rw [e5] at b3
  have b4 := b4.alloc (.cells (madeCells #[.bool false] (n * n)) 4)
  rw [e5] at b4
  have b5 := Blk.new a4 (madeCells #[.bool false] (n * n)) 4
  rw [e5, s4] at b5
  have s5 : a5.heap.size = w.heap.size + 5 := by rw [← e5]; simp [s4]
  have B5 := B4.alloc (by omega) (.cells (madeCells #[.bool false] (n * n)) 4)
  rw [e5] at B5
  obtain ⟨a6, e6⟩ : ∃ a, a5.alloc (.cells #[.slice (some ⟨w.heap.size + 4, 0, none⟩) (n * n) (n * n)] 90) = a := ⟨_, rfl⟩
  rw [e6]
  have b1 := b1.alloc (.cells #[.slice (some ⟨w.heap.size + 4, 0, none⟩) (n * n) (n * n)] 90)
  rw [e6] at b1
  have b2 := b2.alloc (.cells #[.slice (some ⟨w.heap.size + 4, 0, none⟩) (n * n) (n * n)] 90)
  rw [e6] at b2
  have b3 := b3.alloc (.cells #[.slice (some ⟨w.heap.size + 4, 0, none⟩) (n * n) (n * n)] 90)
  rw [e6] at b3
  have b4 := b4.alloc (.cells #[.slice (some ⟨w.heap.size + 4, 0, none⟩) (n * n) (n * n)] 90)
  rw [e6] at b4
  have b5 := b5.alloc (.cells #[.slice (some ⟨w.heap.size + 4, 0, none⟩) (n * n) (n * n)] 90)
  rw [e6] at b5
  have b6 := Blk.new a5 #[.slice (some ⟨w.heap.size + 4, 0, none⟩) (n * n) (n * n)] 90
  rw [e6, s5] at b6
  have s6 : a6.heap.size = w.heap.size + 6 := by rw [← e6]; simp [s5]
  have B6 := B5.alloc (by omega) (.cells #[.slice (some ⟨w.heap.size + 4, 0, none⟩) (n * n) (n * n)] 90)
  rw [e6] at B6
  obtain ⟨a7, e7⟩ : ∃ a, a6.alloc (.cells #[.slice none 0 0] 164) = a := ⟨_, rfl⟩
  rw [e7]
  have b1 := b1.alloc (.cells #[.slice none 0 0] 164)
  rw [e7] at b1
  have b2 := b2.alloc (.cells #[.slice none 0 0] 164)
  rw [e7] at b2
  have b3 := b3.alloc (.cells #[.slice none 0 0] 164)
  rw [e7] at b3
  have b4 := b4.alloc (.cells #[.slice none 0 0] 164)
  rw [e7] at b4
  have b5 := b5.alloc (.cells #[.slice none 0 0] 164)
  rw [e7] at b5
  have b6 := b6.alloc (.cells #[.slice none 0 0] 164)
  rw [e7] at b6
  have b7 := Blk.new a6 #[.slice none 0 0] 164
  rw [e7, s6] at b7
  have s7 : a7.heap.size = w.heap.size + 7 := by rw [← e7]; simp [s6]
  have B7 := B6.alloc (by omega) (.cells #[.slice none 0 0] 164)
  rw [e7] at B7
  obtain ⟨a8, e8⟩ : ∃ a, a7.alloc (.cells #[.func (.func 106) #[] #[.pointer (some ⟨w.heap.size, 0, none⟩), .pointer (some ⟨w.heap.size + 5, 0, none⟩), .pointer (some ⟨w.heap.size + 6, 0, none⟩)]] 167) = a := ⟨_, rfl⟩
  rw [e8]
  have b1 := b1.alloc (.cells #[.func (.func 106) #[] #[.pointer (some ⟨w.heap.size, 0, none⟩), .pointer (some ⟨w.heap.size + 5, 0, none⟩), .pointer (some ⟨w.heap.size + 6, 0, none⟩)]] 167)
  rw [e8] at b1
  have b2 := b2.alloc (.cells #[.func (.func 106) #[] #[.pointer (some ⟨w.heap.size, 0, none⟩), .pointer (some ⟨w.heap.size + 5, 0, none⟩), .pointer (some ⟨w.heap.size + 6, 0, none⟩)]] 167)
  rw [e8] at b2
  have b3 := b3.alloc (.cells #[.func (.func 106) #[] #[.pointer (some ⟨w.heap.size, 0, none⟩), .pointer (some ⟨w.heap.size + 5, 0, none⟩), .pointer (some ⟨w.heap.size + 6, 0, none⟩)]] 167)
  rw [e8] at b3
  have b4 := b4.alloc (.cells #[.func (.func 106) #[] #[.pointer (some ⟨w.heap.size, 0, none⟩), .pointer (some ⟨w.heap.size + 5, 0, none⟩), .pointer (some ⟨w.heap.size + 6, 0, none⟩)]] 167)
  rw [e8] at b4
  have b5 := b5.alloc (.cells #[.func (.func 106) #[] #[.pointer (some ⟨w.heap.size, 0, none⟩), .pointer (some ⟨w.heap.size + 5, 0, none⟩), .pointer (some ⟨w.heap.size + 6, 0, none⟩)]] 167)
  rw [e8] at b5
  have b6 := b6.alloc (.cells #[.func (.func 106) #[] #[.pointer (some ⟨w.heap.size, 0, none⟩), .pointer (some ⟨w.heap.size + 5, 0, none⟩), .pointer (some ⟨w.heap.size + 6, 0, none⟩)]] 167)
  rw [e8] at b6
  have b7 := b7.alloc (.cells #[.func (.func 106) #[] #[.pointer (some ⟨w.heap.size, 0, none⟩), .pointer (some ⟨w.heap.size + 5, 0, none⟩), .pointer (some ⟨w.heap.size + 6, 0, none⟩)]] 167)
  rw [e8] at b7
  have b8 := Blk.new a7 #[.func (.func 106) #[] #[.pointer (some ⟨w.heap.size, 0, none⟩), .pointer (some ⟨w.heap.size + 5, 0, none⟩), .pointer (some ⟨w.heap.size + 6, 0, none⟩)]] 167
  rw [e8, s7] at b8
  have s8 : a8.heap.size = w.heap.size + 8 := by rw [← e8]; simp [s7]
  have B8 := B7.alloc (by omega) (.cells #[.func (.func 106) #[] #[.pointer (some ⟨w.heap.size, 0, none⟩), .pointer (some ⟨w.heap.size + 5, 0, none⟩), .pointer (some ⟨w.heap.size + 6, 0, none⟩)]] 167)
  rw [e8] at B8
  rw [show madeCells #[.bool false] (n * n) = ((List.replicate (n * n) false).map Value.bool).toArray by
    apply Array.toList_inj.1
    rw [toList_madeCells_one]
    simp] at b5
  exact ⟨⟨b1, b6, b5, by simp, ⟨.slice none 0 0, b7, ⟨rfl, Or.inl ⟨rfl, rfl⟩⟩⟩, by omega, by omega, by omega, by omega⟩, b2, b3, b4, b8, B8, by omega⟩

theorem SS.next {w W W' : World} {S R n : Nat} {v3 fw : Value} {sn : List Bool} {st : List Stp} (h : SS w W S R n v3 fw sn st) (k : Below W.heap.size W W') : SS w W' S R n v3 fw sn st :=
  ⟨h.vs.next k, h.wb.of (k.block _ h.wb.lt), h.r6.of (k.block _ h.r6.lt), h.r7.of (k.block _ h.r7.lt), h.vb.of (k.block _ h.vb.lt), h.bl.trans (k.mono h.bl.size), Nat.le_trans h.sz k.size⟩
/-- From the stops ahead of i no way is wanted, and each leads to what was seen. -/
def ClosedTo (S n : Nat) (T : List Int) (want : Nat × Nat → Nat × Nat → Bool) (sn : List Bool) (st : List Stp) (i : Nat) : Prop :=
  ∀ j, j < i → ∀ c : Nat × Nat, OkWay S T ((stAt st j).p, (stAt st j).q) c → want ((stAt st j).p, (stAt st j).q) c = false ∧ wasSeen n sn (stepP S n ((stAt st j).p, (stAt st j).q) c).1 (stepP S n ((stAt st j).p, (stAt st j).q) c).2 = true
/-- What the outer loop keeps. -/
structure OL (w W : World) (S R n : Nat) (T : List Int) (v3 fw : Value) (sts : List (Nat × Nat)) (want : Nat × Nat → Nat × Nat → Bool) (i pi : Nat) (ds : List Nat) (sn : List Bool) (st : List Stp) : Prop where
  ss : SS w W S R n v3 fw sn st
  iv : Inv S n T sts sn st
  sw : ∀ j, j < sts.length → wasSeen n sn (prAt sts j).1 (prAt sts j).2 = true
  sr : ∀ j, j < sts.length → (prAt sts j).1 < n ∧ (prAt sts j).2 < n
  ib : Blk W pi #[.int .i64 (i : Int)] 3
  ip : w.heap.size + 8 ≤ pi
  cl : ClosedTo S n T want sn st i
  le : i ≤ st.length
  dm : ∀ D, D ∈ ds → W.heap[D]? = some (.deferred (some []))
  nd : ds.Nodup
  dw : ∀ D, D ∈ ds → w.heap.size ≤ D
theorem VS.row {W : World} {S R n : Nat} {v3 : Value} {pg ps gs pt B0 : Nat} {sn : List Bool} {st : List Stp} (h : VS W S R n v3 pg ps gs pt B0 sn st) (h0 : 0 < st.length) : ∃ g cap, Blk W pt #[.slice (some ⟨g, 0, none⟩) st.length cap] 164 ∧ SC W g st ∧ B0 ≤ g ∧ st.length ≤ cap ∧ (∃ cur, W.heap[g]? = some (.cells cur 166 (0, 0))) := by
  obtain ⟨v, tb, hr⟩ := h.tv
  rcases hr.2 with ⟨_, h1⟩ | ⟨g, cap, cur, rfl, hg, hh, hc, hm, hs, ht⟩
  · omega
  · refine ⟨g, cap, tb, ⟨(Array.getElem?_eq_some_iff.1 hh).1, fun i k hi hk => ?_⟩, hg, hc, cur, hh⟩
    have e := stCells_at st i k hi hk
    rw [← ht, List.getElem?_take, if_pos (by omega)] at e
    simp only [World.cell?, hh]
    rw [← Array.getElem?_toList, e]
    simp [stAt, List.getD, hi]
def SMs (w : World) (S R n : Nat) (v3 : Value) (g L cap pi i sp sq : Nat) (w' : World) : Prop := w'.cell? ⟨w.heap.size, 0, none⟩ = some (.int .i64 (S : Int)) ∧ w'.cell? ⟨w.heap.size, 1, none⟩ = some (.int .i64 (2 * (R : Int))) ∧ w'.cell? ⟨w.heap.size, 2, none⟩ = some (.int .i64 (n : Int)) ∧ w'.cell? ⟨w.heap.size, 3, none⟩ = some (v3) ∧ w'.cell? ⟨w.heap.size + 6, 0, none⟩ = some (.slice (some ⟨g, 0, none⟩) L cap) ∧ w'.cell? ⟨pi, 0, none⟩ = some (.int .i64 (i : Int)) ∧ w'.cell? ⟨g, i * 5, none⟩ = some (.int .i64 (sp : Int)) ∧ w'.cell? ⟨g, i * 5 + 1, none⟩ = some (.int .i64 (sq : Int))
theorem SMs.next {w W W' : World} {S R n : Nat} {v3 : Value} {g L cap pi i sp sq : Nat} (h : SMs w S R n v3 g L cap pi i sp sq W) (k : Below W.heap.size W W') : SMs w S R n v3 g L cap pi i sp sq W' := by
  have key : ∀ {a : Addr} {v : Value}, W.cell? a = some v → W'.cell? a = some v := fun {a v} e => by
    have hlt : a.block < W.heap.size := by
      unfold World.cell? at e
      by_cases hp : a.block < W.heap.size
      · exact hp
      · simp only [Array.getElem?_eq_none (Nat.le_of_not_lt hp)] at e
        cases e
    exact (World.cell?_of_block (k.block a.block hlt)).trans e
  obtain ⟨h0, h1, h2, h3, h4, h5, h6, h7⟩ := h
  exact ⟨key h0, key h1, key h2, key h3, key h4, key h5, key h6, key h7⟩
theorem Blk.gb {w : World} {p S R n : Nat} {v : Value} {t : TypeId} (h : Blk w p #[.int .i64 (S : Int), .int .i64 (2 * (R : Int)), .int .i64 (n : Int), v] t) : GB p S R n v w := ⟨h.cell 0, h.cell 1, h.cell 2, h.cell 3⟩
/-- Whatever is cells lies as it lay. -/
structure KC (W W' : World) : Prop where
  size : W.heap.size ≤ W'.heap.size
  same : ∀ (k : Nat) (c : Array Value) (t : TypeId) (f : Nat × Nat), W.heap[k]? = some (Obj.cells c t f) → W'.heap[k]? = some (Obj.cells c t f)
theorem KC.refl (W : World) : KC W W := ⟨Nat.le_refl _, fun _ _ _ _ h => h⟩
theorem KC.trans {A B C : World} (h : KC A B) (k : KC B C) : KC A C := ⟨Nat.le_trans h.size k.size, fun i c t f e => k.same i c t f (h.same i c t f e)⟩
theorem KC.of_grown {W W' : World} {row : Option Nat} (h : W.grownBy W' row) (hr : ∀ r, row = some r → ∃ o : Obj, W.heap[r]? = some o ∧ o.isCells = false) : KC W W' :=
  ⟨h.size, fun k c t f e => (h.block k (Array.getElem?_eq_some_iff.1 e).1 (fun q => by
    obtain ⟨o, ho, hc⟩ := hr k q.symm
    rw [e] at ho
    cases ho
    cases hc)).trans e⟩
theorem KC.blk {W W' : World} (h : KC W W') {p : Nat} {cs : Array Value} {t : TypeId} (b : Blk W p cs t) : Blk W' p cs t := h.same _ _ _ _ b
theorem KC.cell {W W' : World} (h : KC W W') {a : Addr} {v : Value} (e : W.cell? a = some v) : W'.cell? a = some v := by
  unfold World.cell? at e ⊢
  cases hb : W.heap[a.block]? with
  | none => rw [hb] at e; cases e
  | some o =>
    rw [hb] at e
    cases o with
    | cells c t f => rw [h.same _ _ _ _ hb]; exact e
    | _ => cases e
theorem KC.row {W W' : World} (h : KC W W') {base : Nat} {e : TypeId} {size n : Nat} {v : Value} {xs : List Value} (r : W.ownsRow base e size v n xs) : W'.ownsRow base e size v n xs := by
  refine ⟨r.1, ?_⟩
  rcases r.2 with q | ⟨g, cap, cur, hv, hg, hh, rest⟩
  · exact Or.inl q
  · exact Or.inr ⟨g, cap, cur, hv, hg, h.same _ _ _ _ hh, rest⟩
theorem KC.vs {W W' : World} (h : KC W W') {S R n : Nat} {v3 : Value} {pg ps gs pt B0 : Nat} {sn : List Bool} {st : List Stp} (v : VS W S R n v3 pg ps gs pt B0 sn st) : VS W' S R n v3 pg ps gs pt B0 sn st := by
  obtain ⟨u, tb, tr⟩ := v.tv
  exact ⟨h.blk v.gb, h.blk v.sb, h.blk v.sc, v.sl, ⟨u, h.blk tb, h.row tr⟩, v.b1, v.b2, v.b3, v.b4⟩
theorem KC.ss {w W W' : World} (h : KC W W') (hb : Below w.heap.size w W') {S R n : Nat} {v3 fw : Value} {sn : List Bool} {st : List Stp} (v : SS w W S R n v3 fw sn st) : SS w W' S R n v3 fw sn st :=
  ⟨h.vs v.vs, h.blk v.wb, h.blk v.r6, h.blk v.r7, h.blk v.vb, hb, Nat.le_trans v.sz h.size⟩
theorem KC.pc {W W' : World} (h : KC W W') {g n : Nat} {E : Nat → Nat × Nat} (p : PC W g n E) (h0 : 0 < n) : PC W' g n E := by
  have e0 := p.c0 0 h0
  obtain ⟨c, t, f, hb⟩ : ∃ c t f, W.heap[g]? = some (.cells c t f) := by
    unfold World.cell? at e0
    cases hb : W.heap[g]? with
    | none => simp only [hb] at e0; cases e0
    | some o =>
      simp only [hb] at e0
      cases o with
      | cells c t f => exact ⟨c, t, f, rfl⟩
      | _ => cases e0
  exact p.block h.size ((h.same _ _ _ _ hb).trans hb.symm)
theorem below_grown {B0 B : Nat} {w W W' : World} {row : Option Nat} (h : Below B0 w W) (g : W.grownBy W' row) (hs : B0 ≤ W.heap.size) (hB : B0 ≤ B) (hr : ∀ r, row = some r → B ≤ r) : Below B0 w W' :=
  ⟨g.os.trans h.os, g.tape.trans h.tape, g.output.trans h.output, Nat.le_trans h.size g.size, fun k hk => (g.block k (by omega) (fun e => by have := hr k e.symm; omega)).trans (h.block k hk)⟩

/-- What holds between the rounds of the inner loop, at stop i. -/
structure RI (w W : World) (S R n : Nat) (T : List Int) (v3 fw : Value) (sts : List (Nat × Nat)) (want : Nat × Nat → Nat × Nat → Bool) (i pi B : Nat) (ds : List Nat) (s : Stp) (pre : List (Nat × Nat)) (sn : List Bool) (st : List Stp) : Prop where
  ol : OL w W S R n T v3 fw sts want i pi ds sn st
  lt : i < st.length
  si : stAt st i = s
  pr : ∀ c ∈ pre, want (s.p, s.q) c = false ∧ wasSeen n sn (stepP S n (s.p, s.q) c).1 (stepP S n (s.p, s.q) c).2 = true
  dB : ∀ D, D ∈ ds → D < B
  sB : B ≤ W.heap.size
  wB : w.heap.size ≤ B
  pB : pi < B
theorem RI.own {w W W' : World} {S R n : Nat} {T : List Int} {v3 fw : Value} {sts : List (Nat × Nat)} {want : Nat × Nat → Nat × Nat → Bool} {i pi B : Nat} {ds : List Nat} {s : Stp} {pre : List (Nat × Nat)} {sn : List Bool} {st : List Stp} {row : Option Nat}
    (h : RI w W S R n T v3 fw sts want i pi B ds s pre sn st) (g : W.grownBy W' row) (hr : ∀ r, row = some r → B ≤ r ∧ ∃ o : Obj, W.heap[r]? = some o ∧ o.isCells = false) : RI w W' S R n T v3 fw sts want i pi B ds s pre sn st := by
  have k := KC.of_grown g (fun r e => (hr r e).2)
  have b := below_grown h.ol.ss.bl g (Nat.le_trans h.wB h.sB) h.wB (fun r e => (hr r e).1)
  refine ⟨⟨k.ss b h.ol.ss, h.ol.iv, h.ol.sw, h.ol.sr, k.blk h.ol.ib, h.ol.ip, h.ol.cl, h.ol.le, fun D hD => ?_, h.ol.nd, h.ol.dw⟩, h.lt, h.si, h.pr, h.dB, Nat.le_trans h.sB k.size, h.wB, h.pB⟩
  have hlt := h.dB D hD
  exact (g.block D (by have := h.sB; omega) (fun e => by have := (hr D e.symm).1; omega)).trans (h.ol.dm D hD)
theorem OL.next {w W W' : World} {S R n : Nat} {T : List Int} {v3 fw : Value} {sts : List (Nat × Nat)} {want : Nat × Nat → Nat × Nat → Bool} {i pi : Nat} {ds : List Nat} {sn : List Bool} {st : List Stp} (h : OL w W S R n T v3 fw sts want i pi ds sn st) (k : Below W.heap.size W W') : OL w W' S R n T v3 fw sts want i pi ds sn st :=
  ⟨h.ss.next k, h.iv, h.sw, h.sr, h.ib.of (k.block pi h.ib.lt), h.ip, h.cl, h.le, fun D hD => (k.block D (Array.getElem?_eq_some_iff.1 (h.dm D hD)).1).trans (h.dm D hD), h.nd, h.dw⟩
theorem RI.next {w W W' : World} {S R n : Nat} {T : List Int} {v3 fw : Value} {sts : List (Nat × Nat)} {want : Nat × Nat → Nat × Nat → Bool} {i pi B : Nat} {ds : List Nat} {s : Stp} {pre : List (Nat × Nat)} {sn : List Bool} {st : List Stp}
    (h : RI w W S R n T v3 fw sts want i pi B ds s pre sn st) (k : Below W.heap.size W W') : RI w W' S R n T v3 fw sts want i pi B ds s pre sn st := h.own (grown_of_below k) (fun r e => by cases e)
theorem keepsFrom_below {B : Nat} {W W' : World} (k : Below W.heap.size W W') : KeepsFrom B W W' := ⟨k.size, fun i o _ e _ => (k.block i (Array.getElem?_eq_some_iff.1 e).1).trans e⟩
theorem keepsFrom_trans {B : Nat} {A C D : World} (h : KeepsFrom B A C) (k : KeepsFrom B C D) : KeepsFrom B A D := ⟨Nat.le_trans h.size k.size, fun i o hB e ho => k.same i o hB (h.same i o hB e ho) ho⟩
/-- What was found. -/
structure FD (w W : World) (S n : Nat) (T : List Int) (sts : List (Nat × Nat)) (want : Nat × Nat → Nat × Nat → Bool) (B : Nat) (ds : List Nat) (root : Nat × Nat) (full : List (Nat × Nat)) (g c : Nat) : Prop where
  r6 : Blk W (w.heap.size + 2) #[.int .i64 (root.1 : Int), .int .i64 (root.2 : Int)] 127
  r7 : Blk W (w.heap.size + 3) #[.slice (some ⟨g, 0, none⟩) full.length c] 125
  pc : PC W g full.length (prAt full)
  gg : w.heap.size ≤ g
  hc : full.length ≤ c
  cm : c ≤ maxLen
  ro : root ∈ sts
  ok : okP S n T root full
  wa : ∃ cs d, full = cs ++ [d] ∧ want (endP S n root cs) d = true
  le : full.length ≤ 257
  bl : Below w.heap.size w W
  dm : ∀ D, D ∈ ds → W.heap[D]? = some (.deferred (some []))
  dB : ∀ D, D ∈ ds → D < B
  nd : ds.Nodup
  dw : ∀ D, D ∈ ds → w.heap.size ≤ D
  sB : B ≤ W.heap.size
  wB : w.heap.size ≤ B
theorem FD.own {w W W' : World} {S n : Nat} {T : List Int} {sts : List (Nat × Nat)} {want : Nat × Nat → Nat × Nat → Bool} {B : Nat} {ds : List Nat} {root : Nat × Nat} {full : List (Nat × Nat)} {g c : Nat} {row : Option Nat}
    (h : FD w W S n T sts want B ds root full g c) (gr : W.grownBy W' row) (hr : ∀ r, row = some r → B ≤ r ∧ ∃ o : Obj, W.heap[r]? = some o ∧ o.isCells = false) : FD w W' S n T sts want B ds root full g c := by
  have k := KC.of_grown gr (fun r e => (hr r e).2)
  have b := below_grown h.bl gr (Nat.le_trans h.wB h.sB) h.wB (fun r e => (hr r e).1)
  have h0 : 0 < full.length := by obtain ⟨cs, d, e, _⟩ := h.wa; rw [e]; simp
  refine ⟨k.blk h.r6, k.blk h.r7, k.pc h.pc h0, h.gg, h.hc, h.cm, h.ro, h.ok, h.wa, h.le, b, fun D hD => ?_, h.dB, h.nd, h.dw, Nat.le_trans h.sB k.size, h.wB⟩
  have hlt := h.dB D hD
  exact (gr.block D (by have := h.sB; omega) (fun e => by have := (hr D e.symm).1; omega)).trans (h.dm D hD)

theorem keepsFrom_set {B : Nat} (W : World) (a : Addr) (v : Value) : KeepsFrom B W (W.setCell a v) := (KeepsOthers.setCell W a v).from B
theorem RI.found {w W W6 : World} {S R n : Nat} {T : List Int} {v3 fw : Value} {sts : List (Nat × Nat)} {want : Nat × Nat → Nat × Nat → Bool} {i pi B : Nat} {ds : List Nat} {s : Stp} {pre : List (Nat × Nat)} {sn : List Bool} {st : List Stp}
    (h : RI w W S R n T v3 fw sts want i pi B ds s pre sn st) (c : Nat × Nat) (hc : OkWay S T (s.p, s.q) c) (hw : want (s.p, s.q) c = true) {root : Nat × Nat} {full : List (Nat × Nat)} (er : root = (chain st i).1) (ef : full = (chain st i).2 ++ [c]) (hN : st.length ≤ 256)
    {g2 c2 : Nat} (hb : Below W.heap.size W W6) (hg : W.heap.size ≤ g2) (h1 : full.length ≤ c2) (h2 : c2 ≤ maxLen) (pc : PC W6 g2 full.length (prAt full)) :
    FD w (((W6.setCell ⟨w.heap.size + 2, 0, none⟩ (.int .i64 (root.1 : Int))).setCell ⟨w.heap.size + 2, 1, none⟩ (.int .i64 (root.2 : Int))).setCell ⟨w.heap.size + 3, 0, none⟩ (.slice (some ⟨g2, 0, none⟩) full.length c2)) S n T sts want B ds root full g2 c2 ∧
    KeepsFrom B W (((W6.setCell ⟨w.heap.size + 2, 0, none⟩ (.int .i64 (root.1 : Int))).setCell ⟨w.heap.size + 2, 1, none⟩ (.int .i64 (root.2 : Int))).setCell ⟨w.heap.size + 3, 0, none⟩ (.slice (some ⟨g2, 0, none⟩) full.length c2)) := by
  obtain ⟨p1, p2, p3, p4⟩ := h.ol.iv.path (i + 1) i (by omega) h.lt
  rw [h.si] at p3
  have o6 := h.ol.ss.next hb
  have sz := o6.sz
  have wsz := h.ol.ss.sz
  have hlt := h.lt
  have hgs : ∀ (V : World) (k j : Nat) (u : Value), k ≠ w.heap.size + 2 → k ≠ w.heap.size + 3 → ((((W6.setCell ⟨w.heap.size + 2, 0, none⟩ (.int .i64 (root.1 : Int))).setCell ⟨w.heap.size + 2, 1, none⟩ (.int .i64 (root.2 : Int))).setCell ⟨w.heap.size + 3, 0, none⟩ (.slice (some ⟨g2, 0, none⟩) full.length c2))).heap[k]? = W6.heap[k]? := fun _ k _ _ e1 e2 => by
    rw [heap_setCell_other _ _ _ _ _ e2, heap_setCell_other _ _ _ _ _ e1, heap_setCell_other _ _ _ _ _ e1]
  have kf : KeepsFrom B W6 (((W6.setCell ⟨w.heap.size + 2, 0, none⟩ (.int .i64 (root.1 : Int))).setCell ⟨w.heap.size + 2, 1, none⟩ (.int .i64 (root.2 : Int))).setCell ⟨w.heap.size + 3, 0, none⟩ (.slice (some ⟨g2, 0, none⟩) full.length c2)) :=
    keepsFrom_trans (keepsFrom_trans (keepsFrom_set _ _ _) (keepsFrom_set _ _ _)) (keepsFrom_set _ _ _)
  refine ⟨⟨?_, ?_, pc.block (by simp) (hgs W6 _ 0 (.bool true) (by omega) (by omega)), by omega, h1, h2, by rw [er]; exact p1, ?_, ⟨(chain st i).2, c, ef, by rw [er, p3]; exact hw⟩, by rw [ef]; simp; omega, ?_, fun D hD => ?_, h.dB, h.ol.nd, h.ol.dw, ?_, h.wB⟩, keepsFrom_trans (keepsFrom_below hb) kf⟩
  · have := ((o6.r6.set 0 (.int .i64 (root.1 : Int))).set 1 (.int .i64 (root.2 : Int))).setOther (g := w.heap.size + 3) (i := 0) (by omega) (.slice (some ⟨g2, 0, none⟩) full.length c2)
    exact this
  · have := ((o6.r7.setOther (g := w.heap.size + 2) (i := 0) (by omega) (.int .i64 (root.1 : Int))).setOther (g := w.heap.size + 2) (i := 1) (by omega) (.int .i64 (root.2 : Int))).set 0 (.slice (some ⟨g2, 0, none⟩) full.length c2)
    exact this
  · rw [er, ef, okP_append, p3]
    exact ⟨p2, hc, trivial⟩
  · exact (((o6.bl.setCell (p := ⟨w.heap.size + 2, 0, none⟩) (by show w.heap.size ≤ w.heap.size + 2; omega) _).setCell (p := ⟨w.heap.size + 2, 1, none⟩) (by show w.heap.size ≤ w.heap.size + 2; omega) _).setCell (p := ⟨w.heap.size + 3, 0, none⟩) (by show w.heap.size ≤ w.heap.size + 3; omega) _)
  · have q := h.ol.dm D hD
    have q6 : W6.heap[D]? = some (.deferred (some [])) := (hb.block D (Array.getElem?_eq_some_iff.1 q).1).trans q
    rw [hgs W6 D 0 (.bool true) (fun e => by rw [e] at q6; have := (show W6.heap[w.heap.size + 2]? = _ from o6.r6).symm.trans q6; cases this) (fun e => by rw [e] at q6; have := (show W6.heap[w.heap.size + 3]? = _ from o6.r7).symm.trans q6; cases this)]
    exact q6
  · have := h.sB
    have := hb.size
    simp
    omega

/-- All stops are closed: nothing is wanted. -/
theorem OL.nothing {w W : World} {S R n : Nat} {T : List Int} {v3 fw : Value} {sts : List (Nat × Nat)} {want : Nat × Nat → Nat × Nat → Bool} {i pi : Nat} {ds : List Nat} {sn : List Bool} {st : List Stp} (h : OL w W S R n T v3 fw sts want i pi ds sn st) (hn : 0 < n) (hi : i = st.length) :
    ∀ u ∈ sts, ∀ cs c, okP S n T u cs → OkWay S T (endP S n u cs) c → want (endP S n u cs) c = false := by
  intro u hu cs c hp hw
  obtain ⟨j, hj, e⟩ := List.getElem_of_mem hu
  have e' : prAt sts j = u := by rw [← e]; simp [prAt, List.getD, hj]
  have r := h.sr j hj
  have q := h.sw j hj
  rw [e'] at r q
  refine none_wanted hn (fun p q => wasSeen n sn p q) want (fun v d h1 h2 hA hd => ?_) cs u c r.1 r.2 q hp hw
  obtain ⟨k, hk, k1, k2⟩ := (h.iv.seen v.1 v.2 h1 h2).1 hA
  have ev : ((stAt st k).p, (stAt st k).q) = v := by rw [k1, k2]
  have := h.cl k (by omega) d (by rw [ev]; exact hd)
  rw [ev] at this
  exact this

/-- One stop more is closed. -/
theorem RI.closed {w W W' : World} {S R n : Nat} {T : List Int} {v3 fw : Value} {sts : List (Nat × Nat)} {want : Nat × Nat → Nat × Nat → Bool} {i pi B : Nat} {ds : List Nat} {s : Stp} {pre : List (Nat × Nat)} {sn : List Bool} {st : List Stp}
    (h : RI w W S R n T v3 fw sts want i pi B ds s pre sn st) (hall : ∀ c, OkWay S T (s.p, s.q) c → c ∈ pre) {D : Nat} (hD : B ≤ D) (hK : W.heap[D]? = some (.deferred (some []))) (k : Below W.heap.size W W') (hb : Blk W' W.heap.size #[.int .i64 ((i + 1 : Nat) : Int)] 3) :
    OL w W' S R n T v3 fw sts want (i + 1) W.heap.size (D :: ds) sn st := by
  have o := h.ol.next k
  refine ⟨o.ss, o.iv, o.sw, o.sr, hb, h.ol.ss.sz, fun j hj c hc => ?_, by have := h.lt; omega, fun E hE => ?_, List.nodup_cons.2 ⟨fun q => by have := h.dB D q; omega, h.ol.nd⟩, fun E hE => ?_⟩
  · by_cases e : j = i
    · subst e
      rw [h.si] at hc ⊢
      exact h.pr c (hall c hc)
    · exact h.ol.cl j (by omega) c hc
  · rcases List.mem_cons.1 hE with rfl | hE
    · exact (k.block E (Array.getElem?_eq_some_iff.1 hK).1).trans hK
    · exact o.dm E hE
  · rcases List.mem_cons.1 hE with rfl | hE
    · exact Nat.le_trans h.wB hD
    · exact h.ol.dw E hE

end Go.Proofs.YtjjdjdodhedihaaDoor

