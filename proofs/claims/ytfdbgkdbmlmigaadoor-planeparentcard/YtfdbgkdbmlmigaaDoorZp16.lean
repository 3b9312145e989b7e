/-
  What the last text of this claim leans on, part 16: Pp6.
-/
import Derived.Test.YtfdbgkdbmlmigaaDoorZp15
import Derived.OwnWalk
import Derived.Deep.DeepAppendRoom
namespace Go.Proofs.YtfdbgkdbmlmigaaDoor
open Go.RowKit
set_option linter.unusedVariables false
/-- What a search is about. -/
structure SeC where
  k : Int
  st : Int
  ra : Int
  born : Nat
  stay : Nat
  ta : Option Addr
  tn : Nat
  tc : Nat
  s : ByteArray
  W2 : Nat
  H2 : Nat
  wa : Option Addr
  wn : Nat
  wc : Nat
  wt : Nat → Nat
  pc : Nat → Int
  sb : Nat
  mb : Nat
  Z : Nat
  B : Nat
  w0 : World
def SeC.arr (c : SeC) (rv : Value) : Array Value := seV c.k c.st c.ra c.born c.stay c.ta c.tn c.tc c.s c.W2 c.H2 (.slice c.wa c.wn c.wc) rv (.map (some c.mb))
def SeC.T (c : SeC) : Nat := c.H2 * c.W2
def SeC.ok (c : SeC) : (Nat → Nat) → Nat → Prop := okP c.born c.stay c.W2 c.pc
/-- What holds of it from the beginning. -/
structure SeOk (c : SeC) : Prop where
  born : c.born ≤ 511
  stay : c.stay ≤ 511
  w2 : 2 ≤ c.W2
  w7 : c.W2 ≤ 7
  h7 : c.H2 ≤ 7
  sbZ : c.sb < c.Z
  mbZ : c.mb < c.Z
  ne : c.sb ≠ c.mb
  sbB : c.B ≤ c.sb
  mbB : c.B ≤ c.mb
  want : ∀ y, y + 2 < c.H2 → ∃ g, c.wa = some ⟨g, 0, none⟩ ∧ g < c.Z ∧ g ≠ c.sb ∧ g ≠ c.mb ∧ c.w0.cell? ⟨g, y, none⟩ = some (.int .i64 (c.wt y : Int))
  wn : c.H2 ≤ c.wn + 2
  small : ∀ y, c.wt y < 128
  cells : ∀ y x, y + 2 < c.H2 → x < c.W2 - 2 → c.pc (y * (c.W2 - 2) + x) = (bitN (c.wt y) (c.W2 - 3 - x) : Int)
structure FSt (c : SeC) (V : World) (n : Nat) (rv : Value) (rs : List Nat) : Prop where
  ser : V.heap[c.sb]? = some (.cells (c.arr rv) 60 (0, 0))
  row : V.ownsRow c.Z 3 1 rv rs.length (rs.map fun x : Nat => Value.int .i64 (x : Int))
  map : ∃ D : DataW Unit, V.ownsMap Tryd.prog 63 unitElem c.mb n D ∧ Maps.IsMap D ∧ ∀ r a h, r < 1024 → a < 1024 → h < 1024 → Maps.has D (kE r a h) = true → DeadR c.T c.W2 c.ok r a h
  oth : ∀ j, j < c.Z → j ≠ c.sb → j ≠ c.mb → V.heap[j]? = c.w0.heap[j]?
  bel : Below c.B c.w0 V
  siz : c.Z ≤ V.heap.size
/-- What a part of a search leaves as it was: ends of rows. -/
def KpR (V V' : World) : Prop := ∀ (j : Nat) (cur : Array Value), V.heap[j]? = some (.cells cur 63 (0, 0)) → V'.heap[j]? = some (.cells cur 63 (0, 0))
theorem KpR.refl (V : World) : KpR V V := fun _ _ h => h
theorem KpR.trans {V V1 V2 : World} (h : KpR V V1) (g : KpR V1 V2) : KpR V V2 := fun j cur e => g j cur (h j cur e)
theorem KpR.below {V V' : World} (hb : Below V.heap.size V V') : KpR V V' := fun j cur e => (hb.block j (lt_of_block e)).trans e
theorem ends_ne {V : World} {j b : Nat} {cur cur' : Array Value} {t : TypeId} (h1 : V.heap[j]? = some (.cells cur 63 (0, 0))) (h2 : V.heap[b]? = some (.cells cur' t (0, 0))) (ht : t ≠ 63) : j ≠ b := fun e => by
  subst e
  rw [h1] at h2
  injection h2 with h2
  injection h2 with _ h3 _
  exact ht h3.symm
theorem own_keep {w V : World} {base : Nat} {e : TypeId} {size n : Nat} {v : Value} {xs : List Value} (h : w.ownsRow base e size v n xs) (hb : ∀ b, v.ownBlock = some b → V.heap[b]? = w.heap[b]?) : V.ownsRow base e size v n xs := by
  refine ⟨h.1, ?_⟩
  rcases h.2 with h | ⟨g, cap, cur, e1, e2, e3, e4⟩
  · exact Or.inl h
  · exact Or.inr ⟨g, cap, cur, e1, e2, (hb g (by rw [e1]; rfl)).trans e3, e4⟩
theorem own_lt {w : World} {base : Nat} {e : TypeId} {size n : Nat} {v : Value} {xs : List Value} (h : w.ownsRow base e size v n xs) : ∀ b, v.ownBlock = some b → base ≤ b ∧ b < w.heap.size := fun k hk => by
  rcases h.2 with ⟨rfl, _⟩ | ⟨g, cap, cur, rfl, hb, hg, _⟩
  · cases hk
  · simp [Value.ownBlock] at hk; subst hk; exact ⟨hb, lt_of_block hg⟩
theorem map_keep {V V' : World} {b n : Nat} {D : DataW Unit} (h : V.ownsMap Tryd.prog 63 unitElem b n D) (hb : V'.heap[b]? = V.heap[b]?) : V'.ownsMap Tryd.prog 63 unitElem b n D := by
  obtain ⟨es, clock, h1, F, hs, hD⟩ := h
  exact ⟨es, clock, hb.trans h1, F, hs, hD⟩
theorem FSt.below {c : SeC} (hc : SeOk c) {V V' : World} {n : Nat} {rv : Value} {rs : List Nat} (h : FSt c V n rv rs) (hb : Below V.heap.size V V') : FSt c V' n rv rs := by
  have s1 := lt_of_block h.ser
  refine ⟨(hb.block _ s1).trans h.ser, own_keep h.row (fun b e => hb.block b (own_lt h.row b e).2), ?_, fun j h1 h2 h3 => (hb.block j (Nat.lt_of_lt_of_le h1 h.siz)).trans (h.oth j h1 h2 h3), h.bel.trans (hb.mono (by have := hc.sbB; omega)), Nat.le_trans h.siz hb.size⟩
  obtain ⟨D, h1, h2, h3⟩ := h.map
  exact ⟨D, map_keep h1 (hb.block _ h1.lt), h2, h3⟩
theorem FSt.wantC {c : SeC} (hc : SeOk c) {V : World} {n : Nat} {rv : Value} {rs : List Nat} (h : FSt c V n rv rs) {y : Nat} (hy : y + 2 < c.H2) : ∃ g, c.wa = some ⟨g, 0, none⟩ ∧ V.cell? ⟨g, y, none⟩ = some (.int .i64 (c.wt y : Int)) := by
  obtain ⟨g, e, g1, g2, g3, g4⟩ := hc.want y hy
  exact ⟨g, e, (World.cell?_of_block (a := ⟨g, y, none⟩) (h.oth g g1 g2 g3)).trans g4⟩
theorem FSt.rowL {c : SeC} {V : World} {n : Nat} {a : Option Addr} {m q : Nat} {rs : List Nat} (h : FSt c V n (.slice a m q) rs) : RowL V rs a ∧ m = rs.length := by
  rcases h.row.2 with ⟨e, h0⟩ | ⟨g, cap, cur, e, e2, e3, e4, e5, e6, e7⟩
  · cases e
    exact ⟨fun k hk => by omega, h0.symm⟩
  · cases e
    refine ⟨fun k hk => ⟨g, rfl, ?_⟩, rfl⟩
    have e1 := congrArg (fun l => l[k]?) e7
    simp only [Nat.mul_one] at e1
    rw [List.getElem?_take_of_lt hk, Array.getElem?_toList] at e1
    rw [cell_of_row V _ k _ _ _ e3, e1]
    simp [List.getD, hk]
theorem FSt.slice {c : SeC} {V : World} {n : Nat} {rv : Value} {rs : List Nat} (h : FSt c V n rv rs) : ∃ a q, rv = .slice a rs.length q ∧ rs.length ≤ q ∧ q ≤ maxLen := by
  rcases h.row.2 with ⟨e, h0⟩ | ⟨g, cap, cur, e, e2, e3, e4, e5, e6, e7⟩
  · exact ⟨none, 0, by rw [e, h0], by omega, by omega⟩
  · exact ⟨_, cap, e, e4, e5⟩
theorem own_not {w : World} {base : Nat} {e : TypeId} {size n : Nat} {v : Value} {xs : List Value} (h : w.ownsRow base e size v n xs) {j : Nat} (hj : j < base) : v.ownBlock ≠ some j := fun q => by have := (own_lt h j q).1; omega
/-- Cell 10 of a search is written. -/
theorem arr_set (c : SeC) (rv rv' : Value) : (c.arr rv).setIfInBounds 10 rv' = c.arr rv' := by
  unfold SeC.arr seV
  rfl
theorem FSt.push {c : SeC} (hc : SeOk c) {V V1 : World} {n v : Nat} {rv rv1 : Value} {rs : List Nat} (h : FSt c V n rv rs) (hg : (V.alloc (.cells #[.int .i64 (v : Int)] 3)).grownBy V1 rv.ownBlock) (ho : V1.ownsRow c.Z 3 1 rv1 (rs.length + 1) (rs.map (fun x : Nat => Value.int .i64 (x : Int)) ++ [.int .i64 (v : Int)])) :
    FSt c (V1.setCell ⟨c.sb, 10, none⟩ rv1) n rv1 (rs ++ [v]) ∧ KpR V (V1.setCell ⟨c.sb, 10, none⟩ rv1) := by
  have sz : V.heap.size + 1 ≤ V1.heap.size := by have := hg.size; simpa using this
  have k1 : ∀ j, j < V.heap.size → rv.ownBlock ≠ some j → V1.heap[j]? = V.heap[j]? := fun j hj hr => (hg.block j (by simp; omega) (fun e => hr e.symm)).trans (heap_alloc_old V _ hj)
  have sV : c.sb < V.heap.size := lt_of_block h.ser
  have s1 := (k1 c.sb sV (own_not h.row hc.sbZ)).trans h.ser
  have oth : ∀ j, j ≠ c.sb → (V1.setCell ⟨c.sb, 10, none⟩ rv1).heap[j]? = V1.heap[j]? := fun j hj => Below.heap_setCell _ _ _ _ (by simpa using hj)
  obtain ⟨D, m1, m2, m3⟩ := h.map
  have bl : Below c.B c.w0 V1 := by
    refine (h.bel.alloc (by have := hc.sbB; omega) _).grown hg (by have := hc.sbB; simp; omega) (fun k e => ?_)
    have := (own_lt h.row k e).1
    have := hc.sbB; have := hc.sbZ
    omega
  refine ⟨⟨?_, ?_, ⟨D, map_keep m1 ?_, m2, m3⟩, fun j h1 h2 h3 => ?_, bl.setCell hc.sbB _, ?_⟩, fun j cur e => ?_⟩
  · rw [heap_setCell_same _ _ _ _ _ _ s1, arr_set]
  · rw [List.map_append, List.length_append]
    refine own_keep ho (fun b e => oth b (fun q => ?_))
    have := (own_lt ho b e).1
    have := hc.sbZ
    omega
  · rw [oth _ (fun e => hc.ne e.symm)]
    exact k1 _ m1.lt (own_not h.row hc.mbZ)
  · rw [oth j h2, k1 j (Nat.lt_of_lt_of_le h1 h.siz) (own_not h.row h1)]
    exact h.oth j h1 h2 h3
  · have := h.siz
    show c.Z ≤ (V1.setCell _ _).heap.size
    simp; omega
  · have h1 := ends_ne e h.ser (by decide)
    rw [oth j h1, k1 j (lt_of_block e) (fun q => ?_)]
    · exact e
    · rcases h.row.2 with ⟨e1, _⟩ | ⟨g, cap, cur', e1, _, e3, _⟩
      · rw [e1] at q; cases q
      · rw [e1] at q
        simp [Value.ownBlock] at q
        subst q
        exact ends_ne e e3 (by decide) rfl
theorem own_less {w : World} {base : Nat} {a : Option Addr} {q n : Nat} {rs : List Nat} {v : Nat} (h : w.ownsRow base 3 1 (.slice a (rs.length + 1) q) (rs.length + 1) ((rs ++ [v]).map fun x : Nat => Value.int .i64 (x : Int))) : w.ownsRow base 3 1 (.slice a rs.length q) rs.length (rs.map fun x : Nat => Value.int .i64 (x : Int)) := by
  refine ⟨by simp, ?_⟩
  rcases h.2 with ⟨e, h0⟩ | ⟨g, cap, cur, e, e2, e3, e4, e5, e6, e7⟩
  · omega
  · cases e
    refine Or.inr ⟨g, _, cur, rfl, e2, e3, by omega, e5, e6, ?_⟩
    have := congrArg (List.take rs.length) e7
    rw [List.take_take, Nat.mul_one, Nat.min_eq_left (by omega)] at this
    rw [Nat.mul_one, this]
    simp
theorem FSt.pop {c : SeC} (hc : SeOk c) {V : World} {n v q : Nat} {a : Option Addr} {rs : List Nat} (h : FSt c V n (.slice a (rs.length + 1) q) (rs ++ [v])) :
    FSt c (V.setCell ⟨c.sb, 10, none⟩ (.slice a rs.length q)).drew n (.slice a rs.length q) rs ∧ KpR V (V.setCell ⟨c.sb, 10, none⟩ (.slice a rs.length q)).drew := by
  have oth : ∀ j, j ≠ c.sb → (V.setCell ⟨c.sb, 10, none⟩ (.slice a rs.length q)).drew.heap[j]? = V.heap[j]? := fun j hj => Below.heap_setCell _ _ _ _ (by simpa using hj)
  obtain ⟨D, m1, m2, m3⟩ := h.map
  have hr := h.row
  rw [List.length_append] at hr
  refine ⟨⟨?_, own_keep (own_less (n := n) hr) (fun b e => oth b (fun q => ?_)), ⟨D, map_keep m1 (oth _ (fun e => hc.ne e.symm)), m2, m3⟩, fun j h1 h2 h3 => (oth j h2).trans (h.oth j h1 h2 h3), (h.bel.setCell hc.sbB _).drew, ?_⟩, fun j cur e => (oth j (ends_ne e h.ser (by decide))).trans e⟩
  · show (V.setCell _ _).heap[c.sb]? = _
    rw [heap_setCell_same _ _ _ _ _ _ h.ser, arr_set]
  · have := (own_lt (own_less (n := n) hr) b e).1
    have := hc.sbZ
    omega
  · show c.Z ≤ (V.setCell _ _).heap.size
    simp; exact h.siz
theorem FSt.know {c : SeC} (hc : SeOk c) {V V1 : World} {n : Nat} {rv : Value} {rs : List Nat} (h : FSt c V n rv rs) {D D' : DataW Unit} (hm : V1.ownsMap Tryd.prog 63 unitElem c.mb (n + 1) D') (hi : Maps.IsMap D') (hd : ∀ r a h, r < 1024 → a < 1024 → h < 1024 → Maps.has D' (kE r a h) = true → DeadR c.T c.W2 c.ok r a h) (ht : V.mapTurned V1 c.mb) :
    FSt c V1 (n + 1) rv rs ∧ KpR V V1 := by
  have g := ht.grown
  have k1 : ∀ j, j < V.heap.size → j ≠ c.mb → V1.heap[j]? = V.heap[j]? := fun j hj hn => g.block j hj (fun e => hn (by injection e))
  have sV : c.sb < V.heap.size := lt_of_block h.ser
  refine ⟨⟨(k1 _ sV hc.ne).trans h.ser, own_keep h.row (fun b e => k1 b (own_lt h.row b e).2 (fun q => ?_)), ⟨D', hm, hi, hd⟩, fun j h1 h2 h3 => (k1 j (Nat.lt_of_lt_of_le h1 h.siz) h3).trans (h.oth j h1 h2 h3), h.bel.grown g (by have := hc.sbB; omega) (fun k e => by injection e with e; subst e; exact hc.mbB), Nat.le_trans h.siz g.size⟩, fun j cur e => (k1 j (lt_of_block e) (fun q => ?_)).trans e⟩
  rotate_left
  · subst q
    obtain ⟨es, clock, _, _, hm', _⟩ := ht
    rw [e] at hm'; cases hm'
  have := (own_lt h.row b e).1
  have := hc.mbZ
  omega
end Go.Proofs.YtfdbgkdbmlmigaaDoor

