/-
  What the last text of this claim leans on, part 17: Af3.
-/
import Derived.Test.YtdkomlgkkepioaaDoorJw16
import Derived.Laws.AppendOwnNone
import Derived.Deep.CutRange
namespace Go.Proofs.YtdkomlgkkepioaaDoor
open Go.RowKit
set_option linter.unusedVariables false
set_option maxRecDepth 100000 in
set_option maxHeartbeats 3200000 in
theorem refColour_any (x y : Int) (xs : List SpotT) (a : Option Addr) (n c : Nat) (w : World) (hP : ArgS w xs a n c) :
    Calls Tryd.prog 74 #[.slice a n c, .int .i64 x, .int .i64 y] w fun e w' => e = .returned (.int .i64 (colL x y xs)) ∧ w' = w := by
  have HF := hide' (refFind_any x y xs a n c w hP)
  have fl := find_le x y xs
  have CL := hide' (show colL x y xs = if (findL x y xs).2 then (xs.getD (findL x y xs).1 (0, 0, 0)).2.2 else 0 from rfl)
  obtain ⟨f, hf⟩ : ∃ f, findL x y xs = f := ⟨_, rfl⟩
  rw [hf] at HF fl CL
  clear hf
  obtain ⟨i, has⟩ := f
  simp only at HF fl CL
  cases has
  · rw [if_neg (by simp)] at CL
    go_enter Tryd.func74, Tryd.ntmps74
    go_wp2_with (go_at_call 122; refine HF.out.mono ?_; rintro e w2 ⟨rfl, rfl⟩)
    go_ret
    rw [CL.out]
    exact ⟨rfl, rfl⟩
  · rw [if_pos rfl] at CL
    have il := fl.2 rfl
    obtain ⟨g, off, rfl, hg, c0, c1, c2⟩ := hP.cells i il
    rw [getD_at il] at CL
    have hl := hP.len
    have i1 : (i : Int) < (n : Int) := by omega
    have i0 : (0 : Int) ≤ (i : Int) := by omega
    clear fl hP hl
    go_enter Tryd.func74, Tryd.ntmps74
    go_wp2_with (go_at_call 122; refine HF.out.mono ?_; rintro e w2 ⟨rfl, rfl⟩)
    go_ret
    rw [CL.out]
    exact ⟨rfl, rfl⟩
theorem flS_append (xs ys : List SpotT) : flS (xs ++ ys) = flS xs ++ flS ys := by unfold flS; simp
theorem own_geS {w : World} {base : Nat} {e : TypeId} {size n : Nat} {v : Value} {xs : List Value} (h : w.ownsRow base e size v n xs) : ∀ b, v.ownBlock = some b → base ≤ b := fun b eb => by
  rcases h.2 with ⟨rfl, -⟩ | ⟨g, cap, cur, rfl, h1, -⟩
  · cases eb
  · cases eb; exact h1
theorem news_spots {w : World} {ys : List SpotT} {ad : Addr} {n c : Nat} (h : ArgS w ys (some ad) n c) : ∀ j u, (flS ys)[j]? = some u → w.cell? (ad.add j) = some u := fun j u hu => by
  have hj : j < ys.length * 3 := by
    rcases Nat.lt_or_ge j (ys.length * 3) with q | q
    · exact q
    · rw [List.getElem?_eq_none (by rw [flS_length]; exact q)] at hu; cases hu
  have hk : j / 3 < ys.length := by omega
  obtain ⟨g, off, e, hg, h1, h2, h3⟩ := h.cells (j / 3) hk
  cases e
  have ej : j = j / 3 * 3 + j % 3 := by omega
  have ea : (⟨g, off, none⟩ : Addr).add j = ⟨g, off + j, none⟩ := by
    unfold Addr.add
    split
    · rename_i hz; subst hz; rfl
    · simp
  rw [ej, flS_get ys (j / 3) (j % 3) hk (by omega)] at hu
  rw [ea]
  have m3 : j % 3 = 0 ∨ j % 3 = 1 ∨ j % 3 = 2 := by omega
  rcases m3 with m | m | m
  · rw [m] at hu
    rw [show off + j = off + j / 3 * 3 by omega, h1]; exact hu
  · rw [m] at hu
    rw [show off + j = off + j / 3 * 3 + 1 by omega, h2]; exact hu
  · rw [m] at hu
    rw [show off + j = off + j / 3 * 3 + 2 by omega, h3]; exact hu
theorem one_flS (ys : List SpotT) : ∀ u ∈ flS ys, u.oneCell' = true := fun u hu => by
  unfold flS at hu
  obtain ⟨p, -, hp⟩ := List.mem_flatMap.1 hu
  simp [encS] at hp
  rcases hp with rfl | rfl | rfl <;> rfl
/-- A list that came in, appended to one's own. -/
theorem wpList_append_spots {ops : Array Oper} {rest : List Oper} {o : Oper} {a : Act} {Q : Exit → Act → World → Prop} (w : World) (hgd : o.guard = none) (s x : Operand)
    (ho : o.op = .call { callee := .builtin .append, args := #[s, x], argTypes := #[48, 48] })
    (base : Nat) (v : Value) (xs : List SpotT) (hs : a.eval s = v) (hown : w.ownsRow base 136 3 v xs.length (flS xs))
    (ys : List SpotT) (ya : Option Addr) (ny yc : Nat) (hx : a.eval x = .slice ya ny yc) (hA : ArgS w ys ya ny yc)
    (hb : xs.length + ys.length ≤ 5000000000000) (w0 : World) (hB : Below base w0 w) (hbase : base ≤ w.heap.size)
    (h : ∀ v' w', w'.ownsRow base 136 3 v' (xs ++ ys).length (flS (xs ++ ys)) → Below base w0 w' → wpList Tryd.prog ops Q rest (a.put o.dst v') w') : wpList Tryd.prog ops Q (o :: rest) a w := by
  obtain ⟨i0, hi0, hz⟩ := Option.map_eq_some_iff.1 info_spot
  simp only [Prod.mk.injEq] at hz
  obtain ⟨hz0, hz1, hz2⟩ := hz
  have hl := hA.len
  subst hl
  cases ya with
  | some ad =>
    refine wpList_append_own _ hgd s x 48 ho base 136 i0 _ 3 24 Tryd.underlying48 hi0 hz0 hz1 hz2 rfl (by decide) v xs.length _ hs hown ad ys.length yc (flS ys) hx (flS_length ys) ?_ (one_flS ys) (by unfold maxLen; omega) (by omega) hbase ?_
    · exact news_spots hA
    · intro v' w' h1 h2 _
      refine h v' w' ?_ (hB.grown h2 hbase (own_geS hown))
      rw [List.length_append, flS_append]
      exact h1
  | none =>
    have hy : ys = [] := by
      cases ys with
      | nil => rfl
      | cons y r =>
        obtain ⟨g, off, e, _⟩ := hA.cells 0 (by simp)
        cases e
    subst hy
    refine wpList_plain hgd fun K hK => ?_
    have hrun : (Builtin.append_ #[48, 48] o.type #[v, .slice none 0 yc]).run Tryd.prog w = .ok v w := by
      rcases hown.2 with ⟨rfl, _⟩ | ⟨g, cap, cur, rfl, _, _, hnc, _⟩
      · simp [Builtin.append_, run_underlying Tryd.underlying48, sizeOf, typeInfo, hi0, Builtin.lenOf, Builtin.firstCells]
      · simp [Builtin.append_, run_underlying Tryd.underlying48, sizeOf, typeInfo, hi0, Builtin.lenOf, Builtin.firstCells, hnc, storeCells]
    have hx' : a.eval x = .slice none 0 yc := hx
    unfold Oper.wp
    simp [execOp, ho, resolve, invoke, builtin, hs, hx', hrun, Result.andThen]
    exact hK _ _ (h v w (by simpa using hown) hB)
theorem ArgS.take {w : World} {xs : List SpotT} {a : Option Addr} {n c : Nat} (h : ArgS w xs a n c) {i : Nat} (hi : i ≤ xs.length) (c' : Nat) : ArgS w (xs.take i) a i c' :=
  ⟨by simp; omega, by have := h.max; have := h.len; omega, fun k hk => by
    have hk' : k < i := by simp at hk; omega
    obtain ⟨g, off, e, hg, h1, h2, h3⟩ := h.cells k (by omega)
    refine ⟨g, off, e, hg, ?_, ?_, ?_⟩ <;> simp only [List.getElem_take] <;> assumption⟩
theorem ArgS.drop {w : World} {xs : List SpotT} {g off : Nat} {n c : Nat} (h : ArgS w xs (some ⟨g, off, none⟩) n c) {i : Nat} (hi : i ≤ xs.length) (m : Nat) (hm : m = n - i) (c' : Nat) : ArgS w (xs.drop i) (some ⟨g, off + i * 3, none⟩) m c' :=
  ⟨by have := h.len; simp; omega, by have := h.max; omega, fun k hk => by
    have hk' : i + k < xs.length := by simp at hk; omega
    obtain ⟨g', off', e, hg, h1, h2, h3⟩ := h.cells (i + k) hk'
    cases e
    refine ⟨g, off + i * 3, rfl, hg, ?_, ?_, ?_⟩ <;> simp only [List.getElem_drop]
    · rw [show off + i * 3 + k * 3 = off + (i + k) * 3 by omega]; exact h1
    · rw [show off + i * 3 + k * 3 + 1 = off + (i + k) * 3 + 1 by omega]; exact h2
    · rw [show off + i * 3 + k * 3 + 2 = off + (i + k) * 3 + 2 by omega]; exact h3⟩
theorem ArgS.nothing (w : World) (a : Option Addr) (c : Nat) : ArgS w [] a 0 c := ⟨rfl, by omega, fun k hk => by cases hk⟩
/-- What paint answers. -/
def PaintP (ys : List SpotT) (w : World) (e : Ending) (w' : World) : Prop := ∃ v, e = .returned v ∧ w'.ownsRow w.heap.size 136 3 v ys.length (flS ys) ∧ Below w.heap.size w w'
end Go.Proofs.YtdkomlgkkepioaaDoor

