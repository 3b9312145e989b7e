/-
  What the last text of this claim leans on, part 31: Gd4.
-/
import Derived.Test.YtjjdjdodhedihaaDoorJg24
import Derived.Test.YtjjdjdodhedihaaDoorJg25
import Derived.Test.YtjjdjdodhedihaaDoorJg29
import Derived.Test.YtjjdjdodhedihaaDoorJg20
import Derived.Test.YtjjdjdodhedihaaDoorJg21
import Derived.Test.YtjjdjdodhedihaaDoorJg30
import Derived.Laws.AppendOwnNone
namespace Go.Proofs.YtjjdjdodhedihaaDoor
open Go.RowKit
set_option linter.unusedVariables false

theorem tabOk {S R n : Nat} {T : List Int} (hL : LineOk S R T) (hn : S ^ (2 * R) = n) : ∀ j, j < n * S → 0 ≤ T.getD j 0 ∧ T.getD j 0 < (S : Int) := fun j hj =>
  cellsOk_at hL.ok (by rw [hL.len, Nat.pow_succ, hn]; exact hj)
theorem garden_onto {S R n : Nat} {T : List Int} (hL : LineOk S R T) (hn : S ^ (2 * R) = n) (h : OrphanIs (follN S n T) S (2 ^ n - 1) none) : ¬ TwinAt S n T := by
  have s2 := hL.s2
  subst hn
  exact onto_no_twin (by omega) (tabOk hL rfl) (orphan_none (by omega) h)
theorem garden_cnt {S R n : Nat} {T : List Int} (hL : LineOk S R T) (hn : S ^ (2 * R) = n) (h : OrphanIs (follN S n T) S (2 ^ n - 1) none) (w : List Int) (hw : cellsOk S w) : cntN S n T w = n := by
  have s2 := hL.s2
  subst hn
  exact balanced (by omega) (tabOk hL rfl) (orphan_none (by omega) h) w hw
theorem onto_yes (S R n : Nat) (T : List Int) (ta : Option Addr) (tn tc : Nat) (w : World) (hL : LineOk S R T) (hT : ArgP w T ta tn tc) (he : askE S R [] = 0) (hn : S ^ (2 * R) = n) (hz : TzTab w) (hO : OrphanIs (follN S n T) S (2 ^ n - 1) none) :
    Calls Tryd.prog 11 #[.agg #[.int .i64 2, .int .i64 0, .int .i64 0, .int .i64 (S : Int), .int .i64 (R : Int), .slice ta tn tc, .string ⟨#[]⟩]] w fun e w' => e = .returned (.tuple #[.bool true, .slice none 0 0, .nilIface]) ∧ Below w.heap.size w w' := by
  refine (onto_ok S R n T ta tn tc w hL hT he hn hz).mono ?_
  have s2 := hL.s2
  rintro e w' ⟨h | h, b⟩
  · obtain ⟨wd, g, c, _, h2, _⟩ := h
    exact absurd (orphan_one (by omega) hO h2) (by simp)
  · exact ⟨h.1, b⟩
theorem onto_not (S R n : Nat) (T : List Int) (ta : Option Addr) (tn tc : Nat) (w : World) (hL : LineOk S R T) (hT : ArgP w T ta tn tc) (he : askE S R [] = 0) (hn : S ^ (2 * R) = n) (hz : TzTab w) (hO : ¬ OrphanIs (follN S n T) S (2 ^ n - 1) none) :
    Calls Tryd.prog 11 #[.agg #[.int .i64 2, .int .i64 0, .int .i64 0, .int .i64 (S : Int), .int .i64 (R : Int), .slice ta tn tc, .string ⟨#[]⟩]] w fun e w' => (∃ wd g c, e = .returned (.tuple #[.bool false, .slice (some ⟨g, 0, none⟩) wd.length c, .nilIface]) ∧ 0 < wd.length ∧ wd.length ≤ 65536 ∧ Cel w' g wd ∧ cellsOk S wd ∧ cntN S n T wd = 0) ∧ Below w.heap.size w w' := by
  refine (onto_ok S R n T ta tn tc w hL hT he hn hz).mono ?_
  have s2 := hL.s2
  rintro e w' ⟨h | h, b⟩
  · obtain ⟨wd, g, c, h1, h2, h3, h4, h5⟩ := h
    obtain ⟨q1, q2⟩ := orphan_some (by omega) h2
    exact ⟨⟨wd, g, c, h1, h3, h4, h5, q1, q2⟩, b⟩
  · exact absurd h.2 hO
theorem pre_yes (S R n : Nat) (T : List Int) (ta : Option Addr) (tn tc : Nat) (w : World) (hL : LineOk S R T) (hT : ArgP w T ta tn tc) (he : askE S R [] = 0) (hn : S ^ (2 * R) = n) (hO : OrphanIs (follN S n T) S (2 ^ n - 1) none) :
    Calls Tryd.prog 12 #[.agg #[.int .i64 2, .int .i64 0, .int .i64 0, .int .i64 (S : Int), .int .i64 (R : Int), .slice ta tn tc, .string ⟨#[]⟩]] w fun e w' => e = .returned (.tuple #[.bool true, .slice none 0 0, .slice none 0 0, .nilIface]) ∧ Below w.heap.size w w' := by
  refine (pre_ok S R n T ta tn tc w hL hT he hn).mono ?_
  have s2 := hL.s2
  have n0 : 0 < n := by rw [← hn]; exact Nat.pow_pos (by omega)
  rintro e w' ⟨h | h, b⟩
  · obtain ⟨p, full, v1, v2, _, _, _, h2⟩ := h
    exact absurd (is_twin_at n0 h2) (garden_onto hL hn hO)
  · exact ⟨h.1, b⟩
theorem pre_not (S R n : Nat) (T : List Int) (ta : Option Addr) (tn tc : Nat) (w : World) (hL : LineOk S R T) (hT : ArgP w T ta tn tc) (he : askE S R [] = 0) (hn : S ^ (2 * R) = n) (hT2 : ¬ NoTwin S n T) :
    Calls Tryd.prog 12 #[.agg #[.int .i64 2, .int .i64 0, .int .i64 0, .int .i64 (S : Int), .int .i64 (R : Int), .slice ta tn tc, .string ⟨#[]⟩]] w fun e w' => (∃ v1 v2, e = .returned (.tuple #[.bool false, v1, v2, .nilIface])) ∧ Below w.heap.size w w' := by
  refine (pre_ok S R n T ta tn tc w hL hT he hn).mono ?_
  rintro e w' ⟨h | h, b⟩
  · obtain ⟨p, full, v1, v2, h1, _⟩ := h
    exact ⟨⟨v1, v2, h1⟩, b⟩
  · exact absurd h.2 hT2
theorem noTwin_of_turns {S k : Nat} {T : List Int} (hS : 0 < S) (h : ∀ i, ¬ TurnAt S (S ^ k) T i) : NoTwin S (S ^ k) T := fun p hp cs c h1 h2 => by
  cases hw : wantTf S (S ^ k) (endP S (S ^ k) (p, p) cs) c with
  | false => rfl
  | true =>
    exfalso
    have ho : okP S (S ^ k) T (p, p) (cs ++ [c]) := by rw [okP_append]; exact ⟨h1, h2, trivial⟩
    obtain ⟨i, _, hi⟩ := twin_turn hS (leaves_on S (S ^ k) T (Nat.pow_pos hS) cs p c hp ho hw)
    exact h i hi
theorem one_some (S R n : Nat) (T : List Int) (ta : Option Addr) (tn tc : Nat) (w : World) (hL : LineOk S R T) (hT : ArgP w T ta tn tc) (he : askE S R [] = 0) (hn : S ^ (2 * R) = n) :
    Calls Tryd.prog 13 #[.agg #[.int .i64 2, .int .i64 0, .int .i64 0, .int .i64 (S : Int), .int .i64 (R : Int), .slice ta tn tc, .string ⟨#[]⟩]] w fun e w' => (∃ c v1 v2, e = .returned (.tuple #[.bool c, v1, v2, .nilIface]) ∧ (c = true → NoTwin S n T)) ∧ Below w.heap.size w w' := by
  refine (one_ok S R n T ta tn tc w hL hT he hn).mono ?_
  have s2 := hL.s2
  have n0 : 0 < n := by rw [← hn]; exact Nat.pow_pos (by omega)
  rintro e w' ⟨h | h, b⟩
  · obtain ⟨u, full, v1, v2, h1, _⟩ := h
    exact ⟨⟨false, v1, v2, h1, fun q => by cases q⟩, b⟩
  · refine ⟨⟨true, _, _, h.1, fun _ => ?_⟩, b⟩
    have := no_turn n0 h.2
    rw [← hn] at this ⊢
    exact noTwin_of_turns (by omega) this
def ParAns (S R : Nat) (ws : List Int) (x : Nat) (w : World) (e : Ending) (w' : World) : Prop :=
  ((askE S R ws ≠ 0 ∧ ∃ k : Int, e = .returned (.tuple #[.int .i64 0, .iface 85 (.int .i64 k)])) ∨ e = .returned (.tuple #[.int .i64 (x : Int), .nilIface])) ∧ Below w.heap.size w w'
theorem parents_is (S R n x : Nat) (T : List Int) (ta : Option Addr) (tn tc : Nat) (ws : List Int) (wa : Option Addr) (wc : Nat) (w : World) (hL : LineOk S R T) (hT : ArgP w T ta tn tc) (hW : ArgP w ws wa ws.length wc) (hn : S ^ (2 * R) = n) (hx : x ≤ 16) (hc : cellsOk S ws → cntN S n T ws = x) :
    Calls Tryd.prog 15 #[.agg #[.int .i64 2, .int .i64 0, .int .i64 0, .int .i64 (S : Int), .int .i64 (R : Int), .slice ta tn tc, .string ⟨#[]⟩], .slice wa ws.length wc] w (ParAns S R ws x w) := by
  by_cases he : askE S R ws = 0
  · have n0 : 0 < n := by rw [← hn]; exact Nat.pow_pos (by have := hL.s2; omega)
    have hp : parL S (S ^ (2 * R)) T ws = (x : Int) := by
      rw [hn, parL_is n0, hc (wordE_zero (askE_zero he).1).2]
      unfold big
      omega
    refine (ontoParents_ok S R T ta tn tc ws wa wc w hL hT hW he (x : Int) hp).mono ?_
    intro e w' hh
    rw [if_neg (show ¬ ((x : Int) > 1000000000000000000) by omega)] at hh
    exact ⟨Or.inr hh.1, hh.2⟩
  · refine (ontoParents_bad S R T ta tn tc ws wa wc w hL hT hW he).mono ?_
    rintro e w' ⟨h, b⟩
    exact ⟨Or.inl ⟨he, _, h⟩, b⟩
theorem long_of_ask {S R : Nat} {ws : List Int} (hR : askE S R [] = 0) (hw : cellsOk S ws) (h : askE S R ws ≠ 0) : 1000 < ws.length := by
  rcases Nat.lt_or_ge 1000 ws.length with c | c
  · exact c
  · exact absurd (askE_ok (wordE_ok (by omega) hw) (by have := (askE_zero hR).2; omega)) h

theorem gfact_line : LineOk 2 0 [0, 1] := ⟨by omega, by omega, by omega, by simp, by simp, fun x hx => by simp at hx; omega⟩
theorem gfact_none : OrphanIs (follN 2 1 [0, 1]) 2 (2 ^ 1 - 1) none := ⟨1, by unfold NoZero; decide, by decide⟩
theorem fact_onto (g : Nat) (W : World) (hA : ArgP W [0, 1] (some ⟨g, 0, none⟩) 2 2) (hz : TzTab W) :
    Calls Tryd.prog 11 #[.agg #[.int .i64 2, .int .i64 0, .int .i64 0, .int .i64 2, .int .i64 0, .slice (some ⟨g, 0, none⟩) 2 2, .string ⟨#[]⟩]] W fun e w' => e = .returned (.tuple #[.bool true, .slice none 0 0, .nilIface]) ∧ Below W.heap.size W w' :=
  onto_yes 2 0 1 [0, 1] (some ⟨g, 0, none⟩) 2 2 W gfact_line hA fact_ask rfl hz gfact_none

theorem own_ge {w : World} {base : Nat} {e : TypeId} {size n : Nat} {v : Value} {xs : List Value} (h : w.ownsRow base e size v n xs) : ∀ b, v.ownBlock = some b → base ≤ b := fun b eb => by
  rcases h.2 with ⟨rfl, _⟩ | ⟨g, cap, cur, rfl, hg, _⟩
  · simp [Value.ownBlock] at eb
  · obtain rfl : g = b := by simpa [Value.ownBlock] using eb
    exact hg
/-- A list that came in is appended to what is the call's own. -/
theorem wpList_append_list {ops : Array Oper} {rest : List Oper} {o : Oper} {a : Act} {Q : Exit → Act → World → Prop} (w : World) (hgd : o.guard = none) (s x : Operand)
    (ho : o.op = .call { callee := .builtin .append, args := #[s, x], argTypes := #[22, 22] })
    (base : Nat) (v : Value) (xs : List Int) (hs : a.eval s = v) (hown : w.ownsRow base 3 1 v xs.length (xs.map fun y => Value.int .i64 y))
    (ys : List Int) (ya : Option Addr) (yc : Nat) (hx : a.eval x = .slice ya ys.length yc) (hA : ArgP w ys ya ys.length yc)
    (hb : xs.length + ys.length ≤ 10000000) (w0 : World) (hB : Below base w0 w) (hbase : base ≤ w.heap.size)
    (h : ∀ v' w', w'.ownsRow base 3 1 v' (xs ++ ys).length ((xs ++ ys).map fun y => Value.int .i64 y) → Below base w0 w' → wpList Tryd.prog ops Q rest (a.put o.dst v') w') : wpList Tryd.prog ops Q (o :: rest) a w := by
  obtain ⟨i0, hi, hz0, hz1, hz2⟩ := info_parts info_int
  cases ya with
  | some ad =>
    refine wpList_append_own _ hgd s x 22 ho base 3 i0 (.int .i64 0) 1 8 Tryd.underlying22 hi hz0 hz1 hz2 rfl (by decide) v xs.length _ hs hown ad ys.length yc (ys.map fun y => Value.int .i64 y) hx (by simp) ?_ (fun u hu => by obtain ⟨y, -, rfl⟩ := List.mem_map.1 hu; rfl) (by unfold maxLen; omega) (by omega) hbase ?_
    · exact news_ints hA
    · intro v' w' h1 h2 _
      refine h v' w' ?_ (below_grown hB h2 hbase (Nat.le_refl _) (own_ge hown))
      rw [List.length_append, List.map_append]
      exact h1
  | none =>
    have hy : ys = [] := by
      cases ys with
      | nil => rfl
      | cons y r =>
        obtain ⟨g, off, e, _⟩ := hA.cells 0 (by simp)
        cases e
    subst hy
    refine wpList_plain hgd fun K hK => ?_
    have hrun : (Builtin.append_ #[22, 22] o.type #[v, .slice none 0 yc]).run Tryd.prog w = .ok v w := by
      rcases hown.2 with ⟨rfl, _⟩ | ⟨g, cap, cur, rfl, _, _, hnc, _⟩
      · simp [Builtin.append_, run_underlying Tryd.underlying22, sizeOf, typeInfo, hi, Builtin.lenOf, Builtin.firstCells]
      · simp [Builtin.append_, run_underlying Tryd.underlying22, sizeOf, typeInfo, hi, Builtin.lenOf, Builtin.firstCells, hnc, storeCells]
    have hx' : a.eval x = .slice none 0 yc := hx
    unfold Oper.wp
    simp [execOp, ho, resolve, invoke, builtin, hs, hx', hrun, Result.andThen]
    refine hK _ _ (h v w ?_ hB)
    rw [List.append_nil]
    exact hown
theorem ownsRow_argP {W : World} {B0 : Nat} {v : Value} {xs : List Int} (h : W.ownsRow B0 3 1 v xs.length (xs.map fun y => Value.int .i64 y)) (h0 : 0 < xs.length) (hm : xs.length ≤ maxLen) : ∃ g cap, v = .slice (some ⟨g, 0, none⟩) xs.length cap ∧ ArgP W xs (some ⟨g, 0, none⟩) xs.length cap := owns_arg h h0 hm
theorem cnt_twin {S R n : Nat} {T us : List Int} (hL : LineOk S R T) (hn : S ^ (2 * R) = n) (hc : cellsOk S us) (h0 : cntN S n T us = 0) : ¬ NoTwin S n T := fun hno => by
  have s2 := hL.s2
  have n0 : 0 < n := by rw [← hn]; exact Nat.pow_pos (by omega)
  have := no_twin_onto (by omega) n0 (tabOk hL hn) hno us hc
  omega
theorem garden_all {S n : Nat} {T a wd b : List Int} (h : cntN S n T wd = 0) : cntN S n T ((a ++ wd) ++ b) = 0 := by
  have h1 := cnt_join (S := S) (n := n) (T := T) (a ++ wd) b
  have h2 := cnt_join (S := S) (n := n) (T := T) a wd
  rw [h, Nat.mul_zero] at h2
  have h3 : cntN S n T (a ++ wd) = 0 := by omega
  rw [h3, Nat.zero_mul] at h1
  omega
end Go.Proofs.YtjjdjdodhedihaaDoor

