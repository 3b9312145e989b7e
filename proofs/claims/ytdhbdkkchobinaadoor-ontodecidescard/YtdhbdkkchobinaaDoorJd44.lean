/-
  What the last text of this claim leans on, part 44: Ok3.
-/
import Derived.Test.YtdhbdkkchobinaaDoorJd35
import Derived.Test.YtdhbdkkchobinaaDoorJd22
import Derived.Laws.AppendOwnNone
namespace Go.Proofs.YtdhbdkkchobinaaDoor
open Go.RowKit
set_option linter.unusedVariables false

def nxtF (S n : Nat) (T : List Int) (c m p x q : Nat) : Bool := ((List.range p).any fun p' => m.testBit p' && leadB S n T c p' q) || (m.testBit p && (List.range x).any fun x' => decide (T.getD (p * S + x') 0 = (c : Int)) && decide ((p * S + x') % n = q))
def nxtL (S n : Nat) (T : List Int) (c m p x : Nat) : List Bool := (List.range n).map (nxtF S n T c m p x)
theorem nxtL_length (S n : Nat) (T : List Int) (c m p x : Nat) : (nxtL S n T c m p x).length = n := by simp [nxtL]
theorem nxtL_zero (S n : Nat) (T : List Int) (c m : Nat) : nxtL S n T c m 0 0 = List.replicate n false := by
  apply List.ext_getElem (by simp [nxtL])
  intro j h1 h2
  simp [nxtL, nxtF]
theorem nxtL_skip {S n : Nat} {T : List Int} {c m p : Nat} (h : m.testBit p = false) : nxtL S n T c m (p + 1) 0 = nxtL S n T c m p 0 := by
  apply List.ext_getElem (by simp [nxtL])
  intro j h1 h2
  simp [nxtL, nxtF, List.range_succ, h]
theorem nxtL_over {S n : Nat} {T : List Int} {c m p : Nat} (h : m.testBit p = true) : nxtL S n T c m (p + 1) 0 = nxtL S n T c m p S := by
  apply List.ext_getElem (by simp [nxtL])
  intro j h1 h2
  simp [nxtL, nxtF, List.range_succ, h, leadB]
theorem nxtL_same {S n : Nat} {T : List Int} {c m p x : Nat} (h : T.getD (p * S + x) 0 ≠ (c : Int)) : nxtL S n T c m p (x + 1) = nxtL S n T c m p x := by
  apply List.ext_getElem (by simp [nxtL])
  intro j h1 h2
  have : decide (T.getD (p * S + x) 0 = (c : Int)) = false := by simp only [decide_eq_false_iff_not]; exact h
  simp only [nxtL, nxtF, List.getElem_map, List.getElem_range, List.range_succ, List.any_append, List.any_cons, List.any_nil, this, Bool.false_and, Bool.or_false]
theorem nxtL_more {S n : Nat} {T : List Int} {c m p x : Nat} (hb : m.testBit p = true) (h : T.getD (p * S + x) 0 = (c : Int)) : nxtL S n T c m p (x + 1) = (nxtL S n T c m p x).set ((p * S + x) % n) true := by
  apply List.ext_getElem (by simp [nxtL])
  intro j h1 h2
  rw [List.getElem_set]
  simp only [nxtL, nxtF, List.getElem_map, List.getElem_range, List.range_succ, List.any_append, List.any_cons, List.any_nil, h, hb, decide_true, Bool.true_and, Bool.or_false]
  by_cases e : (p * S + x) % n = j
  · simp [e]
  · simp [e]
theorem nxtL_full {S n : Nat} {T : List Int} {c m q : Nat} (hq : q < n) (hm : m < 2 ^ n) : (nxtL S n T c m n 0).getD q false = anyB S n T c m q := by
  simp [nxtL, nxtF, List.getD, hq, anyB]
/-- A number, from its high bits down. -/
theorem bits_down (X p : Nat) : X / 2 ^ p = X / 2 ^ (p + 1) * 2 + if X.testBit p then 1 else 0 := by
  have h1 : X / 2 ^ (p + 1) = X / 2 ^ p / 2 := by rw [Nat.pow_succ, Nat.div_div_eq_div_mul]
  have h2 : X.testBit p = decide (X / 2 ^ p % 2 = 1) := Nat.testBit_eq_decide_div_mod_eq
  rw [h1, h2]
  by_cases e : X / 2 ^ p % 2 = 1
  · simp [e]; omega
  · simp [e]; omega

theorem rows_apart {W : World} {b1 b2 s1 s2 n1 n2 : Nat} {e1 e2 : TypeId} {v1 v2 : Value} {x1 x2 : List Value} (h1 : W.ownsRow b1 e1 s1 v1 n1 x1) (h2 : W.ownsRow b2 e2 s2 v2 n2 x2) (ne : e1 ≠ e2) : ∀ k, v1.ownBlock = some k → v2.ownBlock ≠ some k := fun k q1 q2 => by
  rcases h1.2 with ⟨rfl, _⟩ | ⟨g, cap, cur, rfl, _, hg, _⟩
  · simp [Value.ownBlock] at q1
  · rcases h2.2 with ⟨rfl, _⟩ | ⟨g', cap', cur', rfl, _, hg', _⟩
    · simp [Value.ownBlock] at q2
    · obtain rfl : g = k := by simpa [Value.ownBlock] using q1
      obtain rfl : g' = g := by simpa [Value.ownBlock] using q2
      have := hg.symm.trans hg'
      injection this with this
      injection this with _ this _
      exact ne this
theorem row_size {W : World} {b s n k : Nat} {e : TypeId} {v : Value} {x : List Value} (h : W.ownsRow b e s v n x) (q : v.ownBlock = some k) : b ≤ k ∧ k < W.heap.size := by
  rcases h.2 with ⟨rfl, _⟩ | ⟨g, cap, cur, rfl, hb, hg, _⟩
  · simp [Value.ownBlock] at q
  · obtain rfl : g = k := by simpa [Value.ownBlock] using q
    exact ⟨hb, (Array.getElem?_eq_some_iff.1 hg).1⟩
/-- What Orphan holds. -/
structure RO (w wr : World) (S R N : Nat) (vt : Value) (gb B : Nat) (sv wv : Value) (Q : List En) (ws : List Value) : Prop where
  rb : RB w.heap.size S R vt wr
  bn : ∀ k, k < N → wr.cell? ⟨gb, k, none⟩ = some (.bool (decide (k ∈ Q.map En.set)))
  bf : ∀ k, wr.frozen? ⟨gb, k, none⟩ = false
  sr : wr.ownsRow B 3 1 sv Q.length (Q.map fun e => Value.int .i64 (e.set : Int))
  wr_ : wr.ownsRow B 22 1 wv Q.length ws
  wd : ∀ (i : Nat) (e : En), Q[i]? = some e → ∃ v, ws[i]? = some v ∧ wr.ownsRow B 3 1 v e.wd.length (e.wd.map fun y => Value.int .i64 y) ∧ (∀ k, v.ownBlock = some k → sv.ownBlock ≠ some k)
  bl : Below w.heap.size w wr
  o1 : w.heap.size < gb
  o2 : gb < B
  o3 : B ≤ wr.heap.size
theorem RO.below {w wr wr' : World} {S R N : Nat} {vt : Value} {gb B : Nat} {sv wv : Value} {Q : List En} {ws : List Value} (h : RO w wr S R N vt gb B sv wv Q ws) (hb : Below wr.heap.size wr wr') : RO w wr' S R N vt gb B sv wv Q ws := by
  have a2 := h.o2
  have a3 := h.o3
  refine ⟨h.rb.next hb, fun k hk => (World.cell?_of_block (w := wr) (a := ⟨gb, k, none⟩) (hb.block gb (by omega))).trans (h.bn k hk), fun k => (World.frozen?_of_block (w := wr) (a := ⟨gb, k, none⟩) (hb.block gb (by omega))).trans (h.bf k), h.sr.kept (grown_of_below hb) (Classical.em _), h.wr_.kept (grown_of_below hb) (Classical.em _), fun i e he => ?_, h.bl.trans (hb.mono h.bl.size), h.o1, a2, by have := hb.size; omega⟩
  obtain ⟨v, h1, h2, h3⟩ := h.wd i e he
  exact ⟨v, h1, h2.kept (grown_of_below hb) (Classical.em _), h3⟩
/-- One set more, and its word. -/
theorem RO.push {w W4 W6 W7 : World} {S R N : Nat} {vt : Value} {gb B base s : Nat} {sv wv sv' wv' v2 : Value} {Q : List En} {ws : List Value} {x : En} {X1 X2 : Obj} (h : RO w W4 S R N vt gb B sv wv Q ws) (hx : x.set = s) (hs : s < N)
    (hv2 : W4.ownsRow base 3 1 v2 x.wd.length (x.wd.map fun y => Value.int .i64 y)) (hbB : B ≤ base) (hsv : ∀ k, sv.ownBlock = some k → k < base)
    (GR1 : ((W4.setCell ⟨gb, s, none⟩ (.bool true)).alloc X1).grownBy W6 sv.ownBlock) (ON1 : W6.ownsRow B 3 1 sv' (Q.length + 1) ((Q.map fun e => Value.int .i64 (e.set : Int)) ++ [.int .i64 (s : Int)])) (L1 : sv'.ownBlock = sv.ownBlock ∨ sv'.ownBlock = some ((W4.setCell ⟨gb, s, none⟩ (.bool true)).alloc X1).heap.size)
    (GR2 : (W6.alloc X2).grownBy W7 wv.ownBlock) (ON2 : W7.ownsRow B 22 1 wv' (Q.length + 1) (ws ++ [v2])) :
    RO w W7 S R N vt gb B sv' wv' (Q ++ [x]) (ws ++ [v2]) := by
  have a1 := h.o1
  have a2 := h.o2
  have a3 := h.o3
  obtain ⟨W5, hW5⟩ : ∃ W5, W4.setCell ⟨gb, s, none⟩ (.bool true) = W5 := ⟨_, rfl⟩
  rw [hW5] at GR1 L1
  have z5 : W5.heap.size = W4.heap.size := by rw [← hW5, World.size_setCell]
  have z6 : W4.heap.size + 1 ≤ W6.heap.size := by have := GR1.size; rw [World.size_alloc, z5] at this; exact this
  have z7 : W6.heap.size + 1 ≤ W7.heap.size := by have := GR2.size; rw [World.size_alloc] at this; exact this
  have hA : ∀ k, k ≠ gb → W5.heap[k]? = W4.heap[k]? := fun k hk => by rw [← hW5]; exact heap_setCell_other _ _ _ _ _ hk
  have hB : ∀ k, k < W4.heap.size → some k ≠ sv.ownBlock → W6.heap[k]? = W5.heap[k]? := fun k hk hne => by
    rw [GR1.block k (by rw [World.size_alloc, z5]; omega) hne]
    exact Below.heap_alloc _ _ _ (by omega)
  have hC : ∀ k, k < W6.heap.size → some k ≠ wv.ownBlock → W7.heap[k]? = W6.heap[k]? := fun k hk hne => by
    rw [GR2.block k (by rw [World.size_alloc]; omega) hne]
    exact Below.heap_alloc _ _ _ hk
  have low : ∀ k, k < B → some k ≠ sv.ownBlock ∧ some k ≠ wv.ownBlock := fun k hk => ⟨fun q => by have := (row_size h.sr q.symm).1; omega, fun q => by have := (row_size h.wr_ q.symm).1; omega⟩
  have lowE : ∀ k, k < B → W7.heap[k]? = W5.heap[k]? := fun k hk => (hC k (by omega) (low k hk).2).trans (hB k (by omega) (low k hk).1)
  have keep : ∀ {b n : Nat} {v : Value} {xs : List Value}, W4.ownsRow b 3 1 v n xs → B ≤ b → (∀ k, v.ownBlock = some k → sv.ownBlock ≠ some k) → W7.ownsRow b 3 1 v n xs := fun {b n v xs} hr hb hne => by
    have h6 : W6.ownsRow b 3 1 v n xs := owns_stay hr fun k q => by
      have := row_size hr q
      exact (hB k this.2 (fun e => hne k q e.symm)).trans (hA k (by omega))
    have w6 : W6.ownsRow B 22 1 wv Q.length ws := owns_stay h.wr_ fun k q => by
      have := row_size h.wr_ q
      exact (hB k this.2 (fun e => rows_apart h.wr_ h.sr (by decide) k q e.symm)).trans (hA k (by omega))
    exact owns_stay h6 fun k q => hC k (row_size h6 q).2 (fun e => rows_apart h6 w6 (by decide) k q e.symm)
  have w6 : W6.ownsRow B 22 1 wv Q.length ws := owns_stay h.wr_ fun k q => by
    have := row_size h.wr_ q
    exact (hB k this.2 (fun e => rows_apart h.wr_ h.sr (by decide) k q e.symm)).trans (hA k (by omega))
  have B5 : Below w.heap.size w W5 := by rw [← hW5]; exact h.bl.setCell (p := ⟨gb, s, none⟩) (by show w.heap.size ≤ gb; omega) _
  have far : ∀ {b n : Nat} {v : Value} {xs : List Value}, W4.ownsRow b 3 1 v n xs → (∀ k, v.ownBlock = some k → sv.ownBlock ≠ some k) → ∀ k, v.ownBlock = some k → sv'.ownBlock ≠ some k := fun {b n v xs} hr hne k q e => by
    rcases L1 with l | l
    · exact hne k q (by rw [← l]; exact e)
    · rw [l] at e
      injection e with e
      have := (row_size hr q).2
      rw [World.size_alloc, z5] at e
      omega
  have sepn : ∀ k, v2.ownBlock = some k → sv.ownBlock ≠ some k := fun k q e => by
    have := hsv k e
    have := (row_size hv2 q).1
    omega
  refine ⟨h.rb.block ((lowE _ (by omega)).trans (hA _ (by omega))), fun k hk => ?_, fun k => ?_, ?_, ?_, fun i e he => ?_, ?_, a1, a2, by omega⟩
  · rw [World.cell?_of_block (w := W5) (a := ⟨gb, k, none⟩) (lowE gb a2), ← hW5]
    by_cases e : k = s
    · subst e
      rw [World.cell?_setCell_same _ _ _ (h.bn k hk)]
      simp [hx]
    · rw [World.cell?_setCell_other _ ⟨gb, s, none⟩ ⟨gb, k, none⟩ _ (fun q => e (congrArg Addr.off q).symm), h.bn k hk]
      simp [hx, e]
  · rw [World.frozen?_of_block (w := W5) (a := ⟨gb, k, none⟩) (lowE gb a2), ← hW5, World.frozen?_setCell]
    exact h.bf k
  · have r6 : W6.ownsRow B 3 1 sv' (Q ++ [x]).length ((Q ++ [x]).map fun e => Value.int .i64 (e.set : Int)) := by
      rw [List.length_append, List.map_append, List.map_cons, List.map_nil, hx]; exact ON1
    exact owns_stay r6 fun k q => hC k (row_size r6 q).2 (fun e => rows_apart r6 w6 (by decide) k q e.symm)
  · rw [List.length_append]; exact ON2
  · have wl : ws.length = Q.length := by have := h.wr_.1; omega
    by_cases c : i < Q.length
    · rw [List.getElem?_append_left c] at he
      obtain ⟨v, h1, h2, h3⟩ := h.wd i e he
      exact ⟨v, by rw [List.getElem?_append_left (by omega)]; exact h1, keep h2 (Nat.le_refl _) h3, far h2 h3⟩
    · have hi : i = Q.length := by
        have := (List.getElem?_eq_some_iff.1 he).1
        simp at this
        omega
      subst hi
      rw [List.getElem?_append_right (Nat.le_refl _)] at he
      simp at he
      subst he
      exact ⟨v2, by rw [List.getElem?_append_right (by omega), wl]; simp, row_base_mono (keep hv2 hbB sepn) hbB, far hv2 sepn⟩
  · refine B5.trans ⟨?_, ?_, ?_, by omega, fun k hk => lowE k (by omega)⟩
    · exact GR2.os.trans GR1.os
    · exact GR2.tape.trans GR1.tape
    · exact GR2.output.trans GR1.output
end Go.Proofs.YtdhbdkkchobinaaDoor

