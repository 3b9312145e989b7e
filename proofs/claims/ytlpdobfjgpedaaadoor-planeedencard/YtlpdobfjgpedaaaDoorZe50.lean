/-
  What the last text of this claim leans on, part 50: LawEd.
-/
import Derived.Test.YtlpdobfjgpedaaaDoorZe48
import Derived.Test.YtlpdobfjgpedaaaDoorZe49
namespace Go.Proofs.YtlpdobfjgpedaaaDoor
open Go.RowKit
set_option linter.unusedVariables false
theorem tab_in {w : World} {q n : Nat} {xs : List Int} (h : Tab w (.slice (some ⟨q, 0, none⟩) n n) xs) (hm : xs.length ≤ maxLen) : ArgP w xs (some ⟨q, 0, none⟩) n n := by
  obtain ⟨a, c, e, ap⟩ := tab_arg h hm
  injection e with e1 e2 e3
  subst e1 e3
  rw [e2] at ap ⊢
  exact ap
theorem plaE_other {o : Out} {W H W' H' : Int} {xs xs' : List Int} (hf : plaE o W H xs 0) (hs : shapeF W' H' xs' = 0) : plaE o W' H' xs' 0 := by
  rcases hf with ⟨_, h⟩ | ⟨_, h1, h2⟩ | ⟨_, _, _, h⟩ | ⟨hg, _, hk, _⟩
  · omega
  · exact absurd h2.symm h1
  · omega
  · exact Or.inr (Or.inr (Or.inr ⟨hg, hs, hk, rfl⟩))
theorem ringM_len (born stay W H : Nat) (ys : List Int) : (ringM born stay W H ys).length = (W - 2) * (H - 2) := by simp [ringM]
theorem ringM_bits (born stay W H : Nat) (ys : List Int) (k : Nat) : 0 ≤ (ringM born stay W H ys).getD k 0 ∧ (ringM born stay W H ys).getD k 0 ≤ 1 := by
  unfold ringM
  refine mapR_bits _ _ (fun i => ?_) k
  unfold torV
  refine ⟨Int.natCast_nonneg _, ?_⟩
  have := becN_le born stay (ys.getD ((i / (W - 2) + 1) * W + (i % (W - 2) + 1)) 0) (torS W H ys (((i / (W - 2) + 1) * W + (i % (W - 2) + 1)) % W) (((i / (W - 2) + 1) * W + (i % (W - 2) + 1)) / W) 9).toNat
  omega
theorem law_eden_a (o : Out) (ta : Option Addr) (tn tc : Nat) (W H : Int) (a : Option Addr) (n c : Nat) (X Y : Int) (ys : List Int) (d : Option Addr) (k l : Nat) (R : Int → Int → List Int → Prop) (w : World) (hT : TzTab w)
    (par : ∀ V, Below w.heap.size w V → Calls Tryd.prog 8 #[.agg #[.int .i64 o.kind, .int .i64 o.born, .int .i64 o.stay, .int .i64 o.states, .int .i64 o.radius, .slice ta tn tc, .string o.turns], .agg #[.int .i64 W, .int .i64 H, .slice a n c]] V (PaGood R V))
    (mad : ∀ V W' H' ys a' n' c', Below w.heap.size w V → R W' H' ys → ArgP V ys a' n' c' → Calls Tryd.prog 12 #[.agg #[.int .i64 o.kind, .int .i64 o.born, .int .i64 o.stay, .int .i64 o.states, .int .i64 o.radius, .slice ta tn tc, .string o.turns], .agg #[.int .i64 W', .int .i64 H', .slice a' n' c'], .agg #[.int .i64 W, .int .i64 H, .slice a n c]] V (BoolIs true V))
    (hR : ArgR w o ta tn tc) (hQ : ArgP w ys d k l) :
    Calls Tryd.prog 4 #[.agg #[.int .i64 o.kind, .int .i64 o.born, .int .i64 o.stay, .int .i64 o.states, .int .i64 o.radius, .slice ta tn tc, .string o.turns], .agg #[.int .i64 W, .int .i64 H, .slice a n c], .agg #[.int .i64 X, .int .i64 Y, .slice d k l]] w fun e w' => e = .returned (.bool true) ∧ Below w.heap.size w w' := by
  obtain ⟨g, hg, _⟩ := plaE_any o X Y ys
  by_cases g0 : g = 0
  · subst g0
    obtain ⟨born, stay, hb, hs, b5, s5, hk, hsh⟩ := pla_good hg
    obtain ⟨A, B, rfl, rfl, hA, hB, hn, hx⟩ := shape_sides hsh
    have tor : ∀ V, Below w.heap.size w V → Calls Tryd.prog 14 #[.agg #[.int .i64 o.kind, .int .i64 o.born, .int .i64 o.stay, .int .i64 o.states, .int .i64 o.radius, .slice ta tn tc, .string o.turns], .agg #[.int .i64 (A : Int), .int .i64 (B : Int), .slice d k l]] V (TorIn A B (torL born stay A B ys) V) := fun V hV => (torus_good o ta tn tc A B ys d k l born stay V (hR.below hV) (hQ.below hV) hg hb hs b5 s5 hn hx hA hB).mono (by
      rintro e w' ⟨⟨q, rfl, t⟩, b⟩
      exact ⟨q, rfl, tab_in t (by rw [torL_length]; have := Nat.mul_le_mul hA hB; unfold maxLen; omega), b⟩)
    by_cases hin : (2 ≤ A ∧ 2 ≤ B) ∧ A ≤ 7 ∧ B ≤ 7
    · obtain ⟨⟨A2, B2⟩, A7, B7⟩ := hin
      have hfm : plaE o ((A - 2 : Nat) : Int) ((B - 2 : Nat) : Int) (ringM born stay A B ys) 0 := plaE_other hg (sides_shape (by omega) (by omega) (ringM_len ..) (ringM_bits born stay A B ys))
      have hnone : ¬ NoneB (topC (A - 2) (B - 2)) (okC born stay (A - 2) (ringM born stay A B ys)) (fun _ => 0) 0 := fun hN => hN _ (made_ext hx (ring_made hx A2 B2) (fun _ => 0))
      refine law_eden_a3 o ta tn tc W H a n c (A : Int) (B : Int) d k l R A B (A - 2) (B - 2) (torL born stay A B ys) (torL_length ..) (by omega) (by omega) A7 B7 (MadeR born stay (A - 2) (B - 2) (ringM born stay A B ys)) w hT par mad tor ?_ ?_
      · intro V a' n' c' hV hm le mx
        rw [midR_is A2 B2] at hm
        exact (planeParent_ok o ta tn tc (A - 2) (B - 2) (ringM born stay A B ys) a' n' c' born stay V (hR.below hV) hm le mx hfm hb hs b5 s5 (ringM_len ..) (ringM_bits born stay A B ys) (by omega) (by omega)).mono fun e w' h => pa_best hnone h
      · intro V W' H' ys' b m q a' n' c' hV hr h1 h2
        rw [midR_is A2 B2] at h2
        exact made_yes hb hs b5 s5 (ringM_len ..) (by omega) (by omega) ta tn tc V W' H' ys' b m q a' n' c' hr h1 h2
    · exact law_eden_a2 o ta tn tc W H a n c (A : Int) (B : Int) d k l R (A : Int) (B : Int) (by omega) w hT par mad (fun V hV => (tor V hV).mono (by
        rintro e w' ⟨q, rfl, _, b⟩
        exact ⟨_, _, _, rfl, b⟩))
  · exact law_eden_a1 o ta tn tc W H a n c X Y d k l R g g0 w hT par mad (fun V hV => torus_bad o ta tn tc X Y ys d k l g V (hR.below hV) (hQ.below hV) hg g0)
theorem law_eden_b (o : Out) (ta : Option Addr) (tn tc : Nat) (W H : Int) (a : Option Addr) (n c : Nat) (X Y : Int) (ys : List Int) (d : Option Addr) (k l : Nat) (f : Nat) (f0 : f ≠ 0) (sh : Nat) (w : World) (hT : TzTab w)
    (par : ∀ V, Below w.heap.size w V → Calls Tryd.prog 8 #[.agg #[.int .i64 o.kind, .int .i64 o.born, .int .i64 o.stay, .int .i64 o.states, .int .i64 o.radius, .slice ta tn tc, .string o.turns], .agg #[.int .i64 W, .int .i64 H, .slice a n c]] V (TorBad f V))
    (err : ∀ V, Below w.heap.size w V → Calls Tryd.prog 9 #[.iface 54 (.int .i64 (f : Int)), .int .i64 5] V (BoolIs false V))
    (shp : ∀ V, Below w.heap.size w V → Calls Tryd.prog 13 #[.agg #[.int .i64 X, .int .i64 Y, .slice d k l]] V (fun e w' => e = .returned (.int .i64 (sh : Int)) ∧ Below V.heap.size V w'))
    (hR : ArgR w o ta tn tc) (hQ : ArgP w ys d k l) :
    Calls Tryd.prog 4 #[.agg #[.int .i64 o.kind, .int .i64 o.born, .int .i64 o.stay, .int .i64 o.states, .int .i64 o.radius, .slice ta tn tc, .string o.turns], .agg #[.int .i64 W, .int .i64 H, .slice a n c], .agg #[.int .i64 X, .int .i64 Y, .slice d k l]] w fun e w' => e = .returned (.bool true) ∧ Below w.heap.size w w' := by
  obtain ⟨g, hg, _⟩ := plaE_any o X Y ys
  by_cases g0 : g = 0
  · subst g0
    obtain ⟨born, stay, hb, hs, b5, s5, hk, hsh⟩ := pla_good hg
    obtain ⟨A, B, rfl, rfl, hA, hB, hn, hx⟩ := shape_sides hsh
    have tor : ∀ V, Below w.heap.size w V → Calls Tryd.prog 14 #[.agg #[.int .i64 o.kind, .int .i64 o.born, .int .i64 o.stay, .int .i64 o.states, .int .i64 o.radius, .slice ta tn tc, .string o.turns], .agg #[.int .i64 (A : Int), .int .i64 (B : Int), .slice d k l]] V (TorIn A B (torL born stay A B ys) V) := fun V hV => (torus_good o ta tn tc A B ys d k l born stay V (hR.below hV) (hQ.below hV) hg hb hs b5 s5 hn hx hA hB).mono (by
      rintro e w' ⟨⟨q, rfl, t⟩, b⟩
      exact ⟨q, rfl, tab_in t (by rw [torL_length]; have := Nat.mul_le_mul hA hB; unfold maxLen; omega), b⟩)
    by_cases hin : (2 ≤ A ∧ 2 ≤ B) ∧ A ≤ 7 ∧ B ≤ 7
    · obtain ⟨⟨A2, B2⟩, A7, B7⟩ := hin
      have hfm : plaE o ((A - 2 : Nat) : Int) ((B - 2 : Nat) : Int) (ringM born stay A B ys) 0 := plaE_other hg (sides_shape (by omega) (by omega) (ringM_len ..) (ringM_bits born stay A B ys))
      have hnone : ¬ NoneB (topC (A - 2) (B - 2)) (okC born stay (A - 2) (ringM born stay A B ys)) (fun _ => 0) 0 := fun hN => hN _ (made_ext hx (ring_made hx A2 B2) (fun _ => 0))
      refine law_eden_b3 o ta tn tc W H a n c (A : Int) (B : Int) d k l f f0 sh A B (A - 2) (B - 2) (torL born stay A B ys) (torL_length ..) (by omega) (by omega) A7 B7 (MadeR born stay (A - 2) (B - 2) (ringM born stay A B ys)) w hT par err shp tor ?_ ?_
      · intro V a' n' c' hV hm le mx
        rw [midR_is A2 B2] at hm
        exact (planeParent_ok o ta tn tc (A - 2) (B - 2) (ringM born stay A B ys) a' n' c' born stay V (hR.below hV) hm le mx hfm hb hs b5 s5 (ringM_len ..) (ringM_bits born stay A B ys) (by omega) (by omega)).mono fun e w' h => pa_best hnone h
      · intro V W' H' ys' b m q a' n' c' hV hr h1 h2
        rw [midR_is A2 B2] at h2
        exact made_yes hb hs b5 s5 (ringM_len ..) (by omega) (by omega) ta tn tc V W' H' ys' b m q a' n' c' hr h1 h2
    · exact law_eden_b2 o ta tn tc W H a n c (A : Int) (B : Int) d k l f f0 sh (A : Int) (B : Int) (by omega) w hT par err shp (fun V hV => (tor V hV).mono (by
        rintro e w' ⟨q, rfl, _, b⟩
        exact ⟨_, _, _, rfl, b⟩))
  · exact law_eden_b1 o ta tn tc W H a n c X Y d k l f f0 sh g g0 w hT par err shp (fun V hV => torus_bad o ta tn tc X Y ys d k l g V (hR.below hV) (hQ.below hV) hg g0)
theorem law_eden_c (o : Out) (ta : Option Addr) (tn tc : Nat) (W H : Int) (a : Option Addr) (n c : Nat) (X Y : Int) (ys : List Int) (d : Option Addr) (k l : Nat) (f : Nat) (f0 : f ≠ 0) (sh : Nat) (s0 : (sh : Int) ≠ 0) (w : World) (hT : TzTab w)
    (par : ∀ V, Below w.heap.size w V → Calls Tryd.prog 8 #[.agg #[.int .i64 o.kind, .int .i64 o.born, .int .i64 o.stay, .int .i64 o.states, .int .i64 o.radius, .slice ta tn tc, .string o.turns], .agg #[.int .i64 W, .int .i64 H, .slice a n c]] V (TorBad f V))
    (err : ∀ V, Below w.heap.size w V → Calls Tryd.prog 9 #[.iface 54 (.int .i64 (f : Int)), .int .i64 5] V (BoolIs true V))
    (shp : ∀ V, Below w.heap.size w V → Calls Tryd.prog 13 #[.agg #[.int .i64 X, .int .i64 Y, .slice d k l]] V (fun e w' => e = .returned (.int .i64 (sh : Int)) ∧ Below V.heap.size V w'))
    (hR : ArgR w o ta tn tc) (hQ : ArgP w ys d k l) :
    Calls Tryd.prog 4 #[.agg #[.int .i64 o.kind, .int .i64 o.born, .int .i64 o.stay, .int .i64 o.states, .int .i64 o.radius, .slice ta tn tc, .string o.turns], .agg #[.int .i64 W, .int .i64 H, .slice a n c], .agg #[.int .i64 X, .int .i64 Y, .slice d k l]] w fun e w' => e = .returned (.bool true) ∧ Below w.heap.size w w' := by
  obtain ⟨g, hg, _⟩ := plaE_any o X Y ys
  by_cases g0 : g = 0
  · subst g0
    obtain ⟨born, stay, hb, hs, b5, s5, hk, hsh⟩ := pla_good hg
    obtain ⟨A, B, rfl, rfl, hA, hB, hn, hx⟩ := shape_sides hsh
    have tor : ∀ V, Below w.heap.size w V → Calls Tryd.prog 14 #[.agg #[.int .i64 o.kind, .int .i64 o.born, .int .i64 o.stay, .int .i64 o.states, .int .i64 o.radius, .slice ta tn tc, .string o.turns], .agg #[.int .i64 (A : Int), .int .i64 (B : Int), .slice d k l]] V (TorIn A B (torL born stay A B ys) V) := fun V hV => (torus_good o ta tn tc A B ys d k l born stay V (hR.below hV) (hQ.below hV) hg hb hs b5 s5 hn hx hA hB).mono (by
      rintro e w' ⟨⟨q, rfl, t⟩, b⟩
      exact ⟨q, rfl, tab_in t (by rw [torL_length]; have := Nat.mul_le_mul hA hB; unfold maxLen; omega), b⟩)
    by_cases hin : (2 ≤ A ∧ 2 ≤ B) ∧ A ≤ 7 ∧ B ≤ 7
    · obtain ⟨⟨A2, B2⟩, A7, B7⟩ := hin
      have hfm : plaE o ((A - 2 : Nat) : Int) ((B - 2 : Nat) : Int) (ringM born stay A B ys) 0 := plaE_other hg (sides_shape (by omega) (by omega) (ringM_len ..) (ringM_bits born stay A B ys))
      have hnone : ¬ NoneB (topC (A - 2) (B - 2)) (okC born stay (A - 2) (ringM born stay A B ys)) (fun _ => 0) 0 := fun hN => hN _ (made_ext hx (ring_made hx A2 B2) (fun _ => 0))
      refine law_eden_c3 o ta tn tc W H a n c (A : Int) (B : Int) d k l f f0 sh s0 A B (A - 2) (B - 2) (torL born stay A B ys) (torL_length ..) (by omega) (by omega) A7 B7 (MadeR born stay (A - 2) (B - 2) (ringM born stay A B ys)) w hT par err shp tor ?_ ?_
      · intro V a' n' c' hV hm le mx
        rw [midR_is A2 B2] at hm
        exact (planeParent_ok o ta tn tc (A - 2) (B - 2) (ringM born stay A B ys) a' n' c' born stay V (hR.below hV) hm le mx hfm hb hs b5 s5 (ringM_len ..) (ringM_bits born stay A B ys) (by omega) (by omega)).mono fun e w' h => pa_best hnone h
      · intro V W' H' ys' b m q a' n' c' hV hr h1 h2
        rw [midR_is A2 B2] at h2
        exact made_yes hb hs b5 s5 (ringM_len ..) (by omega) (by omega) ta tn tc V W' H' ys' b m q a' n' c' hr h1 h2
    · exact law_eden_c2 o ta tn tc W H a n c (A : Int) (B : Int) d k l f f0 sh s0 (A : Int) (B : Int) (by omega) w hT par err shp (fun V hV => (tor V hV).mono (by
        rintro e w' ⟨q, rfl, _, b⟩
        exact ⟨_, _, _, rfl, b⟩))
  · exact law_eden_c1 o ta tn tc W H a n c X Y d k l f f0 sh s0 g g0 w hT par err shp (fun V hV => torus_bad o ta tn tc X Y ys d k l g V (hR.below hV) (hQ.below hV) hg g0)
theorem law_eden_d (o : Out) (ta : Option Addr) (tn tc : Nat) (W H : Int) (a : Option Addr) (n c : Nat) (X Y : Int) (ys : List Int) (d : Option Addr) (k l : Nat) (f : Nat) (f0 : f ≠ 0) (w : World) (hT : TzTab w)
    (par : ∀ V, Below w.heap.size w V → Calls Tryd.prog 8 #[.agg #[.int .i64 o.kind, .int .i64 o.born, .int .i64 o.stay, .int .i64 o.states, .int .i64 o.radius, .slice ta tn tc, .string o.turns], .agg #[.int .i64 W, .int .i64 H, .slice a n c]] V (TorBad f V))
    (err : ∀ V, Below w.heap.size w V → Calls Tryd.prog 9 #[.iface 54 (.int .i64 (f : Int)), .int .i64 5] V (BoolIs true V))
    (shp : ∀ V, Below w.heap.size w V → Calls Tryd.prog 13 #[.agg #[.int .i64 X, .int .i64 Y, .slice d k l]] V (fun e w' => e = .returned (.int .i64 0) ∧ Below V.heap.size V w'))
    (mad : ∀ V, Below w.heap.size w V → Calls Tryd.prog 12 #[.agg #[.int .i64 o.kind, .int .i64 o.born, .int .i64 o.stay, .int .i64 o.states, .int .i64 o.radius, .slice ta tn tc, .string o.turns], .agg #[.int .i64 X, .int .i64 Y, .slice d k l], .agg #[.int .i64 W, .int .i64 H, .slice a n c]] V (BoolIs false V))
    (hR : ArgR w o ta tn tc) (hQ : ArgP w ys d k l) :
    Calls Tryd.prog 4 #[.agg #[.int .i64 o.kind, .int .i64 o.born, .int .i64 o.stay, .int .i64 o.states, .int .i64 o.radius, .slice ta tn tc, .string o.turns], .agg #[.int .i64 W, .int .i64 H, .slice a n c], .agg #[.int .i64 X, .int .i64 Y, .slice d k l]] w fun e w' => e = .returned (.bool true) ∧ Below w.heap.size w w' := by
  obtain ⟨g, hg, _⟩ := plaE_any o X Y ys
  by_cases g0 : g = 0
  · subst g0
    obtain ⟨born, stay, hb, hs, b5, s5, hk, hsh⟩ := pla_good hg
    obtain ⟨A, B, rfl, rfl, hA, hB, hn, hx⟩ := shape_sides hsh
    have tor : ∀ V, Below w.heap.size w V → Calls Tryd.prog 14 #[.agg #[.int .i64 o.kind, .int .i64 o.born, .int .i64 o.stay, .int .i64 o.states, .int .i64 o.radius, .slice ta tn tc, .string o.turns], .agg #[.int .i64 (A : Int), .int .i64 (B : Int), .slice d k l]] V (TorIn A B (torL born stay A B ys) V) := fun V hV => (torus_good o ta tn tc A B ys d k l born stay V (hR.below hV) (hQ.below hV) hg hb hs b5 s5 hn hx hA hB).mono (by
      rintro e w' ⟨⟨q, rfl, t⟩, b⟩
      exact ⟨q, rfl, tab_in t (by rw [torL_length]; have := Nat.mul_le_mul hA hB; unfold maxLen; omega), b⟩)
    by_cases hin : (2 ≤ A ∧ 2 ≤ B) ∧ A ≤ 7 ∧ B ≤ 7
    · obtain ⟨⟨A2, B2⟩, A7, B7⟩ := hin
      have hfm : plaE o ((A - 2 : Nat) : Int) ((B - 2 : Nat) : Int) (ringM born stay A B ys) 0 := plaE_other hg (sides_shape (by omega) (by omega) (ringM_len ..) (ringM_bits born stay A B ys))
      have hnone : ¬ NoneB (topC (A - 2) (B - 2)) (okC born stay (A - 2) (ringM born stay A B ys)) (fun _ => 0) 0 := fun hN => hN _ (made_ext hx (ring_made hx A2 B2) (fun _ => 0))
      refine law_eden_d3 o ta tn tc W H a n c (A : Int) (B : Int) d k l f f0 A B (A - 2) (B - 2) (torL born stay A B ys) (torL_length ..) (by omega) (by omega) A7 B7 (MadeR born stay (A - 2) (B - 2) (ringM born stay A B ys)) w hT par err shp mad tor ?_ ?_
      · intro V a' n' c' hV hm le mx
        rw [midR_is A2 B2] at hm
        exact (planeParent_ok o ta tn tc (A - 2) (B - 2) (ringM born stay A B ys) a' n' c' born stay V (hR.below hV) hm le mx hfm hb hs b5 s5 (ringM_len ..) (ringM_bits born stay A B ys) (by omega) (by omega)).mono fun e w' h => pa_best hnone h
      · intro V W' H' ys' b m q a' n' c' hV hr h1 h2
        rw [midR_is A2 B2] at h2
        exact made_yes hb hs b5 s5 (ringM_len ..) (by omega) (by omega) ta tn tc V W' H' ys' b m q a' n' c' hr h1 h2
    · exact law_eden_d2 o ta tn tc W H a n c (A : Int) (B : Int) d k l f f0 (A : Int) (B : Int) (by omega) w hT par err shp mad (fun V hV => (tor V hV).mono (by
        rintro e w' ⟨q, rfl, _, b⟩
        exact ⟨_, _, _, rfl, b⟩))
  · exact law_eden_d1 o ta tn tc W H a n c X Y d k l f f0 g g0 w hT par err shp mad (fun V hV => torus_bad o ta tn tc X Y ys d k l g V (hR.below hV) (hQ.below hV) hg g0)
theorem law_eden_all (o : Out) (ta : Option Addr) (tn tc : Nat) (W H : Int) (xs : List Int) (a : Option Addr) (n c : Nat) (X Y : Int) (ys : List Int) (d : Option Addr) (k l : Nat) (w : World) (hR : ArgR w o ta tn tc) (hP : ArgP w xs a n c) (hcap : n ≤ c) (hcm : c ≤ maxLen) (hQ : ArgP w ys d k l) (hT : TzTab w) (hg : Handle w) :
    Calls Tryd.prog 4 #[.agg #[.int .i64 o.kind, .int .i64 o.born, .int .i64 o.stay, .int .i64 o.states, .int .i64 o.radius, .slice ta tn tc, .string o.turns], .agg #[.int .i64 W, .int .i64 H, .slice a n c], .agg #[.int .i64 X, .int .i64 Y, .slice d k l]] w fun e w' => e = .returned (.bool true) ∧ Below w.heap.size w w' := by
  have shp : ∀ V, Below w.heap.size w V → Calls Tryd.prog 13 #[.agg #[.int .i64 X, .int .i64 Y, .slice d k l]] V (fun e w' => e = .returned (.int .i64 ((shapeF X Y ys : Nat) : Int)) ∧ Below V.heap.size V w') := fun V hV => Shape_P X Y ys d k l V (hQ.below hV)
  have err : ∀ f : Nat, f ≠ 0 → ∀ V, Below w.heap.size w V → Calls Tryd.prog 9 #[.iface 54 (.int .i64 (f : Int)), .int .i64 5] V (BoolIs (decide (f = 5)) V) := fun f f0 V hV => error_5 f f0 V (hg.below hV)
  have off : ∀ f : Nat, f ≠ 0 → f ≠ 5 → (∀ V, Below w.heap.size w V → Calls Tryd.prog 8 #[.agg #[.int .i64 o.kind, .int .i64 o.born, .int .i64 o.stay, .int .i64 o.states, .int .i64 o.radius, .slice ta tn tc, .string o.turns], .agg #[.int .i64 W, .int .i64 H, .slice a n c]] V (TorBad f V)) → Calls Tryd.prog 4 #[.agg #[.int .i64 o.kind, .int .i64 o.born, .int .i64 o.stay, .int .i64 o.states, .int .i64 o.radius, .slice ta tn tc, .string o.turns], .agg #[.int .i64 W, .int .i64 H, .slice a n c], .agg #[.int .i64 X, .int .i64 Y, .slice d k l]] w fun e w' => e = .returned (.bool true) ∧ Below w.heap.size w w' := fun f f0 f5 par =>
    law_eden_b o ta tn tc W H a n c X Y ys d k l f f0 (shapeF X Y ys) w hT par (fun V hV => by have := err f f0 V hV; rw [decide_eq_false f5] at this; exact this) shp hR hQ
  obtain ⟨f, hf, f5⟩ := plaE_any o W H xs
  by_cases f0 : f = 0
  · subst f0
    obtain ⟨born, stay, hb, hs, b5, s5, hk, hsh⟩ := pla_good hf
    obtain ⟨Wn, Hn, rfl, rfl, hW, hH, hn, hx⟩ := shape_sides hsh
    by_cases w5 : 5 < (Wn : Int) ∨ 5 < (Hn : Int)
    · exact off 4 (by omega) (by omega) (fun V hV => planeParent_wide o ta tn tc (Wn : Int) (Hn : Int) xs a n c 0 V (hR.below hV) (hP.below hV) hf rfl w5)
    · have ok := fun V (hV : Below w.heap.size w V) => planeParent_ok o ta tn tc Wn Hn xs a n c born stay V (hR.below hV) (hP.below hV) hcap hcm hf hb hs b5 s5 hn hx (by omega) (by omega)
      by_cases hN : NoneB (topC Wn Hn) (okC born stay Wn xs) (fun _ => 0) 0
      · have par : ∀ V, Below w.heap.size w V → Calls Tryd.prog 8 #[.agg #[.int .i64 o.kind, .int .i64 o.born, .int .i64 o.stay, .int .i64 o.states, .int .i64 o.radius, .slice ta tn tc, .string o.turns], .agg #[.int .i64 (Wn : Int), .int .i64 (Hn : Int), .slice a n c]] V (TorBad 5 V) := fun V hV => (ok V hV).mono fun e w' h => pa_none hN h
        by_cases s0 : shapeF X Y ys = 0
        · obtain ⟨A, B, rfl, rfl, hA, hB, hn', hx'⟩ := shape_sides s0
          rw [s0] at shp
          exact law_eden_d o ta tn tc (Wn : Int) (Hn : Int) a n c (A : Int) (B : Int) ys d k l 5 (by omega) w hT par (err 5 (by omega)) shp (fun V hV => made_no hb hs b5 s5 hn (by omega) (by omega) ta tn tc V A B ys d k l a n c hn' hx' hA hB hN (hQ.below hV) (hP.below hV)) hR hQ
        · exact law_eden_c o ta tn tc (Wn : Int) (Hn : Int) a n c X Y ys d k l 5 (by omega) (shapeF X Y ys) (by omega) w hT par (err 5 (by omega)) shp hR hQ
      · exact law_eden_a o ta tn tc (Wn : Int) (Hn : Int) a n c X Y ys d k l (MadeR born stay Wn Hn xs) w hT (fun V hV => (ok V hV).mono fun e w' h => pa_best hN h) (fun V W' H' us a' n' c' hV hr h1 => made_yes hb hs b5 s5 hn (by omega) (by omega) ta tn tc V W' H' us a' n' c' a n c hr h1 (hP.below hV)) hR hQ
  · exact off f f0 f5 (fun V hV => planeParent_bad o ta tn tc W H xs a n c f V (hR.below hV) (hP.below hV) hf f0)
end Go.Proofs.YtlpdobfjgpedaaaDoor

