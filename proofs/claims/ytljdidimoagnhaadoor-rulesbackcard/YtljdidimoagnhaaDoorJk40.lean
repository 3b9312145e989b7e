/-
  What the last text of this claim leans on, part 40: Ll8, Ln1.
-/
import Derived.Test.YtljdidimoagnhaaDoorJk39
import Derived.Test.YtljdidimoagnhaaDoorJk36
namespace Go.Proofs.YtljdidimoagnhaaDoor
open Go.RowKit
set_option linter.unusedVariables false

set_option maxRecDepth 100000 in
set_option maxHeartbeats 6400000 in
theorem refWiden (S R K : Nat) (Ta : List Int) (ta : Option Addr) (na ca : Nat) (w : World) (hLa : LineOk S R Ta) (hTa : ArgP w Ta ta na ca) (hk : R ≤ K) (hsz : S ^ (2 * K + 1) ≤ 4096) :
    Calls Tryd.prog 59 #[.agg #[.int .i64 2, .int .i64 0, .int .i64 0, .int .i64 (S : Int), .int .i64 (R : Int), .slice ta na ca, .string ⟨#[]⟩], .int .i64 (K : Int)] w (RuleRef S K (madeL S K fun ds => (applyL S R Ta ((ds.drop (K - R)).take (2 * R + 1))).getD 0 0) w) := by
  obtain ⟨i0, hi, hz0, hz1, hz2⟩ := info_parts info_int
  have ra10 := hLa.r10
  have s2 := hLa.s2
  have s4 := hLa.s4
  have k10 : K ≤ 10 := pow_small s2 hsz
  obtain ⟨M, hM⟩ : ∃ M, K - R = M := ⟨_, rfl⟩
  have q1 : (K : Int) - (R : Int) = (M : Int) := by omega
  have HMe := hide' (show K = R + M by omega)
  have m1 : M ≤ 10 := by omega
  obtain ⟨FF, hFF⟩ : ∃ FF : List Int → Int, (fun ds : List Int => (applyL S R Ta ((ds.drop M).take (2 * R + 1))).getD 0 0) = FF := ⟨_, rfl⟩
  have FH := hide' hFF
  rw [hM, hFF]
  obtain ⟨N, hN⟩ : ∃ N, S ^ (2 * K + 1) = N := ⟨_, rfl⟩
  have NE := hide' hN
  have SV := hide' (show sizeV S K = N by unfold sizeV; rw [if_pos hsz, hN])
  have n4 : N ≤ 4096 := by rw [← hN]; exact hsz
  obtain ⟨L, hL⟩ : ∃ L, 2 * K + 1 = L := ⟨_, rfl⟩
  have HLe := hide' hL
  have q3 : 2 * (K : Int) + 1 = (L : Int) := by omega
  obtain ⟨H, hH⟩ : ∃ H, L - M = H := ⟨_, rfl⟩
  have q4 : (L : Int) - (M : Int) = (H : Int) := by omega
  have HHe := hide' (show H - M = 2 * R + 1 by omega)
  have v1 : ¬ L = M := by omega
  have v2 : H ≤ L := by omega
  have v3 : M ≤ H := by omega
  have v4 : L ≤ 21 := by omega
  have u1 : IntKind.i64.wrap (M : Int) = (M : Int) := wrap_natL M (by omega)
  have u2 : IntKind.i64.wrap (H : Int) = (H : Int) := wrap_natL H (by omega)
  have u3 : IntKind.i64.wrap (L : Int) = (L : Int) := wrap_natL L (by omega)
  obtain ⟨out, hout⟩ : ∃ out, madeL S K FF = out := ⟨_, rfl⟩
  have OUT := hide' hout
  have OL := hide' (show out.length = N by rw [← hout, madeL_length, hN])
  rw [hout]
  obtain ⟨w3, hw3⟩ : ∃ w3, (w.alloc (.cells #[.int .i64 2, .int .i64 0, .int .i64 0, .int .i64 (S : Int), .int .i64 (R : Int), .slice ta na ca, .string ⟨#[]⟩] 24)).alloc (.cells #[.int .i64 0, .int .i64 0, .int .i64 0, .int .i64 0, .int .i64 0, .slice none 0 0, .string ⟨#[]⟩] 24) = w3 := ⟨_, rfl⟩
  have z3 : w3.heap.size = w.heap.size + 2 := by rw [← hw3]; simp
  obtain ⟨w0, hw0⟩ : ∃ w0, w3.alloc (.cells #[.int .i64 2, .int .i64 0, .int .i64 0, .int .i64 (S : Int), .int .i64 (K : Int), .slice none 0 0, .string ⟨#[]⟩] 24) = w0 := ⟨_, rfl⟩
  have B3 := hide' (show Below w.heap.size w w3 by rw [← hw3]; exact ((Below.refl _ _).alloc (Nat.le_refl _) _).alloc (by simp) _)
  have b0 := hide' (show Below w3.heap.size w3 w0 by rw [← hw0]; exact (Below.refl _ _).alloc (Nat.le_refl _) _)
  have B0 := hide' (B3.out.trans (b0.out.mono B3.out.size))
  have ZZ := hide' (show ZB (w.heap.size + 1) w0 by
    have h := ZB.new (w.alloc (.cells #[.int .i64 2, .int .i64 0, .int .i64 0, .int .i64 (S : Int), .int .i64 (R : Int), .slice ta na ca, .string ⟨#[]⟩] 24)) 24
    rw [World.size_alloc, hw3] at h
    exact h.next b0.out)
  have XA3 := hide' (show RB w.heap.size S R (.slice ta na ca) w3 by
    have h := RB.new w S R (.slice ta na ca) 24
    rw [← hw3]
    exact h.block (Below.heap_alloc _ _ _ (by simp)))
  have XA := hide' (XA3.out.next b0.out)
  have M0 := hide' (show CM w0 w0 (w.heap.size + 2) S K (.slice none 0 0) (out.take 0) by rw [← hw0]; exact CM.start w3 _ S K z3 _)
  have ATa := hide' (hTa.below B0.out)
  have TBa := hide' (hTa.blk (by have := hTa.len; have := hLa.pos; omega))
  have HLa := hide' hLa
  have HW0 := hide' hw0
  clear hLa hTa hsz hFF hN hL hout hw0 hH hM
  obtain ⟨x0, x1, x2, x3, x4, x5, x6⟩ := XA3.out
  go_enter Tryd.func59, Tryd.ntmps59
  obtain ⟨y0, y1, y2, y3, y4, y5, y6⟩ := (show RB w.heap.size S R (.slice ta na ca) (w3.alloc (.cells #[.int .i64 2, .int .i64 0, .int .i64 0, .int .i64 (S : Int), .int .i64 (K : Int), .slice none 0 0, .string ⟨#[]⟩] 24)) from XA3.out.alloc _)
  go_wp2_with fail
  rw [HW0.out]
  clear hw3
  refine (refSize S K _ s2 s4 (by omega)).mono ?_
  rw [SV.out]
  rintro e w4 ⟨rfl, rfl⟩
  clear x0 x1 x2 x3 x4 x5 x6 y0 y1 y2 y3 y4 y5 y6
  go_wp2
  go_loopw [7] (fun iv wr => ∃ (i : Nat) (v : Value), iv = .int .i64 (i : Int) ∧ i ≤ N ∧ CM w4 wr (w.heap.size + 2) S K v (out.take i)) (fun iv _ => N - (intOf iv).toNat)
  case atStart => exact ⟨0, _, rfl, by omega, M0.out⟩
  case round =>
    obtain ⟨i, v, rfl, hi', cm⟩ := hrel
    have MM := hide' cm
    have hle : (out.take i).length = i := by rw [List.length_take]; have := OL.out; omega
    have HLI := hide' hle
    obtain ⟨sa, sc, e0⟩ := ownsRow_len cm.own
    rw [hle] at e0
    subst e0
    clear cm M0 hle
    by_cases d : (i : Int) < (N : Int)
    · obtain ⟨x, hx⟩ : ∃ x, out.getD i 0 = x := ⟨_, rfl⟩
      have TN := hide' (take_next (xs := out) (i := i) (by have := OL.out; omega) hx)
      have VAL := hide' (show (applyL S R Ta (((spellL S L i).drop M).take (2 * R + 1))).getD 0 0 = x by rw [← hx, ← OUT.out, madeL_at S K FF (by rw [NE.out]; omega), ← FH.out, HLe.out])
      clear hx
      obtain ⟨x0, x1, x2, x3, x4, x5, x6⟩ := XA.out.block (MM.out.below.block _ (by omega))
      go_wp2_with fail
      refine (Window_ref S L i _ s2 s4 (by omega) (by omega)).mono ?_
      rintro e w5 ⟨rfl, fd⟩
      have C5 := hide' (spell_win S L i fd)
      have b5 := fd.below
      have M5 := hide' (MM.out.next b5)
      have s5 := b5.size
      clear fd x0 x1 x2 x3 x4 x5 x6
      have BW5 := hide' (M5.out.below)
      obtain ⟨x0, x1, x2, x3, x4, x5, x6⟩ := XA.out.block (BW5.out.block _ (by omega))
      have AT5 := hide' (show ArgP w5 Ta ta na ca from below_arg ATa.out TBa.out BW5.out (by omega))
      have D0 := hide' (show Below w5.heap.size w5 w5.drew from (Below.refl _ _).drew)
      obtain ⟨xs, hxs⟩ : ∃ xs, ((spellL S L i).drop M).take (2 * R + 1) = xs := ⟨_, rfl⟩
      have XL := hide' (show xs.length = H - M by rw [← hxs, HHe.out]; simp [spellL_length]; have := HLe.out; have := HMe.out; omega)
      have AW := hide' (show ArgP w5 xs (some ⟨wr.heap.size, M, none⟩) xs.length (L - M) by
        rw [XL.out, ← hxs, HHe.out]
        exact C5.out.mid (by rw [spellL_length]; have := HLe.out; have := HMe.out; omega) (by unfold maxLen; omega))
      have OX := hide' (show cellsOk S xs by rw [← hxs]; exact mid_ok (spellL_ok S L i s2) M _)
      rw [hxs] at VAL
      have YL := hide' (show (applyL S R Ta xs).length = 1 by rw [applyL_length, XL.out, HHe.out]; omega)
      have KA := hide' (show Calls Tryd.prog 51 #[.agg #[.int .i64 2, .int .i64 0, .int .i64 0, .int .i64 (S : Int), .int .i64 (R : Int), .slice ta na ca, .string ⟨#[]⟩], .slice (some ⟨wr.heap.size, M, none⟩) (H - M) (L - M)] w5.drew (ListRef (applyL S R Ta xs) w5.drew) by
        have h := refApply_any S R Ta ta na ca xs (some ⟨wr.heap.size, M, none⟩) (L - M) w5.drew HLa.out (AT5.out.below D0.out) (AW.out.below D0.out) OX.out (by rw [XL.out]; omega)
        rw [XL.out] at h
        exact h)
      clear b5 hxs
      go_wp2
      go_region_with
        (go_at_call 51; refine KA.out.mono ?_; rintro e w7 ⟨v7, rfl, t7, -, b7⟩; obtain ⟨a7, c7, rfl, p7⟩ := t7.argL (by rw [YL.out]; unfold maxLen; omega); rw [YL.out] at p7 ⊢; obtain ⟨g7, o7, rfl, k7⟩ := p7.at (k := 0) (by omega); rw [VAL.out, Nat.add_zero] at k7; have M7 := hide' ((M5.out.next D0.out).next b7); have hz7 := M7.out.sz; have d5 := M7.out.rb.c5; have y5 := M7.out.fz 5; have HO := hide' M7.out.own; have d6 : ∀ x, (w7.alloc x).cell? ⟨w.heap.size + 2, 5, none⟩ = some (.slice sa i sc) := fun x => (World.cell?_alloc_lt w7 x ⟨w.heap.size + 2, 5, none⟩ (by simp; omega)).trans d5; clear t7 p7 b7)
      all_goals
        clear x0 x1 x2 x3 x4 x5 x6
        go_wp2
        go_region_law (refine step_append_lies _ (by rfl) _ _ _ (by rfl) (w.heap.size + 2 + 1) 3 i0 _ 1 8 Tryd.underlying22 hi hz0 hz1 hz2 rfl (by omega) (.slice sa i sc) _ _ (by rfl) ((HO.out.alloc _).drew) ⟨w7.heap.size, 0, none⟩ 1 1 [.int .i64 x] (by rfl) (by rfl) (World.news_of_block (cs := #[.int .i64 x]) (t := 3) (fr := (0, 0)) (heap_alloc_new w7 _)) (by simp [Value.oneCell']) (by omega) (by rw [HLI.out]; unfold maxLen; omega) (by rw [HLI.out]; omega) (by simp; omega) (w7.heap.size + 1) (by simp) ?_; intro gg cap w8 hown1 hgrow hat hlt; have z5 := (M7.out.mid (grownBy_drew hgrow)).1; have z6 := (M7.out.mid (grownBy_drew hgrow)).2)
        all_goals
          go_wp2
          have hp := M7.out.push (grownBy_drew hgrow) hown1
          rw [HLI.out] at hp
          refine ⟨⟨i + 1, .slice (some ⟨gg, 0, none⟩) (i + 1) cap, by go_num, by omega, ?_⟩, by simp [intOf]; omega⟩
          rw [TN.out]
          have mm : min i out.length = i := by have := OL.out; omega
          rw [mm]
          exact hp
    · obtain ⟨c0, c1, c2, c3, c4, c5, c6⟩ := MM.out.rb
      have TK := hide' (show out.take i = out by rw [show i = out.length by have := OL.out; omega, List.take_length])
      have zb := ZZ.out.block (MM.out.below.block _ (by omega))
      obtain ⟨r0, r1, r2, r3, r4, r5, r6, rf⟩ := zb
      have f0 := rf 0
      have f1 := rf 1
      have f2 := rf 2
      have f3 := rf 3
      have f4 := rf 4
      have f5 := rf 5
      have f6 := rf 6
      have BF := hide' (B0.out.trans (MM.out.below.mono (by omega)))
      have ho := MM.out.own
      rw [TK.out] at ho
      have HO := hide' ho
      clear rf ho
      go_wp2
      refine bodyPost_ret (v := .agg #[.int .i64 2, .int .i64 0, .int .i64 0, .int .i64 (S : Int), .int .i64 (K : Int), .slice sa i sc, .string ⟨#[]⟩]) (by simp [results, Tryd.results59, go_sem, r0, r1, r2, r3, r4, r5, r6]) rfl ?_
      obtain ⟨a9, c9, e9, rd9⟩ := own_reads HO.out
      have hb9 := ownsRow_lt HO.out
      injection e9 with e1 e2 e3
      subst e1 e3
      refine ⟨sa, sc, by rw [e2], reads_of_block rd9 (fun g eg => seven_heap _ _ _ _ _ _ _ _ _ _ (by have := (hb9 g (by rw [eg]; rfl)).1; omega)), fun g eg => by have := (hb9 g (by rw [eg]; rfl)).1; omega, seven_below BF.out (by omega) _ _ _ _ _ _ _⟩
end Go.Proofs.YtljdidimoagnhaaDoor

namespace Go.Proofs.YtljdidimoagnhaaDoor
open Go.RowKit
set_option linter.unusedVariables false

/-- Seven values in a box. -/
structure S7 (p : Nat) (v0 v1 v2 v3 v4 v5 v6 : Value) (w : World) : Prop where
  c0 : w.cell? ⟨p, 0, none⟩ = some v0
  c1 : w.cell? ⟨p, 1, none⟩ = some v1
  c2 : w.cell? ⟨p, 2, none⟩ = some v2
  c3 : w.cell? ⟨p, 3, none⟩ = some v3
  c4 : w.cell? ⟨p, 4, none⟩ = some v4
  c5 : w.cell? ⟨p, 5, none⟩ = some v5
  c6 : w.cell? ⟨p, 6, none⟩ = some v6
  fz : ∀ k, w.frozen? ⟨p, k, none⟩ = false
theorem S7.lt {p : Nat} {v0 v1 v2 v3 v4 v5 v6 : Value} {w : World} (h : S7 p v0 v1 v2 v3 v4 v5 v6 w) : p < w.heap.size := cell_lt h.c0
theorem S7.block {p : Nat} {v0 v1 v2 v3 v4 v5 v6 : Value} {w w' : World} (h : S7 p v0 v1 v2 v3 v4 v5 v6 w) (e : w'.heap[p]? = w.heap[p]?) : S7 p v0 v1 v2 v3 v4 v5 v6 w' :=
  ⟨(World.cell?_of_block (w := w) (a := ⟨p, 0, none⟩) e).trans h.c0, (World.cell?_of_block (w := w) (a := ⟨p, 1, none⟩) e).trans h.c1, (World.cell?_of_block (w := w) (a := ⟨p, 2, none⟩) e).trans h.c2, (World.cell?_of_block (w := w) (a := ⟨p, 3, none⟩) e).trans h.c3, (World.cell?_of_block (w := w) (a := ⟨p, 4, none⟩) e).trans h.c4, (World.cell?_of_block (w := w) (a := ⟨p, 5, none⟩) e).trans h.c5, (World.cell?_of_block (w := w) (a := ⟨p, 6, none⟩) e).trans h.c6, fun k => (World.frozen?_of_block (w := w) (a := ⟨p, k, none⟩) e).trans (h.fz k)⟩
theorem S7.next {p : Nat} {v0 v1 v2 v3 v4 v5 v6 : Value} {w w' : World} (h : S7 p v0 v1 v2 v3 v4 v5 v6 w) (hb : Below w.heap.size w w') : S7 p v0 v1 v2 v3 v4 v5 v6 w' := h.block (hb.block p h.lt)
theorem S7.alloc {p : Nat} {v0 v1 v2 v3 v4 v5 v6 : Value} {w : World} (h : S7 p v0 v1 v2 v3 v4 v5 v6 w) (o : Obj) : S7 p v0 v1 v2 v3 v4 v5 v6 (w.alloc o) := h.block (Below.heap_alloc _ _ _ h.lt)
theorem S7.new (w : World) (v0 v1 v2 v3 v4 v5 v6 : Value) (t : TypeId) : S7 w.heap.size v0 v1 v2 v3 v4 v5 v6 (w.alloc (.cells #[v0, v1, v2, v3, v4, v5, v6] t)) :=
  ⟨by rw [World.cell?_alloc_at _ _ _ _ rfl]; rfl, by rw [World.cell?_alloc_at _ _ _ _ rfl]; rfl, by rw [World.cell?_alloc_at _ _ _ _ rfl]; rfl, by rw [World.cell?_alloc_at _ _ _ _ rfl]; rfl, by rw [World.cell?_alloc_at _ _ _ _ rfl]; rfl, by rw [World.cell?_alloc_at _ _ _ _ rfl]; rfl, by rw [World.cell?_alloc_at _ _ _ _ rfl]; rfl, fun k => by simp⟩
theorem S7.keep {p q : Nat} {v0 v1 v2 v3 v4 v5 v6 : Value} {w : World} (h : S7 p v0 v1 v2 v3 v4 v5 v6 w) (hq : p ≠ q) (u0 u1 u2 u3 u4 u5 u6 : Value) : S7 p v0 v1 v2 v3 v4 v5 v6 ((((((((w.setCell ⟨q, 0, none⟩ u0).setCell ⟨q, 1, none⟩ u1).setCell ⟨q, 2, none⟩ u2).setCell ⟨q, 3, none⟩ u3).setCell ⟨q, 4, none⟩ u4).setCell ⟨q, 5, none⟩ u5).setCell ⟨q, 6, none⟩ u6)) := h.block (seven_heap w q p _ _ _ _ _ _ _ hq)
theorem S7.store {p : Nat} {v0 v1 v2 v3 v4 v5 v6 : Value} {w : World} (h : S7 p v0 v1 v2 v3 v4 v5 v6 w) (u0 u1 u2 u3 u4 u5 u6 : Value) : S7 p u0 u1 u2 u3 u4 u5 u6 ((((((((w.setCell ⟨p, 0, none⟩ u0).setCell ⟨p, 1, none⟩ u1).setCell ⟨p, 2, none⟩ u2).setCell ⟨p, 3, none⟩ u3).setCell ⟨p, 4, none⟩ u4).setCell ⟨p, 5, none⟩ u5).setCell ⟨p, 6, none⟩ u6)) := by
  have s0 : ∀ (w : World) (k : Nat) (v u : Value), w.cell? ⟨p, k, none⟩ = some v → (w.setCell ⟨p, k, none⟩ u).cell? ⟨p, k, none⟩ = some u := fun w k v u h => World.cell?_setCell_same _ _ _ h
  refine ⟨?_, ?_, ?_, ?_, ?_, ?_, ?_, fun k => by simp only [World.frozen?_setCell]; exact h.fz k⟩
  · exact cellO (cellO (cellO (cellO (cellO (cellO (s0 _ _ _ _ (h.c0)) (by omega)) (by omega)) (by omega)) (by omega)) (by omega)) (by omega)
  · exact cellO (cellO (cellO (cellO (cellO (s0 _ _ _ _ (cellO (h.c1) (by omega))) (by omega)) (by omega)) (by omega)) (by omega)) (by omega)
  · exact cellO (cellO (cellO (cellO (s0 _ _ _ _ (cellO (cellO (h.c2) (by omega)) (by omega))) (by omega)) (by omega)) (by omega)) (by omega)
  · exact cellO (cellO (cellO (s0 _ _ _ _ (cellO (cellO (cellO (h.c3) (by omega)) (by omega)) (by omega))) (by omega)) (by omega)) (by omega)
  · exact cellO (cellO (s0 _ _ _ _ (cellO (cellO (cellO (cellO (h.c4) (by omega)) (by omega)) (by omega)) (by omega))) (by omega)) (by omega)
  · exact cellO (s0 _ _ _ _ (cellO (cellO (cellO (cellO (cellO (h.c5) (by omega)) (by omega)) (by omega)) (by omega)) (by omega))) (by omega)
  · exact s0 _ _ _ _ (cellO (cellO (cellO (cellO (cellO (cellO (h.c6) (by omega)) (by omega)) (by omega)) (by omega)) (by omega)) (by omega))
theorem reads_seven {w : World} {p : Nat} {a : Option Addr} {xs : List Int} (h : Reads0 w a xs) (hp : ∀ g, a = some ⟨g, 0, none⟩ → g ≠ p) (u0 u1 u2 u3 u4 u5 u6 : Value) : Reads0 ((((((((w.setCell ⟨p, 0, none⟩ u0).setCell ⟨p, 1, none⟩ u1).setCell ⟨p, 2, none⟩ u2).setCell ⟨p, 3, none⟩ u3).setCell ⟨p, 4, none⟩ u4).setCell ⟨p, 5, none⟩ u5).setCell ⟨p, 6, none⟩ u6)) a xs :=
  reads_of_block h fun g e => seven_heap w p g _ _ _ _ _ _ _ (hp g e)
theorem reads_lt {w : World} {a : Option Addr} {xs : List Int} (h : Reads0 w a xs) (hx : 0 < xs.length) : ∀ g, a = some ⟨g, 0, none⟩ → g < w.heap.size := fun g e => by
  obtain ⟨g', e', hc⟩ := h 0 hx
  rw [e'] at e
  injection e with e
  injection e with e
  subst e
  exact cell_lt hc
theorem Cel.reads {w : World} {g : Nat} {xs : List Int} (h : Cel w g xs) : Reads0 w (some ⟨g, 0, none⟩) xs := fun k hk => ⟨g, rfl, by rw [h.cells k hk]; simp [List.getD, hk]⟩
theorem same_line (S K : Nat) (T : List Int) (a b : Option Addr) (ca cb : Nat) (w : World) (hm : T.length ≤ maxLen) (ha : Reads0 w a T) (hb : Reads0 w b T) :
    Calls Tryd.prog 18 #[.agg #[.int .i64 2, .int .i64 0, .int .i64 0, .int .i64 (S : Int), .int .i64 (K : Int), .slice a T.length ca, .string ⟨#[]⟩], .agg #[.int .i64 2, .int .i64 0, .int .i64 0, .int .i64 (S : Int), .int .i64 (K : Int), .slice b T.length cb, .string ⟨#[]⟩]] w fun e w' => e = .returned (.bool true) ∧ Below w.heap.size w w' :=
  Same_any ⟨2, 0, 0, (S : Int), (K : Int), T, ⟨#[]⟩⟩ a b T.length ca cb w rfl hm ha hb
theorem same_zero (w : World) :
    Calls Tryd.prog 18 #[.agg #[.int .i64 0, .int .i64 0, .int .i64 0, .int .i64 0, .int .i64 0, .slice none 0 0, .string ⟨#[]⟩], .agg #[.int .i64 0, .int .i64 0, .int .i64 0, .int .i64 0, .int .i64 0, .slice none 0 0, .string ⟨#[]⟩]] w fun e w' => e = .returned (.bool true) ∧ Below w.heap.size w w' :=
  Same_any ⟨0, 0, 0, 0, 0, [], ⟨#[]⟩⟩ none none 0 0 0 w rfl (Nat.zero_le _) (Reads0.nil _ _) (Reads0.nil _ _)
theorem fault_nil_line (S R : Nat) (T : List Int) (a : Option Addr) (n c : Nat) (w : World) (hL : LineOk S R T) (hT : ArgP w T a n c) :
    Calls Tryd.prog 29 #[.agg #[.int .i64 2, .int .i64 0, .int .i64 0, .int .i64 (S : Int), .int .i64 (R : Int), .slice a n c, .string ⟨#[]⟩], .slice none 0 0] w fun e w' => e = .returned (.int .i64 0) ∧ Below w.heap.size w w' :=
  (lineFault_line S R T a n c [] none 0 0 w hL hT ⟨rfl, Nat.zero_le _, fun k hk => by simp at hk⟩).mono fun e w' ⟨h1, h2⟩ => ⟨by rw [h1, wordE_ok (by simp) (fun x hx => by simp at hx)]; rfl, h2⟩
theorem madeL_small {S R : Nat} {F : List Int → Int} (h : S ^ (2 * R + 1) ≤ 4096) : (madeL S R F).length ≤ maxLen := by rw [madeL_length]; unfold maxLen; omega
theorem madeL_pos {S R : Nat} {F : List Int → Int} (h : 2 ≤ S) : 0 < (madeL S R F).length := by rw [madeL_length]; exact Nat.pow_pos (by omega)
end Go.Proofs.YtljdidimoagnhaaDoor

