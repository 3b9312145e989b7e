/-
  What the last text of this claim leans on, part 46: Ll7, Of7.
-/
import Derived.Test.YtljdidimoagnhaaDoorJv45
import Derived.Test.YtljdidimoagnhaaDoorJv33
import Derived.Test.YtljdidimoagnhaaDoorJv43
import Derived.Test.YtljdidimoagnhaaDoorJv42
import Derived.Test.YtljdidimoagnhaaDoorJv32
namespace Go.Proofs.YtljdidimoagnhaaDoor
open Go.RowKit
set_option linter.unusedVariables false

def sizeV (S K : Nat) : Nat := if S ^ (2 * K + 1) ≤ 4096 then S ^ (2 * K + 1) else 5000
set_option maxHeartbeats 1600000 in
theorem refSize (S K : Nat) (w : World) (hS : 2 ≤ S) (hS4 : S ≤ 4) (hK : K ≤ 1000) :
    Calls Tryd.prog 55 #[.int .i64 (S : Int), .int .i64 (K : Int)] w fun e w' => e = .returned (.int .i64 ((sizeV S K : Nat) : Int)) ∧ w' = w := by
  have OKV := hide' (fun (h : S ^ (2 * K + 1) ≤ 4096) => show sizeV S K = S ^ (2 * K + 1) by unfold sizeV; rw [if_pos h])
  have NOV := hide' (fun (h : ¬ S ^ (2 * K + 1) ≤ 4096) => show sizeV S K = 5000 by unfold sizeV; rw [if_neg h])
  have MON := hide' (fun (i : Nat) (hi : i ≤ K) => show S ^ (2 * i + 1) ≤ S ^ (2 * K + 1) from Nat.pow_le_pow_right (by omega) (by omega))
  obtain ⟨res, hres⟩ : ∃ res, sizeV S K = res := ⟨_, rfl⟩
  rw [hres] at OKV NOV ⊢
  clear hres
  go_enter Tryd.func55, Tryd.ntmps55
  go_wp2
  go_loop [5, 6] (fun ev iv => ∃ i e : Nat, iv = .int .i64 (i : Int) ∧ ev = .int .i64 (e : Int) ∧ i ≤ K ∧ e ≤ 4096 ∧ Hid (e = S ^ (2 * i + 1))) (fun _ iv => K - (intOf iv).toNat)
  case atStart => exact ⟨0, S, rfl, rfl, by omega, by omega, hide' (by simp)⟩
  case round =>
    obtain ⟨i, e, rfl, rfl, hi, he4, HE⟩ := hrel
    by_cases d : (i : Int) < (K : Int)
    · obtain ⟨p, hp⟩ : ∃ p, e * S = p := ⟨_, rfl⟩
      have q1 : (e : Int) * (S : Int) = (p : Int) := by rw [← hp]; simp
      have hpb : p ≤ 16384 := by rw [← hp]; exact Nat.mul_le_mul he4 hS4
      obtain ⟨f, hf⟩ : ∃ f, p * S = f := ⟨_, rfl⟩
      have q2 : (p : Int) * (S : Int) = (f : Int) := by rw [← hf]; simp
      have hfb : f ≤ 65536 := by rw [← hf]; exact Nat.mul_le_mul hpb hS4
      have FE := hide' (show f = S ^ (2 * (i + 1) + 1) by rw [← hf, ← hp, HE.out, show 2 * (i + 1) + 1 = (2 * i + 1) + 1 + 1 by omega, Nat.pow_succ S (2 * i + 1 + 1), Nat.pow_succ S (2 * i + 1)])
      clear hp hf
      by_cases d2 : (4096 : Int) < (f : Int)
      · have R := hide' (NOV.out (by have h1 := MON.out (i + 1) (by omega); rw [← FE.out] at h1; omega))
        go_wp2
        go_ret
        exact ⟨by rw [R.out]; rfl, rfl⟩
      · go_wp2
        exact ⟨⟨i + 1, f, by go_num, rfl, by omega, by omega, FE⟩, by simp [intOf]; omega⟩
    · have R := hide' (show res = e by
        have h1 := HE.out
        rw [show i = K by omega] at h1
        rw [OKV.out (by rw [← h1]; exact he4), h1])
      go_wp2
      go_ret
      exact ⟨by rw [R.out]; rfl, rfl⟩

theorem spell_win (S L m : Nat) {w w' : World} {g : Nat} (h : FillD w w' g L 0 (fun j => (winAt S L m j : Int))) : Cel w' g (spellL S L m) := by
  refine ⟨h.lt, fun k hk => ?_, h.fz⟩
  rw [spellL_length] at hk
  obtain ⟨v, hv, e⟩ := h.cells k hk
  rw [hv, e (Nat.zero_le _), spellL_at S L m hk]
  rfl
/-- The rule that grows, in its box at P; what lies below it stays. -/
structure CM (w0 wr : World) (P S K : Nat) (v : Value) (xs : List Int) : Prop where
  below : Below P w0 wr
  sz : P + 1 ≤ wr.heap.size
  rb : RB P S K v wr
  fz : ∀ k, wr.frozen? ⟨P, k, none⟩ = false
  own : wr.ownsRow (P + 1) 3 1 v xs.length (xs.map fun x => .int .i64 x)
theorem CM.next {w0 wr w' : World} {P S K : Nat} {v : Value} {xs : List Int} (h : CM w0 wr P S K v xs) (hb : Below wr.heap.size wr w') : CM w0 w' P S K v xs := by
  have := h.sz
  have := hb.size
  exact ⟨h.below.trans (hb.mono (by omega)), by omega, h.rb.next hb, fun k => (World.frozen?_of_block (w := wr) (a := ⟨P, k, none⟩) (hb.block P (by omega))).trans (h.fz k), ownsRow_keepB h.own fun k _ hk => hb.block k hk⟩
theorem CM.grown {w0 wr w' : World} {P S K : Nat} {v : Value} {xs : List Int} (h : CM w0 wr P S K v xs) {x : Int} (hg : (wr.alloc (.cells #[.int .i64 x] 3)).grownBy w' v.ownBlock) : ∀ k, k < P + 1 → w'.heap[k]? = wr.heap[k]? := fun k hk => by
  have hz := h.sz
  have hob := ownsRow_lt h.own
  rw [hg.block k (by rw [World.size_alloc]; omega) (fun e => by have := (hob k e.symm).1; omega)]
  exact Below.heap_alloc _ _ _ (by omega)
theorem CM.mid {w0 wr w' : World} {P S K : Nat} {v : Value} {xs : List Int} (h : CM w0 wr P S K v xs) {x : Int} (hg : (wr.alloc (.cells #[.int .i64 x] 3)).grownBy w' v.ownBlock) : w'.cell? ⟨P, 5, none⟩ = some v ∧ w'.frozen? ⟨P, 5, none⟩ = false := by
  have e := h.grown hg P (by omega)
  exact ⟨(h.rb.block e).c5, (World.frozen?_of_block (w := wr) (a := ⟨P, 5, none⟩) e).trans (h.fz 5)⟩
theorem cellO {w : World} {p k j : Nat} {u v : Value} (h : w.cell? ⟨p, k, none⟩ = some v) (hj : j ≠ k) : (w.setCell ⟨p, j, none⟩ u).cell? ⟨p, k, none⟩ = some v :=
  (World.cell?_setCell_other _ ⟨p, j, none⟩ ⟨p, k, none⟩ _ (fun q => hj (congrArg Addr.off q))).trans h
theorem CM.push {w0 wr w' : World} {P S K : Nat} {v v' : Value} {xs : List Int} {x : Int} (h : CM w0 wr P S K v xs) (hg : (wr.alloc (.cells #[.int .i64 x] 3)).grownBy w' v.ownBlock) (ho : w'.ownsRow (P + 1) 3 1 v' (xs.length + 1) ((xs.map fun x => .int .i64 x) ++ [.int .i64 x])) :
    CM w0 (w'.setCell ⟨P, 5, none⟩ v') P S K v' (xs ++ [x]) := by
  have hk := h.grown hg
  have hz := h.sz
  have hsz : wr.heap.size + 1 ≤ w'.heap.size := by have := hg.size; rw [World.size_alloc] at this; exact this
  have hb : Below P w0 w' := h.below.trans ⟨hg.os, hg.tape, hg.output, by omega, fun k hkk => hk k (by omega)⟩
  have r := h.rb.block (hk P (by omega))
  refine ⟨hb.setCell (Nat.le_refl _) _, by rw [World.size_setCell]; omega, ⟨cellO r.c0 (by omega), cellO r.c1 (by omega), cellO r.c2 (by omega), cellO r.c3 (by omega), cellO r.c4 (by omega), World.cell?_setCell_same _ _ _ r.c5, cellO r.c6 (by omega)⟩, fun k => by rw [World.frozen?_setCell]; exact (World.frozen?_of_block (w := wr) (a := ⟨P, k, none⟩) (hk P (by omega))).trans (h.fz k), ?_⟩
  have := ownsRow_setCell_below ho (a := ⟨P, 5, none⟩) (by simp) v'
  simpa using this
theorem CM.start (w : World) (P S K : Nat) (hP : w.heap.size = P) (t : TypeId) : CM (w.alloc (.cells #[.int .i64 2, .int .i64 0, .int .i64 0, .int .i64 (S : Int), .int .i64 (K : Int), .slice none 0 0, .string ⟨#[]⟩] t)) (w.alloc (.cells #[.int .i64 2, .int .i64 0, .int .i64 0, .int .i64 (S : Int), .int .i64 (K : Int), .slice none 0 0, .string ⟨#[]⟩] t)) P S K (.slice none 0 0) [] := by
  subst hP
  exact ⟨Below.refl _ _, by simp, RB.new w S K _ t, fun k => by simp, ⟨by simp, Or.inl ⟨rfl, by simp⟩⟩⟩
theorem below_arg {w0 wr : World} {P : Nat} {xs : List Int} {a : Option Addr} {n c B : Nat} (h : ArgP w0 xs a n c) (hb : ∀ g off, a = some ⟨g, off, none⟩ → g < B) (h2 : Below P w0 wr) (hB : B ≤ P) : ArgP wr xs a n c :=
  ⟨h.len, h.max, fun k hk => by
    obtain ⟨g, off, e, hg, hc⟩ := h.cells k hk
    have := hb g off e
    exact ⟨g, off, e, Nat.lt_of_lt_of_le hg h2.size, (World.cell?_of_block (w := w0) (a := ⟨g, off + k, none⟩) (h2.block g (by omega))).trans hc⟩⟩
/-- A rule of the document's side. -/
def RuleRef (S R : Nat) (T : List Int) (w : World) (e : Ending) (w' : World) : Prop :=
  ∃ a c, e = .returned (.agg #[.int .i64 2, .int .i64 0, .int .i64 0, .int .i64 (S : Int), .int .i64 (R : Int), .slice a T.length c, .string ⟨#[]⟩]) ∧ Reads0 w' a T ∧ (∀ g, a = some ⟨g, 0, none⟩ → w.heap.size ≤ g) ∧ Below w.heap.size w w'
theorem own_reads {w : World} {base : Nat} {e : TypeId} {v : Value} {xs : List Int} (h : w.ownsRow base e 1 v xs.length (xs.map fun x => .int .i64 x)) : ∃ a c, v = .slice a xs.length c ∧ Reads0 w a xs := by
  rcases ownsRow_tab h with ⟨h1, h2⟩ | ⟨g, cap, h1, -, h3⟩
  · subst h1
    exact ⟨none, 0, h2, Reads0.nil _ _⟩
  · exact ⟨some ⟨g, 0, none⟩, cap, h1, fun k hk => ⟨g, rfl, h3 k hk⟩⟩
theorem reads_of_block {w w' : World} {a : Option Addr} {xs : List Int} (h : Reads0 w a xs) (e : ∀ g, a = some ⟨g, 0, none⟩ → w'.heap[g]? = w.heap[g]?) : Reads0 w' a xs := fun k hk => by
  obtain ⟨g, e1, hc⟩ := h k hk
  exact ⟨g, e1, (World.cell?_of_block (w := w) (a := ⟨g, k, none⟩) (e g e1)).trans hc⟩
theorem seven_heap (w : World) (p q : Nat) (a b c d e f g : Value) (h : q ≠ p) : (((((((w.setCell ⟨p, 0, none⟩ a).setCell ⟨p, 1, none⟩ b).setCell ⟨p, 2, none⟩ c).setCell ⟨p, 3, none⟩ d).setCell ⟨p, 4, none⟩ e).setCell ⟨p, 5, none⟩ f).setCell ⟨p, 6, none⟩ g).heap[q]? = w.heap[q]? :=
  ((((((Below.heap_setCell _ _ _ _ h).trans (Below.heap_setCell _ _ _ _ h)).trans (Below.heap_setCell _ _ _ _ h)).trans (Below.heap_setCell _ _ _ _ h)).trans (Below.heap_setCell _ _ _ _ h)).trans (Below.heap_setCell _ _ _ _ h)).trans (Below.heap_setCell _ _ _ _ h)

set_option maxRecDepth 100000 in
set_option maxHeartbeats 6400000 in
theorem refCompose (S Ra Rb : Nat) (Ta Tb : List Int) (ta : Option Addr) (na ca : Nat) (tb : Option Addr) (nb cb : Nat) (w : World) (hLa : LineOk S Ra Ta) (hTa : ArgP w Ta ta na ca) (hLb : LineOk S Rb Tb) (hTb : ArgP w Tb tb nb cb) (hsz : S ^ (2 * (Ra + Rb) + 1) ≤ 4096) :
    Calls Tryd.prog 57 #[.agg #[.int .i64 2, .int .i64 0, .int .i64 0, .int .i64 (S : Int), .int .i64 (Ra : Int), .slice ta na ca, .string ⟨#[]⟩], .agg #[.int .i64 2, .int .i64 0, .int .i64 0, .int .i64 (S : Int), .int .i64 (Rb : Int), .slice tb nb cb, .string ⟨#[]⟩]] w (RuleRef S (Ra + Rb) (madeL S (Ra + Rb) fun ds => (applyL S Rb Tb (applyL S Ra Ta ds)).getD 0 0) w) := by
  obtain ⟨i0, hi, hz0, hz1, hz2⟩ := info_parts info_int
  have ra10 := hLa.r10
  have rb10 := hLb.r10
  have s2 := hLa.s2
  have s4 := hLa.s4
  obtain ⟨K, hK⟩ : ∃ K, Ra + Rb = K := ⟨_, rfl⟩
  have HK := hide' hK
  have q1 : (Ra : Int) + (Rb : Int) = (K : Int) := by omega
  have k10 : K ≤ 10 := pow_small s2 (by rw [← hK]; exact hsz)
  obtain ⟨FF, hFF⟩ : ∃ FF : List Int → Int, (fun ds => (applyL S Rb Tb (applyL S Ra Ta ds)).getD 0 0) = FF := ⟨_, rfl⟩
  have FH := hide' hFF
  rw [hK] at hsz ⊢
  rw [hFF]
  obtain ⟨N, hN⟩ : ∃ N, S ^ (2 * K + 1) = N := ⟨_, rfl⟩
  have NE := hide' hN
  have SV := hide' (show sizeV S K = N by unfold sizeV; rw [if_pos hsz, hN])
  have n4 : N ≤ 4096 := by rw [← hN]; exact hsz
  obtain ⟨L, hL⟩ : ∃ L, 2 * K + 1 = L := ⟨_, rfl⟩
  have HLe := hide' hL
  have q3 : 2 * (K : Int) + 1 = (L : Int) := by omega
  obtain ⟨out, hout⟩ : ∃ out, madeL S K FF = out := ⟨_, rfl⟩
  have OUT := hide' hout
  have OL := hide' (show out.length = N by rw [← hout, madeL_length, hN])
  rw [hout]
  obtain ⟨w3, hw3⟩ : ∃ w3, ((w.alloc (.cells #[.int .i64 2, .int .i64 0, .int .i64 0, .int .i64 (S : Int), .int .i64 (Ra : Int), .slice ta na ca, .string ⟨#[]⟩] 24)).alloc (.cells #[.int .i64 2, .int .i64 0, .int .i64 0, .int .i64 (S : Int), .int .i64 (Rb : Int), .slice tb nb cb, .string ⟨#[]⟩] 24)).alloc (.cells #[.int .i64 0, .int .i64 0, .int .i64 0, .int .i64 0, .int .i64 0, .slice none 0 0, .string ⟨#[]⟩] 24) = w3 := ⟨_, rfl⟩
  have z3 : w3.heap.size = w.heap.size + 3 := by rw [← hw3]; simp
  obtain ⟨w0, hw0⟩ : ∃ w0, w3.alloc (.cells #[.int .i64 2, .int .i64 0, .int .i64 0, .int .i64 (S : Int), .int .i64 (K : Int), .slice none 0 0, .string ⟨#[]⟩] 24) = w0 := ⟨_, rfl⟩
  have B3 := hide' (show Below w.heap.size w w3 by rw [← hw3]; exact (((Below.refl _ _).alloc (Nat.le_refl _) _).alloc (by simp) _).alloc (by simp; omega) _)
  have b0 := hide' (show Below w3.heap.size w3 w0 by rw [← hw0]; exact (Below.refl _ _).alloc (Nat.le_refl _) _)
  have B0 := hide' (B3.out.trans (b0.out.mono B3.out.size))
  have ZZ := hide' (show ZB (w.heap.size + 2) w0 by
    have h := ZB.new ((w.alloc (.cells #[.int .i64 2, .int .i64 0, .int .i64 0, .int .i64 (S : Int), .int .i64 (Ra : Int), .slice ta na ca, .string ⟨#[]⟩] 24)).alloc (.cells #[.int .i64 2, .int .i64 0, .int .i64 0, .int .i64 (S : Int), .int .i64 (Rb : Int), .slice tb nb cb, .string ⟨#[]⟩] 24)) 24
    rw [World.size_alloc, World.size_alloc, hw3] at h
    exact h.next b0.out)
  have XA3 := hide' (show RB w.heap.size S Ra (.slice ta na ca) w3 by
    have h := RB.new w S Ra (.slice ta na ca) 24
    rw [← hw3]
    exact h.block ((Below.heap_alloc _ _ _ (by simp; omega)).trans (Below.heap_alloc _ _ _ (by simp))))
  have XA := hide' (XA3.out.next b0.out)
  have XB3 := hide' (show RB (w.heap.size + 1) S Rb (.slice tb nb cb) w3 by
    have h := RB.new (w.alloc (.cells #[.int .i64 2, .int .i64 0, .int .i64 0, .int .i64 (S : Int), .int .i64 (Ra : Int), .slice ta na ca, .string ⟨#[]⟩] 24)) S Rb (.slice tb nb cb) 24
    rw [World.size_alloc] at h
    rw [← hw3]
    exact h.block (Below.heap_alloc _ _ _ (by simp)))
  have XB := hide' (XB3.out.next b0.out)
  have M0 := hide' (show CM w0 w0 (w.heap.size + 3) S K (.slice none 0 0) (out.take 0) by rw [← hw0]; exact CM.start w3 _ S K z3 _)
  have ATa := hide' (hTa.below B0.out)
  have ATb := hide' (hTb.below B0.out)
  have TBa := hide' (hTa.blk (by have := hTa.len; have := hLa.pos; omega))
  have TBb := hide' (hTb.blk (by have := hTb.len; have := hLb.pos; omega))
  have HLa := hide' hLa
  have HLb := hide' hLb
  have HW0 := hide' hw0
  clear hLa hTa hLb hTb hsz hK hFF hN hL hout hw0
  obtain ⟨x0, x1, x2, x3, x4, x5, x6⟩ := XA3.out
  obtain ⟨y0, y1, y2, y3, y4, y5, y6⟩ := XB3.out
  go_enter Tryd.func57, Tryd.ntmps57
  go_wp2_with fail
  rw [HW0.out]
  clear hw3
  refine (refSize S K _ s2 s4 (by omega)).mono ?_
  rw [SV.out]
  rintro e w4 ⟨rfl, rfl⟩
  clear x0 x1 x2 x3 x4 x5 x6 y0 y1 y2 y3 y4 y5 y6
  go_wp2
  go_loopw [7] (fun iv wr => ∃ (i : Nat) (v : Value), iv = .int .i64 (i : Int) ∧ i ≤ N ∧ CM w4 wr (w.heap.size + 3) S K v (out.take i)) (fun iv _ => N - (intOf iv).toNat)
  case atStart => exact ⟨0, _, rfl, by omega, M0.out⟩
  case round =>
    obtain ⟨i, v, rfl, hi', cm⟩ := hrel
    have M := hide' cm
    have hle : (out.take i).length = i := by rw [List.length_take]; have := OL.out; omega
    have HLI := hide' hle
    obtain ⟨sa, sc, e0⟩ := ownsRow_len cm.own
    rw [hle] at e0
    subst e0
    obtain ⟨c0, c1, c2, c3, c4, c5, c6⟩ := cm.rb
    clear cm M0 hle
    by_cases d : (i : Int) < (N : Int)
    · obtain ⟨x, hx⟩ : ∃ x, out.getD i 0 = x := ⟨_, rfl⟩
      have TN := hide' (take_next (xs := out) (i := i) (by have := OL.out; omega) hx)
      have VAL := hide' (show (applyL S Rb Tb (applyL S Ra Ta (spellL S L i))).getD 0 0 = x by rw [← hx, ← OUT.out, madeL_at S K FF (by rw [NE.out]; omega), ← FH.out, HLe.out])
      clear hx
      go_wp2_with fail
      refine (Window_ref S L i _ s2 s4 (by omega) (by omega)).mono ?_
      rintro e w5 ⟨rfl, fd⟩
      have C5 := hide' (spell_win S L i fd)
      have b5 := fd.below
      have M5 := hide' (M.out.next b5)
      have s5 := b5.size
      clear fd c0 c1 c2 c3 c4 c5 c6
      have BW5 := hide' (M5.out.below)
      obtain ⟨x0, x1, x2, x3, x4, x5, x6⟩ := XA.out.block (BW5.out.block _ (by omega))
      have AT5 := hide' (show ArgP w5 Ta ta na ca from below_arg ATa.out TBa.out BW5.out (by omega))
      clear b5
      go_wp2_with fail
      have KA := refApply_any S Ra Ta ta na ca (spellL S L i) (some ⟨wr.heap.size, 0, none⟩) L w5 HLa.out AT5.out (by rw [spellL_length]; exact C5.out.argP (spellL_length S L i) (by unfold maxLen; omega)) (spellL_ok S L i s2) (by rw [spellL_length]; omega)
      rw [spellL_length] at KA
      refine KA.mono ?_
      clear KA
      rintro e w6 ⟨v6, rfl, t6, -, b6⟩
      have OX := hide' (applyL_ok (S := (S : Int)) (R := Ra) (T := Ta) (by omega) HLa.out.lenI HLa.out.ok (spellL_ok S L i s2))
      obtain ⟨xs, hxs⟩ : ∃ xs, applyL S Ra Ta (spellL S L i) = xs := ⟨_, rfl⟩
      have XL := hide' (show xs.length = 2 * Rb + 1 by rw [← hxs, applyL_length, spellL_length]; have := HK.out; have := HLe.out; omega)
      rw [hxs] at t6 OX VAL
      obtain ⟨a6, c6, rfl, p6⟩ := t6.argL (by rw [XL.out]; unfold maxLen; omega)
      have P6 := hide' p6
      have M6 := hide' (M5.out.next b6)
      have BW6 := hide' (M6.out.below)
      have AT6 := hide' (show ArgP w6 Tb tb nb cb from below_arg ATb.out TBb.out BW6.out (by omega))
      clear x0 x1 x2 x3 x4 x5 x6 t6 p6 b6 hxs
      obtain ⟨x0, x1, x2, x3, x4, x5, x6⟩ := XB.out.block (BW6.out.block _ (by omega))
      go_wp2_with fail
      refine (refApply_any S Rb Tb tb nb cb xs a6 c6 _ HLb.out AT6.out P6.out OX.out (by rw [XL.out]; omega)).mono ?_
      rintro e w7 ⟨v7, rfl, t7, -, b7⟩
      have YL : (applyL S Rb Tb xs).length = 1 := by rw [applyL_length, XL.out]; omega
      obtain ⟨a7, c7, rfl, p7⟩ := t7.argL (by rw [YL]; unfold maxLen; omega)
      rw [YL] at p7 ⊢
      obtain ⟨g7, o7, rfl, k7⟩ := p7.at (k := 0) (by omega)
      rw [VAL.out, Nat.add_zero] at k7
      have M7 := hide' (M6.out.next b7)
      have hz7 := M7.out.sz
      have d5 := M7.out.rb.c5
      have y5 := M7.out.fz 5
      have HO := hide' M7.out.own
      have d6 : ∀ x, (w7.alloc x).cell? ⟨w.heap.size + 3, 5, none⟩ = some (.slice sa i sc) := fun x => (World.cell?_alloc_lt w7 x ⟨w.heap.size + 3, 5, none⟩ (by simp; omega)).trans d5
      clear x0 x1 x2 x3 x4 x5 x6 t7 p7 b7 YL
      go_wp2
      go_region_law (refine step_append_lies _ (by rfl) _ _ _ (by rfl) (w.heap.size + 3 + 1) 3 i0 _ 1 8 Tryd.underlying22 hi hz0 hz1 hz2 rfl (by omega) (.slice sa i sc) _ _ (by rfl) ((HO.out.alloc _).drew) ⟨w7.heap.size, 0, none⟩ 1 1 [.int .i64 x] (by rfl) (by rfl) (World.news_of_block (cs := #[.int .i64 x]) (t := 3) (fr := (0, 0)) (heap_alloc_new w7 _)) (by simp [Value.oneCell']) (by omega) (by rw [HLI.out]; unfold maxLen; omega) (by rw [HLI.out]; omega) (by simp; omega) (w7.heap.size + 1) (by simp) ?_; intro gg cap w8 hown1 hgrow hat hlt; have z5 := (M7.out.mid (grownBy_drew hgrow)).1; have z6 := (M7.out.mid (grownBy_drew hgrow)).2)
      all_goals
        go_wp2
        have hp := M7.out.push (grownBy_drew hgrow) hown1
        rw [HLI.out] at hp
        refine ⟨⟨i + 1, .slice (some ⟨gg, 0, none⟩) (i + 1) cap, by go_num, by omega, ?_⟩, by simp [intOf]; omega⟩
        rw [TN.out]
        have mm : min i out.length = i := by have := OL.out; omega
        rw [mm]
        exact hp
    · have TK := hide' (show out.take i = out by rw [show i = out.length by have := OL.out; omega, List.take_length])
      have iN : i = N := by omega
      have zb := ZZ.out.block (M.out.below.block _ (by omega))
      obtain ⟨r0, r1, r2, r3, r4, r5, r6, rf⟩ := zb
      have f0 := rf 0
      have f1 := rf 1
      have f2 := rf 2
      have f3 := rf 3
      have f4 := rf 4
      have f5 := rf 5
      have f6 := rf 6
      have BF := hide' (B0.out.trans (M.out.below.mono (by omega)))
      have ho := M.out.own
      rw [TK.out] at ho
      have HO := hide' ho
      clear rf ho iN
      go_wp2
      refine bodyPost_ret (v := .agg #[.int .i64 2, .int .i64 0, .int .i64 0, .int .i64 (S : Int), .int .i64 (K : Int), .slice sa i sc, .string ⟨#[]⟩]) (by simp [results, Tryd.results57, go_sem, r0, r1, r2, r3, r4, r5, r6]) rfl ?_
      obtain ⟨a9, c9, e9, rd9⟩ := own_reads HO.out
      have hb9 := ownsRow_lt HO.out
      injection e9 with e1 e2 e3
      subst e1 e3
      refine ⟨sa, sc, by rw [e2], reads_of_block rd9 (fun g eg => seven_heap _ _ _ _ _ _ _ _ _ _ (by have := (hb9 g (by rw [eg]; rfl)).1; omega)), fun g eg => by have := (hb9 g (by rw [eg]; rfl)).1; omega, seven_below BF.out (by omega) _ _ _ _ _ _ _⟩
end Go.Proofs.YtljdidimoagnhaaDoor

namespace Go.Proofs.YtljdidimoagnhaaDoor
open Go.RowKit
set_option linter.unusedVariables false

set_option maxHeartbeats 1600000 in
theorem Window_big (s long m : Nat) (w : World) (hs2 : 2 ≤ s) (hs4 : s ≤ 4) (hl : long ≤ 4096) (hm : m ≤ 100000) :
    Calls Tryd.prog 87 #[.int .i64 (s : Int), .int .i64 (long : Int), .int .i64 (m : Int)] w fun e w' => e = .returned (.slice (some ⟨w.heap.size, 0, none⟩) long long) ∧ FillD w w' w.heap.size long 0 (fun j => (winAt s long m j : Int)) := by
  have hs0 : ((s : Int) == 0) = false := by simp; omega
  have hs1 : (s : Int) ≠ 0 := by omega
  have hs2' : (2 : Int) ≤ (s : Int) := by omega
  have hs4' : (s : Int) ≤ 4 := by omega
  have hmk := run_make_row' (P := Tryd.prog) 22 3 (.int .i64 0) 8 Tryd.underlying22 info_int rfl .i64 .i64 long (by omega) (by omega)
  have S := hide' (FillD.start w long (fun j => (winAt s long m j : Int)) (.int .i64 0) 3)
  go_enter Tryd.func87, Tryd.ntmps87
  go_wp2
  go_loopw [2, 8] (fun xv iv wr => ∃ k x : Nat, iv = .int .i64 ((k : Int) - 1) ∧ xv = .int .i64 (x : Int) ∧ k ≤ long ∧ x ≤ 100000 ∧ Hid (x = m / s ^ (long - k)) ∧ FillD w wr w.heap.size long k (fun j => (winAt s long m j : Int))) (fun _ iv _ => (intOf iv + 1).toNat)
  case atStart => exact ⟨long, m, rfl, rfl, by omega, hm, hide' (by simp), S.out⟩
  case round =>
    obtain ⟨k, x, rfl, rfl, hk, hx, HX, fk⟩ := hrel
    have FK := hide' fk
    clear hmk S
    by_cases d : (0 : Int) ≤ (k : Int) - 1
    · obtain ⟨i, rfl⟩ : ∃ i, k = i + 1 := ⟨k - 1, by omega⟩
      obtain ⟨v, hv, -⟩ := fk.cells i (by omega)
      have hf := fk.fz i
      have e1 : ((i + 1 : Nat) : Int) - 1 = (i : Int) := by omega
      rw [e1]
      rw [e1] at d
      clear e1 fk
      have q2 : x / s ≤ x := Nat.div_le_self _ _
      have Q2 := hide' q2
      clear q2
      go_wp2
      rw [show ((x : Int) / (s : Int)) = ((x / s : Nat) : Int) by simp, wrapq _ (by have := Q2.out; omega)]
      refine ⟨⟨i, x / s, rfl, rfl, by omega, by have := Q2.out; omega, hide' ?_, FK.out.step (by omega) ?_⟩, ?_⟩
      · rw [HX.out, Nat.div_div_eq_div_mul, ← Nat.pow_succ, show (long - (i + 1)).succ = long - i by omega]
      · show ((winAt s long m i : Nat) : Int) = _
        unfold winAt
        rw [show long - 1 - i = long - (i + 1) by omega, ← HX.out]
        simp
      · simp [intOf]
    · have K := hide' (show k = 0 by omega)
      clear fk
      go_wp2
      go_ret
      refine ⟨rfl, ?_⟩
      have := FK.out
      rw [K.out] at this
      exact this

/-- A word read off a number. -/
def winL (S long x : Nat) : List Int := (List.range long).map fun j => ((winAt S long x j : Nat) : Int)
theorem winL_length (S long x : Nat) : (winL S long x).length = long := by simp [winL]
theorem winL_at {S long x j : Nat} (h : j < long) : (winL S long x).getD j 0 = ((winAt S long x j : Nat) : Int) := by simp [winL, List.getD, h]
theorem winL_ok {S long x : Nat} (hS : 0 < S) : cellsOk S (winL S long x) := by
  intro y hy
  obtain ⟨j, _, rfl⟩ := List.mem_map.1 hy
  have := Nat.mod_lt (x / S ^ (long - 1 - j)) hS
  unfold winAt
  omega
theorem win_digits {S long x i : Nat} (hS : 0 < S) : ∀ m, i + m ≤ long → wn (S : Int) (fun t => (winL S long x).getD t 0) i m = ((x / S ^ (long - i - m) % S ^ m : Nat) : Int)
  | 0, _ => by simp [wn, Nat.mod_one]
  | m + 1, h => by
    rw [wn, win_digits hS m (by omega), winL_at (by omega)]
    unfold winAt
    obtain ⟨D, hD⟩ : ∃ D, long - i - (m + 1) = D := ⟨_, rfl⟩
    rw [show long - 1 - (i + m) = D by omega, show long - i - m = D + 1 by omega, hD, Nat.pow_succ S D, ← Nat.div_div_eq_div_mul, Nat.pow_succ S m, Nat.mul_comm (S ^ m) S, Nat.mod_mul]
    push_cast
    rw [Int.mul_comm, Int.add_comm]
/-- What a rule makes of it, cell by cell. -/
theorem apply_win {S R q x n : Nat} {T : List Int} (hS : 0 < S) (hT : T.length = S ^ (2 * R + 1)) {j : Nat} (hj : j < 2 * q + 1) :
    (applyL S R T (winL S (2 * q + 1 + 2 * R) x)).getD j 0 = T.getD (x / S ^ (2 * q - j) % T.length) 0 := by
  rw [applyL_at _ _ _ _ (by rw [winL_length]; omega), win_digits hS _ (by omega), Int.toNat_natCast, hT]
  rw [show 2 * q + 1 + 2 * R - j - (2 * R + 1) = 2 * q - j by omega]
theorem short_horner {S M x : Nat} {T : List Int} {F : Nat → Int} (hF : ∀ j, j < M → F j = ((T.getD (x / S ^ (M - 1 - j) % T.length) 0).toNat : Int)) :
    ∀ m, m ≤ M → wn (S : Int) F 0 m * ((S ^ (M - m) : Nat) : Int) + ((shortN S T x (M - m) : Nat) : Int) = ((shortN S T x M : Nat) : Int)
  | 0, _ => by simp [wn]
  | m + 1, h => by
    rw [← short_horner hF m (by omega)]
    obtain ⟨D, hD⟩ : ∃ D, M - (m + 1) = D := ⟨_, rfl⟩
    rw [hD, show M - m = D + 1 by omega, wn, Nat.zero_add, hF m (by omega), show M - 1 - m = D by omega, shortN, Nat.pow_succ]
    push_cast
    rw [Int.add_mul, Int.mul_assoc, Int.mul_comm (S : Int) ((S : Int) ^ D), Int.add_assoc, Int.add_comm ((shortN S T x D : Nat) : Int)]
/-- The number of what a rule makes of it. -/
theorem at_short {S R q x n : Nat} {T : List Int} (hS : 0 < S) (hok : cellsOk S T) (hT : T.length = S ^ (2 * R + 1)) :
    wn (S : Int) (fun t => (applyL S R T (winL S (2 * q + 1 + 2 * R) x)).getD t 0) 0 (2 * q + 1) = ((shortN S T x (2 * q + 1) : Nat) : Int) := by
  have := short_horner (S := S) (M := 2 * q + 1) (x := x) (T := T) (F := fun t => (applyL S R T (winL S (2 * q + 1 + 2 * R) x)).getD t 0) (fun j hj => by
    show (applyL S R T (winL S (2 * q + 1 + 2 * R) x)).getD j 0 = _
    rw [apply_win (n := n) hS hT hj, show 2 * q + 1 - 1 - j = 2 * q - j by omega]
    have := cellsOk_at hok (k := x / S ^ (2 * q - j) % T.length) (Nat.mod_lt _ (by rw [hT]; exact Nat.pow_pos hS))
    omega) (2 * q + 1) (Nat.le_refl _)
  rw [Nat.sub_self] at this
  simpa [shortN] using this
theorem mid_win {S R q x : Nat} : winAt S (2 * q + 1 + 2 * R) x (q + R) = x / S ^ (q + R) % S := by
  unfold winAt
  rw [show 2 * q + 1 + 2 * R - 1 - (q + R) = q + R by omega]
end Go.Proofs.YtljdidimoagnhaaDoor

