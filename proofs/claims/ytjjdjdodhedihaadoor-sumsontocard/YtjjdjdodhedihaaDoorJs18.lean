/-
  What the last text of this claim leans on, part 18: Od4, Oe1, Oe2, Oe3, Ll1, Ll2, Ll3, Ll4, Of1, Of2, Of3.
-/
import Derived.Test.YtjjdjdodhedihaaDoorJs17
import Derived.Test.YtjjdjdodhedihaaDoorJs7
import Derived.Test.YtjjdjdodhedihaaDoorJs3
import Derived.Deep.RegionWith
namespace Go.Proofs.YtjjdjdodhedihaaDoor
open Go.RowKit
set_option linter.unusedVariables false

def OneErr (f : Nat) (w : World) (e : Ending) (w' : World) : Prop := e = .returned (.tuple #[.bool false, .slice none 0 0, .slice none 0 0, .iface 85 (.int .i64 (f : Int))]) ∧ Below w.heap.size w w'
def OnePost (S n : Nat) (T : List Int) (w : World) (e : Ending) (w' : World) : Prop :=
  ((∃ u full v1 v2, e = .returned (.tuple #[.bool false, v1, v2, .nilIface]) ∧ w'.ownsRow w.heap.size 3 1 v1 full.length (full.map fun y => .int .i64 (y.1 : Int)) ∧ w'.ownsRow w.heap.size 3 1 v2 full.length (full.map fun y => .int .i64 (y.2 : Int)) ∧ IsRing S n T u full) ∨
   (e = .returned (.tuple #[.bool true, .slice none 0 0, .slice none 0 0, .nilIface]) ∧ ∀ u : Nat × Nat, u.1 ≤ u.2 → u.2 < n → NoRing S n T u)) ∧ Below w.heap.size w w'
theorem argP_nil (w : World) : ArgP w [] none 0 0 := ⟨rfl, by simp, fun k hk => by simp at hk⟩

set_option maxRecDepth 100000 in
set_option maxHeartbeats 3200000 in
theorem one_bad (S R : Nat) (T : List Int) (ta : Option Addr) (tn tc : Nat) (w : World) (hL : LineOk S R T) (hT : ArgP w T ta tn tc) (he : askE S R [] ≠ 0) :
    Calls Tryd.prog 13 #[.agg #[.int .i64 2, .int .i64 0, .int .i64 0, .int .i64 (S : Int), .int .i64 (R : Int), .slice ta tn tc, .string ⟨#[]⟩]] w (OneErr (askE S R []) w) := by
  obtain ⟨w1, hw1⟩ : ∃ w1, w.alloc (.cells #[.int .i64 2, .int .i64 0, .int .i64 0, .int .i64 (S : Int), .int .i64 (R : Int), .slice ta tn tc, .string ⟨#[]⟩] 24) = w1 := ⟨_, rfl⟩
  have BB := hide' (show Below w.heap.size w w1 by rw [← hw1]; exact (Below.refl _ _).alloc (Nat.le_refl _) _)
  have RX := hide' (show RB w.heap.size S R (.slice ta tn tc) w1 by rw [← hw1]; exact RB.new w S R _ _)
  have AT := hide' (hT.below BB.out)
  have HL := hide' hL
  obtain ⟨f, hf⟩ : ∃ f, askE S R [] = f := ⟨_, rfl⟩
  have ER := hide' (show errOf (askE S R []) = .iface 85 (.int .i64 (f : Int)) by rw [hf]; exact errOf_ne (by rw [← hf]; exact he))
  rw [hf]
  clear hT hL he hf
  have C0 := hide' (Below.refl w1.heap.size w1)
  obtain ⟨x0, x1, x2, x3, x4, x5, x6⟩ := RX.out
  go_enter Tryd.func13, Tryd.ntmps13
  go_wp2_with fail
  refine (ontoCheck_line S R T ta tn tc [] none 0 0 _ HL.out AT.out (argP_nil _)).mono ?_
  rw [ER.out]
  rintro e w2 ⟨rfl, b⟩
  clear hw1
  have C1 := hide' (C0.out.trans (b.mono C0.out.size))
  clear b x0 x1 x2 x3 x4 x5 x6 C0
  obtain ⟨x0, x1, x2, x3, x4, x5, x6⟩ := RX.out.next C1.out
  go_wp2
  refine bodyPost_ret (v := .tuple #[.bool false, .slice none 0 0, .slice none 0 0, .iface 85 (.int .i64 (f : Int))]) (by simp [results, Tryd.results13, go_sem]) rfl ?_
  exact ⟨rfl, BB.out.trans (C1.out.mono BB.out.size)⟩

set_option maxRecDepth 100000 in
set_option maxHeartbeats 3200000 in
theorem one_ok (S R n : Nat) (T : List Int) (ta : Option Addr) (tn tc : Nat) (w : World) (hL : LineOk S R T) (hT : ArgP w T ta tn tc) (he : askE S R [] = 0) (hn : S ^ (2 * R) = n) :
    Calls Tryd.prog 13 #[.agg #[.int .i64 2, .int .i64 0, .int .i64 0, .int .i64 (S : Int), .int .i64 (R : Int), .slice ta tn tc, .string ⟨#[]⟩]] w (OnePost S n T w) := by
  obtain ⟨w1, hw1⟩ : ∃ w1, w.alloc (.cells #[.int .i64 2, .int .i64 0, .int .i64 0, .int .i64 (S : Int), .int .i64 (R : Int), .slice ta tn tc, .string ⟨#[]⟩] 24) = w1 := ⟨_, rfl⟩
  have BB := hide' (show Below w.heap.size w w1 by rw [← hw1]; exact (Below.refl _ _).alloc (Nat.le_refl _) _)
  have RX := hide' (show RB w.heap.size S R (.slice ta tn tc) w1 by rw [← hw1]; exact RB.new w S R _ _)
  have AT := hide' (hT.below BB.out)
  have HL := hide' hL
  obtain ⟨h1, h2⟩ := askE_zero he
  obtain ⟨g1, g2, g3⟩ := hL.graph hT.len hn
  rw [hn] at h2
  have t4 : tn ≤ 4096 := by rw [hT.len]; exact hL.max
  have TBK := hide' (hT.blk (by have := hT.len; have := hL.pos; omega))
  have GO := hide' (fun (wr : World) => graphOf_any S R T ta tn tc n wr hL g1 t4)
  have RI' := hide' (fun (wr : World) (h : Below w1.heap.size w1 wr) => rings_any S R n T ta tn tc wr g3 h2 hL.s2 hL.s4 g2 (AT.out.below h) (fun g off e => by have := TBK.out g off e; have := BB.out.size; have := h.size; omega))
  have HE := hide' he
  clear hT hL he h1 h2 hn g1 g2 g3 t4
  have C0 := hide' (Below.refl w1.heap.size w1)
  obtain ⟨x0, x1, x2, x3, x4, x5, x6⟩ := RX.out
  go_enter Tryd.func13, Tryd.ntmps13
  go_wp2_with fail
  refine (ontoCheck_line S R T ta tn tc [] none 0 0 _ HL.out AT.out (argP_nil _)).mono ?_
  rw [HE.out, show errOf 0 = .nilIface from rfl]
  rintro e w2 ⟨rfl, b⟩
  clear hw1
  have C1 := hide' (C0.out.trans (b.mono C0.out.size))
  clear b x0 x1 x2 x3 x4 x5 x6 C0
  obtain ⟨x0, x1, x2, x3, x4, x5, x6⟩ := RX.out.next C1.out
  go_wp2_with fail
  refine (GO.out _).mono ?_
  rintro e w3 ⟨rfl, b⟩
  have C2 := hide' (C1.out.trans (b.mono C1.out.size))
  clear b x0 x1 x2 x3 x4 x5 x6 C1
  obtain ⟨x0, x1, x2, x3, x4, x5, x6⟩ := RX.out.next C2.out
  have sz3 := C2.out.size
  have szw := BB.out.size
  go_wp2_with fail
  refine (RI'.out _ C2.out).mono ?_
  unfold RingsPost
  rintro e w4 ⟨hor, b⟩
  rcases hor with ⟨u, full, v1, v2, rfl, o1, o2, ir⟩ | ⟨rfl, hno⟩
  · have h0 : 0 < full.length := by obtain ⟨_, _, _, ⟨cs, d, e, _⟩, _⟩ := ir; rw [e]; simp
    obtain ⟨g8, c8, rfl⟩ := row_form o1 h0
    obtain ⟨g9, c9, rfl⟩ := row_form o2 h0
    have O1 := hide' (row_base_mono o1 (show w.heap.size ≤ w3.heap.size by omega))
    have O2 := hide' (row_base_mono o2 (show w.heap.size ≤ w3.heap.size by omega))
    have IR := hide' ir
    have k0 : ((full.length : Int) == 0) = false := by rw [beq_eq_false_iff_ne]; omega
    clear o1 o2 ir
    have C3 := hide' (C2.out.trans (b.mono C2.out.size))
    clear b x0 x1 x2 x3 x4 x5 x6 C2
    obtain ⟨x0, x1, x2, x3, x4, x5, x6⟩ := RX.out.next C3.out
    go_wp2
    refine bodyPost_ret (v := .tuple #[.bool false, .slice (some ⟨g8, 0, none⟩) full.length c8, .slice (some ⟨g9, 0, none⟩) full.length c9, .nilIface]) (by simp [results, Tryd.results13, go_sem]) rfl ?_
    exact ⟨Or.inl ⟨u, full, _, _, rfl, O1.out, O2.out, IR.out⟩, BB.out.trans (C3.out.mono BB.out.size)⟩
  · have NO := hide' hno
    clear hno
    have C3 := hide' (C2.out.trans (b.mono C2.out.size))
    clear b x0 x1 x2 x3 x4 x5 x6 C2
    obtain ⟨x0, x1, x2, x3, x4, x5, x6⟩ := RX.out.next C3.out
    go_wp2
    refine bodyPost_ret (v := .tuple #[.bool true, .slice none 0 0, .slice none 0 0, .nilIface]) (by simp [results, Tryd.results13, go_sem]) rfl ?_
    exact ⟨Or.inr ⟨rfl, NO.out⟩, BB.out.trans (C3.out.mono BB.out.size)⟩
end Go.Proofs.YtjjdjdodhedihaaDoor

namespace Go.Proofs.YtjjdjdodhedihaaDoor
open Go.RowKit
set_option linter.unusedVariables false

end Go.Proofs.YtjjdjdodhedihaaDoor

namespace Go.Proofs.YtjjdjdodhedihaaDoor
open Go.RowKit
set_option linter.unusedVariables false

end Go.Proofs.YtjjdjdodhedihaaDoor

namespace Go.Proofs.YtjjdjdodhedihaaDoor
open Go.RowKit
set_option linter.unusedVariables false

end Go.Proofs.YtjjdjdodhedihaaDoor

namespace Go.Proofs.YtjjdjdodhedihaaDoor
open Go.RowKit
set_option linter.unusedVariables false

end Go.Proofs.YtjjdjdodhedihaaDoor

namespace Go.Proofs.YtjjdjdodhedihaaDoor
open Go.RowKit
set_option linter.unusedVariables false

/-- The result's box, while nothing is stored there. -/
structure ZB (p : Nat) (w : World) : Prop where
  c0 : w.cell? ⟨p, 0, none⟩ = some (.int .i64 0)
  c1 : w.cell? ⟨p, 1, none⟩ = some (.int .i64 0)
  c2 : w.cell? ⟨p, 2, none⟩ = some (.int .i64 0)
  c3 : w.cell? ⟨p, 3, none⟩ = some (.int .i64 0)
  c4 : w.cell? ⟨p, 4, none⟩ = some (.int .i64 0)
  c5 : w.cell? ⟨p, 5, none⟩ = some (.slice none 0 0)
  c6 : w.cell? ⟨p, 6, none⟩ = some (.string ⟨#[]⟩)
  fz : ∀ k, w.frozen? ⟨p, k, none⟩ = false
theorem ZB.lt {p : Nat} {w : World} (h : ZB p w) : p < w.heap.size := by
  rcases Nat.lt_or_ge p w.heap.size with k | k
  · exact k
  · have := h.c0; simp [World.cell?, Array.getElem?_eq_none k] at this
theorem ZB.block {p : Nat} {w w' : World} (h : ZB p w) (e : w'.heap[p]? = w.heap[p]?) : ZB p w' :=
  ⟨(World.cell?_of_block (w := w) (a := ⟨p, 0, none⟩) e).trans h.c0, (World.cell?_of_block (w := w) (a := ⟨p, 1, none⟩) e).trans h.c1, (World.cell?_of_block (w := w) (a := ⟨p, 2, none⟩) e).trans h.c2, (World.cell?_of_block (w := w) (a := ⟨p, 3, none⟩) e).trans h.c3, (World.cell?_of_block (w := w) (a := ⟨p, 4, none⟩) e).trans h.c4, (World.cell?_of_block (w := w) (a := ⟨p, 5, none⟩) e).trans h.c5, (World.cell?_of_block (w := w) (a := ⟨p, 6, none⟩) e).trans h.c6, fun k => (World.frozen?_of_block (w := w) (a := ⟨p, k, none⟩) e).trans (h.fz k)⟩
theorem ZB.next {p : Nat} {w w' : World} (h : ZB p w) (hb : Below w.heap.size w w') : ZB p w' := h.block (hb.block p h.lt)
theorem ZB.new (w : World) (t : TypeId) : ZB w.heap.size (w.alloc (.cells #[.int .i64 0, .int .i64 0, .int .i64 0, .int .i64 0, .int .i64 0, .slice none 0 0, .string ⟨#[]⟩] t)) :=
  ⟨by rw [World.cell?_alloc_at _ _ _ _ rfl]; rfl, by rw [World.cell?_alloc_at _ _ _ _ rfl]; rfl, by rw [World.cell?_alloc_at _ _ _ _ rfl]; rfl, by rw [World.cell?_alloc_at _ _ _ _ rfl]; rfl, by rw [World.cell?_alloc_at _ _ _ _ rfl]; rfl, by rw [World.cell?_alloc_at _ _ _ _ rfl]; rfl, by rw [World.cell?_alloc_at _ _ _ _ rfl]; rfl, fun k => by simp⟩

end Go.Proofs.YtjjdjdodhedihaaDoor

namespace Go.Proofs.YtjjdjdodhedihaaDoor
open Go.RowKit
set_option linter.unusedVariables false

end Go.Proofs.YtjjdjdodhedihaaDoor

namespace Go.Proofs.YtjjdjdodhedihaaDoor
open Go.RowKit
set_option linter.unusedVariables false

end Go.Proofs.YtjjdjdodhedihaaDoor

namespace Go.Proofs.YtjjdjdodhedihaaDoor
open Go.RowKit
set_option linter.unusedVariables false

/-- What may turn: two blocks, rows of numbers; all below B0 lies as it lay. -/
structure RK (gs pt B0 : Nat) (W W' : World) : Prop where
  bl : Below B0 W W'
  same : ∀ k o, W.heap[k]? = some o → k ≠ gs → k ≠ pt → (∀ c f, o ≠ .cells c 3 f) → W'.heap[k]? = some o
theorem RK.refl (gs pt B0 : Nat) (W : World) : RK gs pt B0 W W := ⟨Below.refl _ _, fun _ _ h _ _ _ => h⟩
theorem RK.trans {gs pt B0 : Nat} {A B C : World} (h : RK gs pt B0 A B) (k : RK gs pt B0 B C) : RK gs pt B0 A C :=
  ⟨h.bl.trans k.bl, fun i o h0 h1 h2 h3 => k.same i o (h.same i o h0 h1 h2 h3) h1 h2 h3⟩
theorem RK.below {gs pt B0 : Nat} {A B : World} (h : Below A.heap.size A B) (hB : B0 ≤ A.heap.size) : RK gs pt B0 A B :=
  ⟨h.mono hB, fun k o h0 _ _ _ => (h.block k (Array.getElem?_eq_some_iff.1 h0).1).trans h0⟩
theorem RK.blk {gs pt B0 : Nat} {A B : World} (h : RK gs pt B0 A B) {p : Nat} {cs : Array Value} {t : TypeId} (hp : Blk A p cs t) (h1 : p ≠ gs) (h2 : p ≠ pt) (ht : t ≠ 3) : Blk B p cs t :=
  h.same p _ hp h1 h2 (fun c f e => by injection e with _ e _; exact ht e)
/-- The number of the pair to which a way leads. -/
def codeP (S n k : Nat) (c : Nat × Nat) : Nat := (stepP S n (k / n, k % n) c).1 * n + (stepP S n (k / n, k % n) c).2

end Go.Proofs.YtjjdjdodhedihaaDoor

namespace Go.Proofs.YtjjdjdodhedihaaDoor
open Go.RowKit
set_option linter.unusedVariables false

/-- What One notes of the ways on from pair k: to which pairs unlike cells lead. -/
structure FJ (W : World) (S n k : Nat) (T : List Int) (pf gf pa B0 j : Nat) (fl : List Bool) (an : Bool) : Prop where
  fb : Blk W pf #[.slice (some ⟨gf, 0, none⟩) (n * n) (n * n)] 90
  fc : Blk W gf (fl.map Value.bool).toArray 4
  ac : Blk W pa #[.bool an] 4
  ne : gf ≠ pa
  fl_ : fl.length = n * n
  sp : ∀ t, t < n * n → (fl.getD t false = true ↔ ∃ c : Nat × Nat, c.1 * S + c.2 < j ∧ OkWay S T (k / n, k % n) c ∧ c.1 ≠ c.2 ∧ codeP S n k c = t)
  sa : an = true ↔ ∃ c : Nat × Nat, c.1 * S + c.2 < j ∧ OkWay S T (k / n, k % n) c ∧ c.1 ≠ c.2
  b1 : B0 ≤ gf
  b2 : B0 ≤ pa
theorem FJ.next {W W' : World} {S n k : Nat} {T : List Int} {pf gf pa B0 j : Nat} {fl : List Bool} {an : Bool} (h : FJ W S n k T pf gf pa B0 j fl an) (b : Below W.heap.size W W') : FJ W' S n k T pf gf pa B0 j fl an :=
  ⟨h.fb.of (b.block _ h.fb.lt), h.fc.of (b.block _ h.fc.lt), h.ac.of (b.block _ h.ac.lt), h.ne, h.fl_, h.sp, h.sa, h.b1, h.b2⟩
theorem cell_code {S : Nat} {c d : Nat × Nat} (h1 : c.2 < S) (h2 : d.2 < S) (e : c.1 * S + c.2 = d.1 * S + d.2) : c = d := by
  obtain ⟨a, b⟩ := code_inj h1 h2 e
  exact Prod.ext a b
theorem FJ.skip {W : World} {S n k : Nat} {T : List Int} {pf gf pa B0 j : Nat} {fl : List Bool} {an : Bool} (h : FJ W S n k T pf gf pa B0 j fl an) (c : Nat × Nat) (hc : c.2 < S) (hj : j = c.1 * S + c.2) (hno : ¬ (OkWay S T (k / n, k % n) c ∧ c.1 ≠ c.2)) : FJ W S n k T pf gf pa B0 (j + 1) fl an := by
  refine ⟨h.fb, h.fc, h.ac, h.ne, h.fl_, fun t ht => (h.sp t ht).trans ⟨fun ⟨d, q1, q2, q3, q4⟩ => ⟨d, by omega, q2, q3, q4⟩, fun ⟨d, q1, q2, q3, q4⟩ => ⟨d, ?_, q2, q3, q4⟩⟩, h.sa.trans ⟨fun ⟨d, q1, q2, q3⟩ => ⟨d, by omega, q2, q3⟩, fun ⟨d, q1, q2, q3⟩ => ⟨d, ?_, q2, q3⟩⟩, h.b1, h.b2⟩
  · rcases Nat.lt_or_ge (d.1 * S + d.2) j with c' | c'
    · exact c'
    · exact absurd (show OkWay S T (k / n, k % n) c ∧ c.1 ≠ c.2 by rw [cell_code hc q2.2.1 (by omega : c.1 * S + c.2 = d.1 * S + d.2)]; exact ⟨q2, q3⟩) hno
  · rcases Nat.lt_or_ge (d.1 * S + d.2) j with c' | c'
    · exact c'
    · exact absurd (show OkWay S T (k / n, k % n) c ∧ c.1 ≠ c.2 by rw [cell_code hc q2.2.1 (by omega : c.1 * S + c.2 = d.1 * S + d.2)]; exact ⟨q2, q3⟩) hno
theorem codeP_lt {S n k : Nat} (hn : 0 < n) (c : Nat × Nat) : codeP S n k c < n * n := code_lt (stepP_lt hn _ c).1 (stepP_lt hn _ c).2
theorem getD_setB (l : List Bool) (i t : Nat) (h : i < l.length) : (l.set i true).getD t false = (decide (t = i) || l.getD t false) := by
  rw [List.getD_eq_getElem?_getD, List.getD_eq_getElem?_getD, List.getElem?_set]
  by_cases e : i = t
  · subst e; simp [h]
  · have e' : ¬ t = i := fun q => e q.symm
    simp [e, e']
end Go.Proofs.YtjjdjdodhedihaaDoor

namespace Go.Proofs.YtjjdjdodhedihaaDoor
open Go.RowKit
set_option linter.unusedVariables false

/-- What reach holds: what is in, what is to be done. -/
structure TJ (W : World) (n pi gi pt B0 : Nat) (il : List Bool) (tl : List Nat) : Prop where
  ib : Blk W pi #[.slice (some ⟨gi, 0, none⟩) (n * n) (n * n)] 90
  ic : Blk W gi (il.map Value.bool).toArray 4
  il_ : il.length = n * n
  tv : ∃ v, Blk W pt #[v] 22 ∧ W.ownsRow B0 3 1 v tl.length (tl.map fun (y : Nat) => Value.int .i64 (y : Int))
  b1 : B0 ≤ gi
  b2 : B0 ≤ pt
theorem TJ.next {W W' : World} {n pi gi pt B0 : Nat} {il : List Bool} {tl : List Nat} (h : TJ W n pi gi pt B0 il tl) (k : Below W.heap.size W W') : TJ W' n pi gi pt B0 il tl := by
  obtain ⟨v, tb, tr⟩ := h.tv
  exact ⟨h.ib.of (k.block _ h.ib.lt), h.ic.of (k.block _ h.ic.lt), h.il_, ⟨v, tb.of (k.block _ tb.lt), tr.kept (grown_of_below k) (Classical.em _)⟩, h.b1, h.b2⟩
def ilAfter (il : List Bool) (t : Nat) : List Bool := if il.getD t false then il else il.set t true
def tlAfter (il : List Bool) (tl : List Nat) (t : Nat) : List Nat := if il.getD t false then tl else tl ++ [t]

/-- A pair by its number. -/
def unP (n k : Nat) : Nat × Nat := (k / n, k % n)
def coP (n : Nat) (u : Nat × Nat) : Nat := u.1 * n + u.2
theorem un_co {n : Nat} {u : Nat × Nat} (h : u.2 < n) : unP n (coP n u) = u := by
  unfold unP coP
  rw [Nat.mul_comm, Nat.mul_add_div (by omega), Nat.div_eq_of_lt h, Nat.mul_add_mod, Nat.mod_eq_of_lt h]
  simp
theorem un_lt {n k : Nat} (hn : 0 < n) (h : k < n * n) : (unP n k).1 < n ∧ (unP n k).2 < n := ⟨Nat.div_lt_of_lt_mul h, Nat.mod_lt _ hn⟩
/-- What reach keeps. -/
structure PR (S n : Nat) (T : List Int) (fl il : List Bool) (tl : List Nat) : Prop where
  len : il.length = n * n
  cnt : tl.length = il.count true
  seen : ∀ t, t < n * n → (il.getD t false = true ↔ t ∈ tl)
  rng : ∀ t ∈ tl, t < n * n
  org : ∀ t ∈ tl, ∃ j cs, j < n * n ∧ fl.getD j false = true ∧ okP S n T (unP n j) cs ∧ coP n (endP S n (unP n j) cs) = t
theorem PR.bound {S n : Nat} {T : List Int} {fl il : List Bool} {tl : List Nat} (h : PR S n T fl il tl) : tl.length ≤ n * n := by rw [h.cnt, ← h.len]; exact List.count_le_length
theorem PR.add {S n : Nat} {T : List Int} {fl il : List Bool} {tl : List Nat} (h : PR S n T fl il tl) (t : Nat) (ht : t < n * n) (ho : ∃ j cs, j < n * n ∧ fl.getD j false = true ∧ okP S n T (unP n j) cs ∧ coP n (endP S n (unP n j) cs) = t) : PR S n T fl (ilAfter il t) (tlAfter il tl t) := by
  unfold ilAfter tlAfter
  cases hb : il.getD t false with
  | true => exact h
  | false =>
    simp only [Bool.false_eq_true, if_false]
    refine ⟨by simp [h.len], ?_, fun s hs => ?_, fun s hs => ?_, fun s hs => ?_⟩
    · rw [count_set_true _ _ (by rw [h.len]; exact ht) hb, List.length_append, h.cnt]; rfl
    · rw [getD_setB _ _ _ (by rw [h.len]; exact ht)]
      simp only [Bool.or_eq_true, decide_eq_true_eq, List.mem_append, List.mem_singleton]
      rw [h.seen s hs]
      exact Or.comm
    · rcases List.mem_append.1 hs with q | q
      · exact h.rng s q
      · rw [List.mem_singleton.1 q]; exact ht
    · rcases List.mem_append.1 hs with q | q
      · exact h.org s q
      · rw [List.mem_singleton.1 q]; exact ho
theorem il_mono {il : List Bool} {t s : Nat} (h : t < il.length) (hs : il.getD s false = true) : (ilAfter il t).getD s false = true := by
  unfold ilAfter
  split
  · exact hs
  · rw [getD_setB _ _ _ h, hs]; simp
theorem il_here {il : List Bool} {t : Nat} (h : t < il.length) : (ilAfter il t).getD t false = true := by
  unfold ilAfter
  split
  · assumption
  · rw [getD_setB _ _ _ h]; simp
theorem tl_left {il : List Bool} {tl : List Nat} {t i : Nat} (h : i < tl.length) : (tlAfter il tl t).getD i 0 = tl.getD i 0 ∧ i < (tlAfter il tl t).length := by
  unfold tlAfter
  split
  · exact ⟨rfl, h⟩
  · refine ⟨?_, by simp; omega⟩
    rw [List.getD_eq_getElem?_getD, List.getD_eq_getElem?_getD, List.getElem?_append_left h]
end Go.Proofs.YtjjdjdodhedihaaDoor

