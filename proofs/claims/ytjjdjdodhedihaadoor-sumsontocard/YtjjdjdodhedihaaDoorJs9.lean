/-
  What the last text of this claim leans on, part 9: Oc1.
-/
import Derived.Test.YtjjdjdodhedihaaDoorJs8
import Derived.RangeFuncNested
import Derived.RangeFuncBound
import Derived.RangeFuncCalls
import Derived.RangeFuncLeaves
import Derived.Shelf.Abstract
import Derived.Shelf.RegionOpen
import Derived.OwnWalkIn
import Derived.TacticsInMore
import Derived.LoopNIn
import Derived.LoopIn
namespace Go.Proofs.YtjjdjdodhedihaaDoor
open Go.RowKit Go.Shelf
set_option linter.unusedVariables false
attribute [local go_sem] Oper.semAt_some

/-- A way on from a pair of places: two cells of which the same becomes. -/
abbrev WayAt (S : Nat) (T : List Int) (p q : Nat) := { x : Nat × Nat // x.1 < S ∧ x.2 < S ∧ T.getD (p * S + x.1) 0 = T.getD (q * S + x.2) 0 }
def encW (S n p q : Nat) (x : Nat × Nat) : Array Value := #[.agg #[.int .i64 (p : Int), .int .i64 (q : Int), .int .i64 (((p * S + x.1) % n : Nat) : Int), .int .i64 (((q * S + x.2) % n : Nat) : Int), .int .i64 (x.1 : Int), .int .i64 (x.2 : Int)]]
def AllWays {S : Nat} {T : List Int} {p q : Nat} (xs : List (WayAt S T p q)) : Prop := ∀ x, x ∈ xs
/-- What a round keeps: all below a block, and two blocks more. -/
def KB (B0 pg pf : Nat) (W W' : World) : Prop := W.heap.size ≤ W'.heap.size ∧ ∀ k, (k < B0 ∨ k = pg ∨ k = pf) → W'.heap[k]? = W.heap[k]?
theorem KB.refl (B0 pg pf : Nat) (W : World) : KB B0 pg pf W W := ⟨Nat.le_refl _, fun _ _ => rfl⟩
theorem KB.trans {B0 pg pf : Nat} {A B C : World} (h : KB B0 pg pf A B) (k : KB B0 pg pf B C) : KB B0 pg pf A C := ⟨Nat.le_trans h.1 k.1, fun i hi => (k.2 i hi).trans (h.2 i hi)⟩
theorem KB.below {B0 pg pf : Nat} {A B : World} (h : Below A.heap.size A B) (h1 : pg < A.heap.size) (h2 : pf < A.heap.size) (h3 : B0 ≤ A.heap.size) : KB B0 pg pf A B := ⟨h.size, fun k hk => h.block k (by omega)⟩
theorem ArgP.kb {w w' : World} {xs : List Int} {a : Option Addr} {n c B0 pg pf : Nat} (h : ArgP w xs a n c) (hb : KB B0 pg pf w w') (hg : ∀ g off, a = some ⟨g, off, none⟩ → g < B0) : ArgP w' xs a n c :=
  ⟨h.len, h.max, fun k hk => by
    obtain ⟨g, off, e, hlt, hc⟩ := h.cells k hk
    exact ⟨g, off, e, Nat.lt_of_lt_of_le hlt hb.1, (World.cell?_of_block (w := w) (a := ⟨g, off + k, none⟩) (hb.2 g (Or.inl (hg g off e)))).trans hc⟩⟩
theorem grown_of_below {w w' : World} (h : Below w.heap.size w w') : w.grownBy w' none := ⟨h.os, h.tape, h.output, h.size, fun k hk _ => h.block k hk⟩
/-- A pair in a box. -/
structure PB (p a b : Nat) (w : World) : Prop where
  c0 : w.cell? ⟨p, 0, none⟩ = some (.int .i64 (a : Int))
  c1 : w.cell? ⟨p, 1, none⟩ = some (.int .i64 (b : Int))
theorem PB.block {p a b : Nat} {w w' : World} (h : PB p a b w) (e : w'.heap[p]? = w.heap[p]?) : PB p a b w' :=
  ⟨(World.cell?_of_block (w := w) (a := ⟨p, 0, none⟩) e).trans h.c0, (World.cell?_of_block (w := w) (a := ⟨p, 1, none⟩) e).trans h.c1⟩
theorem PB.lt {p a b : Nat} {w : World} (h : PB p a b w) : p < w.heap.size := by
  have h0 := h.c0
  unfold World.cell? at h0
  by_cases hp : p < w.heap.size
  · exact hp
  · simp only [Array.getElem?_eq_none (Nat.le_of_not_lt hp)] at h0
    cases h0

/-- What the iterator reads, between two rounds. -/
structure WI (W : World) (S R n p q : Nat) (T : List Int) (ta : Option Addr) (tn tc pg pf B0 : Nat) : Prop where
  gb : GB pg S R n (.slice ta tn tc) W
  pb : PB pf p q W
  at_ : ArgP W T ta tn tc
theorem WI.kb {W W' : World} {S R n p q : Nat} {T : List Int} {ta : Option Addr} {tn tc pg pf B0 : Nat} (h : WI W S R n p q T ta tn tc pg pf B0) (k : KB B0 pg pf W W') (hg : ∀ g off, ta = some ⟨g, off, none⟩ → g < B0) : WI W' S R n p q T ta tn tc pg pf B0 :=
  ⟨h.gb.block (k.2 pg (by simp)), h.pb.block (k.2 pf (by simp)), h.at_.kb k hg⟩
theorem WI.next {W W' : World} {S R n p q : Nat} {T : List Int} {ta : Option Addr} {tn tc pg pf B0 : Nat} (h : WI W S R n p q T ta tn tc pg pf B0) (k : Below W.heap.size W W') : WI W' S R n p q T ta tn tc pg pf B0 :=
  ⟨h.gb.next k, h.pb.block (k.block pf h.pb.lt), h.at_.below k⟩

set_option maxRecDepth 100000 in
set_option maxHeartbeats 6400000 in
theorem ways1_in (m : Nat) (hm : 2 ≤ m) (S R n p q : Nat) (T : List Int) (ta : Option Addr) (tn tc pg pf B0 l : Nat) (hn : 0 < n) (hn16 : n ≤ 16) (hS : 2 ≤ S) (hS4 : S ≤ 4) (htn : tn = n * S) (hp : p < n) (hq : q < n) (hta : ∀ g off, ta = some ⟨g, off, none⟩ → g < B0)
    (J Jx : List (WayAt S T p q) → World → Prop) (W : World) (hJ : AbidesFrom W.heap.size J)
    (hY : ∀ pre (x : WayAt S T p q) W1, J pre W1 → pre.length < S * S → YieldAt Fence.wide (m - 1) Tryd.prog l (encW S n p q x.1) W1 fun e W' =>
      (e = .returned (.bool true) ∧ J (pre ++ [x]) W' ∧ KB B0 pg pf W1 W') ∨ (e = .returned (.bool false) ∧ Jx (pre ++ [x]) W'))
    (hI : WI W S R n p q T ta tn tc pg pf B0) (h0 : J [] W) :
    CallsIn Fence.wide m Tryd.prog 125 #[.func (.yield l) #[] #[], .pointer (some ⟨pg, 0, none⟩), .pointer (some ⟨pf, 0, none⟩)] W fun e W' => (∃ v, e = .returned v) ∧
      ((∃ xs, AllWays xs ∧ J xs W') ∨ (∃ pre, True ∧ Jx pre W')) := by
  have HJ := hide' hJ
  have HY := hide' hY
  have HTA := hide' hta
  have t64 : tn ≤ 64 := by rw [htn]; exact Nat.mul_le_mul hn16 hS4
  have IX := hide' (fun (u c : Nat) (hu : u < n) (hc : c < S) => show u * S + c < tn by
    rw [htn]
    have : (u + 1) * S ≤ n * S := Nat.mul_le_mul_right _ (by omega)
    rw [Nat.add_mul] at this
    omega)
  have ON := hide' (fun (wr : World) (u c : Nat) (h1 : ArgP wr T ta tn tc) (hu : u < n) (hc : c < S) => on_any S R n T ta tn tc u c wr h1 hn (IX.out u c hu hc) (by omega) hS4 (by omega) (by omega))
  have A0 := hide' (show WI W S R n p q T ta tn tc pg pf B0 ∧ J [] W from ⟨hI, h0⟩)
  clear hJ hY hta htn hI h0
  obtain ⟨y0, y1, y2, y3⟩ := A0.out.1.gb
  refine callsIn_of_wp Tryd.func125 rfl trivial ?_ rfl
  simp only [Tryd.ntmps125, List.size_toArray, List.length_cons, List.length_nil, Nat.reduceAdd, Nat.reduceSub, Array.replicate_succ, Array.replicate_zero, List.push_toArray, List.append_toArray, List.nil_append, List.cons_append]
  gi_wp2
  clear y0 y1 y2 y3
  gi_loopw [12] (fun iv wr => ∃ (a : Nat) (pre : List (WayAt S T p q)), iv = .int .i64 (a : Int) ∧ a ≤ S ∧ Hid (WI wr S R n p q T ta tn tc pg pf B0 ∧ J pre wr ∧ pre.length ≤ a * S ∧ ∀ x : WayAt S T p q, x.1.1 < a → x ∈ pre)) (fun iv _ => S - (intOf iv).toNat)
  case atStart => exact ⟨0, [], rfl, by omega, hide' ⟨A0.out.1, A0.out.2, by simp, fun x hx => by omega⟩⟩
  case round =>
    clear A0
    obtain ⟨a, pre, rfl, ha, H1⟩ := hrel
    by_cases d : (a : Int) < (S : Int)
    · obtain ⟨y0, y1, y2, y3⟩ := H1.out.1.gb
      obtain ⟨z0, z1⟩ := H1.out.1.pb
      have aS : a < S := by omega
      obtain ⟨na, hna⟩ : ∃ k, (p * S + a) % n = k := ⟨_, rfl⟩
      obtain ⟨xa, hxa⟩ : ∃ x, T.getD (p * S + a) 0 = x := ⟨_, rfl⟩
      have NA := hide' hna
      have XA := hide' hxa
      have O1 := hide' (ON.out wr p a H1.out.1.at_ hp aS)
      rw [hna, hxa] at O1
      clear hna hxa
      gi_wp2_with fail
      refine ⟨trivial, fun _ => by omega, (callsIn_wide.2 O1.out).mono ?_⟩
      rintro e w5 ⟨rfl, b5⟩
      have H2 := hide' (show WI w5 S R n p q T ta tn tc pg pf B0 ∧ J pre w5 ∧ pre.length ≤ a * S ∧ ∀ x : WayAt S T p q, x.1.1 < a → x ∈ pre from ⟨H1.out.1.next b5, HJ.out pre wr w5 none H1.out.2.1 (grown_of_below b5) (fun r e => by cases e), H1.out.2.2⟩)
      clear y0 y1 y2 y3 z0 z1 b5 O1 H1
      obtain ⟨y0, y1, y2, y3⟩ := H2.out.1.gb
      gi_wp2
      clear y0 y1 y2 y3
      gi_loopw [25] (fun iv wr => ∃ (b : Nat) (pre : List (WayAt S T p q)), iv = .int .i64 (b : Int) ∧ b ≤ S ∧ Hid (WI wr S R n p q T ta tn tc pg pf B0 ∧ J pre wr ∧ pre.length ≤ a * S + b ∧ ∀ x : WayAt S T p q, x.1.1 < a ∨ x.1.1 = a ∧ x.1.2 < b → x ∈ pre)) (fun iv _ => S - (intOf iv).toNat)
      case atStart => exact ⟨0, pre, rfl, by omega, hide' ⟨H2.out.1, H2.out.2.1, H2.out.2.2.1, fun x hx => H2.out.2.2.2 x (by omega)⟩⟩
      case round =>
        clear H2
        obtain ⟨b, pre, rfl, hb, H3⟩ := hrel
        by_cases d : (b : Int) < (S : Int)
        · have bS : b < S := by omega
          obtain ⟨y0, y1, y2, y3⟩ := H3.out.1.gb
          obtain ⟨z0, z1⟩ := H3.out.1.pb
          obtain ⟨nb, hnb⟩ : ∃ k, (q * S + b) % n = k := ⟨_, rfl⟩
          obtain ⟨xb, hxb⟩ : ∃ x, T.getD (q * S + b) 0 = x := ⟨_, rfl⟩
          have O2 := hide' (ON.out wr q b H3.out.1.at_ hq bS)
          rw [hnb, hxb] at O2
          have LEN := hide' (show a * S + b < S * S by
            have : (a + 1) * S ≤ S * S := Nat.mul_le_mul_right _ (by omega)
            rw [Nat.add_mul] at this
            omega)
          have XB := hide' hxb
          have NB := hide' hnb
          clear hnb hxb
          gi_wp2_with fail
          refine ⟨trivial, fun _ => by omega, (callsIn_wide.2 O2.out).mono ?_⟩
          rintro e w6 ⟨rfl, b6⟩
          have H4 := hide' (show WI w6 S R n p q T ta tn tc pg pf B0 ∧ J pre w6 ∧ pre.length ≤ a * S + b ∧ ∀ x : WayAt S T p q, x.1.1 < a ∨ x.1.1 = a ∧ x.1.2 < b → x ∈ pre from ⟨H3.out.1.next b6, HJ.out pre wr w6 none H3.out.2.1 (grown_of_below b6) (fun r e => by cases e), H3.out.2.2⟩)
          clear y0 y1 y2 y3 z0 z1 b6 O2 H3
          obtain ⟨z0, z1⟩ := H4.out.1.pb
          by_cases dd : xa = xb
          · obtain ⟨x, hx⟩ : ∃ x : WayAt S T p q, x.1 = (a, b) := ⟨⟨(a, b), aS, bS, by rw [XA.out, XB.out]; exact dd⟩, rfl⟩
            obtain ⟨fn, tmps, assign, body, hy, hR⟩ := HY.out pre x w6 H4.out.2.1 (Nat.lt_of_le_of_lt H4.out.2.2.1 LEN.out)
            rw [show encW S n p q x.1 = #[.agg #[.int .i64 (p : Int), .int .i64 (q : Int), .int .i64 (na : Int), .int .i64 (nb : Int), .int .i64 (a : Int), .int .i64 (b : Int)]] by unfold encW; rw [hx]; show #[Value.agg #[_, _, .int .i64 (((p * S + a) % n : Nat) : Int), .int .i64 (((q * S + b) % n : Nat) : Int), _, _]] = _; rw [NA.out, NB.out]] at hy
            have HX := hide' hx
            have HR := hide' hR
            have e1 : (xa == xb) = true := by simp [dd]
            clear hx hR dd
            gi_wp2
            refine ⟨fun _ => by omega, HR.out.mono ?_⟩
            rintro e W3 (⟨rfl, hJ3, hk3⟩ | ⟨rfl, hJx3⟩)
            · have H5 := hide' (show WI W3 S R n p q T ta tn tc pg pf B0 ∧ J (pre ++ [x]) W3 ∧ (pre ++ [x]).length ≤ a * S + (b + 1) ∧ ∀ y : WayAt S T p q, y.1.1 < a ∨ y.1.1 = a ∧ y.1.2 < b + 1 → y ∈ pre ++ [x] from
                ⟨H4.out.1.kb hk3 HTA.out, hJ3, by have := H4.out.2.2.1; simp; omega, fun y hy => by
                  by_cases c : y.1.1 = a ∧ y.1.2 = b
                  · have : y = x := Subtype.ext (by rw [HX.out]; exact Prod.ext c.1 c.2)
                    simp [this]
                  · exact List.mem_append_left _ (H4.out.2.2.2 y (by omega))⟩)
              clear H4 hJ3 hk3 HR hy
              gi_wp2
              exact ⟨⟨b + 1, pre ++ [x], by go_num, by omega, H5⟩, by simp [intOf]; omega⟩
            · have H5 := hide' hJx3
              clear H4 hJx3 HR hy
              gi_wp2
              refine bodyPost_ret (results_none rfl _ _ _) rfl ?_
              exact ⟨⟨_, rfl⟩, .inr ⟨_, trivial, H5.out⟩⟩
          · have e1 : (xa == xb) = false := by simp [dd]
            have NM := hide' (show ∀ x : WayAt S T p q, ¬ (x.1.1 = a ∧ x.1.2 = b) from fun x hx => by
              have := x.2.2.2
              rw [hx.1, hx.2, XA.out, XB.out] at this
              exact dd this)
            have H5 := hide' (show WI w6 S R n p q T ta tn tc pg pf B0 ∧ J pre w6 ∧ pre.length ≤ a * S + (b + 1) ∧ ∀ y : WayAt S T p q, y.1.1 < a ∨ y.1.1 = a ∧ y.1.2 < b + 1 → y ∈ pre from
              ⟨H4.out.1, H4.out.2.1, by have := H4.out.2.2.1; omega, fun y hy => H4.out.2.2.2 y (by have := NM.out y; omega)⟩)
            clear dd H4
            gi_wp2
            refine ⟨fun _ h => (by cases h), ?_⟩
            gi_wp2
            exact ⟨⟨b + 1, pre, by go_num, by omega, H5⟩, by simp [intOf]; omega⟩
        · have H4 := hide' (show WI wr S R n p q T ta tn tc pg pf B0 ∧ J pre wr ∧ pre.length ≤ (a + 1) * S ∧ ∀ x : WayAt S T p q, x.1.1 < a + 1 → x ∈ pre from
            ⟨H3.out.1, H3.out.2.1, by have := H3.out.2.2.1; rw [Nat.add_mul]; omega, fun x hx => H3.out.2.2.2 x (by have := x.2.2.1; omega)⟩)
          clear H3
          gi_wp2
          exact ⟨⟨a + 1, pre, by go_num, by omega, H4⟩, by simp [intOf]; omega⟩
    · have AL := hide' (show AllWays pre from fun x => H1.out.2.2.2 x (by have := x.2.1; omega))
      gi_wp2
      go_end0
      exact ⟨⟨_, rfl⟩, .inl ⟨pre, AL.out, H1.out.2.1⟩⟩

theorem KB.putObj {B0 pg pf B : Nat} (h0 : B0 ≤ B) (h1 : pg < B) (h2 : pf < B) (W : World) (l : Nat) (o o' : Obj) (hl : B ≤ l) (h : W.heap[l]? = some o) (_ : o.isCells = false) (_ : o.isWalk = false) : KB B0 pg pf W (W.putObj l o') :=
  ⟨by simp, fun k hk => World.putObj_heap_other (by omega)⟩

/-- The iterator's word. -/
theorem ways_stops (m : Nat) (hm : 2 ≤ m) (S R n p q : Nat) (T : List Int) (ta : Option Addr) (tn tc pg pf B0 : Nat) (hn : 0 < n) (hn16 : n ≤ 16) (hS : 2 ≤ S) (hS4 : S ≤ 4) (htn : tn = n * S) (hp : p < n) (hq : q < n) (hta : ∀ g off, ta = some ⟨g, off, none⟩ → g < B0) (w : World) (hI : WI w S R n p q T ta tn tc pg pf B0) :
    SeqStopsK Fence.wide m Tryd.prog 125 #[.pointer (some ⟨pg, 0, none⟩), .pointer (some ⟨pf, 0, none⟩)] (fun x : WayAt S T p q => encW S n p q x.1) (KB B0 pg pf) AllWays (fun _ => True) (S * S) w := fun l J Jx W hW hJ _ hY h0 =>
  ways1_in m hm S R n p q T ta tn tc pg pf B0 l hn hn16 hS hS4 htn hp hq hta J Jx W hJ hY (hI.next hW) h0

set_option maxRecDepth 100000 in
set_option maxHeartbeats 1600000 in
theorem ways_any (S R n p q : Nat) (ta : Option Addr) (tn tc : Nat) (w : World) :
    Calls Tryd.prog 107 #[.agg #[.int .i64 (S : Int), .int .i64 (2 * (R : Int)), .int .i64 (n : Int), .slice ta tn tc], .agg #[.int .i64 (p : Int), .int .i64 (q : Int)]] w fun e w' => e = .returned (.func (.func 125) #[] #[.pointer (some ⟨w.heap.size, 0, none⟩), .pointer (some ⟨w.heap.size + 1, 0, none⟩)]) ∧ w'.heap[w.heap.size]? = some (.cells #[.int .i64 (S : Int), .int .i64 (2 * (R : Int)), .int .i64 (n : Int), .slice ta tn tc] 79 (0, 0)) ∧ w'.heap[w.heap.size + 1]? = some (.cells #[.int .i64 (p : Int), .int .i64 (q : Int)] 127 (0, 0)) ∧ Below w.heap.size w w' ∧ w'.heap.size = w.heap.size + 2 := by
  have hmf : ∀ (fn : Fn) (first cap : Array Value) (w : World), (Instr.makeFunc fn first cap).run Tryd.prog w = .ok (.func fn first cap) w := fun _ _ _ _ => rfl
  go_enter Tryd.func107, Tryd.ntmps107
  go_wp2
  go_ret
  refine ⟨rfl, (Below.heap_alloc _ _ _ (by simp)).trans (World.alloc_heap_new w _), ?_, ((Below.refl _ _).alloc (Nat.le_refl _) _).alloc (by simp) _, by simp⟩
  have := World.alloc_heap_new (w.alloc (.cells #[.int .i64 (S : Int), .int .i64 (2 * (R : Int)), .int .i64 (n : Int), .slice ta tn tc] 79)) (.cells #[.int .i64 (p : Int), .int .i64 (q : Int)] 127)
  rw [World.size_alloc] at this
  exact this
end Go.Proofs.YtjjdjdodhedihaaDoor

