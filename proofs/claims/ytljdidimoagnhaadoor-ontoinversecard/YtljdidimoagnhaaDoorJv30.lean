/-
  What the last text of this claim leans on, part 30: Od2, Od3.
-/
import Derived.Test.YtljdidimoagnhaaDoorJv27
import Derived.Test.YtljdidimoagnhaaDoorJv29
namespace Go.Proofs.YtljdidimoagnhaaDoor
open Go.RowKit Go.Shelf
set_option linter.unusedVariables false
attribute [local go_sem] Oper.semAt_some

/-- A pair of places, the first one not above the second. -/
abbrev PairAt (n : Nat) := { x : Nat × Nat // x.1 ≤ x.2 ∧ x.2 < n }
def encP (x : Nat × Nat) : Array Value := #[.agg #[.int .i64 (x.1 : Int), .int .i64 (x.2 : Int)]]
def AllPairs {n : Nat} (xs : List (PairAt n)) : Prop := ∀ x, x ∈ xs

set_option maxRecDepth 100000 in
set_option maxHeartbeats 6400000 in
theorem pairs1_in (m : Nat) (hm : 2 ≤ m) (S R n : Nat) (v3 : Value) (pg l : Nat) (hn16 : n ≤ 16) (J Jx : List (PairAt n) → World → Prop) (W : World)
    (hY : ∀ pre (x : PairAt n) W1, J pre W1 → pre.length < n * n → YieldAt Fence.wide (m - 1) Tryd.prog l (encP x.1) W1 fun e W' =>
      (e = .returned (.bool true) ∧ J (pre ++ [x]) W' ∧ KB 0 pg pg W1 W') ∨ (e = .returned (.bool false) ∧ Jx (pre ++ [x]) W'))
    (hI : GB pg S R n v3 W) (h0 : J [] W) :
    CallsIn Fence.wide m Tryd.prog 205 #[.func (.yield l) #[] #[], .pointer (some ⟨pg, 0, none⟩)] W fun e W' => (∃ v, e = .returned v) ∧
      ((∃ xs, AllPairs xs ∧ J xs W') ∨ (∃ pre, True ∧ Jx pre W')) := by
  have HY := hide' hY
  have A0 := hide' h0
  have y2 := hI.c2
  clear hY h0 hI
  refine callsIn_of_wp Tryd.func205 rfl trivial ?_ rfl
  simp only [Tryd.ntmps205, List.size_toArray, List.length_cons, List.length_nil, Nat.reduceAdd, Nat.reduceSub, Array.replicate_succ, Array.replicate_zero, List.push_toArray, List.append_toArray, List.nil_append, List.cons_append]
  gi_wp2
  clear y2
  gi_loopw [7] (fun iv wr => ∃ (b : Nat) (pre : List (PairAt n)), iv = .int .i64 (b : Int) ∧ b ≤ n ∧ Hid (J pre wr ∧ pre.length ≤ b * n ∧ ∀ x : PairAt n, x.1.2 < b → x ∈ pre)) (fun iv _ => n - (intOf iv).toNat)
  case atStart => exact ⟨0, [], rfl, by omega, hide' ⟨A0.out, by simp, fun x hx => by omega⟩⟩
  case round =>
    clear A0
    obtain ⟨b, pre, rfl, hb, H1⟩ := hrel
    by_cases d : (b : Int) < (n : Int)
    · have H2 := hide' H1.out
      clear H1
      gi_wp2
      gi_loopw [12] (fun iv wr => ∃ (a : Nat) (pre : List (PairAt n)), iv = .int .i64 (a : Int) ∧ a ≤ b + 1 ∧ Hid (J pre wr ∧ pre.length ≤ b * n + a ∧ ∀ x : PairAt n, x.1.2 < b ∨ x.1.2 = b ∧ x.1.1 < a → x ∈ pre)) (fun iv _ => b + 1 - (intOf iv).toNat)
      case atStart => exact ⟨0, pre, rfl, by omega, hide' ⟨H2.out.1, H2.out.2.1, fun x hx => H2.out.2.2 x (by omega)⟩⟩
      case round =>
        clear H2
        obtain ⟨a, pre, rfl, ha, H3⟩ := hrel
        by_cases d2 : (a : Int) < (b : Int) + 1
        · obtain ⟨x, hx⟩ : ∃ x : PairAt n, x.1 = (a, b) := ⟨⟨(a, b), by show a ≤ b; omega, by show b < n; omega⟩, rfl⟩
          have LEN := hide' (show b * n + a < n * n by
            have : (b + 1) * n ≤ n * n := Nat.mul_le_mul_right _ (by omega)
            rw [Nat.add_mul] at this
            omega)
          obtain ⟨fn, tmps, assign, body, hy, hR⟩ := HY.out pre x wr H3.out.1 (Nat.lt_of_le_of_lt H3.out.2.1 LEN.out)
          rw [show encP x.1 = #[.agg #[.int .i64 (a : Int), .int .i64 (b : Int)]] by unfold encP; rw [hx]] at hy
          have HX := hide' hx
          have HR := hide' hR
          clear hx hR
          gi_wp2
          refine ⟨fun _ => by omega, HR.out.mono ?_⟩
          rintro e W3 (⟨rfl, hJ3, hk3⟩ | ⟨rfl, hJx3⟩)
          · have H5 := hide' (show J (pre ++ [x]) W3 ∧ (pre ++ [x]).length ≤ b * n + (a + 1) ∧ ∀ y : PairAt n, y.1.2 < b ∨ y.1.2 = b ∧ y.1.1 < a + 1 → y ∈ pre ++ [x] from
              ⟨hJ3, by have := H3.out.2.1; simp; omega, fun y hy => by
                by_cases q : y.1.1 = a ∧ y.1.2 = b
                · have : y = x := Subtype.ext (by rw [HX.out]; exact Prod.ext q.1 q.2)
                  simp [this]
                · exact List.mem_append_left _ (H3.out.2.2 y (by omega))⟩)
            clear H3 hJ3 hk3 HR hy
            gi_wp2
            exact ⟨⟨a + 1, pre ++ [x], by go_num, by omega, H5⟩, by simp [intOf]; omega⟩
          · have H5 := hide' hJx3
            clear H3 hJx3 HR hy
            gi_wp2
            refine bodyPost_ret (results_none rfl _ _ _) rfl ?_
            exact ⟨⟨_, rfl⟩, .inr ⟨_, trivial, H5.out⟩⟩
        · have H4 := hide' (show J pre wr ∧ pre.length ≤ (b + 1) * n ∧ ∀ x : PairAt n, x.1.2 < b + 1 → x ∈ pre from
            ⟨H3.out.1, by have := H3.out.2.1; rw [Nat.add_mul]; omega, fun x hx => H3.out.2.2 x (by have := x.2.1; omega)⟩)
          clear H3
          gi_wp2
          exact ⟨⟨b + 1, pre, by go_num, by omega, H4⟩, by simp [intOf]; omega⟩
    · have AL := hide' (show AllPairs pre from fun x => H1.out.2.2 x (by have := x.2.2; omega))
      gi_wp2
      go_end0
      exact ⟨⟨_, rfl⟩, .inl ⟨pre, AL.out, H1.out.1⟩⟩

theorem pairs_stops (m : Nat) (hm : 2 ≤ m) (S R n : Nat) (v3 : Value) (pg : Nat) (hn16 : n ≤ 16) (w : World) (hI : GB pg S R n v3 w) :
    SeqStopsK Fence.wide m Tryd.prog 205 #[.pointer (some ⟨pg, 0, none⟩)] (fun x : PairAt n => encP x.1) (KB 0 pg pg) AllPairs (fun _ => True) (n * n) w := fun l J Jx W hW hJ _ hY h0 =>
  pairs1_in m hm S R n v3 pg l hn16 J Jx W hY (hI.next hW) h0

set_option maxRecDepth 100000 in
set_option maxHeartbeats 1600000 in
theorem pairs_any (S R n : Nat) (ta : Option Addr) (tn tc : Nat) (w : World) :
    Calls Tryd.prog 178 #[.agg #[.int .i64 (S : Int), .int .i64 (2 * (R : Int)), .int .i64 (n : Int), .slice ta tn tc]] w fun e w' => e = .returned (.func (.func 205) #[] #[.pointer (some ⟨w.heap.size, 0, none⟩)]) ∧ Blk w' w.heap.size #[.int .i64 (S : Int), .int .i64 (2 * (R : Int)), .int .i64 (n : Int), .slice ta tn tc] 144 ∧ Below w.heap.size w w' ∧ w'.heap.size = w.heap.size + 1 := by
  have hmf : ∀ (fn : Fn) (first cap : Array Value) (w : World), (Instr.makeFunc fn first cap).run Tryd.prog w = .ok (.func fn first cap) w := fun _ _ _ _ => rfl
  go_enter Tryd.func178, Tryd.ntmps178
  go_wp2
  go_ret
  exact ⟨rfl, Blk.new _ _ _, (Below.refl _ _).alloc (Nat.le_refl _) _, by simp⟩

/-- From a pair of places no way round is wanted. -/
def NoRing (S n : Nat) (T : List Int) (u : Nat × Nat) : Prop := ∀ cs c, okP S n T u cs → OkWay S T (endP S n u cs) c → wantRf S n u.1 u.2 (endP S n u cs) c = false
/-- Two unlike rings of which the same becomes, as a way round. -/
def IsRing (S n : Nat) (T : List Int) (u : Nat × Nat) (full : List (Nat × Nat)) : Prop := u.1 ≤ u.2 ∧ u.2 < n ∧ okP S n T u full ∧ (∃ cs d, full = cs ++ [d] ∧ wantRf S n u.1 u.2 (endP S n u cs) d = true) ∧ full.length ≤ 257
def RingsPost (S n : Nat) (T : List Int) (w : World) (e : Ending) (w' : World) : Prop :=
  ((∃ u full v1 v2, e = .returned (.tuple #[v1, v2]) ∧ w'.ownsRow w.heap.size 3 1 v1 full.length (full.map fun y => .int .i64 (y.1 : Int)) ∧ w'.ownsRow w.heap.size 3 1 v2 full.length (full.map fun y => .int .i64 (y.2 : Int)) ∧ IsRing S n T u full) ∨
   (e = .returned (.tuple #[.slice none 0 0, .slice none 0 0]) ∧ ∀ u : Nat × Nat, u.1 ≤ u.2 → u.2 < n → NoRing S n T u)) ∧ Below w.heap.size w w'

/-- What rings holds between two rounds. -/
structure GI (w W : World) (S R n : Nat) (T : List Int) (v3 : Value) (B : Nat) (pre : List (Nat × Nat)) : Prop where
  gb : Blk W w.heap.size #[.int .i64 (S : Int), .int .i64 (2 * (R : Int)), .int .i64 (n : Int), v3] 144
  r2 : Blk W (w.heap.size + 1) #[.slice none 0 0] 22
  r3 : Blk W (w.heap.size + 2) #[.slice none 0 0] 22
  gx : Blk W (w.heap.size + 3) #[.int .i64 (S : Int), .int .i64 (2 * (R : Int)), .int .i64 (n : Int), v3] 144
  bl : Below w.heap.size w W
  sB : B ≤ W.heap.size
  wB : w.heap.size + 4 ≤ B
  no : ∀ u ∈ pre, NoRing S n T u
theorem GI.own {w W W' : World} {S R n : Nat} {T : List Int} {v3 : Value} {B : Nat} {pre : List (Nat × Nat)} {row : Option Nat} (h : GI w W S R n T v3 B pre) (g : W.grownBy W' row) (hr : ∀ r, row = some r → B ≤ r ∧ ∃ o : Obj, W.heap[r]? = some o ∧ o.isCells = false) : GI w W' S R n T v3 B pre := by
  have k := KC.of_grown g (fun r e => (hr r e).2)
  have wB := h.wB
  have sB := h.sB
  exact ⟨k.blk h.gb, k.blk h.r2, k.blk h.r3, k.blk h.gx, below_grown h.bl g (by omega) (show w.heap.size ≤ B by omega) (fun r e => (hr r e).1), Nat.le_trans h.sB k.size, h.wB, h.no⟩
theorem GI.next {w W W' : World} {S R n : Nat} {T : List Int} {v3 : Value} {B : Nat} {pre : List (Nat × Nat)} (h : GI w W S R n T v3 B pre) (k : Below W.heap.size W W') : GI w W' S R n T v3 B pre := h.own (grown_of_below k) (fun r e => by cases e)
/-- What rings has found. -/
structure GF (w W : World) (S n : Nat) (T : List Int) (B : Nat) (u : Nat × Nat) (full : List (Nat × Nat)) (v1 v2 : Value) : Prop where
  r2 : Blk W (w.heap.size + 1) #[v1] 22
  r3 : Blk W (w.heap.size + 2) #[v2] 22
  o1 : W.ownsRow w.heap.size 3 1 v1 full.length (full.map fun y => .int .i64 (y.1 : Int))
  o2 : W.ownsRow w.heap.size 3 1 v2 full.length (full.map fun y => .int .i64 (y.2 : Int))
  is : IsRing S n T u full
  bl : Below w.heap.size w W
  sB : B ≤ W.heap.size
  wB : w.heap.size + 4 ≤ B
theorem GF.own {w W W' : World} {S n : Nat} {T : List Int} {B : Nat} {u : Nat × Nat} {full : List (Nat × Nat)} {v1 v2 : Value} {row : Option Nat} (h : GF w W S n T B u full v1 v2) (g : W.grownBy W' row) (hr : ∀ r, row = some r → B ≤ r ∧ ∃ o : Obj, W.heap[r]? = some o ∧ o.isCells = false) : GF w W' S n T B u full v1 v2 := by
  have k := KC.of_grown g (fun r e => (hr r e).2)
  have wB := h.wB
  have sB := h.sB
  exact ⟨k.blk h.r2, k.blk h.r3, k.row h.o1, k.row h.o2, h.is, below_grown h.bl g (by omega) (show w.heap.size ≤ B by omega) (fun r e => (hr r e).1), Nat.le_trans h.sB k.size, h.wB⟩
theorem row_form {w : World} {base : Nat} {e : TypeId} {size n : Nat} {v : Value} {xs : List Value} (h : w.ownsRow base e size v n xs) (h0 : 0 < n) : ∃ g cap, v = .slice (some ⟨g, 0, none⟩) n cap := by
  rcases h.2 with ⟨_, h1⟩ | ⟨g, cap, _, rfl, _⟩
  · omega
  · exact ⟨g, cap, rfl⟩
theorem row_base_mono {w : World} {base base' : Nat} {e : TypeId} {size n : Nat} {v : Value} {xs : List Value} (h : w.ownsRow base e size v n xs) (hb : base' ≤ base) : w.ownsRow base' e size v n xs := by
  refine ⟨h.1, ?_⟩
  rcases h.2 with q | ⟨g, cap, cur, hv, hg, rest⟩
  · exact Or.inl q
  · exact Or.inr ⟨g, cap, cur, hv, Nat.le_trans hb hg, rest⟩
theorem GI.found {w W W6 : World} {S R n : Nat} {T : List Int} {v3 : Value} {B : Nat} {pre : List (Nat × Nat)} (h : GI w W S R n T v3 B pre) {u : Nat × Nat} {full : List (Nat × Nat)} {v1 v2 : Value} (hu : IsRing S n T u full) (hb : Below W.heap.size W W6)
    (o1 : W6.ownsRow W.heap.size 3 1 v1 full.length (full.map fun y => .int .i64 (y.1 : Int))) (o2 : W6.ownsRow W.heap.size 3 1 v2 full.length (full.map fun y => .int .i64 (y.2 : Int))) :
    GF w ((W6.setCell ⟨w.heap.size + 1, 0, none⟩ v1).setCell ⟨w.heap.size + 2, 0, none⟩ v2) S n T B u full v1 v2 ∧ KeepsFrom B W ((W6.setCell ⟨w.heap.size + 1, 0, none⟩ v1).setCell ⟨w.heap.size + 2, 0, none⟩ v2) := by
  have h6 := h.next hb
  have wB := h.wB
  have sB := h6.sB
  have wW : w.heap.size ≤ W.heap.size := by have := h.sB; omega
  have t1 : Blk (W6.setCell ⟨w.heap.size + 1, 0, none⟩ v1) (w.heap.size + 2) #[.slice none 0 0] 22 := h6.r3.setOther (by omega) v1
  have p1 : (W6.setCell ⟨w.heap.size + 1, 0, none⟩ v1).ownsRow W.heap.size 3 1 v1 full.length (full.map fun y => .int .i64 (y.1 : Int)) := o1.kept (grownBy_set W6 _ 0 _) (.inr (Ne.symm (not_row h6.r2 (by decide) o1)))
  have p2 : (W6.setCell ⟨w.heap.size + 1, 0, none⟩ v1).ownsRow W.heap.size 3 1 v2 full.length (full.map fun y => .int .i64 (y.2 : Int)) := o2.kept (grownBy_set W6 _ 0 _) (.inr (Ne.symm (not_row h6.r2 (by decide) o2)))
  refine ⟨⟨(h6.r2.set 0 v1).setOther (by omega) v2, t1.set 0 v2, row_base_mono (p1.kept (grownBy_set _ _ 0 _) (.inr (Ne.symm (not_row t1 (by decide) p1)))) wW, row_base_mono (p2.kept (grownBy_set _ _ 0 _) (.inr (Ne.symm (not_row t1 (by decide) p2)))) wW, hu, ?_, by simp; omega, h.wB⟩, keepsFrom_trans (keepsFrom_below hb) (keepsFrom_trans (keepsFrom_set _ _ _) (keepsFrom_set _ _ _))⟩
  exact (h6.bl.setCell (p := ⟨w.heap.size + 1, 0, none⟩) (by show w.heap.size ≤ w.heap.size + 1; omega) _).setCell (p := ⟨w.heap.size + 2, 0, none⟩) (by show w.heap.size ≤ w.heap.size + 2; omega) _
end Go.Proofs.YtljdidimoagnhaaDoor

namespace Go.Proofs.YtljdidimoagnhaaDoor
open Go.RowKit Go.Shelf
set_option linter.unusedVariables false
attribute [local go_sem] Oper.semAt_some

set_option maxRecDepth 100000 in
set_option maxHeartbeats 12800000 in
theorem rings_any (S R n : Nat) (T : List Int) (ta : Option Addr) (tn tc : Nat) (w : World) (hn : 0 < n) (hn16 : n ≤ 16) (hS : 2 ≤ S) (hS4 : S ≤ 4) (htn : tn = n * S) (hT : ArgP w T ta tn tc) (hta : ∀ g off, ta = some ⟨g, off, none⟩ → g < w.heap.size) :
    Calls Tryd.prog 128 #[.agg #[.int .i64 (S : Int), .int .i64 (2 * (R : Int)), .int .i64 (n : Int), .slice ta tn tc]] w (RingsPost S n T w) := by
  have hmf : ∀ (fn : Fn) (first cap : Array Value) (w : World), (Instr.makeFunc fn first cap).run Tryd.prog w = .ok (.func fn first cap) w := fun _ _ _ _ => rfl
  have HTN := hide' htn
  have HT := hide' hT
  have HTA := hide' hta
  obtain ⟨PP, hPP⟩ : ∃ PP, RingsPost S n T w = PP := ⟨_, rfl⟩
  have HPP := hide' hPP
  rw [hPP]
  obtain ⟨w1, hw1⟩ : ∃ w1, ((w.alloc (.cells #[.int .i64 (S : Int), .int .i64 (2 * (R : Int)), .int .i64 (n : Int), .slice ta tn tc] 144)).alloc (.cells #[.slice none 0 0] 22)).alloc (.cells #[.slice none 0 0] 22) = w1 := ⟨_, rfl⟩
  have s1 : w1.heap.size = w.heap.size + 3 := by rw [← hw1]; simp
  have BB := hide' (show Below w.heap.size w w1 by rw [← hw1]; exact (((Below.refl _ _).alloc (Nat.le_refl _) _).alloc (by simp) _).alloc (by simp; omega) _)
  have G1 := hide' (show Blk w1 w.heap.size #[.int .i64 (S : Int), .int .i64 (2 * (R : Int)), .int .i64 (n : Int), .slice ta tn tc] 144 by rw [← hw1]; exact ((Blk.new _ _ _).alloc _).alloc _)
  have R2 := hide' (show Blk w1 (w.heap.size + 1) #[.slice none 0 0] 22 by rw [← hw1]; exact (blk_new_at (by simp)).alloc _)
  have R3 := hide' (show Blk w1 (w.heap.size + 2) #[.slice none 0 0] 22 by rw [← hw1]; exact blk_new_at (by simp))
  have PA := hide' (fun (W' : World) => pairs_any S R n ta tn tc W')
  clear htn hT hta hPP
  have y0 : w1.cell? ⟨w.heap.size, 0, none⟩ = some (.int .i64 (S : Int)) := G1.out.cell 0
  have y1 : w1.cell? ⟨w.heap.size, 1, none⟩ = some (.int .i64 (2 * (R : Int))) := G1.out.cell 1
  have y2 : w1.cell? ⟨w.heap.size, 2, none⟩ = some (.int .i64 (n : Int)) := G1.out.cell 2
  have y3 : w1.cell? ⟨w.heap.size, 3, none⟩ = some (.slice ta tn tc) := G1.out.cell 3
  refine (callsIn_wide (n := 9)).1 ?_
  refine callsIn_of_wp_marks Tryd.func128 rfl trivial ?_
  simp only [Tryd.ntmps128, List.size_toArray, List.length_cons, List.length_nil, Nat.reduceAdd, Nat.reduceSub, Array.replicate_succ, Array.replicate_zero, List.push_toArray, List.append_toArray, List.nil_append, List.cons_append]
  gi_wp2_with fail
  refine ⟨trivial, (callsIn_wide.2 (PA.out _)).mono ?_⟩
  rintro e W2 ⟨rfl, gx, b2, sz2⟩
  have Sz : W2.heap.size = w.heap.size + 4 := by rw [sz2, s1]
  have gx' : Blk W2 (w.heap.size + 3) #[.int .i64 (S : Int), .int .i64 (2 * (R : Int)), .int .i64 (n : Int), .slice ta tn tc] 144 := by rw [s1] at gx; exact gx
  have I0 := hide' (show GI w W2 S R n T (.slice ta tn tc) W2.heap.size (([] : List (PairAt n)).map Subtype.val) from ⟨G1.out.of (b2.block _ G1.out.lt), R2.out.of (b2.block _ R2.out.lt), R3.out.of (b2.block _ R3.out.lt), gx', BB.out.trans (b2.mono BB.out.size), Nat.le_refl _, by omega, fun u hu => by simp at hu⟩)
  clear y0 y1 y2 y3 gx gx' b2 PA hw1 sz2
  gi_wp2
  try rw [s1]
  refine wpIn_rangeFunc_ownH (α := PairAt n) rfl (by decide) (gf := 205) (lb := #[.pointer (some ⟨w.heap.size + 3, 0, none⟩)]) rfl trivial (enters_of Tryd.func205 (by kernel_rfl) rfl)
    (pairs_stops 8 (by decide) S R n (.slice ta tn tc) (w.heap.size + 3) hn16 W2 I0.out.gx.gb) (fun h k => h.trans k) (KB.putObj (by omega) (by omega) (by omega)) (Below.refl _ _) (fun _ => rfl)
    (fun pre W' => GI w W' S R n T (.slice ta tn tc) W2.heap.size (pre.map Subtype.val))
    (fun c _ W' => c = .ret ∧ ∃ u full v1 v2, GF w W' S n T W2.heap.size u full v1 v2)
    (fun pre X Y row hs hg hr => hs.own hg hr)
    (fun c pre X Y row hs hg hr => by obtain ⟨e, a, b, g', c', h⟩ := hs; exact ⟨e, a, b, g', c', h.own hg hr⟩)
    I0.out
    (fun z a' W' => ∃ Bx, (W2.heap.size ≤ Bx ∧ Blk W' Bx #[.int .i64 (z.1.1 : Int), .int .i64 (z.1.2 : Int)] 186) ∧ ∃ (t0 t5 t6 t7 t8 t9 t10 t11 t12 t13 t14 t15 t16 t17 t18 t19 t20 t21 t22 t23 t24 : Value), a' = { tmps := #[t0, .pointer (some ⟨w.heap.size, 0, none⟩), .pointer (some ⟨w.heap.size + 1, 0, none⟩), .pointer (some ⟨w.heap.size + 2, 0, none⟩), .pointer (some ⟨Bx, 0, none⟩), t5, t6, t7, t8, t9, t10, t11, t12, t13, t14, t15, t16, t17, t18, t19, t20, t21, t22, t23, t24], defers := [] })
    (fun z a' _ X Y row hs hg hr => by obtain ⟨Bx, ⟨h1, h2⟩, h3⟩ := hs; exact ⟨Bx, ⟨h1, (KC.of_grown hg (fun r e => (hr r e).2)).blk h2⟩, h3⟩)
    ?assign ?body ?done ?stop
  case assign =>
    rintro l pre z W3 K R3' hK
    have I3 := hide' R3'
    have HK := hide' hK
    clear R3' hK
    unfold encP
    have AL := hide' (show Below W3.heap.size W3 (W3.alloc (.cells #[.int .i64 (z.1.1 : Int), .int .i64 (z.1.2 : Int)] 186)) from (Below.refl _ _).alloc (Nat.le_refl _) _)
    gi_wp2
    exact HK.out _ _ (keepsFrom_below AL.out) (KB.below AL.out (by have := I3.out.gx.lt; omega) (by have := I3.out.gx.lt; omega) (by omega)) (I3.out.next AL.out) ⟨W3.heap.size, ⟨I3.out.sB, Blk.new _ _ _⟩, _, _, _, _, _, _, _, _, _, _, _, _, _, _, _, _, _, _, _, _, _, rfl⟩
  case body =>
    rintro l pre ⟨u, hu⟩ a' W3 hl hr R3' ⟨Bx, ⟨hBx, bX⟩, t0, t5, t6, t7, t8, t9, t10, t11, t12, t13, t14, t15, t16, t17, t18, t19, t20, t21, t22, t23, t24, rfl⟩ hlt
    have I3 := hide' R3'
    have BX := hide' bX
    have HU := hide' hu
    have MP := hide' (show (pre ++ [(⟨u, hu⟩ : PairAt n)]).map Subtype.val = pre.map Subtype.val ++ [u] by simp)
    clear R3' hr hlt bX
    obtain ⟨W4, hW4⟩ : ∃ W4, W3.alloc (.cells #[.int .i64 (u.1 : Int), .int .i64 (u.2 : Int)] 186) = W4 := ⟨_, rfl⟩
    have B4 := hide' (show Below W3.heap.size W3 W4 by rw [← hW4]; exact (Below.refl _ _).alloc (Nat.le_refl _) _)
    have P4 := hide' (show PC W4 W3.heap.size 1 (prAt [u]) by
      have b : Blk W4 W3.heap.size #[.int .i64 (u.1 : Int), .int .i64 (u.2 : Int)] 186 := by rw [← hW4]; exact Blk.new _ _ _
      refine ⟨b.lt, fun k hk => ?_, fun k hk => ?_, fun k => b.frozen k⟩ <;> obtain rfl : k = 0 := by omega
      · exact b.cell 0
      · exact b.cell 1)
    have I4 := hide' (I3.out.next B4.out)
    have BX4 := hide' (BX.out.of (B4.out.block Bx BX.out.lt))
    have SR := hide' (searchR_any S R n T ta tn tc W3.heap.size 1 [u] u.1 u.2 Bx W4 hn hn16 hS hS4 HTN.out (HT.out.below I4.out.bl) (fun g off e => by have := HTA.out g off e; have := I4.out.bl.size; omega) P4.out (by simp) (fun v hv => by obtain rfl := List.mem_singleton.1 hv; have := HU.out; omega) BX4.out.pb)
    have y0 : W3.cell? ⟨w.heap.size, 0, none⟩ = some (.int .i64 (S : Int)) := I3.out.gb.cell 0
    have y1 : W3.cell? ⟨w.heap.size, 1, none⟩ = some (.int .i64 (2 * (R : Int))) := I3.out.gb.cell 1
    have y2 : W3.cell? ⟨w.heap.size, 2, none⟩ = some (.int .i64 (n : Int)) := I3.out.gb.cell 2
    have y3 : W3.cell? ⟨w.heap.size, 3, none⟩ = some (.slice ta tn tc) := I3.out.gb.cell 3
    have x0 : W3.cell? ⟨Bx, 0, none⟩ = some (.int .i64 (u.1 : Int)) := BX.out.cell 0
    have x1 : W3.cell? ⟨Bx, 1, none⟩ = some (.int .i64 (u.2 : Int)) := BX.out.cell 1
    gi_wp2_with fail
    refine ⟨trivial, (CallsIn.inRound l (callsIn_wide.2 SR.out)).mono ?_⟩
    unfold SearchPost
    rintro e W5 ⟨hor, b5⟩
    have I5 := hide' (I4.out.next b5)
    have B5 := hide' (B4.out.trans (b5.mono B4.out.size))
    clear y0 y1 y2 y3 x0 x1 b5 SR hW4
    rcases hor with ⟨root, full, g5, c5, rfl, pc5, hg5, hc5, hm5, hro, hok, hwa, hle⟩ | ⟨rfl, hno⟩
    · obtain rfl : root = u := by simpa using hro
      have h0 : 0 < full.length := by obtain ⟨cs, d, e, _⟩ := hwa; rw [e]; simp
      have IR := hide' (show IsRing S n T root full from ⟨HU.out.1, HU.out.2, hok, hwa, hle⟩)
      obtain ⟨W6, hW6⟩ : ∃ W6, W5.alloc (.cells #[.int .i64 (root.1 : Int), .int .i64 (root.2 : Int)] 186) = W6 := ⟨_, rfl⟩
      have B6 := hide' (show Below W5.heap.size W5 W6 by rw [← hW6]; exact (Below.refl _ _).alloc (Nat.le_refl _) _)
      have PC6 := hide' (pc5.belowW B6.out)
      have SP := hide' (split_any full g5 c5 W6 PC6.out (by omega))
      have I6 := hide' (I5.out.next B6.out)
      have BT := hide' (B5.out.trans (B6.out.mono B5.out.size))
      have hl0 : (0 : Int) < (full.length : Int) := by omega
      clear pc5 hro hok hwa
      gi_wp2_with fail
      refine ⟨trivial, (CallsIn.inRound l (callsIn_wide.2 SP.out)).mono ?_⟩
      unfold SplitPost
      rintro e W7 ⟨v1, v2, rfl, o1, o2, b7⟩
      obtain ⟨g8, c8, rfl⟩ := row_form o1 h0
      obtain ⟨g9, c9, rfl⟩ := row_form o2 h0
      have FO := hide' (I6.out.found IR.out b7 o1 o2)
      have I7 := hide' (I6.out.next b7)
      clear o1 o2 b7 SP hW6
      have r2 : W7.cell? ⟨w.heap.size + 1, 0, none⟩ = some (.slice none 0 0) := I7.out.r2.cell 0
      have r3 : W7.cell? ⟨w.heap.size + 2, 0, none⟩ = some (.slice none 0 0) := I7.out.r3.cell 0
      have f2 := I7.out.r2.frozen 0
      have f3 := I7.out.r3.frozen 0
      gi_wp2
      exact ⟨keepsFrom_trans (keepsFrom_below BT.out) FO.out.2, rfl, root, full, _, _, FO.out.1⟩
    · have NO := hide' (show NoRing S n T u from fun cs c h1 h2 => hno u (by simp) cs c h1 h2)
      have B6 := hide' (show Below W5.heap.size W5 (W5.alloc (.cells #[.int .i64 0, .int .i64 0] 186)) from (Below.refl _ _).alloc (Nat.le_refl _) _)
      have BT := hide' (B5.out.trans (B6.out.mono B5.out.size))
      have I6 := hide' (I5.out.next B6.out)
      clear hno
      gi_wp2
      refine ⟨keepsFrom_below BT.out, KB.below BT.out (by have := I3.out.gx.lt; omega) (by have := I3.out.gx.lt; omega) (by omega), ?_⟩
      show GI w _ S R n T (.slice ta tn tc) W2.heap.size ((pre ++ [(⟨u, hu⟩ : PairAt n)]).map Subtype.val)
      rw [MP.out]
      have q := I6.out
      exact ⟨q.gb, q.r2, q.r3, q.gx, q.bl, q.sB, q.wB, fun v hv => (List.mem_append.1 hv).elim (q.no v) (fun m => by rw [List.mem_singleton.1 m]; exact NO.out)⟩
  case done =>
    rintro D xs W5 hD hall I5' hK
    have I5 := hide' I5'
    have HKD := hide' hK
    have NO := hide' (show ∀ u : Nat × Nat, u.1 ≤ u.2 → u.2 < n → NoRing S n T u from fun u h1 h2 => I5'.no u (List.mem_map.2 ⟨⟨u, h1, h2⟩, hall _, rfl⟩))
    clear I5' hK hall
    have r2 : W5.cell? ⟨w.heap.size + 1, 0, none⟩ = some (.slice none 0 0) := I5.out.r2.cell 0
    have r3 : W5.cell? ⟨w.heap.size + 2, 0, none⟩ = some (.slice none 0 0) := I5.out.r3.cell 0
    have f2 := I5.out.r2.frozen 0
    have f3 := I5.out.r3.frozen 0
    obtain ⟨W6, hW6⟩ : ∃ W6, (W5.setCell ⟨w.heap.size + 1, 0, none⟩ (.slice none 0 0)).setCell ⟨w.heap.size + 2, 0, none⟩ (.slice none 0 0) = W6 := ⟨_, rfl⟩
    have A2 := hide' (show Blk W6 (w.heap.size + 1) #[.slice none 0 0] 22 by rw [← hW6]; exact (I5.out.r2.set 0 (.slice none 0 0)).setOther (by omega) _)
    have A3 := hide' (show Blk W6 (w.heap.size + 2) #[.slice none 0 0] 22 by rw [← hW6]; exact (I5.out.r3.setOther (g := w.heap.size + 1) (i := 0) (by omega) _).set 0 (.slice none 0 0))
    have AD := hide' (show W6.heap[D]? = some (.deferred (some [])) by rw [← hW6, heap_setCell_other _ _ _ _ _ (by omega), heap_setCell_other _ _ _ _ _ (by omega)]; exact HKD.out)
    have AB := hide' (show Below w.heap.size w W6 by rw [← hW6]; exact (I5.out.bl.setCell (p := ⟨w.heap.size + 1, 0, none⟩) (by show w.heap.size ≤ w.heap.size + 1; omega) _).setCell (p := ⟨w.heap.size + 2, 0, none⟩) (by show w.heap.size ≤ w.heap.size + 2; omega) _)
    gi_wp2
    show LeavesInM _ _ _ _ _ _ ([D].map mkD) _ _
    refine leaves_marks (v := .tuple #[.slice none 0 0, .slice none 0 0]) (B := w.heap.size) [D] W6 (by simp) (fun E hE => by rw [List.mem_singleton.1 hE]; exact AD.out) (fun E hE => by rw [List.mem_singleton.1 hE]; omega) (fun W' k b => ⟨?_, ?_⟩)
    · have c0 : W'.cell? ⟨w.heap.size + 1, 0, none⟩ = some (.slice none 0 0) := (k.blk A2.out).cell 0
      have c1 : W'.cell? ⟨w.heap.size + 2, 0, none⟩ = some (.slice none 0 0) := (k.blk A3.out).cell 0
      simp [results, Tryd.results128, go_sem, c0, c1]
    · rw [← HPP.out]
      exact ⟨Or.inr ⟨rfl, NO.out⟩, AB.out.trans b⟩
  case stop =>
    rintro D c pre W5 hD _ ⟨rfl, u, full, v1, v2, FX'⟩ hK
    have FX := hide' FX'
    have HKD := hide' hK
    clear FX' hK
    gi_wp2
    show LeavesInM _ _ _ _ _ _ ([D].map mkD) _ _
    refine leaves_marks (v := .tuple #[v1, v2]) (B := w.heap.size) [D] W5 (by simp) (fun E hE => by rw [List.mem_singleton.1 hE]; exact HKD.out) (fun E hE => by rw [List.mem_singleton.1 hE]; omega) (fun W' k b => ⟨?_, ?_⟩)
    · have c0 : W'.cell? ⟨w.heap.size + 1, 0, none⟩ = some v1 := (k.blk FX.out.r2).cell 0
      have c1 : W'.cell? ⟨w.heap.size + 2, 0, none⟩ = some v2 := (k.blk FX.out.r3).cell 0
      simp [results, Tryd.results128, go_sem, c0, c1]
    · rw [← HPP.out]
      exact ⟨Or.inl ⟨u, full, v1, v2, rfl, k.row FX.out.o1, k.row FX.out.o2, FX.out.is⟩, FX.out.bl.trans b⟩
end Go.Proofs.YtljdidimoagnhaaDoor

