/-
  What the last text of this claim leans on, part 16: Od2.
-/
import Derived.Test.YtjjdjdodhedihaaDoorJs14
import Derived.Test.YtjjdjdodhedihaaDoorJs15
namespace Go.Proofs.YtjjdjdodhedihaaDoor
open Go.RowKit Go.Shelf
set_option linter.unusedVariables false
attribute [local go_sem] Oper.semAt_some

/-- A pair of places, the first one not above the second. -/
abbrev PairAt (n : Nat) := { x : Nat × Nat // x.1 ≤ x.2 ∧ x.2 < n }
def encP (x : Nat × Nat) : Array Value := #[.agg #[.int .i64 (x.1 : Int), .int .i64 (x.2 : Int)]]
def AllPairs {n : Nat} (xs : List (PairAt n)) : Prop := ∀ x, x ∈ xs

set_option maxRecDepth 100000 in
set_option maxHeartbeats 6400000 in
theorem pairs1_in (m : Nat) (hm : 2 ≤ m) (S R n : Nat) (v3 : Value) (pg l : Nat) (hn16 : n ≤ 16) (J Jx : List (PairAt n) → World → Prop) (W : World)
    (hY : ∀ pre (x : PairAt n) W1, J pre W1 → pre.length < n * n → YieldAt Fence.wide (m - 1) Tryd.prog l (encP x.1) W1 fun e W' =>
      (e = .returned (.bool true) ∧ J (pre ++ [x]) W' ∧ KB 0 pg pg W1 W') ∨ (e = .returned (.bool false) ∧ Jx (pre ++ [x]) W'))
    (hI : GB pg S R n v3 W) (h0 : J [] W) :
    CallsIn Fence.wide m Tryd.prog 109 #[.func (.yield l) #[] #[], .pointer (some ⟨pg, 0, none⟩)] W fun e W' => (∃ v, e = .returned v) ∧
      ((∃ xs, AllPairs xs ∧ J xs W') ∨ (∃ pre, True ∧ Jx pre W')) := by
  have HY := hide' hY
  have A0 := hide' h0
  have y2 := hI.c2
  clear hY h0 hI
  refine callsIn_of_wp Tryd.func109 rfl trivial ?_ rfl
  simp only [Tryd.ntmps109, List.size_toArray, List.length_cons, List.length_nil, Nat.reduceAdd, Nat.reduceSub, Array.replicate_succ, Array.replicate_zero, List.push_toArray, List.append_toArray, List.nil_append, List.cons_append]
  gi_wp2
  clear y2
  gi_loopw [7] (fun iv wr => ∃ (b : Nat) (pre : List (PairAt n)), iv = .int .i64 (b : Int) ∧ b ≤ n ∧ Hid (J pre wr ∧ pre.length ≤ b * n ∧ ∀ x : PairAt n, x.1.2 < b → x ∈ pre)) (fun iv _ => n - (intOf iv).toNat)
  case atStart => exact ⟨0, [], rfl, by omega, hide' ⟨A0.out, by simp, fun x hx => by omega⟩⟩
  case round =>
    clear A0
    obtain ⟨b, pre, rfl, hb, H1⟩ := hrel
    by_cases d : (b : Int) < (n : Int)
    · have H2 := hide' H1.out
      clear H1
      gi_wp2
      gi_loopw [12] (fun iv wr => ∃ (a : Nat) (pre : List (PairAt n)), iv = .int .i64 (a : Int) ∧ a ≤ b + 1 ∧ Hid (J pre wr ∧ pre.length ≤ b * n + a ∧ ∀ x : PairAt n, x.1.2 < b ∨ x.1.2 = b ∧ x.1.1 < a → x ∈ pre)) (fun iv _ => b + 1 - (intOf iv).toNat)
      case atStart => exact ⟨0, pre, rfl, by omega, hide' ⟨H2.out.1, H2.out.2.1, fun x hx => H2.out.2.2 x (by omega)⟩⟩
      case round =>
        clear H2
        obtain ⟨a, pre, rfl, ha, H3⟩ := hrel
        by_cases d2 : (a : Int) < (b : Int) + 1
        · obtain ⟨x, hx⟩ : ∃ x : PairAt n, x.1 = (a, b) := ⟨⟨(a, b), by show a ≤ b; omega, by show b < n; omega⟩, rfl⟩
          have LEN := hide' (show b * n + a < n * n by
            have : (b + 1) * n ≤ n * n := Nat.mul_le_mul_right _ (by omega)
            rw [Nat.add_mul] at this
            omega)
          obtain ⟨fn, tmps, assign, body, hy, hR⟩ := HY.out pre x wr H3.out.1 (Nat.lt_of_le_of_lt H3.out.2.1 LEN.out)
          rw [show encP x.1 = #[.agg #[.int .i64 (a : Int), .int .i64 (b : Int)]] by unfold encP; rw [hx]] at hy
          have HX := hide' hx
          have HR := hide' hR
          clear hx hR
          gi_wp2
          refine ⟨fun _ => by omega, HR.out.mono ?_⟩
          rintro e W3 (⟨rfl, hJ3, hk3⟩ | ⟨rfl, hJx3⟩)
          · have H5 := hide' (show J (pre ++ [x]) W3 ∧ (pre ++ [x]).length ≤ b * n + (a + 1) ∧ ∀ y : PairAt n, y.1.2 < b ∨ y.1.2 = b ∧ y.1.1 < a + 1 → y ∈ pre ++ [x] from
              ⟨hJ3, by have := H3.out.2.1; simp; omega, fun y hy => by
                by_cases q : y.1.1 = a ∧ y.1.2 = b
                · have : y = x := Subtype.ext (by rw [HX.out]; exact Prod.ext q.1 q.2)
                  simp [this]
                · exact List.mem_append_left _ (H3.out.2.2 y (by omega))⟩)
            clear H3 hJ3 hk3 HR hy
            gi_wp2
            exact ⟨⟨a + 1, pre ++ [x], by go_num, by omega, H5⟩, by simp [intOf]; omega⟩
          · have H5 := hide' hJx3
            clear H3 hJx3 HR hy
            gi_wp2
            refine bodyPost_ret (results_none rfl _ _ _) rfl ?_
            exact ⟨⟨_, rfl⟩, .inr ⟨_, trivial, H5.out⟩⟩
        · have H4 := hide' (show J pre wr ∧ pre.length ≤ (b + 1) * n ∧ ∀ x : PairAt n, x.1.2 < b + 1 → x ∈ pre from
            ⟨H3.out.1, by have := H3.out.2.1; rw [Nat.add_mul]; omega, fun x hx => H3.out.2.2 x (by have := x.2.1; omega)⟩)
          clear H3
          gi_wp2
          exact ⟨⟨b + 1, pre, by go_num, by omega, H4⟩, by simp [intOf]; omega⟩
    · have AL := hide' (show AllPairs pre from fun x => H1.out.2.2 x (by have := x.2.2; omega))
      gi_wp2
      go_end0
      exact ⟨⟨_, rfl⟩, .inl ⟨pre, AL.out, H1.out.1⟩⟩

theorem pairs_stops (m : Nat) (hm : 2 ≤ m) (S R n : Nat) (v3 : Value) (pg : Nat) (hn16 : n ≤ 16) (w : World) (hI : GB pg S R n v3 w) :
    SeqStopsK Fence.wide m Tryd.prog 109 #[.pointer (some ⟨pg, 0, none⟩)] (fun x : PairAt n => encP x.1) (KB 0 pg pg) AllPairs (fun _ => True) (n * n) w := fun l J Jx W hW hJ _ hY h0 =>
  pairs1_in m hm S R n v3 pg l hn16 J Jx W hY (hI.next hW) h0

set_option maxRecDepth 100000 in
set_option maxHeartbeats 1600000 in
theorem pairs_any (S R n : Nat) (ta : Option Addr) (tn tc : Nat) (w : World) :
    Calls Tryd.prog 82 #[.agg #[.int .i64 (S : Int), .int .i64 (2 * (R : Int)), .int .i64 (n : Int), .slice ta tn tc]] w fun e w' => e = .returned (.func (.func 109) #[] #[.pointer (some ⟨w.heap.size, 0, none⟩)]) ∧ Blk w' w.heap.size #[.int .i64 (S : Int), .int .i64 (2 * (R : Int)), .int .i64 (n : Int), .slice ta tn tc] 79 ∧ Below w.heap.size w w' ∧ w'.heap.size = w.heap.size + 1 := by
  have hmf : ∀ (fn : Fn) (first cap : Array Value) (w : World), (Instr.makeFunc fn first cap).run Tryd.prog w = .ok (.func fn first cap) w := fun _ _ _ _ => rfl
  go_enter Tryd.func82, Tryd.ntmps82
  go_wp2
  go_ret
  exact ⟨rfl, Blk.new _ _ _, (Below.refl _ _).alloc (Nat.le_refl _) _, by simp⟩

/-- From a pair of places no way round is wanted. -/
def NoRing (S n : Nat) (T : List Int) (u : Nat × Nat) : Prop := ∀ cs c, okP S n T u cs → OkWay S T (endP S n u cs) c → wantRf S n u.1 u.2 (endP S n u cs) c = false
/-- Two unlike rings of which the same becomes, as a way round. -/
def IsRing (S n : Nat) (T : List Int) (u : Nat × Nat) (full : List (Nat × Nat)) : Prop := u.1 ≤ u.2 ∧ u.2 < n ∧ okP S n T u full ∧ (∃ cs d, full = cs ++ [d] ∧ wantRf S n u.1 u.2 (endP S n u cs) d = true) ∧ full.length ≤ 257
def RingsPost (S n : Nat) (T : List Int) (w : World) (e : Ending) (w' : World) : Prop :=
  ((∃ u full v1 v2, e = .returned (.tuple #[v1, v2]) ∧ w'.ownsRow w.heap.size 3 1 v1 full.length (full.map fun y => .int .i64 (y.1 : Int)) ∧ w'.ownsRow w.heap.size 3 1 v2 full.length (full.map fun y => .int .i64 (y.2 : Int)) ∧ IsRing S n T u full) ∨
   (e = .returned (.tuple #[.slice none 0 0, .slice none 0 0]) ∧ ∀ u : Nat × Nat, u.1 ≤ u.2 → u.2 < n → NoRing S n T u)) ∧ Below w.heap.size w w'

/-- What rings holds between two rounds. -/
structure GI (w W : World) (S R n : Nat) (T : List Int) (v3 : Value) (B : Nat) (pre : List (Nat × Nat)) : Prop where
  gb : Blk W w.heap.size #[.int .i64 (S : Int), .int .i64 (2 * (R : Int)), .int .i64 (n : Int), v3] 79
  r2 : Blk W (w.heap.size + 1) #[.slice none 0 0] 22
  r3 : Blk W (w.heap.size + 2) #[.slice none 0 0] 22
  gx : Blk W (w.heap.size + 3) #[.int .i64 (S : Int), .int .i64 (2 * (R : Int)), .int .i64 (n : Int), v3] 79
  bl : Below w.heap.size w W
  sB : B ≤ W.heap.size
  wB : w.heap.size + 4 ≤ B
  no : ∀ u ∈ pre, NoRing S n T u
theorem GI.own {w W W' : World} {S R n : Nat} {T : List Int} {v3 : Value} {B : Nat} {pre : List (Nat × Nat)} {row : Option Nat} (h : GI w W S R n T v3 B pre) (g : W.grownBy W' row) (hr : ∀ r, row = some r → B ≤ r ∧ ∃ o : Obj, W.heap[r]? = some o ∧ o.isCells = false) : GI w W' S R n T v3 B pre := by
  have k := KC.of_grown g (fun r e => (hr r e).2)
  have wB := h.wB
  have sB := h.sB
  exact ⟨k.blk h.gb, k.blk h.r2, k.blk h.r3, k.blk h.gx, below_grown h.bl g (by omega) (show w.heap.size ≤ B by omega) (fun r e => (hr r e).1), Nat.le_trans h.sB k.size, h.wB, h.no⟩
theorem GI.next {w W W' : World} {S R n : Nat} {T : List Int} {v3 : Value} {B : Nat} {pre : List (Nat × Nat)} (h : GI w W S R n T v3 B pre) (k : Below W.heap.size W W') : GI w W' S R n T v3 B pre := h.own (grown_of_below k) (fun r e => by cases e)
/-- What rings has found. -/
structure GF (w W : World) (S n : Nat) (T : List Int) (B : Nat) (u : Nat × Nat) (full : List (Nat × Nat)) (v1 v2 : Value) : Prop where
  r2 : Blk W (w.heap.size + 1) #[v1] 22
  r3 : Blk W (w.heap.size + 2) #[v2] 22
  o1 : W.ownsRow w.heap.size 3 1 v1 full.length (full.map fun y => .int .i64 (y.1 : Int))
  o2 : W.ownsRow w.heap.size 3 1 v2 full.length (full.map fun y => .int .i64 (y.2 : Int))
  is : IsRing S n T u full
  bl : Below w.heap.size w W
  sB : B ≤ W.heap.size
  wB : w.heap.size + 4 ≤ B
theorem GF.own {w W W' : World} {S n : Nat} {T : List Int} {B : Nat} {u : Nat × Nat} {full : List (Nat × Nat)} {v1 v2 : Value} {row : Option Nat} (h : GF w W S n T B u full v1 v2) (g : W.grownBy W' row) (hr : ∀ r, row = some r → B ≤ r ∧ ∃ o : Obj, W.heap[r]? = some o ∧ o.isCells = false) : GF w W' S n T B u full v1 v2 := by
  have k := KC.of_grown g (fun r e => (hr r e).2)
  have wB := h.wB
  have sB := h.sB
  exact ⟨k.blk h.r2, k.blk h.r3, k.row h.o1, k.row h.o2, h.is, below_grown h.bl g (by omega) (show w.heap.size ≤ B by omega) (fun r e => (hr r e).1), Nat.le_trans h.sB k.size, h.wB⟩
theorem row_form {w : World} {base : Nat} {e : TypeId} {size n : Nat} {v : Value} {xs : List Value} (h : w.ownsRow base e size v n xs) (h0 : 0 < n) : ∃ g cap, v = .slice (some ⟨g, 0, none⟩) n cap := by
  rcases h.2 with ⟨_, h1⟩ | ⟨g, cap, _, rfl, _⟩
  · omega
  · exact ⟨g, cap, rfl⟩
theorem row_base_mono {w : World} {base base' : Nat} {e : TypeId} {size n : Nat} {v : Value} {xs : List Value} (h : w.ownsRow base e size v n xs) (hb : base' ≤ base) : w.ownsRow base' e size v n xs := by
  refine ⟨h.1, ?_⟩
  rcases h.2 with q | ⟨g, cap, cur, hv, hg, rest⟩
  · exact Or.inl q
  · exact Or.inr ⟨g, cap, cur, hv, Nat.le_trans hb hg, rest⟩
theorem GI.found {w W W6 : World} {S R n : Nat} {T : List Int} {v3 : Value} {B : Nat} {pre : List (Nat × Nat)} (h : GI w W S R n T v3 B pre) {u : Nat × Nat} {full : List (Nat × Nat)} {v1 v2 : Value} (hu : IsRing S n T u full) (hb : Below W.heap.size W W6)
    (o1 : W6.ownsRow W.heap.size 3 1 v1 full.length (full.map fun y => .int .i64 (y.1 : Int))) (o2 : W6.ownsRow W.heap.size 3 1 v2 full.length (full.map fun y => .int .i64 (y.2 : Int))) :
    GF w ((W6.setCell ⟨w.heap.size + 1, 0, none⟩ v1).setCell ⟨w.heap.size + 2, 0, none⟩ v2) S n T B u full v1 v2 ∧ KeepsFrom B W ((W6.setCell ⟨w.heap.size + 1, 0, none⟩ v1).setCell ⟨w.heap.size + 2, 0, none⟩ v2) := by
  have h6 := h.next hb
  have wB := h.wB
  have sB := h6.sB
  have wW : w.heap.size ≤ W.heap.size := by have := h.sB; omega
  have t1 : Blk (W6.setCell ⟨w.heap.size + 1, 0, none⟩ v1) (w.heap.size + 2) #[.slice none 0 0] 22 := h6.r3.setOther (by omega) v1
  have p1 : (W6.setCell ⟨w.heap.size + 1, 0, none⟩ v1).ownsRow W.heap.size 3 1 v1 full.length (full.map fun y => .int .i64 (y.1 : Int)) := o1.kept (grownBy_set W6 _ 0 _) (.inr (Ne.symm (not_row h6.r2 (by decide) o1)))
  have p2 : (W6.setCell ⟨w.heap.size + 1, 0, none⟩ v1).ownsRow W.heap.size 3 1 v2 full.length (full.map fun y => .int .i64 (y.2 : Int)) := o2.kept (grownBy_set W6 _ 0 _) (.inr (Ne.symm (not_row h6.r2 (by decide) o2)))
  refine ⟨⟨(h6.r2.set 0 v1).setOther (by omega) v2, t1.set 0 v2, row_base_mono (p1.kept (grownBy_set _ _ 0 _) (.inr (Ne.symm (not_row t1 (by decide) p1)))) wW, row_base_mono (p2.kept (grownBy_set _ _ 0 _) (.inr (Ne.symm (not_row t1 (by decide) p2)))) wW, hu, ?_, by simp; omega, h.wB⟩, keepsFrom_trans (keepsFrom_below hb) (keepsFrom_trans (keepsFrom_set _ _ _) (keepsFrom_set _ _ _))⟩
  exact (h6.bl.setCell (p := ⟨w.heap.size + 1, 0, none⟩) (by show w.heap.size ≤ w.heap.size + 1; omega) _).setCell (p := ⟨w.heap.size + 2, 0, none⟩) (by show w.heap.size ≤ w.heap.size + 2; omega) _
end Go.Proofs.YtjjdjdodhedihaaDoor

