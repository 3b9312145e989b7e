/-
  What the last text of this claim leans on, part 16: Hc4, Hc5.
-/
import Derived.Test.YtelocgefaommmaaDoorZh15
namespace Go.Proofs.YtelocgefaommmaaDoor
open Go.RowKit
set_option linter.unusedVariables false
/-- What a growing keeps, but for some blocks. -/
structure KpX (X : Nat → Prop) (g g' : Nat) (V V' : World) : Prop where
  os : V'.os = V.os
  tape : V'.tape = V.tape
  output : V'.output = V.output
  size : V.heap.size ≤ V'.heap.size
  keep : ∀ k, k < V.heap.size → ¬ X k → k ≠ g → V'.heap[k]? = V.heap[k]?
  new : g' = g ∨ V.heap.size ≤ g'
theorem KpX.of_below {X : Nat → Prop} {g : Nat} {V V' : World} (h : Below V.heap.size V V') : KpX X g g V V' := ⟨h.os, h.tape, h.output, h.size, fun k hk _ _ => h.block k hk, Or.inl rfl⟩
theorem KpX.of_kps {X : Nat → Prop} {sb g g' : Nat} {V V' : World} (h : KpS sb g g' V V') (hX : X sb) : KpX X g g' V V' := ⟨h.os, h.tape, h.output, h.size, fun k hk h1 h2 => h.keep k hk (fun e => h1 (by rw [e]; exact hX)) h2, h.new⟩
theorem KpX.trans {X : Nat → Prop} {g g' g'' : Nat} {V V' V'' : World} (h : KpX X g g' V V') (k : KpX X g' g'' V' V'') : KpX X g g'' V V'' :=
  ⟨k.os.trans h.os, k.tape.trans h.tape, k.output.trans h.output, Nat.le_trans h.size k.size, fun i hi h1 h2 => (k.keep i (Nat.lt_of_lt_of_le hi h.size) h1 (by rcases h.new with e | e <;> omega)).trans (h.keep i hi h1 h2), by rcases h.new with e | e <;> rcases k.new with f | f <;> first | (left; omega) | (right; have := h.size; omega)⟩
theorem KpX.weak {X Y : Nat → Prop} {g g' : Nat} {V V' : World} (h : KpX X g g' V V') (hXY : ∀ k, X k → Y k) : KpX Y g g' V V' := ⟨h.os, h.tape, h.output, h.size, fun k hk h1 h2 => h.keep k hk (fun e => h1 (hXY k e)) h2, h.new⟩
theorem KpX.set {X : Nat → Prop} {g g' q i : Nat} {V U : World} (h : KpX X g g' V U) (hq : X q) (v : Value) : KpX X g g' V (U.setCell ⟨q, i, none⟩ v) :=
  ⟨h.os, h.tape, h.output, by rw [World.size_setCell]; exact h.size, fun k hk h1 h2 => (Below.heap_setCell _ _ _ _ (fun e => h1 (by rw [show k = q from e]; exact hq))).trans (h.keep k hk h1 h2), h.new⟩
theorem KpX.drew {X : Nat → Prop} {g g' : Nat} {V U : World} (h : KpX X g g' V U) : KpX X g g' V U.drew := ⟨h.os, h.tape, h.output, h.size, h.keep, h.new⟩
/-- What is known of numbers that were moved. -/
def MemQ (qs rs : List Sq) (nu : Nat → Nat) : Prop := nu 0 = 0 ∧ ∀ i, nu i ≠ 0 → ∀ n, WFQ qs n i → WFQ rs n (nu i) ∧ ∀ x y, valQ rs n (nu i) x y = valQ qs n i x y
theorem MemQ.app {qs rs : List Sq} {nu : Nat → Nat} (h : MemQ qs rs nu) (hS : StQ rs) (ms : List Sq) : MemQ qs (rs ++ ms) nu := ⟨h.1, fun i hi n hw => by
  obtain ⟨a, b⟩ := h.2 i hi n hw
  exact ⟨a.app ms, fun x y => by rw [a.val hS ms]; exact b x y⟩⟩
theorem MemQ.put {qs rs : List Sq} {nu : Nat → Nat} (h : MemQ qs rs nu) {t t' n : Nat} (h0 : t ≠ 0) (hw : WFQ qs n t) (h1 : WFQ rs n t') (h2 : ∀ x y, valQ rs n t' x y = valQ qs n t x y) : MemQ qs rs (fun j => if j = t then t' else nu j) := ⟨by show (if 0 = t then t' else nu 0) = 0; rw [if_neg (fun e => h0 e.symm)]; exact h.1, fun i hi m hm => by
  show WFQ rs m (if i = t then t' else nu i) ∧ ∀ x y, valQ rs m (if i = t then t' else nu i) x y = _
  by_cases e : i = t
  · subst e
    rw [if_pos rfl]
    obtain rfl := WFQ.level h0 hw hm
    exact ⟨h1, h2⟩
  · rw [if_neg e]
    have hi' : nu i ≠ 0 := by simpa [e] using hi
    exact h.2 i hi' m hm⟩
/-- A mover as it lies: its block, the stock that it takes from, the one that it takes to, the numbers. -/
structure MvA (w : World) (mb fs gf cf ts Bt gt ct nb N : Nat) (qs rs : List Sq) (nu : Nat → Nat) : Prop where
  mov : w.heap[mb]? = some (.cells #[.pointer (some ⟨fs, 0, none⟩), .pointer (some ⟨ts, 0, none⟩), .slice (some ⟨nb, 0, none⟩) N N] 92 (0, 0))
  frm : StkA w fs 0 gf cf qs
  too : StkA w ts Bt gt ct rs
  num : w.heap[nb]? = some (.cells (arrF N fun i => .int .i32 (nu i : Int)) 21 (0, 0))
  len : N = qs.length
  fb : fs < Bt ∧ gf < Bt
  mem : MemQ qs rs nu
def mvX (ts nb : Nat) (k : Nat) : Prop := k = ts ∨ k = nb
/-- What move answers. -/
def MvP (mb fs gf cf ts Bt gt nb N : Nat) (qs rs : List Sq) (n t : Nat) (w : World) (e : Ending) (w' : World) : Prop :=
  ∃ gt' ct' rs' nu' t', e = .returned (.int .i32 ((t' : Nat) : Int)) ∧ MvA w' mb fs gf cf ts Bt gt' ct' nb N qs rs' nu' ∧ (∃ ms, rs' = rs ++ ms ∧ ms.length ≤ cntQ n) ∧ WFQ rs' n t' ∧ (∀ x y, valQ rs' n t' x y = valQ qs n t x y) ∧ KpX (mvX ts nb) gt gt' w w'
theorem MvA.keep {w w' : World} {mb fs gf cf ts Bt gt ct nb N : Nat} {qs rs : List Sq} {nu : Nat → Nat} (h : MvA w mb fs gf cf ts Bt gt ct nb N qs rs nu) (b : Below w.heap.size w w') : MvA w' mb fs gf cf ts Bt gt ct nb N qs rs nu :=
  ⟨(b.block _ (lt_of_block h.mov)).trans h.mov, h.frm.below b, h.too.below b, (b.block _ (lt_of_block h.num)).trans h.num, h.len, h.fb, h.mem⟩
/-- The blocks of a mover are apart. -/
theorem MvA.apart {w : World} {mb fs gf cf ts Bt gt ct nb N : Nat} {qs rs : List Sq} {nu : Nat → Nat} (h : MvA w mb fs gf cf ts Bt gt ct nb N qs rs nu) : (mb ≠ ts ∧ mb ≠ gt ∧ mb ≠ nb) ∧ (fs ≠ ts ∧ fs ≠ gt ∧ fs ≠ nb) ∧ (gf ≠ ts ∧ gf ≠ gt ∧ gf ≠ nb) ∧ (nb ≠ ts ∧ nb ≠ gt) := by
  have m1 := h.too.ne_four h.mov (by decide) (by decide)
  have m2 := h.too.ne_four h.num (by decide) (by decide)
  have m3 := h.frm.ne_four h.num (by decide) (by decide)
  have l1 := h.too.le
  have l2 := h.too.rowB.1
  have l3 := h.fb
  refine ⟨⟨m1.1, m1.2, ?_⟩, ⟨by omega, by omega, fun e => m3.1 e.symm⟩, ⟨by omega, by omega, fun e => m3.2 e.symm⟩, m2⟩
  intro e
  have := h.mov
  rw [e, h.num] at this
  injection this with this
  injection this with _ this
  cases this
set_option maxRecDepth 100000 in
set_option maxHeartbeats 3200000 in
theorem move_known (mb fs gf cf ts Bt gt ct nb N : Nat) (qs rs : List Sq) (nu : Nat → Nat) (n t : Nat) (w : World) (h : MvA w mb fs gf cf ts Bt gt ct nb N qs rs nu) (hw : WFQ qs n t) (t0 : t ≠ 0) (hk : nu t ≠ 0) :
    Calls Tryd.prog 38 #[.pointer (some ⟨mb, 0, none⟩), .int .i32 (t : Int)] w (MvP mb fs gf cf ts Bt gt nb N qs rs n t w) := by
  have HK := hide' h
  have lt := hw.lt h.frm.st
  rw [← h.len] at lt
  have m2 := cell_of_row w mb 2 _ _ _ h.mov
  have nt := (cell_of_row w nb t _ _ _ h.num).trans (arrF_get _ lt)
  simp at m2
  obtain ⟨v, hv⟩ : ∃ v, nu t = v := ⟨_, rfl⟩
  rw [hv] at nt
  have z0 : ((t : Int) == 0) = false := by simp; omega
  have z1 : ((v : Int) != 0) = true := by simp; omega
  have l1 : (t : Int) < (N : Int) := by omega
  have FIN := hide' (show MvP mb fs gf cf ts Bt gt nb N qs rs n t w (.returned (.int .i32 (v : Int))) w from by
    have := h.mem.2 t hk n hw
    rw [hv] at this
    exact ⟨gt, ct, rs, nu, v, rfl, h, ⟨[], by simp, by simp⟩, this.1, this.2, KpX.of_below (Below.refl _ _)⟩)
  clear h hw t0 hk hv lt
  go_enter Tryd.func38, Tryd.ntmps38
  go_wp2
  go_ret
  exact FIN.out
set_option maxRecDepth 100000 in
set_option maxHeartbeats 3200000 in
theorem move_zero (mb fs gf cf ts Bt gt ct nb N : Nat) (qs rs : List Sq) (nu : Nat → Nat) (n : Nat) (w : World) (h : MvA w mb fs gf cf ts Bt gt ct nb N qs rs nu) :
    Calls Tryd.prog 38 #[.pointer (some ⟨mb, 0, none⟩), .int .i32 0] w (MvP mb fs gf cf ts Bt gt nb N qs rs n 0 w) := by
  have lt : 0 < N := by rw [h.len]; exact h.frm.st.1
  have m2 := cell_of_row w mb 2 _ _ _ h.mov
  have nt := (cell_of_row w nb 0 _ _ _ h.num).trans (arrF_get _ lt)
  rw [h.mem.1] at nt
  simp at m2 nt
  have l1 : (0 : Int) < (N : Int) := by omega
  have FIN := hide' (show MvP mb fs gf cf ts Bt gt nb N qs rs n 0 w (.returned (.int .i32 0)) w from
    ⟨gt, ct, rs, nu, 0, rfl, h, ⟨[], by simp, by simp⟩, WFQ.nil _ _, fun x y => by rw [val_nil h.too.st, val_nil h.frm.st], KpX.of_below (Below.refl _ _)⟩)
  clear h lt
  go_enter Tryd.func38, Tryd.ntmps38
  go_wp2
  go_ret
  exact FIN.out
end Go.Proofs.YtelocgefaommmaaDoor

namespace Go.Proofs.YtelocgefaommmaaDoor
open Go.RowKit
set_option linter.unusedVariables false
theorem StkA.drewS {w : World} {sb B g cap : Nat} {qs : List Sq} (h : StkA w sb B g cap qs) : StkA w.drew sb B g cap qs := h.keep rfl rfl
theorem KpS.drewL {sb g g' : Nat} {V V' : World} (h : KpS sb g g' V.drew V') : KpS sb g g' V V' := ⟨h.os, h.tape, h.output, h.size, h.keep, h.new⟩
/-- A mover behind the growing of its stock, with one more number known. -/
theorem MvA.grown {w w4 : World} {mb fs gf cf ts Bt gt ct nb N : Nat} {qs rs : List Sq} {nu : Nat → Nat} (h : MvA w mb fs gf cf ts Bt gt ct nb N qs rs nu) {X : Nat → Prop} {g' cap' : Nat} {rs' ms : List Sq} {n t t' : Nat} (hs : StkA w4 ts Bt g' cap' rs') (hk : KpX X gt g' w w4) (hX : ∀ k, X k → k = ts ∨ w.heap.size ≤ k + 1 ∧ k ≠ mb ∧ k ≠ nb ∧ k ≠ fs ∧ k ≠ gf) (he : rs' = rs ++ ms) (t0 : t ≠ 0) (hw : WFQ qs n t) (w1 : WFQ rs' n t') (w2 : ∀ x y, valQ rs' n t' x y = valQ qs n t x y) :
    MvA (w4.setCell ⟨nb, t, none⟩ (.int .i32 (t' : Int))) mb fs gf cf ts Bt g' cap' nb N qs rs' (fun j => if j = t then t' else nu j) := by
  obtain ⟨⟨a1, a2, a3⟩, ⟨b1, b2, b3⟩, ⟨c1, c2, c3⟩, d1, d2⟩ := h.apart
  have km := hk.keep mb (lt_of_block h.mov) (fun e => by rcases hX _ e with e | ⟨_, e, _⟩; exact a1 e; exact e rfl) a2
  have kn := hk.keep nb (lt_of_block h.num) (fun e => by rcases hX _ e with e | ⟨_, _, e, _⟩; exact d1 e; exact e rfl) d2
  have kf := hk.keep fs h.frm.lt.1 (fun e => by rcases hX _ e with e | ⟨_, _, _, e, _⟩; exact b1 e; exact e rfl) b2
  have kg := hk.keep gf h.frm.lt.2 (fun e => by rcases hX _ e with e | ⟨_, _, _, _, e⟩; exact c1 e; exact e rfl) c2
  have n4 := kn.trans h.num
  have nn := hs.ne_four n4 (by decide) (by decide)
  refine ⟨(Below.heap_setCell _ _ _ _ a3).trans (km.trans h.mov), (h.frm.keep kf kg).set (fun e => b3 e.symm) (fun e => c3 e.symm) _, hs.set nn.1 nn.2 _, ?_, h.len, h.fb, ?_⟩
  · rw [heap_setCell_same _ _ _ _ _ _ n4, arrF_set]
    congr 2
    exact arrF_ext fun k _ => by by_cases e : k = t <;> simp [e]
  · have m := h.mem.app h.too.st ms
    rw [← he] at m
    exact m.put t0 hw w1 w2
set_option maxRecDepth 100000 in
set_option maxHeartbeats 12800000 in
theorem move_eight (mb fs gf cf ts Bt gt ct nb N : Nat) (qs rs : List Sq) (nu : Nat → Nat) (t : Nat) (w : World) (h : MvA w mb fs gf cf ts Bt gt ct nb N qs rs nu) (hB : Bt ≤ w.heap.size) (hl : rs.length ≤ 2000000) (hw : WFQ qs 0 t) (t0 : t ≠ 0) (hz : nu t = 0) :
    Calls Tryd.prog 38 #[.pointer (some ⟨mb, 0, none⟩), .int .i32 (t : Int)] w (MvP mb fs gf cf ts Bt gt nb N qs rs 0 t w) := by
  have HK := hide' h
  have HW := hide' hw
  have HT0 := hide' t0
  have lt := hw.lt h.frm.st
  have LT := hide' lt
  obtain ⟨q0, q1, q2, q3, q4, q5⟩ := h.frm.cells lt
  have hk0 : (sqA qs t).k ≠ 0 ∧ (sqA qs t).k < 2 ^ 64 := by
    rcases hw with e | e
    · exact absurd e t0
    · exact e.2
  obtain ⟨va, hva⟩ : ∃ v, (sqA qs t).a = v := ⟨_, rfl⟩
  obtain ⟨vb, hvb⟩ : ∃ v, (sqA qs t).b = v := ⟨_, rfl⟩
  obtain ⟨vc, hvc⟩ : ∃ v, (sqA qs t).c = v := ⟨_, rfl⟩
  obtain ⟨vd, hvd⟩ : ∃ v, (sqA qs t).d = v := ⟨_, rfl⟩
  obtain ⟨k, hkk⟩ : ∃ v, (sqA qs t).k = v := ⟨_, rfl⟩
  obtain ⟨l, hll⟩ : ∃ v, (sqA qs t).l = v := ⟨_, rfl⟩
  rw [hva] at q0
  rw [hvb] at q1
  rw [hvc] at q2
  rw [hvd] at q3
  rw [hkk] at q4 hk0
  rw [hll] at q5
  have HKK := hide' (And.intro hkk hk0)
  have m0 := cell_of_row w mb 0 _ _ _ h.mov
  have m2 := cell_of_row w mb 2 _ _ _ h.mov
  rw [← h.len] at lt
  have nt := (cell_of_row w nb t _ _ _ h.num).trans (arrF_get _ lt)
  have s0 := cell_of_row w fs 0 _ _ _ h.frm.blk
  rw [← h.len] at s0
  rw [hz] at nt
  simp at m0 m2 nt s0
  have z0 : ((t : Int) == 0) = false := by simp; omega
  have z1 : ((k : Int) != 0) = true := by simp; omega
  have l1 : (t : Int) < (N : Int) := by omega
  obtain ⟨w1, hw1⟩ : ∃ w1, w.alloc (.cells #[.int .i32 (va : Int), .int .i32 (vb : Int), .int .i32 (vc : Int), .int .i32 (vd : Int), .int .u64 (k : Int), .int .i64 l] 80) = w1 := ⟨_, rfl⟩
  obtain ⟨qb, hqb⟩ : ∃ qb, w.heap.size = qb := ⟨_, rfl⟩
  have HW1 := hide' hw1
  have HQB := hide' hqb
  have B1 := hide' (show Below w.heap.size w w1 by rw [← hw1]; exact (Below.refl _ _).alloc (Nat.le_refl _) _)
  have A1 := hide' (h.keep B1.out)
  have X1 := hide' (show w1.heap[qb]? = some (.cells #[.int .i32 (va : Int), .int .i32 (vb : Int), .int .i32 (vc : Int), .int .i32 (vd : Int), .int .u64 (k : Int), .int .i64 l] 80 (0, 0)) by rw [← hw1, ← hqb]; exact heap_alloc_new _ _)
  have HB := hide' (Nat.le_trans hB B1.out.size)
  have HL := hide' hl
  have LN := hide' lt
  clear h hw t0 hz hk0 hva hvb hvc hvd hkk hll lt hw1 hqb hB hl
  go_enter Tryd.func38, Tryd.ntmps38
  go_upto_region 4 with fail
  rw [HW1.out, HQB.out]
  clear q0 q1 q2 q3 q4 q5 m0 m2 nt s0
  have x4 := cell_of_row w1 qb 4 _ _ _ X1.out
  have m1 := cell_of_row w1 mb 1 _ _ _ A1.out.mov
  have m2 := cell_of_row w1 mb 2 _ _ _ A1.out.mov
  simp at x4 m1 m2
  go_upto_region 5 with fail
  have EC := hide' (eight_stk ts Bt gt ct rs k w1.drew A1.out.too.drewS HB.out HL.out)
  go_region_with (go_at_call 39; refine EC.out.mono ?_; rintro e w4 ⟨g', cap', rs', t', rfl, hs, he, hk⟩; have y2 : w4.cell? ⟨mb, 2, none⟩ = some (.slice (some ⟨nb, 0, none⟩) N N) := (World.cell?_of_block (a := ⟨mb, 2, none⟩) (hk.keep mb (lt_of_block A1.out.mov) A1.out.apart.1.1 A1.out.apart.1.2.1)).trans m2; have hnb := (hk.keep nb (lt_of_block A1.out.num) A1.out.apart.2.2.2.1 A1.out.apart.2.2.2.2).trans A1.out.num; have y3 := (cell_of_row w4 nb t _ _ _ hnb).trans (arrF_get _ LN.out); have y4 := frozen_of_row w4 nb t _ _ hnb)
  all_goals
    have FIN := hide' (show MvP mb fs gf cf ts Bt gt nb N qs rs 0 t w (.returned (.int .i32 (t' : Int))) (w4.setCell ⟨nb, t, none⟩ (.int .i32 (t' : Int))) from by
      obtain ⟨ms, e1, e2⟩ := he.app
      have hv : ∀ x y, valQ rs' 0 t' x y = valQ qs 0 t x y := fun x y => by rw [he.val A1.out.too.st]; show _ = bitQ _ x y; rw [HKK.out.1]
      have kx : KpX (fun k => k = ts) gt g' w1 w4 := KpX.of_kps hk.drewL rfl
      exact ⟨g', cap', rs', _, t', rfl, A1.out.grown hs kx (fun k e => Or.inl e) e1 HT0.out HW.out (he.wf HKK.out.2.2) hv, ⟨ms, e1, e2⟩, he.wf HKK.out.2.2, hv, (KpX.of_below B1.out).trans ((show KpX (mvX ts nb) gt g' w1 w4 from kx.weak (fun k e => Or.inl e)).set (show mvX ts nb nb from Or.inr rfl) _)⟩)
    clear hs he hk hnb
    have a3 : ¬ mb = nb := A1.out.apart.1.2.2
    have a4 : ¬ nb = mb := fun e => A1.out.apart.1.2.2 e.symm
    go_wp2
    go_ret
    exact FIN.out
end Go.Proofs.YtelocgefaommmaaDoor

