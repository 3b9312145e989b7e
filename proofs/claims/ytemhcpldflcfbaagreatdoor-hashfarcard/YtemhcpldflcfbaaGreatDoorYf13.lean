/-
  What the last text of this claim leans on, part 13: Hc4, Hc5, Hc6.
-/
import Derived.Test.YtemhcpldflcfbaaGreatDoorYf12
namespace Go.Proofs.YtemhcpldflcfbaaGreatDoor
open Go.RowKit
set_option linter.unusedVariables false
structure KpX (X : Nat → Prop) (g g' : Nat) (V V' : World) : Prop where
 os : V'.os = V.os
 tape : V'.tape = V.tape
 output : V'.output = V.output
 size : V.heap.size ≤ V'.heap.size
 keep : ∀ k, k < V.heap.size → ¬ X k → k ≠ g → V'.heap[k]? = V.heap[k]?
 new : g' = g ∨ V.heap.size ≤ g'
theorem KpX.of_below {X : Nat → Prop} {g : Nat} {V V' : World} (h : Below V.heap.size V V') : KpX X g g V V' := ⟨h.os, h.tape, h.output, h.size, fun k hk _ _ => h.block k hk, Or.inl rfl⟩
theorem KpX.of_kps {X : Nat → Prop} {sb g g' : Nat} {V V' : World} {mp : Option (Nat × Nat)} (h : KpS sb g g' V V' mp) (hX : X sb) (hM : ∀ k, mpB mp k → X k) : KpX X g g' V V' := ⟨h.os, h.tape, h.output, h.size, fun k hk h1 h2 => h.keepM k hk (fun e => h1 (by rw [e]; exact hX)) h2 (fun e => h1 (hM k e)), h.new⟩
theorem KpX.trans {X : Nat → Prop} {g g' g'' : Nat} {V V' V'' : World} (h : KpX X g g' V V') (k : KpX X g' g'' V' V'') : KpX X g g'' V V'' :=
 ⟨k.os.trans h.os, k.tape.trans h.tape, k.output.trans h.output, Nat.le_trans h.size k.size, fun i hi h1 h2 => (k.keep i (Nat.lt_of_lt_of_le hi h.size) h1 (by rcases h.new with e | e <;> omega)).trans (h.keep i hi h1 h2), by rcases h.new with e | e <;> rcases k.new with f | f <;> first | (left; omega) | (right; have := h.size; omega)⟩
theorem KpX.weak {X Y : Nat → Prop} {g g' : Nat} {V V' : World} (h : KpX X g g' V V') (hXY : ∀ k, X k → Y k) : KpX Y g g' V V' := ⟨h.os, h.tape, h.output, h.size, fun k hk h1 h2 => h.keep k hk (fun e => h1 (hXY k e)) h2, h.new⟩
theorem KpX.set {X : Nat → Prop} {g g' q i : Nat} {V U : World} (h : KpX X g g' V U) (hq : X q) (v : Value) : KpX X g g' V (U.setCell ⟨q, i, none⟩ v) :=
 ⟨h.os, h.tape, h.output, by rw [World.size_setCell]; exact h.size, fun k hk h1 h2 => (Below.heap_setCell _ _ _ _ (fun e => h1 (by rw [show k = q from e]; exact hq))).trans (h.keep k hk h1 h2), h.new⟩
theorem KpX.drew {X : Nat → Prop} {g g' : Nat} {V U : World} (h : KpX X g g' V U) : KpX X g g' V U.drew := ⟨h.os, h.tape, h.output, h.size, h.keep, h.new⟩
def MemQ (qs rs : List Sq) (nu : Nat → Nat) : Prop := nu 0 = 0 ∧ ∀ i, nu i ≠ 0 → ∀ n, WFQ qs n i → WFQ rs n (nu i) ∧ ∀ x y, valQ rs n (nu i) x y = valQ qs n i x y
theorem MemQ.app {qs rs : List Sq} {nu : Nat → Nat} (h : MemQ qs rs nu) (hS : StQ rs) (ms : List Sq) : MemQ qs (rs ++ ms) nu := ⟨h.1, fun i hi n hw => by
 obtain ⟨a, b⟩ := h.2 i hi n hw
 exact ⟨a.app ms, fun x y => by rw [a.val hS ms]; exact b x y⟩⟩
theorem MemQ.put {qs rs : List Sq} {nu : Nat → Nat} (h : MemQ qs rs nu) {t t' n : Nat} (h0 : t ≠ 0) (hw : WFQ qs n t) (h1 : WFQ rs n t') (h2 : ∀ x y, valQ rs n t' x y = valQ qs n t x y) : MemQ qs rs (fun j => if j = t then t' else nu j) := ⟨by show (if 0 = t then t' else nu 0) = 0; rw [if_neg (fun e => h0 e.symm)]; exact h.1, fun i hi m hm => by
 show WFQ rs m (if i = t then t' else nu i) ∧ ∀ x y, valQ rs m (if i = t then t' else nu i) x y = _
 by_cases e : i = t
 ·subst e
  rw [if_pos rfl]
  obtain rfl := WFQ.level h0 hw hm
  exact ⟨h1, h2⟩
 ·rw [if_neg e]
  have hi' : nu i ≠ 0 := by simpa [e] using hi
  exact h.2 i hi' m hm⟩
structure MvA (mf mt : Option (Nat × Nat)) (w : World) (mb fs gf cf ts Bt gt ct nb N : Nat) (qs rs : List Sq) (nu : Nat → Nat) : Prop where
 mov : w.heap[mb]? = some (.cells #[.pointer (some ⟨fs, 0, none⟩), .pointer (some ⟨ts, 0, none⟩), .slice (some ⟨nb, 0, none⟩) N N] 160 (0, 0))
 frm : StkA w fs 0 gf cf qs mf
 too : StkA w ts Bt gt ct rs mt
 num : w.heap[nb]? = some (.cells (arrF N fun i => .int .i32 (nu i : Int)) 21 (0, 0))
 len : N = qs.length
 fb : (fs < Bt ∧ gf < Bt) ∧ ∀ k, mpB mf k → k < Bt
 mem : MemQ qs rs nu
def mvX (mt : Option (Nat × Nat)) (ts nb : Nat) (k : Nat) : Prop := k = ts ∨ k = nb ∨ mpB mt k
def knC (nu : Nat → Nat) : Nat → Nat
 | 0 => 0
 | n + 1 => knC nu n + if nu n = 0 then 0 else 1
theorem knC_le (nu : Nat → Nat) : ∀ n, knC nu n ≤ n
 | 0 => Nat.le_refl _
 | n + 1 => by have := knC_le nu n; show knC nu n + _ ≤ _; split <;> omega
theorem knC_put {nu : Nat → Nat} {t t' : Nat} (h0 : nu t = 0) (h1 : t' ≠ 0) : ∀ n, knC (fun j => if j = t then t' else nu j) n = knC nu n + if t < n then 1 else 0
 | 0 => rfl
 | n + 1 => by
  show knC (fun j => if j = t then t' else nu j) n + (if (if n = t then t' else nu n) = 0 then 0 else 1) = knC nu n + (if nu n = 0 then 0 else 1) + _
  rw [knC_put h0 h1 n]
  by_cases e : n = t
  ·subst e
   rw [if_pos rfl, if_neg h1, h0, if_pos rfl, if_neg (show ¬ n < n by omega), if_pos (show n < n + 1 by omega)]
  ·rw [if_neg e]
   by_cases q : t < n
   ·rw [if_pos q, if_pos (show t < n + 1 by omega)]; omega
   ·rw [if_neg q, if_neg (show ¬ t < n + 1 by omega)]; omega
def ChgQ (qs : List Sq) (n : Nat) (nu nu' : Nat → Nat) : Prop := ∀ i, nu' i ≠ nu i → i ≠ 0 ∧ ∃ m, m ≤ n ∧ WFQ qs m i
def MvP (mf mt : Option (Nat × Nat)) (mb fs gf cf ts Bt gt nb N R0 : Nat) (qs rs : List Sq) (nu : Nat → Nat) (n t : Nat) (w : World) (e : Ending) (w' : World) : Prop :=
 ∃ gt' ct' rs' nu' t', e = .returned (.int .i32 ((t' : Nat) : Int)) ∧ MvA mf mt w' mb fs gf cf ts Bt gt' ct' nb N qs rs' nu' ∧ ((∃ ms, rs' = rs ++ ms) ∧ rs'.length ≤ R0 + knC nu' N ∧ ChgQ qs n nu nu') ∧ WFQ rs' n t' ∧ (∀ x y, valQ rs' n t' x y = valQ qs n t x y) ∧ KpX (mvX mt ts nb) gt gt' w w'
theorem MvA.keep {mf mt : Option (Nat × Nat)} {w w' : World} {mb fs gf cf ts Bt gt ct nb N : Nat} {qs rs : List Sq} {nu : Nat → Nat} (h : MvA mf mt w mb fs gf cf ts Bt gt ct nb N qs rs nu) (b : Below w.heap.size w w') : MvA mf mt w' mb fs gf cf ts Bt gt ct nb N qs rs nu :=
 ⟨(b.block _ (lt_of_block h.mov)).trans h.mov, h.frm.below b, h.too.below b, (b.block _ (lt_of_block h.num)).trans h.num, h.len, h.fb, h.mem⟩
theorem MvA.apart {mf mt : Option (Nat × Nat)} {w : World} {mb fs gf cf ts Bt gt ct nb N : Nat} {qs rs : List Sq} {nu : Nat → Nat} (h : MvA mf mt w mb fs gf cf ts Bt gt ct nb N qs rs nu) : (mb ≠ ts ∧ mb ≠ gt ∧ mb ≠ nb) ∧ (fs ≠ ts ∧ fs ≠ gt ∧ fs ≠ nb) ∧ (gf ≠ ts ∧ gf ≠ gt ∧ gf ≠ nb) ∧ (nb ≠ ts ∧ nb ≠ gt) := by
 have m1 := h.too.ne_four h.mov (by decide) (by decide)
 have m2 := h.too.ne_four h.num (by decide) (by decide)
 have m3 := h.frm.ne_four h.num (by decide) (by decide)
 have l1 := h.too.le
 have l2 := h.too.rowB.1
 have l3 := h.fb.1
 refine ⟨⟨m1.1, m1.2, ?_⟩, ⟨by omega, by omega, fun e => m3.1 e.symm⟩, ⟨by omega, by omega, fun e => m3.2 e.symm⟩, m2⟩
 intro e
 have := h.mov
 rw [e, h.num] at this
 injection this with this
 injection this with _ this
 cases this
set_option maxRecDepth 100000 in
set_option maxHeartbeats 3200000 in
theorem move_known {mf mt : Option (Nat × Nat)} (mb fs gf cf ts Bt gt ct nb N R0 : Nat) (qs rs : List Sq) (nu : Nat → Nat) (n t : Nat) (w : World) (h : MvA mf mt w mb fs gf cf ts Bt gt ct nb N qs rs nu) (hw : WFQ qs n t) (t0 : t ≠ 0) (hk : nu t ≠ 0) (hR : rs.length ≤ R0 + knC nu N) :
  Calls Tryz.prog 85 #[.pointer (some ⟨mb, 0, none⟩), .int .i32 (t : Int)] w (MvP mf mt mb fs gf cf ts Bt gt nb N R0 qs rs nu n t w) := by
 have HK := hide' h
 have lt := hw.lt h.frm.st
 rw [← h.len] at lt
 have m2 := cell_of_row w mb 2 _ _ _ h.mov
 have nt := (cell_of_row w nb t _ _ _ h.num).trans (arrF_get _ lt)
 simp at m2
 obtain ⟨v, hv⟩ : ∃ v, nu t = v := ⟨_, rfl⟩
 rw [hv] at nt
 have z0 : ((t : Int) == 0) = false := by simp; omega
 have z1 : ((v : Int) != 0) = true := by simp; omega
 have l1 : (t : Int) < (N : Int) := by omega
 have FIN := hide' (show MvP mf mt mb fs gf cf ts Bt gt nb N R0 qs rs nu n t w (.returned (.int .i32 (v : Int))) w from by
  have := h.mem.2 t hk n hw
  rw [hv] at this
  exact ⟨gt, ct, rs, nu, v, rfl, h, ⟨⟨[], by simp⟩, hR, fun i q => absurd rfl q⟩, this.1, this.2, KpX.of_below (Below.refl _ _)⟩)
 clear h hw t0 hk hv lt hR
 go_enter Tryz.func85, Tryz.ntmps85
 go_wp2
 go_ret
 exact FIN.out
set_option maxRecDepth 100000 in
set_option maxHeartbeats 3200000 in
theorem move_zero {mf mt : Option (Nat × Nat)} (mb fs gf cf ts Bt gt ct nb N R0 : Nat) (qs rs : List Sq) (nu : Nat → Nat) (n : Nat) (w : World) (h : MvA mf mt w mb fs gf cf ts Bt gt ct nb N qs rs nu) (hR : rs.length ≤ R0 + knC nu N) :
  Calls Tryz.prog 85 #[.pointer (some ⟨mb, 0, none⟩), .int .i32 0] w (MvP mf mt mb fs gf cf ts Bt gt nb N R0 qs rs nu n 0 w) := by
 have lt : 0 < N := by rw [h.len]; exact h.frm.st.1
 have m2 := cell_of_row w mb 2 _ _ _ h.mov
 have nt := (cell_of_row w nb 0 _ _ _ h.num).trans (arrF_get _ lt)
 rw [h.mem.1] at nt
 simp at m2 nt
 have l1 : (0 : Int) < (N : Int) := by omega
 have FIN := hide' (show MvP mf mt mb fs gf cf ts Bt gt nb N R0 qs rs nu n 0 w (.returned (.int .i32 0)) w from
  ⟨gt, ct, rs, nu, 0, rfl, h, ⟨⟨[], by simp⟩, hR, fun i q => absurd rfl q⟩, WFQ.nil _ _, fun x y => by rw [val_nil h.too.st, val_nil h.frm.st], KpX.of_below (Below.refl _ _)⟩)
 clear h lt hR
 go_enter Tryz.func85, Tryz.ntmps85
 go_wp2
 go_ret
 exact FIN.out
theorem JoinQ.grows {qs qs' : List Sq} {a b c d t : Nat} (h : JoinQ qs a b c d qs' t) (hS : StQ qs) : qs'.length ≤ qs.length + if t = 0 then 0 else 1 := by
 have := hS.1
 rcases h with ⟨_, _, _, _, rfl, rfl⟩ | ⟨_, rfl, l, rfl⟩ | ⟨_, t0, _, rfl, _⟩
 ·rw [if_pos rfl]; omega
 ·rw [if_neg (by omega)]; simp
 ·omega
theorem EightQ.grows {qs qs' : List Sq} {k t : Nat} (h : EightQ qs k qs' t) (hS : StQ qs) : qs'.length ≤ qs.length + if t = 0 then 0 else 1 := by
 have := hS.1
 rcases h with ⟨_, rfl, rfl⟩ | ⟨_, rfl, l, rfl⟩ | ⟨_, t0, _, rfl, _⟩
 ·rw [if_pos rfl]; omega
 ·rw [if_neg (by omega)]; simp
 ·omega
theorem count_put {nu : Nat → Nat} {t t' N R0 r r' : Nat} (h0 : nu t = 0) (ht : t < N) (hr : r ≤ R0 + knC nu N) (hr' : r' ≤ r + if t' = 0 then 0 else 1) : r' ≤ R0 + knC (fun j => if j = t then t' else nu j) N := by
 by_cases e : t' = 0
 ·subst e
  have q : (fun j => if j = t then 0 else nu j) = nu := by
   funext j
   by_cases e : j = t
   ·rw [if_pos e, e, h0]
   ·rw [if_neg e]
  rw [q]
  rw [if_pos rfl] at hr'
  omega
 ·rw [knC_put h0 e, if_pos ht]
  rw [if_neg e] at hr'
  omega
theorem MvA.grown {mf mt : Option (Nat × Nat)} {w w4 : World} {mb fs gf cf ts Bt gt ct nb N : Nat} {qs rs : List Sq} {nu : Nat → Nat} (h : MvA mf mt w mb fs gf cf ts Bt gt ct nb N qs rs nu) {X : Nat → Prop} {g' cap' : Nat} {rs' ms : List Sq} {n t t' : Nat} (hs : StkA w4 ts Bt g' cap' rs' mt) (hk : KpX X gt g' w w4) (hX : ∀ k, X k → k = ts ∨ mpB mt k) (he : rs' = rs ++ ms) (t0 : t ≠ 0) (hw : WFQ qs n t) (w1 : WFQ rs' n t') (w2 : ∀ x y, valQ rs' n t' x y = valQ qs n t x y) :
  MvA mf mt (w4.setCell ⟨nb, t, none⟩ (.int .i32 (t' : Int))) mb fs gf cf ts Bt g' cap' nb N qs rs' (fun j => if j = t then t' else nu j) := by
 obtain ⟨⟨a1, a2, a3⟩, ⟨b1, b2, b3⟩, ⟨c1, c2, c3⟩, d1, d2⟩ := h.apart
 obtain ⟨-, -, cur, ec, -, -⟩ := h.frm.rowB
 have km := hk.keep mb (lt_of_block h.mov) (fun e => by rcases hX _ e with e | e; exact a1 e; exact h.too.nomap h.mov e) a2
 have kn := hk.keep nb (lt_of_block h.num) (fun e => by rcases hX _ e with e | e; exact d1 e; exact h.too.nomap h.num e) d2
 have kf := hk.keep fs h.frm.lt.1 (fun e => by rcases hX _ e with e | e; exact b1 e; exact h.too.nomap h.frm.blkM e) b2
 have kg := hk.keep gf h.frm.lt.2 (fun e => by rcases hX _ e with e | e; exact c1 e; exact h.too.nomap ec e) c2
 have kq : ∀ k, mpB mf k → w4.heap[k]? = w.heap[k]? := fun k q => hk.keep k (h.frm.map.lt q) (fun e => by
  have l1 := h.fb.2 k q
  rcases hX _ e with e | e
  ·have := h.too.le; omega
  ·have := h.too.map.ge e; omega) (fun e => by have l1 := h.fb.2 k q; have := h.too.rowB.1; omega)
 have n4 := kn.trans h.num
 have nn := hs.ne_four n4 (by decide) (by decide)
 refine ⟨(Below.heap_setCell _ _ _ _ a3).trans (km.trans h.mov), (h.frm.keepM kf kg kq).setM (fun e => b3 e.symm) (fun e => c3 e.symm) (h.frm.nomap h.num) _, hs.setM nn.1 nn.2 (hs.nomap n4) _, ?_, h.len, h.fb, ?_⟩
 ·rw [heap_setCell_same _ _ _ _ _ _ n4, arrF_set]
  congr 2
  exact arrF_ext fun k _ => by by_cases e : k = t <;> simp [e]
 ·have m := h.mem.app h.too.st ms
  rw [← he] at m
  exact m.put t0 hw w1 w2
set_option maxRecDepth 100000 in
set_option maxHeartbeats 12800000 in
theorem move_eight {mf mt : Option (Nat × Nat)} (mb fs gf cf ts Bt gt ct nb N R0 : Nat) (qs rs : List Sq) (nu : Nat → Nat) (t : Nat) (w : World) (h : MvA mf mt w mb fs gf cf ts Bt gt ct nb N qs rs nu) (hB : Bt ≤ w.heap.size) (hR : rs.length ≤ R0 + knC nu N) (hRN : R0 + N ≤ 2000000) (hw : WFQ qs 0 t) (t0 : t ≠ 0) (hz : nu t = 0) :
  Calls Tryz.prog 85 #[.pointer (some ⟨mb, 0, none⟩), .int .i32 (t : Int)] w (MvP mf mt mb fs gf cf ts Bt gt nb N R0 qs rs nu 0 t w) := by
 have HK := hide' h
 have HZ := hide' hz
 have HRR := hide' hR
 have hl : rs.length ≤ 2000000 := by have := knC_le nu N; omega
 have HW := hide' hw
 have HT0 := hide' t0
 have lt := hw.lt h.frm.st
 have LT := hide' lt
 obtain ⟨q0, q1, q2, q3, q4, q5⟩ := h.frm.cells lt
 have hk0 : (sqA qs t).k ≠ 0 ∧ (sqA qs t).k < 2 ^ 64 := by
  rcases hw with e | e
  ·exact absurd e t0
  ·exact e.2
 obtain ⟨va, hva⟩ : ∃ v, (sqA qs t).a = v := ⟨_, rfl⟩
 obtain ⟨vb, hvb⟩ : ∃ v, (sqA qs t).b = v := ⟨_, rfl⟩
 obtain ⟨vc, hvc⟩ : ∃ v, (sqA qs t).c = v := ⟨_, rfl⟩
 obtain ⟨vd, hvd⟩ : ∃ v, (sqA qs t).d = v := ⟨_, rfl⟩
 obtain ⟨k, hkk⟩ : ∃ v, (sqA qs t).k = v := ⟨_, rfl⟩
 obtain ⟨l, hll⟩ : ∃ v, (sqA qs t).l = v := ⟨_, rfl⟩
 rw [hva] at q0
 rw [hvb] at q1
 rw [hvc] at q2
 rw [hvd] at q3
 rw [hkk] at q4 hk0
 rw [hll] at q5
 have HKK := hide' (And.intro hkk hk0)
 have m0 := cell_of_row w mb 0 _ _ _ h.mov
 have m2 := cell_of_row w mb 2 _ _ _ h.mov
 rw [← h.len] at lt
 have nt := (cell_of_row w nb t _ _ _ h.num).trans (arrF_get _ lt)
 have s0 := h.frm.c0
 rw [← h.len] at s0
 rw [hz] at nt
 simp at m0 m2 nt
 have z0 : ((t : Int) == 0) = false := by simp; omega
 have z1 : ((k : Int) != 0) = true := by simp; omega
 have l1 : (t : Int) < (N : Int) := by omega
 obtain ⟨w1, hw1⟩ : ∃ w1, w.alloc (.cells #[.int .i32 (va : Int), .int .i32 (vb : Int), .int .i32 (vc : Int), .int .i32 (vd : Int), .int .u64 (k : Int), .int .i64 l] 90) = w1 := ⟨_, rfl⟩
 obtain ⟨qb, hqb⟩ : ∃ qb, w.heap.size = qb := ⟨_, rfl⟩
 have HW1 := hide' hw1
 have HQB := hide' hqb
 have B1 := hide' (show Below w.heap.size w w1 by rw [← hw1]; exact (Below.refl _ _).alloc (Nat.le_refl _) _)
 have A1 := hide' (h.keep B1.out)
 have X1 := hide' (show w1.heap[qb]? = some (.cells #[.int .i32 (va : Int), .int .i32 (vb : Int), .int .i32 (vc : Int), .int .i32 (vd : Int), .int .u64 (k : Int), .int .i64 l] 90 (0, 0)) by rw [← hw1, ← hqb]; exact heap_alloc_new _ _)
 have HB := hide' (Nat.le_trans hB B1.out.size)
 have HL := hide' hl
 have LN := hide' lt
 clear h hw t0 hz hk0 hva hvb hvc hvd hkk hll lt hw1 hqb hB hl hR hRN
 go_enter Tryz.func85, Tryz.ntmps85
 go_upto_region 4 with fail
 rw [HW1.out, HQB.out]
 clear q0 q1 q2 q3 q4 q5 m0 m2 nt s0
 have x4 := cell_of_row w1 qb 4 _ _ _ X1.out
 have m1 := cell_of_row w1 mb 1 _ _ _ A1.out.mov
 have m2 := cell_of_row w1 mb 2 _ _ _ A1.out.mov
 simp at x4 m1 m2
 go_upto_region 5 with fail
 have EC := hide' (eight_stkM mt ts Bt gt ct rs k w1.drew A1.out.too.drewS HB.out HL.out HKK.out.2.2)
 go_region_with (go_at_call 90; refine EC.out.mono ?_; rintro e w4 ⟨g', cap', rs', t', rfl, hs, he, hk⟩; have y2 : w4.cell? ⟨mb, 2, none⟩ = some (.slice (some ⟨nb, 0, none⟩) N N) := (World.cell?_of_block (a := ⟨mb, 2, none⟩) (hk.keepM mb (lt_of_block A1.out.mov) A1.out.apart.1.1 A1.out.apart.1.2.1 (A1.out.too.nomap A1.out.mov))).trans m2; have hnb := (hk.keepM nb (lt_of_block A1.out.num) A1.out.apart.2.2.2.1 A1.out.apart.2.2.2.2 (A1.out.too.nomap A1.out.num)).trans A1.out.num; have y3 := (cell_of_row w4 nb t _ _ _ hnb).trans (arrF_get _ LN.out); have y4 := frozen_of_row w4 nb t _ _ hnb)
 all_goals
  have FIN := hide' (show MvP mf mt mb fs gf cf ts Bt gt nb N R0 qs rs nu 0 t w (.returned (.int .i32 (t' : Int))) (w4.setCell ⟨nb, t, none⟩ (.int .i32 (t' : Int))) from by
   obtain ⟨ms, e1, e2⟩ := he.app
   have hv : ∀ x y, valQ rs' 0 t' x y = valQ qs 0 t x y := fun x y => by rw [he.val A1.out.too.st]; show _ = bitQ _ x y; rw [HKK.out.1]
   have kx : KpX (fun k => k = ts ∨ mpB mt k) gt g' w1 w4 := KpX.of_kps hk.drewL (Or.inl rfl) (fun k e => Or.inr e)
   exact ⟨g', cap', rs', _, t', rfl, A1.out.grown hs kx (fun k e => e) e1 HT0.out HW.out (he.wf HKK.out.2.2) hv, ⟨⟨ms, e1⟩, count_put HZ.out LN.out HRR.out (he.grows A1.out.too.st), fun i q => by
    by_cases e : i = t
    ·rw [e]; exact ⟨HT0.out, 0, Nat.le_refl _, HW.out⟩
    ·exact absurd (if_neg e) q⟩, he.wf HKK.out.2.2, hv, (KpX.of_below B1.out).trans ((show KpX (mvX mt ts nb) gt g' w1 w4 from kx.weak (fun k e => by rcases e with e | e; exact Or.inl e; exact Or.inr (Or.inr e))).set (show mvX mt ts nb nb from Or.inr (Or.inl rfl)) _)⟩)
  clear hs he hk hnb
  have a3 : ¬ mb = nb := A1.out.apart.1.2.2
  have a4 : ¬ nb = mb := fun e => A1.out.apart.1.2.2 e.symm
  go_wp2
  go_ret
  exact FIN.out
def MoveC (n : Nat) : Prop := ∀ (mf mt : Option (Nat × Nat)) (mb fs gf cf ts Bt gt ct nb N R0 : Nat) (qs rs : List Sq) (nu : Nat → Nat) (t : Nat) (w : World), MvA mf mt w mb fs gf cf ts Bt gt ct nb N qs rs nu → Bt ≤ w.heap.size → rs.length ≤ R0 + knC nu N → R0 + N ≤ 2000000 → WFQ qs n t →
  Calls Tryz.prog 85 #[.pointer (some ⟨mb, 0, none⟩), .int .i32 (t : Int)] w (MvP mf mt mb fs gf cf ts Bt gt nb N R0 qs rs nu n t w)
theorem MvA.lts {mf mt : Option (Nat × Nat)} {w : World} {mb fs gf cf ts Bt gt ct nb N : Nat} {qs rs : List Sq} {nu : Nat → Nat} (h : MvA mf mt w mb fs gf cf ts Bt gt ct nb N qs rs nu) : (mb < w.heap.size ∧ nb < w.heap.size) ∧ (fs < w.heap.size ∧ gf < w.heap.size) ∧ (ts < w.heap.size ∧ gt < w.heap.size) := ⟨⟨lt_of_block h.mov, lt_of_block h.num⟩, h.frm.lt, h.too.lt⟩
theorem MvA.setq {mf mt : Option (Nat × Nat)} {w : World} {mb fs gf cf ts Bt gt ct nb N : Nat} {qs rs : List Sq} {nu : Nat → Nat} (h : MvA mf mt w mb fs gf cf ts Bt gt ct nb N qs rs nu) {q i : Nat} (h1 : q ≠ mb) (h2 : q ≠ nb) (h3 : q ≠ fs) (h4 : q ≠ gf) (h5 : q ≠ ts) (h6 : q ≠ gt) (h7 : ¬ mpB mf q) (h8 : ¬ mpB mt q) (v : Value) : MvA mf mt (w.setCell ⟨q, i, none⟩ v) mb fs gf cf ts Bt gt ct nb N qs rs nu :=
 ⟨(Below.heap_setCell _ _ _ _ (fun e => h1 e.symm)).trans h.mov, h.frm.setM h3 h4 h7 v, h.too.setM h5 h6 h8 v, (Below.heap_setCell _ _ _ _ (fun e => h2 e.symm)).trans h.num, h.len, h.fb, h.mem⟩
theorem six_set {p : Nat → Nat} {i v : Nat} (hi : i < 4) (a b : Value) : (#[Value.int .i32 (p 0 : Int), .int .i32 (p 1 : Int), .int .i32 (p 2 : Int), .int .i32 (p 3 : Int), a, b]).setIfInBounds i (.int .i32 (v : Int)) = #[.int .i32 (((fun j => if j = i then v else p j) 0 : Nat) : Int), .int .i32 (((fun j => if j = i then v else p j) 1 : Nat) : Int), .int .i32 (((fun j => if j = i then v else p j) 2 : Nat) : Int), .int .i32 (((fun j => if j = i then v else p j) 3 : Nat) : Int), a, b] := by
 have : i = 0 ∨ i = 1 ∨ i = 2 ∨ i = 3 := by omega
 rcases this with rfl | rfl | rfl | rfl <;> rfl
theorem six_get {p : Nat → Nat} {i : Nat} (hi : i < 4) (a b : Value) : (#[Value.int .i32 (p 0 : Int), .int .i32 (p 1 : Int), .int .i32 (p 2 : Int), .int .i32 (p 3 : Int), a, b])[i]? = some (.int .i32 (p i : Int)) := by
 have : i = 0 ∨ i = 1 ∨ i = 2 ∨ i = 3 := by omega
 rcases this with rfl | rfl | rfl | rfl <;> rfl
def mvY (mt : Option (Nat × Nat)) (ts nb qb : Nat) (k : Nat) : Prop := k = ts ∨ k = nb ∨ k = qb ∨ mpB mt k
set_option maxRecDepth 100000 in
set_option maxHeartbeats 12800000 in
theorem move_four {mf mt : Option (Nat × Nat)} (n : Nat) (ih : MoveC n) (mb fs gf cf ts Bt gt ct nb N R0 : Nat) (qs rs : List Sq) (nu : Nat → Nat) (t : Nat) (w : World) (h : MvA mf mt w mb fs gf cf ts Bt gt ct nb N qs rs nu) (hB : Bt ≤ w.heap.size) (hR : rs.length ≤ R0 + knC nu N) (hRN : R0 + N ≤ 2000000) (hw : WFQ qs (n + 1) t) (t0 : t ≠ 0) (hz : nu t = 0) :
  Calls Tryz.prog 85 #[.pointer (some ⟨mb, 0, none⟩), .int .i32 (t : Int)] w (MvP mf mt mb fs gf cf ts Bt gt nb N R0 qs rs nu (n + 1) t w) := by
 have HK := hide' h
 have HW := hide' hw
 have HT0 := hide' t0
 have HZ0 := hide' hz
 have lt := hw.lt h.frm.st
 obtain ⟨q0, q1, q2, q3, q4, q5⟩ := h.frm.cells lt
 have hk0 : (sqA qs t).k = 0 := by
  rcases hw with e | e
  ·exact absurd e t0
  ·exact e.2.1
 obtain ⟨p0, hp0⟩ : ∃ v, (sqA qs t).a = v := ⟨_, rfl⟩
 obtain ⟨p1, hp1⟩ : ∃ v, (sqA qs t).b = v := ⟨_, rfl⟩
 obtain ⟨p2, hp2⟩ : ∃ v, (sqA qs t).c = v := ⟨_, rfl⟩
 obtain ⟨p3, hp3⟩ : ∃ v, (sqA qs t).d = v := ⟨_, rfl⟩
 obtain ⟨l, hll⟩ : ∃ v, (sqA qs t).l = v := ⟨_, rfl⟩
 rw [hp0] at q0
 rw [hp1] at q1
 rw [hp2] at q2
 rw [hp3] at q3
 rw [hk0] at q4
 rw [hll] at q5
 have HPP := hide' (And.intro hp0 (And.intro hp1 (And.intro hp2 hp3)))
 have m0 := cell_of_row w mb 0 _ _ _ h.mov
 have m2 := cell_of_row w mb 2 _ _ _ h.mov
 rw [← h.len] at lt
 have nt := (cell_of_row w nb t _ _ _ h.num).trans (arrF_get _ lt)
 have s0 := h.frm.c0
 rw [← h.len] at s0
 rw [hz] at nt
 simp at m0 m2 nt q4
 have z0 : ((t : Int) == 0) = false := by simp; omega
 have l1 : (t : Int) < (N : Int) := by omega
 obtain ⟨w1, hw1⟩ : ∃ w1, w.alloc (.cells #[.int .i32 (p0 : Int), .int .i32 (p1 : Int), .int .i32 (p2 : Int), .int .i32 (p3 : Int), .int .u64 0, .int .i64 l] 90) = w1 := ⟨_, rfl⟩
 obtain ⟨qb, hqb⟩ : ∃ qb, w.heap.size = qb := ⟨_, rfl⟩
 have HW1 := hide' hw1
 have HQB := hide' hqb
 have Z1 := hide' (show w1.heap.size = qb + 1 by rw [← hw1, ← hqb]; simp)
 have B1 := hide' (show Below w.heap.size w w1 by rw [← hw1]; exact (Below.refl _ _).alloc (Nat.le_refl _) _)
 have A1 := hide' (h.keep B1.out)
 have X1 := hide' (show w1.heap[qb]? = some (.cells #[.int .i32 (p0 : Int), .int .i32 (p1 : Int), .int .i32 (p2 : Int), .int .i32 (p3 : Int), .int .u64 0, .int .i64 l] 90 (0, 0)) by rw [← hw1, ← hqb]; exact heap_alloc_new _ _)
 have HB := hide' (Nat.le_trans hB B1.out.size)
 have HL := hide' (And.intro hR hRN)
 have LN := hide' lt
 have LTS := hide' h.lts
 have IX := hide' (fun (i : Nat) (hi : i < 4) (V : World) => index_p4 (a := p0) (b := p1) (c := p2) (d := p3) hi V)
 clear h hw t0 hz hk0 hp0 hp1 hp2 hp3 hll lt hw1 hqb hB hR hRN
 go_enter Tryz.func85, Tryz.ntmps85
 go_upto_region 4 with fail
 rw [HW1.out, HQB.out]
 clear q0 q1 q2 q3 q4 q5 m0 m2 nt s0
 have x0 := cell_of_row w1 qb 0 _ _ _ X1.out
 have x1 := cell_of_row w1 qb 1 _ _ _ X1.out
 have x2 := cell_of_row w1 qb 2 _ _ _ X1.out
 have x3 := cell_of_row w1 qb 3 _ _ _ X1.out
 have x4 := cell_of_row w1 qb 4 _ _ _ X1.out
 simp at x0 x1 x2 x3 x4
 go_wp2
 clear x0 x1 x2 x3 x4
 go_loopw [62] (fun iv wr => ∃ (i : Nat) (p : Nat → Nat) (g' cap' : Nat) (rs' : List Sq) (nu' : Nat → Nat), iv = .int .i64 (i : Int) ∧ i ≤ 4 ∧ Hid (MvA mf mt wr mb fs gf cf ts Bt g' cap' nb N qs rs' nu') ∧ Hid ((∃ ms, rs' = rs ++ ms) ∧ rs'.length ≤ R0 + knC nu' N ∧ ChgQ qs n nu nu') ∧ Hid (wr.heap[qb]? = some (.cells #[.int .i32 (p 0 : Int), .int .i32 (p 1 : Int), .int .i32 (p 2 : Int), .int .i32 (p 3 : Int), .int .u64 0, .int .i64 l] 90 (0, 0))) ∧ Hid (∀ j, j < 4 → (j < i → WFQ rs' n (p j) ∧ ∀ x y, valQ rs' n (p j) x y = valQ qs n (p4 p0 p1 p2 p3 j) x y) ∧ (i ≤ j → p j = p4 p0 p1 p2 p3 j)) ∧ Hid (KpX (mvY mt ts nb qb) gt g' w1 wr)) (fun iv _ => 4 - (intOf iv).toNat)
 case atStart => exact ⟨0, p4 p0 p1 p2 p3, gt, ct, rs, nu, rfl, by omega, A1, hide' ⟨⟨[], by simp⟩, HL.out.1, fun i q => absurd rfl q⟩, X1, hide' (fun j hj => ⟨fun h => absurd h (by omega), fun _ => rfl⟩), hide' (KpX.of_below (Below.refl _ _))⟩
 case round =>
  obtain ⟨i, p, g', cap', rs', nu', rfl, hi, KR, HMS, HG, HLY, HKP⟩ := hrel
  have GN := hide' (show g' ≠ qb by have := HKP.out.new; have := Z1.out; have := LTS.out.2.2.2; have := HQB.out; omega)
  by_cases di : i < 4
  ·have d1 : (i : Int) < 4 := by omega
   have ix := IX.out i di
   obtain ⟨pt, hpt⟩ : ∃ t, p4 p0 p1 p2 p3 i = t := ⟨_, rfl⟩
   rw [hpt] at ix
   have HPT := hide' hpt
   clear hpt
   go_wp2_with fail
   have ws := HW.out.parts HK.out.frm.st
   have wpt : WFQ qs n pt := by
    rw [← HPT.out]; unfold p4
    rw [← HPP.out.1, ← HPP.out.2.1, ← HPP.out.2.2.1, ← HPP.out.2.2.2]
    split; exact ws.1; split; exact ws.2.1; split; exact ws.2.2.1; exact ws.2.2.2
   obtain ⟨⟨ms, ems⟩, lms, cms⟩ := HMS.out
   refine (ih mf mt mb fs gf cf ts Bt g' cap' nb N R0 qs rs' nu' pt wr KR.out (Nat.le_trans HB.out HKP.out.size) lms HL.out.2 wpt).mono ?_
   rintro e w4 ⟨g2, cap2, rs2, nu2, t2, rfl, hs, ⟨⟨m2, em2⟩, lm2, cm2⟩, hq, hv, hk⟩
   have szq : qb < wr.heap.size := lt_of_block HG.out
   have nmt := KR.out.too.nomap HG.out
   have nmf := KR.out.frm.nomap HG.out
   have gp := hk.keep qb szq (fun e => by
    have := LTS.out; have := HQB.out
    rcases e with e | e | e
    ·omega
    ·omega
    ·exact nmt e) (fun e => GN.out e.symm)
   have G4 := hide' (gp.trans HG.out)
   have g2n : g2 ≠ qb := by have := hk.new; have := GN.out; omega
   have f4 := frozen_of_row w4 qb i _ _ G4.out
   have r4 := (cell_of_row w4 qb i _ _ _ G4.out).trans (six_get di _ _)
   have N1 := hide' (show MvA mf mt (w4.setCell ⟨qb, i, none⟩ (.int .i32 (t2 : Int))) mb fs gf cf ts Bt g2 cap2 nb N qs rs2 nu2 from hs.setq (by have := LTS.out; have := HQB.out; omega) (by have := LTS.out; have := HQB.out; omega) (by have := LTS.out; have := HQB.out; omega) (by have := LTS.out; have := HQB.out; omega) (by have := LTS.out; have := HQB.out; omega) (fun e => g2n e.symm) nmf nmt _)
   have N2 := hide' (show (∃ ms, rs2 = rs ++ ms) ∧ rs2.length ≤ R0 + knC nu2 N ∧ ChgQ qs n nu nu2 from ⟨⟨ms ++ m2, by rw [em2, ems, List.append_assoc]⟩, lm2, fun i q => by
    by_cases e : nu2 i = nu' i
    ·exact cms i (by rw [← e]; exact q)
    ·exact cm2 i e⟩)
   have N3 := hide' (show (w4.setCell ⟨qb, i, none⟩ (.int .i32 (t2 : Int))).heap[qb]? = _ from (heap_setCell_same _ _ _ _ _ _ G4.out).trans (by rw [six_set di]))
   have N4 := hide' (show ∀ j, j < 4 → (j < i + 1 → WFQ rs2 n ((fun j => if j = i then t2 else p j) j) ∧ ∀ x y, valQ rs2 n ((fun j => if j = i then t2 else p j) j) x y = valQ qs n (p4 p0 p1 p2 p3 j) x y) ∧ (i + 1 ≤ j → (fun j => if j = i then t2 else p j) j = p4 p0 p1 p2 p3 j) from fun j hj => by
    by_cases e : j = i
    ·subst e
     refine ⟨fun _ => ?_, fun h => absurd h (by omega)⟩
     simp only [if_true]
     rw [HPT.out]
     exact ⟨hq, hv⟩
    ·simp only [if_neg e]
     refine ⟨fun h => ?_, fun h => (HLY.out j hj).2 (by omega)⟩
     obtain ⟨a1, a2⟩ := (HLY.out j hj).1 (by omega)
     rw [em2]
     exact ⟨a1.app m2, fun x y => by rw [a1.val KR.out.too.st]; exact a2 x y⟩)
   have N5 := hide' (show KpX (mvY mt ts nb qb) gt g2 w1 (w4.setCell ⟨qb, i, none⟩ (.int .i32 (t2 : Int))) from (HKP.out.trans (hk.weak (fun k e => by rcases e with e | e | e; exact Or.inl e; exact Or.inr (Or.inl e); exact Or.inr (Or.inr (Or.inr e))))).set (show mvY mt ts nb qb qb from Or.inr (Or.inr (Or.inl rfl))) _)
   clear gp hs hq hv hk em2 lm2 cm2 ems lms cms ws wpt szq g2n nmt nmf
   go_wp2
   exact ⟨⟨i + 1, _, g2, cap2, rs2, nu2, by go_num, by omega, N1, N2, N3, N4, N5⟩, by simp [intOf]; omega⟩
  ·have d1 : ¬ (i : Int) < 4 := by omega
   obtain rfl : i = 4 := by omega
   obtain ⟨v0, hv0⟩ : ∃ v, p 0 = v := ⟨_, rfl⟩
   obtain ⟨v1, hv1⟩ : ∃ v, p 1 = v := ⟨_, rfl⟩
   obtain ⟨v2, hv2⟩ : ∃ v, p 2 = v := ⟨_, rfl⟩
   obtain ⟨v3, hv3⟩ : ∃ v, p 3 = v := ⟨_, rfl⟩
   have L0 := hide' ((HLY.out 0 (by omega)).1 (by omega))
   have L1 := hide' ((HLY.out 1 (by omega)).1 (by omega))
   have L2 := hide' ((HLY.out 2 (by omega)).1 (by omega))
   have L3 := hide' ((HLY.out 3 (by omega)).1 (by omega))
   rw [hv0] at L0 HG
   rw [hv1] at L1 HG
   rw [hv2] at L2 HG
   rw [hv3] at L3 HG
   clear hv0 hv1 hv2 hv3
   have r0 := cell_of_row wr qb 0 _ _ _ HG.out
   have r1 := cell_of_row wr qb 1 _ _ _ HG.out
   have r2 := cell_of_row wr qb 2 _ _ _ HG.out
   have r3 := cell_of_row wr qb 3 _ _ _ HG.out
   have m1 := cell_of_row wr mb 1 _ _ _ KR.out.mov
   have m2 := cell_of_row wr mb 2 _ _ _ KR.out.mov
   simp at r0 r1 r2 r3 m1 m2
   obtain ⟨⟨ms, ems⟩, lms, cms⟩ := HMS.out
   have EM := hide' (And.intro ems (And.intro lms cms))
   have QL := hide' (show rs'.length ≤ 2000000 by
    have h1 := HL.out
    have := knC_le nu' N
    omega)
   have NT := hide' (show nu' t = 0 from Classical.byContradiction fun q => by
    obtain ⟨q0, m, hm, q1⟩ := cms t (by rw [HZ0.out]; exact q)
    have := WFQ.level q0 q1 HW.out
    omega)
   clear ems lms cms
   have EC := hide' (join_stkM mt ts Bt g' cap' rs' v0 v1 v2 v3 qb 4 wr.drew KR.out.too.drewS (Nat.le_trans HB.out HKP.out.size) QL.out (L0.out.1.lt KR.out.too.st) (L1.out.1.lt KR.out.too.st) (L2.out.1.lt KR.out.too.st) (L3.out.1.lt KR.out.too.st) r0 r1 r2 r3)
   go_upto_region 12 with fail
   go_region_with (go_at_call 84; refine EC.out.mono ?_; rintro e w4 ⟨g2, cap2, rs2, t2, rfl, hs, hj, hk⟩; have y2 : w4.cell? ⟨mb, 2, none⟩ = some (.slice (some ⟨nb, 0, none⟩) N N) := (World.cell?_of_block (a := ⟨mb, 2, none⟩) (hk.keepM mb (lt_of_block KR.out.mov) KR.out.apart.1.1 KR.out.apart.1.2.1 (KR.out.too.nomap KR.out.mov))).trans m2; have hnb := (hk.keepM nb (lt_of_block KR.out.num) KR.out.apart.2.2.2.1 KR.out.apart.2.2.2.2 (KR.out.too.nomap KR.out.num)).trans KR.out.num; have y3 := (cell_of_row w4 nb t _ _ _ hnb).trans (arrF_get _ LN.out); have y4 := frozen_of_row w4 nb t _ _ hnb)
   all_goals
    have FIN := hide' (show MvP mf mt mb fs gf cf ts Bt gt nb N R0 qs rs nu (n + 1) t w (.returned (.int .i32 (t2 : Int))) (w4.setCell ⟨nb, t, none⟩ (.int .i32 (t2 : Int))) from by
     obtain ⟨m2', e1, e2⟩ := hj.app
     have hv : ∀ x y, valQ rs2 (n + 1) t2 x y = valQ qs (n + 1) t x y := fun x y => by
      rw [hj.val KR.out.too.st L0.out.1 L1.out.1 L2.out.1 L3.out.1, val_step, L0.out.2, L1.out.2, L2.out.2, L3.out.2, HPP.out.1, HPP.out.2.1, HPP.out.2.2.1, HPP.out.2.2.2]
      rfl
     have hwf := hj.wf KR.out.too.st L0.out.1 L1.out.1 L2.out.1 L3.out.1
     have kx : KpX (fun k => k = ts ∨ mpB mt k) g' g2 wr w4 := KpX.of_kps hk.drewL (Or.inl rfl) (fun k e => Or.inr e)
     have ky : KpX (mvY mt ts nb qb) gt g2 w1 (w4.setCell ⟨nb, t, none⟩ (.int .i32 (t2 : Int))) := (HKP.out.trans (kx.weak (fun k e => by rcases e with e | e; exact Or.inl e; exact Or.inr (Or.inr (Or.inr e))))).set (show mvY mt ts nb qb nb from Or.inr (Or.inl rfl)) _
     refine ⟨g2, cap2, rs2, _, t2, rfl, KR.out.grown hs kx (fun k e => e) e1 HT0.out HW.out hwf hv, ⟨⟨ms ++ m2', by rw [e1, EM.out.1, List.append_assoc]⟩, count_put NT.out LN.out EM.out.2.1 (hj.grows KR.out.too.st), fun i q => ?_⟩, hwf, hv, ?_⟩
     ·by_cases e : i = t
      ·rw [e]; exact ⟨HT0.out, n + 1, Nat.le_refl _, HW.out⟩
      ·obtain ⟨q0, m, hm, q1⟩ := EM.out.2.2 i (by intro q2; exact q ((if_neg e).trans q2))
       exact ⟨q0, m, by omega, q1⟩
     refine ⟨ky.os.trans B1.out.os, ky.tape.trans B1.out.tape, ky.output.trans B1.out.output, Nat.le_trans B1.out.size ky.size, fun k hk1 hk2 hk3 => ?_, ?_⟩
     ·have := HQB.out
      exact (ky.keep k (by have := B1.out.size; omega) (fun e => by rcases e with e | e | e | e; exact hk2 (Or.inl e); exact hk2 (Or.inr (Or.inl e)); omega; exact hk2 (Or.inr (Or.inr e))) hk3).trans (B1.out.block k hk1)
     ·rcases ky.new with e | e
      ·exact Or.inl e
      ·exact Or.inr (Nat.le_trans B1.out.size e))
    clear hs hj hk hnb
    have a3 : ¬ mb = nb := KR.out.apart.1.2.2
    have a4 : ¬ nb = mb := fun e => KR.out.apart.1.2.2 e.symm
    go_wp2
    go_ret
    exact FIN.out
theorem move_any : ∀ n, MoveC n
 | 0 => by
  intro mf mt mb fs gf cf ts Bt gt ct nb N R0 qs rs nu t w h hB hR hRN hw
  by_cases t0 : t = 0
  ·subst t0; exact move_zero mb fs gf cf ts Bt gt ct nb N R0 qs rs nu 0 w h hR
  ·by_cases hz : nu t = 0
   ·exact move_eight mb fs gf cf ts Bt gt ct nb N R0 qs rs nu t w h hB hR hRN hw t0 hz
   ·exact move_known mb fs gf cf ts Bt gt ct nb N R0 qs rs nu 0 t w h hw t0 hz hR
 | n + 1 => by
  intro mf mt mb fs gf cf ts Bt gt ct nb N R0 qs rs nu t w h hB hR hRN hw
  by_cases t0 : t = 0
  ·subst t0; exact move_zero mb fs gf cf ts Bt gt ct nb N R0 qs rs nu (n + 1) w h hR
  ·by_cases hz : nu t = 0
   ·exact move_four n (move_any n) mb fs gf cf ts Bt gt ct nb N R0 qs rs nu t w h hB hR hRN hw t0 hz
   ·exact move_known mb fs gf cf ts Bt gt ct nb N R0 qs rs nu (n + 1) t w h hw t0 hz hR
end Go.Proofs.YtemhcpldflcfbaaGreatDoor
