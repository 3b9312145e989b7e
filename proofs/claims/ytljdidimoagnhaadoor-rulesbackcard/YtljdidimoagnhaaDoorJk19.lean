/-
  What the last text of this claim leans on, part 19: Qa2, Wb2, Wc1, Wj4.
-/
import Derived.Test.YtljdidimoagnhaaDoorJk17
import Derived.Test.YtljdidimoagnhaaDoorJk18
import Derived.Test.YtljdidimoagnhaaDoorJk16
namespace Go.Proofs.YtljdidimoagnhaaDoor
open Go.RowKit
set_option linter.unusedVariables false

structure RS (w wr : World) (P W H : Nat) (xs : List Int) : Prop where
  res : ResB w.heap.size wr
  non : ResB (w.heap.size + 1) wr
  p0 : wr.cell? ⟨P, 0, none⟩ = some (.int .i64 (W : Int))
  p1 : wr.cell? ⟨P, 1, none⟩ = some (.int .i64 (H : Int))
  p2 : wr.cell? ⟨P, 2, none⟩ = some (.slice (some ⟨P + 1, 0, none⟩) (W * H) (W * H))
  cel : Cel wr (P + 1) xs
  len : xs.length = W * H
  hP : w.heap.size + 2 ≤ P
  below : Below w.heap.size w wr
theorem RS.set {w wr : World} {P W H : Nat} {xs : List Int} (h : RS w wr P W H xs) (p : Nat) (x : Int) (hp : p < xs.length) : RS w (wr.setCell ⟨P + 1, p, none⟩ (.int .i64 x)) P W H (xs.set p x) := by
  have hP := h.hP
  refine ⟨h.res.block (Below.heap_setCell _ _ _ _ (by simp; omega)), h.non.block (Below.heap_setCell _ _ _ _ (by simp; omega)), ?_, ?_, ?_, h.cel.set p x hp, by rw [List.length_set]; exact h.len, hP, h.below.setCell (by simp; omega) _⟩
  · exact (World.cell?_of_block (w := wr) (a := ⟨P, 0, none⟩) (Below.heap_setCell _ _ _ _ (by simp))).trans h.p0
  · exact (World.cell?_of_block (w := wr) (a := ⟨P, 1, none⟩) (Below.heap_setCell _ _ _ _ (by simp))).trans h.p1
  · exact (World.cell?_of_block (w := wr) (a := ⟨P, 2, none⟩) (Below.heap_setCell _ _ _ _ (by simp))).trans h.p2

def zeros (xs : List Int) (p : Nat) : Prop := ∀ q, p ≤ q → xs.getD q 0 = 0
theorem zeros_mono {xs : List Int} {p p' : Nat} (h : zeros xs p) (hp : p ≤ p') : zeros xs p' := fun q hq => h q (by omega)
theorem zeros_replicate (n p : Nat) : zeros (List.replicate n 0) p := fun q _ => by
  simp [List.getD, List.getElem?_replicate]
  split <;> rfl
theorem setRun_zero {xs : List Int} {p : Nat} (h : zeros xs p) (n : Nat) : setRun xs p n 0 = xs := by
  induction n with
  | zero => rfl
  | succ n ih =>
    rw [setRun, ih]
    have := h (p + n) (by omega)
    apply List.ext_getElem?
    intro k
    rw [List.getElem?_set]
    split
    · rename_i e
      subst e
      split
      · rename_i hl
        simp [List.getD, hl] at this
        simp [this, hl]
      · rename_i hl
        rw [List.getElem?_eq_none (by omega)]
    · rfl
theorem setRun_zeros {xs : List Int} {p : Nat} (v : Int) : ∀ n, zeros xs (p + n) → zeros (setRun xs p n v) (p + n) := by
  intro n h q hq
  have : ∀ m, m ≤ n → (setRun xs p m v).getD q 0 = xs.getD q 0 := by
    intro m hm
    induction m with
    | zero => rfl
    | succ m ih =>
      rw [setRun]
      rw [← ih (by omega)]
      simp only [List.getD]
      rw [List.getElem?_set_ne (by omega)]
  rw [this n (Nat.le_refl _)]
  exact h q hq

def RefRuns (s : ByteArray) (w : World) (e : Ending) (w' : World) : Prop :=
  Below w.heap.size w w' ∧
  ((∃ W H xs g, runsS s = .inl (W, H, xs) ∧ e = .returned (.tuple #[.agg #[.int .i64 (W : Int), .int .i64 (H : Int), .slice (some ⟨g, 0, none⟩) (W * H) (W * H)], .int .i64 0, .int .i64 0]) ∧ Cel w' g xs ∧ xs.length = W * H ∧ W ≤ 100 ∧ H ≤ 100) ∨
   (∃ a f : Nat, runsS s = .inr (a, f) ∧ 1 ≤ f ∧ e = .returned (.tuple #[.agg #[.int .i64 0, .int .i64 0, .slice none 0 0], .int .i64 (a : Int), .int .i64 (f : Int)])))

/-- The result's block, written. -/
theorem fin_below {w wr : World} (hb : Below w.heap.size w wr) (a b c : Value) : Below w.heap.size w (((wr.setCell ⟨w.heap.size, 0, none⟩ a).setCell ⟨w.heap.size, 1, none⟩ b).setCell ⟨w.heap.size, 2, none⟩ c) :=
  ((hb.setCell (Nat.le_refl _) _).setCell (Nat.le_refl _) _).setCell (Nat.le_refl _) _
theorem fin_cel {w wr : World} {g : Nat} {xs : List Int} (h : Cel wr g xs) (hg : g ≠ w.heap.size) (a b c : Value) : Cel (((wr.setCell ⟨w.heap.size, 0, none⟩ a).setCell ⟨w.heap.size, 1, none⟩ b).setCell ⟨w.heap.size, 2, none⟩ c) g xs :=
  ((h.rd ((Rd.refl w.heap.size _).set 0 _) hg).rd ((Rd.refl w.heap.size _).set 1 _) hg).rd ((Rd.refl w.heap.size _).set 2 _) hg
theorem res_new (w : World) (t : TypeId) : ResB w.heap.size (w.alloc (.cells #[.int .i64 0, .int .i64 0, .slice none 0 0] t)) :=
  ⟨cell_new_at _ _ _ _, cell_new_at _ _ _ _, cell_new_at _ _ _ _, by simp, by simp, by simp⟩
theorem RS.start {w w1 : World} {W H : Nat} (t1 t2 t3 t4 : TypeId) (hW : W ≤ 100) (hH : H ≤ 100)
    (hb : Below (w.heap.size + 2) ((w.alloc (.cells #[.int .i64 0, .int .i64 0, .slice none 0 0] t1)).alloc (.cells #[.int .i64 0, .int .i64 0, .slice none 0 0] t2)) w1) (N : Nat) (hN : W * H = N) :
    RS w ((w1.alloc (.cells #[.int .i64 (W : Int), .int .i64 (H : Int), .slice (some ⟨w1.heap.size + 1, 0, none⟩) N N] t3)).alloc (.cells (madeCells #[.int .i64 0] N) t4)) w1.heap.size W H (List.replicate N 0) := by
  subst hN
  have z := hb.size
  simp at z
  have r0 := (res_new w t1).block (w' := (w.alloc (.cells #[.int .i64 0, .int .i64 0, .slice none 0 0] t1)).alloc (.cells #[.int .i64 0, .int .i64 0, .slice none 0 0] t2)) (Below.heap_alloc _ _ _ (by simp))
  have r1 := res_new (w.alloc (.cells #[.int .i64 0, .int .i64 0, .slice none 0 0] t1)) t2
  rw [show (w.alloc (.cells #[.int .i64 0, .int .i64 0, .slice none 0 0] t1)).heap.size = w.heap.size + 1 by simp] at r1
  have e : ∀ k, k < w1.heap.size → ((w1.alloc (.cells #[.int .i64 (W : Int), .int .i64 (H : Int), .slice (some ⟨w1.heap.size + 1, 0, none⟩) (W * H) (W * H)] t3)).alloc (.cells (madeCells #[.int .i64 0] (W * H)) t4)).heap[k]? = w1.heap[k]? := fun k hk =>
    (Below.heap_alloc _ _ _ (by simp; omega)).trans (Below.heap_alloc _ _ _ hk)
  refine ⟨(r0.block (hb.block _ (by omega))).block (e _ (by omega)), (r1.block (hb.block _ (by omega))).block (e _ (by omega)), ?_, ?_, ?_, ⟨by simp, fun k hk => ?_, fun k => by simp⟩, by simp, z, ?_⟩
  · rw [World.cell?_alloc_past _ _ _ (by simp), World.cell?_alloc_at _ _ _ _ rfl]; rfl
  · rw [World.cell?_alloc_past _ _ _ (by simp), World.cell?_alloc_at _ _ _ _ rfl]; rfl
  · rw [World.cell?_alloc_past _ _ _ (by simp), World.cell?_alloc_at _ _ _ _ rfl]; rfl
  · rw [World.cell?_alloc_at _ _ _ _ (by simp)]
    rw [List.length_replicate] at hk
    rw [show (List.replicate (W * H) (0 : Int)).getD k 0 = 0 by simp [List.getD, hk]]
    rw [← Array.getElem?_toList, toList_madeCells_one]
    simp [hk]
  · exact (((((Below.refl _ _).alloc (Nat.le_refl _) _).alloc (by simp) _).trans (hb.mono (by omega))).alloc (by omega) _).alloc (by simp; omega) _
end Go.Proofs.YtljdidimoagnhaaDoor

namespace Go.Proofs.YtljdidimoagnhaaDoor
open Go.RowKit
set_option linter.unusedVariables false

/-- Three values in a block. -/
structure TB (p : Nat) (a b c : Value) (w : World) : Prop where
  c0 : w.cell? ⟨p, 0, none⟩ = some a
  c1 : w.cell? ⟨p, 1, none⟩ = some b
  c2 : w.cell? ⟨p, 2, none⟩ = some c
  fz : ∀ k, w.frozen? ⟨p, k, none⟩ = false
theorem TB.lt {p : Nat} {a b c : Value} {w : World} (h : TB p a b c w) : p < w.heap.size := by
  rcases Nat.lt_or_ge p w.heap.size with k | k
  · exact k
  · have := h.c0; simp [World.cell?, Array.getElem?_eq_none k] at this
theorem TB.block {p : Nat} {a b c : Value} {w w' : World} (h : TB p a b c w) (e : w'.heap[p]? = w.heap[p]?) : TB p a b c w' :=
  ⟨(World.cell?_of_block (w := w) (a := ⟨p, 0, none⟩) e).trans h.c0, (World.cell?_of_block (w := w) (a := ⟨p, 1, none⟩) e).trans h.c1, (World.cell?_of_block (w := w) (a := ⟨p, 2, none⟩) e).trans h.c2, fun k => (World.frozen?_of_block (w := w) (a := ⟨p, k, none⟩) e).trans (h.fz k)⟩
theorem TB.next {p : Nat} {a b c : Value} {w w' : World} (h : TB p a b c w) (hb : Below w.heap.size w w') : TB p a b c w' := h.block (hb.block p h.lt)
theorem TB.alloc {p : Nat} {a b c : Value} {w : World} (h : TB p a b c w) (o : Obj) : TB p a b c (w.alloc o) := h.block (Below.heap_alloc _ _ _ h.lt)
theorem TB.new (w : World) (a b c : Value) (t : TypeId) : TB w.heap.size a b c (w.alloc (.cells #[a, b, c] t)) :=
  ⟨cell_new_at _ _ _ _, cell_new_at _ _ _ _, cell_new_at _ _ _ _, fun k => by simp⟩

/-- A turning's memory: the box, the result's block, the new pattern's block, its cells. -/
structure TW (w wr : World) (O g W H W' H' n k : Nat) (f : Nat → Nat) (xs : List Int) (a : Option Addr) (c : Nat) : Prop where
  box : TB w.heap.size (.int .i64 (W : Int)) (.int .i64 (H : Int)) (.slice a n c) wr
  res : TB (w.heap.size + 1) (.int .i64 0) (.int .i64 0) (.slice none 0 0) wr
  out : TB O (.int .i64 (W' : Int)) (.int .i64 (H' : Int)) (.slice (some ⟨g, 0, none⟩) n n) wr
  sc : ScJ w wr g n k f xs
  hg : w.heap.size + 2 ≤ g
  hO : g < O
theorem TW.step {w wr : World} {O g W H W' H' n k : Nat} {f : Nat → Nat} {xs : List Int} {a : Option Addr} {c : Nat} (h : TW w wr O g W H W' H' n k f xs a c) (m : Nat) (hk : f k < n) (hinj : ∀ i, i < k → f i ≠ f k) {x : Int} (hx : xs.getD k 0 = x) : TW w ((wr.drewN m).setCell ⟨g, f k, none⟩ (.int .i64 x)) O g W H W' H' n (k + 1) f xs a c := by
  have h1 := h.hg
  have h2 := h.hO
  exact ⟨(h.box.block rfl).block (Below.heap_setCell _ _ _ _ (by simp; omega)), (h.res.block rfl).block (Below.heap_setCell _ _ _ _ (by simp; omega)), (h.out.block rfl).block (Below.heap_setCell _ _ _ _ (by simp; omega)), (h.sc.drewN m).step hk hinj hx, h1, h2⟩

theorem TW.start {w w1 : World} {g W H W' H' n : Nat} {f : Nat → Nat} {xs ys : List Int} {a : Option Addr} {c : Nat} (t1 t2 t3 : TypeId) (hg : ((w.alloc (.cells #[.int .i64 (W : Int), .int .i64 (H : Int), .slice a n c] t1)).alloc (.cells #[.int .i64 0, .int .i64 0, .slice none 0 0] t2)).heap.size ≤ g)
    (hc : Cel w1 g ys) (hn : ys.length = n) (hb : Below ((w.alloc (.cells #[.int .i64 (W : Int), .int .i64 (H : Int), .slice a n c] t1)).alloc (.cells #[.int .i64 0, .int .i64 0, .slice none 0 0] t2)).heap.size ((w.alloc (.cells #[.int .i64 (W : Int), .int .i64 (H : Int), .slice a n c] t1)).alloc (.cells #[.int .i64 0, .int .i64 0, .slice none 0 0] t2)) w1) :
    TW w (w1.alloc (.cells #[.int .i64 (W' : Int), .int .i64 (H' : Int), .slice (some ⟨g, 0, none⟩) n n] t3)) w1.heap.size g W H W' H' n 0 f xs a c := by
  have r1 := TB.new (w.alloc (.cells #[.int .i64 (W : Int), .int .i64 (H : Int), .slice a n c] t1)) (.int .i64 0) (.int .i64 0) (.slice none 0 0) t2
  rw [World.size_alloc] at r1
  simp only [World.size_alloc] at hg hb
  have hz := hb.size
  simp only [World.size_alloc] at hz
  have hlt := hc.lt
  have BB : Below w.heap.size w (w1.alloc (.cells #[.int .i64 (W' : Int), .int .i64 (H' : Int), .slice (some ⟨g, 0, none⟩) n n] t3)) :=
    ((((Below.refl _ _).alloc (Nat.le_refl _) _).alloc (by simp) _).trans (hb.mono (by omega))).alloc (by omega) _
  exact ⟨(((TB.new w _ _ _ t1).alloc _).block (hb.block _ (by omega))).alloc _, (r1.block (hb.block _ (by omega))).alloc _, TB.new w1 _ _ _ t3, ScJ.start f xs ys BB (by omega) (hc.block (by simp) (Below.heap_alloc _ _ _ hlt)) hn, by omega, hlt⟩

set_option maxHeartbeats 1600000 in
theorem pmirrored (W H : Nat) (xs : List Int) (a : Option Addr) (n c : Nat) (w : World) (hP : ArgP w xs a n c) (lW : W ≤ 100) (lH : H ≤ 100) (hn : n = W * H) :
    Calls Tryd.prog 154 #[.agg #[.int .i64 (W : Int), .int .i64 (H : Int), .slice a n c]] w fun e w' => ∃ g, e = .returned (.agg #[.int .i64 (W : Int), .int .i64 (H : Int), .slice (some ⟨g, 0, none⟩) n n]) ∧ w.heap.size ≤ g ∧ Cel w' g (mirP W H xs) ∧ Below w.heap.size w w' := by
  have hN4 : n ≤ 10000 := by rw [hn]; exact Nat.mul_le_mul lW lH
  have HP := hide' hP
  have HL := hide' hP.len
  have HN := hide' hn
  clear hP hn
  go_enter Tryd.func154, Tryd.ntmps154
  go_wp2_with fail
  refine (pblank W H _ lW lH).mono ?_
  rw [← HN.out]
  rintro e w1 ⟨g, rfl, hg, C, b1⟩
  have T0 := hide' (TW.start (W' := W) (H' := H) (f := mirI W H) (xs := xs) 51 51 51 hg C (by simp) b1)
  obtain ⟨x0, x1, x2, -⟩ := T0.out.box
  clear hg C b1
  go_wp2
  go_loopw [16] (fun kv wr => ∃ k : Nat, kv = .int .i64 (k : Int) ∧ k ≤ n ∧ TW w wr w1.heap.size g W H W H n k (mirI W H) xs a c) (fun kv _ => n - (intOf kv).toNat)
  case atStart => exact ⟨0, rfl, by omega, T0.out⟩
  case round =>
    obtain ⟨k, rfl, hk, tw⟩ := hrel
    have T := hide' tw
    clear tw T0 x0 x1 x2
    by_cases d : (k : Int) < (n : Int)
    · have hkl : k < xs.length := by have := HL.out; omega
      have hkn : k < W * H := by rw [← HN.out]; omega
      obtain ⟨ga, off, rfl, hga, hc⟩ := (HP.out.below T.out.sc.below).cells k hkl
      obtain ⟨x, hx⟩ : ∃ x, xs[k] = x := ⟨_, rfl⟩
      rw [hx] at hc
      have HX := hide' (show xs.getD k 0 = x by rw [← hx]; simp [List.getD, hkl])
      have b0 := T.out.box.c0
      have o2 := T.out.out.c2
      have o0 := T.out.out.c0
      obtain ⟨X, Y, hX, hY, hXe, hYe, hs⟩ := split_lt hkn
      have hW0 : ¬ (W : Int) = 0 := by omega
      have q1 : (k : Int) / (W : Int) = (Y : Int) := by rw [← hYe]; simp
      have q2 : (k : Int) % (W : Int) = (X : Int) := by rw [← hXe]; simp
      obtain ⟨PP, hPP⟩ : ∃ PP, Y * W = PP := ⟨_, rfl⟩
      have q3 : (Y : Int) * (W : Int) = (PP : Int) := by rw [← hPP]; simp
      obtain ⟨Q, hQ⟩ : ∃ Q, Q = PP + (W - 1 - X) := ⟨_, rfl⟩
      have q4 : (PP : Int) + (W : Int) - 1 - (X : Int) = (Q : Int) := by omega
      have hQf : Q = mirI W H k := by unfold mirI; rw [hYe, hXe, hPP]; exact hQ
      have hQn : Q < n := by rw [hQf, HN.out]; exact mirI_lt hkn
      have hPk : PP ≤ k := by omega
      obtain ⟨v, hv, -⟩ := T.out.sc.cells Q hQn
      have hf := T.out.sc.fz Q
      have HQ := hide' hQf
      have INJ := hide' (show ∀ i, i < k → mirI W H i ≠ mirI W H k from fun i hi he => by
        have h1 := mirI_mirI (W := W) (H := H) (i := i) (by omega)
        have h2 := mirI_mirI (W := W) (H := H) (i := k) hkn
        rw [he, h2] at h1
        omega)
      clear hx hQ hQf hPP hs hXe hYe
      go_wp2
      go_quiet (fail)
      go_wp2
      refine ⟨⟨k + 1, by go_num, by omega, ?_⟩, by simp [intOf]; omega⟩
      rw [HQ.out]
      exact T.out.step _ (by rw [← HQ.out]; exact hQn) INJ.out HX.out
    · have K := hide' (show k = n by omega)
      obtain ⟨o0, o1, o2, -⟩ := T.out.out
      obtain ⟨r0, r1, r2, rf⟩ := T.out.res
      have f0 := rf 0
      have f1 := rf 1
      have f2 := rf 2
      clear rf
      go_wp2
      refine bodyPost_ret (v := .agg #[.int .i64 (W : Int), .int .i64 (H : Int), .slice (some ⟨g, 0, none⟩) n n]) (by simp [results, Tryd.results154, go_sem, r0, r1, r2]) rfl ?_
      have hgg := T.out.hg
      have C := (show ScJ w wr g n n (mirI W H) xs by have := T.out.sc; rw [K.out] at this; exact this).cel (fi := mirI W H) (fun j hj => by rw [HN.out] at hj ⊢; exact mirI_lt hj) (fun j hj => mirI_mirI (by rw [← HN.out]; exact hj))
      rw [HN.out] at C
      refine ⟨g, rfl, by omega, ((C.rd ((Rd.refl (w.heap.size + 1) _).set 0 _) (by omega)).rd ((Rd.refl (w.heap.size + 1) _).set 1 _) (by omega)).rd ((Rd.refl (w.heap.size + 1) _).set 2 _) (by omega), ?_⟩
      exact ((T.out.sc.below.setCell (by simp) _).setCell (by simp) _).setCell (by simp) _
end Go.Proofs.YtljdidimoagnhaaDoor

namespace Go.Proofs.YtljdidimoagnhaaDoor
open Go.RowKit
set_option linter.unusedVariables false

/-- A cell by its place. -/
def atP (W : Nat) (xs : List Int) (x y : Nat) : Int := xs.getD (y * W + x) 0
structure Pat where
  W : Nat
  H : Nat
  xs : List Int
def Pat.ok (p : Pat) : Prop := p.xs.length = p.W * p.H
def Pat.mir (p : Pat) : Pat := ⟨p.W, p.H, mirP p.W p.H p.xs⟩
def Pat.qtr (p : Pat) : Pat := ⟨p.H, p.W, qtrP p.W p.H p.xs⟩
def Pat.rot (p : Pat) : Nat → Pat
  | 0 => p
  | j + 1 => (p.rot j).qtr
def Pat.turn (p : Pat) (k : Nat) : Pat := (if 4 ≤ k then p.mir else p).rot (k % 4)

theorem mir_at (W H : Nat) (xs : List Int) (x y : Nat) (hx : x < W) (hy : y < H) : atP W (mirP W H xs) x y = atP W xs (W - 1 - x) y := by
  unfold atP mirP
  obtain ⟨d, m⟩ := divmod_mk W y x hx
  have hl := mk_lt hx hy
  simp [List.getD, hl, d, m]
theorem qtr_at (W H : Nat) (xs : List Int) (x y : Nat) (hx : x < H) (hy : y < W) : atP H (qtrP W H xs) x y = atP W xs y (H - 1 - x) := by
  unfold atP qtrP
  obtain ⟨d, m⟩ := divmod_mk H y x hx
  have hl := mk_lt hx hy
  simp [List.getD, hl, d, m]

/-- Where the document's turn by k takes the cell x, y of the new pattern from. -/
def srcX (p : Pat) (k x y : Nat) : Nat :=
  let a := if k % 4 = 1 then y else if k % 4 = 2 then p.W - 1 - x else if k % 4 = 3 then p.W - 1 - y else x
  if 4 ≤ k then p.W - 1 - a else a
def srcY (p : Pat) (k x y : Nat) : Nat :=
  if k % 4 = 1 then p.H - 1 - x else if k % 4 = 2 then p.H - 1 - y else if k % 4 = 3 then x else y
def turnW (p : Pat) (k : Nat) : Nat := if k % 2 = 1 then p.H else p.W
def turnH (p : Pat) (k : Nat) : Nat := if k % 2 = 1 then p.W else p.H
def refTurn (p : Pat) (k : Nat) : List Int := (List.range (turnW p k * turnH p k)).map fun q => atP p.W p.xs (srcX p k (q % turnW p k) (q / turnW p k)) (srcY p k (q % turnW p k) (q / turnW p k))

theorem list_at {W H : Nat} {xs ys : List Int} (h1 : xs.length = W * H) (h2 : ys.length = W * H) (h : ∀ x y, x < W → y < H → atP W xs x y = atP W ys x y) : xs = ys := by
  apply List.ext_getElem (by omega)
  intro i hi hj
  obtain ⟨x, y, hx, hy, -, -, e⟩ := split_lt (W := W) (H := H) (i := i) (by omega)
  have := h x y hx hy
  unfold atP at this
  rw [e] at this
  simpa [List.getD, hi, hj] using this
theorem ref_at (p : Pat) (k x y : Nat) (hx : x < turnW p k) (hy : y < turnH p k) : atP (turnW p k) (refTurn p k) x y = atP p.W p.xs (srcX p k x y) (srcY p k x y) := by
  unfold refTurn
  obtain ⟨d, m⟩ := divmod_mk (turnW p k) y x hx
  have hl := mk_lt hx hy
  rw [atP]
  simp [List.getD, hl, d, m]
theorem refTurn_length (p : Pat) (k : Nat) : (refTurn p k).length = turnW p k * turnH p k := by simp [refTurn]

theorem turn_is (p : Pat) (hp : p.ok) (k : Nat) (hk : k < 8) : p.turn k = ⟨turnW p k, turnH p k, refTurn p k⟩ := by
  obtain ⟨W, H, xs⟩ := p
  unfold Pat.ok at hp
  dsimp only at hp
  have key : ∀ (q : Pat), q.W = turnW ⟨W, H, xs⟩ k → q.H = turnH ⟨W, H, xs⟩ k → q.xs.length = q.W * q.H → (∀ x y, x < q.W → y < q.H → atP q.W q.xs x y = atP W xs (srcX ⟨W, H, xs⟩ k x y) (srcY ⟨W, H, xs⟩ k x y)) → q = ⟨turnW ⟨W, H, xs⟩ k, turnH ⟨W, H, xs⟩ k, refTurn ⟨W, H, xs⟩ k⟩ := by
    rintro ⟨A, B, ys⟩ h1 h2 h3 h4
    dsimp only at h1 h2 h3 h4
    subst h1 h2
    congr 1
    refine list_at h3 (refTurn_length _ _) fun x y hx hy => ?_
    rw [h4 x y hx hy, ref_at _ _ _ _ hx hy]
  have hk' : k = 0 ∨ k = 1 ∨ k = 2 ∨ k = 3 ∨ k = 4 ∨ k = 5 ∨ k = 6 ∨ k = 7 := by omega
  rcases hk' with rfl | rfl | rfl | rfl | rfl | rfl | rfl | rfl
  · exact key _ rfl rfl hp fun x y hx hy => rfl
  · exact key _ rfl rfl (qtrP_length _ _ _) fun x y hx hy => qtr_at _ _ _ x y hx hy
  · refine key _ rfl rfl (qtrP_length _ _ _) fun x y hx hy => ?_
    refine (qtr_at _ _ _ x y hx hy).trans ?_
    refine (qtr_at W H xs y (W - 1 - x) hy (by have : x < W := hx; omega)).trans ?_
    rfl
  · refine key _ rfl rfl (qtrP_length _ _ _) fun x y hx hy => ?_
    refine (qtr_at _ _ _ x y hx hy).trans ?_
    refine (qtr_at _ _ _ y (H - 1 - x) hy (by have : x < H := hx; show H - 1 - x < H; omega)).trans ?_
    refine (qtr_at W H xs (H - 1 - x) (W - 1 - y) (by have : x < H := hx; omega) (by have : y < W := hy; omega)).trans ?_
    show atP W xs (W - 1 - y) (H - 1 - (H - 1 - x)) = atP W xs (W - 1 - y) x
    rw [show H - 1 - (H - 1 - x) = x by have : x < H := hx; omega]
  · exact key _ rfl rfl (mirP_length _ _ _) fun x y hx hy => mir_at _ _ _ x y hx hy
  · refine key _ rfl rfl (qtrP_length _ _ _) fun x y hx hy => ?_
    refine (qtr_at _ _ _ x y hx hy).trans ?_
    refine (mir_at W H xs y (H - 1 - x) hy (by have : x < H := hx; omega)).trans ?_
    rfl
  · refine key _ rfl rfl (qtrP_length _ _ _) fun x y hx hy => ?_
    refine (qtr_at _ _ _ x y hx hy).trans ?_
    refine (qtr_at W H _ y (W - 1 - x) hy (by have : x < W := hx; omega)).trans ?_
    refine (mir_at W H xs (W - 1 - x) (H - 1 - y) (by have : x < W := hx; omega) (by have : y < H := hy; omega)).trans ?_
    rfl
  · refine key _ rfl rfl (qtrP_length _ _ _) fun x y hx hy => ?_
    refine (qtr_at _ _ _ x y hx hy).trans ?_
    refine (qtr_at _ _ _ y (H - 1 - x) hy (by have : x < H := hx; show H - 1 - x < H; omega)).trans ?_
    refine (qtr_at W H _ (H - 1 - x) (W - 1 - y) (by have : x < H := hx; omega) (by have : y < W := hy; omega)).trans ?_
    refine (mir_at W H xs (W - 1 - y) (H - 1 - (H - 1 - x)) (by have : y < W := hy; omega) (by have : x < H := hx; omega)).trans ?_
    show atP W xs (W - 1 - (W - 1 - y)) (H - 1 - (H - 1 - x)) = atP W xs (W - 1 - (W - 1 - y)) x
    rw [show H - 1 - (H - 1 - x) = x by have : x < H := hx; omega]
end Go.Proofs.YtljdidimoagnhaaDoor

namespace Go.Proofs.YtljdidimoagnhaaDoor
open Go.RowKit
set_option linter.unusedVariables false

def cellBytes (x : Int) : List UInt8 := if x = 1 then [226, 151, 143] else [194, 183]
def drawRow (W : Nat) (xs : List Int) (y x : Nat) : List UInt8 := (List.range x).flatMap fun i => cellBytes (xs.getD (y * W + i) 0)
def drawRows (W : Nat) (xs : List Int) (y : Nat) : List UInt8 := (List.range y).flatMap fun j => drawRow W xs j W ++ [10]
def drawB (p : Pat) : List UInt8 := drawRows p.W p.xs p.H
theorem drawRow_succ (W : Nat) (xs : List Int) (y x : Nat) : drawRow W xs y (x + 1) = drawRow W xs y x ++ cellBytes (xs.getD (y * W + x) 0) := by simp [drawRow, List.range_succ, List.flatMap_append]
theorem drawRows_succ (W : Nat) (xs : List Int) (y : Nat) : drawRows W xs (y + 1) = drawRows W xs y ++ drawRow W xs y W ++ [10] := by simp [drawRows, List.range_succ, List.flatMap_append]
theorem cellBytes_le (x : Int) : (cellBytes x).length ≤ 3 := by unfold cellBytes; split <;> simp
theorem drawRow_le (W : Nat) (xs : List Int) (y : Nat) : ∀ x, (drawRow W xs y x).length ≤ 3 * x := by
  intro x
  induction x with
  | zero => simp [drawRow]
  | succ x ih =>
    rw [drawRow_succ, List.length_append]
    have := cellBytes_le (xs.getD (y * W + x) 0)
    omega
theorem drawRows_le (W : Nat) (xs : List Int) (hW : W ≤ 100) : ∀ y, (drawRows W xs y).length ≤ 301 * y := by
  intro y
  induction y with
  | zero => simp [drawRows]
  | succ y ih =>
    rw [drawRows_succ, List.length_append, List.length_append, List.length_singleton]
    have := drawRow_le W xs y W
    omega
theorem bytes_app (l m : List UInt8) : Lib.byteCells (l ++ m) = Lib.byteCells l ++ Lib.byteCells m := by simp [Lib.byteCells]
theorem bytes_dot : Lib.byteCells [194, 183] = [.int .u8 194, .int .u8 183] := rfl
theorem bytes_disc : Lib.byteCells [226, 151, 143] = [.int .u8 226, .int .u8 151, .int .u8 143] := rfl
theorem bytes_nl : Lib.byteCells [10] = [.int .u8 10] := rfl
theorem shape_bits {W H : Int} {xs : List Int} (h : shapeF W H xs = 0) (k : Nat) (hk : k < xs.length) : xs[k] = 0 ∨ xs[k] = 1 := by
  unfold shapeF at h
  split at h
  · split at h
    · split at h
      · rename_i q
        exact (cellB_iff _).1 (List.all_eq_true.1 q _ (List.getElem_mem hk))
      · cases h
    · cases h
  · cases h

/-- What holds while a drawing is written: the builder at the block that was made for it, all below as it was. -/
structure DW (w2 wr : World) (l : List UInt8) : Prop where
  bld : Bld w2.heap.size w2.heap.size (Lib.byteCells l) wr
  below : Below w2.heap.size w2 wr
theorem DW.start (w2 : World) : DW w2 (w2.alloc (.cells #[.pointer none, .slice none 0 0] 112)) [] := ⟨Lib.fresh_isBuilder _ _ _, (Below.refl _ _).alloc (Nat.le_refl _) _⟩
theorem DW.next {w2 wr w' : World} {l m : List UInt8} (h : DW w2 wr l) (hu : BldU w2.heap.size w2.heap.size (Lib.byteCells l ++ Lib.byteCells m) w') (hb : Below w2.heap.size wr w') : DW w2 w' (l ++ m) := ⟨Or.inr (by rw [bytes_app]; exact hu), h.below.trans hb⟩

theorem runeOf_0 (w : World) : Calls Tryd.prog 96 #[.int .i64 0] w fun e w' => e = .returned (.int .i32 183) ∧ w' = w := by
  go_enter Tryd.func96, Tryd.ntmps96
  go_wp2
  go_ret
  exact ⟨rfl, rfl⟩
theorem runeOf_1 (w : World) : Calls Tryd.prog 96 #[.int .i64 1] w fun e w' => e = .returned (.int .i32 9679) ∧ w' = w := by
  go_enter Tryd.func96, Tryd.ntmps96
  go_wp2
  go_ret
  exact ⟨rfl, rfl⟩

set_option maxRecDepth 100000 in
set_option maxHeartbeats 800000 in
theorem pDraw_bad (W H : Int) (xs : List Int) (a : Option Addr) (n c : Nat) (w : World) (hP : ArgP w xs a n c) (hs : shapeF W H xs ≠ 0) :
    Calls Tryd.prog 33 #[.agg #[.int .i64 W, .int .i64 H, .slice a n c]] w fun e w' => e = .returned (.tuple #[.string ⟨#[]⟩, .iface 97 (.int .i64 (shapeF W H xs : Int))]) ∧ Below w.heap.size w w' := by
  have AP0 := hide' (hP.alloc (.cells #[.int .i64 W, .int .i64 H, .slice a n c] 51))
  obtain ⟨f, hf⟩ : ∃ f, shapeF W H xs = f := ⟨_, rfl⟩
  rw [hf] at hs ⊢
  have HF := hide' hf
  have ER := hide' (show errOf f = .iface 97 (.int .i64 (f : Int)) by unfold errOf; rw [if_neg hs])
  clear hP hf hs
  go_enter Tryd.func33, Tryd.ntmps33
  go_wp2_with fail
  refine (Check_P W H xs a n c _ AP0.out).mono ?_
  rw [HF.out, ER.out]
  rintro e w2 ⟨rfl, b2⟩
  have BB := hide' (show Below w.heap.size w w2 from ((Below.refl _ _).alloc (Nat.le_refl _) _).trans (b2.mono (by simp only [World.size_alloc]; omega)))
  clear b2
  go_wp2
  go_ret2
  exact ⟨rfl, BB.out⟩
end Go.Proofs.YtljdidimoagnhaaDoor

