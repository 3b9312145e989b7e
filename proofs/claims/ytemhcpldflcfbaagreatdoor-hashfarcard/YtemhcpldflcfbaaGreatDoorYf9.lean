/-
  What the last text of this claim leans on, part 9: Ha5, PSpec, Pa1, Pa2, Pa3, Pa4, Pa5, Pa6, Al1, Wa1.
-/
import Derived.Test.YtemhcpldflcfbaaGreatDoorYf8
import Derived.Test.YtemhcpldflcfbaaGreatDoorYf5
import Derived.Test.YtemhcpldflcfbaaGreatDoorYf1
namespace Go.Proofs.YtemhcpldflcfbaaGreatDoor
open Go.RowKit
set_option linter.unusedVariables false
theorem four_eq (a b c d a' b' c' d' : Int) (w : World) : (Op.equalIn 10000 87 (.agg #[.int .i32 a, .int .i32 b, .int .i32 c, .int .i32 d]) (.agg #[.int .i32 a', .int .i32 b', .int .i32 c', .int .i32 d'])).run Tryz.prog w = .ok (a == a' && (b == b' && (c == c' && d == d'))) w := by
 have := equal_ints (P := Tryz.prog) w 9998 (t := 87) (e := 21) (n := 4) (k := .i32) Tryz.underlying87 (i := (Tryz.prog.info? 21).getD default) (by kernel_rfl) (by kernel_rfl) Tryz.underlying21 #[.int .i32 a, .int .i32 b, .int .i32 c, .int .i32 d] #[.int .i32 a', .int .i32 b', .int .i32 c', .int .i32 d'] (fun j => if j = 0 then a else if j = 1 then b else if j = 2 then c else d) (fun j => if j = 0 then a' else if j = 1 then b' else if j = 2 then c' else d') (fun j hj => by
  have : j = 0 ∨ j = 1 ∨ j = 2 ∨ j = 3 := by omega
  rcases this with rfl | rfl | rfl | rfl <;> exact ⟨rfl, rfl⟩)
 rw [this]
 simp [List.range, List.range.loop]
def p4 (a b c d i : Nat) : Nat := if i = 0 then a else if i = 1 then b else if i = 2 then c else d
theorem index_p40 (a b c d : Nat) (w : World) : (Instr.index 87 (.agg #[.int .i32 (a : Int), .int .i32 (b : Int), .int .i32 (c : Int), .int .i32 (d : Int)]) (.int .i64 0)).run Tryz.prog w = .ok (.int .i32 (a : Int)) w := by kernel_rfl
theorem index_p41 (a b c d : Nat) (w : World) : (Instr.index 87 (.agg #[.int .i32 (a : Int), .int .i32 (b : Int), .int .i32 (c : Int), .int .i32 (d : Int)]) (.int .i64 1)).run Tryz.prog w = .ok (.int .i32 (b : Int)) w := by kernel_rfl
theorem index_p42 (a b c d : Nat) (w : World) : (Instr.index 87 (.agg #[.int .i32 (a : Int), .int .i32 (b : Int), .int .i32 (c : Int), .int .i32 (d : Int)]) (.int .i64 2)).run Tryz.prog w = .ok (.int .i32 (c : Int)) w := by kernel_rfl
theorem index_p43 (a b c d : Nat) (w : World) : (Instr.index 87 (.agg #[.int .i32 (a : Int), .int .i32 (b : Int), .int .i32 (c : Int), .int .i32 (d : Int)]) (.int .i64 3)).run Tryz.prog w = .ok (.int .i32 (d : Int)) w := by kernel_rfl
theorem index_p4 {a b c d i : Nat} (hi : i < 4) (w : World) : (Instr.index 87 (.agg #[.int .i32 (a : Int), .int .i32 (b : Int), .int .i32 (c : Int), .int .i32 (d : Int)]) (.int .i64 (i : Int))).run Tryz.prog w = .ok (.int .i32 (p4 a b c d i : Int)) w := by
 have : i = 0 ∨ i = 1 ∨ i = 2 ∨ i = 3 := by omega
 rcases this with rfl | rfl | rfl | rfl
 ·exact index_p40 a b c d w
 ·exact index_p41 a b c d w
 ·exact index_p42 a b c d w
 ·exact index_p43 a b c d w
theorem p4_lt {a b c d n : Nat} (ha : a < n) (hb : b < n) (hc : c < n) (hd : d < n) (i : Nat) : p4 a b c d i < n := by unfold p4; split; exact ha; split; exact hb; split; exact hc; exact hd
theorem arr_at (pb pc : Nat) (w : World) : (Instr.arrayAt 87 (.slice (some ⟨pb, 0, none⟩) 4 pc)).run Tryz.prog w = .ok (.pointer (some ⟨pb, 0, none⟩)) w := by kernel_rfl
def JnM (mp : Option (Nat × Nat)) (sb B g : Nat) (qs : List Sq) (a b c d : Nat) (w : World) (e : Ending) (w' : World) : Prop :=
 ∃ g' cap' qs' t, e = .returned (.int .i32 ((t : Nat) : Int)) ∧ StkA w' sb B g' cap' qs' mp ∧ JoinQ qs a b c d qs' t ∧ KpS sb g g' w w' mp
theorem StkA.look4 {w : World} {sb B g cap : Nat} {qs : List Sq} {mp : Option (Nat × Nat)} (h : StkA w sb B g cap qs mp) (hn : qs.length ≤ 2000000) {a b c d : Nat} (ha : a < qs.length) (hb : b < qs.length) (hc : c < qs.length) (hd : d < qs.length) (hz : ¬ (a = 0 ∧ b = 0 ∧ c = 0 ∧ d = 0)) :
  ∃ t, (t ≠ 0 → JoinQ qs a b c d qs t) ∧ (t = 0 → mp ≠ none → Nm4 qs a b c d 0) ∧ ∀ V, (∀ k, mpB mp k → V.heap[k]? = w.heap[k]?) → (Instr.lookup 84 (mpW mp) (.agg #[.int .i32 (a : Int), .int .i32 (b : Int), .int .i32 (c : Int), .int .i32 (d : Int)]) true).run Tryz.prog V = .ok (.tuple #[.int .i32 (t : Int), .bool (decide (t ≠ 0))]) V := by
 cases mp with
 | none => exact ⟨0, fun q => absurd rfl q, fun _ q => absurd rfl q, fun V _ => look_nil4 _ _ _ _ V⟩
 | some p =>
  obtain ⟨t, h1, h2⟩ := h.map.look4 hz (by omega) (by omega) (by omega) (by omega)
  refine ⟨t, fun q => h1.joins hz q, fun q _ => by rw [← q]; exact h1, fun V hV => ?_⟩
  obtain ⟨t', h1', h2'⟩ := (h.map.keep hV).look4 hz (by omega) (by omega) (by omega) (by omega)
  have e : t' = t := by
   rcases h1 with ⟨rfl, q⟩ | ⟨q0, q1, l, q2⟩
   ·rcases h1' with ⟨r, _⟩ | ⟨_, r1, l', r2⟩
    ·exact r
    ·exact absurd ⟨by rw [r2], by rw [r2], by rw [r2], by rw [r2], by rw [r2]⟩ (q t' r1)
   ·rcases h1' with ⟨rfl, r⟩ | ⟨_, r1, l', r2⟩
    ·exact absurd ⟨by rw [q2], by rw [q2], by rw [q2], by rw [q2], by rw [q2]⟩ (r t q1)
    ·exact h.map.2.2.2.1 t' t r1 q1 (by rw [q2, r2]) (by rw [q2, r2]) (by rw [q2, r2]) (by rw [q2, r2]) (by rw [q2, r2])
  rw [e] at h2'
  exact h2'
set_option maxRecDepth 100000 in
set_option maxHeartbeats 3200000 in
theorem join_nil (mp : Option (Nat × Nat)) (sb B g cap : Nat) (qs : List Sq) (pb pc : Nat) (w : World) (h : StkA w sb B g cap qs mp)
  (p0 : w.cell? ⟨pb, 0, none⟩ = some (.int .i32 ((0 : Nat) : Int))) (p1 : w.cell? ⟨pb, 1, none⟩ = some (.int .i32 ((0 : Nat) : Int))) (p2 : w.cell? ⟨pb, 2, none⟩ = some (.int .i32 ((0 : Nat) : Int))) (p3 : w.cell? ⟨pb, 3, none⟩ = some (.int .i32 ((0 : Nat) : Int))) :
  Calls Tryz.prog 84 #[.pointer (some ⟨sb, 0, none⟩), .slice (some ⟨pb, 0, none⟩) 4 pc] w (JnM mp sb B g qs 0 0 0 0 w) := by
 have HK := hide' h
 have fq := four_eq
 have ar := arr_at pb pc
 clear h
 simp at p0 p1 p2 p3
 have BB := hide' (show Below w.heap.size w (w.alloc (.cells #[.int .i32 0, .int .i32 0, .int .i32 0, .int .i32 0] 87)) from (Below.refl _ _).alloc (Nat.le_refl _) _)
 go_enter Tryz.func84, Tryz.ntmps84
 go_wp2
 go_ret
 exact ⟨g, cap, qs, 0, rfl, HK.out.below BB.out, Or.inl ⟨rfl, rfl, rfl, rfl, rfl, rfl⟩, KpS.of_below BB.out⟩
def lvI (qs : List Sq) (p : Nat → Nat) : Nat → Int
 | 0 => 0
 | i + 1 => satI (lvI qs p i) (sqA qs (p i)).l
theorem lvI_le {qs : List Sq} (h : LvQ qs) {p : Nat → Nat} (hp : ∀ i, p i < qs.length) : ∀ i, 0 ≤ lvI qs p i ∧ lvI qs p i ≤ 9223372036854775807
 | 0 => by show (0 : Int) ≤ 0 ∧ (0 : Int) ≤ 9223372036854775807; omega
 | i + 1 => sat_le (lvI_le h hp i) (h.2 _ (hp i)).2.1
theorem lvI_all (qs : List Sq) (a b c d : Nat) (l : Int) : lvI qs (p4 a b c d) 4 = lvS qs ⟨a, b, c, d, 0, l⟩ := by
 unfold lvS
 rw [if_pos rfl]
 rfl
set_option maxRecDepth 100000 in
set_option maxHeartbeats 6400000 in
theorem join_found (mp : Option (Nat × Nat)) (sb B g cap : Nat) (qs : List Sq) (a b c d : Nat) (pb pc : Nat) (w : World) (h : StkA w sb B g cap qs mp) (hB : B ≤ w.heap.size) (hn : qs.length ≤ 2000000) (ha : a < qs.length) (hb : b < qs.length) (hc : c < qs.length) (hd : d < qs.length) (hz : ¬ (a = 0 ∧ b = 0 ∧ c = 0 ∧ d = 0))
  (p0 : w.cell? ⟨pb, 0, none⟩ = some (.int .i32 (a : Int))) (p1 : w.cell? ⟨pb, 1, none⟩ = some (.int .i32 (b : Int))) (p2 : w.cell? ⟨pb, 2, none⟩ = some (.int .i32 (c : Int))) (p3 : w.cell? ⟨pb, 3, none⟩ = some (.int .i32 (d : Int))) (t : Nat) (t0 : t ≠ 0) (hj : JoinQ qs a b c d qs t)
  (hlk : ∀ V, (∀ k, mpB mp k → V.heap[k]? = w.heap[k]?) → (Instr.lookup 84 (mpW mp) (.agg #[.int .i32 (a : Int), .int .i32 (b : Int), .int .i32 (c : Int), .int .i32 (d : Int)]) true).run Tryz.prog V = .ok (.tuple #[.int .i32 (t : Int), .bool (decide (t ≠ 0))]) V) :
  Calls Tryz.prog 84 #[.pointer (some ⟨sb, 0, none⟩), .slice (some ⟨pb, 0, none⟩) 4 pc] w (JnM mp sb B g qs a b c d w) := by
 have HK := hide' h
 have fq : ∀ V, (Op.equalIn 10000 87 (.agg #[.int .i32 (a : Int), .int .i32 (b : Int), .int .i32 (c : Int), .int .i32 (d : Int)]) (.agg #[.int .i32 0, .int .i32 0, .int .i32 0, .int .i32 0])).run Tryz.prog V = .ok false V := fun V => by
  rw [four_eq]
  congr 1
  simp
  omega
 have ar := arr_at pb pc
 have IX := hide' (fun (i : Nat) (hi : i < 4) (V : World) => index_p4 (a := a) (b := b) (c := c) (d := d) hi V)
 have LT := hide' (p4_lt ha hb hc hd)
 obtain ⟨fb, hfb⟩ : ∃ fb, w.heap.size = fb := ⟨_, rfl⟩
 have HFB := hide' hfb
 obtain ⟨w1, hw1⟩ : ∃ w1, w.alloc (.cells #[.int .i32 (a : Int), .int .i32 (b : Int), .int .i32 (c : Int), .int .i32 (d : Int)] 87) = w1 := ⟨_, rfl⟩
 have HW1 := hide' hw1
 have B1 := hide' (show Below w.heap.size w w1 by rw [← hw1]; exact (Below.refl _ _).alloc (Nat.le_refl _) _)
 have F1 := hide' (show w1.heap[fb]? = some (.cells #[.int .i32 (a : Int), .int .i32 (b : Int), .int .i32 (c : Int), .int .i32 (d : Int)] 87 (0, 0)) by rw [← hw1, ← hfb]; exact heap_alloc_new _ _)
 have Z1 := hide' (show w1.heap.size = fb + 1 by rw [← hw1, ← hfb]; simp)
 have K1 := hide' (h.below B1.out)
 have LK := hide' (hlk w1.drew (fun k e => B1.out.block _ (h.map.lt e)))
 have HN := hide' hn
 have HZ := hide' hz
 have HBB := hide' hB
 have HAB := hide' (And.intro ha (And.intro hb (And.intro hc hd)))
 have T0 := hide' t0
 have HJ := hide' hj
 clear t0 hj
 obtain ⟨mv, hmv⟩ : ∃ v, mpW mp = v := ⟨_, rfl⟩
 have HMV := hide' hmv
 clear h hw1 hfb ha hb hc hd hz hn hB hlk
 go_enter Tryz.func84, Tryz.ntmps84
 go_upto_region 2 with fail
 rw [HW1.out, HFB.out]
 clear p0 p1 p2 p3
 have p0 := cell_of_row w1 fb 0 _ _ _ F1.out
 have p1 := cell_of_row w1 fb 1 _ _ _ F1.out
 have p2 := cell_of_row w1 fb 2 _ _ _ F1.out
 have p3 := cell_of_row w1 fb 3 _ _ _ F1.out
 have c2 := cell_of_row w1 sb 2 _ _ _ K1.out.blkM
 simp at p0 p1 p2 p3 c2
 have lk := LK.out
 rw [hmv] at lk c2
 clear hmv
 rw [decide_eq_true T0.out] at lk
 go_upto_region 4 with fail
 go_region
 go_wp2
 go_ret
 exact ⟨g, cap, qs, t, rfl, K1.out.drewS, HJ.out, KpS.of_below B1.out.drew⟩
set_option maxRecDepth 100000 in
set_option maxHeartbeats 6400000 in
theorem join_new (mp : Option (Nat × Nat)) (sb B g cap : Nat) (qs : List Sq) (a b c d : Nat) (pb pc : Nat) (w : World) (h : StkA w sb B g cap qs mp) (hB : B ≤ w.heap.size) (hn : qs.length ≤ 2000000) (ha : a < qs.length) (hb : b < qs.length) (hc : c < qs.length) (hd : d < qs.length) (hz : ¬ (a = 0 ∧ b = 0 ∧ c = 0 ∧ d = 0))
  (p0 : w.cell? ⟨pb, 0, none⟩ = some (.int .i32 (a : Int))) (p1 : w.cell? ⟨pb, 1, none⟩ = some (.int .i32 (b : Int))) (p2 : w.cell? ⟨pb, 2, none⟩ = some (.int .i32 (c : Int))) (p3 : w.cell? ⟨pb, 3, none⟩ = some (.int .i32 (d : Int))) (t : Nat) (t0 : t = 0) (nm : t = 0 → mp ≠ none → Nm4 qs a b c d 0)
  (hlk : ∀ V, (∀ k, mpB mp k → V.heap[k]? = w.heap[k]?) → (Instr.lookup 84 (mpW mp) (.agg #[.int .i32 (a : Int), .int .i32 (b : Int), .int .i32 (c : Int), .int .i32 (d : Int)]) true).run Tryz.prog V = .ok (.tuple #[.int .i32 (t : Int), .bool (decide (t ≠ 0))]) V) :
  Calls Tryz.prog 84 #[.pointer (some ⟨sb, 0, none⟩), .slice (some ⟨pb, 0, none⟩) 4 pc] w (JnM mp sb B g qs a b c d w) := by
 have HK := hide' h
 have fq : ∀ V, (Op.equalIn 10000 87 (.agg #[.int .i32 (a : Int), .int .i32 (b : Int), .int .i32 (c : Int), .int .i32 (d : Int)]) (.agg #[.int .i32 0, .int .i32 0, .int .i32 0, .int .i32 0])).run Tryz.prog V = .ok false V := fun V => by
  rw [four_eq]
  congr 1
  simp
  omega
 have ar := arr_at pb pc
 have IX := hide' (fun (i : Nat) (hi : i < 4) (V : World) => index_p4 (a := a) (b := b) (c := c) (d := d) hi V)
 have LT := hide' (p4_lt ha hb hc hd)
 obtain ⟨fb, hfb⟩ : ∃ fb, w.heap.size = fb := ⟨_, rfl⟩
 have HFB := hide' hfb
 obtain ⟨w1, hw1⟩ : ∃ w1, w.alloc (.cells #[.int .i32 (a : Int), .int .i32 (b : Int), .int .i32 (c : Int), .int .i32 (d : Int)] 87) = w1 := ⟨_, rfl⟩
 have HW1 := hide' hw1
 have B1 := hide' (show Below w.heap.size w w1 by rw [← hw1]; exact (Below.refl _ _).alloc (Nat.le_refl _) _)
 have F1 := hide' (show w1.heap[fb]? = some (.cells #[.int .i32 (a : Int), .int .i32 (b : Int), .int .i32 (c : Int), .int .i32 (d : Int)] 87 (0, 0)) by rw [← hw1, ← hfb]; exact heap_alloc_new _ _)
 have Z1 := hide' (show w1.heap.size = fb + 1 by rw [← hw1, ← hfb]; simp)
 have K1 := hide' (h.below B1.out)
 have LK := hide' (hlk w1.drew (fun k e => B1.out.block _ (h.map.lt e)))
 have HN := hide' hn
 have HZ := hide' hz
 have HBB := hide' hB
 have HAB := hide' (And.intro ha (And.intro hb (And.intro hc hd)))
 have T0 := hide' t0
 have NM := hide' nm
 clear t0 nm
 obtain ⟨mv, hmv⟩ : ∃ v, mpW mp = v := ⟨_, rfl⟩
 have HMV := hide' hmv
 clear h hw1 hfb ha hb hc hd hz hn hB hlk
 go_enter Tryz.func84, Tryz.ntmps84
 go_upto_region 2 with fail
 rw [HW1.out, HFB.out]
 clear p0 p1 p2 p3
 have p0 := cell_of_row w1 fb 0 _ _ _ F1.out
 have p1 := cell_of_row w1 fb 1 _ _ _ F1.out
 have p2 := cell_of_row w1 fb 2 _ _ _ F1.out
 have p3 := cell_of_row w1 fb 3 _ _ _ F1.out
 have c2 := cell_of_row w1 sb 2 _ _ _ K1.out.blkM
 simp at p0 p1 p2 p3 c2
 have lk := LK.out
 rw [hmv] at lk c2
 clear hmv
 have lk' : (Instr.lookup 84 mv (.agg #[.int .i32 (a : Int), .int .i32 (b : Int), .int .i32 (c : Int), .int .i32 (d : Int)]) true).run Tryz.prog w1.drew = .ok (.tuple #[.int .i32 0, .bool false]) w1.drew := by
  rw [T0.out] at lk; exact lk
 clear lk
 go_upto_region 4 with fail
 go_region
 obtain ⟨w2, hw2⟩ : ∃ w2, (w1.alloc (.cells #[.int .i32 (a : Int), .int .i32 (b : Int), .int .i32 (c : Int), .int .i32 (d : Int), .int .u64 0, .int .i64 0] 90)).drew = w2 := ⟨_, rfl⟩
 have HW2 := hide' hw2
 have B2 := hide' (show Below w.heap.size w w2 by rw [← hw2]; exact (B1.out.alloc B1.out.size _).drew)
 have X2 := hide' (show w2.heap[fb + 1]? = some (.cells #[.int .i32 (a : Int), .int .i32 (b : Int), .int .i32 (c : Int), .int .i32 (d : Int), .int .u64 0, .int .i64 (lvI qs (p4 a b c d) 0)] 90 (0, 0)) by rw [← hw2]; exact heap_atX w1 _ _ Z1.out.symm)
 have F2 := hide' (show w2.heap[fb]? = some (.cells #[.int .i32 (a : Int), .int .i32 (b : Int), .int .i32 (c : Int), .int .i32 (d : Int)] 87 (0, 0)) by rw [← hw2]; exact (heap_alloc_old w1 _ (by have := Z1.out; omega)).trans F1.out)
 have Z2 := hide' (show w2.heap.size = fb + 2 by rw [← hw2]; have := Z1.out; show (w1.alloc _).heap.size = _; simp [Z1.out])
 have KW := hide' (fun (V : World) (hV : Below (fb + 1) w2 V) => show StkA V sb B g cap qs mp from (HK.out.below B2.out).keepM (hV.block _ (by have := HK.out.lt.1; have := HFB.out; omega)) (hV.block _ (by have := HK.out.lt.2; have := HFB.out; omega)) (fun k e => hV.block _ (by have := HK.out.map.lt e; have := HFB.out; omega)))
 clear hw2 fq ar lk'
 go_upto_region 8 with fail
 rw [HW2.out, Z1.out]
 clear p0 p1 p2 p3 c2
 have p0 := cell_of_row w2 fb 0 _ _ _ F2.out
 have p1 := cell_of_row w2 fb 1 _ _ _ F2.out
 have p2 := cell_of_row w2 fb 2 _ _ _ F2.out
 have p3 := cell_of_row w2 fb 3 _ _ _ F2.out
 simp at p0 p1 p2 p3
 obtain ⟨n, hnn⟩ : ∃ n, qs.length = n := ⟨_, rfl⟩
 have HNN := hide' hnn
 clear hnn
 go_wp2
 go_loopw [32] (fun iv wr => ∃ (i : Nat) (l : Int), iv = .int .i64 (i : Int) ∧ i ≤ 4 ∧ Hid (l = lvI qs (p4 a b c d) i) ∧ Hid (wr.heap[fb + 1]? = some (.cells #[.int .i32 (a : Int), .int .i32 (b : Int), .int .i32 (c : Int), .int .i32 (d : Int), .int .u64 0, .int .i64 l] 90 (0, 0))) ∧ Hid (Below (fb + 1) w2 wr)) (fun iv _ => 4 - (intOf iv).toNat)
 case atStart => exact ⟨0, _, rfl, by omega, hide' rfl, X2, hide' (Below.refl _ _)⟩
 case round =>
  obtain ⟨i, l, rfl, hi, HL, HX, BW⟩ := hrel
  by_cases di : i < 4
  ·have ix := IX.out i di
   obtain ⟨t, ht⟩ : ∃ t, p4 a b c d i = t := ⟨_, rfl⟩
   have lt := LT.out i
   rw [ht] at ix lt
   have KV := KW.out wr BW.out
   have c0 := KV.c0
   have c5 := (KV.cells lt).2.2.2.2.2
   have x5 := cell_of_row wr (fb + 1) 5 _ _ _ HX.out
   have f5 := frozen_of_row wr (fb + 1) 5 _ _ HX.out
   simp at x5
   obtain ⟨tl, htl⟩ : ∃ tl, (sqA qs t).l = tl := ⟨_, rfl⟩
   have SC := hide' (fun V => hsum_is l tl V (by rw [HL.out]; exact lvI_le KV.lv LT.out i) (by rw [← htl]; exact (KV.lv.2 t lt).2.1))
   have HL2 := hide' (show satI l tl = lvI qs (p4 a b c d) (i + 1) by rw [HL.out, ← htl, ← ht]; rfl)
   rw [HNN.out] at c0 lt
   have l1 : (t : Int) < (n : Int) := by omega
   rw [htl] at c5
   clear KV ht htl lt
   have d1 : (i : Int) < 4 := by omega
   go_upto_region 11 with fail
   go_region_with (go_at_call 107; refine (SC.out _).mono ?_; rintro e w3 ⟨rfl, rfl⟩)
   all_goals
    obtain ⟨v, hv⟩ : ∃ v, satI l tl = v := ⟨_, rfl⟩
    rw [hv] at HL2
    rw [hv]
    have HX2 := hide' (show ((wr.setCell ⟨fb + 1, 5, none⟩ (.int .i64 v)).drew).heap[fb + 1]? = some (.cells #[.int .i32 (a : Int), .int .i32 (b : Int), .int .i32 (c : Int), .int .i32 (d : Int), .int .u64 0, .int .i64 v] 90 (0, 0)) from heap_setCell_same wr _ _ _ _ _ HX.out)
    have BW2 := hide' (show Below (fb + 1) w2 ((wr.setCell ⟨fb + 1, 5, none⟩ (.int .i64 v)).drew) from (BW.out.setCell (Nat.le_refl _) _).drew)
    clear c0 c5 x5 f5 l1 hv
    go_wp2
    exact ⟨⟨i + 1, v, by go_num, by omega, HL2, HX2, BW2⟩, by simp [intOf]; omega⟩
  ·have ei : ¬ (i : Int) < 4 := by omega
   have KV := hide' (KW.out wr BW.out)
   have x0 := cell_of_row wr (fb + 1) 0 _ _ _ HX.out
   have x1 := cell_of_row wr (fb + 1) 1 _ _ _ HX.out
   have x2 := cell_of_row wr (fb + 1) 2 _ _ _ HX.out
   have x3 := cell_of_row wr (fb + 1) 3 _ _ _ HX.out
   have x4 := cell_of_row wr (fb + 1) 4 _ _ _ HX.out
   have x5 := cell_of_row wr (fb + 1) 5 _ _ _ HX.out
   simp at x0 x1 x2 x3 x4 x5
   have BX := hide' (show Below w.heap.size w wr from B2.out.trans (BW.out.mono (by have := HFB.out; omega)))
   have QL := hide' (show l = lvS qs ⟨a, b, c, d, 0, l⟩ by
    obtain rfl : i = 4 := by omega
    rw [← lvI_all]; exact HL.out)
   have FW := hide' ((BW.out.block fb (by omega)).trans F2.out)
   clear di
   go_wp2_with fail
   refine (add_stk sb B g cap qs ⟨a, b, c, d, 0, l⟩ _ _ wr KV.out.r (Nat.le_trans HBB.out BX.out.size) HN.out QL.out HAB.out.1 HAB.out.2.1 HAB.out.2.2.1 HAB.out.2.2.2).mono ?_
   rintro e w3 ⟨g', cap', rfl, hs, hk⟩
   have c2 := cell_of_row w3 sb 2 _ _ _ hs.blk
   simp at c2
   rw [HMV.out] at c2
   have mn := KV.out.maps_ne
   have hm3 : MpA w3 B qs mp := KV.out.map.keep (fun k e => hk.keep k (KV.out.map.lt e) (fun q => mn.1 (by rw [← q]; exact e)) (fun q => mn.2 (by rw [← q]; exact e)))
   have nf := KV.out.ne_four FW.out (by decide) (by decide)
   have F3 := hide' ((hk.keep fb (lt_of_block FW.out) nf.1 nf.2).trans FW.out)
   clear x0 x1 x2 x3 x4 x5 p0 p1 p2 p3
   cases mp with
   | none =>
    have HS := hide' (hs.a (mp := none) trivial)
    have KS := hide' hk
    obtain rfl : mv = .map none := HMV.out.symm
    have nq := nil_neq4
    rw [HNN.out]
    clear hs hk hm3
    go_wp2
    go_ret
    exact ⟨g', cap', _, n, rfl, HS.out, Or.inr (Or.inl ⟨HZ.out, HNN.out.symm, l, rfl⟩), (KpS.of_below BX.out).trans KS.out⟩
   | some p =>
    obtain ⟨mw, hmw⟩ : ∃ m, p.2 = m := ⟨_, rfl⟩
    obtain rfl : mv = .map (some mw) := by rw [← HMV.out, ← hmw]; rfl
    have nq := neq4 mw
    obtain ⟨w4, hrun, hm4, htu⟩ := (show MpA w3.drew B qs (some p) from hm3).put4 KV.out.st HZ.out (by have := HAB.out; have := HN.out; omega) (by have := HAB.out; have := HN.out; omega) (by have := HAB.out; have := HN.out; omega) (by have := HAB.out; have := HN.out; omega) (NM.out T0.out (by simp)) HN.out l
    have HS := hide' (show StkA w4 sb B g' cap' (qs ++ [⟨a, b, c, d, 0, l⟩]) (some p) from
     ((show StkR w3.drew sb B g' cap' (qs ++ [⟨a, b, c, d, 0, l⟩]) (mpE (some p)) (mpW (some p)) from hs.keep rfl rfl).keep (htu.grown.block _ hs.lt.1 (fun e => by
      injection e with e
      exact mn.1 (by rw [e]; exact Or.inr rfl))) (htu.grown.block _ hs.lt.2 (fun e => by
      injection e with e
      obtain ⟨-, -, cur, ec, -, -⟩ := hs.rowB
      obtain ⟨es, cl, em⟩ := hm3.isMap (k := g') (by rw [e]; exact Or.inr rfl)
      rw [ec] at em; cases em))).a hm4)
    have KS := hide' ((show KpS sb g g' wr w3.drew from ⟨hk.os, hk.tape, hk.output, hk.size, hk.keepM, hk.new⟩).turned (p := p) (Or.inr rfl) htu)
    have p0 := cell_of_row w3 fb 0 _ _ _ F3.out
    have p1 := cell_of_row w3 fb 1 _ _ _ F3.out
    have p2 := cell_of_row w3 fb 2 _ _ _ F3.out
    have p3 := cell_of_row w3 fb 3 _ _ _ F3.out
    simp at p0 p1 p2 p3
    rw [HNN.out, hmw] at hrun
    rw [HNN.out]
    clear hs hk hm3 hm4 htu mn hmw
    go_wp2
    go_region
    go_wp2
    go_ret
    exact ⟨g', cap', _, n, rfl, HS.out, Or.inr (Or.inl ⟨HZ.out, HNN.out.symm, l, rfl⟩), (KpS.of_below BX.out).trans KS.out⟩
theorem join_stkM (mp : Option (Nat × Nat)) (sb B g cap : Nat) (qs : List Sq) (a b c d : Nat) (pb pc : Nat) (w : World) (h : StkA w sb B g cap qs mp) (hB : B ≤ w.heap.size) (hn : qs.length ≤ 2000000) (ha : a < qs.length) (hb : b < qs.length) (hc : c < qs.length) (hd : d < qs.length)
  (p0 : w.cell? ⟨pb, 0, none⟩ = some (.int .i32 (a : Int))) (p1 : w.cell? ⟨pb, 1, none⟩ = some (.int .i32 (b : Int))) (p2 : w.cell? ⟨pb, 2, none⟩ = some (.int .i32 (c : Int))) (p3 : w.cell? ⟨pb, 3, none⟩ = some (.int .i32 (d : Int))) :
  Calls Tryz.prog 84 #[.pointer (some ⟨sb, 0, none⟩), .slice (some ⟨pb, 0, none⟩) 4 pc] w (JnM mp sb B g qs a b c d w) := by
 by_cases hz : a = 0 ∧ b = 0 ∧ c = 0 ∧ d = 0
 ·obtain ⟨rfl, rfl, rfl, rfl⟩ := hz
  exact join_nil mp sb B g cap qs pb pc w h p0 p1 p2 p3
 ·obtain ⟨t, h1, h2, h3⟩ := h.look4 hn ha hb hc hd hz
  by_cases t0 : t = 0
  ·exact join_new mp sb B g cap qs a b c d pb pc w h hB hn ha hb hc hd hz p0 p1 p2 p3 t t0 h2 h3
  ·exact join_found mp sb B g cap qs a b c d pb pc w h hB hn ha hb hc hd hz p0 p1 p2 p3 t t0 (h1 t0) h3
theorem join_stk (sb B g cap : Nat) (qs : List Sq) (a b c d : Nat) (pb pc : Nat) (w : World) (h : StkA w sb B g cap qs) (hB : B ≤ w.heap.size) (hn : qs.length ≤ 2000000) (ha : a < qs.length) (hb : b < qs.length) (hc : c < qs.length) (hd : d < qs.length)
  (p0 : w.cell? ⟨pb, 0, none⟩ = some (.int .i32 (a : Int))) (p1 : w.cell? ⟨pb, 1, none⟩ = some (.int .i32 (b : Int))) (p2 : w.cell? ⟨pb, 2, none⟩ = some (.int .i32 (c : Int))) (p3 : w.cell? ⟨pb, 3, none⟩ = some (.int .i32 (d : Int))) :
  Calls Tryz.prog 84 #[.pointer (some ⟨sb, 0, none⟩), .slice (some ⟨pb, 0, none⟩) 4 pc] w (JnM none sb B g qs a b c d w) := join_stkM none sb B g cap qs a b c d pb pc w h hB hn ha hb hc hd p0 p1 p2 p3
abbrev Go1 : Type := (Nat × Nat × Nat × List Int) ⊕ (List Int ⊕ (Nat × Nat))
abbrev Go1.on (i x y : Nat) (xs : List Int) : Go1 := Sum.inl (i, x, y, xs)
abbrev Go1.done (xs : List Int) : Go1 := Sum.inr (Sum.inl xs)
abbrev Go1.bad (a e : Nat) : Go1 := Sum.inr (Sum.inr (a, e))
structure Rv where
 i : Nat
 fl : Int
 wd : Int
 hi : Int
 cs : Value
 rt : Int
 dn : Int
 bg : Int
 tm : Int
def Rv.val (r : Rv) (s : ByteArray) : Nat → Value
 | 0 => .string s
 | 1 => .int .i64 (r.i : Int)
 | 2 => .int .i64 r.fl
 | 3 => .int .i64 r.wd
 | 4 => .int .i64 r.hi
 | 5 => r.cs
 | 6 => .int .i64 r.rt
 | 7 => .int .i64 r.dn
 | 8 => .int .i64 r.bg
 | 9 => .int .i64 r.tm
 | _ => .bool false
structure RAt (b : Nat) (s : ByteArray) (r : Rv) (w : World) : Prop where
 cell : ∀ k, k < 10 → w.cell? ⟨b, k, none⟩ = some (r.val s k)
 fz : ∀ k, k < 10 → w.frozen? ⟨b, k, none⟩ = false
theorem RAt.lt {b : Nat} {s : ByteArray} {r : Rv} {w : World} (h : RAt b s r w) : b < w.heap.size := by
 rcases Nat.lt_or_ge b w.heap.size with k | k
 ·exact k
 ·have := h.cell 0 (by omega); simp [World.cell?, Array.getElem?_eq_none k] at this
theorem RAt.block {b : Nat} {s : ByteArray} {r : Rv} {w w' : World} (h : RAt b s r w) (e : w'.heap[b]? = w.heap[b]?) : RAt b s r w' :=
 ⟨fun k hk => (World.cell?_of_block (w := w) (a := ⟨b, k, none⟩) e).trans (h.cell k hk), fun k hk => (World.frozen?_of_block (w := w) (a := ⟨b, k, none⟩) e).trans (h.fz k hk)⟩
theorem RAt.drewN {b : Nat} {s : ByteArray} {r : Rv} {w : World} (h : RAt b s r w) (n : Nat) : RAt b s r (w.drewN n) := h.block rfl
theorem RAt.alloc {b : Nat} {s : ByteArray} {r : Rv} {w : World} (h : RAt b s r w) (o : Obj) : RAt b s r (w.alloc o) := h.block (Below.heap_alloc _ _ _ h.lt)
theorem RAt.below {b : Nat} {s : ByteArray} {r : Rv} {w w' : World} (h : RAt b s r w) (hb : Below w.heap.size w w') : RAt b s r w' := h.block (hb.block b h.lt)
theorem RAt.set {b : Nat} {s : ByteArray} {r r' : Rv} {w : World} (h : RAt b s r w) (k : Nat) (u : Value) (hk : k < 10) (h1 : r'.val s k = u) (h2 : ∀ j, j < 10 → j ≠ k → r'.val s j = r.val s j) : RAt b s r' (w.setCell ⟨b, k, none⟩ u) := by
 refine ⟨fun j hj => ?_, fun j hj => by rw [World.frozen?_setCell]; exact h.fz j hj⟩
 by_cases e : j = k
 ·subst e; rw [h1]; exact World.cell?_setCell_same (w := w) (a := ⟨b, j, none⟩) (v := _) (h := h.cell j hj)
 ·rw [h2 j hj e]; exact (World.cell?_setCell_other (w := w) (a := ⟨b, k, none⟩) (b := ⟨b, j, none⟩) (v := _) (h := fun q => e (congrArg Addr.off q).symm)).trans (h.cell j hj)
def Left (b : Nat) (s : ByteArray) (r : Rv) (w w' : World) : Prop := RAt b s r w' ∧ Rd b w w'




def sideB (n : Int) : Bool := decide (0 ≤ n) && decide (n ≤ 100)
theorem pisSide (n : Int) (w : World) :
  Calls Tryz.prog 50 #[.int .i64 n] w fun e w' => e = .returned (.bool (sideB n)) ∧ w' = w := by
 by_cases h1 : 0 ≤ n
 ·by_cases h2 : n ≤ 100
  ·rw [show sideB n = true by unfold sideB; simp; omega]
   go_enter Tryz.func50, Tryz.ntmps50
   go_wp2
   go_ret
   exact ⟨rfl, rfl⟩
  ·rw [show sideB n = false by unfold sideB; simp; omega]
   go_enter Tryz.func50, Tryz.ntmps50
   go_wp2
   go_ret
   exact ⟨rfl, rfl⟩
 ·rw [show sideB n = false by unfold sideB; simp; omega]
  go_enter Tryz.func50, Tryz.ntmps50
  go_wp2
  go_ret
  exact ⟨rfl, rfl⟩
structure Cel (w : World) (g : Nat) (xs : List Int) : Prop where
 lt : g < w.heap.size
 cells : ∀ k, k < xs.length → w.cell? ⟨g, k, none⟩ = some (.int .i64 (xs.getD k 0))
 fz : ∀ k, w.frozen? ⟨g, k, none⟩ = false
theorem Cel.block {w w' : World} {g : Nat} {xs : List Int} (h : Cel w g xs) (hs : w.heap.size ≤ w'.heap.size) (e : w'.heap[g]? = w.heap[g]?) : Cel w' g xs :=
 ⟨Nat.lt_of_lt_of_le h.lt hs, fun k hk => (World.cell?_of_block (w := w) (a := ⟨g, k, none⟩) e).trans (h.cells k hk), fun k => (World.frozen?_of_block (w := w) (a := ⟨g, k, none⟩) e).trans (h.fz k)⟩
theorem Cel.rd {w w' : World} {g b : Nat} {xs : List Int} (h : Cel w g xs) (hr : Rd b w w') (hb : g ≠ b) : Cel w' g xs := h.block hr.size (hr.block g h.lt hb)
theorem Cel.below {w w' : World} {g : Nat} {xs : List Int} (h : Cel w g xs) (hb : Below w.heap.size w w') : Cel w' g xs := h.block hb.size (hb.block g h.lt)
theorem Cel.set {w : World} {g : Nat} {xs : List Int} (h : Cel w g xs) (p : Nat) (x : Int) (hp : p < xs.length) : Cel (w.setCell ⟨g, p, none⟩ (.int .i64 x)) g (xs.set p x) := by
 refine ⟨by rw [World.size_setCell]; exact h.lt, fun k hk => ?_, fun k => by rw [World.frozen?_setCell]; exact h.fz k⟩
 rw [List.length_set] at hk
 by_cases e : k = p
 ·subst e
  rw [show (xs.set k x).getD k 0 = x by simp [List.getD, hk]]
  exact World.cell?_setCell_same (w := w) (a := ⟨g, k, none⟩) (v := _) (h := h.cells k hk)
 ·rw [show (xs.set p x).getD k 0 = xs.getD k 0 by simp [List.getD, Ne.symm e]]
  exact (World.cell?_setCell_other (w := w) (a := ⟨g, p, none⟩) (b := ⟨g, k, none⟩) (v := _) (h := fun q => e (congrArg Addr.off q).symm)).trans (h.cells k hk)
theorem Cel.tab {w : World} {g n : Nat} {xs : List Int} (h : Cel w g xs) (hn : xs.length = n) : Tab w (.slice (some ⟨g, 0, none⟩) n n) xs := by
 subst hn
 exact Or.inr ⟨g, xs.length, rfl, h.lt, fun k hk => by rw [h.cells k hk]; simp [List.getD, hk]⟩
structure ArgP (w : World) (xs : List Int) (a : Option Addr) (n c : Nat) : Prop where
 len : n = xs.length
 max : n ≤ maxLen
 cells : ∀ k (h : k < xs.length), ∃ g off, a = some ⟨g, off, none⟩ ∧ g < w.heap.size ∧ w.cell? ⟨g, off + k, none⟩ = some (.int .i64 xs[k])
theorem ArgP.below {w w' : World} {xs : List Int} {a : Option Addr} {n c : Nat} (h : ArgP w xs a n c) (hb : Below w.heap.size w w') : ArgP w' xs a n c :=
 ⟨h.len, h.max, fun k hk => by
  obtain ⟨g, off, e, hg, hc⟩ := h.cells k hk
  exact ⟨g, off, e, Nat.lt_of_lt_of_le hg hb.size, (World.cell?_of_block (w := w) (a := ⟨g, off + k, none⟩) (hb.block g hg)).trans hc⟩⟩
theorem ArgP.alloc {w : World} {xs : List Int} {a : Option Addr} {n c : Nat} (h : ArgP w xs a n c) (x : Obj) : ArgP (w.alloc x) xs a n c :=
 h.below ((Below.refl _ _).alloc (Nat.le_refl _) _)
def cellB (x : Int) : Bool := decide (x = 0) || decide (x = 1)
def shapeF (W H : Int) (xs : List Int) : Nat :=
 if sideB W && sideB H then (if (xs.length : Int) = W * H then (if xs.all cellB then 0 else 1) else 3) else 1
def errOf (f : Nat) : Value := if f = 0 then .nilIface else .iface 56 (.int .i64 (f : Int))
theorem side_nat {W : Int} (h : sideB W = true) : ∃ n : Nat, W = (n : Int) ∧ n ≤ 100 := by
 unfold sideB at h
 simp at h
 exact ⟨W.toNat, by omega, by omega⟩
theorem all_bad {xs : List Int} {k : Nat} (hk : k < xs.length) (h : cellB xs[k] = false) : xs.all cellB = false := by
 cases q : xs.all cellB with
 | false => rfl
 | true => rw [List.all_eq_true.1 q _ (List.getElem_mem hk)] at h; cases h
theorem all_ok {xs : List Int} (h : ∀ k (hk : k < xs.length), cellB xs[k] = true) : xs.all cellB = true := by
 rw [List.all_eq_true]
 intro x hx
 obtain ⟨k, hk, rfl⟩ := List.getElem_of_mem hx
 exact h k hk
set_option maxHeartbeats 1600000 in
theorem Check_P (W H : Int) (xs : List Int) (a : Option Addr) (n c : Nat) (w : World) (hP : ArgP w xs a n c) :
  Calls Tryz.prog 24 #[.agg #[.int .i64 W, .int .i64 H, .slice a n c]] w fun e w' => e = .returned (errOf (shapeF W H xs)) ∧ Below w.heap.size w w' := by
 have HP := hide' (hP.alloc (.cells #[.int .i64 W, .int .i64 H, .slice a n c] 26))
 have hlen := hP.len
 have hmax := hP.max
 have HL := hide' hlen
 unfold maxLen at hmax
 clear hP hlen
 cases s1 : sideB W with
 | false =>
  have F := hide' (show errOf (shapeF W H xs) = .iface 56 (.int .i64 1) by unfold shapeF; rw [s1]; rfl)
  go_enter Tryz.func24, Tryz.ntmps24
  go_wp2_with fail
  refine (pisSide W _).mono ?_
  rw [s1]
  rintro e w1 ⟨rfl, rfl⟩
  go_wp2
  go_ret
  rw [F.out]
  exact ⟨rfl, (Below.refl _ _).alloc (Nat.le_refl _) _⟩
 | true =>
  cases s2 : sideB H with
  | false =>
   have F := hide' (show errOf (shapeF W H xs) = .iface 56 (.int .i64 1) by unfold shapeF; rw [s1, s2]; rfl)
   go_enter Tryz.func24, Tryz.ntmps24
   go_wp2_with fail
   refine (pisSide W _).mono ?_
   rw [s1]
   rintro e w1 ⟨rfl, rfl⟩
   go_wp2_with fail
   refine (pisSide H _).mono ?_
   rw [s2]
   rintro e w1 ⟨rfl, rfl⟩
   go_wp2
   go_ret
   rw [F.out]
   exact ⟨rfl, (Below.refl _ _).alloc (Nat.le_refl _) _⟩
  | true =>
   obtain ⟨Wn, rfl, lW⟩ := side_nat s1
   obtain ⟨Hn, rfl, lH⟩ := side_nat s2
   obtain ⟨N, hN⟩ : ∃ N, Wn * Hn = N := ⟨_, rfl⟩
   have hNi : (Wn : Int) * (Hn : Int) = (N : Int) := by rw [← hN]; simp
   have hN4 : N ≤ 10000 := by rw [← hN]; exact Nat.mul_le_mul lW lH
   by_cases q : n = N
   ·have m1 : ((n : Int) != (N : Int)) = false := by simp; omega
    have FO := hide' (fun (h : xs.all cellB = true) => show errOf (shapeF Wn Hn xs) = .nilIface by unfold shapeF; rw [s1, s2, if_pos (show (true && true) = true from rfl), if_pos (by rw [hNi, ← HL.out, q]), if_pos h]; rfl)
    have FN := hide' (fun (h : xs.all cellB = false) => show errOf (shapeF Wn Hn xs) = .iface 56 (.int .i64 1) by unfold shapeF; rw [s1, s2, if_pos (show (true && true) = true from rfl), if_pos (by rw [hNi, ← HL.out, q]), if_neg (by rw [h]; simp)]; rfl)
    clear q hN
    go_enter Tryz.func24, Tryz.ntmps24
    go_wp2_with fail
    refine (pisSide _ _).mono ?_
    rw [s1]
    rintro e w1 ⟨rfl, rfl⟩
    go_wp2_with fail
    refine (pisSide _ _).mono ?_
    rw [s2]
    rintro e w1 ⟨rfl, rfl⟩
    go_wp2
    go_loop [29] (fun kv => ∃ k : Nat, kv = .int .i64 (k : Int) ∧ k ≤ n ∧ ∀ j (h : j < xs.length), j < k → cellB xs[j] = true) (fun kv => n - (intOf kv).toNat)
    case atStart => exact ⟨0, rfl, by omega, fun j h hj => by omega⟩
    case round =>
     obtain ⟨k, rfl, hk, hall⟩ := hrel
     have HA := hide' hall
     clear hall
     by_cases d : (k : Int) < (n : Int)
     ·have hkl : k < xs.length := by have := HL.out; omega
      obtain ⟨g, off, rfl, hg, hc⟩ := HP.out.cells k hkl
      obtain ⟨x, hx⟩ : ∃ x, xs[k] = x := ⟨_, rfl⟩
      rw [hx] at hc
      have HX := hide' hx
      clear hx
      by_cases x0 : x = 0
      ·have m2 : (x != 0) = false := by simp [x0]
       have X := hide' x0
       clear x0
       go_wp2
       refine ⟨⟨k + 1, by go_num, by omega, fun j h hj => ?_⟩, by simp [intOf]; omega⟩
       by_cases e : j = k
       ·subst e; rw [HX.out, X.out]; rfl
       ·exact HA.out j h (by omega)
      ·have m2 : (x != 0) = true := by simp [x0]
       by_cases x1 : x = 1
       ·have m3 : (x != 1) = false := by simp [x1]
        have X := hide' x1
        clear x0 x1
        go_wp2
        refine ⟨⟨k + 1, by go_num, by omega, fun j h hj => ?_⟩, by simp [intOf]; omega⟩
        by_cases e : j = k
        ·subst e; rw [HX.out, X.out]; rfl
        ·exact HA.out j h (by omega)
       ·have m3 : (x != 1) = true := by simp [x1]
        have X := hide' (show cellB x = false by unfold cellB; simp [x0, x1])
        clear x0 x1
        go_wp2
        go_ret
        rw [FN.out (all_bad hkl (by rw [HX.out]; exact X.out))]
        exact ⟨rfl, (Below.refl _ _).alloc (Nat.le_refl _) _⟩
     ·go_wp2
      go_ret
      rw [FO.out (all_ok fun j hj => HA.out j hj (by have := HL.out; omega))]
      exact ⟨rfl, (Below.refl _ _).alloc (Nat.le_refl _) _⟩
   ·have m1 : ((n : Int) != (N : Int)) = true := by simp; omega
    have F := hide' (show errOf (shapeF Wn Hn xs) = .iface 56 (.int .i64 3) by unfold shapeF; rw [s1, s2, if_pos (show (true && true) = true from rfl), if_neg (by rw [hNi, ← HL.out]; omega)]; rfl)
    clear q hN
    go_enter Tryz.func24, Tryz.ntmps24
    go_wp2_with fail
    refine (pisSide _ _).mono ?_
    rw [s1]
    rintro e w1 ⟨rfl, rfl⟩
    go_wp2_with fail
    refine (pisSide _ _).mono ?_
    rw [s2]
    rintro e w1 ⟨rfl, rfl⟩
    go_wp2
    go_ret
    rw [F.out]
    exact ⟨rfl, (Below.refl _ _).alloc (Nat.le_refl _) _⟩
end Go.Proofs.YtemhcpldflcfbaaGreatDoor
