/-
  What the last text of this claim leans on, part 3: Ca4, Ca1.
-/
import Derived.Test.YtcfoeadfhkojeaaGreatDoorZm2
import Derived.Test.YtcfoeadfhkojeaaGreatDoorProg
import Derived.WalkKit
import Derived.LaidEql
import Derived.Stop.Asserts
import Derived.RowKitTokens
namespace Go.Proofs.YtcfoeadfhkojeaaGreatDoor
open Go.RowKit
set_option linter.unusedVariables false
def updM (c : Nat → Int) (k : Nat) (v : Int) : Nat → Int := fun j => if j = k then v else c j
/-- A machine as it lies while it runs. -/
structure MaB (w : World) (mb : Nat) (sl : Value) (c : Nat → Int) (t : Nat) : Prop where
  code : w.cell? ⟨mb, 0, none⟩ = some sl
  cnt : ∀ k, k < 4 → w.cell? ⟨mb, 1 + k, none⟩ = some (.int .i64 (c k))
  ats : w.cell? ⟨mb, 5, none⟩ = some (.int .i64 (t : Int))
  fro : ∀ k, w.frozen? ⟨mb, k, none⟩ = false
  lt : mb < w.heap.size
theorem MaB.below {w w' : World} {mb : Nat} {sl : Value} {c : Nat → Int} {t B : Nat} (h : MaB w mb sl c t) (hb : Below B w w') (hB : mb < B) : MaB w' mb sl c t :=
  have b := hb.block mb hB
  ⟨(World.cell?_of_block (w := w) (a := ⟨mb, 0, none⟩) b).trans h.code, fun k hk => (World.cell?_of_block (w := w) (a := ⟨mb, 1 + k, none⟩) b).trans (h.cnt k hk), (World.cell?_of_block (w := w) (a := ⟨mb, 5, none⟩) b).trans h.ats, fun k => (World.frozen?_of_block (w := w) (a := ⟨mb, k, none⟩) b).trans (h.fro k), Nat.lt_of_lt_of_le h.lt hb.size⟩
theorem MaB.setCnt {w : World} {mb : Nat} {sl : Value} {c : Nat → Int} {t : Nat} (h : MaB w mb sl c t) {k : Nat} (hk : k < 4) (v : Int) : MaB (w.setCell ⟨mb, 1 + k, none⟩ (.int .i64 v)) mb sl (updM c k v) t :=
  ⟨(World.cell?_setCell_other _ _ _ _ (fun q => by have := congrArg Addr.off q; simp at this)).trans h.code, fun j hj => by
    unfold updM
    by_cases e : j = k
    · subst e; rw [if_pos rfl]; exact World.cell?_setCell_same _ _ _ (h.cnt j hj)
    · rw [if_neg e]; exact (World.cell?_setCell_other _ _ _ _ (fun q => by have := congrArg Addr.off q; simp at this; omega)).trans (h.cnt j hj),
   (World.cell?_setCell_other _ _ _ _ (fun q => by have := congrArg Addr.off q; simp at this; omega)).trans h.ats, fun j => by rw [World.frozen?_setCell]; exact h.fro j, by simpa using h.lt⟩
theorem MaB.setAt {w : World} {mb : Nat} {sl : Value} {c : Nat → Int} {t : Nat} (h : MaB w mb sl c t) (v : Nat) : MaB (w.setCell ⟨mb, 5, none⟩ (.int .i64 (v : Int))) mb sl c v :=
  ⟨(World.cell?_setCell_other _ _ _ _ (fun q => by have := congrArg Addr.off q; simp at this)).trans h.code, fun j hj => (World.cell?_setCell_other _ _ _ _ (fun q => by have := congrArg Addr.off q; simp at this; omega)).trans (h.cnt j hj),
   World.cell?_setCell_same _ _ _ h.ats, fun j => by rw [World.frozen?_setCell]; exact h.fro j, by simpa using h.lt⟩
theorem MaB.drew {w : World} {mb : Nat} {sl : Value} {c : Nat → Int} {t : Nat} (h : MaB w mb sl c t) : MaB w.drew mb sl c t := h.below (B := w.heap.size) (Below.refl _ _).drew h.lt
set_option maxRecDepth 100000 in
set_option maxHeartbeats 3200000 in
theorem inc_full (o t e : Int) (a mb : Nat) (ha : a < 4) (sl : Value) (c : Nat → Int) (s : Nat) (w : World) (h : MaB w mb sl c s) (hc : c a = 1000000) :
    Calls Tryz.prog 32 #[.pointer (some ⟨mb, 0, none⟩), .agg #[.int .i64 o, .int .i64 (a : Int), .int .i64 t, .int .i64 e]] w fun x w' => x = .returned (.iface 73 (.int .i64 4)) ∧ Below w.heap.size w w' := by
  obtain ⟨w1, hw1⟩ : ∃ w1, w.alloc (.cells #[.int .i64 o, .int .i64 (a : Int), .int .i64 t, .int .i64 e] 25) = w1 := ⟨_, rfl⟩
  have B1 := hide' (show Below w.heap.size w w1 by rw [← hw1]; exact (Below.refl _ _).alloc (Nat.le_refl _) _)
  have r1 : w1.heap[w.heap.size]? = some (.cells #[.int .i64 o, .int .i64 (a : Int), .int .i64 t, .int .i64 e] 25 (0, 0)) := by rw [← hw1]; exact heap_alloc_new _ _
  have e1 := cell_of_row w1 _ 1 _ _ _ r1
  simp at e1
  have m1 := (h.below B1.out h.lt).cnt a ha
  rw [hc] at m1
  have a4 : (a : Int) < 4 := by omega
  have a0 : (0 : Int) ≤ (a : Int) := by omega
  clear h hc r1
  go_enter Tryz.func32, Tryz.ntmps32
  go_upto_region 1 with fail
  try rw [hw1]
  clear hw1
  go_region
  all_goals
    go_wp2
    go_ret
    exact ⟨rfl, B1.out.drew⟩
set_option maxRecDepth 100000 in
set_option maxHeartbeats 6400000 in
theorem inc_some (o e : Int) (t a mb B : Nat) (ha : a < 4) (sl : Value) (c : Nat → Int) (s : Nat) (w : World) (h : MaB w mb sl c s) (hc : ¬ c a = 1000000) (c0 : 0 ≤ c a) (c1 : c a ≤ 1000000) (hB : B ≤ mb) :
    Calls Tryz.prog 32 #[.pointer (some ⟨mb, 0, none⟩), .agg #[.int .i64 o, .int .i64 (a : Int), .int .i64 (t : Int), .int .i64 e]] w fun x w' => x = .returned .nilIface ∧ MaB w' mb sl (updM c a (c a + 1)) t ∧ Below B w w' := by
  obtain ⟨w1, hw1⟩ : ∃ w1, w.alloc (.cells #[.int .i64 o, .int .i64 (a : Int), .int .i64 (t : Int), .int .i64 e] 25) = w1 := ⟨_, rfl⟩
  have B1 := hide' (show Below w.heap.size w w1 by rw [← hw1]; exact (Below.refl _ _).alloc (Nat.le_refl _) _)
  have r1 : w1.heap[w.heap.size]? = some (.cells #[.int .i64 o, .int .i64 (a : Int), .int .i64 (t : Int), .int .i64 e] 25 (0, 0)) := by rw [← hw1]; exact heap_alloc_new _ _
  have R1 := hide' r1
  have e1 := cell_of_row w1 _ 1 _ _ _ r1
  simp at e1
  have M1 := hide' (h.below B1.out h.lt)
  have m1 := M1.out.cnt a ha
  obtain ⟨v, hv⟩ : ∃ v, c a = v := ⟨_, rfl⟩
  rw [hv] at m1 hc c0 c1
  have hv1 : (v == 1000000) = false := by simpa using hc
  have a4 : (a : Int) < 4 := by omega
  have a0 : (0 : Int) ≤ (a : Int) := by omega
  have fz := M1.out.fro (1 + a)
  have wv : IntKind.i64.wrap (v + 1) = v + 1 := by simp [IntKind.wrap, IntKind.bits, IntKind.signed]; omega
  have LT := hide' h.lt
  have HV := hide' hv
  clear h hc hv r1
  go_enter Tryz.func32, Tryz.ntmps32
  go_upto_region 1 with fail
  try rw [hw1]
  clear hw1
  go_region
  go_upto_region 3 with fail
  go_region
  obtain ⟨X, hX⟩ : ∃ X, (w1.setCell ⟨mb, 1 + a, none⟩ (.int .i64 (v + 1))).drew.drew = X := ⟨_, rfl⟩
  have MX := hide' (show MaB X mb sl (updM c a (c a + 1)) s by rw [← hX, HV.out]; exact ((M1.out.setCnt ha (v + 1)).drew).drew)
  have BX := hide' (show Below B w X by rw [← hX]; exact (((B1.out.mono (Nat.le_of_lt (Nat.lt_of_le_of_lt hB LT.out))).setCell hB _).drew).drew)
  have x2 : X.cell? ⟨w.heap.size, 2, none⟩ = some (.int .i64 (t : Int)) := by
    rw [← hX]
    show (w1.setCell ⟨mb, 1 + a, none⟩ (.int .i64 (v + 1))).cell? ⟨w.heap.size, 2, none⟩ = _
    rw [World.cell?_setCell_other _ _ _ _ (fun q => by have h1 : mb = w.heap.size := congrArg Addr.block q; have := LT.out; omega), cell_of_row w1 _ 2 _ _ _ R1.out]
    rfl
  have x5 := MX.out.ats
  have f5 := MX.out.fro 5
  rw [hX]
  clear hX m1 fz e1 wv
  go_wp2
  go_ret
  exact ⟨rfl, MX.out.setAt t, BX.out.setCell hB _⟩
set_option maxRecDepth 100000 in
set_option maxHeartbeats 6400000 in
theorem dec_zero (o t : Int) (e a mb B : Nat) (ha : a < 4) (sl : Value) (c : Nat → Int) (s : Nat) (w : World) (h : MaB w mb sl c s) (hc : c a = 0) (hB : B ≤ mb) :
    Calls Tryz.prog 33 #[.pointer (some ⟨mb, 0, none⟩), .agg #[.int .i64 o, .int .i64 (a : Int), .int .i64 t, .int .i64 (e : Int)]] w fun x w' => x = .returned (.tuple #[]) ∧ MaB w' mb sl c e ∧ Below B w w' := by
  obtain ⟨w1, hw1⟩ : ∃ w1, w.alloc (.cells #[.int .i64 o, .int .i64 (a : Int), .int .i64 t, .int .i64 (e : Int)] 25) = w1 := ⟨_, rfl⟩
  have B1 := hide' (show Below w.heap.size w w1 by rw [← hw1]; exact (Below.refl _ _).alloc (Nat.le_refl _) _)
  have r1 : w1.heap[w.heap.size]? = some (.cells #[.int .i64 o, .int .i64 (a : Int), .int .i64 t, .int .i64 (e : Int)] 25 (0, 0)) := by rw [← hw1]; exact heap_alloc_new _ _
  have e1 := cell_of_row w1 _ 1 _ _ _ r1
  have e3 := cell_of_row w1 _ 3 _ _ _ r1
  simp at e1 e3
  have M1 := hide' (h.below B1.out h.lt)
  have m1 := M1.out.cnt a ha
  rw [hc] at m1
  have m5 := M1.out.ats
  have fz := M1.out.fro 5
  have a4 : (a : Int) < 4 := by omega
  have a0 : (0 : Int) ≤ (a : Int) := by omega
  have LT := hide' h.lt
  clear h hc r1
  go_enter Tryz.func33, Tryz.ntmps33
  go_upto_region 1 with fail
  try rw [hw1]
  clear hw1
  go_region
  go_wp2
  refine bodyPost_ret (v := .tuple #[]) (results_none rfl _ _ _) rfl ?_
  exact ⟨rfl, (M1.out.drew).setAt e, ((B1.out.mono (Nat.le_of_lt (Nat.lt_of_le_of_lt hB LT.out))).drew).setCell hB _⟩
set_option maxRecDepth 100000 in
set_option maxHeartbeats 6400000 in
theorem dec_some (o e : Int) (t a mb B : Nat) (ha : a < 4) (sl : Value) (c : Nat → Int) (s : Nat) (w : World) (h : MaB w mb sl c s) (hc : ¬ c a = 0) (c0 : 0 ≤ c a) (c1 : c a ≤ 1000000) (hB : B ≤ mb) :
    Calls Tryz.prog 33 #[.pointer (some ⟨mb, 0, none⟩), .agg #[.int .i64 o, .int .i64 (a : Int), .int .i64 (t : Int), .int .i64 e]] w fun x w' => x = .returned (.tuple #[]) ∧ MaB w' mb sl (updM c a (c a - 1)) t ∧ Below B w w' := by
  obtain ⟨w1, hw1⟩ : ∃ w1, w.alloc (.cells #[.int .i64 o, .int .i64 (a : Int), .int .i64 (t : Int), .int .i64 e] 25) = w1 := ⟨_, rfl⟩
  have B1 := hide' (show Below w.heap.size w w1 by rw [← hw1]; exact (Below.refl _ _).alloc (Nat.le_refl _) _)
  have r1 : w1.heap[w.heap.size]? = some (.cells #[.int .i64 o, .int .i64 (a : Int), .int .i64 (t : Int), .int .i64 e] 25 (0, 0)) := by rw [← hw1]; exact heap_alloc_new _ _
  have R1 := hide' r1
  have e1 := cell_of_row w1 _ 1 _ _ _ r1
  simp at e1
  have M1 := hide' (h.below B1.out h.lt)
  have m1 := M1.out.cnt a ha
  obtain ⟨v, hv⟩ : ∃ v, c a = v := ⟨_, rfl⟩
  rw [hv] at m1 hc c0 c1
  have hv1 : (v == 0) = false := by simpa using hc
  have a4 : (a : Int) < 4 := by omega
  have a0 : (0 : Int) ≤ (a : Int) := by omega
  have fz := M1.out.fro (1 + a)
  have wv : IntKind.i64.wrap (v - 1) = v - 1 := by simp [IntKind.wrap, IntKind.bits, IntKind.signed]; omega
  have LT := hide' h.lt
  have HV := hide' hv
  clear h hc hv r1
  go_enter Tryz.func33, Tryz.ntmps33
  go_upto_region 1 with fail
  try rw [hw1]
  clear hw1
  go_region
  go_upto_region 3 with fail
  go_region
  obtain ⟨X, hX⟩ : ∃ X, (w1.setCell ⟨mb, 1 + a, none⟩ (.int .i64 (v - 1))).drew.drew = X := ⟨_, rfl⟩
  have MX := hide' (show MaB X mb sl (updM c a (c a - 1)) s by rw [← hX, HV.out]; exact ((M1.out.setCnt ha (v - 1)).drew).drew)
  have BX := hide' (show Below B w X by rw [← hX]; exact (((B1.out.mono (Nat.le_of_lt (Nat.lt_of_le_of_lt hB LT.out))).setCell hB _).drew).drew)
  have x2 : X.cell? ⟨w.heap.size, 2, none⟩ = some (.int .i64 (t : Int)) := by
    rw [← hX]
    show (w1.setCell ⟨mb, 1 + a, none⟩ (.int .i64 (v - 1))).cell? ⟨w.heap.size, 2, none⟩ = _
    rw [World.cell?_setCell_other _ _ _ _ (fun q => by have h1 : mb = w.heap.size := congrArg Addr.block q; have := LT.out; omega), cell_of_row w1 _ 2 _ _ _ R1.out]
    rfl
  have x5 := MX.out.ats
  have f5 := MX.out.fro 5
  rw [hX]
  clear hX m1 fz e1 wv
  go_wp2
  go_end0
  exact ⟨rfl, MX.out.setAt t, BX.out.setCell hB _⟩
end Go.Proofs.YtcfoeadfhkojeaaGreatDoor

namespace Go.Proofs.YtcfoeadfhkojeaaGreatDoor
open Go.RowKit Go.Extern.Stop Go.Stop Go.Extern
theorem is_typeOf (v : Value) (w : World) : (Extern.ReflectliteType.typeOf #[.iface 158 v]).run Tryz.prog w = .ok (.iface 117 (.agg #[.pointer (some ⟨13, 158, none⟩)])) w := by kernel_rfl
theorem is_comparable (w : World) : (callFunc 110 #[.agg #[.pointer (some ⟨13, 158, none⟩)]]).run Tryz.prog w = .ok (.value (.bool true)) w := by kernel_rfl
theorem is_methodC (v : Value) (w : World) : (Go.method 289 117 v "Comparable").run Tryz.prog w = .ok (110, v) w := by kernel_rfl
theorem is_comp : (Tryz.prog.info? 158).map (·.comparable) = some true := by kernel_rfl
theorem is_size : (Tryz.prog.info? 177).map (·.size) = some 1 := by kernel_rfl
theorem is_noIs (v : Value) (xT : TypeId) (w : World) : (Instr.typeAssert (.iface 73 v) xT 119 true).run Tryz.prog w = .ok (.tuple #[.nilIface, .bool false]) w := run_typeAssert_lacksB Tryz.underlying119 (by kernel_rfl) (by kernel_rfl) v xT w
theorem is_noUn (v : Value) (xT : TypeId) (w : World) : (Instr.typeAssert (.iface 73 v) xT 122 true).run Tryz.prog w = .ok (.tuple #[.nilIface, .bool false]) w := run_typeAssert_lacksB Tryz.underlying122 (by kernel_rfl) (by kernel_rfl) v xT w
theorem is_noUns (v : Value) (xT : TypeId) (w : World) : (Instr.typeAssert (.iface 73 v) xT 123 true).run Tryz.prog w = .ok (.tuple #[.nilIface, .bool false]) w := run_typeAssert_lacksB Tryz.underlying123 (by kernel_rfl) (by kernel_rfl) v xT w
theorem is_same (a : Addr) (w : World) :
    Calls Tryz.prog 31 #[.iface 158 (.pointer (some a)), .iface 158 (.pointer (some a))] w fun e w' => e = .returned (.bool true) ∧ w' = w := by
  obtain ⟨i, hi, hcmp⟩ := Option.map_eq_some_iff.1 is_comp
  obtain ⟨j, hj, hjs⟩ := Option.map_eq_some_iff.1 is_size
  have h8 := @run_callFunc_extern Tryz.prog 42 _ Extern.ReflectliteType.typeOf Tryz.func42 (by kernel_rfl) (by kernel_rfl) (by kernel_rfl) (by kernel_rfl)
  have h32 := is_comparable
  have tT := is_typeOf
  have mR := is_methodC
  have heq := run_eql_iface_ptr_same (P := Tryz.prog) w a Tryz.underlying27 Tryz.underlying158 hi hcmp hj
  go_enter Tryz.func31, Tryz.ntmps31
  go_wp2
  refine wp_loop_rounds 1 ?_
  rw [rounds_succ]
  go_wp2
  go_ret
  exact ⟨rfl, rfl⟩
theorem is_nil (b : Addr) (w : World) :
    Calls Tryz.prog 31 #[.nilIface, .iface 158 (.pointer (some b))] w fun e w' => e = .returned (.bool false) ∧ w' = w := by
  have hn := run_eql_iface_nil_left (P := Tryz.prog) w 158 (.pointer (some b)) Tryz.underlying27
  go_enter Tryz.func31, Tryz.ntmps31
  go_wp2
  go_ret
  exact ⟨rfl, rfl⟩
theorem is_errno (n : Int) (b : Addr) (w : World) :
    Calls Tryz.prog 31 #[.iface 73 (.int .i64 n), .iface 158 (.pointer (some b))] w fun e w' => e = .returned (.bool false) ∧ w' = w := by
  have h8 := @run_callFunc_extern Tryz.prog 42 _ Extern.ReflectliteType.typeOf Tryz.func42 (by kernel_rfl) (by kernel_rfl) (by kernel_rfl) (by kernel_rfl)
  have h32 := is_comparable
  have tT := is_typeOf
  have mR := is_methodC
  have nE := is_noIs
  have uE := is_noUn
  have vE := is_noUns
  have hty := run_eql_iface_types (P := Tryz.prog) 73 158 (.int .i64 n) (.pointer (some b)) Tryz.underlying27 (by decide) w
  go_enter Tryz.func31, Tryz.ntmps31
  go_wp2
  refine wp_loop_rounds 1 ?_
  rw [rounds_succ]
  go_wp2
  go_ret
  exact ⟨rfl, rfl⟩
end Go.Proofs.YtcfoeadfhkojeaaGreatDoor

