/-
  What the last text of this claim leans on, part 4: Ca4, Ca1, Ca5, Ca6, Ca7, Cb5, Cb6.
-/
import Derived.Test.YtdkomlgkkepioaaDoorJp3
import Derived.Test.YtdkomlgkkepioaaDoorProg
import Derived.WalkKit
import Derived.LaidEql
import Derived.Stop.Asserts
import Derived.RowKitTokens
import Derived.Deep.RegionHeld3
import Derived.Deep.CutRange
namespace Go.Proofs.YtdkomlgkkepioaaDoor
open Go.RowKit
set_option linter.unusedVariables false
/-- A machine as it lies while it runs. -/
structure MaB (w : World) (mb : Nat) (sl : Value) (c : Nat → Int) (t : Nat) : Prop where
  code : w.cell? ⟨mb, 0, none⟩ = some sl
  cnt : ∀ k, k < 4 → w.cell? ⟨mb, 1 + k, none⟩ = some (.int .i64 (c k))
  ats : w.cell? ⟨mb, 5, none⟩ = some (.int .i64 (t : Int))
  fro : ∀ k, w.frozen? ⟨mb, k, none⟩ = false
  lt : mb < w.heap.size
theorem MaB.below {w w' : World} {mb : Nat} {sl : Value} {c : Nat → Int} {t B : Nat} (h : MaB w mb sl c t) (hb : Below B w w') (hB : mb < B) : MaB w' mb sl c t :=
  have b := hb.block mb hB
  ⟨(World.cell?_of_block (w := w) (a := ⟨mb, 0, none⟩) b).trans h.code, fun k hk => (World.cell?_of_block (w := w) (a := ⟨mb, 1 + k, none⟩) b).trans (h.cnt k hk), (World.cell?_of_block (w := w) (a := ⟨mb, 5, none⟩) b).trans h.ats, fun k => (World.frozen?_of_block (w := w) (a := ⟨mb, k, none⟩) b).trans (h.fro k), Nat.lt_of_lt_of_le h.lt hb.size⟩
theorem MaB.drew {w : World} {mb : Nat} {sl : Value} {c : Nat → Int} {t : Nat} (h : MaB w mb sl c t) : MaB w.drew mb sl c t := h.below (B := w.heap.size) (Below.refl _ _).drew h.lt
end Go.Proofs.YtdkomlgkkepioaaDoor

namespace Go.Proofs.YtdkomlgkkepioaaDoor
open Go.RowKit Go.Extern.Stop Go.Stop Go.Extern
theorem is_typeOf (v : Value) (w : World) : (Extern.ReflectliteType.typeOf #[.iface 344 v]).run Tryd.prog w = .ok (.iface 281 (.agg #[.pointer (some ⟨13, 344, none⟩)])) w := by kernel_rfl
theorem is_comparable (w : World) : (callFunc 251 #[.agg #[.pointer (some ⟨13, 344, none⟩)]]).run Tryd.prog w = .ok (.value (.bool true)) w := by kernel_rfl
theorem is_methodC (v : Value) (w : World) : (Go.method 478 281 v "Comparable").run Tryd.prog w = .ok (251, v) w := by kernel_rfl
theorem is_comp : (Tryd.prog.info? 344).map (·.comparable) = some true := by kernel_rfl
theorem is_size : (Tryd.prog.info? 367).map (·.size) = some 1 := by kernel_rfl
theorem is_noIs (v : Value) (xT : TypeId) (w : World) : (Instr.typeAssert (.iface 94 v) xT 317 true).run Tryd.prog w = .ok (.tuple #[.nilIface, .bool false]) w := run_typeAssert_lacksB Tryd.underlying317 (by kernel_rfl) (by kernel_rfl) v xT w
theorem is_noUn (v : Value) (xT : TypeId) (w : World) : (Instr.typeAssert (.iface 94 v) xT 288 true).run Tryd.prog w = .ok (.tuple #[.nilIface, .bool false]) w := run_typeAssert_lacksB Tryd.underlying288 (by kernel_rfl) (by kernel_rfl) v xT w
theorem is_noUns (v : Value) (xT : TypeId) (w : World) : (Instr.typeAssert (.iface 94 v) xT 289 true).run Tryd.prog w = .ok (.tuple #[.nilIface, .bool false]) w := run_typeAssert_lacksB Tryd.underlying289 (by kernel_rfl) (by kernel_rfl) v xT w
theorem is_same (a : Addr) (w : World) :
    Calls Tryd.prog 129 #[.iface 344 (.pointer (some a)), .iface 344 (.pointer (some a))] w fun e w' => e = .returned (.bool true) ∧ w' = w := by
  obtain ⟨i, hi, hcmp⟩ := Option.map_eq_some_iff.1 is_comp
  obtain ⟨j, hj, hjs⟩ := Option.map_eq_some_iff.1 is_size
  have h8 := @run_callFunc_extern Tryd.prog 163 _ Extern.ReflectliteType.typeOf Tryd.func163 (by kernel_rfl) (by kernel_rfl) (by kernel_rfl) (by kernel_rfl)
  have h32 := is_comparable
  have tT := is_typeOf
  have mR := is_methodC
  have heq := run_eql_iface_ptr_same (P := Tryd.prog) w a Tryd.underlying31 Tryd.underlying344 hi hcmp hj
  go_enter Tryd.func129, Tryd.ntmps129
  go_wp2
  refine wp_loop_rounds 1 ?_
  rw [rounds_succ]
  go_wp2
  go_ret
  exact ⟨rfl, rfl⟩
theorem is_nil (b : Addr) (w : World) :
    Calls Tryd.prog 129 #[.nilIface, .iface 344 (.pointer (some b))] w fun e w' => e = .returned (.bool false) ∧ w' = w := by
  have hn := run_eql_iface_nil_left (P := Tryd.prog) w 344 (.pointer (some b)) Tryd.underlying31
  go_enter Tryd.func129, Tryd.ntmps129
  go_wp2
  go_ret
  exact ⟨rfl, rfl⟩
theorem is_errno (n : Int) (b : Addr) (w : World) :
    Calls Tryd.prog 129 #[.iface 94 (.int .i64 n), .iface 344 (.pointer (some b))] w fun e w' => e = .returned (.bool false) ∧ w' = w := by
  have h8 := @run_callFunc_extern Tryd.prog 163 _ Extern.ReflectliteType.typeOf Tryd.func163 (by kernel_rfl) (by kernel_rfl) (by kernel_rfl) (by kernel_rfl)
  have h32 := is_comparable
  have tT := is_typeOf
  have mR := is_methodC
  have nE := is_noIs
  have uE := is_noUn
  have vE := is_noUns
  have hty := run_eql_iface_types (P := Tryd.prog) 94 344 (.int .i64 n) (.pointer (some b)) Tryd.underlying31 (by decide) w
  go_enter Tryd.func129, Tryd.ntmps129
  go_wp2
  refine wp_loop_rounds 1 ?_
  rw [rounds_succ]
  go_wp2
  go_ret
  exact ⟨rfl, rfl⟩
end Go.Proofs.YtdkomlgkkepioaaDoor

namespace Go.Proofs.YtdkomlgkkepioaaDoor
open Go.RowKit
set_option linter.unusedVariables false
end Go.Proofs.YtdkomlgkkepioaaDoor

namespace Go.Proofs.YtdkomlgkkepioaaDoor
open Go.RowKit
set_option linter.unusedVariables false
/-- What is wrong with fuel. -/
def fuelE (f : Int) : Nat := if f < 0 ∨ 100000 < f then 1 else 0
theorem checkFuel_any (f : Int) (w : World) : Calls Tryd.prog 128 #[.int .i64 f] w fun e w' => e = .returned (errOf (fuelE f)) ∧ w' = w := by
  by_cases h1 : f < 0
  · have h2 : ¬ 100000 < f := by omega
    have F := hide' (show fuelE f = 1 by unfold fuelE; rw [if_pos (Or.inl h1)])
    go_enter Tryd.func128, Tryd.ntmps128
    go_wp2
    go_ret
    rw [F.out]; exact ⟨rfl, rfl⟩
  · by_cases h2 : 100000 < f
    · have F := hide' (show fuelE f = 1 by unfold fuelE; rw [if_pos (Or.inr h2)])
      go_enter Tryd.func128, Tryd.ntmps128
      go_wp2
      go_ret
      rw [F.out]; exact ⟨rfl, rfl⟩
    · have F := hide' (show fuelE f = 0 by unfold fuelE; rw [if_neg (by omega)])
      go_enter Tryd.func128, Tryd.ntmps128
      go_wp2
      go_ret
      rw [F.out]; exact ⟨rfl, rfl⟩
theorem errOf_is {f : Nat} (h : f ≠ 0) : errOf f = .iface 94 (.int .i64 (f : Int)) := by unfold errOf; rw [if_neg h]
end Go.Proofs.YtdkomlgkkepioaaDoor

namespace Go.Proofs.YtdkomlgkkepioaaDoor
open Go.RowKit
set_option linter.unusedVariables false
/-- The error that tells an end, as it lies. -/
def EndT (w : World) (eb : Addr) : Prop := w.cell? ⟨3, 0, none⟩ = some (.iface 344 (.pointer (some eb)))
theorem EndT.lt {w : World} {eb : Addr} (h : EndT w eb) : 3 < w.heap.size := by
  unfold EndT at h
  rcases Nat.lt_or_ge 3 w.heap.size with q | q
  · exact q
  · simp [World.cell?, Array.getElem?_eq_none q] at h
theorem EndT.below {w w' : World} {eb : Addr} {B : Nat} (h : EndT w eb) (hb : Below B w w') (hB : 3 < B) : EndT w' eb := by
  unfold EndT at h ⊢
  rw [hb.cell (p := ⟨3, 0, none⟩) hB]; exact h
end Go.Proofs.YtdkomlgkkepioaaDoor

namespace Go.Proofs.YtdkomlgkkepioaaDoor
open Go.RowKit
set_option linter.unusedVariables false
/-- Fractions that lie in a row. -/
structure ArgF (w : World) (xs : List FraT) (a : Option Addr) (n c : Nat) : Prop where
  len : n = xs.length
  max : n ≤ 9223372036854775807
  cells : ∀ k (h : k < xs.length), ∃ g off, a = some ⟨g, off, none⟩ ∧ g < w.heap.size ∧ w.cell? ⟨g, off + k * 2, none⟩ = some (.int .i64 xs[k].1) ∧ w.cell? ⟨g, off + k * 2 + 1, none⟩ = some (.int .i64 xs[k].2)
  fit : ∀ k (h : k < xs.length), xs[k].1 ≤ 9223372036854775807 ∧ xs[k].2 ≤ 9223372036854775807
theorem ArgF.below {w w' : World} {xs : List FraT} {a : Option Addr} {n c : Nat} {B : Nat} (h : ArgF w xs a n c) (hb : Below w.heap.size w w') : ArgF w' xs a n c :=
  ⟨h.len, h.max, fun k hk => by
    obtain ⟨g, off, e, hg, h1, h2⟩ := h.cells k hk
    have b := hb.block g hg
    exact ⟨g, off, e, Nat.lt_of_lt_of_le hg hb.size, (World.cell?_of_block (w := w) (a := ⟨g, off + k * 2, none⟩) b).trans h1, (World.cell?_of_block (w := w) (a := ⟨g, off + k * 2 + 1, none⟩) b).trans h2⟩, h.fit⟩
def fraB (p : FraT) : Bool := decide (1 ≤ p.1) && decide (1 ≤ p.2)
/-- What is wrong with a game. -/
def playE (xs : List FraT) (n f : Int) : Nat := if xs.all fraB then (if n < 1 then 1 else fuelE f) else 1
set_option maxRecDepth 100000 in
set_option maxHeartbeats 3200000 in
theorem checkPlay_any (xs : List FraT) (a : Option Addr) (m c : Nat) (n f : Int) (w : World) (hP : ArgF w xs a m c) :
    Calls Tryd.prog 92 #[.slice a m c, .int .i64 n, .int .i64 f] w fun e w' => e = .returned (errOf (playE xs n f)) ∧ Below w.heap.size w w' := by
  have HL := hide' hP.len
  have nm := hP.max
  have HP := hide' (fun (V : World) (h : Below w.heap.size w V) => hP.below (B := 0) h)
  have FU := hide' (fun V => checkFuel_any f V)
  clear hP
  go_enter Tryd.func92, Tryd.ntmps92
  go_wp2
  go_loopw [11] (fun kv wr => ∃ k : Nat, kv = .int .i64 (k : Int) ∧ k ≤ m ∧ Hid (Below w.heap.size w wr) ∧ Hid (∀ j (h : j < xs.length), j < k → fraB xs[j] = true)) (fun kv _ => m - (intOf kv).toNat)
  case atStart => exact ⟨0, rfl, by omega, hide' (Below.refl _ _), hide' (fun j h hj => by omega)⟩
  case round =>
    obtain ⟨k, rfl, hk, BW, HA⟩ := hrel
    by_cases d : (k : Int) < (m : Int)
    · have hkl : k < xs.length := by have := HL.out; omega
      obtain ⟨g, off, rfl, hg, c0, c1⟩ := (HP.out wr BW.out).cells k hkl
      obtain ⟨⟨x, y⟩, hx⟩ : ∃ x, xs[k] = x := ⟨_, rfl⟩
      rw [hx] at c0 c1
      simp only at c0 c1
      have HX := hide' hx
      have BN := hide' (show Below w.heap.size w (wr.alloc (.cells #[.int .i64 x, .int .i64 y] 166)) from BW.out.alloc BW.out.size _)
      clear hx
      have BAD := hide' (show fraB (x, y) = false → playE xs n f = 1 from fun q => by
        unfold playE
        rw [if_neg]
        intro al
        have := List.all_eq_true.1 al xs[k] (List.getElem_mem hkl)
        rw [HX.out, q] at this
        cases this)
      by_cases x1 : x < 1
      · have X := hide' (BAD.out (by unfold fraB; simp; omega))
        by_cases y1 : y < 1
        all_goals
          go_wp2
          go_ret
          rw [X.out]; exact ⟨rfl, BN.out⟩
      · by_cases y1 : y < 1
        · have X := hide' (BAD.out (by unfold fraB; simp; omega))
          go_wp2
          go_ret
          rw [X.out]; exact ⟨rfl, BN.out⟩
        · have X := hide' (show fraB xs[k] = true by rw [HX.out]; unfold fraB; simp; omega)
          go_wp2
          refine ⟨⟨k + 1, by go_num, by omega, BN, hide' fun j h hj => ?_⟩, by simp [intOf]; omega⟩
          by_cases e : j = k
          · subst e; exact X.out
          · exact HA.out j h (by omega)
    · have AL := hide' (show xs.all fraB = true from List.all_eq_true.2 fun p hp => by
        obtain ⟨j, hj, rfl⟩ := List.getElem_of_mem hp
        exact HA.out j hj (by have := HL.out; omega))
      by_cases n1 : n < 1
      · have X := hide' (show playE xs n f = 1 by unfold playE; rw [if_pos AL.out, if_pos n1])
        go_wp2
        go_ret
        rw [X.out]; exact ⟨rfl, BW.out⟩
      · have X := hide' (show playE xs n f = fuelE f by unfold playE; rw [if_pos AL.out, if_neg n1])
        go_wp2_with fail
        refine (FU.out _).mono ?_
        rintro e w2 ⟨rfl, rfl⟩
        go_wp2
        go_ret
        rw [X.out]; exact ⟨rfl, BW.out⟩
/-- The first of them for which n times it is whole. -/
def firstF (n : Nat) (xs : List FraT) : Option FraT := xs.find? fun p => fitsF n p.1.toNat p.2.toNat
def nextF (n : Nat) (p : FraT) : Nat := n * p.1.toNat / p.2.toNat
/-- What a game comes to: the number, how often, what is wrong. -/
def goG (xs : List FraT) : Nat → Nat → Nat → Nat × Nat × Nat
  | 0, n, k => match firstF n xs with | none => (n, k, 0) | some _ => (n, k, 6)
  | f + 1, n, k => match firstF n xs with | none => (n, k, 0) | some p => if 4611686018427387904 < nextF n p then (n, k, 4) else goG xs f (nextF n p) (k + 1)
theorem goG_end {xs : List FraT} {f n k : Nat} (h : firstF n xs = none) : goG xs f n k = (n, k, 0) := by cases f <;> simp [goG, h]
theorem goG_long {xs : List FraT} {n k : Nat} {p : FraT} (h : firstF n xs = some p) : goG xs 0 n k = (n, k, 6) := by simp [goG, h]
theorem goG_full {xs : List FraT} {f n k : Nat} {p : FraT} (h : firstF n xs = some p) (hf : 4611686018427387904 < nextF n p) : goG xs (f + 1) n k = (n, k, 4) := by simp [goG, h, hf]
theorem goG_next {xs : List FraT} {f n k : Nat} {p : FraT} (h : firstF n xs = some p) (hf : ¬ 4611686018427387904 < nextF n p) : goG xs (f + 1) n k = goG xs f (nextF n p) (k + 1) := by simp [goG, h, hf]
theorem first_at {n : Nat} : ∀ {xs : List FraT} {k : Nat} (hk : k < xs.length), (∀ j (h : j < xs.length), j < k → fitsF n xs[j].1.toNat xs[j].2.toNat = false) → fitsF n xs[k].1.toNat xs[k].2.toNat = true → firstF n xs = some xs[k]
  | p :: r, 0, _, _, h => by unfold firstF; rw [List.find?_cons_of_pos (by exact h)]; rfl
  | p :: r, k + 1, hk, h1, h2 => by
    have h0 := h1 0 (by simp) (by omega)
    have ih := first_at (xs := r) (k := k) (by simpa using hk) (fun j hj hjk => by have := h1 (j + 1) (by simp; omega) (by omega); simpa using this) (by simpa using h2)
    unfold firstF at ih ⊢
    rw [List.find?_cons_of_neg (by simpa using h0), ih]; rfl
theorem first_none {n : Nat} {xs : List FraT} (h : ∀ j (h : j < xs.length), fitsF n xs[j].1.toNat xs[j].2.toNat = false) : firstF n xs = none := by
  unfold firstF
  rw [List.find?_eq_none]
  intro p hp
  obtain ⟨j, hj, rfl⟩ := List.getElem_of_mem hp
  rw [h j hj]; simp
end Go.Proofs.YtdkomlgkkepioaaDoor

namespace Go.Proofs.YtdkomlgkkepioaaDoor
open Go.RowKit
set_option linter.unusedVariables false
structure GaB (w : World) (gb : Nat) (sl : Value) (n : Nat) : Prop where
  row : w.heap[gb]? = some (.cells #[sl, .int .i64 (n : Int)] 176 (0, 0))
theorem GaB.lt {w : World} {gb : Nat} {sl : Value} {n : Nat} (h : GaB w gb sl n) : gb < w.heap.size := lt_of_block h.row
theorem GaB.below {w w' : World} {gb : Nat} {sl : Value} {n B : Nat} (h : GaB w gb sl n) (hb : Below B w w') (hB : gb < B) : GaB w' gb sl n := ⟨(hb.block gb hB).trans h.row⟩
theorem GaB.set {w : World} {gb : Nat} {sl : Value} {n : Nat} (h : GaB w gb sl n) (m : Nat) : GaB (w.setCell ⟨gb, 1, none⟩ (.int .i64 (m : Int))) gb sl m := ⟨by rw [heap_setCell_same w gb 1 _ _ _ h.row]; rfl⟩
/-- What a step of a game answers. -/
def StepG (xs : List FraT) (gb B : Nat) (sl : Value) (n : Nat) (eb : Addr) (w : World) (e : Ending) (w' : World) : Prop :=
  (firstF n xs = none ∧ e = .returned (.iface 344 (.pointer (some eb))) ∧ Below w.heap.size w w') ∨
  (∃ p, firstF n xs = some p ∧ 4611686018427387904 < nextF n p ∧ e = .returned (.iface 94 (.int .i64 4)) ∧ Below w.heap.size w w') ∨
  (∃ p, firstF n xs = some p ∧ ¬ 4611686018427387904 < nextF n p ∧ e = .returned .nilIface ∧ GaB w' gb sl (nextF n p) ∧ Below B w w')
set_option maxRecDepth 100000 in
set_option maxHeartbeats 12800000 in
theorem gameStep_any (xs : List FraT) (a : Option Addr) (m c gb B n : Nat) (eb : Addr) (w : World) (hg : GaB w gb (.slice a m c) n) (hP : ArgF w xs a m c) (hE : EndT w eb) (hn : n < 9223372036854775808) (hB : B ≤ gb) (al : xs.all fraB = true) :
    Calls Tryd.prog 93 #[.pointer (some ⟨gb, 0, none⟩)] w (StepG xs gb B (.slice a m c) n eb w) := by
  have HL := hide' hP.len
  have nm := hP.max
  have HP := hide' (fun (V : World) (h : Below w.heap.size w V) => hP.below (B := 0) h)
  have HG := hide' (fun (V : World) (h : Below w.heap.size w V) => hg.below h hg.lt)
  have HE := hide' (fun (V : World) (h : Below w.heap.size w V) => hE.below h hE.lt)
  have GL := hide' hg.lt
  have c0 := cell_of_row w _ 0 _ _ _ hg.row
  simp at c0
  have FB := hide' (show ∀ k (h : k < xs.length), ∃ u l : Nat, xs[k] = ((u : Int), (l : Int)) ∧ 0 < u ∧ 0 < l ∧ u < 9223372036854775808 ∧ l < 9223372036854775808 from fun k h => by
    have := List.all_eq_true.1 al xs[k] (List.getElem_mem h)
    have hf := hP.fit k h
    unfold fraB at this
    simp at this
    exact ⟨xs[k].1.toNat, xs[k].2.toNat, by rw [Int.toNat_of_nonneg (by omega), Int.toNat_of_nonneg (by omega)], by omega, by omega, by omega, by omega⟩)
  clear hP hg hE al
  go_enter Tryd.func93, Tryd.ntmps93
  go_wp2
  clear c0
  go_loopw [12] (fun kv wr => ∃ k : Nat, kv = .int .i64 (k : Int) ∧ k ≤ m ∧ Hid (Below w.heap.size w wr) ∧ Hid (∀ j (h : j < xs.length), j < k → fitsF n xs[j].1.toNat xs[j].2.toNat = false)) (fun kv _ => m - (intOf kv).toNat)
  case atStart => exact ⟨0, rfl, by omega, hide' (Below.refl _ _), hide' (fun j h hj => by omega)⟩
  case round =>
    obtain ⟨k, rfl, hk, BW, HA⟩ := hrel
    by_cases d : (k : Int) < (m : Int)
    · have hkl : k < xs.length := by have := HL.out; omega
      obtain ⟨g, off, rfl, hgg, c0, c1⟩ := (HP.out wr BW.out).cells k hkl
      obtain ⟨u, l, hx, u0, l0, um, lm⟩ := FB.out k hkl
      rw [hx] at c0 c1
      simp only at c0 c1
      obtain ⟨w2, hw2⟩ : ∃ w2, wr.alloc (.cells #[.int .i64 (u : Int), .int .i64 (l : Int)] 166) = w2 := ⟨_, rfl⟩
      have BN := hide' (show Below w.heap.size w w2 from by rw [← hw2]; exact BW.out.alloc BW.out.size _)
      have r2 := hide' (show w2.heap[wr.heap.size]? = some (.cells #[.int .i64 (u : Int), .int .i64 (l : Int)] 166 (0, 0)) by rw [← hw2]; exact heap_alloc_new _ _)
      have f0 := cell_of_row w2 _ 0 _ _ _ r2.out
      have f1 := cell_of_row w2 _ 1 _ _ _ r2.out
      have g1 := cell_of_row w2 _ 1 _ _ _ (HG.out w2 BN.out).row
      simp at f0 f1 g1
      have SV := hide' (fun (V : World) (h : Below w2.heap.size w2 V) => show V.cell? ⟨wr.heap.size, 0, none⟩ = some (.int .i64 (u : Int)) ∧ V.cell? ⟨wr.heap.size, 1, none⟩ = some (.int .i64 (l : Int)) ∧ V.cell? ⟨gb, 1, none⟩ = some (.int .i64 (n : Int)) from ⟨(h.cell (p := ⟨wr.heap.size, 0, none⟩) (lt_of_block r2.out)).trans f0, (h.cell (p := ⟨wr.heap.size, 1, none⟩) (lt_of_block r2.out)).trans f1, (h.cell (p := ⟨gb, 1, none⟩) (Nat.lt_of_lt_of_le GL.out BN.out.size)).trans g1⟩)
      have FI := hide' (fun V => fits_anyC n u l hn um lm l0 V)
      have HX := hide' (show fitsF n xs[k].1.toNat xs[k].2.toNat = fitsF n u l by rw [hx]; simp)
      have NX := hide' (show nextF n xs[k] = n * u / l by unfold nextF; rw [hx]; simp)
      clear hx
      cases hf : fitsF n u l
      · rw [hf] at FI
        have NO := hide' (show ∀ j (h : j < xs.length), j < k + 1 → fitsF n xs[j].1.toNat xs[j].2.toNat = false from fun j h hj => by
          by_cases e : j = k
          · subst e; rw [HX.out]; exact hf
          · exact HA.out j h (by omega))
        clear hf
        go_upto_region 4 with fail
        clear hw2
        go_region_held3 (fun V => V.cell? ⟨wr.heap.size, 0, none⟩ = some (.int .i64 (u : Int)) ∧ V.cell? ⟨wr.heap.size, 1, none⟩ = some (.int .i64 (l : Int)) ∧ V.cell? ⟨gb, 1, none⟩ = some (.int .i64 (n : Int))) (first | exact SV.out _ (Below.refl _ _) | exact SV.out _ (Below.refl _ _).drew | exact SV.out _ B3.out | fail)
          (first | (go_at_call 132; refine (FI.out _).mono ?_; rintro e w3 ⟨rfl, b3⟩; have B3 := hide' (show Below w2.heap.size w2 w3 from ((Below.refl _ _).drew).trans b3)) | fail)
        go_wp2
        exact ⟨⟨k + 1, by go_num, by omega, hide' (BN.out.trans (B3.out.mono BN.out.size)), NO⟩, by simp [intOf]; omega⟩
      · rw [hf] at FI
        have FR := hide' (first_at hkl HA.out (by rw [HX.out]; exact hf))
        clear hf
        by_cases fu : 4611686018427387904 < n * u / l
        · have TI := hide' (fun V => times_full n u l hn um lm l0 V fu)
          have FIN := hide' (show ∀ V, Below w.heap.size w V → StepG xs gb B (.slice (some ⟨g, off, none⟩) m c) n eb w (.returned (.iface 94 (.int .i64 4))) V from fun V hb => Or.inr (Or.inl ⟨xs[k], FR.out, by rw [NX.out]; exact fu, rfl, hb⟩))
          clear fu
          go_upto_region 4 with fail
          clear hw2
          go_region_held3 (fun V => V.cell? ⟨wr.heap.size, 0, none⟩ = some (.int .i64 (u : Int)) ∧ V.cell? ⟨wr.heap.size, 1, none⟩ = some (.int .i64 (l : Int)) ∧ V.cell? ⟨gb, 1, none⟩ = some (.int .i64 (n : Int))) (first | exact SV.out _ (Below.refl _ _) | exact SV.out _ (Below.refl _ _).drew | exact SV.out _ B3.out | fail)
            (first | (go_at_call 132; refine (FI.out _).mono ?_; rintro e w3 ⟨rfl, b3⟩; have B3 := hide' (show Below w2.heap.size w2 w3 from ((Below.refl _ _).drew).trans b3)) | fail)
          clear f0 f1 g1 c0 c1
          go_wp2
          go_region_held3 (fun V => V.cell? ⟨wr.heap.size, 0, none⟩ = some (.int .i64 (u : Int)) ∧ V.cell? ⟨wr.heap.size, 1, none⟩ = some (.int .i64 (l : Int)) ∧ V.cell? ⟨gb, 1, none⟩ = some (.int .i64 (n : Int))) (first | exact SV.out _ B3.out | exact SV.out _ B3.out.drew | exact SV.out _ B4.out | fail)
            (first | (go_at_call 133; refine (TI.out _).mono ?_; rintro e w4 ⟨rfl, b4⟩; have B4 := hide' (show Below w2.heap.size w2 w4 from B3.out.drew.trans (b4.mono B3.out.size))) | fail)
          go_wp2
          go_ret
          exact FIN.out _ (BN.out.trans (B4.out.mono BN.out.size))
        · have TI := hide' (fun V => times_ok n u l hn um lm l0 V (by omega))
          have FIN := hide' (show ∀ V, GaB V gb (.slice (some ⟨g, off, none⟩) m c) (n * u / l) → Below B w V → StepG xs gb B (.slice (some ⟨g, off, none⟩) m c) n eb w (.returned .nilIface) V from fun V h1 hb => Or.inr (Or.inr ⟨xs[k], FR.out, by rw [NX.out]; exact fu, rfl, by rw [NX.out]; exact h1, hb⟩))
          obtain ⟨q, hq⟩ : ∃ q, n * u / l = q := ⟨_, rfl⟩
          rw [hq] at FIN TI
          clear fu hq
          go_upto_region 4 with fail
          clear hw2
          go_region_held3 (fun V => V.cell? ⟨wr.heap.size, 0, none⟩ = some (.int .i64 (u : Int)) ∧ V.cell? ⟨wr.heap.size, 1, none⟩ = some (.int .i64 (l : Int)) ∧ V.cell? ⟨gb, 1, none⟩ = some (.int .i64 (n : Int))) (first | exact SV.out _ (Below.refl _ _) | exact SV.out _ (Below.refl _ _).drew | exact SV.out _ B3.out | fail)
            (first | (go_at_call 132; refine (FI.out _).mono ?_; rintro e w3 ⟨rfl, b3⟩; have B3 := hide' (show Below w2.heap.size w2 w3 from ((Below.refl _ _).drew).trans b3)) | fail)
          clear f0 f1 g1 c0 c1
          go_wp2
          go_region_held3 (fun V => V.cell? ⟨wr.heap.size, 0, none⟩ = some (.int .i64 (u : Int)) ∧ V.cell? ⟨wr.heap.size, 1, none⟩ = some (.int .i64 (l : Int)) ∧ V.cell? ⟨gb, 1, none⟩ = some (.int .i64 (n : Int))) (first | exact SV.out _ B3.out | exact SV.out _ B3.out.drew | exact SV.out _ B4.out | fail)
            (first | (go_at_call 133; refine (TI.out _).mono ?_; rintro e w4 ⟨rfl, b4⟩; have B4 := hide' (show Below w2.heap.size w2 w4 from B3.out.drew.trans (b4.mono B3.out.size))) | fail)
          have G4 := hide' (HG.out w4 (BN.out.trans (B4.out.mono BN.out.size)))
          have s1 := cell_of_row w4 _ 1 _ _ _ G4.out.row
          have z1 := frozen_of_row w4 _ 1 _ _ G4.out.row
          simp at s1
          go_wp2
          go_ret
          exact FIN.out _ (G4.out.set q) (((BN.out.trans (B4.out.mono BN.out.size)).mono (Nat.le_of_lt (Nat.lt_of_le_of_lt hB GL.out))).setCell hB _)
    · have FR := hide' (first_none (n := n) (xs := xs) (fun j hj => HA.out j hj (by have := HL.out; omega)))
      have E1 : wr.cell? ⟨3, 0, none⟩ = some (.iface 344 (.pointer (some eb))) := HE.out wr BW.out
      go_wp2
      go_ret
      exact Or.inl ⟨FR.out, rfl, BW.out⟩
end Go.Proofs.YtdkomlgkkepioaaDoor

