/-
  What the last text of this claim leans on, part 4: Ca3, Ca4, Ca1, Ca5, Ca6, Ca7, Ca8, Ca9, Cd3, Cb1, Cb2, Cb3, Cb4, Cb5, Ce1, Cg1, Ce2, Cg0, Cj2.
-/
import Derived.Test.YtncinpkbiphpoaaDoorZr3
import Derived.Test.YtncinpkbiphpoaaDoorProg
import Derived.Test.YtncinpkbiphpoaaDoorShelf
import Derived.WalkKit
import Derived.LaidEql
import Derived.Stop.Asserts
import Derived.RowKitTokens
import Derived.Laws.IdiomCopy
import Derived.Lib.SliceRun
import Derived.Deep.CutRange
import Derived.Lib.ItoaNum
import Derived.Laws.BitsAllLaws
import Derived.BigQuiet
import Derived.Maps.AppendAt
import Derived.Deep.AppendLies
import Derived.Deep.RegionHeld3
namespace Go.Proofs.YtncinpkbiphpoaaDoor
open Go.RowKit
set_option linter.unusedVariables false
/-- Lines that lie in a row. -/
structure ArgI (w : World) (xs : List InsT) (a : Option Addr) (n c : Nat) : Prop where
  len : n = xs.length
  max : n ≤ 9223372036854775807
  cells : ∀ k (h : k < xs.length), ∃ g off, a = some ⟨g, off, none⟩ ∧ g < w.heap.size ∧ w.cell? ⟨g, off + k * 4, none⟩ = some (.int .i64 xs[k].1) ∧ w.cell? ⟨g, off + k * 4 + 1, none⟩ = some (.int .i64 xs[k].2.1) ∧ w.cell? ⟨g, off + k * 4 + 2, none⟩ = some (.int .i64 xs[k].2.2.1) ∧ w.cell? ⟨g, off + k * 4 + 3, none⟩ = some (.int .i64 xs[k].2.2.2)
theorem ArgI.below {w w' : World} {xs : List InsT} {a : Option Addr} {n c : Nat} (h : ArgI w xs a n c) (hb : Below w.heap.size w w') : ArgI w' xs a n c :=
  ⟨h.len, h.max, fun k hk => by
    obtain ⟨g, off, e, hg, h1, h2, h3, h4⟩ := h.cells k hk
    have b := hb.block g hg
    exact ⟨g, off, e, Nat.lt_of_lt_of_le hg hb.size, (World.cell?_of_block (w := w) (a := ⟨g, off + k * 4, none⟩) b).trans h1, (World.cell?_of_block (w := w) (a := ⟨g, off + k * 4 + 1, none⟩) b).trans h2, (World.cell?_of_block (w := w) (a := ⟨g, off + k * 4 + 2, none⟩) b).trans h3, (World.cell?_of_block (w := w) (a := ⟨g, off + k * 4 + 3, none⟩) b).trans h4⟩⟩
/-- What is wrong with a machine. -/
def codeE (xs : List InsT) : Nat := if xs.length < 1 ∨ 12 < xs.length then 4 else if xs.all (insB (xs.length : Int)) then 0 else 1
theorem code_bad {xs : List InsT} (h1 : 1 ≤ xs.length) (h2 : xs.length ≤ 12) {k : Nat} (hk : k < xs.length) (h : insB (xs.length : Int) xs[k] = false) : codeE xs = 1 := by
  unfold codeE
  rw [if_neg (by omega), if_neg]
  intro q
  have := List.all_eq_true.1 q xs[k] (List.getElem_mem hk)
  rw [h] at this; cases this
theorem code_ok {xs : List InsT} (h1 : 1 ≤ xs.length) (h2 : xs.length ≤ 12) (h : ∀ k (hk : k < xs.length), insB (xs.length : Int) xs[k] = true) : codeE xs = 0 := by
  unfold codeE
  rw [if_neg (by omega), if_pos]
  refine List.all_eq_true.2 fun x hx => ?_
  obtain ⟨k, hk, rfl⟩ := List.getElem_of_mem hx
  exact h k hk
theorem code_at {xs : List InsT} (h : codeE xs = 0) : 1 ≤ xs.length ∧ xs.length ≤ 12 ∧ ∀ k (hk : k < xs.length), insB (xs.length : Int) xs[k] = true := by
  unfold codeE at h
  split at h
  · cases h
  · rename_i q
    split at h
    · rename_i r
      exact ⟨by omega, by omega, fun k hk => List.all_eq_true.1 r _ (List.getElem_mem hk)⟩
    · cases h
set_option maxRecDepth 100000 in
set_option maxHeartbeats 3200000 in
theorem counterCheck_any (xs : List InsT) (a : Option Addr) (n c : Nat) (w : World) (hP : ArgI w xs a n c) (hU : UsT w) :
    Calls Tryd.prog 9 #[.slice a n c] w fun e w' => e = .returned (errOf (codeE xs)) ∧ Below w.heap.size w w' := by
  have HL := hide' hP.len
  have nm := hP.max
  by_cases n1 : n < 1
  · have F := hide' (show codeE xs = 4 by unfold codeE; rw [if_pos]; have := HL.out; omega)
    have m1 : (n : Int) < 1 := by omega
    have m2 : ¬ 12 < (n : Int) := by omega
    clear n1 hP
    go_enter Tryd.func9, Tryd.ntmps9
    go_wp2
    go_ret
    rw [F.out]; exact ⟨rfl, Below.refl _ _⟩
  · by_cases n2 : 12 < n
    · have F := hide' (show codeE xs = 4 by unfold codeE; rw [if_pos]; have := HL.out; omega)
      have m1 : ¬ (n : Int) < 1 := by omega
      have m2 : 12 < (n : Int) := by omega
      clear n1 n2 hP
      go_enter Tryd.func9, Tryd.ntmps9
      go_wp2
      go_ret
      rw [F.out]; exact ⟨rfl, Below.refl _ _⟩
    · have m1 : ¬ (n : Int) < 1 := by omega
      have m2 : ¬ 12 < (n : Int) := by omega
      have HP := hide' (fun (V : World) (h : Below w.heap.size w V) => hP.below h)
      have HU := hide' (fun (V : World) (h : Below w.heap.size w V) => hU.below h)
      have HI := hide' (fun p V h => isLine_any (n : Int) p V h)
      have N12 := hide' (And.intro n1 n2)
      clear hP hU n1 n2
      go_enter Tryd.func9, Tryd.ntmps9
      go_wp2
      go_loopw [16] (fun kv wr => ∃ k : Nat, kv = .int .i64 (k : Int) ∧ k ≤ n ∧ Hid (Below w.heap.size w wr) ∧ Hid (∀ j (h : j < xs.length), j < k → insB (xs.length : Int) xs[j] = true)) (fun kv _ => n - (intOf kv).toNat)
      case atStart => exact ⟨0, rfl, by omega, hide' (Below.refl _ _), hide' (fun j h hj => by omega)⟩
      case round =>
        obtain ⟨k, rfl, hk, BW, HA⟩ := hrel
        by_cases d : (k : Int) < (n : Int)
        · have hkl : k < xs.length := by have := HL.out; omega
          obtain ⟨g, off, rfl, hg, c0, c1, c2, c3⟩ := (HP.out wr BW.out).cells k hkl
          obtain ⟨⟨x, y, z, t⟩, hx⟩ : ∃ x, xs[k] = x := ⟨_, rfl⟩
          rw [hx] at c0 c1 c2 c3
          simp only at c0 c1 c2 c3
          obtain ⟨w2, hw2⟩ : ∃ w2, wr.alloc (.cells #[.int .i64 x, .int .i64 y, .int .i64 z, .int .i64 t] 34) = w2 := ⟨_, rfl⟩
          have BN := hide' (show Below w.heap.size w w2 from by rw [← hw2]; exact BW.out.alloc BW.out.size _)
          have r2 := hide' (show w2.heap[wr.heap.size]? = some (.cells #[.int .i64 x, .int .i64 y, .int .i64 z, .int .i64 t] 34 (0, 0)) by rw [← hw2]; exact heap_alloc_new _ _)
          have e0 := cell_of_row w2 _ 0 _ _ _ r2.out
          have e1 := cell_of_row w2 _ 1 _ _ _ r2.out
          have e2 := cell_of_row w2 _ 2 _ _ _ r2.out
          have e3 := cell_of_row w2 _ 3 _ _ _ r2.out
          simp at e0 e1 e2 e3
          have IL := hide' (HI.out (x, y, z, t) w2 (HU.out w2 BN.out))
          simp only at IL
          cases hn : insB (n : Int) (x, y, z, t)
          · have X := hide' (show codeE xs = 1 from by have := N12.out; have := HL.out; exact code_bad (by omega) (by omega) hkl (by rw [← HL.out, hx]; exact hn))
            rw [hn] at IL
            clear hn hx
            go_upto_region 6 with fail
            clear hw2
            go_wp2_with (go_at_call 15; refine IL.out.mono ?_; rintro e w3 ⟨rfl, b3⟩)
            go_ret
            rw [X.out]
            exact ⟨rfl, BN.out.trans (b3.mono BN.out.size)⟩
          · have X := hide' (show insB (xs.length : Int) xs[k] = true from by rw [← HL.out, hx]; exact hn)
            rw [hn] at IL
            clear hn hx
            go_upto_region 6 with fail
            clear hw2
            go_wp2_with (go_at_call 15; refine IL.out.mono ?_; rintro e w3 ⟨rfl, b3⟩)
            refine ⟨⟨k + 1, by go_num, by omega, hide' (BN.out.trans (b3.mono BN.out.size)), hide' fun j h hj => ?_⟩, by simp [intOf]; omega⟩
            by_cases e : j = k
            · subst e; exact X.out
            · exact HA.out j h (by omega)
        · have X := hide' (show codeE xs = 0 from by have := N12.out; have := HL.out; exact code_ok (by omega) (by omega) (fun j h => HA.out j h (by omega)))
          go_wp2
          go_ret
          rw [X.out]
          exact ⟨rfl, BW.out⟩
end Go.Proofs.YtncinpkbiphpoaaDoor

namespace Go.Proofs.YtncinpkbiphpoaaDoor
open Go.RowKit
set_option linter.unusedVariables false
def updM (c : Nat → Int) (k : Nat) (v : Int) : Nat → Int := fun j => if j = k then v else c j
/-- A machine as it lies while it runs. -/
structure MaB (w : World) (mb : Nat) (sl : Value) (c : Nat → Int) (t : Nat) : Prop where
  code : w.cell? ⟨mb, 0, none⟩ = some sl
  cnt : ∀ k, k < 4 → w.cell? ⟨mb, 1 + k, none⟩ = some (.int .i64 (c k))
  ats : w.cell? ⟨mb, 5, none⟩ = some (.int .i64 (t : Int))
  fro : ∀ k, w.frozen? ⟨mb, k, none⟩ = false
  lt : mb < w.heap.size
theorem MaB.below {w w' : World} {mb : Nat} {sl : Value} {c : Nat → Int} {t B : Nat} (h : MaB w mb sl c t) (hb : Below B w w') (hB : mb < B) : MaB w' mb sl c t :=
  have b := hb.block mb hB
  ⟨(World.cell?_of_block (w := w) (a := ⟨mb, 0, none⟩) b).trans h.code, fun k hk => (World.cell?_of_block (w := w) (a := ⟨mb, 1 + k, none⟩) b).trans (h.cnt k hk), (World.cell?_of_block (w := w) (a := ⟨mb, 5, none⟩) b).trans h.ats, fun k => (World.frozen?_of_block (w := w) (a := ⟨mb, k, none⟩) b).trans (h.fro k), Nat.lt_of_lt_of_le h.lt hb.size⟩
theorem MaB.drew {w : World} {mb : Nat} {sl : Value} {c : Nat → Int} {t : Nat} (h : MaB w mb sl c t) : MaB w.drew mb sl c t := h.below (B := w.heap.size) (Below.refl _ _).drew h.lt
end Go.Proofs.YtncinpkbiphpoaaDoor

namespace Go.Proofs.YtncinpkbiphpoaaDoor
open Go.RowKit Go.Extern.Stop Go.Stop Go.Extern
end Go.Proofs.YtncinpkbiphpoaaDoor

namespace Go.Proofs.YtncinpkbiphpoaaDoor
open Go.RowKit
set_option linter.unusedVariables false
end Go.Proofs.YtncinpkbiphpoaaDoor

namespace Go.Proofs.YtncinpkbiphpoaaDoor
open Go.RowKit
set_option linter.unusedVariables false
theorem errOf_is {f : Nat} (h : f ≠ 0) : errOf f = .iface 38 (.int .i64 (f : Int)) := by unfold errOf; rw [if_neg h]
end Go.Proofs.YtncinpkbiphpoaaDoor

namespace Go.Proofs.YtncinpkbiphpoaaDoor
open Go.RowKit
set_option linter.unusedVariables false
end Go.Proofs.YtncinpkbiphpoaaDoor

namespace Go.Proofs.YtncinpkbiphpoaaDoor
open Go.RowKit
set_option linter.unusedVariables false
theorem info_intC : (Tryd.prog.info? 3).map (fun i => (i.zero, i.size, i.bytes)) = some (some (.int .i64 0), 1, 8) := by kernel_rfl
end Go.Proofs.YtncinpkbiphpoaaDoor

namespace Go.Proofs.YtncinpkbiphpoaaDoor
open Go.RowKit
set_option linter.unusedVariables false
theorem argP_nil (w : World) (a : Option Addr) (c : Nat) : ArgP w [] a 0 c := ⟨rfl, by unfold maxLen; omega, fun k hk => by cases hk⟩
end Go.Proofs.YtncinpkbiphpoaaDoor

namespace Go.Proofs.YtncinpkbiphpoaaDoor
open Go.RowKit
set_option linter.unusedVariables false
theorem own_slice {w : World} {base : Nat} {e : TypeId} {size n : Nat} {v : Value} {xs : List Value} (h : w.ownsRow base e size v n xs) : ∃ a q, v = .slice a n q := by
  rcases h.2 with ⟨rfl, rfl⟩ | ⟨g, cap, cur, rfl, -⟩
  · exact ⟨none, 0, rfl⟩
  · exact ⟨_, cap, rfl⟩
end Go.Proofs.YtncinpkbiphpoaaDoor

namespace Go.Proofs.YtncinpkbiphpoaaDoor
set_option linter.unusedVariables false
theorem dg_mul (q v1 v0 B : Nat) : q * (v1 * B + v0) = q * v1 * B + q * v0 := by rw [Nat.mul_add, ← Nat.mul_assoc]
theorem dg_low {u v1 v0 d B q r : Nat} (h : q * v1 + r = u) (h2 : q * v0 ≤ B * r + d) : q * (v1 * B + v0) ≤ u * B + d := by
  rw [dg_mul, ← h, Nat.add_mul, Nat.mul_comm r B]; omega
theorem dg_high {u v1 v0 d B q r : Nat} (h : q * v1 + r = u) (h2 : B * r + d < q * v0) : u * B + d < q * (v1 * B + v0) := by
  rw [dg_mul, ← h, Nat.add_mul, Nat.mul_comm r B]; omega
/-- While a digit is looked for: not below the true one. -/
structure Dg (u v1 v0 d B q r : Nat) : Prop where
  sum : q * v1 + r = u
  lt : r < B
  up : u * B + d < (q + 1) * (v1 * B + v0)
  le : q ≤ B + 1
theorem Dg.start {u v1 v0 d B : Nat} (hv : B ≤ 2 * v1) (h1 : v1 < B) (h0 : v0 < B) (hd : d < B) (hu : u < v1 * B + v0) : Dg u v1 v0 d B (u / v1) (u % v1) := by
  have v0' : 0 < v1 := by omega
  have hm := Nat.mod_lt u v0'
  have hs := Nat.div_add_mod u v1
  refine ⟨by rw [Nat.mul_comm]; exact hs, by omega, ?_, ?_⟩
  · have h2 : u + 1 ≤ (u / v1 + 1) * v1 := by rw [Nat.add_mul, Nat.one_mul, Nat.mul_comm]; omega
    have h3 : (u + 1) * B ≤ (u / v1 + 1) * v1 * B := Nat.mul_le_mul_right B h2
    rw [dg_mul]
    have h4 : (u + 1) * B = u * B + B := by rw [Nat.add_mul, Nat.one_mul]
    omega
  · have h2 : u < v1 * (B + 2) := by rw [Nat.mul_add]; omega
    have := Nat.div_lt_of_lt_mul h2
    omega
theorem Dg.next {u v1 v0 d B q r : Nat} (h : Dg u v1 v0 d B q r) (hd : d < B) (hu : u < v1 * B + v0) (t : B ≤ q ∨ B * r + d < q * v0) : 1 ≤ q ∧ (q - 1) * v1 + (r + v1) = u ∧ u * B + d < (q - 1 + 1) * (v1 * B + v0) ∧ q - 1 ≤ B := by
  have hlt : u * B + d < q * (v1 * B + v0) := by
    rcases t with t | t
    · have h1 : (u + 1) * B ≤ (v1 * B + v0) * B := Nat.mul_le_mul_right B hu
      have h2 : B * (v1 * B + v0) ≤ q * (v1 * B + v0) := Nat.mul_le_mul_right _ t
      rw [Nat.mul_comm B] at h2
      have h4 : (u + 1) * B = u * B + B := by rw [Nat.add_mul, Nat.one_mul]
      omega
    · exact dg_high h.sum t
  have q1 : 1 ≤ q := by
    rcases Nat.eq_zero_or_pos q with z | z
    · rw [z, Nat.zero_mul] at hlt; omega
    · exact z
  obtain ⟨p, rfl⟩ : ∃ p, q = p + 1 := ⟨q - 1, by omega⟩
  have hs := h.sum
  have := h.le
  rw [Nat.add_mul, Nat.one_mul] at hs
  simp only [Nat.add_sub_cancel]
  exact ⟨q1, by omega, hlt, by omega⟩
/-- The digit is found. -/
def DgIs (u v1 v0 d B q : Nat) : Prop := q * (v1 * B + v0) ≤ u * B + d ∧ u * B + d < (q + 1) * (v1 * B + v0) 
theorem Dg.fin {u v1 v0 d B q r : Nat} (h : Dg u v1 v0 d B q r) (t : q * v0 ≤ B * r + d) : DgIs u v1 v0 d B q := ⟨dg_low h.sum t, h.up⟩
theorem DgIs.lt {u v1 v0 d B q : Nat} (h : DgIs u v1 v0 d B q) (hd : d < B) (hu : u < v1 * B + v0) : q < B := by
  rcases Nat.lt_or_ge q B with k | k
  · exact k
  · have h1 : (u + 1) * B ≤ (v1 * B + v0) * B := Nat.mul_le_mul_right B hu
    have h2 : B * (v1 * B + v0) ≤ q * (v1 * B + v0) := Nat.mul_le_mul_right _ k
    rw [Nat.mul_comm B] at h2
    have h4 : (u + 1) * B = u * B + B := by rw [Nat.add_mul, Nat.one_mul]
    have := h.1
    omega
end Go.Proofs.YtncinpkbiphpoaaDoor

namespace Go.Proofs.YtncinpkbiphpoaaDoor
open Go.RowKit
set_option linter.unusedVariables false
end Go.Proofs.YtncinpkbiphpoaaDoor

namespace Go.Proofs.YtncinpkbiphpoaaDoor
open Go.RowKit
set_option linter.unusedVariables false
end Go.Proofs.YtncinpkbiphpoaaDoor

namespace Go.Proofs.YtncinpkbiphpoaaDoor
open Go.RowKit
set_option linter.unusedVariables false
/-- A fraction: what is above, what is below. -/
abbrev FraT := Int × Int
end Go.Proofs.YtncinpkbiphpoaaDoor

namespace Go.Proofs.YtncinpkbiphpoaaDoor
open Go.RowKit
set_option linter.unusedVariables false
/-- Fractions that lie in a row. -/
structure ArgF (w : World) (xs : List FraT) (a : Option Addr) (n c : Nat) : Prop where
  len : n = xs.length
  max : n ≤ 9223372036854775807
  cells : ∀ k (h : k < xs.length), ∃ g off, a = some ⟨g, off, none⟩ ∧ g < w.heap.size ∧ w.cell? ⟨g, off + k * 2, none⟩ = some (.int .i64 xs[k].1) ∧ w.cell? ⟨g, off + k * 2 + 1, none⟩ = some (.int .i64 xs[k].2)
  fit : ∀ k (h : k < xs.length), xs[k].1 ≤ 9223372036854775807 ∧ xs[k].2 ≤ 9223372036854775807
theorem ArgF.below {w w' : World} {xs : List FraT} {a : Option Addr} {n c : Nat} {B : Nat} (h : ArgF w xs a n c) (hb : Below w.heap.size w w') : ArgF w' xs a n c :=
  ⟨h.len, h.max, fun k hk => by
    obtain ⟨g, off, e, hg, h1, h2⟩ := h.cells k hk
    have b := hb.block g hg
    exact ⟨g, off, e, Nat.lt_of_lt_of_le hg hb.size, (World.cell?_of_block (w := w) (a := ⟨g, off + k * 2, none⟩) b).trans h1, (World.cell?_of_block (w := w) (a := ⟨g, off + k * 2 + 1, none⟩) b).trans h2⟩, h.fit⟩
end Go.Proofs.YtncinpkbiphpoaaDoor

namespace Go.Proofs.YtncinpkbiphpoaaDoor
open Go.RowKit
set_option linter.unusedVariables false
end Go.Proofs.YtncinpkbiphpoaaDoor

namespace Go.Proofs.YtncinpkbiphpoaaDoor
open Go.RowKit
set_option linter.unusedVariables false
theorem ArgI.cel {w : World} {xs : List InsT} {g off n c : Nat} (h : ArgI w xs (some ⟨g, off, none⟩) n c) (k : Nat) (hk : k < xs.length) : w.cell? ⟨g, off + k * 4, none⟩ = some (.int .i64 xs[k].1) ∧ w.cell? ⟨g, off + k * 4 + 1, none⟩ = some (.int .i64 xs[k].2.1) ∧ w.cell? ⟨g, off + k * 4 + 2, none⟩ = some (.int .i64 xs[k].2.2.1) ∧ w.cell? ⟨g, off + k * 4 + 3, none⟩ = some (.int .i64 xs[k].2.2.2) := by
  obtain ⟨g', o', e, _, h1, h2, h3, h4⟩ := h.cells k hk
  cases e
  exact ⟨h1, h2, h3, h4⟩
end Go.Proofs.YtncinpkbiphpoaaDoor

namespace Go.Proofs.YtncinpkbiphpoaaDoor
open Go.RowKit
set_option linter.unusedVariables false
theorem own_range {w : World} {base size : Nat} {e : TypeId} {v : Value} {n : Nat} {xs : List Value} (h : w.ownsRow base e size v n xs) : ∀ k, v.ownBlock = some k → base ≤ k ∧ k < w.heap.size := fun k hk => by
  rcases h.2 with ⟨rfl, _⟩ | ⟨g, cap, cur, rfl, hb, hg, _⟩
  · cases hk
  · simp [Value.ownBlock] at hk; subst hk; exact ⟨hb, lt_of_block hg⟩
end Go.Proofs.YtncinpkbiphpoaaDoor

namespace Go.Proofs.YtncinpkbiphpoaaDoor
open Go.RowKit
set_option linter.unusedVariables false
def wordL (x : Nat) : List UInt8 := [[], [105, 110, 99], [100, 101, 99], [104, 97, 108, 116]].getD x []
/-- The words, as they lie. -/
def WoT (w : World) : Prop := ∀ k, k < 4 → w.cell? ⟨2, k, none⟩ = some (.string ⟨(wordL k).toArray⟩)
theorem WoT.lt {w : World} (h : WoT w) : 2 < w.heap.size := by
  rcases Nat.lt_or_ge 2 w.heap.size with q | q
  · exact q
  · have := h 0 (by omega)
    simp [World.cell?, Array.getElem?_eq_none q] at this
theorem WoT.below {w w' : World} (h : WoT w) (hb : Below w.heap.size w w') : WoT w' := fun j hj => (World.cell?_of_block (w := w) (a := ⟨2, j, none⟩) (hb.block _ h.lt)).trans (h j hj)
end Go.Proofs.YtncinpkbiphpoaaDoor

namespace Go.Proofs.YtncinpkbiphpoaaDoor
open Go.RowKit
set_option linter.unusedVariables false
/-- The number of a word; 0: it is none. -/
def opW (l : List UInt8) : Nat := if [105, 110, 99] == l then 1 else if [100, 101, 99] == l then 2 else if [104, 97, 108, 116] == l then 3 else 0
set_option maxRecDepth 100000 in
set_option maxHeartbeats 3200000 in
theorem opOf_any (s : ByteArray) (w : World) (hW : WoT w) : Calls Tryd.prog 20 #[.string s] w fun e w' => e = .returned (.int .i64 (opW s.toList : Int)) ∧ w' = w := by
  have c1 := hW 1 (by omega)
  have c2 := hW 2 (by omega)
  have c3 := hW 3 (by omega)
  clear hW
  simp only [wordL, List.getD_cons_succ, List.getD_cons_zero] at c1 c2 c3
  have OW := hide' (show opW s.toList = if [105, 110, 99] == s.toList then 1 else if [100, 101, 99] == s.toList then 2 else if [104, 97, 108, 116] == s.toList then 3 else 0 from rfl)
  go_enter Tryd.func20, Tryd.ntmps20
  go_wp2
  go_loopw [3] (fun kv wr => ∃ (k : Nat), kv = .int .i64 (k : Int) ∧ k ≤ 4 ∧ wr = w ∧ Hid ((1 < k → ([105, 110, 99] == s.toList) = false) ∧ (2 < k → ([100, 101, 99] == s.toList) = false) ∧ (3 < k → ([104, 97, 108, 116] == s.toList) = false) ∧ 1 ≤ k)) (fun kv _ => 4 - (intOf kv).toNat)
  case atStart => exact ⟨1, rfl, by omega, rfl, hide' ⟨by omega, by omega, by omega, by omega⟩⟩
  case round =>
    obtain ⟨k, rfl, hk, rfl, KS⟩ := hrel
    rcases (show k = 1 ∨ k = 2 ∨ k = 3 ∨ k = 4 by have := KS.out.2.2.2; omega) with rfl | rfl | rfl | rfl
    · cases h : ([105, 110, 99] == s.toList) with
      | true =>
        have F := hide' (show opW s.toList = 1 by rw [OW.out, h, if_pos rfl])
        go_wp2
        go_ret
        exact ⟨by rw [F.out]; rfl, rfl⟩
      | false =>
        have H := hide' h
        go_wp2
        exact ⟨⟨2, by go_num, by omega, trivial, hide' ⟨fun _ => trivial, by omega, by omega, by omega⟩⟩, by simp [intOf]⟩
    · cases h : ([100, 101, 99] == s.toList) with
      | true =>
        have F := hide' (show opW s.toList = 2 by rw [OW.out, KS.out.1 (by omega), if_neg (by decide), h, if_pos rfl])
        go_wp2
        go_ret
        exact ⟨by rw [F.out]; rfl, rfl⟩
      | false =>
        have H := hide' h
        go_wp2
        exact ⟨⟨3, by go_num, by omega, trivial, hide' ⟨fun _ => KS.out.1 (by omega), fun _ => trivial, by omega, by omega⟩⟩, by simp [intOf]⟩
    · cases h : ([104, 97, 108, 116] == s.toList) with
      | true =>
        have F := hide' (show opW s.toList = 3 by rw [OW.out, KS.out.1 (by omega), if_neg (by decide), KS.out.2.1 (by omega), if_neg (by decide), h, if_pos rfl])
        go_wp2
        go_ret
        exact ⟨by rw [F.out]; rfl, rfl⟩
      | false =>
        have H := hide' h
        go_wp2
        exact ⟨⟨4, by go_num, by omega, trivial, hide' ⟨fun _ => KS.out.1 (by omega), fun _ => KS.out.2.1 (by omega), fun _ => trivial, by omega⟩⟩, by simp [intOf]⟩
    · have F := hide' (show opW s.toList = 0 by rw [OW.out, KS.out.1 (by omega), if_neg (by decide), KS.out.2.1 (by omega), if_neg (by decide), KS.out.2.2.1 (by omega), if_neg (by decide)])
      go_wp2
      go_ret
      exact ⟨by rw [F.out]; rfl, rfl⟩
end Go.Proofs.YtncinpkbiphpoaaDoor

