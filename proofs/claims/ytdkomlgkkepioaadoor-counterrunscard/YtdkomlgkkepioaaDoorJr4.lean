/-
  What the last text of this claim leans on, part 4: Ca3, Ca4, Ca1.
-/
import Derived.Test.YtdkomlgkkepioaaDoorJr3
import Derived.Test.YtdkomlgkkepioaaDoorProg
import Derived.WalkKit
import Derived.LaidEql
import Derived.Stop.Asserts
import Derived.RowKitTokens
namespace Go.Proofs.YtdkomlgkkepioaaDoor
open Go.RowKit
set_option linter.unusedVariables false
/-- Lines that lie in a row. -/
structure ArgI (w : World) (xs : List InsT) (a : Option Addr) (n c : Nat) : Prop where
  len : n = xs.length
  max : n ≤ 9223372036854775807
  cells : ∀ k (h : k < xs.length), ∃ g off, a = some ⟨g, off, none⟩ ∧ g < w.heap.size ∧ w.cell? ⟨g, off + k * 4, none⟩ = some (.int .i64 xs[k].1) ∧ w.cell? ⟨g, off + k * 4 + 1, none⟩ = some (.int .i64 xs[k].2.1) ∧ w.cell? ⟨g, off + k * 4 + 2, none⟩ = some (.int .i64 xs[k].2.2.1) ∧ w.cell? ⟨g, off + k * 4 + 3, none⟩ = some (.int .i64 xs[k].2.2.2)
theorem ArgI.below {w w' : World} {xs : List InsT} {a : Option Addr} {n c : Nat} (h : ArgI w xs a n c) (hb : Below w.heap.size w w') : ArgI w' xs a n c :=
  ⟨h.len, h.max, fun k hk => by
    obtain ⟨g, off, e, hg, h1, h2, h3, h4⟩ := h.cells k hk
    have b := hb.block g hg
    exact ⟨g, off, e, Nat.lt_of_lt_of_le hg hb.size, (World.cell?_of_block (w := w) (a := ⟨g, off + k * 4, none⟩) b).trans h1, (World.cell?_of_block (w := w) (a := ⟨g, off + k * 4 + 1, none⟩) b).trans h2, (World.cell?_of_block (w := w) (a := ⟨g, off + k * 4 + 2, none⟩) b).trans h3, (World.cell?_of_block (w := w) (a := ⟨g, off + k * 4 + 3, none⟩) b).trans h4⟩⟩
/-- What is wrong with a machine. -/
def codeE (xs : List InsT) : Nat := if xs.length < 1 ∨ 12 < xs.length then 4 else if xs.all (insB (xs.length : Int)) then 0 else 1
theorem code_bad {xs : List InsT} (h1 : 1 ≤ xs.length) (h2 : xs.length ≤ 12) {k : Nat} (hk : k < xs.length) (h : insB (xs.length : Int) xs[k] = false) : codeE xs = 1 := by
  unfold codeE
  rw [if_neg (by omega), if_neg]
  intro q
  have := List.all_eq_true.1 q xs[k] (List.getElem_mem hk)
  rw [h] at this; cases this
theorem code_ok {xs : List InsT} (h1 : 1 ≤ xs.length) (h2 : xs.length ≤ 12) (h : ∀ k (hk : k < xs.length), insB (xs.length : Int) xs[k] = true) : codeE xs = 0 := by
  unfold codeE
  rw [if_neg (by omega), if_pos]
  refine List.all_eq_true.2 fun x hx => ?_
  obtain ⟨k, hk, rfl⟩ := List.getElem_of_mem hx
  exact h k hk
theorem code_at {xs : List InsT} (h : codeE xs = 0) : 1 ≤ xs.length ∧ xs.length ≤ 12 ∧ ∀ k (hk : k < xs.length), insB (xs.length : Int) xs[k] = true := by
  unfold codeE at h
  split at h
  · cases h
  · rename_i q
    split at h
    · rename_i r
      exact ⟨by omega, by omega, fun k hk => List.all_eq_true.1 r _ (List.getElem_mem hk)⟩
    · cases h
set_option maxRecDepth 100000 in
set_option maxHeartbeats 3200000 in
theorem counterCheck_any (xs : List InsT) (a : Option Addr) (n c : Nat) (w : World) (hP : ArgI w xs a n c) (hU : UsT w) :
    Calls Tryd.prog 35 #[.slice a n c] w fun e w' => e = .returned (errOf (codeE xs)) ∧ Below w.heap.size w w' := by
  have HL := hide' hP.len
  have nm := hP.max
  by_cases n1 : n < 1
  · have F := hide' (show codeE xs = 4 by unfold codeE; rw [if_pos]; have := HL.out; omega)
    have m1 : (n : Int) < 1 := by omega
    have m2 : ¬ 12 < (n : Int) := by omega
    clear n1 hP
    go_enter Tryd.func35, Tryd.ntmps35
    go_wp2
    go_ret
    rw [F.out]; exact ⟨rfl, Below.refl _ _⟩
  · by_cases n2 : 12 < n
    · have F := hide' (show codeE xs = 4 by unfold codeE; rw [if_pos]; have := HL.out; omega)
      have m1 : ¬ (n : Int) < 1 := by omega
      have m2 : 12 < (n : Int) := by omega
      clear n1 n2 hP
      go_enter Tryd.func35, Tryd.ntmps35
      go_wp2
      go_ret
      rw [F.out]; exact ⟨rfl, Below.refl _ _⟩
    · have m1 : ¬ (n : Int) < 1 := by omega
      have m2 : ¬ 12 < (n : Int) := by omega
      have HP := hide' (fun (V : World) (h : Below w.heap.size w V) => hP.below h)
      have HU := hide' (fun (V : World) (h : Below w.heap.size w V) => hU.below h)
      have HI := hide' (fun p V h => isLine_any (n : Int) p V h)
      have N12 := hide' (And.intro n1 n2)
      clear hP hU n1 n2
      go_enter Tryd.func35, Tryd.ntmps35
      go_wp2
      go_loopw [16] (fun kv wr => ∃ k : Nat, kv = .int .i64 (k : Int) ∧ k ≤ n ∧ Hid (Below w.heap.size w wr) ∧ Hid (∀ j (h : j < xs.length), j < k → insB (xs.length : Int) xs[j] = true)) (fun kv _ => n - (intOf kv).toNat)
      case atStart => exact ⟨0, rfl, by omega, hide' (Below.refl _ _), hide' (fun j h hj => by omega)⟩
      case round =>
        obtain ⟨k, rfl, hk, BW, HA⟩ := hrel
        by_cases d : (k : Int) < (n : Int)
        · have hkl : k < xs.length := by have := HL.out; omega
          obtain ⟨g, off, rfl, hg, c0, c1, c2, c3⟩ := (HP.out wr BW.out).cells k hkl
          obtain ⟨⟨x, y, z, t⟩, hx⟩ : ∃ x, xs[k] = x := ⟨_, rfl⟩
          rw [hx] at c0 c1 c2 c3
          simp only at c0 c1 c2 c3
          obtain ⟨w2, hw2⟩ : ∃ w2, wr.alloc (.cells #[.int .i64 x, .int .i64 y, .int .i64 z, .int .i64 t] 146) = w2 := ⟨_, rfl⟩
          have BN := hide' (show Below w.heap.size w w2 from by rw [← hw2]; exact BW.out.alloc BW.out.size _)
          have r2 := hide' (show w2.heap[wr.heap.size]? = some (.cells #[.int .i64 x, .int .i64 y, .int .i64 z, .int .i64 t] 146 (0, 0)) by rw [← hw2]; exact heap_alloc_new _ _)
          have e0 := cell_of_row w2 _ 0 _ _ _ r2.out
          have e1 := cell_of_row w2 _ 1 _ _ _ r2.out
          have e2 := cell_of_row w2 _ 2 _ _ _ r2.out
          have e3 := cell_of_row w2 _ 3 _ _ _ r2.out
          simp at e0 e1 e2 e3
          have IL := hide' (HI.out (x, y, z, t) w2 (HU.out w2 BN.out))
          simp only at IL
          cases hn : insB (n : Int) (x, y, z, t)
          · have X := hide' (show codeE xs = 1 from by have := N12.out; have := HL.out; exact code_bad (by omega) (by omega) hkl (by rw [← HL.out, hx]; exact hn))
            rw [hn] at IL
            clear hn hx
            go_upto_region 6 with fail
            clear hw2
            go_wp2_with (go_at_call 78; refine IL.out.mono ?_; rintro e w3 ⟨rfl, b3⟩)
            go_ret
            rw [X.out]
            exact ⟨rfl, BN.out.trans (b3.mono BN.out.size)⟩
          · have X := hide' (show insB (xs.length : Int) xs[k] = true from by rw [← HL.out, hx]; exact hn)
            rw [hn] at IL
            clear hn hx
            go_upto_region 6 with fail
            clear hw2
            go_wp2_with (go_at_call 78; refine IL.out.mono ?_; rintro e w3 ⟨rfl, b3⟩)
            refine ⟨⟨k + 1, by go_num, by omega, hide' (BN.out.trans (b3.mono BN.out.size)), hide' fun j h hj => ?_⟩, by simp [intOf]; omega⟩
            by_cases e : j = k
            · subst e; exact X.out
            · exact HA.out j h (by omega)
        · have X := hide' (show codeE xs = 0 from by have := N12.out; have := HL.out; exact code_ok (by omega) (by omega) (fun j h => HA.out j h (by omega)))
          go_wp2
          go_ret
          rw [X.out]
          exact ⟨rfl, BW.out⟩
end Go.Proofs.YtdkomlgkkepioaaDoor

namespace Go.Proofs.YtdkomlgkkepioaaDoor
open Go.RowKit
set_option linter.unusedVariables false
def updM (c : Nat → Int) (k : Nat) (v : Int) : Nat → Int := fun j => if j = k then v else c j
/-- A machine as it lies while it runs. -/
structure MaB (w : World) (mb : Nat) (sl : Value) (c : Nat → Int) (t : Nat) : Prop where
  code : w.cell? ⟨mb, 0, none⟩ = some sl
  cnt : ∀ k, k < 4 → w.cell? ⟨mb, 1 + k, none⟩ = some (.int .i64 (c k))
  ats : w.cell? ⟨mb, 5, none⟩ = some (.int .i64 (t : Int))
  fro : ∀ k, w.frozen? ⟨mb, k, none⟩ = false
  lt : mb < w.heap.size
theorem MaB.below {w w' : World} {mb : Nat} {sl : Value} {c : Nat → Int} {t B : Nat} (h : MaB w mb sl c t) (hb : Below B w w') (hB : mb < B) : MaB w' mb sl c t :=
  have b := hb.block mb hB
  ⟨(World.cell?_of_block (w := w) (a := ⟨mb, 0, none⟩) b).trans h.code, fun k hk => (World.cell?_of_block (w := w) (a := ⟨mb, 1 + k, none⟩) b).trans (h.cnt k hk), (World.cell?_of_block (w := w) (a := ⟨mb, 5, none⟩) b).trans h.ats, fun k => (World.frozen?_of_block (w := w) (a := ⟨mb, k, none⟩) b).trans (h.fro k), Nat.lt_of_lt_of_le h.lt hb.size⟩
theorem MaB.setCnt {w : World} {mb : Nat} {sl : Value} {c : Nat → Int} {t : Nat} (h : MaB w mb sl c t) {k : Nat} (hk : k < 4) (v : Int) : MaB (w.setCell ⟨mb, 1 + k, none⟩ (.int .i64 v)) mb sl (updM c k v) t :=
  ⟨(World.cell?_setCell_other _ _ _ _ (fun q => by have := congrArg Addr.off q; simp at this)).trans h.code, fun j hj => by
    unfold updM
    by_cases e : j = k
    · subst e; rw [if_pos rfl]; exact World.cell?_setCell_same _ _ _ (h.cnt j hj)
    · rw [if_neg e]; exact (World.cell?_setCell_other _ _ _ _ (fun q => by have := congrArg Addr.off q; simp at this; omega)).trans (h.cnt j hj),
   (World.cell?_setCell_other _ _ _ _ (fun q => by have := congrArg Addr.off q; simp at this; omega)).trans h.ats, fun j => by rw [World.frozen?_setCell]; exact h.fro j, by simpa using h.lt⟩
theorem MaB.setAt {w : World} {mb : Nat} {sl : Value} {c : Nat → Int} {t : Nat} (h : MaB w mb sl c t) (v : Nat) : MaB (w.setCell ⟨mb, 5, none⟩ (.int .i64 (v : Int))) mb sl c v :=
  ⟨(World.cell?_setCell_other _ _ _ _ (fun q => by have := congrArg Addr.off q; simp at this)).trans h.code, fun j hj => (World.cell?_setCell_other _ _ _ _ (fun q => by have := congrArg Addr.off q; simp at this; omega)).trans (h.cnt j hj),
   World.cell?_setCell_same _ _ _ h.ats, fun j => by rw [World.frozen?_setCell]; exact h.fro j, by simpa using h.lt⟩
theorem MaB.drew {w : World} {mb : Nat} {sl : Value} {c : Nat → Int} {t : Nat} (h : MaB w mb sl c t) : MaB w.drew mb sl c t := h.below (B := w.heap.size) (Below.refl _ _).drew h.lt
set_option maxRecDepth 100000 in
set_option maxHeartbeats 3200000 in
theorem inc_full (o t e : Int) (a mb : Nat) (ha : a < 4) (sl : Value) (c : Nat → Int) (s : Nat) (w : World) (h : MaB w mb sl c s) (hc : c a = 1000000) :
    Calls Tryd.prog 130 #[.pointer (some ⟨mb, 0, none⟩), .agg #[.int .i64 o, .int .i64 (a : Int), .int .i64 t, .int .i64 e]] w fun x w' => x = .returned (.iface 94 (.int .i64 4)) ∧ Below w.heap.size w w' := by
  obtain ⟨w1, hw1⟩ : ∃ w1, w.alloc (.cells #[.int .i64 o, .int .i64 (a : Int), .int .i64 t, .int .i64 e] 146) = w1 := ⟨_, rfl⟩
  have B1 := hide' (show Below w.heap.size w w1 by rw [← hw1]; exact (Below.refl _ _).alloc (Nat.le_refl _) _)
  have r1 : w1.heap[w.heap.size]? = some (.cells #[.int .i64 o, .int .i64 (a : Int), .int .i64 t, .int .i64 e] 146 (0, 0)) := by rw [← hw1]; exact heap_alloc_new _ _
  have e1 := cell_of_row w1 _ 1 _ _ _ r1
  simp at e1
  have m1 := (h.below B1.out h.lt).cnt a ha
  rw [hc] at m1
  have a4 : (a : Int) < 4 := by omega
  have a0 : (0 : Int) ≤ (a : Int) := by omega
  clear h hc r1
  go_enter Tryd.func130, Tryd.ntmps130
  go_upto_region 1 with fail
  try rw [hw1]
  clear hw1
  go_region
  all_goals
    go_wp2
    go_ret
    exact ⟨rfl, B1.out.drew⟩
set_option maxRecDepth 100000 in
set_option maxHeartbeats 6400000 in
theorem inc_some (o e : Int) (t a mb B : Nat) (ha : a < 4) (sl : Value) (c : Nat → Int) (s : Nat) (w : World) (h : MaB w mb sl c s) (hc : ¬ c a = 1000000) (c0 : 0 ≤ c a) (c1 : c a ≤ 1000000) (hB : B ≤ mb) :
    Calls Tryd.prog 130 #[.pointer (some ⟨mb, 0, none⟩), .agg #[.int .i64 o, .int .i64 (a : Int), .int .i64 (t : Int), .int .i64 e]] w fun x w' => x = .returned .nilIface ∧ MaB w' mb sl (updM c a (c a + 1)) t ∧ Below B w w' := by
  obtain ⟨w1, hw1⟩ : ∃ w1, w.alloc (.cells #[.int .i64 o, .int .i64 (a : Int), .int .i64 (t : Int), .int .i64 e] 146) = w1 := ⟨_, rfl⟩
  have B1 := hide' (show Below w.heap.size w w1 by rw [← hw1]; exact (Below.refl _ _).alloc (Nat.le_refl _) _)
  have r1 : w1.heap[w.heap.size]? = some (.cells #[.int .i64 o, .int .i64 (a : Int), .int .i64 (t : Int), .int .i64 e] 146 (0, 0)) := by rw [← hw1]; exact heap_alloc_new _ _
  have R1 := hide' r1
  have e1 := cell_of_row w1 _ 1 _ _ _ r1
  simp at e1
  have M1 := hide' (h.below B1.out h.lt)
  have m1 := M1.out.cnt a ha
  obtain ⟨v, hv⟩ : ∃ v, c a = v := ⟨_, rfl⟩
  rw [hv] at m1 hc c0 c1
  have hv1 : (v == 1000000) = false := by simpa using hc
  have a4 : (a : Int) < 4 := by omega
  have a0 : (0 : Int) ≤ (a : Int) := by omega
  have fz := M1.out.fro (1 + a)
  have wv : IntKind.i64.wrap (v + 1) = v + 1 := by simp [IntKind.wrap, IntKind.bits, IntKind.signed]; omega
  have LT := hide' h.lt
  have HV := hide' hv
  clear h hc hv r1
  go_enter Tryd.func130, Tryd.ntmps130
  go_upto_region 1 with fail
  try rw [hw1]
  clear hw1
  go_region
  go_upto_region 3 with fail
  go_region
  obtain ⟨X, hX⟩ : ∃ X, (w1.setCell ⟨mb, 1 + a, none⟩ (.int .i64 (v + 1))).drew.drew = X := ⟨_, rfl⟩
  have MX := hide' (show MaB X mb sl (updM c a (c a + 1)) s by rw [← hX, HV.out]; exact ((M1.out.setCnt ha (v + 1)).drew).drew)
  have BX := hide' (show Below B w X by rw [← hX]; exact (((B1.out.mono (Nat.le_of_lt (Nat.lt_of_le_of_lt hB LT.out))).setCell hB _).drew).drew)
  have x2 : X.cell? ⟨w.heap.size, 2, none⟩ = some (.int .i64 (t : Int)) := by
    rw [← hX]
    show (w1.setCell ⟨mb, 1 + a, none⟩ (.int .i64 (v + 1))).cell? ⟨w.heap.size, 2, none⟩ = _
    rw [World.cell?_setCell_other _ _ _ _ (fun q => by have h1 : mb = w.heap.size := congrArg Addr.block q; have := LT.out; omega), cell_of_row w1 _ 2 _ _ _ R1.out]
    rfl
  have x5 := MX.out.ats
  have f5 := MX.out.fro 5
  rw [hX]
  clear hX m1 fz e1 wv
  go_wp2
  go_ret
  exact ⟨rfl, MX.out.setAt t, BX.out.setCell hB _⟩
set_option maxRecDepth 100000 in
set_option maxHeartbeats 6400000 in
theorem dec_zero (o t : Int) (e a mb B : Nat) (ha : a < 4) (sl : Value) (c : Nat → Int) (s : Nat) (w : World) (h : MaB w mb sl c s) (hc : c a = 0) (hB : B ≤ mb) :
    Calls Tryd.prog 131 #[.pointer (some ⟨mb, 0, none⟩), .agg #[.int .i64 o, .int .i64 (a : Int), .int .i64 t, .int .i64 (e : Int)]] w fun x w' => x = .returned (.tuple #[]) ∧ MaB w' mb sl c e ∧ Below B w w' := by
  obtain ⟨w1, hw1⟩ : ∃ w1, w.alloc (.cells #[.int .i64 o, .int .i64 (a : Int), .int .i64 t, .int .i64 (e : Int)] 146) = w1 := ⟨_, rfl⟩
  have B1 := hide' (show Below w.heap.size w w1 by rw [← hw1]; exact (Below.refl _ _).alloc (Nat.le_refl _) _)
  have r1 : w1.heap[w.heap.size]? = some (.cells #[.int .i64 o, .int .i64 (a : Int), .int .i64 t, .int .i64 (e : Int)] 146 (0, 0)) := by rw [← hw1]; exact heap_alloc_new _ _
  have e1 := cell_of_row w1 _ 1 _ _ _ r1
  have e3 := cell_of_row w1 _ 3 _ _ _ r1
  simp at e1 e3
  have M1 := hide' (h.below B1.out h.lt)
  have m1 := M1.out.cnt a ha
  rw [hc] at m1
  have m5 := M1.out.ats
  have fz := M1.out.fro 5
  have a4 : (a : Int) < 4 := by omega
  have a0 : (0 : Int) ≤ (a : Int) := by omega
  have LT := hide' h.lt
  clear h hc r1
  go_enter Tryd.func131, Tryd.ntmps131
  go_upto_region 1 with fail
  try rw [hw1]
  clear hw1
  go_region
  go_wp2
  refine bodyPost_ret (v := .tuple #[]) (results_none rfl _ _ _) rfl ?_
  exact ⟨rfl, (M1.out.drew).setAt e, ((B1.out.mono (Nat.le_of_lt (Nat.lt_of_le_of_lt hB LT.out))).drew).setCell hB _⟩
set_option maxRecDepth 100000 in
set_option maxHeartbeats 6400000 in
theorem dec_some (o e : Int) (t a mb B : Nat) (ha : a < 4) (sl : Value) (c : Nat → Int) (s : Nat) (w : World) (h : MaB w mb sl c s) (hc : ¬ c a = 0) (c0 : 0 ≤ c a) (c1 : c a ≤ 1000000) (hB : B ≤ mb) :
    Calls Tryd.prog 131 #[.pointer (some ⟨mb, 0, none⟩), .agg #[.int .i64 o, .int .i64 (a : Int), .int .i64 (t : Int), .int .i64 e]] w fun x w' => x = .returned (.tuple #[]) ∧ MaB w' mb sl (updM c a (c a - 1)) t ∧ Below B w w' := by
  obtain ⟨w1, hw1⟩ : ∃ w1, w.alloc (.cells #[.int .i64 o, .int .i64 (a : Int), .int .i64 (t : Int), .int .i64 e] 146) = w1 := ⟨_, rfl⟩
  have B1 := hide' (show Below w.heap.size w w1 by rw [← hw1]; exact (Below.refl _ _).alloc (Nat.le_refl _) _)
  have r1 : w1.heap[w.heap.size]? = some (.cells #[.int .i64 o, .int .i64 (a : Int), .int .i64 (t : Int), .int .i64 e] 146 (0, 0)) := by rw [← hw1]; exact heap_alloc_new _ _
  have R1 := hide' r1
  have e1 := cell_of_row w1 _ 1 _ _ _ r1
  simp at e1
  have M1 := hide' (h.below B1.out h.lt)
  have m1 := M1.out.cnt a ha
  obtain ⟨v, hv⟩ : ∃ v, c a = v := ⟨_, rfl⟩
  rw [hv] at m1 hc c0 c1
  have hv1 : (v == 0) = false := by simpa using hc
  have a4 : (a : Int) < 4 := by omega
  have a0 : (0 : Int) ≤ (a : Int) := by omega
  have fz := M1.out.fro (1 + a)
  have wv : IntKind.i64.wrap (v - 1) = v - 1 := by simp [IntKind.wrap, IntKind.bits, IntKind.signed]; omega
  have LT := hide' h.lt
  have HV := hide' hv
  clear h hc hv r1
  go_enter Tryd.func131, Tryd.ntmps131
  go_upto_region 1 with fail
  try rw [hw1]
  clear hw1
  go_region
  go_upto_region 3 with fail
  go_region
  obtain ⟨X, hX⟩ : ∃ X, (w1.setCell ⟨mb, 1 + a, none⟩ (.int .i64 (v - 1))).drew.drew = X := ⟨_, rfl⟩
  have MX := hide' (show MaB X mb sl (updM c a (c a - 1)) s by rw [← hX, HV.out]; exact ((M1.out.setCnt ha (v - 1)).drew).drew)
  have BX := hide' (show Below B w X by rw [← hX]; exact (((B1.out.mono (Nat.le_of_lt (Nat.lt_of_le_of_lt hB LT.out))).setCell hB _).drew).drew)
  have x2 : X.cell? ⟨w.heap.size, 2, none⟩ = some (.int .i64 (t : Int)) := by
    rw [← hX]
    show (w1.setCell ⟨mb, 1 + a, none⟩ (.int .i64 (v - 1))).cell? ⟨w.heap.size, 2, none⟩ = _
    rw [World.cell?_setCell_other _ _ _ _ (fun q => by have h1 : mb = w.heap.size := congrArg Addr.block q; have := LT.out; omega), cell_of_row w1 _ 2 _ _ _ R1.out]
    rfl
  have x5 := MX.out.ats
  have f5 := MX.out.fro 5
  rw [hX]
  clear hX m1 fz e1 wv
  go_wp2
  go_end0
  exact ⟨rfl, MX.out.setAt t, BX.out.setCell hB _⟩
end Go.Proofs.YtdkomlgkkepioaaDoor

namespace Go.Proofs.YtdkomlgkkepioaaDoor
open Go.RowKit Go.Extern.Stop Go.Stop Go.Extern
theorem is_typeOf (v : Value) (w : World) : (Extern.ReflectliteType.typeOf #[.iface 344 v]).run Tryd.prog w = .ok (.iface 281 (.agg #[.pointer (some ⟨13, 344, none⟩)])) w := by kernel_rfl
theorem is_comparable (w : World) : (callFunc 251 #[.agg #[.pointer (some ⟨13, 344, none⟩)]]).run Tryd.prog w = .ok (.value (.bool true)) w := by kernel_rfl
theorem is_methodC (v : Value) (w : World) : (Go.method 478 281 v "Comparable").run Tryd.prog w = .ok (251, v) w := by kernel_rfl
theorem is_comp : (Tryd.prog.info? 344).map (·.comparable) = some true := by kernel_rfl
theorem is_size : (Tryd.prog.info? 367).map (·.size) = some 1 := by kernel_rfl
theorem is_noIs (v : Value) (xT : TypeId) (w : World) : (Instr.typeAssert (.iface 94 v) xT 317 true).run Tryd.prog w = .ok (.tuple #[.nilIface, .bool false]) w := run_typeAssert_lacksB Tryd.underlying317 (by kernel_rfl) (by kernel_rfl) v xT w
theorem is_noUn (v : Value) (xT : TypeId) (w : World) : (Instr.typeAssert (.iface 94 v) xT 288 true).run Tryd.prog w = .ok (.tuple #[.nilIface, .bool false]) w := run_typeAssert_lacksB Tryd.underlying288 (by kernel_rfl) (by kernel_rfl) v xT w
theorem is_noUns (v : Value) (xT : TypeId) (w : World) : (Instr.typeAssert (.iface 94 v) xT 289 true).run Tryd.prog w = .ok (.tuple #[.nilIface, .bool false]) w := run_typeAssert_lacksB Tryd.underlying289 (by kernel_rfl) (by kernel_rfl) v xT w
theorem is_same (a : Addr) (w : World) :
    Calls Tryd.prog 129 #[.iface 344 (.pointer (some a)), .iface 344 (.pointer (some a))] w fun e w' => e = .returned (.bool true) ∧ w' = w := by
  obtain ⟨i, hi, hcmp⟩ := Option.map_eq_some_iff.1 is_comp
  obtain ⟨j, hj, hjs⟩ := Option.map_eq_some_iff.1 is_size
  have h8 := @run_callFunc_extern Tryd.prog 163 _ Extern.ReflectliteType.typeOf Tryd.func163 (by kernel_rfl) (by kernel_rfl) (by kernel_rfl) (by kernel_rfl)
  have h32 := is_comparable
  have tT := is_typeOf
  have mR := is_methodC
  have heq := run_eql_iface_ptr_same (P := Tryd.prog) w a Tryd.underlying31 Tryd.underlying344 hi hcmp hj
  go_enter Tryd.func129, Tryd.ntmps129
  go_wp2
  refine wp_loop_rounds 1 ?_
  rw [rounds_succ]
  go_wp2
  go_ret
  exact ⟨rfl, rfl⟩
theorem is_nil (b : Addr) (w : World) :
    Calls Tryd.prog 129 #[.nilIface, .iface 344 (.pointer (some b))] w fun e w' => e = .returned (.bool false) ∧ w' = w := by
  have hn := run_eql_iface_nil_left (P := Tryd.prog) w 344 (.pointer (some b)) Tryd.underlying31
  go_enter Tryd.func129, Tryd.ntmps129
  go_wp2
  go_ret
  exact ⟨rfl, rfl⟩
theorem is_errno (n : Int) (b : Addr) (w : World) :
    Calls Tryd.prog 129 #[.iface 94 (.int .i64 n), .iface 344 (.pointer (some b))] w fun e w' => e = .returned (.bool false) ∧ w' = w := by
  have h8 := @run_callFunc_extern Tryd.prog 163 _ Extern.ReflectliteType.typeOf Tryd.func163 (by kernel_rfl) (by kernel_rfl) (by kernel_rfl) (by kernel_rfl)
  have h32 := is_comparable
  have tT := is_typeOf
  have mR := is_methodC
  have nE := is_noIs
  have uE := is_noUn
  have vE := is_noUns
  have hty := run_eql_iface_types (P := Tryd.prog) 94 344 (.int .i64 n) (.pointer (some b)) Tryd.underlying31 (by decide) w
  go_enter Tryd.func129, Tryd.ntmps129
  go_wp2
  refine wp_loop_rounds 1 ?_
  rw [rounds_succ]
  go_wp2
  go_ret
  exact ⟨rfl, rfl⟩
end Go.Proofs.YtdkomlgkkepioaaDoor

