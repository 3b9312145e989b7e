/-
  What the last text of this claim leans on, part 20: Cg2, Cj1.
-/
import Derived.Test.YtcfoeadfhkojeaaGreatDoorZm19
import Derived.Test.YtcfoeadfhkojeaaGreatDoorZm13
import Derived.Deep.RegionHeld3
namespace Go.Proofs.YtcfoeadfhkojeaaGreatDoor
open Go.RowKit
set_option linter.unusedVariables false
/-- The numbers of a line, as many as it has. -/
def partS (p : InsT) : Nat → List UInt8
  | 0 => []
  | i + 1 => partS p i ++ (if (i : Int) < usN p.1.toNat then 32 :: dgL (numI p i) else [])
theorem line_parts (x : Nat) (hx : x = 1 ∨ x = 2 ∨ x = 3) (y z u : Int) : wordL x ++ partS ((x : Int), y, z, u) 3 ++ [10] = lineS ((x : Int), y, z, u) := by
  rcases hx with rfl | rfl | rfl <;> simp [wordL, partS, lineS, usN, numI]
structure DWc (w2 wr : World) (l : List UInt8) : Prop where
  bld : Bld w2.heap.size w2.heap.size (Lib.byteCells l) wr
  below : Below w2.heap.size w2 wr
theorem DWc.start (w2 : World) : DWc w2 (w2.alloc (.cells #[.pointer none, .slice none 0 0] 58)) [] := ⟨Lib.fresh_isBuilder _ _ _, (Below.refl _ _).alloc (Nat.le_refl _) _⟩
theorem DWc.next {w2 wr w' : World} {l m : List UInt8} (h : DWc w2 wr l) (hu : BldU w2.heap.size w2.heap.size (Lib.byteCells l ++ Lib.byteCells m) w') (hb : Below w2.heap.size wr w') : DWc w2 w' (l ++ m) := ⟨Or.inr (by rw [show Lib.byteCells (l ++ m) = Lib.byteCells l ++ Lib.byteCells m by simp [Lib.byteCells]]; exact hu), h.below.trans hb⟩
theorem DWc.keep {w2 w w' : World} {l : List UInt8} (h : DWc w2 w l) (hb : Below w.heap.size w w') : DWc w2 w' l := by
  have hk : ∀ p, Lib.BuilderAt 58 5 w2.heap.size w2.heap.size p (Lib.byteCells l) w → Lib.BuilderAt 58 5 w2.heap.size w2.heap.size p (Lib.byteCells l) w' := by
    intro p q
    have hlt := q.lt
    obtain ⟨hB, v, hbk, hown, hne⟩ := q
    have hor : v.ownBlock = none ∨ v.ownBlock ≠ none := Decidable.em _
    exact ⟨hB, v, (hb.block _ hlt).trans hbk, hown.kept (row := none) ⟨hb.os, hb.tape, hb.output, hb.size, fun k hk _ => hb.block k hk⟩ hor, hne⟩
  exact ⟨h.bld.elim (fun q => Or.inl (hk _ q)) (fun q => Or.inr (hk _ q)), h.below.trans (hb.mono h.below.size)⟩
theorem DWc.lt {w2 w : World} {l : List UInt8} (h : DWc w2 w l) : w2.heap.size < w.heap.size := h.bld.elim (fun q => q.lt) (fun q => q.lt)
set_option maxRecDepth 100000 in
set_option maxHeartbeats 3200000 in
theorem print_bad (xs : List InsT) (a : Option Addr) (n c : Nat) (w : World) (hP : ArgI w xs a n c) (hU : UsT w) (hc : codeE xs ≠ 0) :
    Calls Tryz.prog 5 #[.slice a n c] w fun e w' => e = .returned (.tuple #[.string ⟨#[]⟩, errOf (codeE xs)]) ∧ Below w.heap.size w w' := by
  have CK := hide' (counterCheck_any xs a n c w hP hU)
  rw [errOf_is hc] at CK
  have E := hide' (errOf_is hc)
  clear hP hU hc
  go_enter Tryz.func5, Tryz.ntmps5
  go_wp2_with fail
  refine CK.out.mono ?_
  rintro e w1 ⟨rfl, b1⟩
  go_wp2
  go_ret2
  exact ⟨by rw [E.out]; rfl, b1⟩
set_option maxRecDepth 100000 in
set_option maxHeartbeats 12800000 in
theorem print_ok (xs : List InsT) (a : Option Addr) (n c : Nat) (w : World) (hP : ArgI w xs a n c) (hU : UsT w) (hW : WoT w) (hc : codeE xs = 0) :
    Calls Tryz.prog 5 #[.slice a n c] w fun e w' => e = .returned (.tuple #[.string ⟨(textL xs).toArray⟩, .nilIface]) ∧ Below w.heap.size w w' := by
  have CK := hide' (counterCheck_any xs a n c w hP hU)
  rw [hc, show errOf 0 = .nilIface from rfl] at CK
  obtain ⟨n1, n12, hx⟩ := code_at hc
  have HX := hide' hx
  have HL := hide' hP.len
  have nl := hP.len
  have m12 : n ≤ 12 := by omega
  have HP := hide' (fun (V : World) (h : Below w.heap.size w V) => hP.below h)
  have HU := hide' (fun (V : World) (h : Below w.heap.size w V) => hU.below h)
  have HW := hide' (fun (V : World) (h : Below w.heap.size w V) => hW.below h)
  clear hP hU hW hc n1 n12 hx nl
  go_enter Tryz.func5, Tryz.ntmps5
  go_wp2_with fail
  refine CK.out.mono ?_
  rintro e w2 ⟨rfl, b2⟩
  have C2 := hide' b2
  have z2 : w.heap.size ≤ w2.heap.size := b2.size
  have D0 := hide' (DWc.start w2)
  clear b2
  go_wp2
  go_loopw [17] (fun kv wr => ∃ (k : Nat), kv = .int .i64 (k : Int) ∧ k ≤ n ∧ Hid (DWc w2 wr (textN xs k)) ∧ Hid ((textN xs k).length ≤ 100 * k)) (fun kv _ => n - (intOf kv).toNat)
  case atStart => exact ⟨0, rfl, by omega, D0, hide' (by simp [textN])⟩
  case round =>
    obtain ⟨k, rfl, hk, DK, lk⟩ := hrel
    have BK := hide' (C2.out.trans (DK.out.below.mono z2))
    by_cases d : (k : Int) < (n : Int)
    · have hkl : k < xs.length := by have := HL.out; omega
      obtain ⟨g, off, rfl, hg, c0, c1, c2, c3⟩ := (HP.out wr BK.out).cells k hkl
      have hi := ins_parts (HX.out k hkl)
      have LN := hide' (ln_at hkl)
      obtain ⟨⟨x, y, z, u⟩, hx⟩ : ∃ x, xs[k] = x := ⟨_, rfl⟩
      rw [hx] at c0 c1 c2 c3 hi LN
      simp only at c0 c1 c2 c3 hi
      have k0 : (0 : Int) ≤ (k : Int) := by omega
      obtain ⟨x, rfl⟩ : ∃ j : Nat, x = (j : Int) := ⟨x.toNat, by omega⟩
      obtain ⟨y, rfl⟩ : ∃ j : Nat, y = (j : Int) := ⟨y.toNat, by omega⟩
      obtain ⟨z, rfl⟩ : ∃ j : Nat, z = (j : Int) := ⟨z.toNat, by omega⟩
      obtain ⟨u, rfl⟩ : ∃ j : Nat, u = (j : Int) := ⟨u.toNat, by omega⟩
      have hlen := HL.out
      have y4 : y < 4 := by omega
      have z12 : z < 12 := by omega
      have u12 : u < 12 := by omega
      have x0 : (0 : Int) ≤ (x : Int) := by omega
      have x4 : (x : Int) < 4 := by omega
      have XO := hide' (show x = 1 ∨ x = 2 ∨ x = 3 by omega)
      obtain ⟨U, hU⟩ : ∃ U, usN x = U := ⟨_, rfl⟩
      have UN := hide' hU
      obtain ⟨w3, hw3⟩ : ∃ w3, wr.alloc (.cells #[.int .i64 (x : Int), .int .i64 (y : Int), .int .i64 (z : Int), .int .i64 (u : Int)] 25) = w3 := ⟨_, rfl⟩
      have D3 := hide' (show DWc w2 w3 (textN xs k) from by rw [← hw3]; exact DK.out.keep ((Below.refl _ _).alloc (Nat.le_refl _) _))
      have R3 := hide' (show w3.heap[wr.heap.size]? = some (.cells #[.int .i64 (x : Int), .int .i64 (y : Int), .int .i64 (z : Int), .int .i64 (u : Int)] 25 (0, 0)) by rw [← hw3]; exact heap_alloc_new _ _)
      have nb : ¬ wr.heap.size = w2.heap.size := by have := DK.out.lt; omega
      have RI := hide' (fun (V : World) (h : Lib.OthersKept 5 (some w2.heap.size) w3 V) => show V.heap[wr.heap.size]? = some (.cells #[.int .i64 (x : Int), .int .i64 (y : Int), .int .i64 (z : Int), .int .i64 (u : Int)] 25 (0, 0)) from h _ _ R3.out (fun e => nb (Option.some.inj e)) (fun c fz e => by injection e with _ e2; exact absurd e2 (by decide)))
      have UV := hide' (fun (V : World) (h : Below w2.heap.size w2 V) => show V.cell? ⟨1, x, none⟩ = some (.int .i64 U) from by rw [← hU]; exact HU.out V (C2.out.trans (h.mono z2)) x (by omega))
      have z3 := D3.out.below.size
      have wl := HW.out w3 (C2.out.trans (D3.out.below.mono z2)) x (by omega)
      have WL : (wordL x).length ≤ 4 := by rcases XO.out with rfl | rfl | rfl <;> simp [wordL]
      have LP := hide' (line_parts x XO.out (y : Int) (z : Int) (u : Int))
      obtain ⟨wd, hwd⟩ : ∃ l, wordL x = l := ⟨_, rfl⟩
      rw [hwd] at wl WL LP
      have TN := hide' (show textN xs (k + 1) = textN xs k ++ wd ++ partS ((x : Int), (y : Int), (z : Int), (u : Int)) 3 ++ [10] by rw [textN, LN.out, ← LP.out]; simp)
      have e0 := cell_of_row w3 _ 0 _ _ _ R3.out
      simp at e0
      have NO := hide' (fun V => numbersOf_any (y : Int) (z : Int) (u : Int) (x : Int) V)
      have j0 := index3_0 (y : Int) (z : Int) (u : Int)
      have j1 := index3_1 (y : Int) (z : Int) (u : Int)
      have j2 := index3_2 (y : Int) (z : Int) (u : Int)
      clear hlen hx hi hU hwd LP LN
      go_upto_region 8 with fail
      clear hw3 c0 c1 c2 c3
      go_wp2_with fail
      refine (writeString_k _ _ _ _ _ D3.out.bld z3 (by rw [Lib.byteCells_length]; have := lk.out; omega) (by show wd.toArray.size ≤ 1000000; simp; omega)).mono ?_
      rintro e w4 ⟨rfl, u4, b4, k4⟩
      have D4 := hide' (D3.out.next (m := wd) u4 b4)
      have z4 := D4.out.below.size
      have i4 := RI.out w4 k4
      have i0 := cell_of_row w4 _ 0 _ _ _ i4
      have i1 := cell_of_row w4 _ 1 _ _ _ i4
      have i2 := cell_of_row w4 _ 2 _ _ _ i4
      have i3 := cell_of_row w4 _ 3 _ _ _ i4
      simp at i0 i1 i2 i3
      have K4 := hide' k4
      clear u4 b4 k4 e0 wl i4
      go_wp2_with fail
      refine (NO.out w4).mono ?_
      rintro e w5 ⟨rfl, b5⟩
      have D5 := hide' (D4.out.keep b5)
      have K5 := hide' (show Lib.OthersKept 5 (some w2.heap.size) w3 w5 from fun q ob hq hb ho => by have h1 := K4.out q ob hq hb ho; exact (b5.block q (lt_of_block h1)).trans h1)
      have l5 := hide' (show (textN xs k ++ wd).length ≤ 100 * k + 4 by rw [List.length_append]; have := lk.out; omega)
      clear b5 i0 i1 i2 i3
      go_wp2
      go_loopw [28] (fun iv wi => ∃ (i : Nat), iv = .int .i64 (i : Int) ∧ i ≤ 3 ∧ Hid (DWc w2 wi (textN xs k ++ wd ++ partS ((x : Int), (y : Int), (z : Int), (u : Int)) i)) ∧ Hid ((textN xs k ++ wd ++ partS ((x : Int), (y : Int), (z : Int), (u : Int)) i).length ≤ 100 * k + 4 + 22 * i) ∧ Hid (Lib.OthersKept 5 (some w2.heap.size) w3 wi)) (fun iv _ => 3 - (intOf iv).toNat)
      case atStart => exact ⟨0, rfl, by omega, hide' (by rw [partS, List.append_nil]; exact D5.out), hide' (by rw [partS, List.append_nil]; exact l5.out), K5⟩
      case round =>
        obtain ⟨wi, rfl⟩ : ∃ wi, wi = wr := ⟨_, rfl⟩
        obtain ⟨i, rfl, hi, DI, li, KI⟩ := hrel
        have zi := DI.out.below.size
        have r0 := cell_of_row _ _ 0 _ _ _ (RI.out _ KI.out)
        simp at r0
        have uv := UV.out _ DI.out.below
        by_cases i3 : i = 3
        · subst i3
          go_wp2_with fail
          refine (writeByte_k _ _ _ 10 _ DI.out.bld zi (by rw [Lib.byteCells_length]; have := li.out; omega)).mono ?_
          rintro e w8 ⟨rfl, u8, b8, k8⟩
          have D8 := hide' (DI.out.next (m := [10]) u8 b8)
          clear u8 b8 k8 r0 uv
          go_wp2
          exact ⟨⟨k + 1, by go_num, by omega, hide' (by rw [TN.out]; exact D8.out), hide' (by rw [TN.out, List.length_append]; have := li.out; simp only [List.length_singleton]; omega)⟩, by simp [intOf]; omega⟩
        · rcases (show i = 0 ∨ i = 1 ∨ i = 2 by omega) with rfl | rfl | rfl
          · have NI := hide' (show partS ((x : Int), (y : Int), (z : Int), (u : Int)) 1 = partS ((x : Int), (y : Int), (z : Int), (u : Int)) 0 ++ (if (0 : Int) < U then 32 :: Lib.decDigits y else []) by rw [← UN.out]; rfl)
            by_cases iu : (0 : Int) < U
            · rw [if_pos iu] at NI
              have LD := dg_len y (by omega)
              have IT := hide' (fun V => Tryz.strconv_Itoa_small y (by omega) V)
              obtain ⟨D, hD⟩ : ∃ D, Lib.decDigits y = D := ⟨_, rfl⟩
              rw [hD] at NI LD IT
              have q1 : ¬ (9223372036854775807 < 1 + D.length) := by omega
              clear hD
              go_wp2_with fail
              refine (IT.out wi).mono ?_
              rintro e w6 ⟨rfl, rfl⟩
              go_wp2_with fail
              refine (writeString_k _ _ _ _ _ DI.out.bld zi (by rw [Lib.byteCells_length]; have := li.out; omega) (by rw [cat_one]; show (32 :: D).toArray.size ≤ 1000000; simp; omega)).mono ?_
              rintro e w7 ⟨rfl, u7, b7, k7⟩
              have D7 := hide' (DI.out.next (m := 32 :: D) (by have := u7; rw [show Lib.strCells (⟨#[32]⟩ ++ ⟨D.toArray⟩ : ByteArray) = Lib.byteCells (32 :: D) by rw [cat_one]; rfl] at this; exact this) b7)
              have I7 := hide' (RI.out w7 (KI.out.trans k7))
              have K7 := hide' (KI.out.trans k7)
              clear u7 b7 k7 r0
              go_wp2
              exact ⟨⟨1, by go_num, by omega, hide' (by rw [NI.out, ← List.append_assoc]; exact D7.out), hide' (by have := li.out; rw [NI.out, ← List.append_assoc, List.length_append]; simp only [List.length_cons]; omega), K7⟩, by simp [intOf]⟩
            · rw [if_neg iu, List.append_nil] at NI
              go_wp2
              exact ⟨⟨1, by go_num, by omega, hide' (by rw [NI.out]; exact DI.out), hide' (by have := li.out; rw [NI.out]; omega), KI⟩, by simp [intOf]⟩
          · have NI := hide' (show partS ((x : Int), (y : Int), (z : Int), (u : Int)) 2 = partS ((x : Int), (y : Int), (z : Int), (u : Int)) 1 ++ (if (1 : Int) < U then 32 :: Lib.decDigits z else []) by rw [← UN.out]; rfl)
            by_cases iu : (1 : Int) < U
            · rw [if_pos iu] at NI
              have LD := dg_len z (by omega)
              have IT := hide' (fun V => Tryz.strconv_Itoa_small z (by omega) V)
              obtain ⟨D, hD⟩ : ∃ D, Lib.decDigits z = D := ⟨_, rfl⟩
              rw [hD] at NI LD IT
              have q1 : ¬ (9223372036854775807 < 1 + D.length) := by omega
              clear hD
              go_wp2_with fail
              refine (IT.out wi).mono ?_
              rintro e w6 ⟨rfl, rfl⟩
              go_wp2_with fail
              refine (writeString_k _ _ _ _ _ DI.out.bld zi (by rw [Lib.byteCells_length]; have := li.out; omega) (by rw [cat_one]; show (32 :: D).toArray.size ≤ 1000000; simp; omega)).mono ?_
              rintro e w7 ⟨rfl, u7, b7, k7⟩
              have D7 := hide' (DI.out.next (m := 32 :: D) (by have := u7; rw [show Lib.strCells (⟨#[32]⟩ ++ ⟨D.toArray⟩ : ByteArray) = Lib.byteCells (32 :: D) by rw [cat_one]; rfl] at this; exact this) b7)
              have I7 := hide' (RI.out w7 (KI.out.trans k7))
              have K7 := hide' (KI.out.trans k7)
              clear u7 b7 k7 r0
              go_wp2
              exact ⟨⟨2, by go_num, by omega, hide' (by rw [NI.out, ← List.append_assoc]; exact D7.out), hide' (by have := li.out; rw [NI.out, ← List.append_assoc, List.length_append]; simp only [List.length_cons]; omega), K7⟩, by simp [intOf]⟩
            · rw [if_neg iu, List.append_nil] at NI
              go_wp2
              exact ⟨⟨2, by go_num, by omega, hide' (by rw [NI.out]; exact DI.out), hide' (by have := li.out; rw [NI.out]; omega), KI⟩, by simp [intOf]⟩
          · have NI := hide' (show partS ((x : Int), (y : Int), (z : Int), (u : Int)) 3 = partS ((x : Int), (y : Int), (z : Int), (u : Int)) 2 ++ (if (2 : Int) < U then 32 :: Lib.decDigits u else []) by rw [← UN.out]; rfl)
            by_cases iu : (2 : Int) < U
            · rw [if_pos iu] at NI
              have LD := dg_len u (by omega)
              have IT := hide' (fun V => Tryz.strconv_Itoa_small u (by omega) V)
              obtain ⟨D, hD⟩ : ∃ D, Lib.decDigits u = D := ⟨_, rfl⟩
              rw [hD] at NI LD IT
              have q1 : ¬ (9223372036854775807 < 1 + D.length) := by omega
              clear hD
              go_wp2_with fail
              refine (IT.out wi).mono ?_
              rintro e w6 ⟨rfl, rfl⟩
              go_wp2_with fail
              refine (writeString_k _ _ _ _ _ DI.out.bld zi (by rw [Lib.byteCells_length]; have := li.out; omega) (by rw [cat_one]; show (32 :: D).toArray.size ≤ 1000000; simp; omega)).mono ?_
              rintro e w7 ⟨rfl, u7, b7, k7⟩
              have D7 := hide' (DI.out.next (m := 32 :: D) (by have := u7; rw [show Lib.strCells (⟨#[32]⟩ ++ ⟨D.toArray⟩ : ByteArray) = Lib.byteCells (32 :: D) by rw [cat_one]; rfl] at this; exact this) b7)
              have I7 := hide' (RI.out w7 (KI.out.trans k7))
              have K7 := hide' (KI.out.trans k7)
              clear u7 b7 k7 r0
              go_wp2
              exact ⟨⟨3, by go_num, by omega, hide' (by rw [NI.out, ← List.append_assoc]; exact D7.out), hide' (by have := li.out; rw [NI.out, ← List.append_assoc, List.length_append]; simp only [List.length_cons]; omega), K7⟩, by simp [intOf]⟩
            · rw [if_neg iu, List.append_nil] at NI
              go_wp2
              exact ⟨⟨3, by go_num, by omega, hide' (by rw [NI.out]; exact DI.out), hide' (by have := li.out; rw [NI.out]; omega), KI⟩, by simp [intOf]⟩
    · obtain rfl : k = n := by omega
      have TL := hide' (show textL xs = textN xs k by unfold textL; rw [HL.out])
      have zk := DK.out.below.size
      go_wp2_with fail
      refine (Tryz.bldString_any _ _ _ _ DK.out.bld zk).mono ?_
      rintro e w4 ⟨rfl, b4⟩
      have B4 := hide' (C2.out.trans ((DK.out.below.trans b4).mono z2))
      clear b4
      go_wp2
      go_ret2
      exact ⟨by rw [TL.out]; rfl, B4.out⟩
end Go.Proofs.YtcfoeadfhkojeaaGreatDoor

namespace Go.Proofs.YtcfoeadfhkojeaaGreatDoor
open Go.RowKit
set_option linter.unusedVariables false
set_option maxRecDepth 100000 in
set_option maxHeartbeats 6400000 in
theorem sameI_any (xs : List InsT) (a b : Option Addr) (n c d : Nat) (w : World) (hA : ArgI w xs a n c) (hB : ArgI w xs b n d) :
    Calls Tryz.prog 7 #[.slice a n c, .slice b n d] w fun e w' => e = .returned (.bool true) ∧ Below w.heap.size w w' := by
  have HL := hide' hA.len
  have HM := hide' hA.max
  have HA := hide' (fun (V : World) (h : Below w.heap.size w V) => hA.below h)
  have HB := hide' (fun (V : World) (h : Below w.heap.size w V) => hB.below h)
  clear hA hB
  go_enter Tryz.func7, Tryz.ntmps7
  go_wp2
  go_loopw [5] (fun kv wr => ∃ (k : Nat), kv = .int .i64 (k : Int) ∧ k ≤ n ∧ Hid (Below w.heap.size w wr)) (fun kv _ => n - (intOf kv).toNat)
  case atStart => exact ⟨0, rfl, by omega, hide' (Below.refl _ _)⟩
  case round =>
    obtain ⟨k, rfl, hk, BW⟩ := hrel
    have hm := HM.out
    by_cases d : (k : Int) < (n : Int)
    · have hkl : k < xs.length := by have := HL.out; omega
      obtain ⟨g, off, rfl, -, -⟩ := (HA.out wr BW.out).cells k hkl
      obtain ⟨g', off', rfl, -, -⟩ := (HB.out wr BW.out).cells k hkl
      have CV := hide' (fun (V : World) (h : Below w.heap.size w V) => show (V.cell? ⟨g, off + k * 4, none⟩ = some (.int .i64 xs[k].1) ∧ V.cell? ⟨g, off + k * 4 + 1, none⟩ = some (.int .i64 xs[k].2.1) ∧ V.cell? ⟨g, off + k * 4 + 2, none⟩ = some (.int .i64 xs[k].2.2.1) ∧ V.cell? ⟨g, off + k * 4 + 3, none⟩ = some (.int .i64 xs[k].2.2.2)) ∧ (V.cell? ⟨g', off' + k * 4, none⟩ = some (.int .i64 xs[k].1) ∧ V.cell? ⟨g', off' + k * 4 + 1, none⟩ = some (.int .i64 xs[k].2.1) ∧ V.cell? ⟨g', off' + k * 4 + 2, none⟩ = some (.int .i64 xs[k].2.2.1) ∧ V.cell? ⟨g', off' + k * 4 + 3, none⟩ = some (.int .i64 xs[k].2.2.2)) from ⟨(HA.out V h).cel k hkl, (HB.out V h).cel k hkl⟩)
      obtain ⟨⟨x, y, z, u⟩, hx⟩ : ∃ x, xs[k] = x := ⟨_, rfl⟩
      rw [hx] at CV
      simp only at CV
      have k0 : (0 : Int) ≤ (k : Int) := by omega
      clear hx
      go_upto_region 6 with fail
      go_region_held3 (fun V => (V.cell? ⟨g, off + k * 4, none⟩ = some (.int .i64 x) ∧ V.cell? ⟨g, off + k * 4 + 1, none⟩ = some (.int .i64 y) ∧ V.cell? ⟨g, off + k * 4 + 2, none⟩ = some (.int .i64 z) ∧ V.cell? ⟨g, off + k * 4 + 3, none⟩ = some (.int .i64 u)) ∧ (V.cell? ⟨g', off' + k * 4, none⟩ = some (.int .i64 x) ∧ V.cell? ⟨g', off' + k * 4 + 1, none⟩ = some (.int .i64 y) ∧ V.cell? ⟨g', off' + k * 4 + 2, none⟩ = some (.int .i64 z) ∧ V.cell? ⟨g', off' + k * 4 + 3, none⟩ = some (.int .i64 u))) (first | exact CV.out _ BW.out | exact CV.out _ BW.out.drew | fail) (fail)
      go_wp2
      exact ⟨⟨k + 1, by go_num, by omega, hide' BW.out.drew⟩, by simp [intOf]; omega⟩
    · go_wp2
      go_ret
      exact ⟨rfl, BW.out⟩
end Go.Proofs.YtcfoeadfhkojeaaGreatDoor

