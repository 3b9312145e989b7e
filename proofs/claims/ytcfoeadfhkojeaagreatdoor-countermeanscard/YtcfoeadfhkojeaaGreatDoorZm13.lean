/-
  What the last text of this claim leans on, part 13: Parse, Ref4, Pr5, Cf0, Cg1, Ce2, Cg0.
-/
import Derived.Test.YtcfoeadfhkojeaaGreatDoorZm12
import Derived.Test.YtcfoeadfhkojeaaGreatDoorZm1
import Derived.Test.YtcfoeadfhkojeaaGreatDoorShelf
import Derived.Test.YtcfoeadfhkojeaaGreatDoorZm9
import Derived.Defers
import Derived.Recover
import Derived.Laws.IdiomStrings
import Derived.Laws.BytesArg
import Derived.Lib.ItoaLen
import Derived.Deep.RegionHeld3
import Derived.Deep.CutRange
namespace Go.Proofs.YtcfoeadfhkojeaaGreatDoor
open Go.RowKit
set_option linter.unusedVariables false

/-- The seven cells of a rule at g. -/
def setRule (w : World) (g : Nat) (v0 v1 v2 v3 v4 v5 v6 : Value) : World :=
  ((((((w.setCell ⟨g, 0, none⟩ v0).setCell ⟨g, 1, none⟩ v1).setCell ⟨g, 2, none⟩ v2).setCell ⟨g, 3, none⟩ v3).setCell ⟨g, 4, none⟩ v4).setCell ⟨g, 5, none⟩ v5).setCell ⟨g, 6, none⟩ v6

/-- The seven cells of a rule at g: they are there. -/
structure Seven (w : World) (g : Nat) (v0 v1 v2 v3 v4 v5 v6 : Value) : Prop where
  c0 : w.cell? ⟨g, 0, none⟩ = some v0
  c1 : w.cell? ⟨g, 1, none⟩ = some v1
  c2 : w.cell? ⟨g, 2, none⟩ = some v2
  c3 : w.cell? ⟨g, 3, none⟩ = some v3
  c4 : w.cell? ⟨g, 4, none⟩ = some v4
  c5 : w.cell? ⟨g, 5, none⟩ = some v5
  c6 : w.cell? ⟨g, 6, none⟩ = some v6
theorem Seven.set {w : World} {g : Nat} {u0 u1 u2 u3 u4 u5 u6 v0 v1 v2 v3 v4 v5 v6 : Value} (h : Seven w g u0 u1 u2 u3 u4 u5 u6) : Seven (setRule w g v0 v1 v2 v3 v4 v5 v6) g v0 v1 v2 v3 v4 v5 v6 := by
  obtain ⟨c0, c1, c2, c3, c4, c5, c6⟩ := h
  unfold setRule
  constructor <;> simp [go_sem, c0, c1, c2, c3, c4, c5, c6]
theorem Tab.block {w w' : World} {v : Value} {xs : List Int} (h : Tab w v xs) (hs : w'.heap.size = w.heap.size) (hb : ∀ g k c, v = .slice (some ⟨g, 0, none⟩) k c → w'.heap[g]? = w.heap[g]?) : Tab w' v xs := by
  rcases h with h | ⟨g, cap, hv, hg, hc⟩
  · exact Or.inl h
  · exact Or.inr ⟨g, cap, hv, by rw [hs]; exact hg, fun k hk => (World.cell?_of_block (w := w) (a := ⟨g, k, none⟩) (hb g _ _ hv)).trans (hc k hk)⟩

end Go.Proofs.YtcfoeadfhkojeaaGreatDoor

namespace Go.Proofs.YtcfoeadfhkojeaaGreatDoor
open Go.RowKit
set_option linter.unusedVariables false

theorem Seven.block {w w' : World} {g : Nat} {v0 v1 v2 v3 v4 v5 v6 : Value} (h : Seven w g v0 v1 v2 v3 v4 v5 v6) (e : w'.heap[g]? = w.heap[g]?) : Seven w' g v0 v1 v2 v3 v4 v5 v6 := by
  obtain ⟨c0, c1, c2, c3, c4, c5, c6⟩ := h
  exact ⟨(World.cell?_of_block (w := w) (a := ⟨g, 0, none⟩) e).trans c0, (World.cell?_of_block (w := w) (a := ⟨g, 1, none⟩) e).trans c1, (World.cell?_of_block (w := w) (a := ⟨g, 2, none⟩) e).trans c2, (World.cell?_of_block (w := w) (a := ⟨g, 3, none⟩) e).trans c3, (World.cell?_of_block (w := w) (a := ⟨g, 4, none⟩) e).trans c4, (World.cell?_of_block (w := w) (a := ⟨g, 5, none⟩) e).trans c5, (World.cell?_of_block (w := w) (a := ⟨g, 6, none⟩) e).trans c6⟩
end Go.Proofs.YtcfoeadfhkojeaaGreatDoor

namespace Go.Proofs.YtcfoeadfhkojeaaGreatDoor
open Go.RowKit
set_option linter.unusedVariables false

def bval (b : UInt8) : Value := .int .u8 (b.toNat : Int)

/-- Bytes of the call's own, gathered so far. -/
structure Row8 (w wr : World) (v : Value) (l : List UInt8) : Prop where
  below : Below w.heap.size w wr
  own : wr.ownsRow w.heap.size 5 1 v l.length (l.map bval)
theorem Row8.start (w : World) : Row8 w w (.slice none 0 0) [] := ⟨Below.refl _ _, by simp, Or.inl ⟨rfl, by simp⟩⟩
end Go.Proofs.YtcfoeadfhkojeaaGreatDoor

namespace Go.Proofs.YtcfoeadfhkojeaaGreatDoor
open Go.RowKit
set_option linter.unusedVariables false

theorem cat_one (d : UInt8) (l : List UInt8) : (⟨#[d]⟩ ++ ⟨l.toArray⟩ : ByteArray) = ⟨(d :: l).toArray⟩ := by
  apply ByteArray.ext
  simp [ByteArray.data_append]

end Go.Proofs.YtcfoeadfhkojeaaGreatDoor

namespace Go.Proofs.YtcfoeadfhkojeaaGreatDoor
open Go.RowKit
set_option linter.unusedVariables false
def dgL (x : Int) : List UInt8 := Lib.decDigits x.toNat
/-- The text of a line. -/
def lineS (p : InsT) : List UInt8 :=
  if p.1 = 1 then [105, 110, 99, 32] ++ dgL p.2.1 ++ [32] ++ dgL p.2.2.1 ++ [10]
  else if p.1 = 2 then [100, 101, 99, 32] ++ dgL p.2.1 ++ [32] ++ dgL p.2.2.1 ++ [32] ++ dgL p.2.2.2 ++ [10]
  else [104, 97, 108, 116, 10]
def textN (xs : List InsT) : Nat → List UInt8
  | 0 => []
  | k + 1 => textN xs k ++ lineS (lnM xs k)
/-- The text of a machine. -/
def textL (xs : List InsT) : List UInt8 := textN xs xs.length
theorem dg_len (n : Nat) (hn : n ≤ 1000000) : (Lib.decDigits n).length ≤ 21 := by
  have := Lib.itoa_length_le (n : Int) (by omega) (by omega)
  rw [Lib.itoa_nonneg] at this
  simpa using this
theorem ArgI.cel {w : World} {xs : List InsT} {g off n c : Nat} (h : ArgI w xs (some ⟨g, off, none⟩) n c) (k : Nat) (hk : k < xs.length) : w.cell? ⟨g, off + k * 4, none⟩ = some (.int .i64 xs[k].1) ∧ w.cell? ⟨g, off + k * 4 + 1, none⟩ = some (.int .i64 xs[k].2.1) ∧ w.cell? ⟨g, off + k * 4 + 2, none⟩ = some (.int .i64 xs[k].2.2.1) ∧ w.cell? ⟨g, off + k * 4 + 3, none⟩ = some (.int .i64 xs[k].2.2.2) := by
  obtain ⟨g', o', e, _, h1, h2, h3, h4⟩ := h.cells k hk
  cases e
  exact ⟨h1, h2, h3, h4⟩
end Go.Proofs.YtcfoeadfhkojeaaGreatDoor

namespace Go.Proofs.YtcfoeadfhkojeaaGreatDoor
open Go.RowKit
set_option linter.unusedVariables false
/-- What Fractions answers. -/
def FraC (ys : List FraT) (f : Nat) (w : World) (e : Ending) (w' : World) : Prop := ∃ a q, e = .returned (.tuple #[.slice a ys.length q, errOf f]) ∧ w'.ownsRow w.heap.size 69 2 (.slice a ys.length q) ys.length (flF ys) ∧ Below w.heap.size w w'
theorem news_two (V : World) (a b : Int) : ∀ j u, (flF [(a, b)])[j]? = some u → (V.alloc (.cells #[.int .i64 a, .int .i64 b] 69)).cell? ((⟨V.heap.size, 0, none⟩ : Addr).add j) = some u := World.news_of_block (cs := #[.int .i64 a, .int .i64 b]) (heap_alloc_new V _)
theorem news_four (V : World) (a b c d : Int) : ∀ j u, (flF [(a, b), (c, d)])[j]? = some u → (V.alloc (.cells #[.int .i64 a, .int .i64 b, .int .i64 c, .int .i64 d] 69)).cell? ((⟨V.heap.size, 0, none⟩ : Addr).add j) = some u := World.news_of_block (cs := #[.int .i64 a, .int .i64 b, .int .i64 c, .int .i64 d]) (heap_alloc_new V _)
theorem own_range {w : World} {base size : Nat} {e : TypeId} {v : Value} {n : Nat} {xs : List Value} (h : w.ownsRow base e size v n xs) : ∀ k, v.ownBlock = some k → base ≤ k ∧ k < w.heap.size := fun k hk => by
  rcases h.2 with ⟨rfl, _⟩ | ⟨g, cap, cur, rfl, hb, hg, _⟩
  · cases hk
  · simp [Value.ownBlock] at hk; subst hk; exact ⟨hb, lt_of_block hg⟩
set_option maxRecDepth 100000 in
set_option maxHeartbeats 12800000 in
theorem fractions_ok (xs : List InsT) (a : Option Addr) (n c : Nat) (w : World) (hP : ArgI w xs a n c) (hU : UsT w) (hT : PrT w) (hc : codeE xs = 0) :
    Calls Tryz.prog 11 #[.slice a n c] w (FraC (fraL xs) 0 w) := by
  have CK := hide' (counterCheck_any xs a n c w hP hU)
  rw [hc, show errOf 0 = .nilIface from rfl] at CK
  obtain ⟨n1, n12, hx⟩ := code_at hc
  have HX := hide' hx
  have HL := hide' hP.len
  have nl := hP.len
  have m12 : n ≤ 12 := by omega
  have HP := hide' (fun (V : World) (h : Below w.heap.size w V) => hP.below h)
  have HT := hide' (fun (V : World) (h : Below w.heap.size w V) => hT.below h hT.lt)
  obtain ⟨i0, hi0, hz⟩ := Option.map_eq_some_iff.1 info_fra
  simp only [Prod.mk.injEq] at hz
  obtain ⟨hz0, hz1, hz2⟩ := hz
  have PL := hide' hT.lt
  clear hP hU hT hc n1 n12 hx nl
  go_enter Tryz.func11, Tryz.ntmps11
  go_wp2_with fail
  refine CK.out.mono ?_
  rintro e w1 ⟨rfl, b1⟩
  have C1 := hide' b1
  clear b1
  go_wp2
  go_loopw [5, 16] (fun ov kv wr => ∃ (k N : Nat) (oa : Option Addr) (q : Nat), kv = .int .i64 (k : Int) ∧ ov = .slice oa N q ∧ k ≤ n ∧ N ≤ 24 ∧ Hid ((linesF xs k).length = N ∧ wr.ownsRow w.heap.size 69 2 (.slice oa N q) N (flF (linesF xs k))) ∧ Hid (Below w.heap.size w wr)) (fun _ kv _ => n - (intOf kv).toNat)
  case atStart => exact ⟨0, 0, none, 0, rfl, rfl, by omega, by omega, hide' ⟨rfl, World.ownsRow_nil w1 w.heap.size 69 2⟩, C1⟩
  case round =>
    obtain ⟨k, N, oa, q, rfl, rfl, hk, N24, OW, BW⟩ := hrel
    by_cases d : (k : Int) < (n : Int)
    · have hkl : k < xs.length := by have := HL.out; omega
      obtain ⟨g, off, rfl, hg, c0, c1, c2, c3⟩ := (HP.out wr BW.out).cells k hkl
      have hi := ins_parts (HX.out k hkl)
      have LN := hide' (ln_at hkl)
      obtain ⟨⟨x, y, z, u⟩, hx⟩ : ∃ x, xs[k] = x := ⟨_, rfl⟩
      rw [hx] at c0 c1 c2 c3 hi LN
      simp only at c0 c1 c2 c3 hi
      have k0 : (0 : Int) ≤ (k : Int) := by omega
      obtain ⟨y, rfl⟩ : ∃ j : Nat, y = (j : Int) := ⟨y.toNat, by omega⟩
      obtain ⟨z, rfl⟩ : ∃ j : Nat, z = (j : Int) := ⟨z.toNat, by omega⟩
      obtain ⟨u, rfl⟩ : ∃ j : Nat, u = (j : Int) := ⟨u.toNat, by omega⟩
      have hlen := HL.out
      have y4 : y < 4 := by omega
      have z12 : z < 12 := by omega
      have u12 : u < 12 := by omega
      have k12 : k < 12 := by omega
      have y28 : (y : Int) < 28 := by omega
      have y0 : (0 : Int) ≤ (y : Int) := by omega
      obtain ⟨w2, hw2⟩ : ∃ w2, wr.alloc (.cells #[.int .i64 x, .int .i64 (y : Int), .int .i64 (z : Int), .int .i64 (u : Int)] 25) = w2 := ⟨_, rfl⟩
      have B2 := hide' (show Below w.heap.size w w2 from by rw [← hw2]; exact BW.out.alloc BW.out.size _)
      have r2 := hide' (show w2.heap[wr.heap.size]? = some (.cells #[.int .i64 x, .int .i64 (y : Int), .int .i64 (z : Int), .int .i64 (u : Int)] 25 (0, 0)) by rw [← hw2]; exact heap_alloc_new _ _)
      have O2 := hide' (show w2.ownsRow w.heap.size 69 2 (.slice oa N q) N (flF (linesF xs k)) from by rw [← hw2]; exact OW.out.2.alloc _)
      have z2 : w.heap.size ≤ w2.heap.size := B2.out.size
      have e0 := cell_of_row w2 _ 0 _ _ _ r2.out
      have e1 := cell_of_row w2 _ 1 _ _ _ r2.out
      have e2 := cell_of_row w2 _ 2 _ _ _ r2.out
      have e3 := cell_of_row w2 _ 3 _ _ _ r2.out
      simp at e0 e1 e2 e3
      have SV := hide' (fun (V : World) (h : Below w2.heap.size w2 V) => show V.cell? ⟨wr.heap.size, 1, none⟩ = some (.int .i64 (y : Int)) ∧ V.cell? ⟨wr.heap.size, 2, none⟩ = some (.int .i64 (z : Int)) ∧ V.cell? ⟨wr.heap.size, 3, none⟩ = some (.int .i64 (u : Int)) ∧ V.cell? ⟨2, y, none⟩ = some (.int .i64 (prN y : Int)) from
        ⟨(h.cell (p := ⟨wr.heap.size, 1, none⟩) (lt_of_block r2.out)).trans e1, (h.cell (p := ⟨wr.heap.size, 2, none⟩) (lt_of_block r2.out)).trans e2, (h.cell (p := ⟨wr.heap.size, 3, none⟩) (lt_of_block r2.out)).trans e3, HT.out V (B2.out.trans (h.mono z2)) y (by omega)⟩)
      have PV := hide' (fun (V : World) (h : Below w2.heap.size w2 V) => HT.out V (B2.out.trans (h.mono z2)))
      have CZ := hide' (fun (V : World) (h : Below w2.heap.size w2 V) => come_any z z12 V (PV.out V h))
      have CU := hide' (fun (V : World) (h : Below w2.heap.size w2 V) => come_any u u12 V (PV.out V h))
      have SK := hide' (fun (V : World) (h : Below w2.heap.size w2 V) => stand_any k k12 V (PV.out V h))
      obtain ⟨pz, hpz⟩ : ∃ p, prN (5 + 2 * z) = p := ⟨_, rfl⟩
      obtain ⟨pu, hpu⟩ : ∃ p, prN (5 + 2 * u) = p := ⟨_, rfl⟩
      obtain ⟨pk, hpk⟩ : ∃ p, prN (4 + 2 * k) = p := ⟨_, rfl⟩
      obtain ⟨py, hpy⟩ : ∃ p, prN y = p := ⟨_, rfl⟩
      have pyl : py ≤ 107 := by rw [← hpy]; exact prN_le _
      have pzl : pz ≤ 107 := by rw [← hpz]; exact prN_le _
      have pkl : pk ≤ 107 := by rw [← hpk]; exact prN_le _
      have m1 : py * pz ≤ 107 * 107 := Nat.mul_le_mul pyl pzl
      have m2 : pk * py ≤ 107 * 107 := Nat.mul_le_mul pkl pyl
      rw [hpy] at SV
      rw [hpz] at CZ
      rw [hpu] at CU
      rw [hpk] at SK
      have w5 : IntKind.i64.wrap ((py : Int) * (pz : Int)) = ((py * pz : Nat) : Int) := by rw [← Int.natCast_mul]; simp [IntKind.wrap, IntKind.bits, IntKind.signed]; omega
      have w6 : IntKind.i64.wrap ((pk : Int) * (py : Int)) = ((pk * py : Nat) : Int) := by rw [← Int.natCast_mul]; simp [IntKind.wrap, IntKind.bits, IntKind.signed]; omega
      obtain ⟨A1, hA1⟩ : ∃ A, py * pz = A := ⟨_, rfl⟩
      obtain ⟨A2, hA2⟩ : ∃ A, pk * py = A := ⟨_, rfl⟩
      rw [hA1] at w5
      rw [hA2] at w6
      have LF := hide' (show linesF xs (k + 1) = linesF xs k ++ lineF k (x, (y : Int), (z : Int), (u : Int)) by rw [linesF, LN.out])
      have LI := hide' (show lineF k (x, (y : Int), (z : Int), (u : Int)) = if x = 1 then [natF A1 pk] else if x = 2 then [natF pz A2, natF pu pk] else [] by unfold lineF; simp only [Int.toNat_natCast, hpy, hpz, hpu, hpk, hA1, hA2])
      have LL := hide' (linesF_len xs (k + 1))
      clear hlen hx hi hpy hpz hpu hpk hA1 hA2 pyl pzl pkl m1 m2
      have SC := hide' (SV.out w2 (Below.refl _ _))
      have S4 := SC.out.2.2.2
      have OR := hide' (own_range OW.out.2)
      have BG := hide' (fun (o : Obj) (U : World) (h : (w2.alloc o).drew.grownBy U (.slice oa N q : Value).ownBlock) => show ((U.cell? ⟨wr.heap.size, 1, none⟩ = some (.int .i64 (y : Int)) ∧ U.cell? ⟨wr.heap.size, 2, none⟩ = some (.int .i64 (z : Int)) ∧ U.cell? ⟨wr.heap.size, 3, none⟩ = some (.int .i64 (u : Int)) ∧ U.cell? ⟨2, y, none⟩ = some (.int .i64 (py : Int))) ∧ Below w.heap.size w U) from by
        have c := SV.out _ ((Below.refl _ w2).alloc (Nat.le_refl _) o).drew
        have ne1 : ∀ i, some (⟨wr.heap.size, i, none⟩ : Addr).block ≠ (.slice oa N q : Value).ownBlock := fun i he => by have := OR.out _ he.symm; simp at this
        have ne2 : some (⟨2, y, none⟩ : Addr).block ≠ (.slice oa N q : Value).ownBlock := fun he => by have := OR.out _ he.symm; have := PL.out; simp at *; omega
        exact ⟨⟨h.cell c.1 (ne1 _), h.cell c.2.1 (ne1 _), h.cell c.2.2.1 (ne1 _), h.cell c.2.2.2 ne2⟩, (B2.out.alloc z2 o).drew.grown h (by simp; omega) (fun k hk => (OR.out k hk).1)⟩)
      by_cases x1 : x = 1
      · subst x1
        have L1 := hide' (show linesF xs (k + 1) = linesF xs k ++ [((A1 : Int), (pk : Int))] by rw [LF.out, LI.out]; rfl)
        have N1 : N + 1 ≤ 24 := by have := LL.out; rw [L1.out, List.length_append, OW.out.1] at this; simp at this; omega
        clear LI
        go_upto_region 9 with fail
        clear hw2 c0 c1 c2 c3
        go_wp2
        go_region_held3 (fun V => V.cell? ⟨wr.heap.size, 1, none⟩ = some (.int .i64 (y : Int)) ∧ V.cell? ⟨wr.heap.size, 2, none⟩ = some (.int .i64 (z : Int)) ∧ V.cell? ⟨wr.heap.size, 3, none⟩ = some (.int .i64 (u : Int)) ∧ V.cell? ⟨2, y, none⟩ = some (.int .i64 (py : Int))) (first | exact SV.out _ (Below.refl _ _) | exact SV.out _ (Below.refl _ _).drew | exact SV.out _ ((Below.refl _ _).alloc (Nat.le_refl _) _).drew | exact (BG.out _ _ hgrow).1 | fail)
          (first | (go_at_call 25; refine (CZ.out _ (Below.refl _ _).drew).mono ?_; rintro e8 w8 ⟨rfl, rfl⟩) | (go_at_call 26; refine (SK.out _ (Below.refl _ _).drew).mono ?_; rintro e8 w8 ⟨rfl, rfl⟩) | (refine step_append_lies _ (by rfl) _ _ _ (by rfl) w.heap.size 69 i0 _ 2 16 Tryz.underlying39 hi0 hz0 hz1 hz2 rfl (by omega) (.slice oa N q) N (flF (linesF xs k)) (by rfl) ((O2.out.alloc _).drew) ⟨w2.heap.size, 0, none⟩ 1 1 (flF [((A1 : Int), (pk : Int))]) (by rfl) (by rfl) (news_two w2 _ _) (one_flF _) (by omega) (by unfold maxLen; omega) (by omega) (by simp; omega) (w2.heap.size + 1) (by simp) ?_; intro gg cap U1 hown1 hgrow hat hlt) | fail)
        go_wp2
        exact ⟨⟨k + 1, N + 1, some ⟨gg, 0, none⟩, cap, by go_num, rfl, by omega, N1, hide' ⟨by rw [L1.out, List.length_append, OW.out.1]; rfl, by rw [L1.out, flF_append]; exact hown1⟩, hide' (BG.out _ _ hgrow).2⟩, by simp [intOf]; omega⟩
      · by_cases x2 : x = 2
        · subst x2
          have L1 := hide' (show linesF xs (k + 1) = linesF xs k ++ [((pz : Int), (A2 : Int)), ((pu : Int), (pk : Int))] by rw [LF.out, LI.out]; rfl)
          have N1 : N + 2 ≤ 24 := by have := LL.out; rw [L1.out, List.length_append, OW.out.1] at this; simp at this; omega
          clear LI
          go_upto_region 9 with fail
          clear hw2 c0 c1 c2 c3
          go_wp2
          go_region_held3 (fun V => V.cell? ⟨wr.heap.size, 1, none⟩ = some (.int .i64 (y : Int)) ∧ V.cell? ⟨wr.heap.size, 2, none⟩ = some (.int .i64 (z : Int)) ∧ V.cell? ⟨wr.heap.size, 3, none⟩ = some (.int .i64 (u : Int)) ∧ V.cell? ⟨2, y, none⟩ = some (.int .i64 (py : Int))) (first | exact SV.out _ (Below.refl _ _) | exact SV.out _ (Below.refl _ _).drew | exact SV.out _ ((Below.refl _ _).alloc (Nat.le_refl _) _).drew | exact (BG.out _ _ hgrow).1 | fail)
            (first | (go_at_call 25; refine (CZ.out _ (Below.refl _ _).drew).mono ?_; rintro e8 w8 ⟨rfl, rfl⟩) | (go_at_call 26; refine (SK.out _ (Below.refl _ _).drew).mono ?_; rintro e8 w8 ⟨rfl, rfl⟩) | (go_at_call 25; refine (CU.out _ (Below.refl _ _).drew).mono ?_; rintro e8 w8 ⟨rfl, rfl⟩) | (refine step_append_lies _ (by rfl) _ _ _ (by rfl) w.heap.size 69 i0 _ 2 16 Tryz.underlying39 hi0 hz0 hz1 hz2 rfl (by omega) (.slice oa N q) N (flF (linesF xs k)) (by rfl) ((O2.out.alloc _).drew) ⟨w2.heap.size, 0, none⟩ 2 2 (flF [((pz : Int), (A2 : Int)), ((pu : Int), (pk : Int))]) (by rfl) (by rfl) (news_four w2 _ _ _ _) (one_flF _) (by omega) (by unfold maxLen; omega) (by omega) (by simp; omega) (w2.heap.size + 1) (by simp) ?_; intro gg cap U1 hown1 hgrow hat hlt) | fail)
          go_wp2
          exact ⟨⟨k + 1, N + 2, some ⟨gg, 0, none⟩, cap, by go_num, rfl, by omega, N1, hide' ⟨by rw [L1.out, List.length_append, OW.out.1]; rfl, by rw [L1.out, flF_append]; exact hown1⟩, hide' (BG.out _ _ hgrow).2⟩, by simp [intOf]; omega⟩
        · have b1 : (x == 1) = false := by simpa using x1
          have b2 : (x == 2) = false := by simpa using x2
          have L1 := hide' (show linesF xs (k + 1) = linesF xs k by rw [LF.out, LI.out, if_neg x1, if_neg x2]; simp)
          clear LI x1 x2
          go_upto_region 9 with fail
          clear hw2 c0 c1 c2 c3
          go_wp2
          exact ⟨⟨k + 1, N, oa, q, by go_num, rfl, by omega, N24, hide' ⟨by rw [L1.out, OW.out.1], by rw [L1.out]; exact O2.out⟩, B2⟩, by simp [intOf]; omega⟩
    · obtain rfl : k = n := by omega
      have NL := hide' (show linesF xs xs.length = linesF xs k by rw [← HL.out])
      have LE := hide' (OW.out.1)
      have N0 := hide' (show Hid (N ≤ 24) from hide' N24)
      go_wp2
      go_loopw [5, 64] (fun ov kv wr => ∃ (j M : Nat) (oa : Option Addr) (q : Nat), kv = .int .i64 (j : Int) ∧ ov = .slice oa M q ∧ j ≤ k ∧ M = N + j ∧ Hid (wr.ownsRow w.heap.size 69 2 (.slice oa M q) M (flF (linesF xs k ++ endsF j))) ∧ Hid (Below w.heap.size w wr)) (fun _ kv _ => k - (intOf kv).toNat)
      case atStart => exact ⟨0, N, oa, q, rfl, rfl, by omega, by omega, hide' (by rw [endsF, List.append_nil]; exact OW.out.2), BW⟩
      case round =>
        obtain ⟨j, M, oa, q, rfl, rfl, hj, hM, OW, BW⟩ := hrel
        have M36 : M ≤ 36 := by omega
        have OR := hide' (fun k hk => (own_range OW.out k hk).1)
        by_cases d : (j : Int) < (k : Int)
        · have j12 : j < 12 := by omega
          have z0 := BW.out.size
          have SK := hide' (stand_any j j12 wr (HT.out wr BW.out))
          have CZ := hide' (come_any j j12 wr (HT.out wr BW.out))
          obtain ⟨pz, hpz⟩ : ∃ p, prN (5 + 2 * j) = p := ⟨_, rfl⟩
          obtain ⟨pk, hpk⟩ : ∃ p, prN (4 + 2 * j) = p := ⟨_, rfl⟩
          have L1 := hide' (show linesF xs k ++ endsF (j + 1) = (linesF xs k ++ endsF j) ++ [((pk : Int), (pz : Int))] by rw [endsF, hpz, hpk]; simp [natF])
          rw [hpz] at CZ
          rw [hpk] at SK
          have hM1 : M + 1 = N + (j + 1) := by omega
          clear hpz hpk hM
          go_wp2_with fail
          refine SK.out.mono ?_
          rintro e8 w8 ⟨rfl, rfl⟩
          go_wp2_with fail
          refine CZ.out.mono ?_
          rintro e8 w9 ⟨rfl, rfl⟩
          go_wp2_with (at_builtin; go_loud (refine wpList_append_own _ rfl _ _ 39 rfl w.heap.size 69 i0 _ 2 16 Tryz.underlying39 hi0 hz0 hz1 hz2 rfl (by decide) _ M _ rfl (OW.out.alloc _) ⟨w9.heap.size, 0, none⟩ 1 1 (flF [((pk : Int), (pz : Int))]) rfl rfl (news_two w9 _ _) (one_flF _) (by unfold maxLen; omega) (by omega) (by simp; omega) ?_; intro v' w1 ho hg hn; go_frame))
          obtain ⟨a', q', rfl⟩ := own_slice ho
          exact ⟨⟨j + 1, M + 1, a', q', by go_num, rfl, by omega, hM1, hide' (by rw [L1.out, flF_append]; exact ho), hide' ((BW.out.alloc z0 _).grown hg (by simp; omega) OR.out)⟩, by simp [intOf]; omega⟩
        · obtain rfl : j = k := by omega
          have FL := hide' (show fraL xs = linesF xs j ++ endsF j by unfold fraL; rw [NL.out, ← HL.out])
          have FN := hide' (show (fraL xs).length = M by rw [FL.out, List.length_append, LE.out, endsF_len]; omega)
          clear hM
          go_wp2
          go_ret2
          exact ⟨oa, q, by rw [FN.out]; rfl, by rw [FN.out, FL.out]; exact OW.out, BW.out⟩
end Go.Proofs.YtcfoeadfhkojeaaGreatDoor

namespace Go.Proofs.YtcfoeadfhkojeaaGreatDoor
open Go.RowKit
set_option linter.unusedVariables false
def wordL (x : Nat) : List UInt8 := [[], [105, 110, 99], [100, 101, 99], [104, 97, 108, 116]].getD x []
/-- The words, as they lie. -/
def WoT (w : World) : Prop := ∀ k, k < 4 → w.cell? ⟨0, k, none⟩ = some (.string ⟨(wordL k).toArray⟩)
theorem WoT.lt {w : World} (h : WoT w) : 0 < w.heap.size := by
  rcases Nat.lt_or_ge 0 w.heap.size with q | q
  · exact q
  · have := h 0 (by omega)
    simp [World.cell?, Array.getElem?_eq_none q] at this
theorem WoT.below {w w' : World} (h : WoT w) (hb : Below w.heap.size w w') : WoT w' := fun j hj => (World.cell?_of_block (w := w) (a := ⟨0, j, none⟩) (hb.block _ h.lt)).trans (h j hj)
end Go.Proofs.YtcfoeadfhkojeaaGreatDoor

