/-
  What the last text of this claim leans on, part 24: Ga3, Ga4.
-/
import Derived.Test.YtbkllhlapdmlfaaQb23
import Derived.Deep.CutRange
import Derived.Laws.BitsAllLaws
namespace Go.Proofs.Ytbkllhlapdmlfaa
open Go.RowKit
set_option linter.unusedVariables false
def afF (AF : Nat → Nat → Nat) (j : Nat) : Value := .int .u8 (AF (j / 64) (j % 64) : Int)
set_option maxRecDepth 100000 in
set_option maxHeartbeats 3200000 in
theorem meet_any (AF : Nat → Nat → Nat) (f m0 cs : Nat → Nat) (gm gn ga n m s B : Nat) (co : Option Addr) (cc : Nat) (w : World) (hm : CU w gm n m0) (hw : CU w gn n f) (n1 : gn ≠ gm) (n2 : ga ≠ gm) (hA : w.heap[ga]? = some (.cells (arrF 128 (afF AF)) 81 (0, 0))) (hC : ArgP w ((List.range m).map fun i => (cs i : Int)) co m cc) (n3 : ∀ g off, co = some ⟨g, off, none⟩ → g ≠ gm) (hcs : ∀ i, cs i ≤ 1) (hf : ∀ i, f i ≤ 63) (m1 : 1 ≤ m) (hs : s < m) (hn : n ≤ 10000) (hB : B ≤ gm) :
    Calls Try.prog 21 #[.slice (some ⟨gm, 0, none⟩) n n, .slice (some ⟨gn, 0, none⟩) n n, .pointer (some ⟨ga, 0, none⟩), .slice co m cc, .int .i64 (s : Int)] w fun e w' => e = .returned (.int .i64 (((s + n) % m : Nat) : Int)) ∧ CU w' gm n (fun k => AF (cs ((s + k) % m)) (f k)) ∧ (∀ j, j ≠ gm → w'.heap[j]? = w.heap[j]?) ∧ Below B w w' := by
  obtain ⟨r, hr⟩ : ∃ r, (s + n) % m = r := ⟨_, rfl⟩
  rw [hr]
  have HR := hide' hr
  clear hr
  have mM : m ≤ 9223372036854775807 := by have := hC.max; unfold maxLen at this; omega
  have HC := hide' (fun (V : World) (hV : ∀ j, j ≠ gm → V.heap[j]? = w.heap[j]?) k (hk : k < m) => show ∃ g off, co = some ⟨g, off, none⟩ ∧ V.cell? ⟨g, off + k, none⟩ = some (.int .i64 (cs k : Int)) from by
    obtain ⟨g, off, e, hg, hc⟩ := hC.cells k (by simpa using hk)
    simp only [List.getElem_map, List.getElem_range] at hc
    exact ⟨g, off, e, (World.cell?_of_block (w := w) (a := ⟨g, off + k, none⟩) (hV g (n3 g off e))).trans hc⟩)
  have HN := hide' (fun (V : World) (hV : ∀ j, j ≠ gm → V.heap[j]? = w.heap[j]?) k (hk : k < n) => show V.cell? ⟨gn, k, none⟩ = some (.int .u8 (f k : Int)) from (hw.block (hV gn n1)).cell hk)
  have HA := hide' (fun (V : World) (hV : ∀ j, j ≠ gm → V.heap[j]? = w.heap[j]?) z x (hz : z < 2) (hx : x < 64) => show V.cell? ⟨ga, z * 64 + x, none⟩ = some (.int .u8 ((AF z x : Nat) : Int)) from by
    rw [cell_of_row V _ _ _ _ _ ((hV ga n2).trans hA), arrF_get _ (by omega)]
    unfold afF
    rw [show (z * 64 + x) / 64 = z by omega, show (z * 64 + x) % 64 = x by omega])
  have HCS := hide' hcs
  have HF := hide' hf
  have BG := hide' hB
  have S0 := hide' (show CU w gm n (fun k => if k < 0 then AF (cs ((s + k) % m)) (f k) else m0 k) from hm.ext (fun k _ => by simp))
  have B0 := hide' (Below.refl B w)
  clear hm hw hA hC n3 hcs hf hB
  go_enter Try.func21, Try.ntmps21
  go_wp2
  go_loopw [4, 15] (fun fv iv wr => ∃ (i q : Nat), iv = .int .i64 (i : Int) ∧ fv = .int .i64 (q : Int) ∧ i ≤ n ∧ q < m ∧ Hid (q = (s + i) % m) ∧ Hid (CU wr gm n (fun k => if k < i then AF (cs ((s + k) % m)) (f k) else m0 k)) ∧ Hid (∀ j, j ≠ gm → wr.heap[j]? = w.heap[j]?) ∧ Hid (Below B w wr)) (fun _ iv _ => ((n : Int) - intOf iv).toNat)
  case atStart => exact ⟨0, s, by go_num, rfl, by omega, hs, hide' (by rw [Nat.add_zero, Nat.mod_eq_of_lt hs]), S0, hide' (fun _ _ => rfl), B0⟩
  case round =>
    obtain ⟨i, q, rfl, rfl, hi, hq1, HQ, HS, HK, HB⟩ := hrel
    obtain ⟨V, rfl⟩ : ∃ V, V = wr := ⟨_, rfl⟩
    by_cases d : (i : Int) < (n : Int)
    · have il : i < n := by omega
      obtain ⟨g, off, rfl, hc⟩ := HC.out V HK.out q hq1
      have cn := HN.out V HK.out i il
      have c1 := HS.out.cell il
      have f1 := HS.out.free i
      have l1 := HS.out.lt
      have hq := HQ.out.symm
      obtain ⟨x, hx⟩ : ∃ x, f i = x := ⟨_, rfl⟩
      have x63 : x ≤ 63 := by rw [← hx]; exact HF.out i
      have z1 := HCS.out q
      rw [hx] at cn
      have NQ : (q + 1 = m ∧ (s + (i + 1)) % m = 0) ∨ (q + 1 < m ∧ (s + (i + 1)) % m = q + 1) := by
        have e : (s + (i + 1)) % m = (q + 1) % m := by rw [← hq, ← Nat.add_assoc, Nat.add_mod (s + i) 1 m, Nat.add_mod ((s + i) % m) 1 m, Nat.mod_mod]
        by_cases h : q + 1 = m
        · left; exact ⟨h, by rw [e, h, Nat.mod_self]⟩
        · right; exact ⟨by omega, by rw [e, Nat.mod_eq_of_lt (by omega)]⟩
      have NQH := hide' NQ
      clear NQ
      rcases (by omega : cs q = 0 ∨ cs q = 1) with hz | hz <;> rw [hz] at hc
      · have ca : V.cell? ⟨ga, x, none⟩ = some (.int .u8 ((AF 0 x : Nat) : Int)) := by
          have := HA.out V HK.out 0 x (by omega) (by omega)
          simpa using this
        obtain ⟨y, hy⟩ : ∃ y, AF 0 x = y := ⟨_, rfl⟩
        rw [hy] at ca
        have NS := hide' ((HS.out.set i y).ext (fun k _ => show _ = (if k < i + 1 then AF (cs ((s + k) % m)) (f k) else m0 k) from by
          by_cases e : k = i
          · subst e; rw [if_pos rfl, if_pos (by omega), hq, hz, hx, hy]
          · rw [if_neg e]
            by_cases l : k < i
            · rw [if_pos l, if_pos (by omega)]
            · rw [if_neg l, if_neg (by omega)]))
        have NK := hide' (fun k (hk : k ≠ gm) => show (V.setCell ⟨gm, i, none⟩ (.int .u8 (y : Int))).heap[k]? = w.heap[k]? from (Below.heap_setCell _ _ _ _ hk).trans (HK.out k hk))
        have NB := hide' (HB.out.setCell (show B ≤ (⟨gm, i, none⟩ : Addr).block from BG.out) (.int .u8 (y : Int)))
        clear hq hz hx hy
        go_wp2
        go_region
        obtain ⟨X, hX⟩ : ∃ X, (V.setCell ⟨gm, i, none⟩ (.int .u8 (y : Int))).drew = X := ⟨_, rfl⟩
        rw [hX]
        have XS := hide' (show CU X gm n _ by rw [← hX]; exact NS.out)
        have XK := hide' (show ∀ k, k ≠ gm → X.heap[k]? = w.heap[k]? by rw [← hX]; exact NK.out)
        have XB := hide' (show Below B w X by rw [← hX]; exact NB.out.drew)
        clear hX NS NK NB
        rcases NQH.out with ⟨e1, e2⟩ | ⟨e1, e2⟩
        · have e3 : ((q : Int) + 1 == (m : Int)) = true := by simp; omega
          have e4 : (q : Int) + 1 = (m : Int) := by omega
          have QN := hide' e2
          clear e1 e2 hc
          go_wp2
          exact ⟨⟨i + 1, 0, by go_num, by go_num, by omega, by omega, hide' QN.out.symm, XS, XK, XB⟩, by simp [intOf]; omega⟩
        · have e3 : ((q : Int) + 1 == (m : Int)) = false := by simp; omega
          have e4 : ¬ (q : Int) + 1 = (m : Int) := by omega
          have QN := hide' e2
          clear e2 hc
          go_wp2
          exact ⟨⟨i + 1, q + 1, by go_num, by go_num, by omega, by omega, hide' QN.out.symm, XS, XK, XB⟩, by simp [intOf]; omega⟩
      · have ca : V.cell? ⟨ga, 64 + x, none⟩ = some (.int .u8 ((AF 1 x : Nat) : Int)) := by
          have := HA.out V HK.out 1 x (by omega) (by omega)
          simpa using this
        obtain ⟨y, hy⟩ : ∃ y, AF 1 x = y := ⟨_, rfl⟩
        rw [hy] at ca
        have NS := hide' ((HS.out.set i y).ext (fun k _ => show _ = (if k < i + 1 then AF (cs ((s + k) % m)) (f k) else m0 k) from by
          by_cases e : k = i
          · subst e; rw [if_pos rfl, if_pos (by omega), hq, hz, hx, hy]
          · rw [if_neg e]
            by_cases l : k < i
            · rw [if_pos l, if_pos (by omega)]
            · rw [if_neg l, if_neg (by omega)]))
        have NK := hide' (fun k (hk : k ≠ gm) => show (V.setCell ⟨gm, i, none⟩ (.int .u8 (y : Int))).heap[k]? = w.heap[k]? from (Below.heap_setCell _ _ _ _ hk).trans (HK.out k hk))
        have NB := hide' (HB.out.setCell (show B ≤ (⟨gm, i, none⟩ : Addr).block from BG.out) (.int .u8 (y : Int)))
        clear hq hz hx hy
        go_wp2
        go_region
        obtain ⟨X, hX⟩ : ∃ X, (V.setCell ⟨gm, i, none⟩ (.int .u8 (y : Int))).drew = X := ⟨_, rfl⟩
        rw [hX]
        have XS := hide' (show CU X gm n _ by rw [← hX]; exact NS.out)
        have XK := hide' (show ∀ k, k ≠ gm → X.heap[k]? = w.heap[k]? by rw [← hX]; exact NK.out)
        have XB := hide' (show Below B w X by rw [← hX]; exact NB.out.drew)
        clear hX NS NK NB
        rcases NQH.out with ⟨e1, e2⟩ | ⟨e1, e2⟩
        · have e3 : ((q : Int) + 1 == (m : Int)) = true := by simp; omega
          have e4 : (q : Int) + 1 = (m : Int) := by omega
          have QN := hide' e2
          clear e1 e2 hc
          go_wp2
          exact ⟨⟨i + 1, 0, by go_num, by go_num, by omega, by omega, hide' QN.out.symm, XS, XK, XB⟩, by simp [intOf]; omega⟩
        · have e3 : ((q : Int) + 1 == (m : Int)) = false := by simp; omega
          have e4 : ¬ (q : Int) + 1 = (m : Int) := by omega
          have QN := hide' e2
          clear e2 hc
          go_wp2
          exact ⟨⟨i + 1, q + 1, by go_num, by go_num, by omega, by omega, hide' QN.out.symm, XS, XK, XB⟩, by simp [intOf]; omega⟩
    · have ni : i = n := by omega
      subst ni
      have FS := hide' (HS.out.ext (f' := fun k => AF (cs ((s + k) % m)) (f k)) (fun k hk => if_pos hk))
      have qr : q = r := HQ.out.trans HR.out
      subst qr
      go_wp2
      go_ret
      exact ⟨rfl, FS.out, HK.out, HB.out⟩
end Go.Proofs.Ytbkllhlapdmlfaa

namespace Go.Proofs.Ytbkllhlapdmlfaa
open Go.RowKit
set_option linter.unusedVariables false
def orG (src : Nat → Nat → Nat) (j : Nat) : Value := .int .u16 (src (j / 6) (j % 6) : Int)
/-- What comes to a cell. -/
def mvF (f : Nat → Nat) (src : Nat → Nat → Nat) (i : Nat) : Nat := (((((f (src i 0) &&& 1) ||| (f (src i 1) &&& 2)) ||| (f (src i 2) &&& 4)) ||| (f (src i 3) &&& 8)) ||| (f (src i 4) &&& 16)) ||| (f (src i 5) &&& 32)
set_option maxRecDepth 100000 in
set_option maxHeartbeats 6400000 in
theorem move_any (f n0 : Nat → Nat) (src : Nat → Nat → Nat) (gn gm gf n B : Nat) (w : World) (hw : CU w gn n n0) (hm : CU w gm n f) (n1 : gm ≠ gn) (n2 : gf ≠ gn) (hF : w.heap[gf]? = some (.cells (arrF (n * 6) (orG src)) 86 (0, 0))) (hs : ∀ i d, src i d < n) (hf : ∀ i, f i ≤ 63) (hn : n ≤ 10000) (hB : B ≤ gn) :
    Calls Try.prog 22 #[.slice (some ⟨gn, 0, none⟩) n n, .slice (some ⟨gm, 0, none⟩) n n, .slice (some ⟨gf, 0, none⟩) n n] w fun e w' => e = .returned (.tuple #[]) ∧ CU w' gn n (mvF f src) ∧ (∀ j, j ≠ gn → w'.heap[j]? = w.heap[j]?) ∧ Below B w w' := by
  have HM := hide' (fun (V : World) (hV : ∀ j, j ≠ gn → V.heap[j]? = w.heap[j]?) k (hk : k < n) => show V.cell? ⟨gm, k, none⟩ = some (.int .u8 (f k : Int)) from (hm.block (hV gm n1)).cell hk)
  have HO := hide' (fun (V : World) (hV : ∀ j, j ≠ gn → V.heap[j]? = w.heap[j]?) i d (hi : i < n) (hd : d < 6) => show V.cell? ⟨gf, i * 6 + d, none⟩ = some (.int .u16 ((src i d : Nat) : Int)) from by
    rw [cell_of_row V _ _ _ _ _ ((hV gf n2).trans hF), arrF_get _ (by omega)]
    unfold orG
    rw [show (i * 6 + d) / 6 = i by omega, show (i * 6 + d) % 6 = d by omega])
  have HS' := hide' hs
  have HF := hide' hf
  have BG := hide' hB
  have S0 := hide' (show CU w gn n (fun k => if k < 0 then mvF f src k else n0 k) from hw.ext (fun k _ => by simp))
  have B0 := hide' (Below.refl B w)
  clear hm hw hF hs hf hB
  go_enter Try.func22, Try.ntmps22
  go_wp2
  go_loopw [10] (fun iv wr => ∃ (i : Nat), iv = .int .i64 (i : Int) ∧ i ≤ n ∧ Hid (CU wr gn n (fun k => if k < i then mvF f src k else n0 k)) ∧ Hid (∀ j, j ≠ gn → wr.heap[j]? = w.heap[j]?) ∧ Hid (Below B w wr)) (fun iv _ => ((n : Int) - intOf iv).toNat)
  case atStart => exact ⟨0, by go_num, by omega, S0, hide' (fun _ _ => rfl), B0⟩
  case round =>
    obtain ⟨i, rfl, hi, HS, HK, HB⟩ := hrel
    obtain ⟨V, rfl⟩ : ∃ V, V = wr := ⟨_, rfl⟩
    by_cases d : (i : Int) < (n : Int)
    · have il : i < n := by omega
      have c1 := HS.out.cell il
      have f1 := HS.out.free i
      have l1 := HS.out.lt
      have ne : V.heap[gf]? = w.heap[gf]? := HK.out gf n2
      have o0 := HO.out V HK.out i 0 il (by omega)
      have sl0 := HS'.out i 0
      have a0 := HM.out V HK.out (src i 0) sl0
      obtain ⟨s0, hs0⟩ : ∃ s, src i 0 = s := ⟨_, rfl⟩
      rw [hs0] at o0 sl0 a0
      have al0 := HF.out s0
      obtain ⟨x0, hx0⟩ : ∃ x, f s0 = x := ⟨_, rfl⟩
      rw [hx0] at a0 al0
      have sn0 : (s0 : Int) < (n : Int) := by omega
      have o1 := HO.out V HK.out i 1 il (by omega)
      have sl1 := HS'.out i 1
      have a1 := HM.out V HK.out (src i 1) sl1
      obtain ⟨s1, hs1⟩ : ∃ s, src i 1 = s := ⟨_, rfl⟩
      rw [hs1] at o1 sl1 a1
      have al1 := HF.out s1
      obtain ⟨x1, hx1⟩ : ∃ x, f s1 = x := ⟨_, rfl⟩
      rw [hx1] at a1 al1
      have sn1 : (s1 : Int) < (n : Int) := by omega
      have o2 := HO.out V HK.out i 2 il (by omega)
      have sl2 := HS'.out i 2
      have a2 := HM.out V HK.out (src i 2) sl2
      obtain ⟨s2, hs2⟩ : ∃ s, src i 2 = s := ⟨_, rfl⟩
      rw [hs2] at o2 sl2 a2
      have al2 := HF.out s2
      obtain ⟨x2, hx2⟩ : ∃ x, f s2 = x := ⟨_, rfl⟩
      rw [hx2] at a2 al2
      have sn2 : (s2 : Int) < (n : Int) := by omega
      have o3 := HO.out V HK.out i 3 il (by omega)
      have sl3 := HS'.out i 3
      have a3 := HM.out V HK.out (src i 3) sl3
      obtain ⟨s3, hs3⟩ : ∃ s, src i 3 = s := ⟨_, rfl⟩
      rw [hs3] at o3 sl3 a3
      have al3 := HF.out s3
      obtain ⟨x3, hx3⟩ : ∃ x, f s3 = x := ⟨_, rfl⟩
      rw [hx3] at a3 al3
      have sn3 : (s3 : Int) < (n : Int) := by omega
      have o4 := HO.out V HK.out i 4 il (by omega)
      have sl4 := HS'.out i 4
      have a4 := HM.out V HK.out (src i 4) sl4
      obtain ⟨s4, hs4⟩ : ∃ s, src i 4 = s := ⟨_, rfl⟩
      rw [hs4] at o4 sl4 a4
      have al4 := HF.out s4
      obtain ⟨x4, hx4⟩ : ∃ x, f s4 = x := ⟨_, rfl⟩
      rw [hx4] at a4 al4
      have sn4 : (s4 : Int) < (n : Int) := by omega
      have o5 := HO.out V HK.out i 5 il (by omega)
      have sl5 := HS'.out i 5
      have a5 := HM.out V HK.out (src i 5) sl5
      obtain ⟨s5, hs5⟩ : ∃ s, src i 5 = s := ⟨_, rfl⟩
      rw [hs5] at o5 sl5 a5
      have al5 := HF.out s5
      obtain ⟨x5, hx5⟩ : ∃ x, f s5 = x := ⟨_, rfl⟩
      rw [hx5] at a5 al5
      have sn5 : (s5 : Int) < (n : Int) := by omega
      obtain ⟨y, hy⟩ : ∃ y, mvF f src i = y := ⟨_, rfl⟩
      have YE : (((((x0 &&& 1) ||| (x1 &&& 2)) ||| (x2 &&& 4)) ||| (x3 &&& 8)) ||| (x4 &&& 16)) ||| (x5 &&& 32) = y := by rw [← hy, mvF, hs0, hx0, hs1, hx1, hs2, hx2, hs3, hx3, hs4, hx4, hs5, hx5]
      obtain ⟨p0, hp0⟩ : ∃ p, x0 &&& 1 = p := ⟨_, rfl⟩
      have pl0 : p0 < 64 := by rw [← hp0]; exact Nat.and_lt_two_pow (n := 6) _ (by omega)
      have ba0 : bits .and .u8 (x0 : Int) 1 = (p0 : Int) := by rw [← hp0]; exact u8_and_nat x0 1 (by omega) (by omega)
      rw [hp0] at YE
      obtain ⟨p1, hp1⟩ : ∃ p, x1 &&& 2 = p := ⟨_, rfl⟩
      have pl1 : p1 < 64 := by rw [← hp1]; exact Nat.and_lt_two_pow (n := 6) _ (by omega)
      have ba1 : bits .and .u8 (x1 : Int) 2 = (p1 : Int) := by rw [← hp1]; exact u8_and_nat x1 2 (by omega) (by omega)
      rw [hp1] at YE
      obtain ⟨p2, hp2⟩ : ∃ p, x2 &&& 4 = p := ⟨_, rfl⟩
      have pl2 : p2 < 64 := by rw [← hp2]; exact Nat.and_lt_two_pow (n := 6) _ (by omega)
      have ba2 : bits .and .u8 (x2 : Int) 4 = (p2 : Int) := by rw [← hp2]; exact u8_and_nat x2 4 (by omega) (by omega)
      rw [hp2] at YE
      obtain ⟨p3, hp3⟩ : ∃ p, x3 &&& 8 = p := ⟨_, rfl⟩
      have pl3 : p3 < 64 := by rw [← hp3]; exact Nat.and_lt_two_pow (n := 6) _ (by omega)
      have ba3 : bits .and .u8 (x3 : Int) 8 = (p3 : Int) := by rw [← hp3]; exact u8_and_nat x3 8 (by omega) (by omega)
      rw [hp3] at YE
      obtain ⟨p4, hp4⟩ : ∃ p, x4 &&& 16 = p := ⟨_, rfl⟩
      have pl4 : p4 < 64 := by rw [← hp4]; exact Nat.and_lt_two_pow (n := 6) _ (by omega)
      have ba4 : bits .and .u8 (x4 : Int) 16 = (p4 : Int) := by rw [← hp4]; exact u8_and_nat x4 16 (by omega) (by omega)
      rw [hp4] at YE
      obtain ⟨p5, hp5⟩ : ∃ p, x5 &&& 32 = p := ⟨_, rfl⟩
      have pl5 : p5 < 64 := by rw [← hp5]; exact Nat.and_lt_two_pow (n := 6) _ (by omega)
      have ba5 : bits .and .u8 (x5 : Int) 32 = (p5 : Int) := by rw [← hp5]; exact u8_and_nat x5 32 (by omega) (by omega)
      rw [hp5] at YE
      obtain ⟨r1, hr1⟩ : ∃ r, p0 ||| p1 = r := ⟨_, rfl⟩
      have rl1 : r1 < 64 := by rw [← hr1]; exact Nat.or_lt_two_pow (n := 6) pl0 pl1
      have bo1 : bits .or .u8 (p0 : Int) (p1 : Int) = (r1 : Int) := by rw [← hr1]; exact u8_or_nat p0 p1 (by omega) (by omega)
      rw [hr1] at YE
      obtain ⟨r2, hr2⟩ : ∃ r, r1 ||| p2 = r := ⟨_, rfl⟩
      have rl2 : r2 < 64 := by rw [← hr2]; exact Nat.or_lt_two_pow (n := 6) rl1 pl2
      have bo2 : bits .or .u8 (r1 : Int) (p2 : Int) = (r2 : Int) := by rw [← hr2]; exact u8_or_nat r1 p2 (by omega) (by omega)
      rw [hr2] at YE
      obtain ⟨r3, hr3⟩ : ∃ r, r2 ||| p3 = r := ⟨_, rfl⟩
      have rl3 : r3 < 64 := by rw [← hr3]; exact Nat.or_lt_two_pow (n := 6) rl2 pl3
      have bo3 : bits .or .u8 (r2 : Int) (p3 : Int) = (r3 : Int) := by rw [← hr3]; exact u8_or_nat r2 p3 (by omega) (by omega)
      rw [hr3] at YE
      obtain ⟨r4, hr4⟩ : ∃ r, r3 ||| p4 = r := ⟨_, rfl⟩
      have rl4 : r4 < 64 := by rw [← hr4]; exact Nat.or_lt_two_pow (n := 6) rl3 pl4
      have bo4 : bits .or .u8 (r3 : Int) (p4 : Int) = (r4 : Int) := by rw [← hr4]; exact u8_or_nat r3 p4 (by omega) (by omega)
      rw [hr4] at YE
      obtain ⟨r5, hr5⟩ : ∃ r, r4 ||| p5 = r := ⟨_, rfl⟩
      have rl5 : r5 < 64 := by rw [← hr5]; exact Nat.or_lt_two_pow (n := 6) rl4 pl5
      have bo5 : bits .or .u8 (r4 : Int) (p5 : Int) = (r5 : Int) := by rw [← hr5]; exact u8_or_nat r4 p5 (by omega) (by omega)
      rw [hr5] at YE
      obtain ⟨v0, hv0⟩ : ∃ v0, (if i < i then mvF f src i else n0 i) = v0 := ⟨_, rfl⟩
      rw [hv0] at c1
      have NY := hide' (YE.trans hy.symm)
      clear YE hy hv0 hp0 hp1 hp2 hp3 hp4 hp5 hr1 hr2 hr3 hr4 hr5 al0 al1 al2 al3 al4 al5 pl0 pl1 pl2 pl3 pl4 pl5 rl1 rl2 rl3 rl4
      simp only [Nat.add_zero] at o0
      clear hs0 hx0 hs1 hx1 hs2 hx2 hs3 hx3 hs4 hx4 hs5 hx5 ne
      go_upto_region 4 with fail
      have KV := hide' (fun (v : Value) => show ((V.setCell ⟨gn, i, none⟩ v).drew).cell? ⟨gf, i * 6, none⟩ = some (.int .u16 (s0 : Int)) ∧ ((V.setCell ⟨gn, i, none⟩ v).drew).cell? ⟨gm, s0, none⟩ = some (.int .u8 (x0 : Int)) ∧ ((V.setCell ⟨gn, i, none⟩ v).drew).cell? ⟨gf, i * 6 + 1, none⟩ = some (.int .u16 (s1 : Int)) ∧ ((V.setCell ⟨gn, i, none⟩ v).drew).cell? ⟨gm, s1, none⟩ = some (.int .u8 (x1 : Int)) ∧ ((V.setCell ⟨gn, i, none⟩ v).drew).cell? ⟨gf, i * 6 + 2, none⟩ = some (.int .u16 (s2 : Int)) ∧ ((V.setCell ⟨gn, i, none⟩ v).drew).cell? ⟨gm, s2, none⟩ = some (.int .u8 (x2 : Int)) ∧ ((V.setCell ⟨gn, i, none⟩ v).drew).cell? ⟨gf, i * 6 + 3, none⟩ = some (.int .u16 (s3 : Int)) ∧ ((V.setCell ⟨gn, i, none⟩ v).drew).cell? ⟨gm, s3, none⟩ = some (.int .u8 (x3 : Int)) ∧ ((V.setCell ⟨gn, i, none⟩ v).drew).cell? ⟨gf, i * 6 + 4, none⟩ = some (.int .u16 (s4 : Int)) ∧ ((V.setCell ⟨gn, i, none⟩ v).drew).cell? ⟨gm, s4, none⟩ = some (.int .u8 (x4 : Int)) ∧ ((V.setCell ⟨gn, i, none⟩ v).drew).cell? ⟨gf, i * 6 + 5, none⟩ = some (.int .u16 (s5 : Int)) ∧ ((V.setCell ⟨gn, i, none⟩ v).drew).cell? ⟨gm, s5, none⟩ = some (.int .u8 (x5 : Int)) from ⟨(World.cell?_of_block (w := V) (a := ⟨gf, i * 6, none⟩) (Below.heap_setCell V ⟨gn, i, none⟩ v gf n2)).trans o0, (World.cell?_of_block (w := V) (a := ⟨gm, s0, none⟩) (Below.heap_setCell V ⟨gn, i, none⟩ v gm n1)).trans a0, (World.cell?_of_block (w := V) (a := ⟨gf, i * 6 + 1, none⟩) (Below.heap_setCell V ⟨gn, i, none⟩ v gf n2)).trans o1, (World.cell?_of_block (w := V) (a := ⟨gm, s1, none⟩) (Below.heap_setCell V ⟨gn, i, none⟩ v gm n1)).trans a1, (World.cell?_of_block (w := V) (a := ⟨gf, i * 6 + 2, none⟩) (Below.heap_setCell V ⟨gn, i, none⟩ v gf n2)).trans o2, (World.cell?_of_block (w := V) (a := ⟨gm, s2, none⟩) (Below.heap_setCell V ⟨gn, i, none⟩ v gm n1)).trans a2, (World.cell?_of_block (w := V) (a := ⟨gf, i * 6 + 3, none⟩) (Below.heap_setCell V ⟨gn, i, none⟩ v gf n2)).trans o3, (World.cell?_of_block (w := V) (a := ⟨gm, s3, none⟩) (Below.heap_setCell V ⟨gn, i, none⟩ v gm n1)).trans a3, (World.cell?_of_block (w := V) (a := ⟨gf, i * 6 + 4, none⟩) (Below.heap_setCell V ⟨gn, i, none⟩ v gf n2)).trans o4, (World.cell?_of_block (w := V) (a := ⟨gm, s4, none⟩) (Below.heap_setCell V ⟨gn, i, none⟩ v gm n1)).trans a4, (World.cell?_of_block (w := V) (a := ⟨gf, i * 6 + 5, none⟩) (Below.heap_setCell V ⟨gn, i, none⟩ v gf n2)).trans o5, (World.cell?_of_block (w := V) (a := ⟨gm, s5, none⟩) (Below.heap_setCell V ⟨gn, i, none⟩ v gm n1)).trans a5⟩)
      go_region_held3 (fun U => U.cell? ⟨gf, i * 6, none⟩ = some (.int .u16 (s0 : Int)) ∧ U.cell? ⟨gm, s0, none⟩ = some (.int .u8 (x0 : Int)) ∧ U.cell? ⟨gf, i * 6 + 1, none⟩ = some (.int .u16 (s1 : Int)) ∧ U.cell? ⟨gm, s1, none⟩ = some (.int .u8 (x1 : Int)) ∧ U.cell? ⟨gf, i * 6 + 2, none⟩ = some (.int .u16 (s2 : Int)) ∧ U.cell? ⟨gm, s2, none⟩ = some (.int .u8 (x2 : Int)) ∧ U.cell? ⟨gf, i * 6 + 3, none⟩ = some (.int .u16 (s3 : Int)) ∧ U.cell? ⟨gm, s3, none⟩ = some (.int .u8 (x3 : Int)) ∧ U.cell? ⟨gf, i * 6 + 4, none⟩ = some (.int .u16 (s4 : Int)) ∧ U.cell? ⟨gm, s4, none⟩ = some (.int .u8 (x4 : Int)) ∧ U.cell? ⟨gf, i * 6 + 5, none⟩ = some (.int .u16 (s5 : Int)) ∧ U.cell? ⟨gm, s5, none⟩ = some (.int .u8 (x5 : Int))) (first | exact ⟨o0, a0, o1, a1, o2, a2, o3, a3, o4, a4, o5, a5⟩ | exact KV.out _ | fail) (first | fail | fail)
      obtain ⟨X, hX⟩ : ∃ X, (V.setCell ⟨gn, i, none⟩ (.int .u8 (r5 : Int))).drew = X := ⟨_, rfl⟩
      rw [hX]
      have XS := hide' (show CU X gn n (fun k => if k < i + 1 then mvF f src k else n0 k) by
        rw [← hX]
        refine CU.ext (HS.out.set i r5) (fun k _ => ?_)
        by_cases e : k = i
        · subst e; rw [if_pos rfl, if_pos (by omega)]; exact NY.out
        · rw [if_neg e]
          by_cases l : k < i
          · rw [if_pos l, if_pos (by omega)]
          · rw [if_neg l, if_neg (by omega)])
      have XK := hide' (show ∀ k, k ≠ gn → X.heap[k]? = w.heap[k]? by rw [← hX]; exact fun k hk => (Below.heap_setCell _ _ _ _ hk).trans (HK.out k hk))
      have XB := hide' (show Below B w X by rw [← hX]; exact (HB.out.setCell (show B ≤ (⟨gn, i, none⟩ : Addr).block from BG.out) _).drew)
      clear hX c1 f1 l1 KV o0 a0 o1 a1 o2 a2 o3 a3 o4 a4 o5 a5 ba0 ba1 ba2 ba3 ba4 ba5 bo1 bo2 bo3 bo4 bo5
      go_wp2
      exact ⟨⟨i + 1, by go_num, by omega, XS, XK, XB⟩, by simp [intOf]; omega⟩
    · have ni : i = n := by omega
      subst ni
      have FS := hide' (HS.out.ext (f' := mvF f src) (fun k hk => if_pos hk))
      go_wp2
      go_end0
      exact ⟨rfl, FS.out, HK.out, HB.out⟩
end Go.Proofs.Ytbkllhlapdmlfaa

