/-
  What the last text of this claim leans on, part 2: Wa1, In1, Li1, Li2.
-/
import Derived.Test.YtjjdjdodhedihaaJj1
import Derived.Laws.CopyOwn
import Derived.Laws.IdiomCopy
namespace Go.Proofs.Ytjjdjdodhedihaa
open Go.RowKit
set_option linter.unusedVariables false

/-- A pattern that came in, as a value: its cells anywhere. -/
structure ArgP (w : World) (xs : List Int) (a : Option Addr) (n c : Nat) : Prop where
  len : n = xs.length
  max : n ≤ maxLen
  cells : ∀ k (h : k < xs.length), ∃ g off, a = some ⟨g, off, none⟩ ∧ g < w.heap.size ∧ w.cell? ⟨g, off + k, none⟩ = some (.int .i64 xs[k])
theorem ArgP.below {w w' : World} {xs : List Int} {a : Option Addr} {n c : Nat} (h : ArgP w xs a n c) (hb : Below w.heap.size w w') : ArgP w' xs a n c :=
  ⟨h.len, h.max, fun k hk => by
    obtain ⟨g, off, e, hg, hc⟩ := h.cells k hk
    exact ⟨g, off, e, Nat.lt_of_lt_of_le hg hb.size, (World.cell?_of_block (w := w) (a := ⟨g, off + k, none⟩) (hb.block g hg)).trans hc⟩⟩
theorem ArgP.alloc {w : World} {xs : List Int} {a : Option Addr} {n c : Nat} (h : ArgP w xs a n c) (x : Obj) : ArgP (w.alloc x) xs a n c :=
  h.below ((Below.refl _ _).alloc (Nat.le_refl _) _)

def errOf (f : Nat) : Value := if f = 0 then .nilIface else .iface 33 (.int .i64 (f : Int))

end Go.Proofs.Ytjjdjdodhedihaa

namespace Go.Proofs.Ytjjdjdodhedihaa
open Go.RowKit
set_option linter.unusedVariables false

theorem list_ne_len {xs ys : List Int} (h : xs.length ≠ ys.length) : decide (xs = ys) = false := by
  simp; intro e; exact h (by rw [e])
theorem list_ne_at {xs ys : List Int} {k : Nat} (hx : k < xs.length) (hy : k < ys.length) (h : xs[k] ≠ ys[k]) : decide (xs = ys) = false := by
  simp; intro e; subst e; exact h rfl

set_option maxHeartbeats 1600000 in
theorem Ints_any (xs ys : List Int) (a b : Option Addr) (n c m d : Nat) (w : World) (hA : ArgP w xs a n c) (hB : ArgP w ys b m d) :
    Calls Try.prog 6 #[.slice a n c, .slice b m d] w fun e w' => e = .returned (.bool (decide (xs = ys))) ∧ ∃ q, w' = w.drewN q := by
  have HA := hide' hA
  have HB := hide' hB
  have hlx := hA.len
  have hly := hB.len
  have hma := hA.max
  have hmb := hB.max
  have LX := hide' hlx
  have LY := hide' hly
  unfold maxLen at hma hmb
  by_cases hnm : n = m
  · subst hnm
    clear hA hB hlx hly
    have EQ := hide' (fun (h : ∀ j (h1 : j < xs.length) (h2 : j < ys.length), xs[j] = ys[j]) => show decide (xs = ys) = true by
      simp; exact List.ext_getElem (by rw [← LX.out, ← LY.out]) fun j h1 h2 => h j h1 h2)
    go_enter Try.func6, Try.ntmps6
    go_wp2
    go_loopw [5] (fun iv wr => ∃ k q : Nat, iv = .int .i64 (k : Int) ∧ k ≤ n ∧ wr = w.drewN q ∧ Hid (∀ j (h1 : j < xs.length) (h2 : j < ys.length), j < k → xs[j] = ys[j])) (fun iv _ => n - (intOf iv).toNat)
    case atStart => exact ⟨0, 0, rfl, by omega, rfl, fun j h1 h2 h => by omega⟩
    case round =>
      obtain ⟨k, q, rfl, hk, rfl, HK⟩ := hrel
      by_cases hkn : (k : Int) < (n : Int)
      · have l1 : k < xs.length := by have := LX.out; omega
        have l2 : k < ys.length := by have := LY.out; omega
        obtain ⟨ga, oa, rfl, -, c1⟩ := HA.out.cells k l1
        obtain ⟨gb, ob, rfl, -, c2⟩ := HB.out.cells k l2
        obtain ⟨x, hx⟩ : ∃ x, xs[k] = x := ⟨_, rfl⟩
        obtain ⟨y, hy⟩ : ∃ y, ys[k] = y := ⟨_, rfl⟩
        rw [hx] at c1
        rw [hy] at c2
        have HX := hide' hx
        have HY := hide' hy
        clear hx hy
        by_cases e : x = y
        · subst e
          have m1 : (x != x) = false := by simp
          go_wp2
          go_quiet (fail)
          go_wp2
          refine ⟨⟨k + 1, q + nq, by go_num, by omega, rfl, fun j h1 h2 h => ?_⟩, by simp [intOf]; omega⟩
          by_cases ej : j = k
          · subst ej; rw [HX.out, HY.out]
          · exact HK.out j h1 h2 (by omega)
        · have m1 : (x != y) = true := by simp [e]
          have F := hide' (list_ne_at l1 l2 (by rw [HX.out, HY.out]; exact e))
          clear e
          go_wp2
          go_quiet (fail)
          go_wp2
          go_ret
          exact ⟨by rw [F.out]; rfl, q + nq, by simp [World.drewN, Nat.add_assoc]⟩
      · have F := hide' (EQ.out fun j h1 h2 => HK.out j h1 h2 (by have := LX.out; omega))
        go_wp2
        go_ret
        exact ⟨by rw [F.out]; rfl, q, rfl⟩
  · have m1 : ((n : Int) != (m : Int)) = true := by simp; omega
    have F := hide' (list_ne_len (xs := xs) (ys := ys) (by rw [← hlx, ← hly]; exact hnm))
    clear hA hB hlx hly hnm
    go_enter Try.func6, Try.ntmps6
    go_wp2
    go_ret
    exact ⟨by rw [F.out]; rfl, 0, rfl⟩

end Go.Proofs.Ytjjdjdodhedihaa

namespace Go.Proofs.Ytjjdjdodhedihaa
open Go.RowKit
set_option linter.unusedVariables false

/-- A rule of a line that Check takes. -/
structure LineOk (S R : Nat) (T : List Int) : Prop where
  s2 : 2 ≤ S
  s4 : S ≤ 4
  r10 : R ≤ 10
  len : T.length = S ^ (2 * R + 1)
  max : T.length ≤ 4096
  ok : cellsOk S T
theorem LineOk.lenI {S R : Nat} {T : List Int} (h : LineOk S R T) : (T.length : Int) = (S : Int) ^ (2 * R + 1) := by rw [h.len]; simp
/-- Such a rule in a box. -/
structure RB (p S R : Nat) (v : Value) (w : World) : Prop where
  c0 : w.cell? ⟨p, 0, none⟩ = some (.int .i64 2)
  c1 : w.cell? ⟨p, 1, none⟩ = some (.int .i64 0)
  c2 : w.cell? ⟨p, 2, none⟩ = some (.int .i64 0)
  c3 : w.cell? ⟨p, 3, none⟩ = some (.int .i64 (S : Int))
  c4 : w.cell? ⟨p, 4, none⟩ = some (.int .i64 (R : Int))
  c5 : w.cell? ⟨p, 5, none⟩ = some v
  c6 : w.cell? ⟨p, 6, none⟩ = some (.string ⟨#[]⟩)
theorem RB.lt {p S R : Nat} {v : Value} {w : World} (h : RB p S R v w) : p < w.heap.size := by
  rcases Nat.lt_or_ge p w.heap.size with k | k
  · exact k
  · have := h.c0; simp [World.cell?, Array.getElem?_eq_none k] at this
theorem RB.block {p S R : Nat} {v : Value} {w w' : World} (h : RB p S R v w) (e : w'.heap[p]? = w.heap[p]?) : RB p S R v w' :=
  ⟨(World.cell?_of_block (w := w) (a := ⟨p, 0, none⟩) e).trans h.c0, (World.cell?_of_block (w := w) (a := ⟨p, 1, none⟩) e).trans h.c1, (World.cell?_of_block (w := w) (a := ⟨p, 2, none⟩) e).trans h.c2, (World.cell?_of_block (w := w) (a := ⟨p, 3, none⟩) e).trans h.c3, (World.cell?_of_block (w := w) (a := ⟨p, 4, none⟩) e).trans h.c4, (World.cell?_of_block (w := w) (a := ⟨p, 5, none⟩) e).trans h.c5, (World.cell?_of_block (w := w) (a := ⟨p, 6, none⟩) e).trans h.c6⟩
theorem RB.next {p S R : Nat} {v : Value} {w w' : World} (h : RB p S R v w) (hb : Below w.heap.size w w') : RB p S R v w' := h.block (hb.block p h.lt)
theorem RB.rd {p S R b : Nat} {v : Value} {w w' : World} (h : RB p S R v w) (hb : Rd b w w') (hp : p ≠ b) : RB p S R v w' := h.block (hb.block p h.lt hp)
theorem RB.alloc {p S R : Nat} {v : Value} {w : World} (h : RB p S R v w) (o : Obj) : RB p S R v (w.alloc o) := h.block (Below.heap_alloc _ _ _ h.lt)
theorem RB.new (w : World) (S R : Nat) (v : Value) (t : TypeId) : RB w.heap.size S R v (w.alloc (.cells #[.int .i64 2, .int .i64 0, .int .i64 0, .int .i64 (S : Int), .int .i64 (R : Int), v, .string ⟨#[]⟩] t)) :=
  ⟨by rw [World.cell?_alloc_at _ _ _ _ rfl]; rfl, by rw [World.cell?_alloc_at _ _ _ _ rfl]; rfl, by rw [World.cell?_alloc_at _ _ _ _ rfl]; rfl, by rw [World.cell?_alloc_at _ _ _ _ rfl]; rfl, by rw [World.cell?_alloc_at _ _ _ _ rfl]; rfl, by rw [World.cell?_alloc_at _ _ _ _ rfl]; rfl, by rw [World.cell?_alloc_at _ _ _ _ rfl]; rfl⟩

/-- A list whose block is another one stays. -/
theorem ArgP.rd {w w' : World} {xs : List Int} {a : Option Addr} {n c b : Nat} (h : ArgP w xs a n c) (hr : Rd b w w') (hb : ∀ g off, a = some ⟨g, off, none⟩ → g ≠ b) : ArgP w' xs a n c :=
  ⟨h.len, h.max, fun k hk => by
    obtain ⟨g, off, e, hg, hc⟩ := h.cells k hk
    exact ⟨g, off, e, Nat.lt_of_lt_of_le hg hr.size, (World.cell?_of_block (w := w) (a := ⟨g, off + k, none⟩) (hr.block g hg (hb g off e))).trans hc⟩⟩
theorem ArgP.at {w : World} {xs : List Int} {a : Option Addr} {n c : Nat} (h : ArgP w xs a n c) {k : Nat} (hk : k < n) : ∃ g off, a = some ⟨g, off, none⟩ ∧ w.cell? ⟨g, off + k, none⟩ = some (.int .i64 (xs.getD k 0)) := by
  have hl := h.len
  obtain ⟨g, off, e, hg, hc⟩ := h.cells k (by omega)
  exact ⟨g, off, e, by rw [hc]; simp [List.getD, show k < xs.length by omega]⟩

theorem Cel.argP {w : World} {g n c : Nat} {xs : List Int} (h : Cel w g xs) (hn : xs.length = n) (hm : n ≤ maxLen) : ArgP w xs (some ⟨g, 0, none⟩) n c := by
  subst hn
  exact ⟨rfl, hm, fun k hk => ⟨g, 0, rfl, h.lt, by rw [Nat.zero_add, h.cells k hk]; simp [List.getD, hk]⟩⟩
/-- The first i cells are A's, the rest as they were. -/
def mixL (A ts : List Int) (i : Nat) : List Int := (List.range ts.length).map fun j => if j < i then A.getD j 0 else ts.getD j 0
theorem mixL_length (A ts : List Int) (i : Nat) : (mixL A ts i).length = ts.length := by simp [mixL]
theorem mixL_zero (A ts : List Int) : mixL A ts 0 = ts := by
  apply List.ext_getElem (by simp [mixL])
  intro k h1 h2
  simp [mixL, h2]
theorem mixL_full (A ts : List Int) (h : A.length = ts.length) : mixL A ts ts.length = A := by
  apply List.ext_getElem (by simp [mixL, h])
  intro k h1 h2
  have : k < ts.length := by omega
  simp [mixL, this, h2]
theorem mixL_set (A ts : List Int) (i : Nat) {x : Int} (hx : A.getD i 0 = x) : (mixL A ts i).set i x = mixL A ts (i + 1) := by
  apply List.ext_getElem (by simp [mixL])
  intro k h1 h2
  have hk : k < ts.length := by simpa [mixL] using h2
  rw [List.getElem_set]
  by_cases e : i = k
  · subst e
    simp [mixL, ← hx]
  · rw [if_neg e]
    simp only [mixL, List.getElem_map, List.getElem_range]
    by_cases d : k < i
    · rw [if_pos d, if_pos (by omega)]
    · rw [if_neg d, if_neg (by omega)]

theorem pow_le_tab {S R : Nat} {T : List Int} (h : LineOk S R T) {m : Nat} (hm : m ≤ 2 * R + 1) : ((S : Int) ^ m) ≤ 4096 := by
  have h1 : S ^ m ≤ S ^ (2 * R + 1) := Nat.pow_le_pow_right (by have := h.s2; omega) hm
  have h2 := h.len
  have h3 := h.max
  have : ((S ^ m : Nat) : Int) ≤ 4096 := by omega
  simpa using this
theorem first_is {S R : Nat} {T : List Int} (h : LineOk S R T) : (T.length : Int) / (S : Int) = (S : Int) ^ (2 * R) := by
  rw [h.lenI, Int.pow_succ]
  exact Int.mul_ediv_cancel _ (by have := h.s2; omega)

set_option maxRecDepth 100000 in
set_option maxHeartbeats 1600000 in
theorem shorten_any (S R : Nat) (T : List Int) (ta : Option Addr) (tn tc : Nat) (fs : List Int) (fa : Option Addr) (fn fc gt m cm : Nat) (ts : List Int) (w : World)
    (hL : LineOk S R T) (hT : ArgP w T ta tn tc) (hF : ArgP w fs fa fn (fc + 1)) (hfc : fn ≤ fc + 1) (hfm : fc + 1 ≤ maxLen) (hok : cellsOk S fs) (hC : Cel w gt ts) (hm : ts.length = m) (hfn : fn = m + 2 * R) (hm1 : m ≤ 1100)
    (hTg : ∀ g off, ta = some ⟨g, off, none⟩ → g ≠ gt) (hFg : ∀ g off, fa = some ⟨g, off, none⟩ → g ≠ gt) :
    Calls Try.prog 18 #[.agg #[.int .i64 2, .int .i64 0, .int .i64 0, .int .i64 (S : Int), .int .i64 (R : Int), .slice ta tn tc, .string ⟨#[]⟩], .slice fa fn (fc + 1), .slice (some ⟨gt, 0, none⟩) m cm] w fun e w' => e = .returned (.tuple #[]) ∧ Cel w' gt (applyL S R T fs) ∧ Rd gt w w' := by
  obtain ⟨w1, hw1⟩ : ∃ w1, w.alloc (.cells #[.int .i64 2, .int .i64 0, .int .i64 0, .int .i64 (S : Int), .int .i64 (R : Int), .slice ta tn tc, .string ⟨#[]⟩] 24) = w1 := ⟨_, rfl⟩
  have hgt := hC.lt
  have RX := hide' (show RB w.heap.size S R (.slice ta tn tc) w1 by rw [← hw1]; exact RB.new w S R _ _)
  have AT := hide' (show ArgP w1 T ta tn tc by rw [← hw1]; exact hT.alloc _)
  have AF := hide' (show ArgP w1 fs fa fn (fc + 1) by rw [← hw1]; exact hF.alloc _)
  have CT := hide' (show Cel w1 gt (mixL (applyL S R T fs) ts 0) by rw [mixL_zero, ← hw1]; exact hC.below ((Below.refl _ _).alloc (Nat.le_refl _) _))
  have R0 := hide' (show Rd gt w w1 by rw [← hw1]; exact (Rd.refl _ _).alloc _)
  have z1 : w1.heap.size = w.heap.size + 1 := by rw [← hw1]; simp
  have HL := hide' hL
  have HM := hide' hm
  have HO := hide' hok
  have HTG := hide' hTg
  have HFG := hide' hFg
  have FL := hide' hF.len
  have TL := hide' hT.len
  have s2 := hL.s2
  have s4 := hL.s4
  have r10 := hL.r10
  have hmx := hL.max
  have hfmx := hF.max
  unfold maxLen at hfm hfmx
  have htn : tn ≤ 4096 := by have := hT.len; omega
  have s0 : ((S : Int) == 0) = false := by simp; omega
  have HFN := hide' hfn
  have hq : ∃ q : Nat, (tn : Int) / (S : Int) = (q : Int) ∧ (q : Int) = (S : Int) ^ (2 * R) := ⟨S ^ (2 * R), by rw [hT.len, first_is hL]; simp, by simp⟩
  obtain ⟨q, hq1, hq2⟩ := hq
  have hq4 : (q : Int) ≤ 4096 := by rw [hq2]; exact pow_le_tab hL (by omega)
  have Q2 := hide' hq2
  have o1 : 2 * R ≤ fc + 1 := by omega
  have o2 : (2 * (R : Int)) ≤ ((fc : Int) + 1) := by omega
  have o3 : 2 * R ≤ fn := by omega
  clear hT hF hC hm hok hTg hFg hL hq2 hfn
  obtain ⟨x0, x1, x2, x3, x4, x5, x6⟩ := RX.out
  go_enter Try.func18, Try.ntmps18
  go_wp2
  clear hw1
  go_loop [8, 25] (fun wv iv => ∃ i v : Nat, iv = .int .i64 (i : Int) ∧ wv = .int .i64 (v : Int) ∧ i ≤ 2 * R ∧ Hid ((v : Int) = wn S (fun t => fs.getD t 0) 0 i)) (fun _ iv => 2 * R - (intOf iv).toNat)
  case atStart => exact ⟨0, 0, rfl, rfl, by omega, hide' rfl⟩
  case round =>
    obtain ⟨i, v, rfl, rfl, hi, HV⟩ := hrel
    by_cases d : (i : Int) < 2 * (R : Int)
    · obtain ⟨g, off, rfl, hc⟩ := AF.out.at (k := i) (by omega)
      obtain ⟨x, hx⟩ : ∃ x : Nat, fs.getD i 0 = (x : Int) := ⟨(fs.getD i 0).toNat, by have := cellsOk_at HO.out (k := i) (by have := FL.out; omega); omega⟩
      rw [hx] at hc
      obtain ⟨p, hp⟩ : ∃ p : Nat, (v : Int) * (S : Int) = (p : Int) := ⟨v * S, by simp⟩
      have HN := hide' (show ((p + x : Nat) : Int) = wn S (fun t => fs.getD t 0) 0 (i + 1) by rw [wn, ← HV.out, hp, Nat.zero_add, hx]; simp)
      have hlt : p + x ≤ 4096 := by
        have h1 := wn_lt (S := (S : Int)) (f := fun t => fs.getD t 0) (i := 0) (m := i + 1) (by omega) (fun e he => cellsOk_at HO.out (by have := FL.out; omega))
        have h2 := pow_le_tab HL.out (m := i + 1) (by omega)
        rw [← HN.out] at h1
        omega
      have k1 : i < 2 * R := by omega
      clear hx
      go_wp2
      exact ⟨⟨i + 1, p + x, by go_num, by go_num, by omega, HN.out⟩, by simp [intOf]; omega⟩
    · have WI := hide' (show (v : Int) = wn S (fun t => fs.getD t 0) 0 (2 * R) by rw [HV.out, show i = 2 * R by omega])
      clear HV
      go_wp2
      go_loopw [8, 38] (fun wv iv wr => ∃ i v : Nat, iv = .int .i64 (i : Int) ∧ wv = .int .i64 (v : Int) ∧ i ≤ m ∧ Hid ((v : Int) = wn S (fun t => fs.getD t 0) i (2 * R)) ∧ Cel wr gt (mixL (applyL S R T fs) ts i) ∧ Rd gt w1 wr) (fun _ iv _ => m - (intOf iv).toNat)
      case atStart => exact ⟨0, v, rfl, rfl, by omega, WI, CT.out, Rd.refl _ _⟩
      case round =>
        obtain ⟨i, v, rfl, rfl, hi, HV, ce, rd⟩ := hrel
        have CE := hide' ce
        have RR := hide' rd
        clear ce rd
        by_cases d : (i : Int) < (m : Int)
        · have hz := RR.out.size
          obtain ⟨y0, y1, y2, y3, y4, y5, y6⟩ := RX.out.rd RR.out (by omega)
          have AF2 := hide' (AF.out.rd RR.out HFG.out)
          have AT2 := hide' (AT.out.rd RR.out HTG.out)
          obtain ⟨g, off, rfl, hc1⟩ := AF2.out.at (k := i + 2 * R) (by have := HFN.out; omega)
          obtain ⟨g', off', e', hc2⟩ := AF2.out.at (k := i) (by have := HFN.out; omega)
          injection e' with e'
          injection e' with e1 e2
          subst e1 e2
          obtain ⟨x, hx⟩ : ∃ x : Nat, fs.getD (i + 2 * R) 0 = (x : Int) := ⟨(fs.getD (i + 2 * R) 0).toNat, by have := cellsOk_at HO.out (k := i + 2 * R) (by have := FL.out; have := HFN.out; omega); omega⟩
          obtain ⟨y, hy⟩ : ∃ y : Nat, fs.getD i 0 = (y : Int) := ⟨(fs.getD i 0).toNat, by have := cellsOk_at HO.out (k := i) (by have := FL.out; have := HFN.out; omega); omega⟩
          rw [hx] at hc1
          rw [hy] at hc2
          obtain ⟨p, hp⟩ : ∃ p : Nat, (v : Int) * (S : Int) = (p : Int) := ⟨v * S, by simp⟩
          obtain ⟨z, hz2⟩ : ∃ z : Nat, (y : Int) * (q : Int) = (z : Int) := ⟨y * q, by simp⟩
          have HN := hide' (show ((p + x : Nat) : Int) = wn S (fun t => fs.getD t 0) i (2 * R + 1) by rw [wn, ← HV.out, hp, hx]; simp)
          have HW := hide' (show ((p + x : Nat) : Int) = (z : Int) + wn S (fun t => fs.getD t 0) (i + 1) (2 * R) by rw [HN.out, wn_tail, hy, ← Q2.out, hz2])
          have hlt : p + x < T.length := by
            have h1 := win_in (S := (S : Int)) (R := R) (T := T) (f := fun t => fs.getD t 0) (i := i) (by omega) HL.out.lenI (fun e he => cellsOk_at HO.out (by have := FL.out; have := HFN.out; omega))
            rw [← HN.out] at h1
            omega
          have hge : z ≤ p + x := by
            have h1 := wn_nonneg (S := (S : Int)) (f := fun t => fs.getD t 0) (i := i + 1) (m := 2 * R) (by omega) (fun e he => (cellsOk_at HO.out (by have := FL.out; have := HFN.out; omega)).1)
            have h2 := HW.out
            omega
          have htl : p + x < tn := by have := TL.out; omega
          obtain ⟨tg, toff, rfl, hc3⟩ := AT2.out.at (k := p + x) htl
          have HA := hide' (show (applyL S R T fs).getD i 0 = T.getD (p + x) 0 by
            rw [applyL_at _ _ _ _ (by have := FL.out; have := HFN.out; omega), ← HN.out]; rfl)
          obtain ⟨u, hu⟩ : ∃ u, T.getD (p + x) 0 = u := ⟨_, rfl⟩
          rw [hu] at hc3 HA
          have hc4 := CE.out.cells i (by rw [mixL_length]; have := HM.out; omega)
          have hf4 := CE.out.fz i
          have o4 : i + 2 * R < fn := by have := HFN.out; omega
          have o5 : i < fn := by omega
          have o6 : i < m := by omega
          have HX := hide' hx
          have HY := hide' hy
          have HU := hide' hu
          clear hx hy hu x0 x1 x2 x3 x4 x5 x6
          have ng : g ≠ gt := HFG.out g off rfl
          have ng' : gt ≠ g := fun e => ng e.symm
          have ng2 : w.heap.size ≠ gt := by omega
          have MX := hide' (mixL_set (applyL S R T fs) ts i HA.out)
          have W2 := hide' (show ((p + x - z : Nat) : Int) = wn S (fun t => fs.getD t 0) (i + 1) (2 * R) by have := HW.out; omega)
          go_wp2
          go_quiet (fail)
          go_wp2
          refine ⟨⟨i + 1, p + x - z, by go_num, by rw [show ((p + x - z : Nat) : Int) = (p : Int) + x - z by omega], by omega, W2, ?_, ?_⟩, by simp [intOf]; omega⟩
          · rw [← MX.out]
            exact Cel.set (CE.out.rd (b := w.heap.size) ((Rd.refl _ _).drewN nq) (by omega)) i u (by rw [mixL_length]; have := HM.out; omega)
          · exact (RR.out.drewN nq).set i _
        · have FIN := hide' (show Cel wr gt (applyL S R T fs) by
            have h := CE.out
            rw [show i = ts.length by have := HM.out; omega, mixL_full _ _ (by rw [applyL_length]; have := FL.out; have := HFN.out; have := HM.out; omega)] at h
            exact h)
          go_wp2
          go_end0
          exact ⟨rfl, FIN.out, R0.out.trans RR.out⟩
end Go.Proofs.Ytjjdjdodhedihaa

namespace Go.Proofs.Ytjjdjdodhedihaa
open Go.RowKit
set_option linter.unusedVariables false

theorem Rd.setCells {b : Nat} : ∀ (cs : List Value) (off : Nat) {a w : World}, Rd b a w → Rd b a (w.setCells b off cs)
  | [], _, _, _, h => h
  | c :: cs, off, _, _, h => Rd.setCells cs (off + 1) (h.set off c)

/-- The ring in the midst, and i cells more at each side. -/
def layP (xs ws : List Int) (R i : Nat) : List Int := (List.range (xs.length + 2 * R)).map fun t : Nat => if R ≤ t + i ∧ t < R + xs.length + i then rat xs ((t : Int) - R) else ws.getD t 0
theorem layP_length (xs ws : List Int) (R i : Nat) : (layP xs ws R i).length = xs.length + 2 * R := by simp [layP]
theorem layP_at (xs ws : List Int) (R i : Nat) {t : Nat} (h : t < xs.length + 2 * R) : (layP xs ws R i).getD t 0 = if R ≤ t + i ∧ t < R + xs.length + i then rat xs ((t : Int) - R) else ws.getD t 0 := by
  simp [layP, List.getD, h]
theorem layP_full (xs ws : List Int) (R : Nat) : layP xs ws R R = wideL R xs := by
  unfold layP wideL
  refine List.map_congr_left fun t ht => ?_
  rw [List.mem_range] at ht
  rw [if_pos (by omega)]
theorem layP_step (xs ws : List Int) (R i : Nat) (hi : i < R) (hx : 0 < xs.length) :
    ((layP xs ws R i).set (R - 1 - i) (xs.getD (xs.length - 1 - i % xs.length) 0)).set (R + xs.length + i) (xs.getD (i % xs.length) 0) = layP xs ws R (i + 1) := by
  apply List.ext_getElem (by simp [layP])
  intro t h1 h2
  have ht : t < xs.length + 2 * R := by simpa [layP] using h2
  rw [List.getElem_set, List.getElem_set]
  simp only [layP, List.getElem_map, List.getElem_range]
  by_cases e1 : R + xs.length + i = t
  · rw [if_pos e1, if_pos (by omega), ← rat_right xs hx i]
    congr 1
    omega
  · rw [if_neg e1]
    by_cases e2 : R - 1 - i = t
    · rw [if_pos e2, if_pos (by omega), ← rat_left xs hx i]
      congr 1
      omega
    · rw [if_neg e2]
      by_cases d : R ≤ t + i ∧ t < R + xs.length + i
      · rw [if_pos d, if_pos (by omega)]
      · rw [if_neg d, if_neg (by omega)]
theorem lay_copy {w : World} {g : Nat} {xs ws : List Int} {R : Nat} (h : Cel w g ws) (hw : ws.length = xs.length + 2 * R) : Cel (w.setCells g R (xs.map fun x => Value.int .i64 x)) g (layP xs ws R 0) := by
  refine ⟨?_, fun k hk => ?_, fun k => by rw [World.frozen?_setCells]; exact h.fz k⟩
  · have := (Rd.setCells (xs.map fun x => Value.int .i64 x) R (Rd.refl g w)).size
    have := h.lt
    omega
  · rw [layP_length] at hk
    rw [layP_at _ _ _ _ hk]
    by_cases d : R ≤ k + 0 ∧ k < R + xs.length + 0
    · rw [if_pos d]
      have hj : k - R < (xs.map fun x => Value.int .i64 x).length := by simp; omega
      have := World.cell?_setCells_in g (xs.map fun x => Value.int .i64 x) R w (fun j hj => by
        rw [List.length_map] at hj
        rw [h.cells (R + j) (by omega)]; rfl) (k - R) hj
      rw [show R + (k - R) = k by omega] at this
      rw [this, show ((k : Int) - R) = ((k - R : Nat) : Int) by omega, rat_mid xs (by omega)]
      simp [List.getD, show k - R < xs.length by omega]
    · rw [if_neg d, World.cell?_setCells_out g _ R w ⟨g, k, none⟩ (fun _ _ => by simp only [List.length_map]; omega)]
      exact h.cells k (by omega)

set_option maxRecDepth 100000 in
set_option maxHeartbeats 1600000 in
theorem layOut_any (R : Nat) (xs ws : List Int) (gr cr gw n N : Nat) (w : World) (hx : Cel w gr xs) (hw : Cel w gw ws) (hn : xs.length = n) (hN : ws.length = N) (hN2 : N = n + 2 * R) (h0 : 0 < n) (hn1 : n ≤ 1000) (hR : R ≤ 10) (hg : gr ≠ gw) :
    Calls Try.prog 17 #[.slice (some ⟨gr, 0, none⟩) n cr, .slice (some ⟨gw, 0, none⟩) N N, .int .i64 (R : Int)] w fun e w' => e = .returned (.tuple #[]) ∧ Cel w' gw (wideL R xs) ∧ Rd gw w w' := by
  have HX := hide' hx
  have HN := hide' hn
  have HW := hide' (show ws.length = xs.length + 2 * R by rw [hN, hn, hN2])
  have HN2 := hide' hN2
  have C0 := hide' (lay_copy (R := R) hw HW.out)
  have n0 : ((n : Int) == 0) = false := by simp; omega
  have v3 : ¬ N = R := by omega
  have v5 : R ≤ N := by omega
  have SRC := hide' (show ∀ (j : Nat) (v : Value), (xs.map fun x => Value.int .i64 x)[j]? = some v → w.cell? ((⟨gr, 0, none⟩ : Addr).add j) = some v from fun j v hv => by
    rw [List.getElem?_map] at hv
    obtain ⟨x, hx', rfl⟩ := Option.map_eq_some_iff.1 hv
    obtain ⟨hj, he⟩ := List.getElem?_eq_some_iff.1 hx'
    have ea : (⟨gr, 0, none⟩ : Addr).add j = ⟨gr, j, none⟩ := by
      unfold Addr.add
      split
      · rename_i hz; subst hz; rfl
      · rw [Nat.zero_add]
    rw [ea, hx.cells j hj]
    simp [List.getD, hj, he])
  have DST := hide' (show ∀ j, j < (xs.map fun x => Value.int .i64 x).length → (w.cell? ⟨gw, R + j, none⟩).isSome = true from fun j hj => by
    rw [List.length_map] at hj
    rw [hw.cells (R + j) (by rw [HW.out]; omega)]; rfl)
  have FZ := hide' (show ∀ j, j < (xs.map fun x => Value.int .i64 x).length → w.frozen? ⟨gw, R + j, none⟩ = false from fun j hj => hw.fz _)
  have LN := hide' (show (xs.map fun x => Value.int .i64 x).length = n by rw [List.length_map]; exact hn)
  obtain ⟨cs, hcs⟩ : ∃ cs, (xs.map fun x => Value.int .i64 x) = cs := ⟨_, rfl⟩
  have ONE := hide' (show ∀ v ∈ cs, v.oneCell' = true from fun v hv => by rw [← hcs] at hv; obtain ⟨x, -, rfl⟩ := List.mem_map.1 hv; rfl)
  rw [hcs] at C0 SRC DST FZ LN
  obtain ⟨w2, hw2⟩ : ∃ w2, w.setCells gw R cs = w2 := ⟨_, rfl⟩
  have hrun : (Builtin.copy_ #[22, 22] 3 #[.slice (some ⟨gw, R, none⟩) (N - R) (N - R), .slice (some ⟨gr, 0, none⟩) n cr]).run Try.prog w = .ok (.int .i64 (n : Int)) w2 := by
    have h := run_copy_cells (P := Try.prog) w 22 22 3 3 gw R (N - R) (N - R) ⟨gr, 0, none⟩ n cr cs Try.underlying22 (by kernel_rfl) (by rw [LN.out]; exact (Nat.min_eq_left (by omega)).symm) SRC.out DST.out FZ.out ONE.out
    rw [h, hw2, LN.out]
    rfl
  have RD2 := hide' (show Rd gw w w2 by rw [← hw2]; exact Rd.setCells cs R (Rd.refl _ _))
  rw [hw2] at C0
  clear hx hw hn hN hN2 hcs hw2
  go_enter Try.func17, Try.ntmps17
  go_wp2
  clear hrun
  go_loopw [7] (fun iv wr => ∃ i : Nat, iv = .int .i64 (i : Int) ∧ i ≤ R ∧ Cel wr gw (layP xs ws R i) ∧ Rd gw w wr) (fun iv _ => R - (intOf iv).toNat)
  case atStart => exact ⟨0, rfl, by omega, C0.out, RD2.out⟩
  case round =>
    obtain ⟨i, rfl, hi, ce, rd⟩ := hrel
    have CE := hide' ce
    have RR := hide' rd
    clear ce rd
    by_cases d : (i : Int) < (R : Int)
    · have CX := hide' (HX.out.rd RR.out hg)
      obtain ⟨r, hr⟩ : ∃ r, i % n = r := ⟨_, rfl⟩
      have hrn : r < n := by rw [← hr]; exact Nat.mod_lt _ h0
      have q1 : (i : Int) % (n : Int) = (r : Int) := by rw [← hr]; simp
      obtain ⟨e, he⟩ : ∃ e, n - 1 - r = e := ⟨_, rfl⟩
      have q2 : (n : Int) - 1 - (r : Int) = (e : Int) := by omega
      obtain ⟨t, ht⟩ : ∃ t, R - 1 - i = t := ⟨_, rfl⟩
      have q3 : (R : Int) - 1 - (i : Int) = (t : Int) := by omega
      have c1 := CX.out.cells e (by have := HN.out; omega)
      have c2 := CX.out.cells r (by have := HN.out; omega)
      obtain ⟨u, hu⟩ : ∃ u, xs.getD e 0 = u := ⟨_, rfl⟩
      obtain ⟨v, hv⟩ : ∃ v, xs.getD r 0 = v := ⟨_, rfl⟩
      rw [hu] at c1
      rw [hv] at c2
      have k1 := CE.out.cells t (by rw [layP_length]; have := HN.out; omega)
      have k2 := CE.out.cells (R + n + i) (by rw [layP_length]; have := HN.out; omega)
      have f1 := CE.out.fz t
      have f2 := CE.out.fz (R + n + i)
      have hg' : gw ≠ gr := fun e => hg e.symm
      have t1 : t ≠ R + n + i := by omega
      have l1 : t < N := by have := HN2.out; omega
      have l2 : R + n + i < N := by have := HN2.out; omega
      have l3 : e < n := by omega
      have STEP := hide' (show ((layP xs ws R i).set t u).set (R + n + i) v = layP xs ws R (i + 1) by
        have h := layP_step xs ws R i (by omega) (by have := HN.out; omega)
        rw [HN.out, hr, he, ht, hu, hv] at h
        exact h)
      clear hr he ht hu hv
      go_wp2
      refine ⟨⟨i + 1, by go_num, by omega, ?_, (RR.out.set _ _).set _ _⟩, by simp [intOf]; omega⟩
      rw [← STEP.out]
      exact Cel.set (Cel.set CE.out t u (by rw [layP_length]; have := HN.out; omega)) (R + n + i) v (by rw [List.length_set, layP_length]; have := HN.out; omega)
    · have FIN := hide' (show Cel wr gw (wideL R xs) by
        have h := CE.out
        rw [show i = R by omega, layP_full] at h
        exact h)
      go_wp2
      go_end0
      exact ⟨rfl, FIN.out, RR.out⟩
end Go.Proofs.Ytjjdjdodhedihaa

