/-
  What the last text of this claim leans on, part 43: Sb2, Og6, Ry2, Ry3.
-/
import Derived.Test.YtdhbdkkchobinaaJz42
import Derived.Test.YtdhbdkkchobinaaJz15
import Derived.Test.YtdhbdkkchobinaaJz40
import Derived.Test.YtdhbdkkchobinaaJz35
import Derived.Test.YtdhbdkkchobinaaJz11
import Derived.Test.YtdhbdkkchobinaaJz6
namespace Go.Proofs.Ytdhbdkkchobinaa
open Go.RowKit
set_option linter.unusedVariables false

def KeepsErr (f : Nat) (w : World) (e : Ending) (w' : World) : Prop := e = .returned (.tuple #[.bool false, .iface 23 (.int .i64 (f : Int))]) ∧ Below w.heap.size w w'
def KeepsOk (S n : Nat) (T wt : List Int) (w : World) (e : Ending) (w' : World) : Prop := (∃ b : Bool, e = .returned (.tuple #[.bool b, .nilIface]) ∧ (b = true ↔ KeepsP S n T wt)) ∧ Below w.heap.size w w'
/-- What is wrong with weights. -/
def wtE (S : Nat) (wt : List Int) : Nat := if wt.length ≠ S then 3 else if wt.all (fun x => decide (-1000 ≤ x) && decide (x ≤ 1000)) then 0 else 1
theorem wtE_shape {S : Nat} {wt : List Int} (h : wt.length ≠ S) : wtE S wt = 3 := by unfold wtE; rw [if_pos h]
theorem wtE_ok {S : Nat} {wt : List Int} (h : wt.length = S) (hk : ∀ j, j < wt.length → -1000 ≤ wt.getD j 0 ∧ wt.getD j 0 ≤ 1000) : wtE S wt = 0 := by
  unfold wtE
  rw [if_neg (by simp [h]), if_pos]
  rw [List.all_eq_true]
  intro x hx
  obtain ⟨k, hk', rfl⟩ := List.getElem_of_mem hx
  have := hk k hk'
  simpa [List.getD, hk'] using this
theorem wtE_bad {S : Nat} {wt : List Int} (h : wt.length = S) {k : Nat} (hk : k < wt.length) (hb : wt.getD k 0 < -1000 ∨ 1000 < wt.getD k 0) : wtE S wt = 1 := by
  unfold wtE
  rw [if_neg (by simp [h]), if_neg]
  intro q
  rw [List.all_eq_true] at q
  have := q wt[k] (List.getElem_mem hk)
  simp [List.getD, hk] at this hb
  omega
theorem wtE_wts {S : Nat} {wt : List Int} (h : wtE S wt = 0) : wt.length = S ∧ Wts wt := by
  unfold wtE at h
  split at h
  · cases h
  · rename_i q
    split at h
    · rename_i r
      rw [List.all_eq_true] at r
      refine ⟨by simpa using q, fun i => ?_⟩
      by_cases hi : i < wt.length
      · have := r wt[i] (List.getElem_mem hi)
        simpa [List.getD, hi] using this
      · simp [List.getD, show wt[i]? = none by simp; omega]
    · cases h

set_option maxRecDepth 100000 in
set_option maxHeartbeats 6400000 in
theorem keepsT_off (o : Out) (ta : Option Addr) (tn tc : Nat) (v : Value) (w : World) (hR : ArgR w o ta tn tc) (h : ¬ (Good o ∧ o.kind = 2)) :
    Calls Try.prog 17 #[.agg #[.int .i64 o.kind, .int .i64 o.born, .int .i64 o.stay, .int .i64 o.states, .int .i64 o.radius, .slice ta tn tc, .string o.turns], v] w (KeepsErr 1 w) := by
  obtain ⟨w1, hw1⟩ : ∃ w1, w.alloc (.cells #[.int .i64 o.kind, .int .i64 o.born, .int .i64 o.stay, .int .i64 o.states, .int .i64 o.radius, .slice ta tn tc, .string o.turns] 28) = w1 := ⟨_, rfl⟩
  have BB := hide' (show Below w.heap.size w w1 by rw [← hw1]; exact (Below.refl _ _).alloc (Nat.le_refl _) _)
  have RX := hide' (show RBo w.heap.size o (.slice ta tn tc) w1 by rw [← hw1]; exact RBo.new w o _ _)
  have AT := hide' (show ArgR w1 o ta tn tc by rw [← hw1]; exact hR.alloc _)
  have HH := hide' h
  clear hR h
  obtain ⟨x0, x1, x2, x3, x4, x5, x6⟩ := RX.out
  go_enter Try.func17, Try.ntmps17
  go_wp2_with fail
  refine (lineCheck_off o ta tn tc (.slice none 0 0) _ AT.out HH.out).mono ?_
  rintro e w2 ⟨rfl, b⟩
  clear hw1 x0 x1 x2 x3 x4 x5 x6
  go_wp2
  refine bodyPost_ret (v := .tuple #[.bool false, .iface 23 (.int .i64 1)]) (by simp [results, Try.results17, go_sem]) rfl ?_
  exact ⟨rfl, BB.out.trans (b.mono BB.out.size)⟩

set_option maxRecDepth 100000 in
set_option maxHeartbeats 6400000 in
theorem keepsT_line (S R n : Nat) (T wt : List Int) (ta : Option Addr) (tn tc : Nat) (wa : Option Addr) (wc : Nat) (w : World) (hL : LineOk S R T) (hT : ArgP w T ta tn tc) (hA : ArgP w wt wa wt.length wc) (hn : S ^ (2 * R) = n) :
    Calls Try.prog 17 #[.agg #[.int .i64 2, .int .i64 0, .int .i64 0, .int .i64 (S : Int), .int .i64 (R : Int), .slice ta tn tc, .string ⟨#[]⟩], .slice wa wt.length wc] w fun e w' => (wtE S wt ≠ 0 ∧ KeepsErr (wtE S wt) w e w') ∨ (wtE S wt = 0 ∧ KeepsOk S n T wt w e w') := by
  obtain ⟨w1, hw1⟩ : ∃ w1, w.alloc (.cells #[.int .i64 2, .int .i64 0, .int .i64 0, .int .i64 (S : Int), .int .i64 (R : Int), .slice ta tn tc, .string ⟨#[]⟩] 28) = w1 := ⟨_, rfl⟩
  have BB := hide' (show Below w.heap.size w w1 by rw [← hw1]; exact (Below.refl _ _).alloc (Nat.le_refl _) _)
  have RX := hide' (show RB w.heap.size S R (.slice ta tn tc) w1 by rw [← hw1]; exact RB.new w S R _ _)
  have AT := hide' (hT.below BB.out)
  have AA := hide' (hA.below BB.out)
  have HL := hide' hL
  have s2 := hL.s2
  have s4 := hL.s4
  have hmx := hA.max
  unfold maxLen at hmx
  have W0 := hide' (show errOf (wordE S []) = .nilIface by rw [wordE_ok (by simp) (fun x hx => by simp at hx)]; rfl)
  obtain ⟨m, hm⟩ : ∃ m, wt.length = m := ⟨_, rfl⟩
  have HM := hide' hm
  have KA := hide' (fun (W : World) (h : ArgP W T ta tn tc) (h2 : ArgP W wt wa m wc) (hs : m = S) (hw : Wts wt) => keeps_any S R n T wt ta tn tc wa m wc W hL h h2 hs hw hn)
  have WS := hide' (show wt.length ≠ S → wtE S wt = 3 from wtE_shape)
  have WO := hide' (show wt.length = S → (∀ j, j < wt.length → -1000 ≤ wt.getD j 0 ∧ wt.getD j 0 ≤ 1000) → wtE S wt = 0 from wtE_ok)
  have WB := hide' (show wt.length = S → ∀ k, k < wt.length → (wt.getD k 0 < -1000 ∨ 1000 < wt.getD k 0) → wtE S wt = 1 from fun h k hk hb => wtE_bad h hk hb)
  have WW := hide' (show wtE S wt = 0 → Wts wt from fun h => (wtE_wts h).2)
  rw [hm] at AA hmx WS WO WB ⊢
  obtain ⟨f, hf⟩ : ∃ f, wtE S wt = f := ⟨_, rfl⟩
  rw [hf] at WS WO WB WW ⊢
  clear hT hA hL hn hm hf
  obtain ⟨x0, x1, x2, x3, x4, x5, x6⟩ := RX.out
  go_enter Try.func17, Try.ntmps17
  go_wp2_with fail
  refine (lineCheck_line S R T ta tn tc [] none 0 0 _ HL.out AT.out (argP_nil _)).mono ?_
  rw [W0.out]
  rintro e w2 ⟨rfl, b2⟩
  have B2 := hide' b2
  clear hw1 x0 x1 x2 x3 x4 x5 x6 b2
  obtain ⟨x0, x1, x2, x3, x4, x5, x6⟩ := RX.out.next B2.out
  by_cases d : m = S
  · have q : ((m : Int) != (S : Int)) = false := by simp [d]
    have HD := hide' d
    clear d
    go_wp2
    go_loop [22] (fun kv => ∃ k : Nat, kv = .int .i64 (k : Int) ∧ k ≤ m ∧ Hid (∀ j, j < k → -1000 ≤ wt.getD j 0 ∧ wt.getD j 0 ≤ 1000)) (fun kv => m - (intOf kv).toNat)
    case atStart => exact ⟨0, rfl, by omega, fun j hj => by omega⟩
    case round =>
      obtain ⟨k, rfl, hk, HK⟩ := hrel
      by_cases dk : (k : Int) < (m : Int)
      · obtain ⟨g, off, rfl, hc⟩ := (AA.out.below B2.out).at (k := k) (by omega)
        obtain ⟨x, hx⟩ : ∃ x, wt.getD k 0 = x := ⟨_, rfl⟩
        rw [hx] at hc
        have HX := hide' hx
        clear hx
        by_cases d1 : x < -1000
        · have F1 := hide' (WB.out HD.out k (by omega) (by rw [HX.out]; exact Or.inl d1))
          go_wp2
          refine bodyPost_ret (v := .tuple #[.bool false, .iface 23 (.int .i64 1)]) (by simp [results, Try.results17, go_sem]) rfl ?_
          exact Or.inl ⟨by rw [F1.out]; omega, by rw [F1.out]; exact ⟨rfl, BB.out.trans (B2.out.mono BB.out.size)⟩⟩
        · skip
          by_cases d2 : 1000 < x
          · have F1 := hide' (WB.out HD.out k (by omega) (by rw [HX.out]; exact Or.inr d2))
            go_wp2
            refine bodyPost_ret (v := .tuple #[.bool false, .iface 23 (.int .i64 1)]) (by simp [results, Try.results17, go_sem]) rfl ?_
            exact Or.inl ⟨by rw [F1.out]; omega, by rw [F1.out]; exact ⟨rfl, BB.out.trans (B2.out.mono BB.out.size)⟩⟩
          · go_wp2
            refine ⟨⟨k + 1, by go_num, by omega, fun j hj => ?_⟩, by simp [intOf]; omega⟩
            by_cases ej : j = k
            · subst ej; rw [HX.out]; omega
            · exact HK.out j (by omega)
      · have F1 := hide' (WO.out HD.out (fun j hj => HK.out j (by omega)))
        have KK := hide' (KA.out w2 (AT.out.below B2.out) (AA.out.below B2.out) HD.out (WW.out F1.out))
        go_wp2_with fail
        refine (show Calls Try.prog _ _ _ _ from KK.out).mono ?_
        unfold KeepsPost
        rintro e w3 ⟨⟨b, rfl, hb⟩, b3⟩
        have HB := hide' hb
        have B3 := hide' (B2.out.trans (b3.mono B2.out.size))
        clear hb b3 x0 x1 x2 x3 x4 x5 x6
        go_wp2
        refine bodyPost_ret (v := .tuple #[.bool b, .nilIface]) (by simp [results, Try.results17, go_sem]) rfl ?_
        exact Or.inr ⟨F1.out, ⟨b, rfl, HB.out⟩, BB.out.trans (B3.out.mono BB.out.size)⟩
  · have q : ((m : Int) != (S : Int)) = true := by simp; omega
    have F1 := hide' (WS.out d)
    clear d
    go_wp2
    refine bodyPost_ret (v := .tuple #[.bool false, .iface 23 (.int .i64 3)]) (by simp [results, Try.results17, go_sem]) rfl ?_
    exact Or.inl ⟨by rw [F1.out]; omega, by rw [F1.out]; exact ⟨rfl, BB.out.trans (B2.out.mono BB.out.size)⟩⟩
end Go.Proofs.Ytdhbdkkchobinaa

namespace Go.Proofs.Ytdhbdkkchobinaa
set_option linter.unusedVariables false

theorem undo_other {S R q : Nat} {T xs t : List Int} (hS : 0 < S) (hT : T.length = S ^ (2 * R + 1)) (hTo : cellsOk S T) (hno : ∀ k, ¬ TurnAt S (S ^ (2 * R)) T k) (hu : undoAt S R (S ^ (2 * R)) T q = some t) (hx : cellsOk S xs) : stepL S R T (stepL S q t xs) = xs := by
  obtain ⟨ys, h1, h2, h3⟩ := step_onto hS (by rw [hT]; simp) hTo hx hno
  rw [← h3, undo_step hS hT hTo hu h1]
theorem win_hn {S L e : Nat} (hS : 0 < S) (hL : 0 < L) (he : e < S ^ L) : hn S (ringF (winL S L e)) 0 L = e := by
  have h : ∀ m, m ≤ L → ((hn S (ringF (winL S L e)) 0 m : Nat) : Int) = wn (S : Int) (fun t => (winL S L e).getD t 0) 0 m := by
    intro m
    induction m with
    | zero => intro _; rfl
    | succ m ih =>
      intro hm
      have a := cellsOk_at (winL_ok (S := S) (long := L) (x := e) hS) (k := m) (by rw [winL_length]; omega)
      have b : ((ringF (winL S L e) m : Nat) : Int) = (winL S L e).getD m 0 := by
        unfold ringF
        rw [winL_length, Nat.mod_eq_of_lt (by omega)]
        omega
      rw [wn, ← ih (by omega), hn, Nat.zero_add, ← b]
      push_cast
      rfl
  have h1 := h L (Nat.le_refl _)
  rw [win_digits hS L (by omega), show L - 0 - L = 0 by omega, Nat.pow_zero, Nat.div_one, Nat.mod_eq_of_lt he] at h1
  exact Int.ofNat_inj.1 h1
theorem undo_ok {S R q : Nat} {T t : List Int} (hS : 0 < S) (hT : T.length = S ^ (2 * R + 1)) (hTo : cellsOk S T) (hno : ∀ k, ¬ TurnAt S (S ^ (2 * R)) T k) (hu : undoAt S R (S ^ (2 * R)) T q = some t) : cellsOk S t ∧ t.length = S ^ (2 * q + 1) := by
  have tl : t.length = S ^ (2 * q + 1) := undoL_length _ t hu
  refine ⟨fun z hz => ?_, tl⟩
  obtain ⟨e, he, rfl⟩ := List.getElem_of_mem hz
  rw [tl] at he
  have L0 : 0 < 2 * q + 1 := by omega
  obtain ⟨ys, h1, h2, h3⟩ := step_onto (R := R) (xs := winL S (2 * q + 1) e) hS (by rw [hT]; simp) hTo (winL_ok hS) hno
  rw [winL_length] at h2
  have hm : R ≤ R * (2 * q + 1) := Nat.le_mul_of_pos_right _ L0
  have h4 := undo_at hS hT hTo hu h1 (by omega) (R * (2 * q + 1) - R)
  rw [h3, show R * (2 * q + 1) - R + R = 0 + R * (2 * q + 1) by omega] at h4
  have pp : ∀ t, ringF (winL S (2 * q + 1) e) (t + (2 * q + 1)) = ringF (winL S (2 * q + 1) e) t := fun t => by
    have := ringF_per (winL S (2 * q + 1) e) t
    rw [winL_length] at this
    exact this
  rw [hn_perk pp, win_hn hS L0 he] at h4
  have h5 := ringF_lt h1 (by omega) (R * (2 * q + 1) - R + (R + q))
  rw [List.getD_eq_getElem?_getD, List.getElem?_eq_getElem (by rw [tl]; exact he)] at h4
  simp only [Option.getD_some] at h4
  rw [h4]
  omega
end Go.Proofs.Ytdhbdkkchobinaa

namespace Go.Proofs.Ytdhbdkkchobinaa
set_option linter.unusedVariables false

def digit (xs : List Int) (i : Nat) : Nat := (xs.getD i 0).toNat
def keyAt (xs : List Int) (k : Nat) : Nat := digit xs (4 * k) + 4 * digit xs (4 * k + 1) + 16 * digit xs (4 * k + 2) + 64 * digit xs (4 * k + 3)
def keyB (xs : List Int) : List UInt8 := (List.range ((xs.length + 3) / 4)).map fun k => UInt8.ofNat (keyAt xs k)
theorem digit_lt {S : Nat} {xs : List Int} (hS : S ≤ 4) (h : cellsOk S xs) (i : Nat) : digit xs i < 4 := by
  unfold digit
  by_cases hi : i < xs.length
  · have := cellsOk_at h hi
    omega
  · rw [List.getD_eq_getElem?_getD, List.getElem?_eq_none (by omega)]
    decide
theorem keyAt_lt {S : Nat} {xs : List Int} (hS : S ≤ 4) (h : cellsOk S xs) (k : Nat) : keyAt xs k < 256 := by
  have h0 := digit_lt hS h (4 * k)
  have h1 := digit_lt hS h (4 * k + 1)
  have h2 := digit_lt hS h (4 * k + 2)
  have h3 := digit_lt hS h (4 * k + 3)
  unfold keyAt
  omega
theorem keyB_inj {S : Nat} {xs ys : List Int} (hS : S ≤ 4) (hx : cellsOk S xs) (hy : cellsOk S ys) (hl : xs.length = ys.length) (e : keyB xs = keyB ys) : xs = ys := by
  apply List.ext_getElem hl
  intro i h1 h2
  have hk : i / 4 < (xs.length + 3) / 4 := by omega
  have e1 := congrArg (fun l : List UInt8 => (l.getD (i / 4) 0).toNat) e
  have e2 : keyAt xs (i / 4) = keyAt ys (i / 4) := by
    have a := keyAt_lt hS hx (i / 4)
    have b := keyAt_lt hS hy (i / 4)
    have hk' : i / 4 < (ys.length + 3) / 4 := by omega
    simp [keyB, List.getD, hk, hk'] at e1
    omega
  have d : digit xs i = digit ys i := by
    have x0 := digit_lt hS hx (4 * (i / 4))
    have x1 := digit_lt hS hx (4 * (i / 4) + 1)
    have x2 := digit_lt hS hx (4 * (i / 4) + 2)
    have x3 := digit_lt hS hx (4 * (i / 4) + 3)
    have y0 := digit_lt hS hy (4 * (i / 4))
    have y1 := digit_lt hS hy (4 * (i / 4) + 1)
    have y2 := digit_lt hS hy (4 * (i / 4) + 2)
    have y3 := digit_lt hS hy (4 * (i / 4) + 3)
    unfold keyAt at e2
    have hi : i = 4 * (i / 4) ∨ i = 4 * (i / 4) + 1 ∨ i = 4 * (i / 4) + 2 ∨ i = 4 * (i / 4) + 3 := by omega
    generalize i / 4 = q at *
    rcases hi with rfl | rfl | rfl | rfl <;> omega
  have a := cellsOk_at hx h1
  have b := cellsOk_at hy h2
  have c1 : xs.getD i 0 = xs[i] := by simp [List.getD, h1]
  have c2 : ys.getD i 0 = ys[i] := by simp [List.getD, h2]
  unfold digit at d
  rw [c1] at a d
  rw [c2] at b d
  omega
end Go.Proofs.Ytdhbdkkchobinaa

namespace Go.Proofs.Ytdhbdkkchobinaa
open Go.RowKit
set_option linter.unusedVariables false

/-- At block g n bytes of the call's own. -/
structure Pk (w0 w : World) (g n : Nat) (F : Nat → Nat) : Prop where
  below : Below w0.heap.size w0 w
  ge : w0.heap.size ≤ g
  lt : g < w.heap.size
  cells : ∀ j, j < n → w.cell? ⟨g, j, none⟩ = some (.int .u8 (F j : Int))
  fz : ∀ j, w.frozen? ⟨g, j, none⟩ = false
theorem Pk.start (w : World) (n : Nat) (F : Nat → Nat) (t : TypeId) (h : ∀ j, F j = 0) : Pk w (w.alloc (.cells (madeCells #[.int .u8 0] n) t)) w.heap.size n F := by
  refine ⟨(Below.refl _ _).alloc (Nat.le_refl _) _, Nat.le_refl _, by simp, fun j hj => ?_, fun j => by simp⟩
  rw [World.cell?_alloc_at _ _ _ _ rfl, h j]
  have hs : j < (madeCells #[.int .u8 0] n).size := by rw [size_madeCells]; exact hj
  have e : (madeCells #[.int .u8 0] n)[j]? = some (.int .u8 0) := by
    rw [Array.getElem?_eq_getElem hs]
    simp [madeCells, Nat.mod_one]
  exact e
theorem Pk.step {w0 w : World} {g n k : Nat} {F G : Nat → Nat} (h : Pk w0 w g n F) (hk : k < n) {v : Value} (hv : v = .int .u8 (G k : Int)) (hG : ∀ j, j ≠ k → G j = F j) : Pk w0 (w.setCell ⟨g, k, none⟩ v).drew g n G := by
  subst hv
  refine ⟨(h.below.setCell h.ge _).drew, h.ge, ?_, fun j hj => ?_, fun j => ?_⟩
  · show g < (w.setCell _ _).heap.size
    rw [World.size_setCell]; exact h.lt
  · show (w.setCell _ _).cell? _ = _
    by_cases e : j = k
    · subst e; exact World.cell?_setCell_same _ _ _ (h.cells j hj)
    · rw [World.cell?_setCell_other _ ⟨g, k, none⟩ ⟨g, j, none⟩ _ (fun q => e (congrArg Addr.off q).symm), hG j e]; exact h.cells j hj
  · show (w.setCell _ _).frozen? _ = _
    rw [World.frozen?_setCell]; exact h.fz j
theorem digit_take (xs : List Int) (i j : Nat) : digit (xs.take i) j = if j < i then digit xs j else 0 := by
  unfold digit
  rw [List.getD_eq_getElem?_getD, List.getElem?_take]
  split
  · rw [List.getD_eq_getElem?_getD]
  · rfl
theorem or_small : ∀ A : Nat, A < 64 → ∀ x : Nat, x < 4 → (A < 1 → bits .or .u8 (A : Int) ((x : Int) * 1) = ((A + x : Nat) : Int)) ∧ (A < 4 → bits .or .u8 (A : Int) ((x : Int) * 4) = ((A + 4 * x : Nat) : Int)) ∧ (A < 16 → bits .or .u8 (A : Int) ((x : Int) * 16) = ((A + 16 * x : Nat) : Int)) ∧ bits .or .u8 (A : Int) ((x : Int) * 64) = ((A + 64 * x : Nat) : Int) := by decide +kernel
theorem key_next (xs : List Int) (i q r : Nat) (hr : r < 4) (hi : i = 4 * q + r) (j : Nat) : keyAt (xs.take (i + 1)) j = if j = q then keyAt (xs.take i) q + 4 ^ r * digit xs i else keyAt (xs.take i) j := by
  subst hi
  unfold keyAt
  simp only [digit_take]
  have h4 : r = 0 ∨ r = 1 ∨ r = 2 ∨ r = 3 := by omega
  by_cases e : j = q
  · subst e
    rw [if_pos rfl]
    rcases h4 with rfl | rfl | rfl | rfl <;> (try simp only [Nat.add_zero]) <;> (repeat' split) <;> omega
  · rw [if_neg e]
    rcases Nat.lt_or_gt_of_ne e with c | c
    · rw [if_pos (by omega), if_pos (by omega), if_pos (by omega), if_pos (by omega), if_pos (by omega), if_pos (by omega), if_pos (by omega), if_pos (by omega)]
    · rw [if_neg (by omega), if_neg (by omega), if_neg (by omega), if_neg (by omega), if_neg (by omega), if_neg (by omega), if_neg (by omega), if_neg (by omega)]
theorem key_low (xs : List Int) (hd : ∀ j, digit xs j < 4) (i q r : Nat) (hr : r < 4) (hi : i = 4 * q + r) : keyAt (xs.take i) q < 4 ^ r := by
  subst hi
  unfold keyAt
  simp only [digit_take]
  have h0 := hd (4 * q)
  have h1 := hd (4 * q + 1)
  have h2 := hd (4 * q + 2)
  have h4 : r = 0 ∨ r = 1 ∨ r = 2 ∨ r = 3 := by omega
  rcases h4 with rfl | rfl | rfl | rfl <;> (repeat' split) <;> omega

end Go.Proofs.Ytdhbdkkchobinaa

