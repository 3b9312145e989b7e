/-
  What the last text of this claim leans on, part 36: Ry3, Ry5.
-/
import Derived.Test.YtljdidimoagnhaaDoorJc35
import Derived.Test.YtljdidimoagnhaaDoorJc23
import Derived.Test.YtljdidimoagnhaaDoorJc9
import Derived.Test.YtljdidimoagnhaaDoorJc31
import Derived.Maps.OwnSet
namespace Go.Proofs.YtljdidimoagnhaaDoor
open Go.RowKit
set_option linter.unusedVariables false

/-- At block g n bytes of the call's own. -/
structure Pk (w0 w : World) (g n : Nat) (F : Nat → Nat) : Prop where
  below : Below w0.heap.size w0 w
  ge : w0.heap.size ≤ g
  lt : g < w.heap.size
  cells : ∀ j, j < n → w.cell? ⟨g, j, none⟩ = some (.int .u8 (F j : Int))
  fz : ∀ j, w.frozen? ⟨g, j, none⟩ = false
theorem Pk.start (w : World) (n : Nat) (F : Nat → Nat) (t : TypeId) (h : ∀ j, F j = 0) : Pk w (w.alloc (.cells (madeCells #[.int .u8 0] n) t)) w.heap.size n F := by
  refine ⟨(Below.refl _ _).alloc (Nat.le_refl _) _, Nat.le_refl _, by simp, fun j hj => ?_, fun j => by simp⟩
  rw [World.cell?_alloc_at _ _ _ _ rfl, h j]
  have hs : j < (madeCells #[.int .u8 0] n).size := by rw [size_madeCells]; exact hj
  have e : (madeCells #[.int .u8 0] n)[j]? = some (.int .u8 0) := by
    rw [Array.getElem?_eq_getElem hs]
    simp [madeCells, Nat.mod_one]
  exact e
theorem Pk.step {w0 w : World} {g n k : Nat} {F G : Nat → Nat} (h : Pk w0 w g n F) (hk : k < n) {v : Value} (hv : v = .int .u8 (G k : Int)) (hG : ∀ j, j ≠ k → G j = F j) : Pk w0 (w.setCell ⟨g, k, none⟩ v).drew g n G := by
  subst hv
  refine ⟨(h.below.setCell h.ge _).drew, h.ge, ?_, fun j hj => ?_, fun j => ?_⟩
  · show g < (w.setCell _ _).heap.size
    rw [World.size_setCell]; exact h.lt
  · show (w.setCell _ _).cell? _ = _
    by_cases e : j = k
    · subst e; exact World.cell?_setCell_same _ _ _ (h.cells j hj)
    · rw [World.cell?_setCell_other _ ⟨g, k, none⟩ ⟨g, j, none⟩ _ (fun q => e (congrArg Addr.off q).symm), hG j e]; exact h.cells j hj
  · show (w.setCell _ _).frozen? _ = _
    rw [World.frozen?_setCell]; exact h.fz j
theorem digit_take (xs : List Int) (i j : Nat) : digit (xs.take i) j = if j < i then digit xs j else 0 := by
  unfold digit
  rw [List.getD_eq_getElem?_getD, List.getElem?_take]
  split
  · rw [List.getD_eq_getElem?_getD]
  · rfl
theorem or_small : ∀ A : Nat, A < 64 → ∀ x : Nat, x < 4 → (A < 1 → bits .or .u8 (A : Int) ((x : Int) * 1) = ((A + x : Nat) : Int)) ∧ (A < 4 → bits .or .u8 (A : Int) ((x : Int) * 4) = ((A + 4 * x : Nat) : Int)) ∧ (A < 16 → bits .or .u8 (A : Int) ((x : Int) * 16) = ((A + 16 * x : Nat) : Int)) ∧ bits .or .u8 (A : Int) ((x : Int) * 64) = ((A + 64 * x : Nat) : Int) := by decide +kernel
theorem Pk.string {w0 w : World} {g cap : Nat} {xs : List Int} (hok : cellsOk ((4 : Nat) : Int) xs) (h : Pk w0 w g ((xs.length + 3) / 4) (keyAt xs)) :
    (convert 105 9 (.slice (some ⟨g, 0, none⟩) ((xs.length + 3) / 4) cap)).run Tryd.prog w = .ok (.string ⟨(keyB xs).toArray⟩) w := by
  have := run_convert_bytes_back (P := Tryd.prog) w 105 9 5 ⟨g, 0, none⟩ cap (keyB xs) Tryd.underlying105 Tryd.underlying5 Tryd.underlying9 (fun j hj => by
    have hadd : (⟨g, 0, none⟩ : Addr).add j = ⟨g, j, none⟩ := by unfold Addr.add; split <;> simp_all
    have hj' : j < (xs.length + 3) / 4 := by simpa [keyB] using hj
    have hlt := keyAt_lt (Nat.le_refl 4) hok j
    rw [hadd, h.cells j hj']
    simp [keyB, Nat.mod_eq_of_lt hlt])
  simpa [keyB] using this
theorem key_next (xs : List Int) (i q r : Nat) (hr : r < 4) (hi : i = 4 * q + r) (j : Nat) : keyAt (xs.take (i + 1)) j = if j = q then keyAt (xs.take i) q + 4 ^ r * digit xs i else keyAt (xs.take i) j := by
  subst hi
  unfold keyAt
  simp only [digit_take]
  have h4 : r = 0 ∨ r = 1 ∨ r = 2 ∨ r = 3 := by omega
  by_cases e : j = q
  · subst e
    rw [if_pos rfl]
    rcases h4 with rfl | rfl | rfl | rfl <;> (try simp only [Nat.add_zero]) <;> (repeat' split) <;> omega
  · rw [if_neg e]
    rcases Nat.lt_or_gt_of_ne e with c | c
    · rw [if_pos (by omega), if_pos (by omega), if_pos (by omega), if_pos (by omega), if_pos (by omega), if_pos (by omega), if_pos (by omega), if_pos (by omega)]
    · rw [if_neg (by omega), if_neg (by omega), if_neg (by omega), if_neg (by omega), if_neg (by omega), if_neg (by omega), if_neg (by omega), if_neg (by omega)]
theorem key_low (xs : List Int) (hd : ∀ j, digit xs j < 4) (i q r : Nat) (hr : r < 4) (hi : i = 4 * q + r) : keyAt (xs.take i) q < 4 ^ r := by
  subst hi
  unfold keyAt
  simp only [digit_take]
  have h0 := hd (4 * q)
  have h1 := hd (4 * q + 1)
  have h2 := hd (4 * q + 2)
  have h4 : r = 0 ∨ r = 1 ∨ r = 2 ∨ r = 3 := by omega
  rcases h4 with rfl | rfl | rfl | rfl <;> (repeat' split) <;> omega

set_option maxRecDepth 100000 in
set_option maxHeartbeats 3200000 in
theorem keyOf_any (xs : List Int) (a : Option Addr) (c : Nat) (w : World) (hA : ArgP w xs a xs.length c) (hok : cellsOk ((4 : Nat) : Int) xs) (hl : xs.length ≤ 1000) :
    Calls Tryd.prog 119 #[.slice a xs.length c] w fun e w' => e = .returned (.string ⟨(keyB xs).toArray⟩) ∧ Below w.heap.size w w' := by
  have AA := hide' hA
  have OK := hide' hok
  have HD := hide' (fun j => digit_lt (Nat.le_refl 4) hok j)
  obtain ⟨n, hn⟩ : ∃ n, xs.length = n := ⟨_, rfl⟩
  have HN := hide' hn
  rw [hn] at hl ⊢
  obtain ⟨m, hm⟩ : ∃ m, (n + 3) / 4 = m := ⟨_, rfl⟩
  have HM := hide' hm
  have hm1 : m ≤ 1000 := by omega
  have q3 : ((n : Int) + 3).tdiv 4 = (m : Int) := by rw [Int.tdiv_eq_ediv_of_nonneg (by omega)]; omega
  have hmk := run_make_row' (P := Tryd.prog) 105 5 (.int .u8 0) 1 Tryd.underlying105 info_u8 rfl .i64 .i64 m (by omega) (by omega)
  have S := hide' (Pk.start w m (keyAt (xs.take 0)) 5 (fun j => by simp [keyAt, digit]))
  clear hA hok hn hm
  go_enter Tryd.func119, Tryd.ntmps119
  go_wp2
  go_loopw [13] (fun kv wr => ∃ i : Nat, kv = .int .i64 (i : Int) ∧ i ≤ n ∧ Pk w wr w.heap.size m (keyAt (xs.take i))) (fun kv _ => n - (intOf kv).toNat)
  case atStart => exact ⟨0, rfl, by omega, S.out⟩
  case round =>
    obtain ⟨i, rfl, hi, pk⟩ := hrel
    have PK := hide' pk
    clear hmk S q3 pk
    by_cases d : (i : Int) < (n : Int)
    · obtain ⟨q, r, hr, e4⟩ : ∃ q r, r < 4 ∧ i = 4 * q + r := ⟨i / 4, i % 4, by omega, by omega⟩
      have E4 := hide' e4
      have hqm : q < m := by have := HM.out; omega
      obtain ⟨g, off, rfl, hc⟩ := (AA.out.below PK.out.below).at (k := i) (by have := HN.out; omega)
      have hk := PK.out.cells q hqm
      have hf := PK.out.fz q
      have LO := hide' (key_low xs HD.out i q r hr e4)
      have NX := hide' (key_next xs i q r hr e4)
      obtain ⟨x, hx⟩ : ∃ x : Nat, xs.getD i 0 = (x : Int) := ⟨(xs.getD i 0).toNat, by have := cellsOk_at OK.out (k := i) (by have := HN.out; omega); omega⟩
      have HX := hide' (show digit xs i = x by unfold digit; rw [hx]; simp)
      have x4 : x < 4 := by have := HD.out i; rw [HX.out] at this; exact this
      rw [hx] at hc
      obtain ⟨A, hA⟩ : ∃ A, keyAt (xs.take i) q = A := ⟨_, rfl⟩
      have HA := hide' hA
      rw [hA] at hk LO
      have q1 : (i : Int).tmod 4 = (r : Int) := by rw [Int.tmod_eq_emod_of_nonneg (by omega)]; omega
      have q2 : (i : Int).tdiv 4 = (q : Int) := by rw [Int.tdiv_eq_ediv_of_nonneg (by omega)]; omega
      have A64 : A < 64 := by
        have h1 := LO.out
        have h2 : 4 ^ r ≤ 4 ^ 3 := Nat.pow_le_pow_right (by omega) (by omega)
        omega
      have ORS := hide' (or_small A A64 x x4)
      clear hA hx e4
      have h4 : r = 0 ∨ r = 1 ∨ r = 2 ∨ r = 3 := by omega
      rcases h4 with rfl | rfl | rfl | rfl
      all_goals
        go_wp2
        go_region
      all_goals
        go_wp2
      all_goals
        refine ⟨⟨i + 1, by go_num, by omega, PK.out.step hqm ?_ (fun j hj => by rw [NX.out j, if_neg hj])⟩, by simp [intOf]; omega⟩
        rw [NX.out q, if_pos rfl, HA.out, HX.out]
        have h1 := LO.out
        obtain ⟨o1, o2, o3, o4⟩ := ORS.out
        first
          | (have o := o1 (by simpa using h1); simp only [Int.mul_one] at o; rw [o]; simp)
          | (rw [o2 (by simpa using h1)])
          | (rw [o3 (by simpa using h1)])
          | (rw [o4])
    · have K := hide' (show i = n by omega)
      have ff := PK.out
      rw [K.out, ← HN.out, List.take_length] at ff
      rw [← HM.out, ← HN.out] at ff
      have hcv := ff.string (cap := m) OK.out
      rw [HN.out, HM.out] at hcv
      clear ff
      go_wp2
      go_ret
      exact ⟨rfl, PK.out.below⟩
end Go.Proofs.YtljdidimoagnhaaDoor

namespace Go.Proofs.YtljdidimoagnhaaDoor
open Go.RowKit
open Go.Maps (Keyed)
set_option linter.unusedVariables false

def klOf (xs : List Int) : Lit := .string (keyB xs)
theorem klOf_key (xs : List Int) : WideAt.IsKeyLit (klOf xs) := trivial
theorem klOf_inj {S : Nat} {xs ys : List Int} (hS : S ≤ 4) (hx : cellsOk S xs) (hy : cellsOk S ys) (hl : xs.length = ys.length) (e : klOf xs = klOf ys) : xs = ys := by
  unfold klOf at e
  injection e with e
  exact keyB_inj hS hx hy hl e
/-- What was seen behind k rounds. -/
def DM (g : Nat → List Int) : Nat → DataW Unit
  | 0 => .map []
  | k + 1 => (DM g k).put (klOf (g k)) (.lit (.int .i64 (k : Int)))
theorem DM_isMap (g : Nat → List Int) : ∀ k, Maps.IsMap (DM g k)
  | 0 => Maps.isMap_empty
  | k + 1 => (DM_isMap g k).put _ _
theorem DM_not (g : Nat → List Int) (x : List Int) : ∀ k, (∀ i, i < k → klOf (g i) ≠ klOf x) → Maps.has (DM g k) (klOf x) = false
  | 0, _ => rfl
  | k + 1, h => by
    show Maps.has ((DM g k).put (klOf (g k)) _) (klOf x) = false
    rw [Maps.has_put_other (fun e => h k (by omega) e.symm)]
    exact DM_not g x k (fun i hi => h i (by omega))
theorem DM_at (g : Nat → List Int) (z : DataW Unit) : ∀ k i, i < k → (∀ i j, i < j → j < k → klOf (g i) ≠ klOf (g j)) → Maps.has (DM g k) (klOf (g i)) = true ∧ (DM g k).atKey (klOf (g i)) z = .lit (.int .i64 (i : Int))
  | 0, i, h, _ => by omega
  | k + 1, i, h, hd => by
    show Maps.has ((DM g k).put (klOf (g k)) _) (klOf (g i)) = true ∧ ((DM g k).put (klOf (g k)) _).atKey (klOf (g i)) z = _
    by_cases e : i = k
    · subst e
      exact ⟨Maps.has_put_same (DM_isMap g i) (klOf_key _) _, Maps.atKey_put_same (DM_isMap g i) (klOf_key _) _ _⟩
    · have hne : klOf (g i) ≠ klOf (g k) := hd i k (by omega) (by omega)
      rw [Maps.has_put_other hne, Maps.atKey_put_other hne]
      exact DM_at g z k i (by omega) (fun a b h1 h2 => hd a b h1 (by omega))

/-- 'v, ok := m[k]' at a key of which it is known what stands there. -/
theorem wpList_lookup_here {P : Program} (w : World) {ops : Array Oper} {rest : List Oper} {o : Oper} {a : Act} {Q : Exit → Act → World → Prop} (hg : o.guard = none) (m x : Operand) (t : TypeId) (hop : o.op = Op.lookup t m x true)
    (k e : TypeId) (q : IntKind) (K : Keyed P k) (ht : P.underlying t = some (.map k e)) (he : P.underlying e = some (.int q)) (hz : (zeroValue e).run P w = .ok (.int q 0) w) (b n : Nat) (D : DataW Unit)
    (hm : a.eval m = .map (some b)) (hown : w.ownsMap P k (plainElem P e) b n D) (key : Value) (kl : Lit) (hx : a.eval x = key) (hkey : keyOf P k key = some kl)
    (c : Int) (β : Bool) (h1 : D.atKey kl (.lit (.int q 0)) = .lit (.int q c)) (h2 : Maps.has D kl = β)
    (hK : wpList P ops Q rest (a.put o.dst (.tuple #[.int q c, .bool β])) w) :
    wpList P ops Q (o :: rest) a w :=
  wpList_lookup_own_ok_int w hg m x t hop k e q K ht he hz b n D hm hown key kl hx hkey (fun c' hc' _ => by
    rw [h1] at hc'
    injection hc' with hc'
    injection hc' with _ hc'
    subst hc'
    rw [h2]
    exact hK)
theorem ownsMap_of_block {P : Program} {k : TypeId} {R : Value → Option (DataW Unit × List MemPlace)} {w w' : World} {b n : Nat} {D : DataW Unit} (h : w.ownsMap P k R b n D) (e : w'.heap[b]? = w.heap[b]?) : w'.ownsMap P k R b n D := by
  obtain ⟨es, clock, hb, r⟩ := h
  exact ⟨es, clock, e.trans hb, r⟩
theorem below_of_grown {w w' : World} {B b : Nat} (h : w.grownBy w' (some b)) (hb : B ≤ b) (hs : B ≤ w.heap.size) : Below B w w' :=
  ⟨h.os, h.tape, h.output, h.size, fun k hk => h.block k (by omega) (fun e => by injection e; omega)⟩

/-- The ring, where it lies, and what steps it, behind i steps; all of it lies below block M. -/
structure RS (g : Nat → List Int) (ra : Option Addr) (L cr pw pr M B0 : Nat) (Q : Nat → World → Prop) : Prop where
  key : ∀ i wr, Q i wr → Calls Tryd.prog 119 #[.slice ra L cr] wr fun e w' => e = .returned (.string ⟨(keyB (g i)).toArray⟩) ∧ Below wr.heap.size wr w'
  step : ∀ i wr, Q i wr → M < wr.heap.size → Calls Tryd.prog 166 #[.slice ra L cr, .pointer (some ⟨pw, 0, none⟩), .pointer (some ⟨pr, 0, none⟩)] wr fun e w' => e = .returned (.tuple #[]) ∧ Q (i + 1) w' ∧ w'.heap[M]? = wr.heap[M]? ∧ Below B0 wr w'
  kept : ∀ i wr w', Q i wr → Below M wr w' → Q i w'
theorem ArgP.belowM {w w' : World} {xs : List Int} {a : Option Addr} {n c M : Nat} (h : ArgP w xs a n c) (hb : Below M w w') (hg : ∀ g off, a = some ⟨g, off, none⟩ → g < M) : ArgP w' xs a n c :=
  ⟨h.len, h.max, fun k hk => by
    obtain ⟨g, off, e, hlt, hc⟩ := h.cells k hk
    exact ⟨g, off, e, Nat.lt_of_lt_of_le hlt hb.size, (World.cell?_of_block (w := w) (a := ⟨g, off + k, none⟩) (hb.block g (hg g off e))).trans hc⟩⟩
theorem ST.belowM {w w' : World} {pr pw gw S R N M : Nat} {T : List Int} {ta : Option Addr} {tn tc : Nat} {ws : List Int} (h : ST w pr pw gw S R N T ta tn tc ws) (hb : Below M w w') (h1 : pr < M) (h2 : pw < M) (h3 : gw < M) (h4 : ∀ g off, ta = some ⟨g, off, none⟩ → g < M) : ST w' pr pw gw S R N T ta tn tc ws :=
  ⟨h.rb.block (hb.block pr h1), (World.cell?_of_block (w := w) (a := ⟨pw, 0, none⟩) (hb.block pw h2)).trans h.wb, Nat.lt_of_lt_of_le h.wl hb.size, h.cw.block hb.size (hb.block gw h3), h.wn, h.ap.belowM hb h4, h.ne1, h.ne2, h.ne3⟩
theorem cells4 {S : Nat} {xs : List Int} (hS : S ≤ 4) (h : cellsOk S xs) : cellsOk ((4 : Nat) : Int) xs := fun x hx => by
  have := h x hx
  omega
theorem RS.full (S R : Nat) (T : List Int) (ta : Option Addr) (tn tc : Nat) (ws : List Int) (p gr cr B0 : Nat) (hL : LineOk S R T) (h0 : 0 < ws.length) (hl : ws.length ≤ 1000) (hok : cellsOk S ws)
    (hp : B0 ≤ p) (hg : B0 ≤ gr) (hgp : gr < p) (hta : ∀ g off, ta = some ⟨g, off, none⟩ → g < B0) :
    RS (fun n => runL S R T n ws) (some ⟨gr, 0, none⟩) ws.length cr (p + 2) p (p + 3) B0 (fun i wr => Cel wr gr (runL S R T i ws) ∧ ∃ zs, ST wr p (p + 2) (p + 1) S R (ws.length + 2 * R) T ta tn tc zs) := by
  have LN := fun i => runL_length (S : Int) R T ws i
  have LO := fun i => runL_ok (S := (S : Int)) (R := R) (T := T) (xs := ws) (by have := hL.s2; omega) hL.lenI hL.ok hok i
  refine ⟨fun i wr ⟨ce, _⟩ => ?_, fun i wr ⟨ce, zs, st⟩ hM => ?_, fun i wr w' ⟨ce, zs, st⟩ hb => ⟨ce.block hb.size (hb.block gr (by omega)), zs, st.belowM hb (by omega) (by omega) (by omega) (fun g off e => by have := hta g off e; omega)⟩⟩
  · have := keyOf_any (runL S R T i ws) (some ⟨gr, 0, none⟩) cr wr (ce.argP rfl (by rw [LN i]; unfold maxLen; omega)) (cells4 hL.s4 (LO i)) (by rw [LN i]; exact hl)
    rw [LN i] at this
    exact this
  · refine (step_ring S R T ta tn tc p (p + 2) (p + 1) (ws.length + 2 * R) gr cr ws.length (runL S R T i ws) zs wr hL st ce (LN i) rfl h0 hl (LO i) (by omega) (by omega) (by omega) (fun g off e => by have := hta g off e; omega)).mono ?_
    rintro e w' ⟨rfl, st5, ce5, rd5⟩
    exact ⟨rfl, ⟨ce5, _, st5⟩, rd5.block _ hM (by omega) (by omega), rd5.below (by omega) (by omega) (by omega)⟩
theorem RS.empty (S R : Nat) (T : List Int) (ta : Option Addr) (tn tc : Nat) (p B0 : Nat) (hL : LineOk S R T) (hp : B0 ≤ p) (hta : ∀ g off, ta = some ⟨g, off, none⟩ → g < B0) :
    RS (fun n => runL S R T n []) none 0 0 (p + 2) p (p + 3) B0 (fun i wr => ST wr p (p + 2) (p + 1) S R (2 * R) T ta tn tc (List.replicate (2 * R) 0) ∧ p + 3 ≤ wr.heap.size) := by
  refine ⟨fun i wr _ => ?_, fun i wr ⟨st, hs⟩ hM => ?_, fun i wr w' ⟨st, hs⟩ hb => ⟨st.belowM hb (by omega) (by omega) (by omega) (fun g off e => by have := hta g off e; omega), Nat.le_trans hs hb.size⟩⟩
  · have := keyOf_any [] none 0 wr ⟨rfl, by simp, fun k hk => by simp at hk⟩ (fun x hx => by simp at hx) (by simp)
    show Calls _ _ _ _ fun e w' => e = .returned (.string ⟨(keyB (runL S R T i [])).toArray⟩) ∧ _
    rw [runL_nil]
    exact this
  · refine (step_none S R T ta tn tc p (p + 2) (p + 1) wr hL st).mono ?_
    rintro e w' ⟨rfl, st5, rd5⟩
    exact ⟨rfl, ⟨st5, Nat.le_trans hs rd5.size⟩, rd5.block _ hM, rd5.mono (by omega)⟩

/-- What line.Cycle answers. -/
def CyclePost (g : Nat → List Int) (w : World) (e : Ending) (w' : World) : Prop :=
  ((∃ m p : Nat, First g m p ∧ m + p ≤ 100000 ∧ e = .returned (.tuple #[.int .i64 (m : Int), .int .i64 (p : Int), .nilIface])) ∨ ((∀ m p, First g m p → ¬ m + p ≤ 100000) ∧ e = .returned (.tuple #[.int .i64 0, .int .i64 0, .iface 97 (.int .i64 6)]))) ∧ Below w.heap.size w w'
def CycleErr (f : Nat) (w : World) (e : Ending) (w' : World) : Prop :=
  e = .returned (.tuple #[.int .i64 0, .int .i64 0, .iface 97 (.int .i64 (f : Int))]) ∧ Below w.heap.size w w'
end Go.Proofs.YtljdidimoagnhaaDoor

