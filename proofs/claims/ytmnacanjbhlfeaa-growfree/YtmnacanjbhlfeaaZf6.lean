/-
  What the last text of this claim leans on, part 6: Gy7, Gy8, Wj1, Wj2.
-/
import Derived.Test.YtmnacanjbhlfeaaZf5
import Derived.Test.YtmnacanjbhlfeaaZf1
import Derived.Test.YtmnacanjbhlfeaaZf3
import Derived.Laws.ResultCell
import Derived.Shelf.Strings.Builder1
namespace Go.Proofs.Ytmnacanjbhlfeaa
open Go.RowKit
set_option linter.unusedVariables false
set_option linter.unusedSimpArgs false
/-- The word behind n rounds; none: one on the way has more than M letters. -/
def bdW (M : Nat) (xs : List (List UInt8)) : Nat → List UInt8 → Option (List UInt8)
  | 0, l => some l
  | n + 1, l => if M < (imgL xs l).length then none else bdW M xs n (imgL xs l)
theorem bdW_succ (M : Nat) (xs : List (List UInt8)) (n : Nat) (l : List UInt8) : bdW M xs (n + 1) l = if M < (imgL xs l).length then none else bdW M xs n (imgL xs l) := rfl
theorem bdW_gw (xs : List (List UInt8)) : ∀ (n : Nat) (l : List UInt8), bdW 40000 xs n l = gwN xs n l
  | 0, l => rfl
  | n + 1, l => by rw [bdW_succ, gwN_succ, bdW_gw xs n]
theorem bdW_cn (xs : List (List UInt8)) : ∀ (n : Nat) (l : List UInt8), bdW 1000000000000000000 xs n l = cnW xs n l
  | 0, l => rfl
  | n + 1, l => by rw [bdW_succ, cnW_succ, bdW_cn xs n]
theorem img12 {xs : List (List UInt8)} {n : Nat} (h : ∀ k, k < n → (xs.getD k []).length ≤ 12) : ∀ {l : List UInt8}, l.all (ltB n) = true → (imgL xs l).length ≤ 12 * l.length
  | [], _ => by simp [imgL]
  | c :: l, hl => by
    rw [List.all_cons, Bool.and_eq_true] at hl
    have q : 97 ≤ c.toNat ∧ c.toNat < n + 97 := by simpa [ltB] using hl.1
    have h1 := h (c.toNat - 97) (by omega)
    have h2 := img12 h hl.2
    rw [imgL_cons, List.length_append, List.length_cons]
    omega
theorem ltB_mono {n m : Nat} (h : n ≤ m) {l : List UInt8} (hl : l.all (ltB n) = true) : l.all (ltB m) = true := by
  rw [List.all_eq_true] at hl ⊢
  intro c hc
  have q : 97 ≤ c.toNat ∧ c.toNat < n + 97 := by simpa [ltB] using hl c hc
  unfold ltB
  rw [decide_eq_true q.1, decide_eq_true (by omega)]
  rfl
/-- How often each letter stands in each word; and while it is counted. -/
def bcA (xs : List (List UInt8)) (k : Nat) : Nat := ctL (xs.getD (k / 8) []) (k % 8)
def bcV (xs : List (List UInt8)) (i k : Nat) : Nat := if k / 8 < i then bcA xs k else 0
theorem bcV_full (xs : List (List UInt8)) (k : Nat) : bcV xs xs.length k = bcA xs k := by
  unfold bcV
  by_cases h : k / 8 < xs.length
  · rw [if_pos h]
  · rw [if_neg h]
    unfold bcA
    rw [show xs.getD (k / 8) [] = [] by rw [List.getD, List.getElem?_eq_none (by omega)]; rfl]
    simp [ctL]
theorem rdV_is {xs : List (List UInt8)} {s : List UInt8} (h : s.all (ltB 8) = true) {x : Nat} (hx : x < 8) : rdV (ctL s) (bcA xs) 8 x = ctL (imgL xs s) x := by
  rw [← nxV_is (xs := xs) h]
  unfold rdV nxV bcA
  refine smG_ext (fun i => ?_) 8
  rw [show (i * 8 + x) / 8 = i by omega, show (i * 8 + x) % 8 = x by omega]
theorem zero64 : (#[.int .u64 0, .int .u64 0, .int .u64 0, .int .u64 0, .int .u64 0, .int .u64 0, .int .u64 0, .int .u64 0, .int .u64 0, .int .u64 0, .int .u64 0, .int .u64 0, .int .u64 0, .int .u64 0, .int .u64 0, .int .u64 0, .int .u64 0, .int .u64 0, .int .u64 0, .int .u64 0, .int .u64 0, .int .u64 0, .int .u64 0, .int .u64 0, .int .u64 0, .int .u64 0, .int .u64 0, .int .u64 0, .int .u64 0, .int .u64 0, .int .u64 0, .int .u64 0, .int .u64 0, .int .u64 0, .int .u64 0, .int .u64 0, .int .u64 0, .int .u64 0, .int .u64 0, .int .u64 0, .int .u64 0, .int .u64 0, .int .u64 0, .int .u64 0, .int .u64 0, .int .u64 0, .int .u64 0, .int .u64 0, .int .u64 0, .int .u64 0, .int .u64 0, .int .u64 0, .int .u64 0, .int .u64 0, .int .u64 0, .int .u64 0, .int .u64 0, .int .u64 0, .int .u64 0, .int .u64 0, .int .u64 0, .int .u64 0, .int .u64 0, .int .u64 0] : Array Value) = arrF 64 (uF fun _ => 0) := rfl
theorem setCells_row (b : Nat) : ∀ (vs : List Value) (o : Nat) (w : World) (n : Nat) (f : Nat → Value) (T : TypeId), w.heap[b]? = some (.cells (arrF n f) T (0, 0)) →
    (w.setCells b o vs).heap[b]? = some (.cells (arrF n fun k => if o ≤ k ∧ k < o + vs.length then vs.getD (k - o) undef else f k) T (0, 0))
  | [], o, w, n, f, T, h => by
    rw [World.setCells, h, arrF_ext (n := n) (f := f) (g := fun k => if o ≤ k ∧ k < o + [].length then ([] : List Value).getD (k - o) undef else f k) (fun k _ => by rw [if_neg (by simp only [List.length_nil]; omega)])]
  | v :: r, o, w, n, f, T, h => by
    rw [World.setCells]
    have h1 : (w.setCell ⟨b, o, none⟩ v).heap[b]? = some (.cells (arrF n fun k => if k = o then v else f k) T (0, 0)) := by rw [heap_setCell_same _ _ _ _ _ _ h, arrF_set]
    rw [setCells_row b r (o + 1) _ n _ T h1]
    congr 2
    refine arrF_ext fun k _ => ?_
    by_cases e : k = o
    · subst e
      rw [if_neg (by omega), if_pos rfl, if_pos (by simp), Nat.sub_self]
      rfl
    · by_cases q : o + 1 ≤ k ∧ k < o + 1 + r.length
      · rw [if_pos q, if_pos (by simp only [List.length_cons]; omega), show k - o = (k - (o + 1)) + 1 by omega]
        rfl
      · rw [if_neg q, if_neg e, if_neg (by simp only [List.length_cons]; omega)]
theorem setCells_other (b : Nat) : ∀ (vs : List Value) (o : Nat) (w : World) (j : Nat), j ≠ b → (w.setCells b o vs).heap[j]? = w.heap[j]?
  | [], _, _, _, _ => rfl
  | v :: r, o, w, j, h => by rw [World.setCells, setCells_other b r _ _ j h, Below.heap_setCell _ _ _ _ h]
theorem setCells_below (b : Nat) {B : Nat} {a : World} (hb : B ≤ b) : ∀ (vs : List Value) (o : Nat) (w : World), Below B a w → Below B a (w.setCells b o vs)
  | [], _, _, h => h
  | v :: r, o, w, h => by rw [World.setCells]; exact setCells_below b hb r _ _ (h.setCell hb _)
theorem results_rowT {P : Program} {fn : Func} {p u : Tmp} {ty : TypeId} (h : fn.results = #[.cell p ty, .tmp u]) (tmps : Array Value) (w : World) (g : Nat) (t : TypeId) (cs : Array Value) (fr : Nat × Nat) (d : TypeDesc)
    (hp : tmps.getD p undef = .pointer (some ⟨g, 0, none⟩)) (hg : w.heap[g]? = some (.cells cs t fr))
    (hu : P.underlying ty = some d) (hd : (match d with | .struct _ | .array _ _ => true | _ => false) = true) (hi : (P.info? ty).map (·.size) = some cs.size) :
    (results fn tmps).run P w = .ok (.tuple #[.agg cs, tmps.getD u undef]) w := by
  have hp' : tmps[p]?.getD undef = .pointer (some ⟨g, 0, none⟩) := by simpa using hp
  simp [results, h, hp', asAddr, run_loadVar_row w g t ty cs fr d hg hu hd hi]
/-- What lies there while words are counted. -/
structure CbS (w wr : World) (xs : List (List UInt8)) (i : Nat) : Prop where
  below : Below w.heap.size w wr
  res : wr.heap[w.heap.size]? = some (.cells (arrF 8 (uF fun _ => 0)) 40 (0, 0))
  bec : wr.heap[w.heap.size + 1]? = some (.cells (arrF 64 (uF (bcV xs i))) 54 (0, 0))
theorem CbS.keep {w wr V : World} {xs : List (List UInt8)} {i : Nat} (h : CbS w wr xs i) (b : Below wr.heap.size wr V) : CbS w V xs i :=
  ⟨h.below.trans (b.mono h.below.size), (b.block _ (lt_of_block h.res)).trans h.res, (b.block _ (lt_of_block h.bec)).trans h.bec⟩
theorem CbS.there {w wr : World} {xs : List (List UInt8)} {i : Nat} (h : CbS w wr xs i) (hi : i < 8) : wr.there (w.heap.size + 1) (i * 8) 8 := fun j hj =>
  ⟨by rw [cell_of_row wr _ _ _ _ _ h.bec, arrF_get _ (by omega)]; rfl, frozen_of_row wr _ _ _ _ h.bec⟩
theorem CbS.put {w wr : World} {xs : List (List UInt8)} {i : Nat} (h : CbS w wr xs i) : CbS w (wr.setCells (w.heap.size + 1) (i * 8) (arrF 8 (uF (ctL (xs.getD i [])))).toList) xs (i + 1) :=
  ⟨setCells_below _ (by omega) _ _ _ h.below, (setCells_other _ _ _ _ _ (by omega)).trans h.res, by
    rw [setCells_row _ _ _ _ _ _ _ h.bec]
    congr 2
    refine arrF_ext fun k hk => ?_
    have hl : (arrF 8 (uF (ctL (xs.getD i [])))).toList.length = 8 := by rw [Array.length_toList, arrF_size]
    rw [hl]
    unfold uF bcV
    by_cases q : i * 8 ≤ k ∧ k < i * 8 + 8
    · rw [if_pos q, if_pos (by omega)]
      have e1 : (arrF 8 (fun k => Value.int .u64 ((ctL (xs.getD i []) k : Nat) : Int))).toList.getD (k - i * 8) undef = .int .u64 ((ctL (xs.getD i []) (k - i * 8) : Nat) : Int) := by
        rw [List.getD, Array.getElem?_toList, arrF_get _ (by omega)]
        rfl
      show (arrF 8 (fun k => Value.int .u64 ((ctL (xs.getD i []) k : Nat) : Int))).toList.getD (k - i * 8) undef = _
      rw [e1]
      unfold bcA
      rw [show k / 8 = i by omega, show k % 8 = k - i * 8 by omega]
    · rw [if_neg q]
      by_cases q2 : k / 8 < i
      · rw [if_pos q2, if_pos (by omega)]
      · rw [if_neg q2, if_neg (by omega)]⟩
/-- What lies there while rounds go by. -/
structure CcS (w wr : World) (xs : List (List UInt8)) (g : Nat) (s : List UInt8) : Prop where
  below : Below w.heap.size w wr
  res : wr.heap[w.heap.size]? = some (.cells (arrF 8 (uF fun _ => 0)) 40 (0, 0))
  bec : wr.heap[w.heap.size + 1]? = some (.cells (arrF 64 (uF (bcA xs))) 54 (0, 0))
  far : w.heap.size + 1 < g
  now : wr.heap[g]? = some (.cells (arrF 8 (uF (ctL s))) 40 (0, 0))
theorem CcS.keep {w wr V : World} {xs : List (List UInt8)} {g : Nat} {s : List UInt8} (h : CcS w wr xs g s) (b : Below wr.heap.size wr V) : CcS w V xs g s :=
  ⟨h.below.trans (b.mono h.below.size), (b.block _ (lt_of_block h.res)).trans h.res, (b.block _ (lt_of_block h.bec)).trans h.bec, h.far, (b.block _ (lt_of_block h.now)).trans h.now⟩
theorem CcS.put {w wr : World} {xs : List (List UInt8)} {g : Nat} {s t : List UInt8} (h : CcS w wr xs g s) : CcS w (wr.setRow g (arrF 8 (uF (ctL t)))) xs g t :=
  ⟨below_setRow h.below (by have := h.far; omega) _, (setRow_other _ _ _ _ (by have := h.far; omega)).trans h.res, (setRow_other _ _ _ _ (by have := h.far; omega)).trans h.bec, h.far, setRow_heap _ _ _ _ _ _ h.now⟩
end Go.Proofs.Ytmnacanjbhlfeaa

namespace Go.Proofs.Ytmnacanjbhlfeaa
open Go.RowKit
set_option linter.unusedVariables false
set_option linter.unusedSimpArgs false
/-- What countBehind answers. -/
def CbO (o : Option (List UInt8)) (e : Ending) : Prop := (∃ s, o = some s ∧ e = .returned (.tuple #[.agg (arrF 8 (uF (ctL s))), .nilIface])) ∨ (o = none ∧ e = .returned (.tuple #[.agg (arrF 8 (uF fun _ => 0)), .iface 48 (.int .i64 4)]))
set_option maxRecDepth 100000 in
set_option maxHeartbeats 25600000 in
theorem countBehind_any (xs : List (List UInt8)) (a : Option Addr) (k c : Nat) (l : List UInt8) (m M : Nat) (w : World) (hA : ArgX w xs a k c) (ok : imF xs = 0) (hl : l.length ≤ 40000) (hlt : l.all (ltB k) = true) (hm : m ≤ 60) (hM : M ≤ 1000000000000000000) :
    Calls Try.prog 14 #[.slice a k c, .string ⟨l.toArray⟩, .int .i64 (m : Int), .int .i64 (M : Int)] w fun e w' => CbO (bdW M xs m l) e ∧ Below w.heap.size w w' := by
  have IK := imF_ok ok
  rw [← hA.len] at IK
  obtain ⟨k1, k8, OK⟩ := IK
  have KL := hide' hA.len
  have HA := hide' hA
  have C1 := hide' (fun i (h : i < k) (V : World) => count_any (xs.getD i []) k V (by have := (OK i h).1; omega) k8 (OK i h).2)
  have C2 := hide' (fun (V : World) => count_any l k V hl k8 hlt)
  have IM := hide' (fun (s : List UInt8) (h : s.all (ltB k) = true) => imgL_all (xs := xs) (n := k) (fun i hi => (OK i hi).2) h)
  have I12 := hide' (fun (s : List UInt8) (h : s.all (ltB k) = true) => img12 (xs := xs) (n := k) (fun i hi => (OK i hi).1) h)
  have HLT := hide' hlt
  have B12 := hide' (show ∀ j, bcA xs j ≤ 40000 from fun j => by
    by_cases h : j / 8 < k
    · have := (OK (j / 8) h).1; have := ctL_le (xs.getD (j / 8) []) (j % 8); unfold bcA; omega
    · unfold bcA; rw [show xs.getD (j / 8) [] = [] by rw [List.getD, List.getElem?_eq_none (by rw [← KL.out]; omega)]; rfl]; simp [ctL])
  clear hA ok hlt OK
  obtain ⟨w1, hw1⟩ : ∃ w1, (w.alloc (.cells #[.int .u64 0, .int .u64 0, .int .u64 0, .int .u64 0, .int .u64 0, .int .u64 0, .int .u64 0, .int .u64 0] 40)).alloc (.cells #[.int .u64 0, .int .u64 0, .int .u64 0, .int .u64 0, .int .u64 0, .int .u64 0, .int .u64 0, .int .u64 0, .int .u64 0, .int .u64 0, .int .u64 0, .int .u64 0, .int .u64 0, .int .u64 0, .int .u64 0, .int .u64 0, .int .u64 0, .int .u64 0, .int .u64 0, .int .u64 0, .int .u64 0, .int .u64 0, .int .u64 0, .int .u64 0, .int .u64 0, .int .u64 0, .int .u64 0, .int .u64 0, .int .u64 0, .int .u64 0, .int .u64 0, .int .u64 0, .int .u64 0, .int .u64 0, .int .u64 0, .int .u64 0, .int .u64 0, .int .u64 0, .int .u64 0, .int .u64 0, .int .u64 0, .int .u64 0, .int .u64 0, .int .u64 0, .int .u64 0, .int .u64 0, .int .u64 0, .int .u64 0, .int .u64 0, .int .u64 0, .int .u64 0, .int .u64 0, .int .u64 0, .int .u64 0, .int .u64 0, .int .u64 0, .int .u64 0, .int .u64 0, .int .u64 0, .int .u64 0, .int .u64 0, .int .u64 0, .int .u64 0, .int .u64 0] 54) = w1 := ⟨_, rfl⟩
  have X0 := hide' (show CbS w w1 xs 0 from ⟨by rw [← hw1]; exact ((Below.refl _ _).alloc (Nat.le_refl _) _).alloc (by simp; try omega) _,
    by rw [← hw1, ← zero8, Below.heap_alloc _ _ _ (by simp; try omega)]; exact heap_atX _ _ _ (by simp),
    by rw [arrF_ext (n := 64) (f := uF (bcV xs 0)) (g := uF fun _ => 0) (fun k _ => by unfold uF bcV; rw [if_neg (by omega)]), ← zero64, ← hw1]; exact heap_atX _ _ _ (by simp)⟩)
  go_enter Try.func14, Try.ntmps14
  go_wp2
  try rw [hw1]
  clear hw1
  go_loopw [11, 12, 16] (fun _ _ iv wr => ∃ i : Nat, iv = .int .i64 (i : Int) ∧ i ≤ k ∧ Hid (CbS w wr xs i)) (fun _ _ iv _ => k - (intOf iv).toNat)
  case atStart => exact ⟨0, rfl, by omega, X0⟩
  case round =>
    obtain ⟨i, rfl, hi, H⟩ := hrel
    by_cases d : (i : Int) < (k : Int)
    · have il : i < xs.length := by rw [← KL.out]; omega
      have i0 : (0 : Int) ≤ (i : Int) := by omega
      have i8 : (i : Int) < 8 := by omega
      obtain ⟨g, off, ea, -, hc⟩ := (HA.out.below H.out.below).cells i il
      subst ea
      have CC := hide' (C1.out i (by omega))
      have PT := hide' (fun (V : World) (h : Below wr.heap.size wr V) => (H.out.keep h).put)
      have TH := hide' (fun (V : World) (h : Below wr.heap.size wr V) => (H.out.keep h).there (by omega))
      obtain ⟨x, hx⟩ : ∃ x, xs.getD i [] = x := ⟨_, rfl⟩
      rw [hx] at hc CC PT
      obtain ⟨A, hA⟩ : ∃ A, arrF 8 (uF (ctL x)) = A := ⟨_, rfl⟩
      have asz : A.size = 8 := by rw [← hA, arrF_size]
      have al : A.all (·.oneCell') = true := by rw [← hA]; exact arrF_all _ _ (fun k _ => rfl)
      rw [hA] at CC PT
      clear hx hA
      go_wp2_with fail
      refine (CC.out _).mono ?_
      rintro o w3 ⟨rfl, b3⟩
      have th := TH.out w3 b3
      have H3 := hide' (PT.out w3 b3)
      obtain ⟨V, hV⟩ : ∃ V, w3.setCells (w.heap.size + 1) (i * 8) A.toList = V := ⟨_, rfl⟩
      rw [hV] at H3
      go_wp2_with (first
        | (refine wpList_store_mid rfl 40 _ _ rfl (w.heap.size + 1) (i * 8) A rfl rfl (by rw [asz]; exact th) (by rw [asz]; kernel_rfl) al ?_; rw [hV]))
      exact ⟨⟨i + 1, by go_num, by omega, H3⟩, by simp [intOf]; omega⟩
    · obtain rfl : i = k := by omega
      have X1 := hide' (show CbS w wr xs i ∧ wr.heap[w.heap.size + 1]? = some (.cells (arrF 64 (uF (bcA xs))) 54 (0, 0)) from ⟨H.out, by
        rw [H.out.bec, arrF_ext (n := 64) (f := uF (bcV xs i)) (g := uF (bcA xs)) (fun j _ => by unfold uF; rw [KL.out, bcV_full])]⟩)
      clear H d
      obtain ⟨A, hA⟩ : ∃ A, arrF 8 (uF (ctL l)) = A := ⟨_, rfl⟩
      have asz : A.size = 8 := by rw [← hA, arrF_size]
      have al : A.all (·.oneCell') = true := by rw [← hA]; exact arrF_all _ _ (fun k _ => rfl)
      rw [hA] at C2
      have HAA := hide' hA
      clear hA
      go_wp2_with fail
      refine (C2.out _).mono ?_
      rintro o w3 ⟨rfl, b3⟩
      have gz : (w3.alloc (.cells #[.int .u64 0, .int .u64 0, .int .u64 0, .int .u64 0, .int .u64 0, .int .u64 0, .int .u64 0, .int .u64 0] 40)).heap[w3.heap.size]? = some (.cells #[.int .u64 0, .int .u64 0, .int .u64 0, .int .u64 0, .int .u64 0, .int .u64 0, .int .u64 0, .int .u64 0] 40 (0, 0)) := heap_alloc_new w3 _
      obtain ⟨V, hV⟩ : ∃ V, (w3.alloc (.cells #[.int .u64 0, .int .u64 0, .int .u64 0, .int .u64 0, .int .u64 0, .int .u64 0, .int .u64 0, .int .u64 0] 40)).setRow w3.heap.size A = V := ⟨_, rfl⟩
      have XV := hide' (show CcS w V xs w3.heap.size l by
        have K := X1.out.1.keep b3
        have bq := (b3.block _ (lt_of_block X1.out.1.bec)).trans X1.out.2
        have f1 := lt_of_block K.bec
        have bb : Below w3.heap.size w3 V := by rw [← hV]; exact below_setRow ((Below.refl _ _).alloc (Nat.le_refl _) _) (Nat.le_refl _) _
        refine ⟨K.below.trans (bb.mono K.below.size), (bb.block _ (lt_of_block K.res)).trans K.res, (bb.block _ (lt_of_block bq)).trans bq, by omega, ?_⟩
        rw [← hV, HAA.out]
        exact setRow_heap _ _ _ _ _ _ gz)
      go_wp2_with (first
        | (refine wpList_store_row rfl 40 _ _ rfl w3.heap.size A rfl rfl 40 _ gz (by rw [asz]; kernel_rfl) (by rw [asz]; rfl) al ?_; rw [hV]))
      obtain ⟨g, hg⟩ : ∃ g, w3.heap.size = g := ⟨_, rfl⟩
      rw [hg] at XV
      rw [hg]
      clear hV gz hg b3 X1 al asz HAA
      go_loopw [29] (fun iv wr => ∃ (r : Nat) (s : List UInt8), iv = .int .i64 (r : Int) ∧ r ≤ m ∧ Hid (bdW M xs m l = bdW M xs (m - r) s) ∧ Hid (s.length ≤ 1000000000000000000) ∧ Hid (s.all (ltB i) = true) ∧ Hid (CcS w wr xs g s)) (fun iv _ => m - (intOf iv).toNat)
      case atStart => exact ⟨0, l, rfl, by omega, hide' rfl, hide' (by omega), HLT, XV⟩
      case round =>
        obtain ⟨r, s, rfl, hr, HB, HN, HT, H⟩ := hrel
        by_cases e : (r : Int) < (m : Int)
        · obtain ⟨t, ht⟩ : ∃ t, imgL xs s = t := ⟨_, rfl⟩
          have T8 := hide' (ltB_mono k8 HT.out)
          have TA := hide' (show t.all (ltB i) = true by rw [← ht]; exact IM.out _ HT.out)
          have tl : t.length ≤ 12000000000000000000 := by have := I12.out _ HT.out; have := HN.out; rw [ht] at *; omega
          have RV := hide' (show ∀ x, x < 8 → rdV (ctL s) (bcA xs) 8 x = ctL t x from fun x hx => by rw [rdV_is T8.out hx, ht])
          have RC := hide' (fun (V : World) => round_any (ctL s) (bcA xs) V (fun x hx => by rw [RV.out x hx]; have := ctL_le t x; omega) (fun j _ => by have := B12.out j; omega))
          have EE := hide' (arrF_ext (n := 8) (f := uF (rdV (ctL s) (bcA xs) 8)) (g := uF (ctL t)) (fun x hx => by unfold uF; rw [RV.out x hx]))
          rw [EE.out] at RC
          have SM := hide' (ctL_sum (ltB_mono k8 TA.out))
          have SC := hide' (fun (V : World) => sumY_any (ctL t) V (by rw [SM.out]; omega))
          rw [SM.out] at SC
          have NB := hide' (show bdW M xs m l = if M < t.length then none else bdW M xs (m - (r + 1)) t by rw [HB.out, show m - r = (m - (r + 1)) + 1 by omega, bdW_succ, ht])
          have PT := hide' (fun (V : World) (h : Below wr.heap.size wr V) => (H.out.keep h).put (t := t))
          have gy := H.out.bec
          have gs := H.out.now
          obtain ⟨Y, hY⟩ : ∃ Y, arrF 64 (uF (bcA xs)) = Y := ⟨_, rfl⟩
          obtain ⟨Z, hZ⟩ : ∃ Z, arrF 8 (uF (ctL s)) = Z := ⟨_, rfl⟩
          obtain ⟨U, hU⟩ : ∃ U, arrF 8 (uF (ctL t)) = U := ⟨_, rfl⟩
          have ys : Y.size = 64 := by rw [← hY, arrF_size]
          have zs : Z.size = 8 := by rw [← hZ, arrF_size]
          have us : U.size = 8 := by rw [← hU, arrF_size]
          have ul : U.all (·.oneCell') = true := by rw [← hU]; exact arrF_all _ _ (fun k _ => rfl)
          rw [hY] at gy
          rw [hZ] at gs
          rw [hY, hZ, hU] at RC
          rw [hU] at SC PT
          have HU := hide' hU
          clear hY hZ hU EE RV T8 HB ht
          go_wp2_with (first
            | (refine wpList_load_row rfl 40 _ rfl g rfl 40 Z (0, 0) _ gs Try.underlying40 rfl (by rw [zs]; kernel_rfl) ?_)
            | (refine wpList_load_row rfl 54 _ rfl (w.heap.size + 1) rfl 54 Y (0, 0) _ gy Try.underlying54 rfl (by rw [ys]; kernel_rfl) ?_))
          refine (RC.out _).mono ?_
          rintro o w4 ⟨rfl, b4⟩
          have g4 := (b4.block _ (lt_of_block gs)).trans gs
          have P4 := hide' (PT.out w4 b4)
          obtain ⟨V4, hV4⟩ : ∃ V, w4.setRow g U = V := ⟨_, rfl⟩
          rw [hV4] at P4
          have g5 : V4.heap[g]? = some (.cells U 40 (0, 0)) := by rw [← hV4]; exact setRow_heap _ _ _ _ _ _ g4
          clear gy gs b4
          go_wp2_with (first
            | (refine wpList_store_row rfl 40 _ _ rfl g U rfl rfl 40 _ g4 (by rw [us]; kernel_rfl) (by rw [zs, us]) ul ?_; rw [hV4])
            | (refine wpList_load_row rfl 40 _ rfl g rfl 40 U (0, 0) _ g5 Try.underlying40 rfl (by rw [us]; kernel_rfl) ?_))
          refine (SC.out _).mono ?_
          rintro o w5 ⟨rfl, b5⟩
          have P5 := hide' (P4.out.keep b5)
          clear g4 g5 b5 hV4 P4
          obtain ⟨n, hn⟩ : ∃ n, t.length = n := ⟨_, rfl⟩
          rw [hn] at tl NB
          rw [hn]
          have HN2 := hide' hn
          clear hn
          by_cases q : (M : Int) < (n : Int)
          · have NO := hide' (show bdW M xs m l = none by rw [NB.out, if_pos (by omega)])
            have gb := P5.out.res
            obtain ⟨O, hO⟩ : ∃ O, arrF 8 (uF fun _ => 0) = O := ⟨_, rfl⟩
            have os : O.size = 8 := by rw [← hO, arrF_size]
            have ol : O.all (·.oneCell') = true := by rw [← hO]; exact arrF_all _ _ (fun k _ => rfl)
            rw [hO] at gb
            have hO2 : (#[.int .u64 0, .int .u64 0, .int .u64 0, .int .u64 0, .int .u64 0, .int .u64 0, .int .u64 0, .int .u64 0] : Array Value) = O := by rw [← hO]; rfl
            have HO := hide' hO
            clear hO
            go_wp2_with (first
              | (refine wpList_store_row rfl 40 _ _ rfl w.heap.size O rfl (by first | rfl | (rw [← hO2]; rfl)) 40 _ gb (by rw [os]; kernel_rfl) rfl ol ?_))
            refine bodyPost_ret (v := .tuple #[.agg O, .iface 48 (.int .i64 4)]) (results_rowT Try.results14 _ _ w.heap.size 40 _ (0, 0) _ rfl (setRow_heap _ _ _ _ _ _ gb) Try.underlying40 rfl (by rw [os]; kernel_rfl)) rfl ?_
            exact ⟨Or.inr ⟨NO.out, by rw [HO.out]⟩, below_setRow P5.out.below (by omega) _⟩
          · have NX := hide' (show bdW M xs m l = bdW M xs (m - (r + 1)) t by rw [NB.out, if_neg (by omega)])
            clear NB
            go_wp2
            exact ⟨⟨r + 1, t, by go_num, by omega, NX, hide' (by rw [HN2.out]; omega), TA, P5⟩, by simp [intOf]; omega⟩
        · obtain rfl : r = m := by omega
          have YES := hide' (show bdW M xs r l = some s by rw [HB.out, Nat.sub_self]; rfl)
          have gb := H.out.res
          have gp := H.out.now
          obtain ⟨Zb, hZ⟩ : ∃ Z, arrF 8 (uF (ctL s)) = Z := ⟨_, rfl⟩
          have zs : Zb.size = 8 := by rw [← hZ, arrF_size]
          have za : Zb.all (·.oneCell') = true := by rw [← hZ]; exact arrF_all _ _ (fun k _ => rfl)
          rw [hZ] at gp
          have HZ := hide' hZ
          have BF := hide' H.out.below
          clear hZ H HB
          go_wp2_with (first
            | (refine wpList_load_row rfl 40 _ rfl g rfl 40 Zb (0, 0) _ gp Try.underlying40 rfl (by rw [zs]; kernel_rfl) ?_)
            | (refine wpList_store_row rfl 40 _ _ rfl w.heap.size Zb rfl rfl 40 _ gb (by rw [zs]; kernel_rfl) (by rw [zs]; rfl) za ?_))
          refine bodyPost_ret (v := .tuple #[.agg Zb, .nilIface]) (results_rowT Try.results14 _ _ w.heap.size 40 _ (0, 0) _ rfl (setRow_heap _ _ _ _ _ _ gb) Try.underlying40 rfl (by rw [zs]; kernel_rfl)) rfl ?_
          exact ⟨Or.inl ⟨s, YES.out, by rw [HZ.out]⟩, below_setRow BF.out (by omega) _⟩
end Go.Proofs.Ytmnacanjbhlfeaa

namespace Go.Proofs.Ytmnacanjbhlfeaa
open Go.RowKit
set_option linter.unusedVariables false

abbrev Bld (B b : Nat) (bs : List Value) (w : World) : Prop := Lib.IsBuilder 61 5 B b bs w
abbrev BldU (B b : Nat) (bs : List Value) (w : World) : Prop := Lib.BuilderAt 61 5 B b (.pointer (some ⟨b, 0, none⟩)) bs w
theorem size_bld : (Try.prog.info? 61).map (·.size) = some 2 := by kernel_rfl
theorem lies_bld : liesAt Try.prog Try.prog.depth 61 (2 / Try.prog.cellsOf 61) 0 61 1 = true := by kernel_rfl

end Go.Proofs.Ytmnacanjbhlfeaa

namespace Go.Proofs.Ytmnacanjbhlfeaa
open Go.RowKit
set_option linter.unusedVariables false

end Go.Proofs.Ytmnacanjbhlfeaa

