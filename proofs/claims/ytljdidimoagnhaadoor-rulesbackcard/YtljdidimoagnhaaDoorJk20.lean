/-
  What the last text of this claim leans on, part 20: Bb1, Pr6.
-/
import Derived.Test.YtljdidimoagnhaaDoorJk1
import Derived.Test.YtljdidimoagnhaaDoorJk19
import Derived.Test.YtljdidimoagnhaaDoorJk15
namespace Go.Proofs.YtljdidimoagnhaaDoor
set_option linter.unusedVariables false

/-- A text of these bytes. -/
def txt (l : List UInt8) : ByteArray := ⟨l.toArray⟩
theorem txt_size (l : List UInt8) : (txt l).size = l.length := by simp [txt, ByteArray.size]
theorem bt_mid {s : ByteArray} {pre post : List UInt8} {c : UInt8} (h : s = txt (pre ++ c :: post)) : bt s pre.length = c.toNat ∧ pre.length < s.size := by
  subst h
  have hl : pre.length < (txt (pre ++ c :: post)).size := by rw [txt_size]; simp
  refine ⟨?_, hl⟩
  unfold bt
  rw [dif_pos hl]
  show (ByteArray.get _ _ _).toNat = _
  simp [txt, ByteArray.get]
theorem bt_at {s : ByteArray} {pre post : List UInt8} {c : UInt8} {i : Nat} (h : s = txt (pre ++ c :: post)) (hi : i = pre.length) : bt s i = c.toNat ∧ i < s.size := by
  subst hi; exact bt_mid h
def bits (l : List Int) : Prop := ∀ x ∈ l, x = 0 ∨ x = 1
theorem draw_cells (s : ByteArray) (W : Nat) (high : Nat) (r : Nat) (hh : high < 100) : ∀ (cs : List Int) (pre post : List UInt8) (n wide f : Nat) (acc : List Int), bits cs → s = txt (pre ++ (cs.flatMap cellBytes ++ 10 :: post)) → n + cs.length ≤ 100 → (0 < high → n + cs.length = wide) →
    drawF s (cs.length + 1 + f) pre.length r n wide high acc = drawF s f (pre.length + (cs.flatMap cellBytes).length + 1) (pre.length + (cs.flatMap cellBytes).length + 1) 0 (n + cs.length) (high + 1) (acc ++ cs) := by
  intro cs
  induction cs with
  | nil =>
    intro pre post n wide f acc hb hs hn hw
    obtain ⟨h1, h2⟩ := bt_mid (pre := pre) (post := post) (c := 10) (by simpa using hs)
    have h1' : bt s pre.length = 10 := h1
    have hd : isDot s pre.length = false := by simp [isDot, h1']
    have hbl : isBall s pre.length = false := by simp [isBall, h1']
    rw [show ([] : List Int).length + 1 + f = f + 1 by simp; omega, drawF, if_neg (by omega), hd, hbl]
    simp only [Bool.false_eq_true, if_false, List.length_nil, Nat.add_zero, List.append_nil, List.flatMap_nil]
    rw [if_neg (by omega), if_neg (by omega), if_neg (by simp at hw; intro h; exact h.2 (hw h.1))]
  | cons c cs ih =>
    intro pre post n wide f acc hb hs hn hw
    have hc := hb c (by simp)
    have hb' : bits cs := fun x hx => hb x (by simp [hx])
    simp only [List.length_cons] at hn hw
    rw [show (c :: cs).length + 1 + f = (cs.length + 1 + f) + 1 by simp; omega, drawF]
    rcases hc with rfl | rfl
    · have hs' : s = txt (pre ++ 194 :: (183 :: (cs.flatMap cellBytes ++ 10 :: post))) := by rw [hs]; simp [cellBytes]
      have hs2 : s = txt ((pre ++ [194]) ++ 183 :: (cs.flatMap cellBytes ++ 10 :: post)) := by rw [hs']; simp
      obtain ⟨a1, a2⟩ := bt_mid hs'
      obtain ⟨b1, b2⟩ := bt_at (i := pre.length + 1) hs2 (by simp)
      have hd : isDot s pre.length = true := isDot_true.2 ⟨a1, b2, b1⟩
      rw [if_neg (by omega), hd]
      simp only [if_true]
      rw [if_neg (by omega), if_neg (by omega)]
      have := ih (pre ++ [194, 183]) post (n + 1) wide f (acc ++ [0]) hb' (by rw [hs']; simp) (by omega) (fun h => by have := hw h; omega)
      simp only [List.length_append, List.length_cons, List.length_nil] at this
      simp only [List.flatMap_cons, List.length_append, show cellBytes 0 = [194, 183] from rfl, List.length_cons, List.length_nil]
      rw [this]
      simp only [List.append_assoc, List.singleton_append]
      rw [show n + 1 + cs.length = n + (cs.length + 1) by omega, show pre.length + (0 + 1 + 1) + (cs.flatMap cellBytes).length + 1 = pre.length + (0 + 1 + 1 + (cs.flatMap cellBytes).length) + 1 by omega]
    · have hs' : s = txt (pre ++ 226 :: (151 :: (143 :: (cs.flatMap cellBytes ++ 10 :: post)))) := by rw [hs]; simp [cellBytes]
      have hs2 : s = txt ((pre ++ [226]) ++ 151 :: (143 :: (cs.flatMap cellBytes ++ 10 :: post))) := by rw [hs']; simp
      have hs3 : s = txt ((pre ++ [226, 151]) ++ 143 :: (cs.flatMap cellBytes ++ 10 :: post)) := by rw [hs']; simp
      obtain ⟨a1, a2⟩ := bt_mid hs'
      obtain ⟨b1, b2⟩ := bt_at (i := pre.length + 1) hs2 (by simp)
      obtain ⟨c1, c2⟩ := bt_at (i := pre.length + 2) hs3 (by simp)
      have hd : isDot s pre.length = false := by simp [isDot, show bt s pre.length = 226 from a1]
      have hbl : isBall s pre.length = true := isBall_true.2 ⟨a1, c2, b1, c1⟩
      rw [if_neg (by omega), hd, hbl]
      simp only [if_true, Bool.false_eq_true, if_false]
      rw [if_neg (by omega), if_neg (by omega)]
      have := ih (pre ++ [226, 151, 143]) post (n + 1) wide f (acc ++ [1]) hb' (by rw [hs']; simp) (by omega) (fun h => by have := hw h; omega)
      simp only [List.length_append, List.length_cons, List.length_nil] at this
      simp only [List.flatMap_cons, List.length_append, show cellBytes 1 = [226, 151, 143] from rfl, List.length_cons, List.length_nil]
      rw [this]
      simp only [List.append_assoc, List.singleton_append]
      rw [show n + 1 + cs.length = n + (cs.length + 1) by omega, show pre.length + (0 + 1 + 1 + 1) + (cs.flatMap cellBytes).length + 1 = pre.length + (0 + 1 + 1 + 1 + (cs.flatMap cellBytes).length) + 1 by omega]
theorem cellBytes_ge (cs : List Int) : cs.length ≤ (cs.flatMap cellBytes).length := by
  induction cs with
  | nil => simp
  | cons c cs ih =>
    simp only [List.flatMap_cons, List.length_append, List.length_cons]
    have : 1 ≤ (cellBytes c).length := by unfold cellBytes; split <;> simp
    omega
def rowB (cs : List Int) : List UInt8 := cs.flatMap cellBytes ++ [10]
theorem draw_rows (s : ByteArray) (W : Nat) (hW : W ≤ 100) : ∀ (rows : List (List Int)) (pre : List UInt8) (wide high f : Nat) (acc : List Int), (∀ r ∈ rows, r.length = W ∧ bits r) → s = txt (pre ++ rows.flatMap rowB) → high + rows.length ≤ 100 → (0 < high → wide = W) → (rows.flatMap rowB).length + 1 ≤ f →
    drawF s f pre.length pre.length 0 wide high acc = .inl (if rows = [] then wide else W, high + rows.length, acc ++ rows.flatten) := by
  intro rows
  induction rows with
  | nil =>
    intro pre wide high f acc hr hs hh hw hf
    have hz : s.size = pre.length := by rw [hs, txt_size]; simp
    obtain ⟨g, rfl⟩ : ∃ g, f = g + 1 := ⟨f - 1, by simp at hf; omega⟩
    rw [drawF, if_pos (by omega), if_neg (by omega)]
    simp
  | cons cs rows ih =>
    intro pre wide high f acc hr hs hh hw hf
    obtain ⟨hl, hb⟩ := hr cs (by simp)
    simp only [List.length_cons] at hh
    have hs' : s = txt (pre ++ (cs.flatMap cellBytes ++ 10 :: rows.flatMap rowB)) := by rw [hs]; simp [rowB]
    have hge := cellBytes_ge cs
    simp only [List.flatMap_cons, List.length_append, rowB, List.length_singleton] at hf
    obtain ⟨g, rfl⟩ : ∃ g, f = cs.length + 1 + g := ⟨f - (cs.length + 1), by omega⟩
    rw [draw_cells s W high pre.length (by omega) cs pre _ 0 wide g acc hb hs' (by omega) (fun h => by rw [hw h, hl]; omega)]
    have := ih (pre ++ rowB cs) W (high + 1) g (acc ++ cs) (fun r h => hr r (by simp [h])) (by rw [hs']; simp [rowB]) (by omega) (fun _ => rfl) (by simp only [show rowB = fun cs => cs.flatMap cellBytes ++ [10] from rfl] at *; omega)
    simp only [List.length_append, rowB, List.length_singleton] at this
    rw [hl, Nat.zero_add, show pre.length + (cs.flatMap cellBytes).length + 1 = pre.length + ((cs.flatMap cellBytes).length + 1) by omega, this]
    simp only [if_neg (List.cons_ne_nil cs rows), List.flatten_cons, List.append_assoc, List.length_cons]
    rw [show high + 1 + rows.length = high + (rows.length + 1) by omega]
    split <;> rfl
theorem rows_all (W H : Nat) (xs : List Int) (hx : xs.length = W * H) : ((List.range H).map fun j => (List.range W).map fun i => xs.getD (j * W + i) 0).flatten = xs := by
  have key : ∀ h, h ≤ H → ((List.range h).map fun j => (List.range W).map fun i => xs.getD (j * W + i) 0).flatten = xs.take (W * h) := by
    intro h
    induction h with
    | zero => intro _; simp
    | succ h ih =>
      intro hh
      rw [List.range_succ, List.map_append, List.flatten_append, ih (by omega)]
      have hle : W * h + W ≤ xs.length := by
        have := Nat.mul_le_mul_left W hh
        rw [Nat.mul_succ] at this
        omega
      rw [Nat.mul_succ]
      apply List.ext_getElem?
      intro i
      simp only [List.map_cons, List.map_nil, List.flatten_cons, List.flatten_nil, List.append_nil]
      rw [List.getElem?_append]
      simp only [List.length_take]
      rw [Nat.min_eq_left (by omega)]
      split
      · rename_i hi
        rw [List.getElem?_take, if_pos hi, List.getElem?_take, if_pos (by omega)]
      · rename_i hi
        rw [List.getElem?_take]
        by_cases hj : i < W * h + W
        · rw [if_pos hj]
          rw [List.getElem?_map, List.getElem?_range (by omega)]
          simp only [Option.map_some]
          rw [Nat.mul_comm h W, show W * h + (i - W * h) = i by omega]
          rw [List.getD, List.getElem?_eq_getElem (show i < xs.length by omega)]
          rfl
        · rw [if_neg hj, List.getElem?_eq_none]
          simp; omega
  rw [key H (Nat.le_refl _), ← hx, List.take_length]
theorem draw_back (W H : Nat) (xs : List Int) (hW : W ≤ 100) (hH : H ≤ 100) (hx : xs.length = W * H) (hb : bits xs) : drawS (txt (drawRows W xs H)) = .inl (if H = 0 then 0 else W, H, xs) := by
  have hl := drawRows_le W xs hW H
  have e : drawRows W xs H = ((List.range H).map fun j => (List.range W).map fun i => xs.getD (j * W + i) 0).flatMap rowB := by
    simp [drawRows, drawRow, rowB, List.flatMap_map]
  have hbt : ∀ i, xs.getD i 0 = 0 ∨ xs.getD i 0 = 1 := by
    intro i
    rw [List.getD]
    by_cases h : i < xs.length
    · rw [List.getElem?_eq_getElem h]; exact hb _ (List.getElem_mem h)
    · rw [List.getElem?_eq_none (by omega)]; exact Or.inl rfl
  unfold drawS
  rw [txt_size, if_neg (by omega), e]
  have := draw_rows (txt (drawRows W xs H)) W hW ((List.range H).map fun j => (List.range W).map fun i => xs.getD (j * W + i) 0) [] 0 0 ((drawRows W xs H).length + 1) [] (by
    intro r hr
    simp only [List.mem_map, List.mem_range] at hr
    obtain ⟨j, hj, rfl⟩ := hr
    refine ⟨by simp, ?_⟩
    intro x hx
    simp only [List.mem_map, List.mem_range] at hx
    obtain ⟨i, -, rfl⟩ := hx
    exact hbt _) (by rw [e]; rfl) (by simp; omega) (by omega) (by rw [e]; omega)
  rw [← e]
  refine this.trans ?_
  simp only [List.length_map, List.length_range, Nat.zero_add, List.nil_append, rows_all W H xs hx, List.map_eq_nil_iff, List.range_eq_nil]
end Go.Proofs.YtljdidimoagnhaaDoor

namespace Go.Proofs.YtljdidimoagnhaaDoor
open Go.RowKit
set_option linter.unusedVariables false

/-- The table read as a number, low bit first. -/
def tabNum (xs : List Int) : Nat → Nat
  | 0 => 0
  | k + 1 => tabNum xs k + (xs.getD k 0).toNat * 2 ^ k
theorem tabNum_lt (xs : List Int) (h : ∀ k, k < xs.length → 0 ≤ xs.getD k 0 ∧ xs.getD k 0 < 2) : ∀ k, k ≤ xs.length → tabNum xs k < 2 ^ k
  | 0, _ => by simp [tabNum]
  | k + 1, hk => by
    have ih := tabNum_lt xs h k (by omega)
    have hx := h k (by omega)
    have : (xs.getD k 0).toNat = 0 ∨ (xs.getD k 0).toNat = 1 := by omega
    unfold tabNum
    rw [Nat.pow_succ]
    rcases this with e | e <;> rw [e] <;> omega

theorem wrapsum (t k : Nat) (x : Int) (ht : t ≤ 255) (hx : x = 0 ∨ x = 1) (hk : k ≤ 7) : wrap64 ((t : Int) + wrap64 (x * 2 ^ k)) = ((t + x.toNat * 2 ^ k : Nat) : Int) := by
  have hp : 2 ^ k ≤ 2 ^ 7 := Nat.pow_le_pow_right (by omega) hk
  have e : ((2 : Int) ^ k) = ((2 ^ k : Nat) : Int) := by simp
  rw [e]
  generalize 2 ^ k = p at *
  rcases hx with rfl | rfl
  · simp [wrap64]; omega
  · simp [wrap64]; omega

set_option maxHeartbeats 1600000 in
theorem numberOf_any (o : Out) (a : Option Addr) (n c : Nat) (w : World) (hR : ArgR w o a n c) (h8 : n = 8) (hb : ∀ k, k < o.table.length → 0 ≤ o.table.getD k 0 ∧ o.table.getD k 0 < 2) :
    Calls Tryd.prog 145 #[.slice a n c] w fun e w' => e = .returned (.int .i64 (tabNum o.table 8 : Int)) ∧ w' = w := by
  have hlen := hR.len
  have HR := hide' hR
  have HB := hide' hb
  have H8 := hide' h8
  have n8 : n ≤ 8 := by omega
  have HL := hide' hlen
  clear hR hb h8 hlen
  go_enter Tryd.func145, Tryd.ntmps145
  go_wp2
  go_loop [3, 8] (fun sv kv => ∃ k t : Nat, kv = .int .i64 (k : Int) ∧ sv = .int .i64 (t : Int) ∧ k ≤ n ∧ t ≤ 255 ∧ t = tabNum o.table k) (fun _ kv => n - (intOf kv).toNat)
  case atStart => exact ⟨0, 0, rfl, rfl, by omega, by omega, rfl⟩
  case round =>
    obtain ⟨k, t, rfl, rfl, hk, ht, hte⟩ := hrel
    have HT := hide' hte
    clear hte
    by_cases d : (k : Int) < (n : Int)
    · have hkl : k < o.table.length := by have := HL.out; omega
      obtain ⟨g, off, rfl, hg, hc⟩ := HR.out.cells k hkl
      have hx := HB.out k hkl
      have hget : o.table.getD k 0 = o.table[k] := by simp [List.getD, hkl]
      rw [hget] at hx
      have hlt := tabNum_lt o.table HB.out (k + 1) (by omega)
      have hp8 : 2 ^ (k + 1) ≤ 2 ^ 8 := Nat.pow_le_pow_right (by omega) (by omega)
      have T2 := hide' (show tabNum o.table (k + 1) = t + (o.table[k]).toNat * 2 ^ k by unfold tabNum; rw [hget, ← HT.out])
      have L2 := hide' (show tabNum o.table (k + 1) ≤ 255 by omega)
      have hcase : o.table[k] = 0 ∨ o.table[k] = 1 := by omega
      clear hlt hp8 hget hx
      have hk7 : (k : Int) ≤ 7 := by omega
      go_wp2
      rw [wrapsum t k o.table[k] ht hcase (by omega)]
      exact ⟨⟨k + 1, _, by go_num, rfl, by omega, by have := L2.out; rw [T2.out] at this; exact this, T2.out.symm⟩, by simp [intOf]; omega⟩
    · go_wp2
      go_ret
      have : k = 8 := by have := H8.out; omega
      rw [HT.out, this]
      exact ⟨rfl, rfl⟩

/-- At block g a list of n bytes of the call's own, the first k of which are f's. -/
structure FillB (w0 w : World) (g n k : Nat) (f : Nat → UInt8) : Prop where
  below : Below w0.heap.size w0 w
  ge : w0.heap.size ≤ g
  lt : g < w.heap.size
  cells : ∀ j, j < n → ∃ v, w.cell? ⟨g, j, none⟩ = some v ∧ (j < k → v = bval (f j))
  fz : ∀ j, w.frozen? ⟨g, j, none⟩ = false
theorem FillB.start (w : World) (n : Nat) (f : Nat → UInt8) (z : Value) (t : TypeId) : FillB w (w.alloc (.cells (madeCells #[z] n) t)) w.heap.size n 0 f := by
  refine ⟨(Below.refl _ _).alloc (Nat.le_refl _) _, Nat.le_refl _, by simp, fun j hj => ⟨(madeCells #[z] n)[j]'(by rw [size_madeCells]; exact hj), ?_, by omega⟩, fun j => by simp⟩
  rw [World.cell?_alloc_at _ _ _ _ rfl]
  exact Array.getElem?_eq_getElem (by rw [size_madeCells]; exact hj)
theorem FillB.step {w0 w : World} {g n k : Nat} {f : Nat → UInt8} (h : FillB w0 w g n k f) (hk : k < n) {x : Value} (hx : bval (f k) = x) : FillB w0 (w.setCell ⟨g, k, none⟩ x) g n (k + 1) f := by
  refine ⟨h.below.setCell h.ge _, h.ge, by rw [World.size_setCell]; exact h.lt, fun j hj => ?_, fun j => by rw [World.frozen?_setCell]; exact h.fz j⟩
  by_cases e : j = k
  · subst e
    obtain ⟨v, hv, -⟩ := h.cells j hj
    exact ⟨_, World.cell?_setCell_same _ _ _ hv, fun _ => hx.symm⟩
  · obtain ⟨v, hv, hv'⟩ := h.cells j hj
    refine ⟨v, ?_, fun _ => hv' (by omega)⟩
    exact (World.cell?_setCell_other _ ⟨g, k, none⟩ ⟨g, j, none⟩ _ (fun q => e (congrArg Addr.off q).symm)).trans hv
theorem FillB.string {w0 w : World} {g n cap : Nat} {f : Nat → UInt8} (h : FillB w0 w g n n f) :
    (convert 105 9 (.slice (some ⟨g, 0, none⟩) n cap)).run Tryd.prog w = .ok (.string ⟨((List.range n).map f).toArray⟩) w := by
  have := run_convert_bytes_back (P := Tryd.prog) w 105 9 5 ⟨g, 0, none⟩ cap ((List.range n).map f) Tryd.underlying105 Tryd.underlying5 Tryd.underlying9 (fun j hj => by
    have hadd : (⟨g, 0, none⟩ : Addr).add j = ⟨g, j, none⟩ := by unfold Addr.add; split <;> simp_all
    simp at hj
    obtain ⟨v, hv, hv'⟩ := h.cells j hj
    rw [hadd, hv, hv' hj]
    simp [bval])
  simpa using this

def stB (xs : List Int) (i : Nat) : UInt8 := UInt8.ofNat (48 + (xs.getD i 0).toNat)

set_option maxHeartbeats 1600000 in
theorem statesOf_any (o : Out) (a : Option Addr) (n c : Nat) (w : World) (hR : ArgR w o a n c) (hn4 : n ≤ 4096) (hb : ∀ k, k < o.table.length → 0 ≤ o.table.getD k 0 ∧ o.table.getD k 0 < 4) :
    Calls Tryd.prog 146 #[.slice a n c] w fun e w' => e = .returned (.string ⟨((List.range n).map (stB o.table)).toArray⟩) ∧ Below w.heap.size w w' := by
  have hlen := hR.len
  have HR := hide' hR
  have HB := hide' hb
  have HL := hide' hlen
  have hmk := run_make_row' (P := Tryd.prog) 105 5 (.int .u8 0) 1 Tryd.underlying105 info_u8 rfl .i64 .i64 n (by omega) (by omega)
  have S := hide' (FillB.start w n (stB o.table) (.int .u8 0) 5)
  clear hR hb hlen
  go_enter Tryd.func146, Tryd.ntmps146
  go_wp2
  go_loopw [11] (fun kv wr => ∃ k : Nat, kv = .int .i64 (k : Int) ∧ k ≤ n ∧ FillB w wr w.heap.size n k (stB o.table)) (fun kv _ => n - (intOf kv).toNat)
  case atStart => exact ⟨0, rfl, by omega, S.out⟩
  case round =>
    obtain ⟨k, rfl, hk, fk⟩ := hrel
    have FK := hide' fk
    clear hmk S
    by_cases d : (k : Int) < (n : Int)
    · have hkl : k < o.table.length := by have := HL.out; omega
      obtain ⟨g, off, rfl, hg, hc⟩ := (HR.out.below fk.below).cells k hkl
      obtain ⟨v, hv, -⟩ := fk.cells k (by omega)
      have hf := fk.fz k
      have hx := HB.out k hkl
      have hget : o.table.getD k 0 = o.table[k] := by simp [List.getD, hkl]
      have X := hide' (show bval (stB o.table k) = .int .u8 (48 + o.table[k]) by
        unfold stB
        rw [bval_dig _ (by omega), hget]
        rw [hget] at hx
        congr 1
        omega)
      rw [hget] at hx
      clear fk hget
      go_wp2
      exact ⟨⟨k + 1, by go_num, by omega, FK.out.step (by omega) X.out⟩, by simp [intOf]; omega⟩
    · have K := hide' (show k = n by omega)
      have ff := FK.out
      rw [K.out] at ff
      have hcv := ff.string (cap := n)
      clear fk ff
      go_wp2
      go_ret
      exact ⟨rfl, FK.out.below⟩
end Go.Proofs.YtljdidimoagnhaaDoor

