/-
  What the last text of this claim leans on, part 39: Bb1, Bc1.
-/
import Derived.Test.YtjngjnkecnnmeaaDoorJb10
import Derived.Test.YtjngjnkecnnmeaaDoorJb30
import Derived.Test.YtjngjnkecnnmeaaDoorJb34
namespace Go.Proofs.YtjngjnkecnnmeaaDoor
set_option linter.unusedVariables false

/-- A text of these bytes. -/
def txt (l : List UInt8) : ByteArray := ⟨l.toArray⟩
theorem txt_size (l : List UInt8) : (txt l).size = l.length := by simp [txt, ByteArray.size]
theorem bt_mid {s : ByteArray} {pre post : List UInt8} {c : UInt8} (h : s = txt (pre ++ c :: post)) : bt s pre.length = c.toNat ∧ pre.length < s.size := by
  subst h
  have hl : pre.length < (txt (pre ++ c :: post)).size := by rw [txt_size]; simp
  refine ⟨?_, hl⟩
  unfold bt
  rw [dif_pos hl]
  show (ByteArray.get _ _ _).toNat = _
  simp [txt, ByteArray.get]
theorem bt_at {s : ByteArray} {pre post : List UInt8} {c : UInt8} {i : Nat} (h : s = txt (pre ++ c :: post)) (hi : i = pre.length) : bt s i = c.toNat ∧ i < s.size := by
  subst hi; exact bt_mid h
def bits (l : List Int) : Prop := ∀ x ∈ l, x = 0 ∨ x = 1
theorem draw_cells (s : ByteArray) (W : Nat) (high : Nat) (r : Nat) (hh : high < 100) : ∀ (cs : List Int) (pre post : List UInt8) (n wide f : Nat) (acc : List Int), bits cs → s = txt (pre ++ (cs.flatMap cellBytes ++ 10 :: post)) → n + cs.length ≤ 100 → (0 < high → n + cs.length = wide) →
    drawF s (cs.length + 1 + f) pre.length r n wide high acc = drawF s f (pre.length + (cs.flatMap cellBytes).length + 1) (pre.length + (cs.flatMap cellBytes).length + 1) 0 (n + cs.length) (high + 1) (acc ++ cs) := by
  intro cs
  induction cs with
  | nil =>
    intro pre post n wide f acc hb hs hn hw
    obtain ⟨h1, h2⟩ := bt_mid (pre := pre) (post := post) (c := 10) (by simpa using hs)
    have h1' : bt s pre.length = 10 := h1
    have hd : isDot s pre.length = false := by simp [isDot, h1']
    have hbl : isBall s pre.length = false := by simp [isBall, h1']
    rw [show ([] : List Int).length + 1 + f = f + 1 by simp; omega, drawF, if_neg (by omega), hd, hbl]
    simp only [Bool.false_eq_true, if_false, List.length_nil, Nat.add_zero, List.append_nil, List.flatMap_nil]
    rw [if_neg (by omega), if_neg (by omega), if_neg (by simp at hw; intro h; exact h.2 (hw h.1))]
  | cons c cs ih =>
    intro pre post n wide f acc hb hs hn hw
    have hc := hb c (by simp)
    have hb' : bits cs := fun x hx => hb x (by simp [hx])
    simp only [List.length_cons] at hn hw
    rw [show (c :: cs).length + 1 + f = (cs.length + 1 + f) + 1 by simp; omega, drawF]
    rcases hc with rfl | rfl
    · have hs' : s = txt (pre ++ 194 :: (183 :: (cs.flatMap cellBytes ++ 10 :: post))) := by rw [hs]; simp [cellBytes]
      have hs2 : s = txt ((pre ++ [194]) ++ 183 :: (cs.flatMap cellBytes ++ 10 :: post)) := by rw [hs']; simp
      obtain ⟨a1, a2⟩ := bt_mid hs'
      obtain ⟨b1, b2⟩ := bt_at (i := pre.length + 1) hs2 (by simp)
      have hd : isDot s pre.length = true := isDot_true.2 ⟨a1, b2, b1⟩
      rw [if_neg (by omega), hd]
      simp only [if_true]
      rw [if_neg (by omega), if_neg (by omega)]
      have := ih (pre ++ [194, 183]) post (n + 1) wide f (acc ++ [0]) hb' (by rw [hs']; simp) (by omega) (fun h => by have := hw h; omega)
      simp only [List.length_append, List.length_cons, List.length_nil] at this
      simp only [List.flatMap_cons, List.length_append, show cellBytes 0 = [194, 183] from rfl, List.length_cons, List.length_nil]
      rw [this]
      simp only [List.append_assoc, List.singleton_append]
      rw [show n + 1 + cs.length = n + (cs.length + 1) by omega, show pre.length + (0 + 1 + 1) + (cs.flatMap cellBytes).length + 1 = pre.length + (0 + 1 + 1 + (cs.flatMap cellBytes).length) + 1 by omega]
    · have hs' : s = txt (pre ++ 226 :: (151 :: (143 :: (cs.flatMap cellBytes ++ 10 :: post)))) := by rw [hs]; simp [cellBytes]
      have hs2 : s = txt ((pre ++ [226]) ++ 151 :: (143 :: (cs.flatMap cellBytes ++ 10 :: post))) := by rw [hs']; simp
      have hs3 : s = txt ((pre ++ [226, 151]) ++ 143 :: (cs.flatMap cellBytes ++ 10 :: post)) := by rw [hs']; simp
      obtain ⟨a1, a2⟩ := bt_mid hs'
      obtain ⟨b1, b2⟩ := bt_at (i := pre.length + 1) hs2 (by simp)
      obtain ⟨c1, c2⟩ := bt_at (i := pre.length + 2) hs3 (by simp)
      have hd : isDot s pre.length = false := by simp [isDot, show bt s pre.length = 226 from a1]
      have hbl : isBall s pre.length = true := isBall_true.2 ⟨a1, c2, b1, c1⟩
      rw [if_neg (by omega), hd, hbl]
      simp only [if_true, Bool.false_eq_true, if_false]
      rw [if_neg (by omega), if_neg (by omega)]
      have := ih (pre ++ [226, 151, 143]) post (n + 1) wide f (acc ++ [1]) hb' (by rw [hs']; simp) (by omega) (fun h => by have := hw h; omega)
      simp only [List.length_append, List.length_cons, List.length_nil] at this
      simp only [List.flatMap_cons, List.length_append, show cellBytes 1 = [226, 151, 143] from rfl, List.length_cons, List.length_nil]
      rw [this]
      simp only [List.append_assoc, List.singleton_append]
      rw [show n + 1 + cs.length = n + (cs.length + 1) by omega, show pre.length + (0 + 1 + 1 + 1) + (cs.flatMap cellBytes).length + 1 = pre.length + (0 + 1 + 1 + 1 + (cs.flatMap cellBytes).length) + 1 by omega]
theorem cellBytes_ge (cs : List Int) : cs.length ≤ (cs.flatMap cellBytes).length := by
  induction cs with
  | nil => simp
  | cons c cs ih =>
    simp only [List.flatMap_cons, List.length_append, List.length_cons]
    have : 1 ≤ (cellBytes c).length := by unfold cellBytes; split <;> simp
    omega
def rowB (cs : List Int) : List UInt8 := cs.flatMap cellBytes ++ [10]
theorem draw_rows (s : ByteArray) (W : Nat) (hW : W ≤ 100) : ∀ (rows : List (List Int)) (pre : List UInt8) (wide high f : Nat) (acc : List Int), (∀ r ∈ rows, r.length = W ∧ bits r) → s = txt (pre ++ rows.flatMap rowB) → high + rows.length ≤ 100 → (0 < high → wide = W) → (rows.flatMap rowB).length + 1 ≤ f →
    drawF s f pre.length pre.length 0 wide high acc = .inl (if rows = [] then wide else W, high + rows.length, acc ++ rows.flatten) := by
  intro rows
  induction rows with
  | nil =>
    intro pre wide high f acc hr hs hh hw hf
    have hz : s.size = pre.length := by rw [hs, txt_size]; simp
    obtain ⟨g, rfl⟩ : ∃ g, f = g + 1 := ⟨f - 1, by simp at hf; omega⟩
    rw [drawF, if_pos (by omega), if_neg (by omega)]
    simp
  | cons cs rows ih =>
    intro pre wide high f acc hr hs hh hw hf
    obtain ⟨hl, hb⟩ := hr cs (by simp)
    simp only [List.length_cons] at hh
    have hs' : s = txt (pre ++ (cs.flatMap cellBytes ++ 10 :: rows.flatMap rowB)) := by rw [hs]; simp [rowB]
    have hge := cellBytes_ge cs
    simp only [List.flatMap_cons, List.length_append, rowB, List.length_singleton] at hf
    obtain ⟨g, rfl⟩ : ∃ g, f = cs.length + 1 + g := ⟨f - (cs.length + 1), by omega⟩
    rw [draw_cells s W high pre.length (by omega) cs pre _ 0 wide g acc hb hs' (by omega) (fun h => by rw [hw h, hl]; omega)]
    have := ih (pre ++ rowB cs) W (high + 1) g (acc ++ cs) (fun r h => hr r (by simp [h])) (by rw [hs']; simp [rowB]) (by omega) (fun _ => rfl) (by simp only [show rowB = fun cs => cs.flatMap cellBytes ++ [10] from rfl] at *; omega)
    simp only [List.length_append, rowB, List.length_singleton] at this
    rw [hl, Nat.zero_add, show pre.length + (cs.flatMap cellBytes).length + 1 = pre.length + ((cs.flatMap cellBytes).length + 1) by omega, this]
    simp only [if_neg (List.cons_ne_nil cs rows), List.flatten_cons, List.append_assoc, List.length_cons]
    rw [show high + 1 + rows.length = high + (rows.length + 1) by omega]
    split <;> rfl
theorem rows_all (W H : Nat) (xs : List Int) (hx : xs.length = W * H) : ((List.range H).map fun j => (List.range W).map fun i => xs.getD (j * W + i) 0).flatten = xs := by
  have key : ∀ h, h ≤ H → ((List.range h).map fun j => (List.range W).map fun i => xs.getD (j * W + i) 0).flatten = xs.take (W * h) := by
    intro h
    induction h with
    | zero => intro _; simp
    | succ h ih =>
      intro hh
      rw [List.range_succ, List.map_append, List.flatten_append, ih (by omega)]
      have hle : W * h + W ≤ xs.length := by
        have := Nat.mul_le_mul_left W hh
        rw [Nat.mul_succ] at this
        omega
      rw [Nat.mul_succ]
      apply List.ext_getElem?
      intro i
      simp only [List.map_cons, List.map_nil, List.flatten_cons, List.flatten_nil, List.append_nil]
      rw [List.getElem?_append]
      simp only [List.length_take]
      rw [Nat.min_eq_left (by omega)]
      split
      · rename_i hi
        rw [List.getElem?_take, if_pos hi, List.getElem?_take, if_pos (by omega)]
      · rename_i hi
        rw [List.getElem?_take]
        by_cases hj : i < W * h + W
        · rw [if_pos hj]
          rw [List.getElem?_map, List.getElem?_range (by omega)]
          simp only [Option.map_some]
          rw [Nat.mul_comm h W, show W * h + (i - W * h) = i by omega]
          rw [List.getD, List.getElem?_eq_getElem (show i < xs.length by omega)]
          rfl
        · rw [if_neg hj, List.getElem?_eq_none]
          simp; omega
  rw [key H (Nat.le_refl _), ← hx, List.take_length]
theorem draw_back (W H : Nat) (xs : List Int) (hW : W ≤ 100) (hH : H ≤ 100) (hx : xs.length = W * H) (hb : bits xs) : drawS (txt (drawRows W xs H)) = .inl (if H = 0 then 0 else W, H, xs) := by
  have hl := drawRows_le W xs hW H
  have e : drawRows W xs H = ((List.range H).map fun j => (List.range W).map fun i => xs.getD (j * W + i) 0).flatMap rowB := by
    simp [drawRows, drawRow, rowB, List.flatMap_map]
  have hbt : ∀ i, xs.getD i 0 = 0 ∨ xs.getD i 0 = 1 := by
    intro i
    rw [List.getD]
    by_cases h : i < xs.length
    · rw [List.getElem?_eq_getElem h]; exact hb _ (List.getElem_mem h)
    · rw [List.getElem?_eq_none (by omega)]; exact Or.inl rfl
  unfold drawS
  rw [txt_size, if_neg (by omega), e]
  have := draw_rows (txt (drawRows W xs H)) W hW ((List.range H).map fun j => (List.range W).map fun i => xs.getD (j * W + i) 0) [] 0 0 ((drawRows W xs H).length + 1) [] (by
    intro r hr
    simp only [List.mem_map, List.mem_range] at hr
    obtain ⟨j, hj, rfl⟩ := hr
    refine ⟨by simp, ?_⟩
    intro x hx
    simp only [List.mem_map, List.mem_range] at hx
    obtain ⟨i, -, rfl⟩ := hx
    exact hbt _) (by rw [e]; rfl) (by simp; omega) (by omega) (by rw [e]; omega)
  rw [← e]
  refine this.trans ?_
  simp only [List.length_map, List.length_range, Nat.zero_add, List.nil_append, rows_all W H xs hx, List.map_eq_nil_iff, List.range_eq_nil]
end Go.Proofs.YtjngjnkecnnmeaaDoor

namespace Go.Proofs.YtjngjnkecnnmeaaDoor
set_option linter.unusedVariables false

/-! A number's digits read back. -/
theorem dec_last (n : Nat) (h : ¬ n < 10) : Lib.decDigits n = Lib.decDigits (n / 10) ++ [UInt8.ofNat (48 + n % 10)] := by rw [Lib.decDigits, dif_neg h]
theorem dec_small (n : Nat) (h : n < 10) : Lib.decDigits n = [UInt8.ofNat (48 + n)] := by rw [Lib.decDigits, dif_pos h]
theorem dig_nat (d : Nat) (h : d < 10) : (UInt8.ofNat (48 + d)).toNat = 48 + d := by
  simp; omega
theorem dec_pos (n : Nat) : 0 < (Lib.decDigits n).length := by
  by_cases h : n < 10
  · rw [dec_small n h]; simp
  · rw [dec_last n h]; simp
theorem dec_first : ∀ n, 0 < n → ∃ d rest, Lib.decDigits n = UInt8.ofNat (48 + d) :: rest ∧ 0 < d ∧ d < 10 := by
  intro n
  induction n using Nat.strongRecOn with
  | ind n ih =>
    intro hn
    by_cases h : n < 10
    · exact ⟨n, [], dec_small n h, hn, h⟩
    · obtain ⟨d, rest, e, h1, h2⟩ := ih (n / 10) (by omega) (by omega)
      exact ⟨d, rest ++ [UInt8.ofNat (48 + n % 10)], by rw [dec_last n h, e]; rfl, h1, h2⟩
theorem dec_lt3 (n : Nat) (h : n ≤ 100) : (Lib.decDigits n).length ≤ 3 := by
  by_cases h1 : n < 10
  · rw [dec_small n h1]; simp
  · rw [dec_last n h1]
    by_cases h2 : n / 10 < 10
    · rw [dec_small _ h2]; simp
    · rw [dec_last _ h2, dec_small _ (by omega)]; simp
theorem numF_fuel (s : ByteArray) : ∀ f i v, s.size - i ≤ f → numF s f i v = numF s (s.size - i) i v := by
  intro f
  induction f with
  | zero => intro i v h; rw [show s.size - i = 0 by omega]
  | succ f ih =>
    intro i v h
    by_cases hi : inR s i 48 57 = true
    · rw [numF_step hi]
      rw [numF, if_pos hi, ih _ _ (by omega)]
    · have hi' : inR s i 48 57 = false := by simpa using hi
      rw [numF_stop hi', numF, if_neg hi]
theorem numF_dec (s : ByteArray) : ∀ (ds : List Nat) (pre post : List UInt8) (v : Nat), (∀ d ∈ ds, d < 10) → s = txt (pre ++ (ds.map (fun d => UInt8.ofNat (48 + d)) ++ post)) →
    numF s (s.size - pre.length) pre.length v = numF s (s.size - (pre.length + ds.length)) (pre.length + ds.length) (ds.foldl (fun a d => a * 10 + d) v) := by
  intro ds
  induction ds with
  | nil => intro pre post v _ hs; simp
  | cons d ds ih =>
    intro pre post v hd hs
    have hd0 := hd d (by simp)
    have hs' : s = txt (pre ++ UInt8.ofNat (48 + d) :: (ds.map (fun d => UInt8.ofNat (48 + d)) ++ post)) := by rw [hs]; simp
    obtain ⟨a1, a2⟩ := bt_mid hs'
    rw [dig_nat d hd0] at a1
    rw [numF_step (inR_true.2 ⟨a2, by omega, by omega⟩), a1]
    have := ih (pre ++ [UInt8.ofNat (48 + d)]) post (v * 10 + d) (fun x hx => hd x (by simp [hx])) (by rw [hs']; simp)
    simp only [List.length_append, List.length_singleton] at this
    rw [show 48 + d - 48 = d by omega, this]
    simp only [List.length_cons, List.foldl_cons]
    rw [show pre.length + 1 + ds.length = pre.length + (ds.length + 1) by omega]
theorem dec_val : ∀ n, ∃ ds : List Nat, Lib.decDigits n = ds.map (fun d => UInt8.ofNat (48 + d)) ∧ (∀ d ∈ ds, d < 10) ∧ ds.foldl (fun a d => a * 10 + d) 0 = n := by
  intro n
  induction n using Nat.strongRecOn with
  | ind n ih =>
    by_cases h : n < 10
    · exact ⟨[n], by rw [dec_small n h]; rfl, by simpa using h, by simp⟩
    · obtain ⟨ds, e, h1, h2⟩ := ih (n / 10) (by omega)
      refine ⟨ds ++ [n % 10], by rw [dec_last n h, e, List.map_append]; rfl, ?_, ?_⟩
      · intro d hd
        rcases List.mem_append.1 hd with q | q
        · exact h1 d q
        · simp at q; omega
      · rw [List.foldl_append, h2]
        simp only [List.foldl_cons, List.foldl_nil]
        omega
theorem num_back (s : ByteArray) (n : Nat) (pre post : List UInt8) (c : UInt8) (hs : s = txt (pre ++ (Lib.decDigits n ++ c :: post))) (hc : c.toNat < 48 ∨ 57 < c.toNat) : num s pre.length = (n, pre.length + (Lib.decDigits n).length) := by
  obtain ⟨ds, e, h1, h2⟩ := dec_val n
  unfold num
  rw [numF_dec s ds pre (c :: post) 0 h1 (by rw [hs, e]), h2]
  have hs' : s = txt ((pre ++ Lib.decDigits n) ++ c :: post) := by rw [hs]; simp
  obtain ⟨a1, a2⟩ := bt_at (i := pre.length + ds.length) hs' (by rw [e]; simp)
  rw [numF_stop (inR_false.2 (by omega)), e]
  simp
theorem numSix_back (s : ByteArray) (n : Nat) (hn : n ≤ 100) (pre post : List UInt8) (c : UInt8) (hs : s = txt (pre ++ (Lib.decDigits n ++ c :: post))) (hc : c.toNat < 48 ∨ 57 < c.toNat) : numSix s pre.length = true := by
  have h3 := dec_lt3 n hn
  have h0 := dec_pos n
  unfold numSix
  rw [num_back s n pre post c hs hc]
  dsimp only
  rw [decide_eq_true (by omega), decide_eq_true (show pre.length + (Lib.decDigits n).length - pre.length ≤ 6 by omega)]
  simp only [Bool.true_and, Bool.and_true]
  by_cases h1 : n < 10
  · rw [decide_eq_false (show ¬ 1 < pre.length + (Lib.decDigits n).length - pre.length by rw [dec_small n h1]; simp)]
    rfl
  · obtain ⟨d, rest, e, d1, d2⟩ := dec_first n (by omega)
    have hs' : s = txt (pre ++ UInt8.ofNat (48 + d) :: (rest ++ c :: post)) := by rw [hs, e]; simp
    obtain ⟨a1, a2⟩ := bt_mid hs'
    rw [dig_nat d d2] at a1
    rw [decide_eq_false (show ¬ bt s pre.length = 48 by omega)]
    simp
theorem word_back (s : ByteArray) : ∀ (ws : List UInt8) (pre post : List UInt8), s = txt (pre ++ (ws ++ post)) → wordF s (ws.map UInt8.toNat) pre.length = .inl (pre.length + ws.length) := by
  intro ws
  induction ws with
  | nil => intro pre post hs; simp [wordF]
  | cons c ws ih =>
    intro pre post hs
    have hs' : s = txt (pre ++ c :: (ws ++ post)) := by rw [hs]; simp
    obtain ⟨a1, a2⟩ := bt_mid hs'
    rw [List.map_cons, wordF, if_pos ⟨a2, a1⟩]
    have := ih (pre ++ [c]) post (by rw [hs']; simp)
    simp only [List.length_append, List.length_singleton] at this
    rw [this, List.length_cons, show pre.length + 1 + ws.length = pre.length + (ws.length + 1) by omega]
theorem side_back (s : ByteArray) (ws : List UInt8) (n : Nat) (hn : n ≤ 100) (pre post : List UInt8) (c : UInt8) (hs : s = txt (pre ++ (ws ++ (Lib.decDigits n ++ c :: post)))) (hc : c.toNat < 48 ∨ 57 < c.toNat) :
    sideS s (ws.map UInt8.toNat) pre.length = .inl (n, pre.length + ws.length + (Lib.decDigits n).length) := by
  unfold sideS
  rw [word_back s ws pre _ hs]
  dsimp only
  have hs' : s = txt ((pre ++ ws) ++ (Lib.decDigits n ++ c :: post)) := by rw [hs]; simp
  have h1 := numSix_back s n hn _ _ c hs' hc
  have h2 := num_back s n _ _ c hs' hc
  rw [List.length_append] at h1 h2
  rw [h1, h2]
  simp only [Bool.not_true, Bool.false_eq_true, if_false]
  rw [if_neg (by omega)]
def headB (W H : Nat) : List UInt8 := [120, 32, 61, 32] ++ Lib.decDigits W ++ [44, 32, 121, 32, 61, 32] ++ Lib.decDigits H ++ [10]
theorem head_back (s : ByteArray) (W H : Nat) (hW : W ≤ 100) (hH : H ≤ 100) (post : List UInt8) (hs : s = txt (headB W H ++ post)) : headS s = .inl (W, H, (headB W H).length) := by
  unfold headS
  have e1 := side_back s [120, 32, 61, 32] W hW [] ([32, 121, 32, 61, 32] ++ Lib.decDigits H ++ [10] ++ post) 44 (by rw [hs, headB]; simp) (Or.inl (by decide))
  have e2 := side_back s [44, 32, 121, 32, 61, 32] H hH ([120, 32, 61, 32] ++ Lib.decDigits W) post 10 (by rw [hs, headB]; simp) (Or.inl (by decide))
  have e3 := word_back s [10] ([120, 32, 61, 32] ++ Lib.decDigits W ++ [44, 32, 121, 32, 61, 32] ++ Lib.decDigits H) post (by rw [hs, headB]; simp)
  rw [show ([120, 32, 61, 32] : List Nat) = ([120, 32, 61, 32] : List UInt8).map UInt8.toNat from rfl, show (0 : Nat) = ([] : List UInt8).length from rfl, e1]
  dsimp only
  rw [show ([] : List UInt8).length + ([120, 32, 61, 32] : List UInt8).length + (Lib.decDigits W).length = ([120, 32, 61, 32] ++ Lib.decDigits W).length by simp; omega]
  rw [show ([44, 32, 121, 32, 61, 32] : List Nat) = ([44, 32, 121, 32, 61, 32] : List UInt8).map UInt8.toNat from rfl, e2]
  dsimp only
  rw [show (([120, 32, 61, 32] : List UInt8) ++ Lib.decDigits W).length + ([44, 32, 121, 32, 61, 32] : List UInt8).length + (Lib.decDigits H).length = (([120, 32, 61, 32] : List UInt8) ++ Lib.decDigits W ++ [44, 32, 121, 32, 61, 32] ++ Lib.decDigits H).length by simp; omega]
  rw [show ([10] : List Nat) = ([10] : List UInt8).map UInt8.toNat from rfl, e3]
  simp [headB]
  omega
end Go.Proofs.YtjngjnkecnnmeaaDoor

