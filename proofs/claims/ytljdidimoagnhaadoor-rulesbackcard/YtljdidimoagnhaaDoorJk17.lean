/-
  What the last text of this claim leans on, part 17: Qa1, Pa7.
-/
import Derived.Test.YtljdidimoagnhaaDoorJk4
import Derived.Test.YtljdidimoagnhaaDoorJk6
namespace Go.Proofs.YtljdidimoagnhaaDoor
open Go.RowKit
set_option linter.unusedVariables false

def hd2 (s : ByteArray) (i a b : Nat) : (Nat × Nat × Nat) ⊕ (Nat × Nat) := match wordF s [10] i with | .inr k => .inr (k, 2) | .inl k => .inl (a, b, k)
def hd1 (s : ByteArray) (i a : Nat) : (Nat × Nat × Nat) ⊕ (Nat × Nat) := match sideS s [44, 32, 121, 32, 61, 32] i with | .inr e => .inr e | .inl (h, j) => hd2 s j a h
def hd0 (s : ByteArray) (i : Nat) : (Nat × Nat × Nat) ⊕ (Nat × Nat) := match sideS s [120, 32, 61, 32] i with | .inr e => .inr e | .inl (a, j) => hd1 s j a
theorem headS_hd (s : ByteArray) : headS s = hd0 s 0 := rfl
def hdQ (s : ByteArray) (q i a b : Nat) : (Nat × Nat × Nat) ⊕ (Nat × Nat) := if q = 0 then hd0 s i else if q = 1 then hd1 s i a else hd2 s i a b
def wd (q : Nat) : ByteArray := if q = 0 then ⟨#[120, 32, 61, 32]⟩ else if q = 1 then ⟨#[44, 32, 121, 32, 61, 32]⟩ else ⟨#[10]⟩

theorem wd_size (q : Nat) : (wd q).size ≤ 6 := by
  unfold wd
  split
  · decide
  split
  · decide
  · decide
theorem wd_word (q : Nat) : bts (wd q) = if q = 0 then [120, 32, 61, 32] else if q = 1 then [44, 32, 121, 32, 61, 32] else [10] := by
  unfold wd
  split
  · decide
  split
  · decide
  · decide

structure SdW (w wr : World) (a b : Nat) : Prop where
  below : Below w.heap.size w wr
  size : w.heap.size + 2 ≤ wr.heap.size
  words : ∀ q, q < 3 → wr.cell? ⟨w.heap.size, q, none⟩ = some (.string (wd q))
  n0 : wr.cell? ⟨w.heap.size + 1, 0, none⟩ = some (.int .i64 (a : Int))
  n1 : wr.cell? ⟨w.heap.size + 1, 1, none⟩ = some (.int .i64 (b : Int))
  fz : ∀ k, wr.frozen? ⟨w.heap.size + 1, k, none⟩ = false
theorem SdW.drewN {w wr : World} {a b : Nat} (h : SdW w wr a b) (n : Nat) : SdW w (wr.drewN n) a b :=
  ⟨h.below.trans ⟨rfl, rfl, rfl, Nat.le_refl _, fun _ _ => rfl⟩, h.size, h.words, h.n0, h.n1, h.fz⟩
theorem SdW.set0 {w wr : World} {a b : Nat} (h : SdW w wr a b) (x : Nat) : SdW w (wr.setCell ⟨w.heap.size + 1, 0, none⟩ (.int .i64 (x : Int))) x b := by
  refine ⟨h.below.setCell (by simp) _, by rw [World.size_setCell]; exact h.size, fun q hq => ?_, ?_, ?_, fun k => by rw [World.frozen?_setCell]; exact h.fz k⟩
  · exact (World.cell?_setCell_other _ ⟨w.heap.size + 1, 0, none⟩ ⟨w.heap.size, q, none⟩ _ (fun e => by have := congrArg Addr.block e; simp at this)).trans (h.words q hq)
  · exact World.cell?_setCell_same _ _ _ h.n0
  · exact (World.cell?_setCell_other _ ⟨w.heap.size + 1, 0, none⟩ ⟨w.heap.size + 1, 1, none⟩ _ (fun e => by have := congrArg Addr.off e; simp at this)).trans h.n1
theorem SdW.set1 {w wr : World} {a b : Nat} (h : SdW w wr a b) (x : Nat) : SdW w (wr.setCell ⟨w.heap.size + 1, 1, none⟩ (.int .i64 (x : Int))) a x := by
  refine ⟨h.below.setCell (by simp) _, by rw [World.size_setCell]; exact h.size, fun q hq => ?_, ?_, ?_, fun k => by rw [World.frozen?_setCell]; exact h.fz k⟩
  · exact (World.cell?_setCell_other _ ⟨w.heap.size + 1, 1, none⟩ ⟨w.heap.size, q, none⟩ _ (fun e => by have := congrArg Addr.block e; simp at this)).trans (h.words q hq)
  · exact (World.cell?_setCell_other _ ⟨w.heap.size + 1, 1, none⟩ ⟨w.heap.size + 1, 0, none⟩ _ (fun e => by have := congrArg Addr.off e; simp at this)).trans h.n0
  · exact World.cell?_setCell_same _ _ _ h.n1
theorem SdW.start (w : World) (t1 t2 : TypeId) : SdW w ((w.alloc (.cells #[.string ⟨#[120, 32, 61, 32]⟩, .string ⟨#[44, 32, 121, 32, 61, 32]⟩, .string ⟨#[10]⟩] t1)).alloc (.cells #[.int .i64 0, .int .i64 0, .int .i64 0] t2)) 0 0 := by
  refine ⟨((Below.refl _ _).alloc (Nat.le_refl _) _).alloc (by simp) _, by simp, fun q hq => ?_, ?_, ?_, fun k => ?_⟩
  · rw [World.cell?_alloc_past _ _ _ (by simp), World.cell?_alloc_at _ _ _ _ rfl]
    match q, hq with
    | 0, _ => rfl
    | 1, _ => rfl
    | 2, _ => rfl
  · rw [World.cell?_alloc_at _ _ _ _ (by simp)]; rfl
  · rw [World.cell?_alloc_at _ _ _ _ (by simp)]; rfl
  · simp

/-- What is left of a side behind its word. -/
def sideN (s : ByteArray) (j : Nat) : (Nat × Nat) ⊕ (Nat × Nat) := if !numSix s j then .inr (j, 2) else if 100 < (num s j).1 then .inr (j, 1) else .inl ((num s j).1, (num s j).2)
theorem sideS_inl {s : ByteArray} {ws : List Nat} {i j : Nat} (h : wordF s ws i = .inl j) : sideS s ws i = sideN s j := by unfold sideS sideN; rw [h]
theorem sideS_inr {s : ByteArray} {ws : List Nat} {i j : Nat} (h : wordF s ws i = .inr j) : sideS s ws i = .inr (j, 2) := by unfold sideS; rw [h]
theorem hdQ_no {s : ByteArray} {q i a b j : Nat} (h : wordF s (bts (wd q)) i = .inr j) : hdQ s q i a b = .inr (j, 2) := by
  rw [wd_word] at h
  unfold hdQ
  split
  · rename_i e; rw [if_pos e] at h; unfold hd0; rw [sideS_inr h]
  · rename_i e; rw [if_neg e] at h
    split
    · rename_i e; rw [if_pos e] at h; unfold hd1; rw [sideS_inr h]
    · rename_i e; rw [if_neg e] at h; unfold hd2; rw [h]
theorem hdQ_bad {s : ByteArray} {q i a b j k f : Nat} (hq : q < 2) (h : wordF s (bts (wd q)) i = .inl j) (hn : sideN s j = .inr (k, f)) : hdQ s q i a b = .inr (k, f) := by
  rw [wd_word] at h
  unfold hdQ
  split
  · rename_i e; rw [if_pos e] at h; unfold hd0; rw [sideS_inl h, hn]
  · rename_i e; rw [if_neg e, if_pos (by omega)] at h
    rw [if_pos (by omega)]; unfold hd1; rw [sideS_inl h, hn]
theorem hdQ_0 {s : ByteArray} {i a b j k n : Nat} (h : wordF s (bts (wd 0)) i = .inl j) (hn : sideN s j = .inl (n, k)) : hdQ s 0 i a b = hdQ s 1 k n b := by
  rw [wd_word] at h
  unfold hdQ
  rw [if_pos rfl] at h
  simp only [if_true, Nat.one_ne_zero, if_false]
  unfold hd0
  rw [sideS_inl h, hn]
theorem hdQ_1 {s : ByteArray} {i a b j k n : Nat} (h : wordF s (bts (wd 1)) i = .inl j) (hn : sideN s j = .inl (n, k)) : hdQ s 1 i a b = hdQ s 2 k a n := by
  rw [wd_word] at h
  unfold hdQ
  rw [if_neg (by omega), if_pos rfl] at h
  rw [if_neg (by omega), if_pos rfl, if_neg (by omega), if_neg (by omega)]
  unfold hd1
  rw [sideS_inl h, hn]
theorem hdQ_2 {s : ByteArray} {i a b j : Nat} (h : wordF s (bts (wd 2)) i = .inl j) : hdQ s 2 i a b = .inl (a, b, j) := by
  rw [wd_word] at h
  unfold hdQ
  rw [if_neg (by omega), if_neg (by omega)] at h
  rw [if_neg (by omega), if_neg (by omega)]
  unfold hd2
  rw [h]
theorem six_of {s : ByteArray} {j : Nat} {N : Int} (h : NumRef s j N) :
    (N < 0 ∧ numSix s j = false) ∨ (¬ N < 0 ∧ (j : Int) + 6 < ((num s j).2 : Int) ∧ numSix s j = false) ∨ (¬ N < 0 ∧ ¬ (j : Int) + 6 < ((num s j).2 : Int) ∧ numSix s j = true ∧ N = ((num s j).1 : Int)) := by
  have hg := num_ge s j
  by_cases b : (num s j).2 = j ∨ (1 < (num s j).2 - j ∧ bt s j = 48)
  · left
    have := h.bad b
    exact ⟨by omega, numSix_false.2 (by omega)⟩
  · right
    have h0 := h.good b
    by_cases c : (num s j).2 - j ≤ 6
    · right
      have hb := num_bound s j c
      have hok : numOk s j 0 999999 = true := by
        simp [numOk]
        omega
      exact ⟨by omega, by omega, numSix_true.2 (by omega), (h.ok 0 999999 (by omega) hok).1⟩
    · left
      exact ⟨by omega, by omega, numSix_false.2 (by omega)⟩

set_option maxHeartbeats 3200000 in
theorem sides_any (s : ByteArray) (w : World) (hs : s.size ≤ 40000) :
    Calls Tryd.prog 111 #[.string s] w fun e w' => Below w.heap.size w w' ∧ ((∃ a b k, headS s = .inl (a, b, k) ∧ e = .returned (.tuple #[.int .i64 (a : Int), .int .i64 (b : Int), .int .i64 (k : Int), .int .i64 0]) ∧ k ≤ s.size ∧ a ≤ 100 ∧ b ≤ 100) ∨ (∃ k f : Nat, headS s = .inr (k, f) ∧ 1 ≤ f ∧ e = .returned (.tuple #[.int .i64 0, .int .i64 0, .int .i64 (k : Int), .int .i64 (f : Int)]))) := by
  have hsm : s.size ≤ maxLen := by unfold maxLen; omega
  go_enter Tryd.func111, Tryd.ntmps111
  have S0 := hide' (SdW.start w 9 171)
  go_wp2
  go_loopw [8, 9] (fun iv qv wr => ∃ i q a b : Nat, iv = .int .i64 (i : Int) ∧ qv = .int .i64 (q : Int) ∧ q ≤ 2 ∧ i ≤ s.size ∧ a ≤ 100 ∧ b ≤ 100 ∧ SdW w wr a b ∧ hdQ s q i a b = headS s) (fun _ qv _ => 3 - (intOf qv).toNat)
  case atStart => exact ⟨0, 0, 0, 0, rfl, rfl, by omega, by omega, by omega, by omega, S0.out, rfl⟩
  case round =>
    obtain ⟨i, q, a, b, rfl, rfl, hq, hi, la, lb, sd, hH⟩ := hrel
    have SD := hide' sd
    have HH := hide' hH
    have cw := sd.words q (by omega)
    have ht := wd_size q
    obtain ⟨t, htt⟩ : ∃ t, wd q = t := ⟨_, rfl⟩
    have HT := hide' htt
    rw [htt] at cw ht
    have n3 : (q : Int) < 3 := by omega
    clear sd hH htt S0
    go_wp2
    go_loopw [8, 10] (fun jv kv wx => ∃ j k m : Nat, jv = .int .i64 (j : Int) ∧ kv = .int .i64 (k : Int) ∧ k ≤ t.size ∧ j ≤ s.size ∧ wx = wr.drewN m ∧ wordF s ((bts t).drop k) j = wordF s (bts t) i) (fun _ kv _ => t.size - (intOf kv).toNat)
    case atStart => exact ⟨i, 0, 0, rfl, rfl, by omega, hi, rfl, rfl⟩
    case round =>
      obtain ⟨j, k, m, rfl, rfl, hk, hj, rfl, hw⟩ := hrel
      have HW := hide' hw
      clear hw
      by_cases d : k < t.size
      · have n1 : (k : Int) < (t.size : Int) := by omega
        have hbt := bt_lt t k d
        by_cases e : s.size ≤ j
        · have n2 : (s.size : Int) ≤ (j : Int) := by omega
          have hw := HW.out
          rw [bts_drop t k d, wordF, if_neg (fun h => by have := h.1; omega)] at hw
          have RES := hide' (show headS s = .inr (j, 2) by rw [← HH.out]; exact hdQ_no (by rw [HT.out]; exact hw.symm))
          clear hw hbt
          go_wp2
          go_quiet (fail)
          go_wp2
          refine bodyPost_ret (v := .tuple #[.int .i64 0, .int .i64 0, .int .i64 (j : Int), .int .i64 2]) (by simp [results, Tryd.results111, go_sem]) rfl ?_
          exact ⟨((SD.out.drewN _).drewN _).below, Or.inr ⟨j, 2, RES.out, by omega, rfl⟩⟩
        · have n2 : ¬ (s.size : Int) ≤ (j : Int) := by omega
          have hjl : j < s.size := by omega
          have hbs := bt_lt s j hjl
          by_cases f : bt s j = bt t k
          · have n4 : ((s[j].toNat : Int) == (t[k].toNat : Int)) = true := by simp; omega
            have n5 : ((s[j].toNat : Int) != (t[k].toNat : Int)) = false := by simp; omega
            have hw := HW.out
            rw [bts_drop t k d, wordF, if_pos ⟨hjl, f⟩] at hw
            have HW2 := hide' hw
            clear hw hbt hbs f
            go_wp2
            go_quiet (fail)
            go_wp2
            refine ⟨⟨j + 1, k + 1, _, by go_num, by go_num, by omega, by omega, rfl, HW2.out⟩, by simp [intOf]; omega⟩
          · have n4 : ((s[j].toNat : Int) == (t[k].toNat : Int)) = false := by simp; omega
            have n5 : ((s[j].toNat : Int) != (t[k].toNat : Int)) = true := by simp; omega
            have hw := HW.out
            rw [bts_drop t k d, wordF, if_neg (fun h => f h.2)] at hw
            have RES := hide' (show headS s = .inr (j, 2) by rw [← HH.out]; exact hdQ_no (by rw [HT.out]; exact hw.symm))
            clear hw hbt hbs f
            go_wp2
            go_quiet (fail)
            go_wp2
            refine bodyPost_ret (v := .tuple #[.int .i64 0, .int .i64 0, .int .i64 (j : Int), .int .i64 2]) (by simp [results, Tryd.results111, go_sem]) rfl ?_
            exact ⟨((SD.out.drewN _).drewN _).below, Or.inr ⟨j, 2, RES.out, by omega, rfl⟩⟩
      · have n1 : ¬ (k : Int) < (t.size : Int) := by omega
        have hw := HW.out
        rw [show k = t.size by omega, bts_end, wordF] at hw
        have HW2 := hide' (show wordF s (bts (wd q)) i = .inl j by rw [HT.out]; exact hw.symm)
        clear hw
        by_cases q2 : q = 2
        · have n4 : ((q : Int) == 2) = true := by simp; omega
          have RES := hide' (show headS s = .inl (a, b, j) by rw [← HH.out, q2]; exact hdQ_2 (by rw [← q2]; exact HW2.out))
          have d0 := SD.out.n0
          have d1 := SD.out.n1
          clear q2
          go_wp2
          go_quiet (fail)
          go_wp2
          refine bodyPost_ret (v := .tuple #[.int .i64 (a : Int), .int .i64 (b : Int), .int .i64 (j : Int), .int .i64 0]) (by simp [results, Tryd.results111, go_sem]) rfl ?_
          exact ⟨((SD.out.drewN _).drewN _).below, Or.inl ⟨a, b, j, RES.out, rfl, hj, la, lb⟩⟩
        · have n4 : ((q : Int) == 2) = false := by simp; omega
          go_wp2_with fail
          refine (Number_any s j _ _ rfl hsm hj).mono ?_
          rintro e w3 ⟨N, rfl, hN, rfl⟩
          have hcap := hN.hi
          rcases six_of hN with ⟨b1, b2⟩ | ⟨b1, b2, b3⟩ | ⟨b1, b2, b3, b4⟩
          · have RES := hide' (show headS s = .inr (j, 2) by rw [← HH.out]; exact hdQ_bad (by omega) HW2.out (by unfold sideN; rw [b2]; simp))
            clear hN b2
            go_wp2
            refine bodyPost_ret (v := .tuple #[.int .i64 0, .int .i64 0, .int .i64 (j : Int), .int .i64 2]) (by simp [results, Tryd.results111, go_sem]) rfl ?_
            exact ⟨(SD.out.drewN _).below, Or.inr ⟨j, 2, RES.out, by omega, rfl⟩⟩
          · have RES := hide' (show headS s = .inr (j, 2) by rw [← HH.out]; exact hdQ_bad (by omega) HW2.out (by unfold sideN; rw [b3]; simp))
            clear hN b3
            go_wp2
            refine bodyPost_ret (v := .tuple #[.int .i64 0, .int .i64 0, .int .i64 (j : Int), .int .i64 2]) (by simp [results, Tryd.results111, go_sem]) rfl ?_
            exact ⟨(SD.out.drewN _).below, Or.inr ⟨j, 2, RES.out, by omega, rfl⟩⟩
          · obtain ⟨M, hM⟩ : ∃ M, (num s j).1 = M := ⟨_, rfl⟩
            rw [hM] at b4
            subst b4
            have hKs : (num s j).2 ≤ s.size := num_size s j hj
            by_cases g : 100 < M
            · have n5 : (100 : Int) < (M : Int) := by omega
              have RES := hide' (show headS s = .inr (j, 1) by rw [← HH.out]; exact hdQ_bad (by omega) HW2.out (by unfold sideN; rw [b3, if_neg (by simp), hM, if_pos g]))
              clear hN b3 hM
              go_wp2
              refine bodyPost_ret (v := .tuple #[.int .i64 0, .int .i64 0, .int .i64 (j : Int), .int .i64 1]) (by simp [results, Tryd.results111, go_sem]) rfl ?_
              exact ⟨(SD.out.drewN _).below, Or.inr ⟨j, 1, RES.out, by omega, rfl⟩⟩
            · have n5 : ¬ (100 : Int) < (M : Int) := by omega
              have hS : sideN s j = .inl (M, (num s j).2) := by unfold sideN; rw [b3, if_neg (by simp), hM, if_neg g]
              obtain ⟨x, hv⟩ : ∃ x, wr.cell? ⟨w.heap.size + 1, q, none⟩ = some x := by
                rcases (show q = 0 ∨ q = 1 by omega) with h | h
                · rw [h]; exact ⟨_, SD.out.n0⟩
                · rw [h]; exact ⟨_, SD.out.n1⟩
              have hz := SD.out.fz q
              have RES : ∃ a' b', SdW w ((wr.drewN m).setCell ⟨w.heap.size + 1, q, none⟩ (.int .i64 (M : Int))) a' b' ∧ a' ≤ 100 ∧ b' ≤ 100 ∧ hdQ s (q + 1) (num s j).2 a' b' = headS s := by
                rcases (show q = 0 ∨ q = 1 by omega) with h | h
                · subst h; exact ⟨M, b, (SD.out.drewN _).set0 M, by omega, lb, by rw [← HH.out]; exact (hdQ_0 HW2.out hS).symm⟩
                · subst h; exact ⟨a, M, (SD.out.drewN _).set1 M, la, by omega, by rw [← HH.out]; exact (hdQ_1 HW2.out hS).symm⟩
              obtain ⟨a', b', r1, r2, r3, r4⟩ := RES
              have R1 := hide' r1
              have R4 := hide' r4
              have hq2 : q < 2 := by omega
              have hq3 : (q : Int) < 3 := by omega
              clear hN b3 hM hS r1 r4
              go_wp2
              refine ⟨⟨(num s j).2, q + 1, a', b', rfl, by go_num, by omega, hKs, r2, r3, R1.out, R4.out⟩, by simp [intOf]; omega⟩
end Go.Proofs.YtljdidimoagnhaaDoor

namespace Go.Proofs.YtljdidimoagnhaaDoor
open Go.RowKit
set_option linter.unusedVariables false

theorem bts_x : bts ⟨#[120, 32, 61, 32]⟩ = [120, 32, 61, 32] := by decide
theorem bts_y : bts ⟨#[44, 32, 121, 32, 61, 32]⟩ = [44, 32, 121, 32, 61, 32] := by decide
theorem bts_n : bts ⟨#[10]⟩ = [10] := by decide

def HeadPost (b : Nat) (s : ByteArray) (r : Rv) (w : World) (e : Ending) (w' : World) : Prop :=
  (∃ W H k g, headS s = .inl (W, H, k) ∧ e = .returned (.bool true) ∧ RAt b s { r with i := k, wd := (W : Int), hi := (H : Int), cs := .slice (some ⟨g, 0, none⟩) (W * H) (W * H) } w' ∧ w.heap.size ≤ g ∧ Cel w' g (List.replicate (W * H) 0) ∧ Rd b w w' ∧ k ≤ s.size ∧ W ≤ 100 ∧ H ≤ 100) ∨
  (∃ a f : Nat, headS s = .inr (a, f) ∧ e = .returned (.bool false) ∧ RAt b s { r with i := a, fl := f } w' ∧ Rd b w w')

theorem Below.toRd {b : Nat} {w w' : World} (h : Below w.heap.size w w') : Rd b w w' := ⟨h.os, h.tape, h.output, h.size, fun k hk _ => h.block k hk⟩

set_option maxHeartbeats 1600000 in
theorem pheader (b : Nat) (s : ByteArray) (r : Rv) (w : World) (h : RAt b s r w) (hi : r.i = 0) (hs : s.size ≤ 40000) :
    Calls Tryd.prog 104 #[.pointer (some ⟨b, 0, none⟩)] w (HeadPost b s r w) := by
  have H := hide' h
  have HI := hide' hi
  clear h hi
  go_enter Tryd.func104, Tryd.ntmps104
  go_wp2_with fail
  refine (pside b s _ r _ H.out (by rw [HI.out]; omega) hs (by decide) (by decide)).mono ?_
  rw [bts_x]
  rintro e w1 (⟨W, i1, h1, rfl, a1, r1, l1, hW⟩ | ⟨a, f, m, h1, rfl, a1, r1⟩)
  · have A1 := hide' a1
    have R1 := hide' r1
    have H1 := hide' h1
    clear a1 r1 h1
    go_wp2_with fail
    refine (pside b s _ _ _ A1.out l1 hs (by decide) (by decide)).mono ?_
    rw [bts_y]
    rintro e w2 (⟨Hh, i2, h2, rfl, a2, r2, l2, hH⟩ | ⟨a, f, m, h2, rfl, a2, r2⟩)
    · have A2 := hide' a2
      have R2 := hide' r2
      have H2 := hide' h2
      clear a2 r2 h2
      go_wp2_with fail
      refine (pexpect b s _ _ _ A2.out l2 hs (by decide) (by decide)).mono ?_
      rw [bts_n]
      rintro e w3 (⟨k, h3, rfl, a3, r3, l3⟩ | ⟨k, h3, rfl, a3, r3⟩)
      · have A3 := hide' a3
        have R3 := hide' r3
        have H3 := hide' h3
        clear a3 r3 h3
        go_wp2_with fail
        refine (pblank W Hh _ hW hH).mono ?_
        rintro e w4 ⟨g, rfl, hg, C, b4⟩
        have A4 := hide' (A3.out.below b4)
        obtain ⟨c0, c1, c2, c3, c4, c5, c6, c7, c8, c9, f1, f2, f3, f4, f5, f6, f7, f8, f9⟩ := A4.out.ten
        have B4 := hide' b4
        have CC := hide' C
        have hb : b < w3.heap.size := A3.out.lt
        have z1 := R1.out.size
        have z2 := R2.out.size
        have z3 := R3.out.size
        clear b4 C
        go_wp2
        go_ret
        left
        refine ⟨W, Hh, k, g, ?_, rfl, ((A4.out.set_wd (W : Int)).set_hi (Hh : Int)).set_cs _, by omega, ?_, ((((R1.out.trans R2.out).trans R3.out).trans (Below.toRd B4.out)).set _ _ |>.set _ _).set _ _, l3, hW, hH⟩
        · unfold headS
          have e1 : sideS s [120, 32, 61, 32] 0 = .inl (W, i1) := by rw [← HI.out]; exact H1.out
          have e2 : sideS s [44, 32, 121, 32, 61, 32] i1 = .inl (Hh, i2) := H2.out
          have e3 : wordF s [10] i2 = .inl k := H3.out
          rw [e1]; simp only []; rw [e2]; simp only []; rw [e3]
        · exact ((CC.out.rd ((Rd.refl b _).set 3 _) (by omega)).rd ((Rd.refl b _).set 4 _) (by omega)).rd ((Rd.refl b _).set 5 _) (by omega)
      · have A3 := hide' a3
        have R3 := hide' r3
        have H3 := hide' h3
        clear a3 r3 h3
        go_wp2
        go_ret
        right
        refine ⟨k, 2, ?_, rfl, A3.out, (R1.out.trans R2.out).trans R3.out⟩
        unfold headS
        have e1 : sideS s [120, 32, 61, 32] 0 = .inl (W, i1) := by rw [← HI.out]; exact H1.out
        have e2 : sideS s [44, 32, 121, 32, 61, 32] i1 = .inl (Hh, i2) := H2.out
        have e3 : wordF s [10] i2 = .inr k := H3.out
        rw [e1]; simp only []; rw [e2]; simp only []; rw [e3]
    · have A2 := hide' a2
      have R2 := hide' r2
      have H2 := hide' h2
      clear a2 r2 h2
      go_wp2
      go_ret
      right
      refine ⟨a, f, ?_, rfl, A2.out, R1.out.trans R2.out⟩
      unfold headS
      have e1 : sideS s [120, 32, 61, 32] 0 = .inl (W, i1) := by rw [← HI.out]; exact H1.out
      have e2 : sideS s [44, 32, 121, 32, 61, 32] i1 = .inr (a, f) := H2.out
      rw [e1]; simp only []; rw [e2]
  · have A1 := hide' a1
    have R1 := hide' r1
    have H1 := hide' h1
    clear a1 r1 h1
    go_wp2
    go_ret
    right
    refine ⟨a, f, ?_, rfl, A1.out, R1.out⟩
    unfold headS
    have e1 : sideS s [120, 32, 61, 32] 0 = .inr (a, f) := by rw [← HI.out]; exact H1.out
    rw [e1]

def CountPost (b : Nat) (s : ByteArray) (r : Rv) (w : World) (e : Ending) (w' : World) : Prop :=
  (tagBad s r.i = false ∧ e = .returned (.bool true) ∧ RAt b s { r with i := tagK s r.i, bg := (r.i : Int), tm := (tagN s r.i : Int) } w' ∧ Rd b w w' ∧ tagK s r.i ≤ s.size) ∨
  (tagBad s r.i = true ∧ e = .returned (.bool false) ∧ (∃ t, RAt b s { r with i := r.i, fl := 2, bg := (r.i : Int), tm := t } w') ∧ Rd b w w')

set_option maxHeartbeats 1600000 in
theorem pcount (b : Nat) (s : ByteArray) (r : Rv) (w : World) (h : RAt b s r w) (hi : r.i ≤ s.size) (hs : s.size ≤ 40000) :
    Calls Tryd.prog 106 #[.pointer (some ⟨b, 0, none⟩)] w (CountPost b s r w) := by
  have H := hide' h
  obtain ⟨c0, c1, c2, c3, c4, c5, c6, c7, c8, c9, f1, f2, f3, f4, f5, f6, f7, f8, f9⟩ := h.ten
  have A0 := hide' ((h.set_bg (r.i : Int)).set_tm 1)
  clear h
  go_enter Tryd.func106, Tryd.ntmps106
  go_wp2_with fail
  cases hd : inR s r.i 48 57 with
  | false =>
    have D := hide' hd
    refine (pisDigit' b s { r with bg := (r.i : Int), tm := 1 } _ false hd A0.out hi).mono ?_
    rintro e w1 ⟨rfl, n, rfl⟩
    clear hd
    go_wp2
    go_ret
    left
    have hk : tagK s r.i = r.i := by unfold tagK dAt; rw [D.out]; simp
    have hn : tagN s r.i = 1 := by unfold tagN dAt; rw [D.out]; simp
    refine ⟨by unfold tagBad dAt; rw [D.out]; simp, rfl, ?_, (((Rd.refl _ _).set _ _).set _ _).drewN _, by rw [hk]; exact hi⟩
    rw [hk, hn]
    exact A0.out.drewN n
  | true =>
    have D := hide' hd
    refine (pisDigit' b s { r with bg := (r.i : Int), tm := 1 } _ true hd A0.out hi).mono ?_
    rintro e w1 ⟨rfl, n, rfl⟩
    clear hd
    go_wp2_with fail
    refine (pnumber b s _ _ (A0.out.drewN n) hi hs).mono ?_
    rintro e w2 (⟨hn, rfl, a2, r2, hj2⟩ | ⟨hn, rfl, a2, r2⟩)
    · have A2 := hide' a2
      have R2 := hide' r2
      have HN := hide' (show numSix s r.i = true from hn)
      have HJ := hide' (show (num s r.i).2 ≤ s.size from hj2)
      have g8 := a2.ten.c8
      have g9 := a2.ten.c9
      have gf9 := a2.ten.f9
      dsimp only at g8 g9
      clear a2 r2 hn hj2 c0 c1 c2 c3 c4 c5 c6 c7 c8 c9 f1 f2 f3 f4 f5 f6 f7 f8 f9
      by_cases q : (num s r.i).1 < 2
      · have n1 : ((num s r.i).1 : Int) < 2 := by omega
        go_wp2_with fail
        refine (pfail b s _ r.i _ _ _ rfl A2.out).mono ?_
        rintro e w3 ⟨rfl, a3, r3⟩
        have A3 := hide' a3
        have R3 := hide' r3
        have k9 := a3.ten.c9
        have kf9 := a3.ten.f9
        clear a3 r3
        go_wp2
        go_ret
        right
        refine ⟨by unfold tagBad dAt; rw [D.out]; simp; omega, rfl, ⟨_, A3.out.set_tm _⟩, ((((((Rd.refl _ _).set _ _).set _ _).drewN n).trans R2.out).trans R3.out).set _ _⟩
      · have n1 : ¬ ((num s r.i).1 : Int) < 2 := by omega
        go_wp2
        go_ret
        left
        have hk : tagK s r.i = (num s r.i).2 := by unfold tagK dAt; rw [D.out]; simp
        have hn : tagN s r.i = (num s r.i).1 := by unfold tagN dAt; rw [D.out]; simp
        refine ⟨by unfold tagBad dAt; rw [D.out, HN.out]; simp; omega, rfl, ?_, (((((Rd.refl _ _).set _ _).set _ _).drewN n).trans R2.out).set _ _, by rw [hk]; exact HJ.out⟩
        rw [hk, hn]
        exact A2.out.set_tm _
    · have A2 := hide' a2
      have R2 := hide' r2
      have HN := hide' (show numSix s r.i = false from hn)
      have g9 := a2.ten.c9
      have gf9 := a2.ten.f9
      dsimp only at g9
      clear a2 r2 hn c0 c1 c2 c3 c4 c5 c6 c7 c8 c9 f1 f2 f3 f4 f5 f6 f7 f8 f9
      go_wp2
      go_ret
      right
      refine ⟨by unfold tagBad dAt; rw [D.out, HN.out]; simp, rfl, ⟨0, A2.out.set_tm 0⟩, (((((Rd.refl _ _).set _ _).set _ _).drewN n).trans R2.out).set _ _⟩
end Go.Proofs.YtljdidimoagnhaaDoor

