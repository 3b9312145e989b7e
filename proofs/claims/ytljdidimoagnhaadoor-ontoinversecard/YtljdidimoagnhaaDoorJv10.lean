/-
  What the last text of this claim leans on, part 10: Rk4, Pr1.
-/
import Derived.Test.YtljdidimoagnhaaDoorJv9
import Derived.Test.YtljdidimoagnhaaDoorJv4
import Derived.Deep.RegionWith
namespace Go.Proofs.YtljdidimoagnhaaDoor
open Go.RowKit
set_option linter.unusedVariables false

set_option maxHeartbeats 800000 in
theorem ant_no1 (b : Nat) (s : ByteArray) (w : World) (h : At b s 1 w) (hs : s.size ≤ maxLen) (h1 : 1 ≤ s.size) (hA : inR s 1 32 32 = false) :
    Calls Tryd.prog 189 #[.pointer (some ⟨b, 0, none⟩)] w fun e w' => Reads (.inr 1) b s w e w' := by
  have H0 := hide h
  clear h
  go_enter Tryd.func189, Tryd.ntmps189
  go_wp2_with fail
  refine (expect_no b s 1 32 _ (H0.out.alloc _) h1 hA).mono ?_
  rintro e w1 ⟨rfl, a1, r1⟩
  go_wp2
  exact ⟨rfl, Reads.bad a1 r1.un⟩

theorem isTurn_any (c : Int) (w : World) :
    Calls Tryd.prog 195 #[.int .u8 c] w fun e w' => e = .returned (.bool (c == 76 || c == 82)) ∧ w' = w := by
  cases h1 : (c == 76)
  · cases h2 : (c == 82)
    · go_enter Tryd.func195, Tryd.ntmps195
      go_wp2
      go_ret
      exact ⟨rfl, rfl⟩
    · go_enter Tryd.func195, Tryd.ntmps195
      go_wp2
      go_ret
      exact ⟨rfl, rfl⟩
  · go_enter Tryd.func195, Tryd.ntmps195
    go_wp2
    go_ret
    exact ⟨rfl, rfl⟩

theorem isTurn_yes (c : Int) (w : World) (h : c = 76 ∨ c = 82) :
    Calls Tryd.prog 195 #[.int .u8 c] w fun e w' => e = .returned (.bool true) ∧ w' = w := by
  refine (isTurn_any c w).mono fun e w' ⟨he, hw⟩ => ⟨?_, hw⟩
  rw [he, show (c == 76 || c == 82) = true by simp; omega]
theorem isTurn_no (c : Int) (w : World) (h : ¬ (c = 76 ∨ c = 82)) :
    Calls Tryd.prog 195 #[.int .u8 c] w fun e w' => e = .returned (.bool false) ∧ w' = w := by
  refine (isTurn_any c w).mono fun e w' ⟨he, hw⟩ => ⟨?_, hw⟩
  rw [he, show (c == 76 || c == 82) = false by simp; omega]

theorem turnF_step {s : ByteArray} {i : Nat} (h2 : i < 28) (hi : i < s.size) (h : bt s i = 76 ∨ bt s i = 82) : turnF s (28 - i) i = turnF s (28 - (i + 1)) (i + 1) := by
  rw [show 28 - i = (28 - (i + 1)) + 1 by omega]
  simp only [turnF]
  rw [if_pos ⟨hi, h⟩]
theorem turnF_stop {s : ByteArray} {i : Nat} (h : ¬ (i < 28 ∧ i < s.size ∧ (bt s i = 76 ∨ bt s i = 82))) : turnF s (28 - i) i = i := by
  by_cases h2 : i < 28
  · rw [show 28 - i = (28 - (i + 1)) + 1 by omega]
    simp only [turnF]
    rw [if_neg (by omega)]
  · rw [show 28 - i = 0 by omega]; rfl

theorem Rd.of_below {b : Nat} {w w' : World} (h : Below w.heap.size w w') : Rd b w w' := ⟨h.os, h.tape, h.output, h.size, fun k hk _ => h.block k hk⟩
theorem At.below {b : Nat} {s : ByteArray} {i : Nat} {w w' : World} (h : At b s i w) (hb : Below w.heap.size w w') : At b s i w' := by
  have e := hb.block b h.lt
  exact ⟨(World.cell?_of_block (w := w) (a := ⟨b, 0, none⟩) e).trans h.txt, (World.cell?_of_block (w := w) (a := ⟨b, 1, none⟩) e).trans h.pos,
    (World.frozen?_of_block (w := w) (a := ⟨b, 0, none⟩) e).trans h.fz0, (World.frozen?_of_block (w := w) (a := ⟨b, 1, none⟩) e).trans h.fz1⟩
theorem At.drew {b : Nat} {s : ByteArray} {i : Nat} {w : World} (h : At b s i w) : At b s i w.drew := ⟨h.txt, h.pos, h.fz0, h.fz1⟩
theorem extract_size (s : ByteArray) (a b : Nat) (h : b ≤ s.size) : (s.extract a b).size ≤ b - a := by simp [ByteArray.size_extract]; omega

set_option maxHeartbeats 1600000 in
theorem ant_yes (b : Nat) (s : ByteArray) (w : World) (h : At b s 1 w) (hs : s.size ≤ maxLen) (hA : inR s 1 32 32 = true) :
    Calls Tryd.prog 189 #[.pointer (some ⟨b, 0, none⟩)] w fun e w' => Reads (antS s) b s w e w' := by
  have hT : antS s = if turnF s 26 2 = 2 then .inr 2 else .inl (⟨3, 0, 0, 0, 0, [], s.extract 2 (turnF s 26 2)⟩, turnF s 26 2) := by
    unfold antS; simp [hA]
  have HT := hide hT
  clear hT
  have H0 := hide h
  have hlt := h.lt
  clear h
  have b0 := (inR_true.1 hA).1
  obtain ⟨J, hJ⟩ : ∃ J, J = turnF s 26 2 := ⟨_, rfl⟩
  have HJ := hide hJ
  have HS := hide hs
  clear hJ
  unfold maxLen at hs
  go_enter Tryd.func189, Tryd.ntmps189
  go_wp2_with fail
  refine (expect_yes b s 1 32 _ (H0.out.alloc _) HS.out hA).mono ?_
  rintro e w1 ⟨rfl, a1, r1⟩
  have a2 : At b s 2 w1 := a1
  have A1 := hide a2
  have R1 := hide (show Rd b (w.alloc (.cells zeroCells 24)) w1 from r1)
  have p1 : w1.cell? ⟨b, 1, none⟩ = some (.int .i64 2) := a2.pos
  clear a1 a2 r1
  go_wp2
  go_loopw [10] (fun _ wr => ∃ i : Nat, 2 ≤ i ∧ i ≤ 28 ∧ i ≤ s.size ∧ At b s i wr ∧ Rd b (w.alloc (.cells zeroCells 24)) wr ∧ turnF s (28 - i) i = J) (fun _ wr => s.size - posOf b wr)
  case atStart => exact ⟨2, by omega, by omega, by omega, A1.out, R1.out, HJ.out.symm⟩
  case round =>
    obtain ⟨i, hi2, hi28, his, ak, rk, jk⟩ := hrel
    have AK := hide ak
    have RK := hide rk
    have JK := hide jk
    obtain ⟨g0, g1, g2, g3⟩ := ak
    clear jk rk p1
    by_cases hc : i < 28 ∧ i < s.size ∧ (bt s i = 76 ∨ bt s i = 82)
    · obtain ⟨c1, c2, c3⟩ := hc
      have c1' : decide ((i : Int) - 2 < 26) = true := by simp; omega
      have e2 := bt_lt s i c2
      have C3 := hide (show ((s[i].toNat : Int) = 76 ∨ (s[i].toNat : Int) = 82) by omega)
      clear c3 e2
      go_wp2
      go_quiet (first | (go_at_call 137; exact Calls.quiet_of (ended_no b s i _ (AK.out.drewN _) c2)) | (go_at_call 195; exact Calls.quiet_of_same (isTurn_yes _ _ C3.out)))
      go_wp2
      rw [show (i : Int) + 1 = ((i + 1 : Nat) : Int) by omega]
      have A2 := (AK.out.drewN nq).go (i + 1)
      refine ⟨⟨i + 1, by omega, by omega, by omega, A2, (RK.out.drewN nq).set _ _, ?_⟩, ?_⟩
      · rw [← turnF_step c1 c2 (by have := bt_lt s i c2; have := C3.out; omega)]; exact JK.out
      · rw [A2.posOf, AK.out.posOf]; omega
    · have x1 := JK.out
      rw [turnF_stop hc] at x1
      have x2 := x1.trans HJ.out
      have hx := extract_size s 2 i his
      have HI := hide his
      by_cases c2 : i < s.size
      · by_cases c1 : i < 28
        · have c1' : decide ((i : Int) - 2 < 26) = true := by simp; omega
          have e2 := bt_lt s i c2
          have C3 := hide (show ¬ ((s[i].toNat : Int) = 76 ∨ (s[i].toNat : Int) = 82) by omega)
          clear e2 hc
          by_cases hz : i = 2
          · have n1 : ((i : Int) == 2) = true := by simp; omega
            have X := hide (show antS s = .inr 2 by rw [HT.out, if_pos (by omega)])
            clear x1 x2 hz
            go_wp2
            go_quiet (first | (go_at_call 137; exact Calls.quiet_of (ended_no b s i _ (AK.out.drewN _) c2)) | (go_at_call 195; exact Calls.quiet_of_same (isTurn_no _ _ C3.out)))
            go_wp2_with fail
            refine (fail_any b s i 2 _ (AK.out.drewN nq)).mono ?_
            rintro e w2 ⟨rfl, a2, r2⟩
            go_wp2
            rw [X.out]
            exact ⟨rfl, Reads.bad a2 ((RK.out.un.drewN nq).trans r2)⟩
          · have n1 : ((i : Int) == 2) = false := by simp; omega
            have X := hide (show antS s = .inl (⟨3, 0, 0, 0, 0, [], s.extract 2 i⟩, i) by rw [HT.out, if_neg (by omega), ← x2])
            clear x1 x2
            go_wp2
            go_quiet (first | (go_at_call 137; exact Calls.quiet_of (ended_no b s i _ (AK.out.drewN _) c2)) | (go_at_call 195; exact Calls.quiet_of_same (isTurn_no _ _ C3.out)))
            go_wp2
            go_region_with (go_at_call 210; refine (clone_any _ _ ?_).mono ?_; omega; rintro e w2 ⟨rfl, hb⟩; have R2 := Rd.trans (show Rd b (w.alloc (.cells zeroCells 24)) _ from by repeat (first | exact RK.out | apply Rd.drewN | apply Rd.drew)) (Rd.of_below hb); have A2 := At.below (show At b s i _ from by repeat (first | exact AK.out | apply At.drewN | apply At.drew)) hb; obtain ⟨hc, hf⟩ := R2.made hlt; have c0 := hc 0; have c1 := hc 1; have c2 := hc 2; have c3 := hc 3; have c4 := hc 4; have c5 := hc 5; have c6 := hc 6; simp [zeroCells] at c0 c1 c2 c3 c4 c5 c6; have R3 := hide R2; have A3 := hide A2; clear hc R2 A2 hb)
            all_goals
              go_wp2
              refine bodyPost_ret (v := Out.val ⟨3, 0, 0, 0, 0, [], s.extract 2 i⟩ (.slice none 0 0)) (by simp [results, Tryd.results189, go_sem, Out.val, c0, c1, c2, c3, c4, c5, c6]) rfl ?_
              rw [X.out]
              exact ⟨_, rfl, Or.inl ⟨rfl, rfl⟩, Fresh.nil _, set7_at A3.out (by omega), set7_rd R3.out.un (by omega), HI.out⟩
        · have c1' : decide ((i : Int) - 2 < 26) = false := by simp; omega
          clear hc
          by_cases hz : i = 2
          · have n1 : ((i : Int) == 2) = true := by simp; omega
            have X := hide (show antS s = .inr 2 by rw [HT.out, if_pos (by omega)])
            clear x1 x2 hz
            go_wp2
            go_quiet ((go_at_call 137; exact Calls.quiet_of (ended_no b s i _ (AK.out.drewN _) c2)))
            go_wp2_with fail
            refine (fail_any b s i 2 _ (AK.out.drewN nq)).mono ?_
            rintro e w2 ⟨rfl, a2, r2⟩
            go_wp2
            rw [X.out]
            exact ⟨rfl, Reads.bad a2 ((RK.out.un.drewN nq).trans r2)⟩
          · have n1 : ((i : Int) == 2) = false := by simp; omega
            have X := hide (show antS s = .inl (⟨3, 0, 0, 0, 0, [], s.extract 2 i⟩, i) by rw [HT.out, if_neg (by omega), ← x2])
            clear x1 x2
            go_wp2
            go_quiet ((go_at_call 137; exact Calls.quiet_of (ended_no b s i _ (AK.out.drewN _) c2)))
            go_wp2
            go_region_with (go_at_call 210; refine (clone_any _ _ ?_).mono ?_; omega; rintro e w2 ⟨rfl, hb⟩; have R2 := Rd.trans (show Rd b (w.alloc (.cells zeroCells 24)) _ from by repeat (first | exact RK.out | apply Rd.drewN | apply Rd.drew)) (Rd.of_below hb); have A2 := At.below (show At b s i _ from by repeat (first | exact AK.out | apply At.drewN | apply At.drew)) hb; obtain ⟨hc, hf⟩ := R2.made hlt; have c0 := hc 0; have c1 := hc 1; have c2 := hc 2; have c3 := hc 3; have c4 := hc 4; have c5 := hc 5; have c6 := hc 6; simp [zeroCells] at c0 c1 c2 c3 c4 c5 c6; have R3 := hide R2; have A3 := hide A2; clear hc R2 A2 hb)
            all_goals
              go_wp2
              refine bodyPost_ret (v := Out.val ⟨3, 0, 0, 0, 0, [], s.extract 2 i⟩ (.slice none 0 0)) (by simp [results, Tryd.results189, go_sem, Out.val, c0, c1, c2, c3, c4, c5, c6]) rfl ?_
              rw [X.out]
              exact ⟨_, rfl, Or.inl ⟨rfl, rfl⟩, Fresh.nil _, set7_at A3.out (by omega), set7_rd R3.out.un (by omega), HI.out⟩
      · have C3 := hide (show i = s.size by omega)
        clear hc
        by_cases hz : i = 2
        · have n1 : ((i : Int) == 2) = true := by simp; omega
          have X := hide (show antS s = .inr 2 by rw [HT.out, if_pos (by omega)])
          clear x1 x2 hz
          go_wp2
          go_quiet ((go_at_call 137; exact Calls.quiet_of (ended_yes b s i _ (AK.out.drewN _) C3.out)))
          go_wp2_with fail
          refine (fail_any b s i 2 _ (AK.out.drewN nq)).mono ?_
          rintro e w2 ⟨rfl, a2, r2⟩
          go_wp2
          rw [X.out]
          exact ⟨rfl, Reads.bad a2 ((RK.out.un.drewN nq).trans r2)⟩
        · have n1 : ((i : Int) == 2) = false := by simp; omega
          have X := hide (show antS s = .inl (⟨3, 0, 0, 0, 0, [], s.extract 2 i⟩, i) by rw [HT.out, if_neg (by omega), ← x2])
          clear x1 x2
          go_wp2
          go_quiet ((go_at_call 137; exact Calls.quiet_of (ended_yes b s i _ (AK.out.drewN _) C3.out)))
          go_wp2
          go_region_with (go_at_call 210; refine (clone_any _ _ ?_).mono ?_; omega; rintro e w2 ⟨rfl, hb⟩; have R2 := Rd.trans (show Rd b (w.alloc (.cells zeroCells 24)) _ from by repeat (first | exact RK.out | apply Rd.drewN | apply Rd.drew)) (Rd.of_below hb); have A2 := At.below (show At b s i _ from by repeat (first | exact AK.out | apply At.drewN | apply At.drew)) hb; obtain ⟨hc, hf⟩ := R2.made hlt; have c0 := hc 0; have c1 := hc 1; have c2 := hc 2; have c3 := hc 3; have c4 := hc 4; have c5 := hc 5; have c6 := hc 6; simp [zeroCells] at c0 c1 c2 c3 c4 c5 c6; have R3 := hide R2; have A3 := hide A2; clear hc R2 A2 hb)
          all_goals
            go_wp2
            refine bodyPost_ret (v := Out.val ⟨3, 0, 0, 0, 0, [], s.extract 2 i⟩ (.slice none 0 0)) (by simp [results, Tryd.results189, go_sem, Out.val, c0, c1, c2, c3, c4, c5, c6]) rfl ?_
            rw [X.out]
            exact ⟨_, rfl, Or.inl ⟨rfl, rfl⟩, Fresh.nil _, set7_at A3.out (by omega), set7_rd R3.out.un (by omega), HI.out⟩

theorem ant_any (b : Nat) (s : ByteArray) (w : World) (h : At b s 1 w) (hs : s.size ≤ maxLen) (h1 : 1 ≤ s.size) :
    Calls Tryd.prog 189 #[.pointer (some ⟨b, 0, none⟩)] w fun e w' => Reads (antS s) b s w e w' := by
  cases hA : inR s 1 32 32 with
  | true => exact ant_yes b s w h hs hA
  | false =>
    rw [show antS s = .inr 1 by unfold antS; simp [hA]]
    exact ant_no1 b s w h hs h1 hA
end Go.Proofs.YtljdidimoagnhaaDoor

namespace Go.Proofs.YtljdidimoagnhaaDoor
open Go.RowKit
set_option linter.unusedVariables false

/-- A rule that came in, as a value: its table at v. -/
structure ArgR (w : World) (o : Out) (a : Option Addr) (n c : Nat) : Prop where
  len : n = o.table.length
  max : n ≤ maxLen
  tmax : o.turns.size ≤ maxLen
  cells : ∀ k (h : k < o.table.length), ∃ g off, a = some ⟨g, off, none⟩ ∧ g < w.heap.size ∧ w.cell? ⟨g, off + k, none⟩ = some (.int .i64 o.table[k])
  rmax : o.radius ≤ 9223372036854775807

theorem ArgR.below {w w' : World} {o : Out} {a : Option Addr} {n c : Nat} (h : ArgR w o a n c) (hb : Below w.heap.size w w') : ArgR w' o a n c :=
  ⟨h.len, h.max, h.tmax, fun k hk => by
    obtain ⟨g, off, e, hg, hc⟩ := h.cells k hk
    exact ⟨g, off, e, Nat.lt_of_lt_of_le hg hb.size, (World.cell?_of_block (w := w) (a := ⟨g, off + k, none⟩) (hb.block g hg)).trans hc⟩, h.rmax⟩
theorem ArgR.alloc {w : World} {o : Out} {a : Option Addr} {n c : Nat} (h : ArgR w o a n c) (x : Obj) : ArgR (w.alloc x) o a n c :=
  h.below ((Below.refl _ _).alloc (Nat.le_refl _) _)

def bitsB (n : Int) : Bool := decide (0 ≤ n) && decide (n ≤ 511)
def noLifeB (o : Out) : Bool := (o.born == 0) && (o.stay == 0)
def noLineB (o : Out) : Bool := (o.states == 0) && (o.radius == 0) && decide (o.table.length = 0)
def turnAt (t : ByteArray) (i : Nat) : Prop := bt t i = 76 ∨ bt t i = 82
def turnsP (t : ByteArray) : Prop := 1 ≤ t.size ∧ t.size ≤ 26 ∧ ∀ i, i < t.size → turnAt t i
def lineP (o : Out) : Prop := 2 ≤ o.states ∧ o.states ≤ 4 ∧ 0 ≤ o.radius ∧ entOf o.states.toNat o.radius.toNat ≤ 4096 ∧ o.table.length = entOf o.states.toNat o.radius.toNat ∧ ∀ k (h : k < o.table.length), 0 ≤ o.table[k] ∧ o.table[k] < o.states

theorem isBits_any (n : Int) (w : World) :
    Calls Tryd.prog 140 #[.int .i64 n] w fun e w' => e = .returned (.bool (bitsB n)) ∧ w' = w := by
  by_cases h1 : 0 ≤ n
  · by_cases h2 : n ≤ 511
    · rw [show bitsB n = true by unfold bitsB; simp; omega]
      go_enter Tryd.func140, Tryd.ntmps140
      go_wp2
      go_ret
      exact ⟨rfl, rfl⟩
    · rw [show bitsB n = false by unfold bitsB; simp; omega]
      go_enter Tryd.func140, Tryd.ntmps140
      go_wp2
      go_ret
      exact ⟨rfl, rfl⟩
  · rw [show bitsB n = false by unfold bitsB; simp; omega]
    go_enter Tryd.func140, Tryd.ntmps140
    go_wp2
    go_ret
    exact ⟨rfl, rfl⟩

theorem hasNoLife_any (o : Out) (a : Option Addr) (n c : Nat) (w : World) :
    Calls Tryd.prog 143 #[o.val (.slice a n c)] w fun e w' => e = .returned (.bool (noLifeB o)) ∧ Below w.heap.size w w' := by
  unfold noLifeB Out.val
  cases h1 : (o.born == 0)
  · go_enter Tryd.func143, Tryd.ntmps143
    go_wp2
    go_ret
    exact ⟨rfl, (Below.refl _ _).alloc (Nat.le_refl _) _⟩
  · cases h2 : (o.stay == 0)
    all_goals
      go_enter Tryd.func143, Tryd.ntmps143
      go_wp2
      go_ret
      exact ⟨rfl, (Below.refl _ _).alloc (Nat.le_refl _) _⟩

theorem hasNoLine_any (o : Out) (a : Option Addr) (n c : Nat) (w : World) (hn : n = o.table.length) (hm : n ≤ maxLen) :
    Calls Tryd.prog 141 #[o.val (.slice a n c)] w fun e w' => e = .returned (.bool (noLineB o)) ∧ Below w.heap.size w w' := by
  unfold noLineB Out.val
  rw [← hn]
  clear hn
  unfold maxLen at hm
  cases h1 : (o.states == 0)
  · go_enter Tryd.func141, Tryd.ntmps141
    go_wp2
    go_ret
    exact ⟨rfl, (Below.refl _ _).alloc (Nat.le_refl _) _⟩
  · cases h2 : (o.radius == 0)
    · go_enter Tryd.func141, Tryd.ntmps141
      go_wp2
      go_ret
      exact ⟨rfl, (Below.refl _ _).alloc (Nat.le_refl _) _⟩
    · by_cases h3 : n = 0
      · have h4 : ((n : Int) == 0) = true := by simp; omega
        rw [show decide (n = 0) = true by simp [h3]]
        clear h3
        go_enter Tryd.func141, Tryd.ntmps141
        go_wp2
        go_ret
        exact ⟨rfl, (Below.refl _ _).alloc (Nat.le_refl _) _⟩
      · have h4 : ((n : Int) == 0) = false := by simp; omega
        rw [show decide (n = 0) = false by simp [h3]]
        clear h3
        go_enter Tryd.func141, Tryd.ntmps141
        go_wp2
        go_ret
        exact ⟨rfl, (Below.refl _ _).alloc (Nat.le_refl _) _⟩

set_option maxHeartbeats 800000 in
theorem isTurns_any (t : ByteArray) (w : World) (ht : t.size ≤ maxLen) :
    Calls Tryd.prog 144 #[.string t] w fun e w' => (e = .returned (.bool true) ∧ turnsP t ∨ e = .returned (.bool false) ∧ ¬ turnsP t) ∧ w' = w := by
  unfold maxLen at ht
  by_cases h1 : t.size < 1
  · have h1' : (t.size : Int) < 1 := by omega
    go_enter Tryd.func144, Tryd.ntmps144
    go_wp2
    go_ret
    exact ⟨Or.inr ⟨rfl, fun h => by have := h.1; omega⟩, rfl⟩
  have h1' : ¬ (t.size : Int) < 1 := by omega
  by_cases h2 : 26 < t.size
  · have h2' : 26 < (t.size : Int) := by omega
    go_enter Tryd.func144, Tryd.ntmps144
    go_wp2
    go_ret
    exact ⟨Or.inr ⟨rfl, fun h => by have := h.2.1; omega⟩, rfl⟩
  have h2' : ¬ 26 < (t.size : Int) := by omega
  go_enter Tryd.func144, Tryd.ntmps144
  go_wp2
  go_loop [3] (fun iv => ∃ i : Nat, iv = .int .i64 (i : Int) ∧ i ≤ t.size ∧ ∀ j, j < i → turnAt t j) (fun iv => t.size - (intOf iv).toNat)
  case atStart => exact ⟨0, rfl, by omega, fun j hj => by omega⟩
  case round =>
    obtain ⟨i, rfl, hi, hall⟩ := hrel
    have HA := hide' hall
    clear hall
    by_cases c : i < t.size
    · have c' : (i : Int) < (t.size : Int) := by omega
      have e := bt_lt t i c
      by_cases d : bt t i = 76 ∨ bt t i = 82
      · have D := hide' (show ((t[i].toNat : Int) = 76 ∨ (t[i].toNat : Int) = 82) by omega)
        have DD := hide' d
        clear d e
        go_wp2_with fail
        refine (isTurn_yes _ _ D.out).mono ?_
        rintro e w1 ⟨rfl, rfl⟩
        go_wp2
        refine ⟨⟨i + 1, by go_num, by omega, fun j hj => ?_⟩, by simp [intOf]; omega⟩
        by_cases q : j = i
        · rw [q]; exact DD.out
        · exact HA.out j (by omega)
      · have D := hide' (show ¬ ((t[i].toNat : Int) = 76 ∨ (t[i].toNat : Int) = 82) by omega)
        have DD := hide' d
        clear d e
        go_wp2_with fail
        refine (isTurn_no _ _ D.out).mono ?_
        rintro e w1 ⟨rfl, rfl⟩
        go_wp2
        go_ret
        exact ⟨Or.inr ⟨rfl, fun h => DD.out (h.2.2 i c)⟩, rfl⟩
    · have c' : ¬ (i : Int) < (t.size : Int) := by omega
      go_wp2
      go_ret
      exact ⟨Or.inl ⟨rfl, by omega, by omega, fun j hj => HA.out j (by omega)⟩, rfl⟩
set_option maxHeartbeats 800000 in
theorem entries_far (n m : Nat) (N M : Int) (w : World) (hN : N = n) (hM : M = m) (hn : 2 ≤ n) (hn' : n ≤ 4) (hm : m ≤ 9223372036854775807) :
    Calls Tryd.prog 194 #[.int .i64 N, .int .i64 M] w fun e w' => e = .returned (.int .i64 ((entOf n m : Nat) : Int)) ∧ w' = w := by
  subst hN hM
  have h1 : n = 2 ∨ n = 3 ∨ n = 4 := by omega
  rcases h1 with rfl | rfl | rfl
  all_goals
    go_enter Tryd.func194, Tryd.ntmps194
    go_wp2
    go_loop [5, 6] (fun ev iv => ∃ k e : Nat, iv = .int .i64 (k : Int) ∧ ev = .int .i64 (e : Int) ∧ k ≤ m ∧ e ≤ 65536 ∧ entF _ (m - k) e = entOf _ m) (fun _ iv => m - (intOf iv).toNat)
    case atStart => exact ⟨0, _, rfl, rfl, by omega, by omega, rfl⟩
    case round =>
      obtain ⟨k, e, rfl, rfl, hk, he, hent⟩ := hrel
      have HE := hide hent
      clear hent
      by_cases hkm : (k : Int) < (m : Int)
      · by_cases hee : (e : Int) ≤ 4096
        · go_wp2
          have e1 := unhide HE
          rw [show m - k = (m - (k + 1)) + 1 by omega, entF, if_pos (by omega)] at e1
          refine ⟨⟨k + 1, _, by go_num, ?_, by omega, ?_, e1⟩, by simp [intOf]; omega⟩
          · go_num
          · omega
        · go_wp2
          go_ret
          have e1 := unhide HE
          rw [entF_stop (by omega)] at e1
          rw [← e1]
          exact ⟨rfl, rfl⟩
      · go_wp2
        go_ret
        have e1 := unhide HE
        rw [show m - k = 0 by omega, entF] at e1
        rw [← e1]
        exact ⟨rfl, rfl⟩

set_option maxHeartbeats 1600000 in
/-- isLine at a rule whose States and Radius are none: false. -/
theorem isLine_off (o : Out) (a : Option Addr) (n c : Nat) (w : World) (h : ¬ (2 ≤ o.states ∧ o.states ≤ 4 ∧ 0 ≤ o.radius)) :
    Calls Tryd.prog 142 #[o.val (.slice a n c)] w fun e w' => e = .returned (.bool false) ∧ Below w.heap.size w w' := by
  unfold Out.val
  by_cases h1 : o.states < 2
  · clear h
    go_enter Tryd.func142, Tryd.ntmps142
    go_wp2
    go_ret
    exact ⟨rfl, (Below.refl _ _).alloc (Nat.le_refl _) _⟩
  by_cases h2 : 4 < o.states
  · clear h
    go_enter Tryd.func142, Tryd.ntmps142
    go_wp2
    go_ret
    exact ⟨rfl, (Below.refl _ _).alloc (Nat.le_refl _) _⟩
  · have h3 : o.radius < 0 := by omega
    clear h
    go_enter Tryd.func142, Tryd.ntmps142
    go_wp2
    go_ret
    exact ⟨rfl, (Below.refl _ _).alloc (Nat.le_refl _) _⟩

set_option maxHeartbeats 1600000 in
theorem isLine_on (o : Out) (a : Option Addr) (n c : Nat) (w : World) (hR : ArgR w o a n c) (h1 : 2 ≤ o.states) (h2 : o.states ≤ 4) (h3 : 0 ≤ o.radius) :
    Calls Tryd.prog 142 #[o.val (.slice a n c)] w fun e w' => (e = .returned (.bool true) ∧ lineP o ∨ e = .returned (.bool false) ∧ ¬ lineP o) ∧ Below w.heap.size w w' := by
  have hn := hR.len
  have hm := hR.max
  unfold maxLen at hm
  have hr := hR.rmax
  have RA := hide' (hR.alloc (.cells #[.int .i64 o.kind, .int .i64 o.born, .int .i64 o.stay, .int .i64 o.states, .int .i64 o.radius, .slice a n c, .string o.turns] 24))
  obtain ⟨E, hE⟩ : ∃ E, E = entOf o.states.toNat o.radius.toNat := ⟨_, rfl⟩
  have k1 : ¬ o.states < 2 := by omega
  have k2 : ¬ 4 < o.states := by omega
  have k3 : ¬ o.radius < 0 := by omega
  have HE := hide' hE
  have HN := hide' hn
  clear hE hn hR
  unfold Out.val
  have call : ∀ W : World, Calls Tryd.prog 194 #[.int .i64 o.states, .int .i64 o.radius] W fun e w' => e = .returned (.int .i64 (E : Int)) ∧ w' = W := fun W => by
    have := entries_far o.states.toNat o.radius.toNat o.states o.radius W (by omega) (by omega) (by omega) (by omega) (by omega)
    rw [← HE.out] at this
    exact this
  have CALL := hide' call
  clear call
  by_cases q1 : 4096 < E
  · have q1' : 4096 < (E : Int) := by omega
    go_enter Tryd.func142, Tryd.ntmps142
    go_wp2_with fail
    refine (CALL.out _).mono ?_
    rintro e w1 ⟨rfl, rfl⟩
    go_wp2
    go_ret
    exact ⟨Or.inr ⟨rfl, fun p => by have := p.2.2.2.1; rw [← HE.out] at this; omega⟩, (Below.refl _ _).alloc (Nat.le_refl _) _⟩
  have q1' : ¬ 4096 < (E : Int) := by omega
  by_cases q2 : n = E
  · have q2' : ((n : Int) != (E : Int)) = false := by rw [bne_eq_false_iff_eq]; omega
    have Q2 := hide' q2
    clear q2
    go_enter Tryd.func142, Tryd.ntmps142
    go_wp2_with fail
    refine (CALL.out _).mono ?_
    rintro e w1 ⟨rfl, rfl⟩
    go_wp2
    go_loop [36] (fun kv => ∃ k : Nat, kv = .int .i64 (k : Int) ∧ k ≤ n ∧ ∀ j (h : j < o.table.length), j < k → 0 ≤ o.table[j] ∧ o.table[j] < o.states) (fun kv => n - (intOf kv).toNat)
    case atStart => exact ⟨0, rfl, by omega, fun j _ hj => by omega⟩
    case round =>
      obtain ⟨k, rfl, hk, hall⟩ := hrel
      have HA := hide' hall
      clear hall
      by_cases d : k < n
      · have d' : (k : Int) < (n : Int) := by omega
        have hkl : k < o.table.length := by have := HN.out; omega
        obtain ⟨g, off, rfl, hg, hc⟩ := RA.out.cells k hkl
        by_cases e1 : 0 ≤ o.table[k]
        · have e1' : ¬ o.table[k] < 0 := by omega
          by_cases e2 : o.table[k] < o.states
          · have e2' : ¬ o.states ≤ o.table[k] := by omega
            go_wp2
            refine ⟨⟨k + 1, by go_num, by omega, fun j h hj => ?_⟩, by simp [intOf]; omega⟩
            by_cases q : j = k
            · subst q; exact ⟨e1, e2⟩
            · exact HA.out j h (by omega)
          · have e2' : o.states ≤ o.table[k] := by omega
            go_wp2
            go_ret
            exact ⟨Or.inr ⟨rfl, fun p => by have := p.2.2.2.2.2 k hkl; omega⟩, (Below.refl _ _).alloc (Nat.le_refl _) _⟩
        · have e1' : o.table[k] < 0 := by omega
          go_wp2
          go_ret
          exact ⟨Or.inr ⟨rfl, fun p => by have := p.2.2.2.2.2 k hkl; omega⟩, (Below.refl _ _).alloc (Nat.le_refl _) _⟩
      · have d' : ¬ (k : Int) < (n : Int) := by omega
        go_wp2
        go_ret
        refine ⟨Or.inl ⟨rfl, h1, h2, h3, by rw [← HE.out]; omega, by rw [← HE.out, ← HN.out]; exact Q2.out, fun j h => HA.out j h (by have := HN.out; omega)⟩, (Below.refl _ _).alloc (Nat.le_refl _) _⟩
  · have q2' : ((n : Int) != (E : Int)) = true := by rw [bne_iff_ne]; omega
    go_enter Tryd.func142, Tryd.ntmps142
    go_wp2_with fail
    refine (CALL.out _).mono ?_
    rintro e w1 ⟨rfl, rfl⟩
    go_wp2
    go_ret
    exact ⟨Or.inr ⟨rfl, fun p => by have := p.2.2.2.2.1; rw [← HE.out, ← HN.out] at this; exact q2 this⟩, (Below.refl _ _).alloc (Nat.le_refl _) _⟩

theorem hasNoLife_agg (o : Out) (a : Option Addr) (n c : Nat) (w : World) :
    Calls Tryd.prog 143 #[.agg #[.int .i64 o.kind, .int .i64 o.born, .int .i64 o.stay, .int .i64 o.states, .int .i64 o.radius, .slice a n c, .string o.turns]] w fun e w' => e = .returned (.bool (noLifeB o)) ∧ Below w.heap.size w w' := hasNoLife_any o a n c w
theorem hasNoLine_agg (o : Out) (a : Option Addr) (n c : Nat) (w : World) (hn : n = o.table.length) (hm : n ≤ maxLen) :
    Calls Tryd.prog 141 #[.agg #[.int .i64 o.kind, .int .i64 o.born, .int .i64 o.stay, .int .i64 o.states, .int .i64 o.radius, .slice a n c, .string o.turns]] w fun e w' => e = .returned (.bool (noLineB o)) ∧ Below w.heap.size w w' := hasNoLine_any o a n c w hn hm
theorem isLine_off_agg (o : Out) (a : Option Addr) (n c : Nat) (w : World) (h : ¬ (2 ≤ o.states ∧ o.states ≤ 4 ∧ 0 ≤ o.radius)) :
    Calls Tryd.prog 142 #[.agg #[.int .i64 o.kind, .int .i64 o.born, .int .i64 o.stay, .int .i64 o.states, .int .i64 o.radius, .slice a n c, .string o.turns]] w fun e w' => e = .returned (.bool false) ∧ Below w.heap.size w w' := isLine_off o a n c w h
theorem isLine_on_agg (o : Out) (a : Option Addr) (n c : Nat) (w : World) (hR : ArgR w o a n c) (h1 : 2 ≤ o.states) (h2 : o.states ≤ 4) (h3 : 0 ≤ o.radius) :
    Calls Tryd.prog 142 #[.agg #[.int .i64 o.kind, .int .i64 o.born, .int .i64 o.stay, .int .i64 o.states, .int .i64 o.radius, .slice a n c, .string o.turns]] w fun e w' => (e = .returned (.bool true) ∧ lineP o ∨ e = .returned (.bool false) ∧ ¬ lineP o) ∧ Below w.heap.size w w' := isLine_on o a n c w hR h1 h2 h3
end Go.Proofs.YtljdidimoagnhaaDoor

