/-
  What the last text of this claim leans on, part 16: Sw7, Sw8, Sw9.
-/
import Derived.Test.YtpppmollmiomlaaDoorZu15
import Derived.Test.YtpppmollmiomlaaDoorZu6
import Derived.Laws.Tables
import Derived.Laws.Rows
import Derived.Laws.CopyOwn
namespace Go.Proofs.YtpppmollmiomlaaDoor
open Go.RowKit
set_option linter.unusedVariables false
set_option linter.unusedSimpArgs false
theorem errOf_not {f : Nat} (h : ¬ f = 0) : errOf f = .iface 49 (.int .i64 (f : Int)) := if_neg h
/-- What is wrong with a graph and a sink; with chips. -/
def SiG (P : Int) (xs : List EgT) (s : Int) (f : Nat) : Prop := (¬ f = 0 ∧ FaG P xs f) ∨ (FaG P xs 0 ∧ ¬ (0 ≤ s ∧ s < P) ∧ f = 1) ∨ (FaG P xs 0 ∧ (0 ≤ s ∧ s < P) ∧ f = 0)
def badC (s : Int) (k : Nat) (x : Int) : Prop := x < 0 ∨ 10000 < x ∨ ((k : Int) = s ∧ x ≠ 0)
def LaG (P s : Int) (cs : List Int) (f : Nat) : Prop := (¬ (cs.length : Int) = P ∧ f = 3) ∨ ((cs.length : Int) = P ∧ (∃ k, k < cs.length ∧ badC s k (cs.getD k 0)) ∧ f = 1) ∨ ((cs.length : Int) = P ∧ (∀ k, k < cs.length → ¬ badC s k (cs.getD k 0)) ∧ f = 0)
def ChG (P : Int) (xs : List EgT) (s : Int) (cs : List Int) (f : Nat) : Prop := (¬ f = 0 ∧ SiG P xs s f) ∨ (SiG P xs s 0 ∧ LaG P s cs f)
theorem SiG.good {P : Int} {xs : List EgT} {s : Int} (h : SiG P xs s 0) : FaG P xs 0 ∧ 0 ≤ s ∧ s < P := by
  rcases h with h | h | h
  · exact absurd rfl h.1
  · omega
  · exact ⟨h.1, h.2.1⟩
theorem SiG.of {P : Int} {xs : List EgT} {s : Int} (h : FaG P xs 0) (h1 : 0 ≤ s) (h2 : s < P) : SiG P xs s 0 := Or.inr (Or.inr ⟨h, ⟨h1, h2⟩, rfl⟩)
theorem SiG.only {P : Int} {xs : List EgT} {s : Int} {f g : Nat} (h : SiG P xs s f) (k : SiG P xs s g) : f = g := by
  unfold SiG at h k
  rcases h with h | h | h <;> rcases k with k | k | k
  · exact h.2.only k.2
  · exact absurd (h.2.only k.1) h.1
  · exact absurd (h.2.only k.1) h.1
  · exact absurd (k.2.only h.1) k.1
  · omega
  · exact absurd k.2.1 h.2.1
  · exact absurd (k.2.only h.1) k.1
  · exact absurd h.2.1 k.2.1
  · omega
theorem LaG.only {P s : Int} {cs : List Int} {f g : Nat} (h : LaG P s cs f) (k : LaG P s cs g) : f = g := by
  unfold LaG at h k
  rcases h with h | h | h <;> rcases k with k | k | k
  all_goals first | omega | skip
  · obtain ⟨j, h1, h2⟩ := h.2.1; exact absurd h2 (k.2.1 j h1)
  · obtain ⟨j, h1, h2⟩ := k.2.1; exact absurd h2 (h.2.1 j h1)
theorem ChG.only {P : Int} {xs : List EgT} {s : Int} {cs : List Int} {f g : Nat} (h : ChG P xs s cs f) (k : ChG P xs s cs g) : f = g := by
  unfold ChG at h k
  rcases h with h | h <;> rcases k with k | k
  · exact h.2.only k.2
  · exact absurd (h.2.only k.1) h.1
  · exact absurd (k.2.only h.1) k.1
  · exact h.2.only k.2
theorem ChG.good {P : Int} {xs : List EgT} {s : Int} {cs : List Int} (h : ChG P xs s cs 0) : SiG P xs s 0 ∧ LaG P s cs 0 := by
  rcases h with h | h
  · exact absurd rfl h.1
  · exact h
theorem LaG.good {P s : Int} {cs : List Int} (h : LaG P s cs 0) : (cs.length : Int) = P ∧ ∀ k, k < cs.length → ¬ badC s k (cs.getD k 0) := by
  unfold LaG at h
  rcases h with h | h | h
  · omega
  · omega
  · exact ⟨h.1, h.2.1⟩
def SinkOut (w : World) (P : Int) (xs : List EgT) (s : Int) (e : Ending) (w' : World) : Prop := ∃ f, SiG P xs s f ∧ e = .returned (errOf f) ∧ Below w.heap.size w w'
set_option maxRecDepth 100000 in
set_option maxHeartbeats 3200000 in
theorem checkSink_any (P : Int) (xs : List EgT) (ea : Option Addr) (n c : Nat) (s : Int) (w : World) (hE : ArgE w xs ea n c) :
    Calls Tryd.prog 51 #[.agg #[.int .i64 P, .slice ea n c], .int .i64 s] w (SinkOut w P xs s) := by
  obtain ⟨w1, hw1⟩ : ∃ w1, w.alloc (.cells #[.int .i64 P, .slice ea n c] 24) = w1 := ⟨_, rfl⟩
  have HW1 := hide' hw1
  have B1 := hide' (show Below w.heap.size w w1 by rw [← hw1]; exact (Below.refl _ _).alloc (Nat.le_refl _) _)
  have R1 := hide' (show w1.heap[w.heap.size]? = some (.cells #[.int .i64 P, .slice ea n c] 24 (0, 0)) by rw [← hw1]; exact heap_alloc_new _ _)
  have CK := hide' (Check_any P xs ea n c w1 (hE.below B1.out))
  have IP := hide' (fun x V => isPlaceS_any P x ea n c V)
  have y0 := cell_of_row w1 _ 0 _ _ _ R1.out
  have y1 := cell_of_row w1 _ 1 _ _ _ R1.out
  simp at y0 y1
  clear hw1 hE
  go_enter Tryd.func51, Tryd.ntmps51
  go_upto_region 1 with fail
  rw [HW1.out]
  go_wp2_with fail
  refine CK.out.mono ?_
  rintro e w2 ⟨f, hf, rfl, b2⟩
  have HF := hide' hf
  have B2 := hide' (B1.out.trans (b2.mono B1.out.size))
  have R2 := hide' ((b2.block _ (ltS_of_block R1.out)).trans R1.out)
  clear hf b2 y0 y1
  by_cases h0 : f = 0
  · subst h0
    rw [show errOf 0 = .nilIface from rfl]
    have y0 := cell_of_row w2 _ 0 _ _ _ R2.out
    have y1 := cell_of_row w2 _ 1 _ _ _ R2.out
    simp at y0 y1
    go_wp2_with fail
    refine (IP.out s _).mono ?_
    rintro e w3 ⟨rfl, b3⟩
    have B3 := hide' (B2.out.trans (b3.mono B2.out.size))
    clear b3 y0 y1
    by_cases k : 0 ≤ s ∧ s < P
    · rw [inB_yes k.1 k.2]
      have X := hide' k
      clear k
      go_wp2
      go_ret
      exact ⟨0, Or.inr (Or.inr ⟨HF.out, X.out, rfl⟩), rfl, B3.out⟩
    · rw [inB_no k]
      have X := hide' k
      clear k
      go_wp2
      go_ret
      exact ⟨1, Or.inr (Or.inl ⟨HF.out, X.out, rfl⟩), rfl, B3.out⟩
  · have H0 := hide' h0
    have EF := hide' (errOf_not h0)
    rw [EF.out]
    clear h0
    go_wp2
    go_ret
    exact ⟨f, Or.inl ⟨H0.out, HF.out⟩, by rw [EF.out]; rfl, B2.out⟩
def ChipsOut (w : World) (P : Int) (xs : List EgT) (s : Int) (cs : List Int) (e : Ending) (w' : World) : Prop := ∃ f, ChG P xs s cs f ∧ e = .returned (errOf f) ∧ Below w.heap.size w w'
theorem at_getD {xs : List Int} {k : Nat} (h : k < xs.length) : xs.getD k 0 = xs[k] := by simp [List.getD, h]
set_option maxRecDepth 100000 in
set_option maxHeartbeats 6400000 in
theorem checkChips_any (P : Int) (xs : List EgT) (ea : Option Addr) (n c : Nat) (s : Int) (cs : List Int) (ca : Option Addr) (cn cc : Nat) (w : World) (hE : ArgE w xs ea n c) (hC : ArgP w cs ca cn cc) :
    Calls Tryd.prog 43 #[.agg #[.int .i64 P, .slice ea n c], .int .i64 s, .slice ca cn cc] w (ChipsOut w P xs s cs) := by
  obtain ⟨w1, hw1⟩ : ∃ w1, w.alloc (.cells #[.int .i64 P, .slice ea n c] 24) = w1 := ⟨_, rfl⟩
  have HW1 := hide' hw1
  have B1 := hide' (show Below w.heap.size w w1 by rw [← hw1]; exact (Below.refl _ _).alloc (Nat.le_refl _) _)
  have R1 := hide' (show w1.heap[w.heap.size]? = some (.cells #[.int .i64 P, .slice ea n c] 24 (0, 0)) by rw [← hw1]; exact heap_alloc_new _ _)
  have CK := hide' (checkSink_any P xs ea n c s w1 (hE.below B1.out))
  have HC := hide' (fun (V : World) (h : Below w.heap.size w V) => hC.below h)
  have HL := hide' hC.len
  have nm := hC.max
  unfold maxLen at nm
  have y0 := cell_of_row w1 _ 0 _ _ _ R1.out
  have y1 := cell_of_row w1 _ 1 _ _ _ R1.out
  simp at y0 y1
  clear hw1 hE hC
  go_enter Tryd.func43, Tryd.ntmps43
  go_upto_region 1 with fail
  rw [HW1.out]
  go_wp2_with fail
  refine CK.out.mono ?_
  rintro e w2 ⟨f, hf, rfl, b2⟩
  have HF := hide' hf
  have B2 := hide' (B1.out.trans (b2.mono B1.out.size))
  have R2 := hide' ((b2.block _ (ltS_of_block R1.out)).trans R1.out)
  clear hf b2 y0 y1
  by_cases h0 : f = 0
  · subst h0
    rw [show errOf 0 = .nilIface from rfl]
    have y0 := cell_of_row w2 _ 0 _ _ _ R2.out
    simp at y0
    by_cases k : (cn : Int) = P
    · have HK := hide' (show (cs.length : Int) = P by have := HL.out; omega)
      have e1 : ((cn : Int) != P) = false := by simpa using k
      clear k
      go_wp2
      go_loopw [24] (fun iv wr => ∃ i : Nat, iv = .int .i64 (i : Int) ∧ i ≤ cn ∧ wr = w2 ∧ Hid (∀ j, j < i → ¬ badC s j (cs.getD j 0))) (fun iv _ => cn - (intOf iv).toNat)
      case atStart => exact ⟨0, rfl, by omega, rfl, hide' fun j h => by omega⟩
      case round =>
        obtain ⟨i, rfl, hi, rfl, HA⟩ := hrel
        clear y0
        by_cases d : (i : Int) < (cn : Int)
        · have hl : i < cs.length := by have := HL.out; omega
          obtain ⟨g, off, rfl, hg, c0⟩ := (HC.out wr B2.out).cells i hl
          obtain ⟨x, hx⟩ : ∃ x, cs[i] = x := ⟨_, rfl⟩
          rw [hx] at c0
          have EQ := hide' (show cs.getD i 0 = x by rw [at_getD hl, hx])
          have BAD := hide' (show badC s i x → ChipsOut w P xs s cs (.returned (errOf 1)) wr from fun h => ⟨1, Or.inr ⟨HF.out, Or.inr (Or.inl ⟨HK.out, ⟨i, hl, by rw [EQ.out]; exact h⟩, rfl⟩)⟩, rfl, B2.out⟩)
          have NX := hide' (show ¬ badC s i x → ∀ j, j < i + 1 → ¬ badC s j (cs.getD j 0) from fun h j hj => by
            by_cases e : j = i
            · rw [e, EQ.out]; exact h
            · exact HA.out j (by omega))
          clear hx
          by_cases k1 : x < 0
          · have X := hide' (BAD.out (Or.inl k1))
            go_wp2
            go_ret
            exact X.out
          · by_cases k2 : 10000 < x
            · have X := hide' (BAD.out (Or.inr (Or.inl k2)))
              go_wp2
              go_ret
              exact X.out
            · by_cases k3 : (i : Int) = s
              · have e3 : ((i : Int) == s) = true := by simpa using k3
                by_cases k4 : x = 0
                · have X := hide' (NX.out (by unfold badC; omega))
                  have e4 : (x != 0) = false := by simpa using k4
                  clear k3 k4
                  go_wp2
                  exact ⟨⟨i + 1, by go_num, by omega, by trivial, X⟩, by simp [intOf]; omega⟩
                · have X := hide' (BAD.out (Or.inr (Or.inr ⟨k3, k4⟩)))
                  have e4 : (x != 0) = true := by simpa using k4
                  clear k3 k4
                  go_wp2
                  go_ret
                  exact X.out
              · have e3 : ((i : Int) == s) = false := by simpa using k3
                have X := hide' (NX.out (by unfold badC; omega))
                clear k3
                go_wp2
                exact ⟨⟨i + 1, by go_num, by omega, by trivial, X⟩, by simp [intOf]; omega⟩
        · obtain rfl : i = cn := by omega
          go_wp2
          go_ret
          exact ⟨0, Or.inr ⟨HF.out, Or.inr (Or.inr ⟨HK.out, fun j hj => HA.out j (by have := HL.out; omega), rfl⟩)⟩, rfl, B2.out⟩
    · have X := hide' (show ¬ (cs.length : Int) = P by have := HL.out; omega)
      have e1 : ((cn : Int) != P) = true := by simpa using k
      clear k
      go_wp2
      go_ret
      exact ⟨3, Or.inr ⟨HF.out, Or.inl ⟨X.out, rfl⟩⟩, rfl, B2.out⟩
  · have H0 := hide' h0
    have EF := hide' (errOf_not h0)
    rw [EF.out]
    clear h0
    go_wp2
    go_ret
    exact ⟨f, Or.inl ⟨H0.out, HF.out⟩, by rw [EF.out]; rfl, B2.out⟩
end Go.Proofs.YtpppmollmiomlaaDoor

namespace Go.Proofs.YtpppmollmiomlaaDoor
open Go.RowKit
set_option linter.unusedVariables false
set_option linter.unusedSimpArgs false
/-- A ground as it lies: whole numbers. -/
def GrI (V : World) (gb : Nat) (F : Nat → Int) : Prop := V.heap[gb]? = some (.cells (arrS 112 fun k => .int .i64 (F k)) 93 (0, 0))
def upI (F : Nat → Int) (i : Nat) (z : Int) (k : Nat) : Int := if k = i then z else F k
theorem GrI.cell {V : World} {gb k : Nat} {F : Nat → Int} (h : GrI V gb F) (hk : k < 112) : V.cell? ⟨gb, k, none⟩ = some (.int .i64 (F k)) := by
  have := cell_of_row V gb k _ _ _ h
  rw [arrS_get _ hk] at this
  exact this
theorem GrI.set {V : World} {gb i : Nat} {F : Nat → Int} (h : GrI V gb F) (z : Int) : GrI (V.setCell ⟨gb, i, none⟩ (.int .i64 z)) gb (upI F i z) := by
  have := heap_setCell_same V gb i _ _ (.int .i64 z) h
  rw [arrS_set] at this
  unfold GrI
  rw [this]
  congr 2
  exact arrS_ext fun k _ => by unfold upI; by_cases q : k = i <;> simp [q]
def JoinOut (w : World) (gb : Nat) (e : Ending) (w' : World) : Prop := e = .returned (.tuple #[]) ∧ (∃ F, GrI w' gb F) ∧ w.grownBy w' (some gb)
theorem grownR_trans {a b c : World} {row : Option Nat} (h : a.grownBy b row) (k : b.grownBy c row) : a.grownBy c row :=
  ⟨k.os.trans h.os, k.tape.trans h.tape, k.output.trans h.output, Nat.le_trans h.size k.size, fun i hi hn => (k.block i (Nat.lt_of_lt_of_le hi h.size) hn).trans (h.block i hi hn)⟩
theorem grownR_drew (w : World) (row : Option Nat) : w.grownBy w.drew row := ⟨rfl, rfl, rfl, Nat.le_refl _, fun _ _ _ => rfl⟩
set_option maxRecDepth 100000 in
set_option maxHeartbeats 6400000 in
theorem join_any (gb a b : Nat) (t : Int) (F : Nat → Int) (w : World) (hG : GrI w gb F) (ha : a < 10) (hb : b < 10) :
    Calls Tryd.prog 54 #[.pointer (some ⟨gb, 0, none⟩), .int .i64 (a : Int), .int .i64 (b : Int), .int .i64 t] w (JoinOut w gb) := by
  have HG := hide' hG
  have c0 := hG.cell (k := 2 + a) (by omega)
  have f0 := frozen_of_row w gb (2 + a) _ _ hG
  have la : (a : Int) < 10 := by omega
  have lb : (b : Int) < 10 := by omega
  obtain ⟨z0, hz0⟩ : ∃ z0, F (2 + a) = z0 := ⟨_, rfl⟩
  rw [hz0] at c0
  clear hG hz0
  go_enter Tryd.func54, Tryd.ntmps54
  go_upto_region 0 with fail
  go_region
  obtain ⟨X, hX⟩ : ∃ X, (w.setCell ⟨gb, 2 + a, none⟩ (.int .i64 (wrap64 (z0 + t)))).drew = X := ⟨_, rfl⟩
  obtain ⟨F1, hF1⟩ : ∃ F1, GrI X gb F1 := ⟨_, by rw [← hX]; exact HG.out.set _⟩
  have GX := hide' (show w.grownBy X (some gb) by rw [← hX]; exact grownR_trans (grownBy_setR w gb (2 + a) _) (grownR_drew _ _))
  rw [hX]
  clear hX c0 f0
  have c1 := hF1.cell (k := 1) (by omega)
  obtain ⟨s1, hs1⟩ : ∃ s1, F1 1 = s1 := ⟨_, rfl⟩
  rw [hs1] at c1
  have c2 := hF1.cell (k := 12 + a * 10 + b) (by omega)
  have f2 := frozen_of_row X gb (12 + a * 10 + b) _ _ hF1
  obtain ⟨z2, hz2⟩ : ∃ z2, F1 (12 + a * 10 + b) = z2 := ⟨_, rfl⟩
  rw [hz2] at c2
  have HX := hide' hF1
  clear hF1 hs1 hz2
  by_cases k : (b : Int) = s1
  · have e1 : ((b : Int) != s1) = false := by simpa using k
    clear k
    go_wp2
    go_end0
    exact ⟨rfl, ⟨_, HX.out⟩, GX.out⟩
  · have e1 : ((b : Int) != s1) = true := by simpa using k
    clear k
    go_upto_region 2 with fail
    go_region
    go_wp2
    go_end0
    exact ⟨rfl, ⟨_, HX.out.set _⟩, grownR_trans GX.out (grownR_trans (grownBy_setR X gb (12 + a * 10 + b) _) (grownR_drew _ _))⟩
end Go.Proofs.YtpppmollmiomlaaDoor

namespace Go.Proofs.YtpppmollmiomlaaDoor
open Go.RowKit
set_option linter.unusedVariables false
set_option linter.unusedSimpArgs false
def LayOut (w : World) (e : Ending) (w' : World) : Prop := (∃ F : Nat → Int, e = .returned (.agg (arrS 112 fun k => .int .i64 (F k)))) ∧ Below w.heap.size w w'
theorem arrS_size (n : Nat) (f : Nat → Value) : (arrS n f).size = n := by simp [arrS]
theorem arrS_all (n : Nat) (F : Nat → Int) : (arrS n fun k => .int .i64 (F k)).all (·.oneCell') = true := by
  rw [Array.all_eq_true]
  intro i h
  simp [arrS]
  rfl
theorem set_arrI (n i : Nat) (F : Nat → Int) (z : Int) : (arrS n fun k => .int .i64 (F k)).setIfInBounds i (.int .i64 z) = arrS n fun k => .int .i64 (upI F i z k) := by
  rw [arrS_set]
  exact arrS_ext fun k _ => by unfold upI; by_cases q : k = i <;> simp [q]
theorem size_ground : (Tryd.prog.info? 93).map (·.size) = some 112 := by kernel_rfl
theorem heap_setRow_other (w : World) (g k : Nat) (cs : Array Value) (h : k ≠ g) : (w.setRow g cs).heap[k]? = w.heap[k]? := by
  unfold World.setRow
  dsimp only
  rw [Array.getElem?_modify]
  rw [if_neg (fun e => h e.symm)]
theorem zero_groundS (W : World) : Sem.run Tryd.prog (zeroValue 93) W = .ok (.agg (arrS 112 fun _ => .int .i64 0)) W := by kernel_rfl
set_option maxRecDepth 100000 in
set_option maxHeartbeats 6400000 in
theorem layS_any (P : Nat) (xs : List EgT) (ea : Option Addr) (n c : Nat) (s : Int) (w : World) (hE : ArgE w xs ea n c) (hO : OkG P xs) :
    Calls Tryd.prog 52 #[.agg #[.int .i64 (P : Int), .slice ea n c], .int .i64 s] w (LayOut w) := by
  obtain ⟨w1, hw1⟩ : ∃ w1, w.alloc (.cells #[.int .i64 (P : Int), .slice ea n c] 24) = w1 := ⟨_, rfl⟩
  have HW1 := hide' hw1
  have B1 := hide' (show Below w.heap.size w w1 by rw [← hw1]; exact (Below.refl _ _).alloc (Nat.le_refl _) _)
  have R1 := hide' (show w1.heap[w.heap.size]? = some (.cells #[.int .i64 (P : Int), .slice ea n c] 24 (0, 0)) by rw [← hw1]; exact heap_alloc_new _ _)
  have HE := hide' (fun (V : World) (h : Below w.heap.size w V) => hE.below h)
  have HL := hide' hE.len
  have OK := hide' hO
  have n4 : n ≤ 40 := by rw [hE.len]; exact hO.n4
  clear hw1 hE hO
  have zv := zero_groundS
  obtain ⟨Z, hZ⟩ : ∃ Z, (arrS 112 fun _ => Value.int .i64 0) = Z := ⟨_, rfl⟩
  rw [hZ] at zv
  go_enter Tryd.func52, Tryd.ntmps52
  go_upto_region 1 with fail
  rw [HW1.out]
  obtain ⟨rb, hrb⟩ : ∃ rb, w.heap.size + 1 = rb := ⟨_, rfl⟩
  obtain ⟨w2, hw2⟩ : ∃ w2, w1.alloc (.cells Z 93) = w2 := ⟨_, rfl⟩
  have S1 : w1.heap.size = rb := by have := HW1.out; rw [← this]; simp; exact hrb
  have RB := hide' (show w2.heap[rb]? = some (.cells Z 93 (0, 0)) by rw [← hw2, ← S1]; exact heap_alloc_new _ _)
  have B2 := hide' (show Below w.heap.size w w2 by rw [← hw2]; exact B1.out.alloc B1.out.size _)
  have R2 := hide' (show w2.heap[w.heap.size]? = some (.cells #[.int .i64 (P : Int), .slice ea n c] 24 (0, 0)) by rw [← hw2]; exact (heap_alloc_old _ _ (ltS_of_block R1.out)).trans R1.out)
  have LR := hide' (show w.heap.size < rb by omega)
  rw [hrb, hw2]
  clear hw2 S1 hrb
  have y0 := cell_of_row w2 _ 0 _ _ _ R2.out
  simp at y0
  obtain ⟨F0, hF0⟩ : ∃ F0 : Nat → Int, ((arrS 112 fun _ => Value.int .i64 0).setIfInBounds 0 (.int .i64 (P : Int))).setIfInBounds 1 (.int .i64 s) = arrS 112 fun k => .int .i64 (F0 k) := ⟨upI (upI (fun _ => 0) 0 (P : Int)) 1 s, by rw [show (arrS 112 fun _ => Value.int .i64 0) = arrS 112 fun k => .int .i64 ((fun _ => (0 : Int)) k) from rfl, set_arrI, set_arrI]⟩
  rw [hZ] at hF0
  obtain ⟨C, hC⟩ : ∃ C, (Z.setIfInBounds 0 (.int .i64 (P : Int))).setIfInBounds 1 (.int .i64 s) = C := ⟨_, rfl⟩
  have HC := hide' (show C = arrS 112 fun k => .int .i64 (F0 k) by rw [← hC]; exact hF0)
  have G0 := heap_alloc_new w2 (.cells Z 93)
  have ZS : Z.size = 112 := by rw [← hZ, arrS_size]
  have CS := hide' (show C.size = 112 by rw [HC.out, arrS_size])
  have CA := hide' (show C.all (·.oneCell') = true by rw [HC.out]; exact arrS_all _ _)
  have HCC := hide' hC
  have zn : ¬ Z = #[] := fun e => by rw [e] at ZS; simp at ZS
  clear hF0 hZ hC
  go_upto_region 2 with (refine wpList_store_row rfl 93 _ _ rfl w2.heap.size C rfl (by show Value.agg _ = _; rw [HCC.out]) 93 Z G0 (by rw [CS.out]; exact size_ground) (by rw [CS.out]; exact ZS) CA.out ?_)
  obtain ⟨gb, hgb⟩ : ∃ gb, w2.heap.size = gb := ⟨_, rfl⟩
  obtain ⟨w3, hw3⟩ : ∃ w3, (w2.alloc (.cells Z 93)).setRow gb C = w3 := ⟨_, rfl⟩
  rw [hgb] at G0
  have K3 := hide' (show GrI w3 gb F0 by rw [← hw3]; unfold GrI; rw [setRow_heap _ _ _ _ _ _ G0, HC.out])
  have B3 := hide' (show Below w.heap.size w w3 by rw [← hw3]; exact below_setRow (B2.out.alloc B2.out.size _) (by have := B2.out.size; omega) _)
  have LG := hide' (show rb < gb by rw [← hgb]; exact ltS_of_block RB.out)
  have R3 := hide' (show w3.heap[w.heap.size]? = some (.cells #[.int .i64 (P : Int), .slice ea n c] 24 (0, 0)) by
    rw [← hw3, heap_setRow_other _ _ _ _ (by have := LR.out; have := LG.out; omega)]
    exact (heap_alloc_old _ _ (ltS_of_block R2.out)).trans R2.out)
  have Q3 := hide' (show w3.heap[rb]? = some (.cells Z 93 (0, 0)) by
    rw [← hw3, heap_setRow_other _ _ _ _ (by have := LG.out; omega)]
    exact (heap_alloc_old _ _ (ltS_of_block RB.out)).trans RB.out)
  rw [hgb, hw3]
  clear hgb hw3 G0 y0
  have y1 := cell_of_row w3 _ 1 _ _ _ R3.out
  simp at y1
  go_wp2
  go_loopw [15] (fun iv V => ∃ (i : Nat) (F : Nat → Int), iv = .int .i64 (i : Int) ∧ i ≤ n ∧ Hid (GrI V gb F) ∧ Hid (Below w.heap.size w V) ∧ Hid (V.heap[rb]? = some (.cells Z 93 (0, 0)))) (fun iv _ => n - (intOf iv).toNat)
  case atStart => exact ⟨0, F0, rfl, by omega, K3, B3, Q3⟩
  case round =>
    obtain ⟨i, F, rfl, hi, KF, BW, QW⟩ := hrel
    clear y1
    by_cases d : (i : Int) < (n : Int)
    · have hl : i < xs.length := by have := HL.out; omega
      obtain ⟨g, off, rfl, hg, c0, c1, c2⟩ := (HE.out wr BW.out).cells i hl
      obtain ⟨⟨p, q, t⟩, hx⟩ : ∃ x, xs[i] = x := ⟨_, rfl⟩
      rw [hx] at c0 c1 c2
      simp only at c0 c1 c2
      have b1 := OK.out.ok i hl
      have b2 := OK.out.p2
      rw [eg_at hl, hx] at b1
      unfold badE at b1
      simp only at b1
      obtain ⟨pa, rfl⟩ := Int.eq_ofNat_of_zero_le (show 0 ≤ p by omega)
      obtain ⟨qa, rfl⟩ := Int.eq_ofNat_of_zero_le (show 0 ≤ q by omega)
      have LP := hide' (show pa < 10 ∧ qa < 10 by omega)
      obtain ⟨eb, heb⟩ : ∃ eb, wr.heap.size = eb := ⟨_, rfl⟩
      obtain ⟨w4, hw4⟩ : ∃ w4, wr.alloc (.cells #[.int .i64 (pa : Int), .int .i64 (qa : Int), .int .i64 t] 62) = w4 := ⟨_, rfl⟩
      have E4 := hide' (show w4.heap[eb]? = some (.cells #[.int .i64 (pa : Int), .int .i64 (qa : Int), .int .i64 t] 62 (0, 0)) by rw [← hw4, ← heb]; exact heap_alloc_new _ _)
      have K4 := hide' (show GrI w4 gb F by rw [← hw4]; exact (heap_alloc_old _ _ (ltS_of_block KF.out)).trans KF.out)
      have B4 := hide' (show Below w.heap.size w w4 by rw [← hw4]; exact BW.out.alloc BW.out.size _)
      have Q4 := hide' (show w4.heap[rb]? = some (.cells Z 93 (0, 0)) by rw [← hw4]; exact (heap_alloc_old _ _ (ltS_of_block QW.out)).trans QW.out)
      have LE := hide' (show gb < eb by rw [← heb]; exact ltS_of_block KF.out)
      have WG := hide' (show w.heap.size ≤ gb by have := LG.out; have := LR.out; omega)
      have HEB := hide' heb
      have HW4 := hide' hw4
      clear hx b1 b2 heb hw4
      go_upto_region 5 with fail
      rw [HEB.out, HW4.out]
      clear c0 c1 c2
      have y0 := cell_of_row w4 eb 0 _ _ _ E4.out
      have y1 := cell_of_row w4 eb 1 _ _ _ E4.out
      have y2 := cell_of_row w4 eb 2 _ _ _ E4.out
      simp at y0 y1 y2
      go_wp2_with fail
      refine (join_any gb pa qa t F w4 K4.out LP.out.1 LP.out.2).mono ?_
      rintro e w5 ⟨rfl, ⟨F1, k5⟩, g5⟩
      have K5 := hide' k5
      have B5 := hide' (B4.out.grown g5 B4.out.size (fun k hk => by have := WG.out; simp at hk; omega))
      have E5 := hide' ((g5.block eb (ltS_of_block E4.out) (by have := LE.out; simp; omega)).trans E4.out)
      have Q5 := hide' ((g5.block rb (ltS_of_block Q4.out) (by have := LG.out; simp; omega)).trans Q4.out)
      clear y0 y1 y2 k5 g5
      have y0 := cell_of_row w5 eb 0 _ _ _ E5.out
      have y1 := cell_of_row w5 eb 1 _ _ _ E5.out
      have y2 := cell_of_row w5 eb 2 _ _ _ E5.out
      simp at y0 y1 y2
      go_wp2_with fail
      refine (join_any gb qa pa t F1 w5 K5.out LP.out.2 LP.out.1).mono ?_
      rintro e w6 ⟨rfl, ⟨F2, k6⟩, g6⟩
      have K6 := hide' k6
      have B6 := hide' (B5.out.grown g6 B5.out.size (fun k hk => by have := WG.out; simp at hk; omega))
      have Q6 := hide' ((g6.block rb (ltS_of_block Q5.out) (by have := LG.out; simp; omega)).trans Q5.out)
      clear y0 y1 y2 k6 g6
      go_wp2
      exact ⟨⟨i + 1, F2, by go_num, by omega, K6, B6, Q6⟩, by simp [intOf]; omega⟩
    · obtain rfl : i = n := by omega
      obtain ⟨D, hD⟩ : ∃ D, (arrS 112 fun k => Value.int .i64 (F k)) = D := ⟨_, rfl⟩
      have DS := hide' (show D.size = 112 by rw [← hD, arrS_size])
      have DA := hide' (show D.all (·.oneCell') = true by rw [← hD]; exact arrS_all _ _)
      have GD : wr.heap[gb]? = some (.cells D 93 (0, 0)) := by rw [← hD]; exact KF.out
      have QD := QW.out
      have HD := hide' hD
      have WR := hide' (show w.heap.size ≤ rb by have := LR.out; omega)
      clear hD
      go_wp2_with (first | (refine wpList_load_row rfl 93 _ rfl gb rfl 93 D (0, 0) _ GD Tryd.underlying93 rfl (by rw [DS.out]; exact size_ground) ?_) | (refine wpList_store_row rfl 93 _ _ rfl rb D rfl rfl 93 Z QD (by rw [DS.out]; exact size_ground) (by rw [DS.out]; exact ZS) DA.out ?_))
      refine bodyPost_ret (v := .agg D) (results_cell_row Tryd.results52 _ _ rb 93 _ (0, 0) _ rfl (setRow_heap _ _ _ _ _ _ QD) Tryd.underlying93 rfl (by rw [DS.out]; exact size_ground)) rfl ?_
      exact ⟨⟨F, by rw [HD.out]⟩, below_setRow BW.out WR.out _⟩
end Go.Proofs.YtpppmollmiomlaaDoor

