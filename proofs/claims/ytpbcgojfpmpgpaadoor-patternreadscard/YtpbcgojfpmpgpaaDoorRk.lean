/-
  What the reader reads behind each of the four letters: life.
-/
import Derived.Test.YtpbcgojfpmpgpaaDoorRn
namespace Go.Proofs.YtpbcgojfpmpgpaaDoor
open Go.RowKit

/-- A table in memory: a slice that reads as the numbers. -/
def Tab (w : World) (v : Value) (xs : List Int) : Prop :=
  (xs = [] ∧ v = .slice none 0 0) ∨ ∃ g cap, v = .slice (some ⟨g, 0, none⟩) xs.length cap ∧ g < w.heap.size ∧ ∀ k (h : k < xs.length), w.cell? ⟨g, k, none⟩ = some (.int .i64 xs[k])

/-- A slice whose block was made since. -/
def Fresh (w : World) (v : Value) : Prop := ∀ g k c, v = .slice (some ⟨g, 0, none⟩) k c → w.heap.size ≤ g
theorem Fresh.nil (w : World) : Fresh w (.slice none 0 0) := fun _ _ _ h => by injection h with h1; cases h1
theorem Fresh.mk {w : World} {g k c : Nat} (h : w.heap.size ≤ g) : Fresh w (.slice (some ⟨g, 0, none⟩) k c) := fun g' _ _ q => by
  injection q with q1; injection q1 with q2; injection q2 with q3; omega

/-- A rule as a value, its table at v. -/
def Out.val (o : Out) (v : Value) : Value := .agg #[.int .i64 o.kind, .int .i64 o.born, .int .i64 o.stay, .int .i64 o.states, .int .i64 o.radius, v, .string o.turns]

theorem ris_le (s : ByteArray) (i : Nat) (h : i ≤ s.size) : (ris s i).2 ≤ s.size := by
  have H : ∀ f i low acc, i + f = s.size → (risF s f i low acc).2 ≤ s.size := by
    intro f
    induction f with
    | zero => intro i low acc e; simp [risF]; omega
    | succ f ih =>
      intro i low acc e
      unfold risF
      split
      · exact ih _ _ _ (by omega)
      · simp; omega
  exact H _ _ _ _ (by omega)

/-- The cells of a new rule. -/
def zeroCells : Array Value := #[.int .i64 0, .int .i64 0, .int .i64 0, .int .i64 0, .int .i64 0, .slice none 0 0, .string ⟨#[]⟩]

/-- A block that the call made ahead still lies there. -/
theorem Rd.made {b : Nat} {w w' : World} {C : Array Value} {t : TypeId} (h : Rd b (w.alloc (.cells C t)) w') (hb : b < w.heap.size) :
    (∀ j, w'.cell? ⟨w.heap.size, j, none⟩ = C[j]?) ∧ (∀ j, w'.frozen? ⟨w.heap.size, j, none⟩ = false) := by
  refine ⟨fun j => ?_, fun j => ?_⟩
  · rw [h.cell w.heap.size j (by simp) (by omega)]; simp
  · rw [h.frozen w.heap.size j (by simp) (by omega)]; simp

theorem Rd.un {b : Nat} {w w' : World} {O : Obj} (h : Rd b (w.alloc O) w') : Rd b w w' := (Rd.alloc (Rd.refl b w) O).trans h
theorem set7_at {b : Nat} {s : ByteArray} {i : Nat} {w : World} (h : At b s i w) {g : Nat} {v0 v1 v2 v3 v4 v5 v6 : Value} (hg : b ≠ g) :
    At b s i (((((((w.setCell ⟨g, 0, none⟩ v0).setCell ⟨g, 1, none⟩ v1).setCell ⟨g, 2, none⟩ v2).setCell ⟨g, 3, none⟩ v3).setCell ⟨g, 4, none⟩ v4).setCell ⟨g, 5, none⟩ v5).setCell ⟨g, 6, none⟩ v6) :=
  ((((((h.setOther hg v0).setOther hg v1).setOther hg v2).setOther hg v3).setOther hg v4).setOther hg v5).setOther hg v6
theorem set7_rd {b : Nat} {w w' : World} (h : Rd b w w') {g : Nat} {v0 v1 v2 v3 v4 v5 v6 : Value} (hg : w.heap.size ≤ g) :
    Rd b w (((((((w'.setCell ⟨g, 0, none⟩ v0).setCell ⟨g, 1, none⟩ v1).setCell ⟨g, 2, none⟩ v2).setCell ⟨g, 3, none⟩ v3).setCell ⟨g, 4, none⟩ v4).setCell ⟨g, 5, none⟩ v5).setCell ⟨g, 6, none⟩ v6) :=
  ((((((h.setNew hg v0).setNew hg v1).setNew hg v2).setNew hg v3).setNew hg v4).setNew hg v5).setNew hg v6

set_option maxHeartbeats 800000 in
theorem life_any (b : Nat) (s : ByteArray) (w : World) (h : At b s 1 w) (hs : s.size ≤ maxLen) (h1 : 1 ≤ s.size) (o : Out) (p : Nat) (hok : lifeS s = .inl (o, p)) :
    Calls Tryd.prog 108 #[.pointer (some ⟨b, 0, none⟩)] w fun e w' => e = .returned (o.val (.slice none 0 0)) ∧ At b s p w' ∧ Rd b w w' ∧ p ≤ s.size ∧ o.table = [] := by
  unfold lifeS at hok
  cases hA : inR s (ris s 1).2 47 47 with
  | false => simp [hA] at hok
  | true =>
  cases hB : inR s ((ris s 1).2 + 1) 83 83 with
  | false => simp [hA, hB] at hok
  | true =>
  simp [hA, hB] at hok
  obtain ⟨rfl, rfl⟩ := hok
  have H0 : Hid (At b s 1 w) := h
  have hlt := h.lt
  clear h
  have hb2 := (inR_true.1 hB).1
  go_enter Tryd.func108, Tryd.ntmps108
  go_wp2_with fail
  refine (bits_any b s 1 _ (H0.out.alloc _) hs h1).mono ?_
  rintro e w1 ⟨rfl, a1, r1, l1⟩
  have A1 : Hid (At b s (ris s 1).2 w1) := a1
  clear a1
  go_wp2_with fail
  refine (expect_yes b s (ris s 1).2 47 _ A1.out hs hA).mono ?_
  rintro e w2 ⟨rfl, a2, r2⟩
  have A2 : Hid (At b s ((ris s 1).2 + 1) w2) := a2
  clear a2
  go_wp2_with fail
  refine (expect_yes b s ((ris s 1).2 + 1) 83 _ A2.out hs hB).mono ?_
  rintro e w3 ⟨rfl, a3, r3⟩
  have A3 : Hid (At b s ((ris s 1).2 + 1 + 1) w3) := a3
  clear a3
  go_wp2_with fail
  refine (bits_any b s ((ris s 1).2 + 2) _ A3.out hs (by omega)).mono ?_
  rintro e w4 ⟨rfl, a4, r4, l4⟩
  have A4 : Hid (At b s (ris s ((ris s 1).2 + 2)).2 w4) := a4
  have R4 := ((r1.trans r2).trans r3).trans r4
  obtain ⟨hc, hf⟩ := R4.made hlt
  have HR : Hid (Rd b (w.alloc (.cells zeroCells 24)) w4) := R4
  have c0 := hc 0
  have c1 := hc 1
  have c2 := hc 2
  have c3 := hc 3
  have c4 := hc 4
  have c5 := hc 5
  have c6 := hc 6
  simp at c0 c1 c2 c3 c4 c5 c6
  clear hc a4 r1 r2 r3 r4 R4
  go_wp2
  refine bodyPost_ret (v := Out.val ⟨1, (ris s 1).1, (ris s ((ris s 1).2 + 2)).1, 0, 0, [], ⟨#[]⟩⟩ (.slice none 0 0)) (by simp [results, Tryd.results108, go_sem, Out.val, c0, c1, c2, c3, c4, c5, c6]) rfl ?_
  exact ⟨rfl, set7_at A4.out (by omega), set7_rd (HR.out.un) (by omega), l4, trivial⟩
end Go.Proofs.YtpbcgojfpmpgpaaDoor
