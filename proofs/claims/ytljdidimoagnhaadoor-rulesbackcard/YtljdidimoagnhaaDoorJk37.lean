/-
  What the last text of this claim leans on, part 37: Pr15, Pr16, Pr17.
-/
import Derived.Test.YtljdidimoagnhaaDoorJk26
namespace Go.Proofs.YtljdidimoagnhaaDoor
open Go.RowKit
set_option linter.unusedVariables false

/-- At block g a list of n ints of the call's own; what stands at f i, for i below k, is xs' i-th. -/
structure ScI (w0 w : World) (g n k : Nat) (f : Nat → Nat) (xs : List Int) : Prop where
  below : Below w0.heap.size w0 w
  ge : w0.heap.size ≤ g
  lt : g < w.heap.size
  cells : ∀ j, j < n → ∃ v, w.cell? ⟨g, j, none⟩ = some v ∧ (∀ i, i < k → f i = j → v = .int .i64 (xs.getD i 0))
  fz : ∀ j, w.frozen? ⟨g, j, none⟩ = false
theorem ScI.start (w : World) (n : Nat) (f : Nat → Nat) (xs : List Int) (z : Value) (t : TypeId) : ScI w (w.alloc (.cells (madeCells #[z] n) t)) w.heap.size n 0 f xs := by
  refine ⟨(Below.refl _ _).alloc (Nat.le_refl _) _, Nat.le_refl _, by simp, fun j hj => ⟨(madeCells #[z] n)[j]'(by rw [size_madeCells]; exact hj), ?_, fun i hi => by omega⟩, fun j => by simp⟩
  rw [World.cell?_alloc_at _ _ _ _ rfl]
  exact Array.getElem?_eq_getElem (by rw [size_madeCells]; exact hj)
theorem ScI.step {w0 w : World} {g n k : Nat} {f : Nat → Nat} {xs : List Int} (h : ScI w0 w g n k f xs) (hk : f k < n) (hinj : ∀ i, i < k → f i ≠ f k) {x : Int} (hx : xs.getD k 0 = x) : ScI w0 (w.setCell ⟨g, f k, none⟩ (.int .i64 x)) g n (k + 1) f xs := by
  refine ⟨h.below.setCell h.ge _, h.ge, by rw [World.size_setCell]; exact h.lt, fun j hj => ?_, fun j => by rw [World.frozen?_setCell]; exact h.fz j⟩
  by_cases e : j = f k
  · subst e
    obtain ⟨v, hv, -⟩ := h.cells _ hj
    refine ⟨_, World.cell?_setCell_same _ _ _ hv, fun i hi he => ?_⟩
    by_cases q : i = k
    · subst q; rw [hx]
    · exact absurd he (hinj i (by omega))
  · obtain ⟨v, hv, hv'⟩ := h.cells j hj
    refine ⟨v, ?_, fun i hi he => hv' i (by have : i ≠ k := fun q => e (by rw [← he, q]); omega) he⟩
    exact (World.cell?_setCell_other _ ⟨g, f k, none⟩ ⟨g, j, none⟩ _ (fun q => e (congrArg Addr.off q).symm)).trans hv

/-- The rule's table, mirrored. -/
def mirT (o : Out) (j : Nat) : Int := o.table.getD (rv o.states.toNat (2 * o.radius.toNat + 1) 0 j) 0

set_option maxHeartbeats 1600000 in
theorem mirrorTable_any (o : Out) (a : Option Addr) (n c s r : Nat) (w : World) (hR : ArgR w o a n c) (hs : o.states = (s : Int)) (hr : o.radius = (r : Int)) (hs2 : 2 ≤ s) (hs4 : s ≤ 4) (hr10 : r ≤ 10) (hn : n = s ^ (2 * r + 1)) (hn4 : n ≤ 4096) :
    Calls Tryd.prog 85 #[.agg #[.int .i64 o.kind, .int .i64 o.born, .int .i64 o.stay, .int .i64 (s : Int), .int .i64 (r : Int), .slice a n c, .string o.turns]] w fun e w' => e = .returned (.slice (some ⟨w.heap.size + 1, 0, none⟩) n n) ∧ Below w.heap.size w w' ∧ ∀ j, j < n → w'.cell? ⟨w.heap.size + 1, j, none⟩ = some (.int .i64 (mirT o j)) := by
  have hlen := hR.len
  have HR := hide' hR
  have HL := hide' hlen
  have HS := hide' hs
  have HQ := hide' hr
  have HN := hide' hn
  have hmk := run_make_row' (P := Tryd.prog) 22 3 (.int .i64 0) 8 Tryd.underlying22 info_int rfl .i64 .i64 n (by omega) (by omega)
  clear hR hlen hs hr hn
  go_enter Tryd.func85, Tryd.ntmps85
  obtain ⟨W0, hW0⟩ : ∃ W0, W0 = w.alloc (.cells #[.int .i64 o.kind, .int .i64 o.born, .int .i64 o.stay, .int .i64 (s : Int), .int .i64 (r : Int), .slice a n c, .string o.turns] 24) := ⟨_, rfl⟩
  have c3 : W0.cell? ⟨w.heap.size, 3, none⟩ = some (.int .i64 (s : Int)) := by rw [hW0]; exact cell_new_at _ _ _ _
  have c4 : W0.cell? ⟨w.heap.size, 4, none⟩ = some (.int .i64 (r : Int)) := by rw [hW0]; exact cell_new_at _ _ _ _
  have c5 : W0.cell? ⟨w.heap.size, 5, none⟩ = some (.slice a n c) := by rw [hW0]; exact cell_new_at _ _ _ _
  have z0 : W0.heap.size = w.heap.size + 1 := by rw [hW0]; simp
  have BW := hide' (show Below w.heap.size w W0 by rw [hW0]; exact (Below.refl _ _).alloc (Nat.le_refl _) _)
  have S := hide' (ScI.start W0 n (rv s (2 * r + 1) 0) o.table (.int .i64 0) 3)
  have F := hide' (show s ^ (2 * r + 1) ≤ 4096 by have := HN.out; omega)
  go_upto_region 1 with fail
  rw [← hW0]
  have C3 := hide' c3
  have C4 := hide' c4
  clear hW0
  go_wp2
  rw [z0] at S
  go_loopw [13] (fun kv wr => ∃ k : Nat, kv = .int .i64 (k : Int) ∧ k ≤ n ∧ ScI W0 wr (w.heap.size + 1) n k (rv s (2 * r + 1) 0) o.table) (fun kv _ => n - (intOf kv).toNat)
  case atStart => exact ⟨0, rfl, by omega, S.out⟩
  case round =>
    obtain ⟨k, rfl, hk, fk⟩ := hrel
    have FK := hide' fk
    clear hmk S c3 c4 c5
    by_cases d : (k : Int) < (n : Int)
    · have hkl : k < o.table.length := by have := HL.out; omega
      obtain ⟨g, off, rfl, hg, hc⟩ := (HR.out.below (BW.out.trans (fk.below.mono (by omega)))).cells k hkl
      have c3 := (fk.below.cell (p := ⟨w.heap.size, 3, none⟩) (by simp; omega)).trans C3.out
      have c4 := (fk.below.cell (p := ⟨w.heap.size, 4, none⟩) (by simp; omega)).trans C4.out
      have hkp : k < s ^ (2 * r + 1) := by rw [← HN.out]; omega
      have hlt : rv s (2 * r + 1) 0 k < n := by rw [HN.out]; exact rv_lt s (by omega) _ _
      have hinj : ∀ i, i < k → rv s (2 * r + 1) 0 i ≠ rv s (2 * r + 1) 0 k := fun i hi he => by
        have h1 := rv_rv s (by omega) (2 * r + 1) i (by omega)
        have h2 := rv_rv s (by omega) (2 * r + 1) k hkp
        rw [he, h2] at h1
        omega
      have HI := hide' hinj
      have HLT := hide' hlt
      have M0 := mirrorWindow_any k s (2 * r + 1) wr hs2 hs4 (by omega) F.out hkp
      rw [show ((2 * r + 1 : Nat) : Int) = 2 * (r : Int) + 1 by simp] at M0
      have M := hide' M0
      clear M0
      have hget : o.table.getD k 0 = o.table[k] := by simp [List.getD, hkl]
      have HG := hide' hget
      obtain ⟨v, hv, -⟩ := fk.cells _ hlt
      have hf := fk.fz (rv s (2 * r + 1) 0 k)
      obtain ⟨q, hq⟩ : ∃ q, q = rv s (2 * r + 1) 0 k := ⟨_, rfl⟩
      rw [← hq] at hv hf hlt
      have Hq := hide' hq
      clear hinj hget fk hkp hq
      go_wp2_with fail
      refine M.out.mono ?_
      rw [← Hq.out]
      rintro e w2 ⟨rfl, rfl⟩
      go_wp2
      refine ⟨⟨k + 1, by go_num, by omega, ?_⟩, by simp [intOf]; omega⟩
      rw [Hq.out]
      exact FK.out.step HLT.out HI.out HG.out
    · have K := hide' (show k = n by omega)
      clear fk
      go_wp2
      go_ret
      refine ⟨rfl, BW.out.trans (FK.out.below.mono (by omega)), fun j hj => ?_⟩
      obtain ⟨v, hv, hv'⟩ := FK.out.cells j hj
      have hjp : j < s ^ (2 * r + 1) := by rw [← HN.out]; exact hj
      have h1 := hv' (rv s (2 * r + 1) 0 j) (by rw [K.out, HN.out]; exact rv_lt s (by omega) _ _) (rv_rv s (by omega) _ j hjp)
      rw [hv, h1]
      unfold mirT
      rw [HS.out, HQ.out]
      rfl
end Go.Proofs.YtljdidimoagnhaaDoor

namespace Go.Proofs.YtljdidimoagnhaaDoor
open Go.RowKit
set_option linter.unusedVariables false

/-- The turn that mirrors the i-th. -/
def mirU (t : ByteArray) (i : Nat) : UInt8 := if bt t i = 76 then 82 else 76
theorem FillB.poke {w0 w : World} {g n k : Nat} {f : Nat → UInt8} (h : FillB w0 w g n k f) (hk : k < n) (x : Value) : FillB w0 (w.setCell ⟨g, k, none⟩ x) g n k f := by
  refine ⟨h.below.setCell h.ge _, h.ge, by rw [World.size_setCell]; exact h.lt, fun j hj => ?_, fun j => by rw [World.frozen?_setCell]; exact h.fz j⟩
  by_cases e : j = k
  · subst e
    obtain ⟨v, hv, -⟩ := h.cells j hj
    exact ⟨_, World.cell?_setCell_same _ _ _ hv, fun q => by omega⟩
  · obtain ⟨v, hv, hv'⟩ := h.cells j hj
    exact ⟨v, (World.cell?_setCell_other _ ⟨g, k, none⟩ ⟨g, j, none⟩ _ (fun q => e (congrArg Addr.off q).symm)).trans hv, hv'⟩

set_option maxHeartbeats 1600000 in
theorem mirrorTurns_any (t : ByteArray) (n : Nat) (w : World) (hn : n = t.size) (hn4 : n ≤ 26) :
    Calls Tryd.prog 86 #[.string t] w fun e w' => e = .returned (.string ⟨((List.range t.size).map (mirU t)).toArray⟩) ∧ Below w.heap.size w w' := by
  have ht : t.size ≤ 26 := by omega
  have hmk := run_make_row' (P := Tryd.prog) 105 5 (.int .u8 0) 1 Tryd.underlying105 info_u8 rfl .i64 .i64 t.size (by omega) (by omega)
  have S := hide' (FillB.start w t.size (mirU t) (.int .u8 0) 5)
  clear hn hn4
  go_enter Tryd.func86, Tryd.ntmps86
  go_wp2
  go_loopw [4] (fun kv wr => ∃ k : Nat, kv = .int .i64 (k : Int) ∧ k ≤ t.size ∧ FillB w wr w.heap.size t.size k (mirU t)) (fun kv _ => t.size - (intOf kv).toNat)
  case atStart => exact ⟨0, rfl, by omega, S.out⟩
  case round =>
    obtain ⟨k, rfl, hk, fk⟩ := hrel
    have FK := hide' fk
    clear hmk S
    by_cases c : k < t.size
    · have c' : (k : Int) < (t.size : Int) := by omega
      have e := bt_lt t k c
      obtain ⟨v, hv, -⟩ := fk.cells k (by omega)
      have hf := fk.fz k
      have hv2 := World.cell?_setCell_same wr ⟨w.heap.size, k, none⟩ (.int .u8 76) hv
      have hf2 := (fk.poke c (.int .u8 76)).fz k
      by_cases d : bt t k = 76
      · have D := hide' d
        have q : ((t[k].toNat : Int) == 76) = true := by simp; omega
        clear d e fk
        go_wp2
        exact ⟨⟨k + 1, by go_num, by omega, (FK.out.poke c _).step c (by unfold mirU; rw [if_pos D.out]; rfl)⟩, by simp [intOf]; omega⟩
      · have D := hide' d
        have q : ((t[k].toNat : Int) == 76) = false := by simp; omega
        clear d e fk
        go_wp2
        exact ⟨⟨k + 1, by go_num, by omega, FK.out.step c (by unfold mirU; rw [if_neg D.out]; rfl)⟩, by simp [intOf]; omega⟩
    · have K := hide' (show k = t.size by omega)
      have c' : ¬ (k : Int) < (t.size : Int) := by omega
      have ff := FK.out
      rw [K.out] at ff
      have hcv := ff.string (cap := t.size)
      clear fk ff
      go_wp2
      go_ret
      exact ⟨rfl, FK.out.below⟩
end Go.Proofs.YtljdidimoagnhaaDoor

namespace Go.Proofs.YtljdidimoagnhaaDoor
open Go.RowKit
set_option linter.unusedVariables false

set_option maxRecDepth 100000 in
set_option maxHeartbeats 3200000 in
theorem Mirror_bad (o : Out) (a : Option Addr) (n c : Nat) (w : World) (hR : ArgR w o a n c) (hg : ¬ Good o) :
    Calls Tryd.prog 24 #[.agg #[.int .i64 o.kind, .int .i64 o.born, .int .i64 o.stay, .int .i64 o.states, .int .i64 o.radius, .slice a n c, .string o.turns]] w fun e w' => e = .returned (.tuple #[.agg zeroCells, .iface 97 (.int .i64 1)]) ∧ Below w.heap.size w w' := by
  have HR := hide' hR
  have A0 := hide' ((hR.alloc (.cells #[.int .i64 o.kind, .int .i64 o.born, .int .i64 o.stay, .int .i64 o.states, .int .i64 o.radius, .slice a n c, .string o.turns] 24)).alloc (.cells zeroCells 24))
  clear hR
  go_enter Tryd.func24, Tryd.ntmps24
  go_wp2_with fail
  refine (Check_any o a n c _ A0.out).mono ?_
  rintro e w1 ⟨he, b1⟩
  have BW := hide' ((((Below.refl _ _).alloc (Nat.le_refl _) (.cells #[.int .i64 o.kind, .int .i64 o.born, .int .i64 o.stay, .int .i64 o.states, .int .i64 o.radius, .slice a n c, .string o.turns] 24)).alloc (by simp) (.cells zeroCells 24)).trans (b1.mono (by simp; omega)) : Below w.heap.size w w1)
  have x0 := b1.cell (p := ⟨w.heap.size, 0, none⟩) (by simp; omega)
  have y0 := b1.cell (p := ⟨w.heap.size + 1, 0, none⟩) (by simp)
  have y1 := b1.cell (p := ⟨w.heap.size + 1, 1, none⟩) (by simp)
  have y2 := b1.cell (p := ⟨w.heap.size + 1, 2, none⟩) (by simp)
  have y3 := b1.cell (p := ⟨w.heap.size + 1, 3, none⟩) (by simp)
  have y4 := b1.cell (p := ⟨w.heap.size + 1, 4, none⟩) (by simp)
  have y5 := b1.cell (p := ⟨w.heap.size + 1, 5, none⟩) (by simp)
  have y6 := b1.cell (p := ⟨w.heap.size + 1, 6, none⟩) (by simp)
  have f0 := World.frozen?_of_block (a := ⟨w.heap.size + 1, 0, none⟩) (b1.block (w.heap.size + 1) (by simp))
  have f1 := World.frozen?_of_block (a := ⟨w.heap.size + 1, 1, none⟩) (b1.block (w.heap.size + 1) (by simp))
  have f2 := World.frozen?_of_block (a := ⟨w.heap.size + 1, 2, none⟩) (b1.block (w.heap.size + 1) (by simp))
  have f3 := World.frozen?_of_block (a := ⟨w.heap.size + 1, 3, none⟩) (b1.block (w.heap.size + 1) (by simp))
  have f4 := World.frozen?_of_block (a := ⟨w.heap.size + 1, 4, none⟩) (b1.block (w.heap.size + 1) (by simp))
  have f5 := World.frozen?_of_block (a := ⟨w.heap.size + 1, 5, none⟩) (b1.block (w.heap.size + 1) (by simp))
  have f6 := World.frozen?_of_block (a := ⟨w.heap.size + 1, 6, none⟩) (b1.block (w.heap.size + 1) (by simp))
  have hsz := b1.size
  simp [zeroCells] at x0 hsz y0 f0 y1 f1 y2 f2 y3 f3 y4 f4 y5 f5 y6 f6
  clear b1 A0
  rcases he with ⟨rfl, g⟩ | ⟨rfl, g⟩
  case inl => exact absurd g hg
  clear hg g
  go_wp2
  refine bodyPost_ret (v := .tuple #[.agg zeroCells, .iface 97 (.int .i64 1)]) (by simp [results, Tryd.results24, go_sem, zeroCells, y0, y1, y2, y3, y4, y5, y6]) rfl ?_
  exact ⟨rfl, setRule_below BW.out (by simp) _ _ _ _ _ _ _⟩

set_option maxRecDepth 100000 in
set_option maxHeartbeats 3200000 in
theorem Mirror_life (o : Out) (a : Option Addr) (n c : Nat) (w : World) (hR : ArgR w o a n c) (hg : Good o) (hk : o.kind = 1) :
    Calls Tryd.prog 24 #[.agg #[.int .i64 o.kind, .int .i64 o.born, .int .i64 o.stay, .int .i64 o.states, .int .i64 o.radius, .slice a n c, .string o.turns]] w fun e w' => e = .returned (.tuple #[.agg #[.int .i64 1, .int .i64 o.born, .int .i64 o.stay, .int .i64 0, .int .i64 0, .slice none 0 0, .string ⟨#[]⟩], .nilIface]) ∧ Below w.heap.size w w' := by
  have k1 : (o.kind == 1) = true := by simp; omega
  clear hk
  have HR := hide' hR
  have A0 := hide' ((hR.alloc (.cells #[.int .i64 o.kind, .int .i64 o.born, .int .i64 o.stay, .int .i64 o.states, .int .i64 o.radius, .slice a n c, .string o.turns] 24)).alloc (.cells zeroCells 24))
  clear hR
  go_enter Tryd.func24, Tryd.ntmps24
  go_wp2_with fail
  refine (Check_any o a n c _ A0.out).mono ?_
  rintro e w1 ⟨he, b1⟩
  have BW := hide' ((((Below.refl _ _).alloc (Nat.le_refl _) (.cells #[.int .i64 o.kind, .int .i64 o.born, .int .i64 o.stay, .int .i64 o.states, .int .i64 o.radius, .slice a n c, .string o.turns] 24)).alloc (by simp) (.cells zeroCells 24)).trans (b1.mono (by simp; omega)) : Below w.heap.size w w1)
  have x0 := b1.cell (p := ⟨w.heap.size, 0, none⟩) (by simp; omega)
  have x1 := b1.cell (p := ⟨w.heap.size, 1, none⟩) (by simp; omega)
  have x2 := b1.cell (p := ⟨w.heap.size, 2, none⟩) (by simp; omega)
  have y0 := b1.cell (p := ⟨w.heap.size + 1, 0, none⟩) (by simp)
  have y1 := b1.cell (p := ⟨w.heap.size + 1, 1, none⟩) (by simp)
  have y2 := b1.cell (p := ⟨w.heap.size + 1, 2, none⟩) (by simp)
  have y3 := b1.cell (p := ⟨w.heap.size + 1, 3, none⟩) (by simp)
  have y4 := b1.cell (p := ⟨w.heap.size + 1, 4, none⟩) (by simp)
  have y5 := b1.cell (p := ⟨w.heap.size + 1, 5, none⟩) (by simp)
  have y6 := b1.cell (p := ⟨w.heap.size + 1, 6, none⟩) (by simp)
  have f0 := World.frozen?_of_block (a := ⟨w.heap.size + 1, 0, none⟩) (b1.block (w.heap.size + 1) (by simp))
  have f1 := World.frozen?_of_block (a := ⟨w.heap.size + 1, 1, none⟩) (b1.block (w.heap.size + 1) (by simp))
  have f2 := World.frozen?_of_block (a := ⟨w.heap.size + 1, 2, none⟩) (b1.block (w.heap.size + 1) (by simp))
  have f3 := World.frozen?_of_block (a := ⟨w.heap.size + 1, 3, none⟩) (b1.block (w.heap.size + 1) (by simp))
  have f4 := World.frozen?_of_block (a := ⟨w.heap.size + 1, 4, none⟩) (b1.block (w.heap.size + 1) (by simp))
  have f5 := World.frozen?_of_block (a := ⟨w.heap.size + 1, 5, none⟩) (b1.block (w.heap.size + 1) (by simp))
  have f6 := World.frozen?_of_block (a := ⟨w.heap.size + 1, 6, none⟩) (b1.block (w.heap.size + 1) (by simp))
  have hsz := b1.size
  simp [zeroCells] at x0 x1 x2 hsz y0 f0 y1 f1 y2 f2 y3 f3 y4 f4 y5 f5 y6 f6
  clear b1 A0
  rcases he with ⟨rfl, g⟩ | ⟨rfl, g⟩
  case inr => exact absurd hg g
  clear hg g
  go_wp2
  refine bodyPost_ret (v := .tuple #[.agg #[.int .i64 1, .int .i64 o.born, .int .i64 o.stay, .int .i64 0, .int .i64 0, .slice none 0 0, .string ⟨#[]⟩], .nilIface]) (by simp [results, Tryd.results24, go_sem, y0, y1, y2, y3, y4, y5, y6]) rfl ?_
  exact ⟨rfl, setRule_below BW.out (by simp) _ _ _ _ _ _ _⟩

set_option maxRecDepth 100000 in
set_option maxHeartbeats 3200000 in
theorem Mirror_turns (o : Out) (a : Option Addr) (n c : Nat) (w : World) (hR : ArgR w o a n c) (hg : Good o) (hk : o.kind = 3) (ht : o.turns.size ≤ 26) :
    Calls Tryd.prog 24 #[.agg #[.int .i64 o.kind, .int .i64 o.born, .int .i64 o.stay, .int .i64 o.states, .int .i64 o.radius, .slice a n c, .string o.turns]] w fun e w' => e = .returned (.tuple #[.agg #[.int .i64 3, .int .i64 0, .int .i64 0, .int .i64 0, .int .i64 0, .slice none 0 0, .string ⟨((List.range o.turns.size).map (mirU o.turns)).toArray⟩], .nilIface]) ∧ Below w.heap.size w w' := by
  have k1 : (o.kind == 1) = false := by simp; omega
  have k2 : (o.kind == 2) = false := by simp; omega
  clear hk
  have HR := hide' hR
  have A0 := hide' ((hR.alloc (.cells #[.int .i64 o.kind, .int .i64 o.born, .int .i64 o.stay, .int .i64 o.states, .int .i64 o.radius, .slice a n c, .string o.turns] 24)).alloc (.cells zeroCells 24))
  clear hR
  go_enter Tryd.func24, Tryd.ntmps24
  go_wp2_with fail
  refine (Check_any o a n c _ A0.out).mono ?_
  rintro e w1 ⟨he, b1⟩
  have BW := hide' ((((Below.refl _ _).alloc (Nat.le_refl _) (.cells #[.int .i64 o.kind, .int .i64 o.born, .int .i64 o.stay, .int .i64 o.states, .int .i64 o.radius, .slice a n c, .string o.turns] 24)).alloc (by simp) (.cells zeroCells 24)).trans (b1.mono (by simp; omega)) : Below w.heap.size w w1)
  have x0 := b1.cell (p := ⟨w.heap.size, 0, none⟩) (by simp; omega)
  have x6 := b1.cell (p := ⟨w.heap.size, 6, none⟩) (by simp; omega)
  have y0 := b1.cell (p := ⟨w.heap.size + 1, 0, none⟩) (by simp)
  have y1 := b1.cell (p := ⟨w.heap.size + 1, 1, none⟩) (by simp)
  have y2 := b1.cell (p := ⟨w.heap.size + 1, 2, none⟩) (by simp)
  have y3 := b1.cell (p := ⟨w.heap.size + 1, 3, none⟩) (by simp)
  have y4 := b1.cell (p := ⟨w.heap.size + 1, 4, none⟩) (by simp)
  have y5 := b1.cell (p := ⟨w.heap.size + 1, 5, none⟩) (by simp)
  have y6 := b1.cell (p := ⟨w.heap.size + 1, 6, none⟩) (by simp)
  have f0 := World.frozen?_of_block (a := ⟨w.heap.size + 1, 0, none⟩) (b1.block (w.heap.size + 1) (by simp))
  have f1 := World.frozen?_of_block (a := ⟨w.heap.size + 1, 1, none⟩) (b1.block (w.heap.size + 1) (by simp))
  have f2 := World.frozen?_of_block (a := ⟨w.heap.size + 1, 2, none⟩) (b1.block (w.heap.size + 1) (by simp))
  have f3 := World.frozen?_of_block (a := ⟨w.heap.size + 1, 3, none⟩) (b1.block (w.heap.size + 1) (by simp))
  have f4 := World.frozen?_of_block (a := ⟨w.heap.size + 1, 4, none⟩) (b1.block (w.heap.size + 1) (by simp))
  have f5 := World.frozen?_of_block (a := ⟨w.heap.size + 1, 5, none⟩) (b1.block (w.heap.size + 1) (by simp))
  have f6 := World.frozen?_of_block (a := ⟨w.heap.size + 1, 6, none⟩) (b1.block (w.heap.size + 1) (by simp))
  have hsz := b1.size
  simp [zeroCells] at x0 x6 hsz y0 f0 y1 f1 y2 f2 y3 f3 y4 f4 y5 f5 y6 f6
  clear b1 A0
  rcases he with ⟨rfl, g⟩ | ⟨rfl, g⟩
  case inr => exact absurd hg g
  clear hg g
  go_wp2_with fail
  refine (mirrorTurns_any o.turns o.turns.size _ rfl ht).mono ?_
  rintro e w2 ⟨rfl, b2⟩
  have B2 := hide' (BW.out.trans (b2.mono BW.out.size))
  have z0 := (b2.cell (p := ⟨w.heap.size + 1, 0, none⟩) (by simp; omega)).trans y0
  have g0 := (World.frozen?_of_block (a := ⟨w.heap.size + 1, 0, none⟩) (b2.block (w.heap.size + 1) (by omega))).trans f0
  have z1 := (b2.cell (p := ⟨w.heap.size + 1, 1, none⟩) (by simp; omega)).trans y1
  have g1 := (World.frozen?_of_block (a := ⟨w.heap.size + 1, 1, none⟩) (b2.block (w.heap.size + 1) (by omega))).trans f1
  have z2 := (b2.cell (p := ⟨w.heap.size + 1, 2, none⟩) (by simp; omega)).trans y2
  have g2 := (World.frozen?_of_block (a := ⟨w.heap.size + 1, 2, none⟩) (b2.block (w.heap.size + 1) (by omega))).trans f2
  have z3 := (b2.cell (p := ⟨w.heap.size + 1, 3, none⟩) (by simp; omega)).trans y3
  have g3 := (World.frozen?_of_block (a := ⟨w.heap.size + 1, 3, none⟩) (b2.block (w.heap.size + 1) (by omega))).trans f3
  have z4 := (b2.cell (p := ⟨w.heap.size + 1, 4, none⟩) (by simp; omega)).trans y4
  have g4 := (World.frozen?_of_block (a := ⟨w.heap.size + 1, 4, none⟩) (b2.block (w.heap.size + 1) (by omega))).trans f4
  have z5 := (b2.cell (p := ⟨w.heap.size + 1, 5, none⟩) (by simp; omega)).trans y5
  have g5 := (World.frozen?_of_block (a := ⟨w.heap.size + 1, 5, none⟩) (b2.block (w.heap.size + 1) (by omega))).trans f5
  have z6 := (b2.cell (p := ⟨w.heap.size + 1, 6, none⟩) (by simp; omega)).trans y6
  have g6 := (World.frozen?_of_block (a := ⟨w.heap.size + 1, 6, none⟩) (b2.block (w.heap.size + 1) (by omega))).trans f6
  clear b2
  go_wp2
  refine bodyPost_ret (v := .tuple #[.agg #[.int .i64 3, .int .i64 0, .int .i64 0, .int .i64 0, .int .i64 0, .slice none 0 0, .string ⟨((List.range o.turns.size).map (mirU o.turns)).toArray⟩], .nilIface]) (by simp [results, Tryd.results24, go_sem, z0, z1, z2, z3, z4, z5, z6]) rfl ?_
  exact ⟨rfl, setRule_below B2.out (by simp) _ _ _ _ _ _ _⟩

end Go.Proofs.YtljdidimoagnhaaDoor

