/-
  What the last text of this claim leans on, part 30: Pr22.
-/
import Derived.Test.YtjngjnkecnnmeaaDoorJp29
import Derived.Test.YtjngjnkecnnmeaaDoorJp13
namespace Go.Proofs.YtjngjnkecnnmeaaDoor
open Go.RowKit
set_option linter.unusedVariables false

theorem RefM.mid {w wr w' : World} {o : Out} {a : Option Addr} {n c : Nat} {x : Int} {v : Value} {xs : List Int} (h : RefM w wr o a n c v xs)
    (hg : (wr.alloc (.cells #[.int .i64 x] 3)).grownBy w' v.ownBlock) : w'.cell? ⟨w.heap.size + 1 + 1, 5, none⟩ = some v ∧ w'.frozen? ⟨w.heap.size + 1 + 1, 5, none⟩ = false := by
  have hz := h.size
  have hob := ownsRow_block h.own
  have hb : w'.heap[w.heap.size + 1 + 1]? = wr.heap[w.heap.size + 1 + 1]? := by
    rw [hg.block _ (by rw [World.size_alloc]; omega) (fun e => by have := hob _ e.symm; omega)]
    exact Below.heap_alloc _ _ _ (by omega)
  exact ⟨(World.cell?_of_block (w := wr) (a := ⟨w.heap.size + 1 + 1, 5, none⟩) hb).trans h.mm.c5, (World.frozen?_of_block (w := wr) (a := ⟨w.heap.size + 1 + 1, 5, none⟩) hb).trans (h.fz _ 5 (by omega) (by omega))⟩
theorem RefM.start2 (w : World) (o : Out) (a : Option Addr) (n c : Nat) : RefM w (((w.alloc (.cells #[.int .i64 o.kind, .int .i64 o.born, .int .i64 o.stay, .int .i64 o.states, .int .i64 o.radius, .slice a n c, .string o.turns] 24)).alloc (.cells #[.int .i64 0, .int .i64 0, .int .i64 0, .int .i64 0, .int .i64 0, .slice none 0 0, .string ⟨#[]⟩] 24)).alloc (.cells #[.int .i64 o.kind, .int .i64 o.born, .int .i64 o.stay, .int .i64 o.states, .int .i64 o.radius, .slice none 0 0, .string o.turns] 24)) o a n c (.slice none 0 0) [] := by
  refine ⟨(((Below.refl _ _).alloc (Nat.le_refl _) _).alloc (by simp) _).alloc (by simp; omega) _, by simp, ?_, ?_, ?_, ?_, ⟨by simp, Or.inl ⟨rfl, by simp⟩⟩⟩
  · constructor <;> simp [go_sem]
  · constructor <;> simp [go_sem]
  · constructor <;> simp [go_sem]
  · intro b j h1 h2
    have h3 : b = w.heap.size ∨ b = w.heap.size + 1 ∨ b = w.heap.size + 1 + 1 := by omega
    rcases h3 with rfl | rfl | rfl <;> simp [go_sem]

set_option maxRecDepth 100000 in
set_option maxHeartbeats 3200000 in
theorem RefMirror_line (o : Out) (a : Option Addr) (n c s r : Nat) (w : World) (hR : ArgR w o a n c) (hk : o.kind = 2) (hs : o.states = (s : Int)) (hr : o.radius = (r : Int)) (hs2 : 2 ≤ s) (hs4 : s ≤ 4) (hr10 : r ≤ 10) (hn : n = s ^ (2 * r + 1)) (hn4 : n ≤ 4096) :
    Calls Tryd.prog 21 #[.agg #[.int .i64 o.kind, .int .i64 o.born, .int .i64 o.stay, .int .i64 (s : Int), .int .i64 (r : Int), .slice a n c, .string o.turns]] w fun e w' => (∃ v, e = .returned (.agg #[.int .i64 o.kind, .int .i64 o.born, .int .i64 o.stay, .int .i64 (s : Int), .int .i64 (r : Int), v, .string o.turns]) ∧ Tab w' v ((List.range n).map (mirT o))) ∧ Below w.heap.size w w' := by
  have k3 : (o.kind == 3) = false := by simp; omega
  have k2 : (o.kind == 2) = true := by simp; omega
  have S := RefM.start2 w o a n c
  rw [hs, hr] at S
  have HR := hide' hR
  have HS := hide' hs
  have HQ := hide' hr
  have HN := hide' hn
  have HL := hide' hR.len
  obtain ⟨i0, hi, hz0, hz1, hz2⟩ := info_parts info_int
  clear hk hR hs hr hn
  have S0 := hide' S
  clear S
  go_enter Tryd.func21, Tryd.ntmps21
  go_wp2
  go_loopw [6] (fun iv wr => ∃ (i : Nat) (v : Value), iv = .int .i64 (i : Int) ∧ i ≤ n ∧ RefM w wr o a n c v ((List.range i).map (mirT o))) (fun iv _ => n - (intOf iv).toNat)
  case atStart => exact ⟨0, .slice none 0 0, rfl, by omega, S0.out⟩
  case round =>
    obtain ⟨i, v, rfl, hi', hM⟩ := hrel
    have M := hide' hM
    have hz := hM.size
    have c2 := hM.arg.c0
    have c3 := hM.arg.c3
    have c4 := hM.arg.c4
    have c5 := hM.arg.c5
    rw [HS.out] at c3
    rw [HQ.out] at c4
    clear hM S0
    by_cases d : (i : Int) < (n : Int)
    · have W := Window_ref s (2 * r + 1) i wr hs2 hs4 (by omega) (by omega)
      rw [show ((2 * r + 1 : Nat) : Int) = 2 * (r : Int) + 1 by simp] at W
      have HW := hide' W
      clear W
      go_wp2_with fail
      refine HW.out.mono ?_
      rintro e w2 ⟨rfl, fd⟩
      have FD := hide' fd
      have M2 := hide' (M.out.next fd.below)
      have e3 := M2.out.arg.c3
      rw [HS.out] at e3
      clear fd
      go_wp2
      have F := hide' (show s ^ (2 * r + 1) ≤ 4096 by rw [← HN.out]; exact hn4)
      go_loopw [8, 9] (fun kv jv wx => ∃ q acc dd : Nat, jv = .int .i64 ((q : Int) - 1) ∧ kv = .int .i64 (acc : Int) ∧ q ≤ 2 * r + 1 ∧ acc ≤ 4096 ∧ wx = w2.drewN dd ∧ Hid (rv s q acc (i / s ^ (2 * r + 1 - q)) = rv s (2 * r + 1) 0 i ∧ acc < s ^ (2 * r + 1 - q))) (fun _ jv _ => (intOf jv + 1).toNat)
      case atStart => exact ⟨2 * r + 1, 0, 0, by simp, rfl, by omega, by omega, rfl, hide' (by simp)⟩
      case round =>
        obtain ⟨q, acc, dd, rfl, rfl, hq, hacc, rfl, HA⟩ := hrel
        by_cases d2 : (0 : Int) ≤ (q : Int) - 1
        · obtain ⟨p, rfl⟩ : ∃ p, q = p + 1 := ⟨q - 1, by omega⟩
          have e1 : ((p + 1 : Nat) : Int) - 1 = (p : Int) := by omega
          rw [e1]
          rw [e1] at d2
          obtain ⟨v1, hv1, hv2⟩ := FD.out.cells p (by omega)
          rw [hv2 (by omega)] at hv1
          have hpl : (p : Int) < 2 * (r : Int) + 1 := by omega
          have hpl2 : p < 2 * r + 1 := by omega
          obtain ⟨y, hy⟩ : ∃ y, y = winAt s (2 * r + 1) i p := ⟨_, rfl⟩
          rw [← hy] at hv1
          have hy4 : y < s := by rw [hy]; exact Nat.mod_lt _ (by omega)
          have HY := hide' hy
          clear e1 hv2 hy
          have q3 : (acc + 1) * s ≤ s ^ (2 * r + 1 - p) := by
            rw [show 2 * r + 1 - p = (2 * r + 1 - (p + 1)) + 1 by omega, Nat.pow_succ]; exact Nat.mul_le_mul_right _ HA.out.2
          have q4 : s ^ (2 * r + 1 - p) ≤ s ^ (2 * r + 1) := Nat.pow_le_pow_right (by omega) (by omega)
          have Q5 := hide' (show acc * s + y < s ^ (2 * r + 1 - p) by rw [Nat.add_mul, Nat.one_mul] at q3; omega)
          have Q6 := hide' (show acc * s + y ≤ 4096 by have := F.out; have := Q5.out; omega)
          clear q3 q4
          go_wp2
          go_quiet (fail)
          go_wp2
          rw [show ((acc : Int) * (s : Int)) = ((acc * s : Nat) : Int) by simp, wrapmul _ _ (by have := Q6.out; omega) (by omega)]
          refine ⟨⟨p, acc * s + y, dd + nq, rfl, rfl, by omega, Q6.out, rfl, hide' ⟨?_, Q5.out⟩⟩, by simp [intOf]⟩
          rw [← HA.out.1]
          show _ = rv s p (acc * s + i / s ^ (2 * r + 1 - (p + 1)) % s) (i / s ^ (2 * r + 1 - (p + 1)) / s)
          rw [Nat.div_div_eq_div_mul, ← Nat.pow_succ, show (2 * r + 1 - (p + 1)).succ = 2 * r + 1 - p by omega, HY.out]
          unfold winAt
          rw [show 2 * r + 1 - 1 - p = 2 * r + 1 - (p + 1) by omega]
        · have q0 : q = 0 := by omega
          have AC := hide' (show acc = rv s (2 * r + 1) 0 i by have h := HA.out.1; rw [q0] at h; exact h)
          have hlt : acc < n := by rw [AC.out, HN.out]; exact rv_lt s (by omega) _ _
          have M3 := hide' (M2.out.next (below_drewN (Below.refl w2.heap.size w2) dd))
          obtain ⟨wy, hwy⟩ : ∃ wy, wy = w2.drewN dd := ⟨_, rfl⟩
          rw [← hwy] at M3 ⊢
          clear hwy q0
          have hz3 := M3.out.size
          have ho := M3.out.own
          have d5 := M3.out.mm.c5
          have b5 := M3.out.arg.c5
          have y5 := M3.out.fz (w.heap.size + 1 + 1) 5 (by omega) (by omega)
          obtain ⟨sa, sn, sc, rfl⟩ := ownsRow_slice ho
          have hkl : acc < o.table.length := by have := HL.out; omega
          obtain ⟨g, off, rfl, hg, hc⟩ := (HR.out.below M3.out.below).cells acc hkl
          have HO := hide' ho
          have hai : (acc : Int) < (n : Int) := by omega
          have hll : ((List.range i).map (mirT o)).length = i := by simp
          have d6 : ∀ x, (wy.alloc x).cell? ⟨w.heap.size + 1 + 1, 5, none⟩ = some (.slice sa sn sc) := fun x => (World.cell?_alloc_lt wy x ⟨w.heap.size + 1 + 1, 5, none⟩ (by simp; omega)).trans d5
          clear ho e3 c2 c3 c4 c5
          go_wp2
          go_region_law (refine step_append_lies _ (by rfl) _ _ _ (by rfl) (w.heap.size + 3) 3 i0 _ 1 8 Tryd.underlying22 hi hz0 hz1 hz2 rfl (by omega) (.slice sa sn sc) _ _ (by rfl) ((HO.out.alloc _).drew) ⟨wy.heap.size, 0, none⟩ 1 1 [.int .i64 o.table[acc]] (by rfl) (by rfl) (World.news_of_block (cs := #[.int .i64 o.table[acc]]) (t := 3) (fr := (0, 0)) (heap_alloc_new wy _)) (by simp [Value.oneCell']) (by omega) (by unfold maxLen; simp; omega) (by simp; omega) (by simp; omega) (wy.heap.size + 1) (by simp) ?_; intro gg cap w5 hown1 hgrow hat hlt; have x5 := (M3.out.mid (grownBy_drew hgrow)).1; have x6 := (M3.out.mid (grownBy_drew hgrow)).2)
          all_goals
            go_wp2
            have hp := M3.out.push (grownBy_drew hgrow) hown1
            simp only [List.length_map, List.length_range] at hp
            refine ⟨⟨i + 1, .slice (some ⟨gg, 0, none⟩) (i + 1) cap, by go_num, by omega, ?_⟩, by simp [intOf]; omega⟩
            rw [List.range_succ, List.map_append]
            have em : mirT o i = o.table[acc] := by
              unfold mirT
              rw [HS.out, HQ.out]
              show o.table.getD (rv s (2 * r + 1) 0 i) 0 = _
              rw [← AC.out]
              simp [List.getD, hkl]
            show RefM _ _ _ _ _ _ _ ((List.range i).map (mirT o) ++ [mirT o i])
            rw [em]
            exact hp
    · have K := hide' (show i = n by omega)
      have x := M.out.mm
      rw [HS.out, HQ.out] at x
      have y := M.out.res
      have f := M.out.fz
      have HO := hide' M.out.own
      obtain ⟨sa, sn, sc, rfl⟩ := ownsRow_slice M.out.own
      obtain ⟨x0, x1, x2, x3, x4, x5, x6⟩ := x
      obtain ⟨y0, y1, y2, y3, y4, y5, y6⟩ := y
      have f0 := f (w.heap.size + 1) 0 (by omega) (by omega)
      have f1 := f (w.heap.size + 1) 1 (by omega) (by omega)
      have f2 := f (w.heap.size + 1) 2 (by omega) (by omega)
      have f3 := f (w.heap.size + 1) 3 (by omega) (by omega)
      have f4 := f (w.heap.size + 1) 4 (by omega) (by omega)
      have f5 := f (w.heap.size + 1) 5 (by omega) (by omega)
      have f6 := f (w.heap.size + 1) 6 (by omega) (by omega)
      clear f
      go_wp2
      refine bodyPost_ret (v := .agg #[.int .i64 o.kind, .int .i64 o.born, .int .i64 o.stay, .int .i64 (s : Int), .int .i64 (r : Int), .slice sa sn sc, .string o.turns]) (by simp [results, Tryd.results21, go_sem, y0, y1, y2, y3, y4, y5, y6]) rfl ?_
      refine ⟨⟨_, rfl, ?_⟩, setRule_below M.out.below (by simp) _ _ _ _ _ _ _⟩
      have ht := ownsRow_tab HO.out
      rw [K.out] at ht
      have hob := ownsRow_block HO.out
      exact ht.block (setRule_size wr (w.heap.size + 1) _ _ _ _ _ _ _) (fun g k c e => setRule_block wr (w.heap.size + 1) g _ _ _ _ _ _ _ (by have := hob g (by rw [e]; rfl); omega))
end Go.Proofs.YtjngjnkecnnmeaaDoor

