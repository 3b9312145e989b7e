/-
  What the last text of this claim leans on, part 16: Wt2, Wt3.
-/
import Derived.Test.YthmeapplnocfjaaDoorZd15
import Derived.Test.YthmeapplnocfjaaDoorZd13
namespace Go.Proofs.YthmeapplnocfjaaDoor
open Go.RowKit
set_option linter.unusedVariables false
set_option linter.unusedSimpArgs false
/-- Looks that are read. -/
structure ArgL (w : World) (ls : List LkW) (a : Option Addr) (n : Nat) : Prop where
  len : n = ls.length
  max : n ≤ 16777216
  cells : ∀ k, k < ls.length → ∃ g, a = some ⟨g, 0, none⟩ ∧ g < w.heap.size ∧ ∀ i, i < 10 → w.cell? ⟨g, k * 10 + i, none⟩ = (lkV (ls.getD k lkZ))[i]?
theorem flK_at : ∀ (ls : List LkW) (k i : Nat), k < ls.length → i < 10 → (flK ls)[k * 10 + i]? = (lkV (ls.getD k lkZ))[i]?
  | [], k, i, h, _ => by simp at h
  | l :: ls, 0, i, h, hi => by
    unfold flK
    rw [List.flatMap_cons, Nat.zero_mul, Nat.zero_add, List.getElem?_append_left (by simpa [lkV] using hi)]
    rfl
  | l :: ls, k + 1, i, h, hi => by
    have hl : (lkV l).length = 10 := rfl
    have := flK_at ls k i (by simpa using h) hi
    unfold flK at this ⊢
    rw [List.flatMap_cons, List.getElem?_append_right (by rw [hl]; omega), hl, show (k + 1) * 10 + i - 10 = k * 10 + i by omega, this]
    rfl
theorem ArgL.of {w : World} {B : Nat} {ls : List LkW} {a : Option Addr} {n c : Nat} (h : w.ownsRow B 104 10 (.slice a n c) n (flK ls)) (hn : n = ls.length) (hm : n ≤ 16777216) : ArgL w ls a n := by
  refine ⟨hn, hm, fun k hk => ?_⟩
  rcases h.2 with ⟨_, e⟩ | ⟨g, cap, cur, e, hg, hb, h1, h2, h3, h4⟩
  · omega
  · injection e with e1 e2 e3
    refine ⟨g, e1, lt_blockT hb, fun i hi => ?_⟩
    rw [cell_of_row w _ _ _ _ _ hb, ← flK_at ls k i hk hi, ← h4, List.getElem?_take, if_pos (by rw [hn]; omega)]
    simp
theorem ArgL.below {w V : World} {ls : List LkW} {a : Option Addr} {n : Nat} (h : ArgL w ls a n) (b : Below w.heap.size w V) : ArgL V ls a n :=
  ⟨h.len, h.max, fun k hk => by
    obtain ⟨g, e, hg, hc⟩ := h.cells k hk
    exact ⟨g, e, Nat.lt_of_lt_of_le hg b.size, fun i hi => (b.cell hg).trans (hc i hi)⟩⟩
/-- What number answers. -/
def NuO (ls : List LkW) (w : World) (e : Ending) (w' : World) : Prop := ∃ mb, e = .returned (.map (some mb)) ∧ Hid (MpB w' mb (nmL [] ls)) ∧ w.heap.size ≤ mb ∧ Hid (Below w.heap.size w w')
theorem nm_take {ls : List LkW} {i : Nat} (h : i < ls.length) : nmL [] (ls.take (i + 1)) = nmS (nmL [] (ls.take i)) (ls.getD i lkZ).u := by
  rw [List.take_succ_eq_append_getElem h, nmL_snoc]
  simp [List.getD, h]
theorem mkmapW (w : World) : (Instr.makeMap 76 none).run Tryd.prog w = .ok (.map (some w.heap.size)) (w.alloc (.map #[] 0)) := by kernel_rfl
set_option maxRecDepth 100000 in
set_option maxHeartbeats 12800000 in
theorem number_any (ls : List LkW) (a : Option Addr) (n oc : Nat) (w : World) (hA : ArgL w ls a n) (hk : ∀ l ∈ ls, SdOk l.u ∧ SdOk l.d) :
    Calls Tryd.prog 33 #[.slice a n oc] w (NuO ls w) := by
  have HA := hide' (fun (V : World) (h : Below w.heap.size w V) => hA.below h)
  have nn := hA.max
  have HL := hide' hA.len
  have OKL := hide' (fun (i : Nat) (h : i < ls.length) => show SdOk (ls.getD i lkZ).u from by
    have e : ls.getD i lkZ = ls[i] := by simp [List.getD, h]
    rw [e]; exact (hk _ (List.getElem_mem h)).1)
  have NT := hide' (fun (i : Nat) (h : i < ls.length) => nm_take h)
  have NL := hide' (fun (i : Nat) => show (nmL [] (ls.take i)).length ≤ i from by have := nmL_len (ls := ls.take i) (acc := []); simp at this ⊢; omega)
  clear hA hk
  obtain ⟨w1, hw1⟩ : ∃ w1, w.alloc (.map #[] 0) = w1 := ⟨_, rfl⟩
  have B1 := hide' (show Below w.heap.size w w1 by rw [← hw1]; exact (Below.refl _ _).alloc (Nat.le_refl _) _)
  have M1 := hide' (show MpB w1 w.heap.size [] from ⟨fun x h => (by cases h), List.nodup_nil, by simp, by rw [← hw1]; exact World.ownsMap_made w _ _ _⟩)
  have hmm := mkmapW w
  rw [hw1] at hmm
  go_enter Tryd.func33, Tryd.ntmps33
  go_wp2
  try rw [hw1]
  clear hw1 hmm
  go_loopw [5, 6, 7, 11] (fun _ _ _ iv wr => ∃ i : Nat, iv = .int .i64 (i : Int) ∧ i ≤ n ∧ Hid (MpB wr w.heap.size (nmL [] (ls.take i))) ∧ Hid (Below w.heap.size w wr)) (fun _ _ _ iv _ => n - (intOf iv).toNat)
  case atStart => exact ⟨0, rfl, by omega, by rw [List.take_zero]; exact M1, B1⟩
  case round =>
    obtain ⟨i, rfl, hi, MW, BW⟩ := hrel
    by_cases d : (i : Int) < (n : Int)
    · have il : i < ls.length := by have := HL.out; omega
      have i0 : (0 : Int) ≤ (i : Int) := by omega
      obtain ⟨g, rfl, gl, hc⟩ := (HA.out wr BW.out).cells i il
      have nt := NT.out i il
      have ok := OKL.out i il
      have al := NL.out i
      obtain ⟨acc, hacc⟩ : ∃ acc, nmL [] (ls.take i) = acc := ⟨_, rfl⟩
      rw [hacc] at MW nt al
      obtain ⟨l, hl⟩ : ∃ l, ls.getD i lkZ = l := ⟨_, rfl⟩
      rw [hl] at hc nt ok
      have KA : kyA l.u = #[.int .u8 ((l.u.getD 0 0 : Nat) : Int), .int .u8 ((l.u.getD 1 0 : Nat) : Int), .int .u8 ((l.u.getD 2 0 : Nat) : Int), .int .u8 ((l.u.getD 3 0 : Nat) : Int), .int .u8 ((l.u.getD 4 0 : Nat) : Int)] := rfl
      obtain ⟨a0, ha0⟩ : ∃ v, l.u.getD 0 0 = v := ⟨_, rfl⟩
      obtain ⟨a1, ha1⟩ : ∃ v, l.u.getD 1 0 = v := ⟨_, rfl⟩
      obtain ⟨a2, ha2⟩ : ∃ v, l.u.getD 2 0 = v := ⟨_, rfl⟩
      obtain ⟨a3, ha3⟩ : ∃ v, l.u.getD 3 0 = v := ⟨_, rfl⟩
      obtain ⟨a4, ha4⟩ : ∃ v, l.u.getD 4 0 = v := ⟨_, rfl⟩
      obtain ⟨b0, hb0⟩ : ∃ v, l.d.getD 0 0 = v := ⟨_, rfl⟩
      obtain ⟨b1, hb1⟩ : ∃ v, l.d.getD 1 0 = v := ⟨_, rfl⟩
      obtain ⟨b2, hb2⟩ : ∃ v, l.d.getD 2 0 = v := ⟨_, rfl⟩
      obtain ⟨b3, hb3⟩ : ∃ v, l.d.getD 3 0 = v := ⟨_, rfl⟩
      obtain ⟨b4, hb4⟩ : ∃ v, l.d.getD 4 0 = v := ⟨_, rfl⟩
      rw [ha0, ha1, ha2, ha3, ha4] at KA
      have c0 := hc 0 (by omega)
      have c1 := hc 1 (by omega)
      have c2 := hc 2 (by omega)
      have c3 := hc 3 (by omega)
      have c4 := hc 4 (by omega)
      have c5 := hc 5 (by omega)
      have c6 := hc 6 (by omega)
      have c7 := hc 7 (by omega)
      have c8 := hc 8 (by omega)
      have c9 := hc 9 (by omega)
      simp only [lkV, List.getElem?_cons_zero, List.getElem?_cons_succ, Nat.add_zero, ha0, ha1, ha2, ha3, ha4, hb0, hb1, hb2, hb3, hb4] at c0 c1 c2 c3 c4 c5 c6 c7 c8 c9
      obtain ⟨w2, hw2⟩ : ∃ w2, wr.alloc (.cells #[.int .u8 (a0 : Int), .int .u8 (a1 : Int), .int .u8 (a2 : Int), .int .u8 (a3 : Int), .int .u8 (a4 : Int), .int .u8 (b0 : Int), .int .u8 (b1 : Int), .int .u8 (b2 : Int), .int .u8 (b3 : Int), .int .u8 (b4 : Int)] 104) = w2 := ⟨_, rfl⟩
      have K2 := (show Below wr.heap.size wr w2 by rw [← hw2]; exact (Below.refl _ _).alloc (Nat.le_refl _) _)
      have G2 : w2.heap[wr.heap.size]? = some (.cells #[.int .u8 (a0 : Int), .int .u8 (a1 : Int), .int .u8 (a2 : Int), .int .u8 (a3 : Int), .int .u8 (a4 : Int), .int .u8 (b0 : Int), .int .u8 (b1 : Int), .int .u8 (b2 : Int), .int .u8 (b3 : Int), .int .u8 (b4 : Int)] 104 (0, 0)) := by rw [← hw2]; exact heap_alloc_new _ _
      have M2 := hide' (MW.out.below K2)
      have B2 := hide' (BW.out.trans (K2.mono BW.out.size))
      have z0 : w2.cell? ⟨wr.heap.size, 0, none⟩ = some (.int .u8 (a0 : Int)) := by rw [cell_of_row w2 _ _ _ _ _ G2]; rfl
      have z1 : w2.cell? ⟨wr.heap.size, 1, none⟩ = some (.int .u8 (a1 : Int)) := by rw [cell_of_row w2 _ _ _ _ _ G2]; rfl
      have z2 : w2.cell? ⟨wr.heap.size, 2, none⟩ = some (.int .u8 (a2 : Int)) := by rw [cell_of_row w2 _ _ _ _ _ G2]; rfl
      have z3 : w2.cell? ⟨wr.heap.size, 3, none⟩ = some (.int .u8 (a3 : Int)) := by rw [cell_of_row w2 _ _ _ _ _ G2]; rfl
      have z4 : w2.cell? ⟨wr.heap.size, 4, none⟩ = some (.int .u8 (a4 : Int)) := by rw [cell_of_row w2 _ _ _ _ _ G2]; rfl
      have z5 : w2.cell? ⟨wr.heap.size, 5, none⟩ = some (.int .u8 (b0 : Int)) := by rw [cell_of_row w2 _ _ _ _ _ G2]; rfl
      have z6 : w2.cell? ⟨wr.heap.size, 6, none⟩ = some (.int .u8 (b1 : Int)) := by rw [cell_of_row w2 _ _ _ _ _ G2]; rfl
      have z7 : w2.cell? ⟨wr.heap.size, 7, none⟩ = some (.int .u8 (b2 : Int)) := by rw [cell_of_row w2 _ _ _ _ _ G2]; rfl
      have z8 : w2.cell? ⟨wr.heap.size, 8, none⟩ = some (.int .u8 (b3 : Int)) := by rw [cell_of_row w2 _ _ _ _ _ G2]; rfl
      have z9 : w2.cell? ⟨wr.heap.size, 9, none⟩ = some (.int .u8 (b4 : Int)) := by rw [cell_of_row w2 _ _ _ _ _ G2]; rfl
      obtain ⟨cv, hlk, -⟩ := M2.out.look_ok ok
      rw [KA] at hlk
      have ML := MW.out.lt
      have mne : ¬ w.heap.size = wr.heap.size := by omega
      obtain ⟨pb, hpb⟩ : ∃ pb, wr.heap.size = pb := ⟨_, rfl⟩
      clear ha0 ha1 ha2 ha3 ha4 hb0 hb1 hb2 hb3 hb4 hc G2 K2 hl hacc
      by_cases q : l.u ∈ acc
      · rw [List.contains_iff_mem.2 q] at hlk
        have NX := hide' (show nmL [] (ls.take (i + 1)) = acc by rw [nt]; unfold nmS; rw [if_pos (List.contains_iff_mem.2 q)])
        clear q nt ok KA hpb
        go_wp2
        try rw [hw2]
        exact ⟨⟨i + 1, by go_num, by omega, by rw [NX.out]; exact M2, B2⟩, by simp [intOf]; omega⟩
      · have qf : acc.contains l.u = false := by
          rw [Bool.eq_false_iff]
          intro q'
          exact q (List.contains_iff_mem.1 q')
        rw [qf] at hlk
        have NX := hide' (show nmL [] (ls.take (i + 1)) = acc ++ [l.u] by rw [nt]; unfold nmS; rw [qf]; simp)
        have hlen := M2.out.size 3
        obtain ⟨w3, hup, m3, g3⟩ := M2.out.add ok q (by omega)
        rw [KA] at hup
        have M3 := hide' m3
        have B3 := hide' (B2.out.trans ⟨g3.os, g3.tape, g3.output, g3.size, fun k hk => g3.block k (Nat.lt_of_lt_of_le hk B2.out.size) (fun e => by cases e; omega)⟩)
        obtain ⟨an, han⟩ : ∃ an, acc.length = an := ⟨_, rfl⟩
        rw [han] at hlen hup
        clear q nt ok KA qf m3 g3 hpb han al
        go_wp2
        exact ⟨⟨i + 1, by go_num, by omega, by rw [NX.out]; exact M3, B3⟩, by simp [intOf]; omega⟩
    · obtain rfl : i = n := by omega
      have E := hide' (show ls.take i = ls by rw [HL.out]; exact List.take_length)
      go_wp2
      go_ret
      exact ⟨w.heap.size, rfl, by rw [E.out] at MW; exact MW, Nat.le_refl _, BW⟩
end Go.Proofs.YthmeapplnocfjaaDoor

namespace Go.Proofs.YthmeapplnocfjaaDoor
open Go.RowKit
set_option linter.unusedVariables false
set_option linter.unusedSimpArgs false
/-- Steps in a row. -/
def flP (ps : List (Nat × Nat)) : List Value := ps.flatMap fun p => [.int .i64 (p.1 : Int), .int .i64 (p.2 : Int)]
theorem flP_append (xs ys : List (Nat × Nat)) : flP (xs ++ ys) = flP xs ++ flP ys := by unfold flP; simp
theorem one_flP (ls : List (Nat × Nat)) : ∀ u ∈ flP ls, u.oneCell' = true := fun u h => by
  unfold flP at h
  rw [List.mem_flatMap] at h
  obtain ⟨l, _, h⟩ := h
  simp only [List.mem_cons, List.not_mem_nil, or_false] at h
  rcases h with rfl | rfl <;> rfl
theorem info_stepW : (Tryd.prog.info? 108).map (fun i => (i.zero, i.size, i.bytes)) = some (some (.agg #[.int .i64 0, .int .i64 0]), 2, 16) := by kernel_rfl
/-- What lead answers. -/
def LdO (here next : List (List Nat)) (ls : List LkW) (w : World) (e : Ending) (w' : World) : Prop := ∃ oa oc, e = .returned (.slice oa (ldL here next ls).length oc) ∧ Hid (w'.ownsRow w.heap.size 108 2 (.slice oa (ldL here next ls).length oc) (ldL here next ls).length (flP (ldL here next ls))) ∧ Hid (Below w.heap.size w w')
theorem ld_take {here next : List (List Nat)} {ls : List LkW} {i : Nat} (h : i < ls.length) : ldL here next (ls.take (i + 1)) = ldL here next (ls.take i) ++ ldS here next (ls.getD i lkZ) := by
  rw [List.take_succ_eq_append_getElem h, ldL_snoc]
  simp [List.getD, h]
set_option maxRecDepth 100000 in
set_option maxHeartbeats 12800000 in
theorem lead_any (ls : List LkW) (here next : List (List Nat)) (a : Option Addr) (n oc hb nb : Nat) (w : World) (hA : ArgL w ls a n) (hH : MpB w hb here) (hN : MpB w nb next) (hk : ∀ l ∈ ls, SdOk l.u ∧ SdOk l.d) (hm : ∀ l ∈ ls, l.u ∈ here) :
    Calls Tryd.prog 34 #[.slice a n oc, .map (some hb), .map (some nb)] w (LdO here next ls w) := by
  have HA := hide' (fun (V : World) (h : Below w.heap.size w V) => hA.below h)
  have HH := hide' (fun (V : World) (h : Below w.heap.size w V) => hH.below h)
  have HN := hide' (fun (V : World) (h : Below w.heap.size w V) => hN.below h)
  have nn := hA.max
  have HL := hide' hA.len
  have OKL := hide' (fun (i : Nat) (h : i < ls.length) => show SdOk (ls.getD i lkZ).u ∧ SdOk (ls.getD i lkZ).d ∧ (ls.getD i lkZ).u ∈ here from by
    have e : ls.getD i lkZ = ls[i] := by simp [List.getD, h]
    rw [e]; exact ⟨(hk _ (List.getElem_mem h)).1, (hk _ (List.getElem_mem h)).2, hm _ (List.getElem_mem h)⟩)
  have NT := hide' (fun (i : Nat) (h : i < ls.length) => ld_take (here := here) (next := next) h)
  have NL := hide' (fun (i : Nat) => show (ldL here next (ls.take i)).length ≤ i from by have := ldL_len here next (ls.take i); simp at this ⊢; omega)
  have hl1 := hH.lt
  have hl2 := hN.lt
  have HLE := hide' (And.intro hH.len hN.len)
  obtain ⟨i0, hi0, hz0, hz1, hz2⟩ := info_parts info_stepW
  clear hA hk hm hH hN
  go_enter Tryd.func34, Tryd.ntmps34
  go_wp2
  go_loopw [7, 9, 10, 11, 14] (fun ov _ _ _ iv wr => ∃ (i : Nat) (oa : Option Addr) (oc : Nat) (us : List (Nat × Nat)), ov = .slice oa us.length oc ∧ iv = .int .i64 (i : Int) ∧ i ≤ n ∧ Hid (us = ldL here next (ls.take i)) ∧ Hid (wr.ownsRow w.heap.size 108 2 (.slice oa us.length oc) us.length (flP us)) ∧ Hid (Below w.heap.size w wr)) (fun _ _ _ _ iv _ => n - (intOf iv).toNat)
  case atStart => exact ⟨0, none, 0, [], rfl, rfl, by omega, hide' rfl, hide' (World.ownsRow_nil _ _ _ _), hide' (Below.refl _ _)⟩
  case round =>
    obtain ⟨i, oa, oc, us, rfl, rfl, hi, US, OW, BW⟩ := hrel
    by_cases d : (i : Int) < (n : Int)
    · have il : i < ls.length := by have := HL.out; omega
      have j0 : (0 : Int) ≤ (i : Int) := by omega
      obtain ⟨g, rfl, gl, hc⟩ := (HA.out wr BW.out).cells i il
      have nt := NT.out i il
      obtain ⟨ok1, ok2, ok3⟩ := OKL.out i il
      have al := NL.out i
      rw [← US.out] at nt al
      obtain ⟨l, hl⟩ : ∃ l, ls.getD i lkZ = l := ⟨_, rfl⟩
      rw [hl] at hc nt ok1 ok2 ok3
      have KA : kyA l.u = #[.int .u8 ((l.u.getD 0 0 : Nat) : Int), .int .u8 ((l.u.getD 1 0 : Nat) : Int), .int .u8 ((l.u.getD 2 0 : Nat) : Int), .int .u8 ((l.u.getD 3 0 : Nat) : Int), .int .u8 ((l.u.getD 4 0 : Nat) : Int)] := rfl
      have KB : kyA l.d = #[.int .u8 ((l.d.getD 0 0 : Nat) : Int), .int .u8 ((l.d.getD 1 0 : Nat) : Int), .int .u8 ((l.d.getD 2 0 : Nat) : Int), .int .u8 ((l.d.getD 3 0 : Nat) : Int), .int .u8 ((l.d.getD 4 0 : Nat) : Int)] := rfl
      obtain ⟨a0, ha0⟩ : ∃ v, l.u.getD 0 0 = v := ⟨_, rfl⟩
      obtain ⟨a1, ha1⟩ : ∃ v, l.u.getD 1 0 = v := ⟨_, rfl⟩
      obtain ⟨a2, ha2⟩ : ∃ v, l.u.getD 2 0 = v := ⟨_, rfl⟩
      obtain ⟨a3, ha3⟩ : ∃ v, l.u.getD 3 0 = v := ⟨_, rfl⟩
      obtain ⟨a4, ha4⟩ : ∃ v, l.u.getD 4 0 = v := ⟨_, rfl⟩
      obtain ⟨b0, hb0⟩ : ∃ v, l.d.getD 0 0 = v := ⟨_, rfl⟩
      obtain ⟨b1, hb1⟩ : ∃ v, l.d.getD 1 0 = v := ⟨_, rfl⟩
      obtain ⟨b2, hb2⟩ : ∃ v, l.d.getD 2 0 = v := ⟨_, rfl⟩
      obtain ⟨b3, hb3⟩ : ∃ v, l.d.getD 3 0 = v := ⟨_, rfl⟩
      obtain ⟨b4, hb4⟩ : ∃ v, l.d.getD 4 0 = v := ⟨_, rfl⟩
      rw [ha0, ha1, ha2, ha3, ha4] at KA
      rw [hb0, hb1, hb2, hb3, hb4] at KB
      have c0 := hc 0 (by omega)
      have c1 := hc 1 (by omega)
      have c2 := hc 2 (by omega)
      have c3 := hc 3 (by omega)
      have c4 := hc 4 (by omega)
      have c5 := hc 5 (by omega)
      have c6 := hc 6 (by omega)
      have c7 := hc 7 (by omega)
      have c8 := hc 8 (by omega)
      have c9 := hc 9 (by omega)
      simp only [lkV, List.getElem?_cons_zero, List.getElem?_cons_succ, Nat.add_zero, ha0, ha1, ha2, ha3, ha4, hb0, hb1, hb2, hb3, hb4] at c0 c1 c2 c3 c4 c5 c6 c7 c8 c9
      obtain ⟨w2, hw2⟩ : ∃ w2, wr.alloc (.cells #[.int .u8 (a0 : Int), .int .u8 (a1 : Int), .int .u8 (a2 : Int), .int .u8 (a3 : Int), .int .u8 (a4 : Int), .int .u8 (b0 : Int), .int .u8 (b1 : Int), .int .u8 (b2 : Int), .int .u8 (b3 : Int), .int .u8 (b4 : Int)] 104) = w2 := ⟨_, rfl⟩
      have K2 := (show Below wr.heap.size wr w2 by rw [← hw2]; exact (Below.refl _ _).alloc (Nat.le_refl _) _)
      have G2 : w2.heap[wr.heap.size]? = some (.cells #[.int .u8 (a0 : Int), .int .u8 (a1 : Int), .int .u8 (a2 : Int), .int .u8 (a3 : Int), .int .u8 (a4 : Int), .int .u8 (b0 : Int), .int .u8 (b1 : Int), .int .u8 (b2 : Int), .int .u8 (b3 : Int), .int .u8 (b4 : Int)] 104 (0, 0)) := by rw [← hw2]; exact heap_alloc_new _ _
      have B2 := hide' (BW.out.trans (K2.mono BW.out.size))
      have O2 := hide' (own_alloc OW.out K2)
      have z0 : w2.cell? ⟨wr.heap.size, 0, none⟩ = some (.int .u8 (a0 : Int)) := by rw [cell_of_row w2 _ _ _ _ _ G2]; rfl
      have z1 : w2.cell? ⟨wr.heap.size, 1, none⟩ = some (.int .u8 (a1 : Int)) := by rw [cell_of_row w2 _ _ _ _ _ G2]; rfl
      have z2 : w2.cell? ⟨wr.heap.size, 2, none⟩ = some (.int .u8 (a2 : Int)) := by rw [cell_of_row w2 _ _ _ _ _ G2]; rfl
      have z3 : w2.cell? ⟨wr.heap.size, 3, none⟩ = some (.int .u8 (a3 : Int)) := by rw [cell_of_row w2 _ _ _ _ _ G2]; rfl
      have z4 : w2.cell? ⟨wr.heap.size, 4, none⟩ = some (.int .u8 (a4 : Int)) := by rw [cell_of_row w2 _ _ _ _ _ G2]; rfl
      have z5 : w2.cell? ⟨wr.heap.size, 5, none⟩ = some (.int .u8 (b0 : Int)) := by rw [cell_of_row w2 _ _ _ _ _ G2]; rfl
      have z6 : w2.cell? ⟨wr.heap.size, 6, none⟩ = some (.int .u8 (b1 : Int)) := by rw [cell_of_row w2 _ _ _ _ _ G2]; rfl
      have z7 : w2.cell? ⟨wr.heap.size, 7, none⟩ = some (.int .u8 (b2 : Int)) := by rw [cell_of_row w2 _ _ _ _ _ G2]; rfl
      have z8 : w2.cell? ⟨wr.heap.size, 8, none⟩ = some (.int .u8 (b3 : Int)) := by rw [cell_of_row w2 _ _ _ _ _ G2]; rfl
      have z9 : w2.cell? ⟨wr.heap.size, 9, none⟩ = some (.int .u8 (b4 : Int)) := by rw [cell_of_row w2 _ _ _ _ _ G2]; rfl
      obtain ⟨cv, hlk, hcv⟩ := (HN.out w2 B2.out).look_ok ok2
      rw [KB] at hlk
      have hlh := (HH.out w2 B2.out).look ok1 ok3
      rw [KA] at hlh
      have lb1 := noS_lt ok3
      obtain ⟨m, hm⟩ : ∃ m, us.length = m := ⟨_, rfl⟩
      rw [hm] at O2 al
      have HM := hide' hm
      rw [hm]
      clear ha0 ha1 ha2 ha3 ha4 hb0 hb1 hb2 hb3 hb4 hc G2 K2 hl OW hm ok1 ok2
      by_cases q : l.d ∈ next
      · rw [List.contains_iff_mem.2 q] at hlk
        have ev := hcv q
        subst ev
        have lb2 := noS_lt q
        have NX := hide' (show ldL here next (ls.take (i + 1)) = us ++ [(noS here l.u, noS next l.d)] by rw [nt]; unfold ldS; rw [if_pos (List.contains_iff_mem.2 q)])
        obtain ⟨p1, hp1⟩ : ∃ p, noS here l.u = p := ⟨_, rfl⟩
        obtain ⟨p2, hp2⟩ : ∃ p, noS next l.d = p := ⟨_, rfl⟩
        rw [hp1] at hlh lb1 NX
        rw [hp2] at hlk lb2 NX
        obtain ⟨w3, hw3⟩ : ∃ w3, w2.alloc (.cells #[.int .i64 (p1 : Int), .int .i64 (p2 : Int)] 108) = w3 := ⟨_, rfl⟩
        have K3 := (show Below w2.heap.size w2 w3 by rw [← hw3]; exact (Below.refl _ _).alloc (Nat.le_refl _) _)
        have O3 := hide' (own_alloc O2.out K3)
        have B3 := hide' (B2.out.trans (K3.mono B2.out.size))
        have NB := hide' (show ∀ j u, (flP [(p1, p2)])[j]? = some u → w3.cell? ((⟨w2.heap.size, 0, none⟩ : Addr).add j) = some u from World.news_of_block (cs := #[.int .i64 (p1 : Int), .int .i64 (p2 : Int)]) (by rw [← hw3]; exact heap_alloc_new _ _))
        have HW3 := hide' hw3
        clear q nt KA KB hcv hp1 hp2 lb1 lb2 ok3 K3 hw3
        go_wp2_with (at_builtin; (try rw [HW3.out]); go_loud (refine wpList_append_lies _ rfl _ _ 79 rfl w.heap.size 108 i0 _ 2 16 Tryd.underlying79 hi0 hz0 hz1 hz2 rfl (by decide) (.slice oa m oc) m (flP us) rfl O3.out ⟨w2.heap.size, 0, none⟩ 1 1 (flP [(p1, p2)]) rfl rfl NB.out (one_flP _) (by omega) (by unfold maxLen; omega) (by omega) B3.out.size w3.heap.size rfl ?_; intro g5 cap5 w5 hown hgr hat hlt; go_frame))
        obtain ⟨u5, hu5⟩ : ∃ u5, us ++ [(p1, p2)] = u5 := ⟨_, rfl⟩
        have e5 : m + 1 = u5.length := by rw [← hu5, ← HM.out]; simp
        have O5 := hide' (show w5.ownsRow w.heap.size 108 2 (.slice (some ⟨g5, 0, none⟩) u5.length cap5) u5.length (flP u5) by rw [← e5, ← hu5, flP_append]; exact hown)
        have B5 := hide' (show Below w.heap.size w w5 from B3.out.trans ⟨hgr.os, hgr.tape, hgr.output, hgr.size, fun k hk => hgr.block k (Nat.lt_of_lt_of_le hk B3.out.size) (fun e => by have := (O3.out.lt k e.symm).1; omega)⟩)
        rw [hu5] at NX
        exact ⟨⟨i + 1, some ⟨g5, 0, none⟩, cap5, u5, by rw [← e5], by go_num, by omega, hide' NX.out.symm, O5, B5⟩, by simp [intOf]; omega⟩
      · have qf : next.contains l.d = false := by
          rw [Bool.eq_false_iff]
          intro q'
          exact q (List.contains_iff_mem.1 q')
        rw [qf] at hlk
        have NX := hide' (show us = ldL here next (ls.take (i + 1)) by rw [nt]; unfold ldS; rw [qf]; simp)
        clear q nt KA KB hcv qf
        go_wp2
        try rw [hw2]
        exact ⟨⟨i + 1, oa, oc, us, by rw [HM.out], by go_num, by omega, NX, by rw [HM.out]; exact O2, B2⟩, by simp [intOf]; omega⟩
    · obtain rfl : i = n := by omega
      have E := hide' (show ls.take i = ls by rw [HL.out]; exact List.take_length)
      have U := hide' (show us = ldL here next ls by rw [US.out, E.out])
      obtain ⟨m, hm⟩ : ∃ m, us.length = m := ⟨_, rfl⟩
      have HM := hide' hm
      rw [hm]
      clear hm
      go_wp2
      go_ret
      have e1 : (ldL here next ls).length = m := by rw [← U.out, HM.out]
      exact ⟨oa, oc, by rw [e1]; rfl, hide' (by rw [e1, ← U.out, ← HM.out]; exact OW.out), BW⟩
end Go.Proofs.YthmeapplnocfjaaDoor

