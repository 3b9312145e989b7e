/-
  What the last text of this claim leans on, part 31: Gf5.
-/
import Derived.Test.YtjjdjdodhedihaaDoorJl29
import Derived.Test.YtjjdjdodhedihaaDoorJl27
import Derived.Test.YtjjdjdodhedihaaDoorJl30
import Derived.Test.YtjjdjdodhedihaaDoorJl14
namespace Go.Proofs.YtjjdjdodhedihaaDoor
open Go.RowKit
set_option linter.unusedVariables false

/-- Cells that hold bools. -/
structure CelK (w : World) (g : Nat) (bs : List Bool) : Prop where
  lt : g < w.heap.size
  cells : ∀ k, k < bs.length → w.cell? ⟨g, k, none⟩ = some (.bool (bs.getD k false))
  fz : ∀ k, w.frozen? ⟨g, k, none⟩ = false
theorem CelK.block {w w' : World} {g : Nat} {bs : List Bool} (h : CelK w g bs) (hs : w.heap.size ≤ w'.heap.size) (e : w'.heap[g]? = w.heap[g]?) : CelK w' g bs :=
  ⟨Nat.lt_of_lt_of_le h.lt hs, fun k hk => (World.cell?_of_block (w := w) (a := ⟨g, k, none⟩) e).trans (h.cells k hk), fun k => (World.frozen?_of_block (w := w) (a := ⟨g, k, none⟩) e).trans (h.fz k)⟩
theorem CelK.made (w : World) (N : Nat) (t : TypeId) : CelK (w.alloc (.cells (madeCells #[.bool false] N) t)) w.heap.size (List.replicate N false) := by
  refine ⟨by simp, fun k hk => ?_, fun k => by simp⟩
  rw [World.cell?_alloc_at _ _ _ _ (by simp)]
  rw [List.length_replicate] at hk
  rw [getD_replK]
  simp [madeCells, hk, Nat.mod_one]
theorem CelK.set {w : World} {g : Nat} {bs : List Bool} (h : CelK w g bs) (p : Nat) (x : Bool) (hp : p < bs.length) : CelK (w.setCell ⟨g, p, none⟩ (.bool x)) g (bs.set p x) := by
  refine ⟨by rw [World.size_setCell]; exact h.lt, fun k hk => ?_, fun k => by rw [World.frozen?_setCell]; exact h.fz k⟩
  rw [List.length_set] at hk
  rw [getD_setK]
  by_cases e : k = p
  · subst e
    rw [if_pos ⟨rfl, hp⟩]
    exact World.cell?_setCell_same _ _ _ (h.cells k hk)
  · rw [if_neg (fun q => e q.1)]
    rw [World.cell?_setCell_other _ ⟨g, p, none⟩ ⟨g, k, none⟩ _ (fun q => e (congrArg Addr.off q).symm)]
    exact h.cells k hk
/-- What the search holds. -/
structure KW (w1 wr : World) (gh gk B : Nat) (tv : Value) (Q : List Nat) (hs : List Int) (kn : List Bool) : Prop where
  bl : Below w1.heap.size w1 wr
  ch : Cel wr gh hs
  ck : CelK wr gk kn
  own : wr.ownsRow B 3 1 tv (Q.map fun (y : Nat) => (y : Int)).length ((Q.map fun (y : Nat) => (y : Int)).map fun y => Value.int .i64 y)
  l1 : w1.heap.size ≤ gh
  l2 : w1.heap.size ≤ gk
  l3 : gh < B
  l4 : gk < B
  n12 : gh ≠ gk
  l5 : B ≤ wr.heap.size
theorem KW.setK {w1 wr : World} {gh gk B : Nat} {tv : Value} {Q : List Nat} {hs : List Int} {kn : List Bool} (h : KW w1 wr gh gk B tv Q hs kn) (i : Nat) (hi : i < kn.length) : KW w1 (wr.setCell ⟨gk, i, none⟩ (.bool true)) gh gk B tv Q hs (kn.set i true) :=
  ⟨h.bl.setCell (p := ⟨gk, i, none⟩) h.l2 _, h.ch.block (by simp) (heap_setCell_other _ _ _ _ _ h.n12), h.ck.set i true hi, ownsRow_keepB h.own fun k hb hk => heap_setCell_other _ _ _ _ _ (by have := h.l4; omega), h.l1, h.l2, h.l3, h.l4, h.n12, by rw [World.size_setCell]; exact h.l5⟩
theorem KW.setH {w1 wr : World} {gh gk B : Nat} {tv : Value} {Q : List Nat} {hs : List Int} {kn : List Bool} (h : KW w1 wr gh gk B tv Q hs kn) (i : Nat) (x : Int) (hi : i < hs.length) : KW w1 (wr.setCell ⟨gh, i, none⟩ (.int .i64 x)) gh gk B tv Q (hs.set i x) kn :=
  ⟨h.bl.setCell (p := ⟨gh, i, none⟩) h.l1 _, h.ch.set i x hi, h.ck.block (by simp) (heap_setCell_other _ _ _ _ _ (Ne.symm h.n12)), ownsRow_keepB h.own fun k hb hk => heap_setCell_other _ _ _ _ _ (by have := h.l3; omega), h.l1, h.l2, h.l3, h.l4, h.n12, by rw [World.size_setCell]; exact h.l5⟩
theorem KW.drew {w1 wr : World} {gh gk B : Nat} {tv : Value} {Q : List Nat} {hs : List Int} {kn : List Bool} (h : KW w1 wr gh gk B tv Q hs kn) : KW w1 wr.drew gh gk B tv Q hs kn :=
  ⟨h.bl.drew, h.ch.block (Nat.le_refl _) rfl, h.ck.block (Nat.le_refl _) rfl, ownsRow_keepB h.own fun k _ _ => rfl, h.l1, h.l2, h.l3, h.l4, h.n12, h.l5⟩
theorem KW.push {w1 W w3 : World} {gh gk B : Nat} {tv v' : Value} {Q : List Nat} {hs : List Int} {kn : List Bool} (h : KW w1 W gh gk B tv Q hs kn) (x : Nat) (t : TypeId) (hg : (W.alloc (.cells #[.int .i64 (x : Int)] t)).grownBy w3 tv.ownBlock) (ho : w3.ownsRow B 3 1 v' ((Q.map fun (y : Nat) => (y : Int)).length + 1) (((Q.map fun (y : Nat) => (y : Int)).map fun y => Value.int .i64 y) ++ [.int .i64 (x : Int)])) : KW w1 w3 gh gk B v' (Q ++ [x]) hs kn := by
  have hs5 := h.l5
  have sz := h.bl.size
  have keep : ∀ k, k < B → w3.heap[k]? = W.heap[k]? := fun k hk => (hg.block k (by rw [World.size_alloc]; omega) (fun e => by have := own_ge h.own k e.symm; omega)).trans (Below.heap_alloc _ _ _ (by omega))
  have s3 : W.heap.size ≤ w3.heap.size := by have := hg.size; rw [World.size_alloc] at this; omega
  refine ⟨?_, h.ch.block s3 (keep gh h.l3), h.ck.block s3 (keep gk h.l4), ?_, h.l1, h.l2, h.l3, h.l4, h.n12, by omega⟩
  · have hb0 := h.l1
    have hb1 := h.l3
    exact ⟨hg.os.trans h.bl.os, hg.tape.trans h.bl.tape, hg.output.trans h.bl.output, by omega, fun k hk => (keep k (by omega)).trans (h.bl.block k hk)⟩
  · rw [List.map_append, List.length_append, List.map_append]
    exact ho
def KRefPost (S n : Nat) (T wt : List Int) (w : World) (e : Ending) (w' : World) : Prop := (∃ β : Bool, e = .returned (.bool β) ∧ (β = true ↔ KeepsP S n T wt)) ∧ Below w.heap.size w w'

set_option maxRecDepth 100000 in
set_option maxHeartbeats 12800000 in
theorem refKeeps_any (S R n : Nat) (T wt : List Int) (ta : Option Addr) (tn tc : Nat) (wa : Option Addr) (wn wc : Nat) (w : World) (hL : LineOk S R T) (hT : ArgP w T ta tn tc) (hA : ArgP w wt wa wn wc) (hs : wn = S) (hw : Wts wt) (hn : S ^ (2 * R) = n) :
    Calls Tryd.prog 24 #[.agg #[.int .i64 2, .int .i64 0, .int .i64 0, .int .i64 (S : Int), .int .i64 (R : Int), .slice ta tn tc, .string ⟨#[]⟩], .slice wa wn wc] w (KRefPost S n T wt w) := by
  obtain ⟨i0, hi, hz0, hz1, hz2⟩ := info_parts info_int
  obtain ⟨w1, hw1⟩ : ∃ w1, w.alloc (.cells #[.int .i64 2, .int .i64 0, .int .i64 0, .int .i64 (S : Int), .int .i64 (R : Int), .slice ta tn tc, .string ⟨#[]⟩] 24) = w1 := ⟨_, rfl⟩
  have BB := hide' (show Below w.heap.size w w1 by rw [← hw1]; exact (Below.refl _ _).alloc (Nat.le_refl _) _)
  have RX := hide' (show RB w.heap.size S R (.slice ta tn tc) w1 by rw [← hw1]; exact RB.new w S R _ _)
  have AT := hide' (hT.below BB.out)
  have AW := hide' (hA.below BB.out)
  have s2 := hL.s2
  have s4 := hL.s4
  have t4 : tn ≤ 4096 := by rw [hT.len]; exact hL.max
  obtain ⟨g1, g2, n0⟩ := hL.graph hT.len hn
  have TL := hide' hT.len
  have TO := hide' hL.ok
  have WT := hide' hw
  have WL := hide' (show wt.length = S by rw [← hA.len]; exact hs)
  have n2 : ¬ (S : Int) = 0 := by omega
  have nn : ¬ (n : Int) = 0 := by omega
  have q1 : (tn : Int).tdiv (S : Int) = (n : Int) := by rw [Int.tdiv_eq_ediv_of_nonneg (by omega), ← g1]; simp
  have n4 : n ≤ 4096 := by rw [← g1]; exact Nat.le_trans (Nat.div_le_self _ _) t4
  have HTN := hide' g2
  have FIN := hide' (fun (Q : List Nat) (hs : List Int) (kn : List Bool) (i c : Nat) (h : KI S n T wt Q hs kn i c) (hi : Q.length ≤ i) => show (∀ w, w < n * S → hs.getD (w % n) 0 = hs.getD (w / S) 0 + chl S T wt w) ↔ KeepsP S n T wt by
    subst hn
    exact h.fin (by omega) (by rw [hL.len, Nat.pow_succ]) hi)
  have CA := hide' (fun (x : Nat) (hx : x < tn) => cellsOk_at hL.ok (k := x) (by rw [← hT.len]; exact hx))
  have wns : wn = S := hs
  clear hs g1
  subst wns
  obtain ⟨PP, hPP⟩ : ∃ PP, KRefPost wn n T wt w = PP := ⟨_, rfl⟩
  have HPP := hide' hPP
  rw [hPP]
  clear hL hT hA hw hn hPP g2
  have hmk := run_make_row' (P := Tryd.prog) 22 3 (.int .i64 0) 8 Tryd.underlying22 info_int rfl .i64 .i64 n (by omega) (by omega) w1
  obtain ⟨A1, hA1⟩ : ∃ A1, w1.alloc (.cells (madeCells #[.int .i64 0] n) 3) = A1 := ⟨_, rfl⟩
  rw [hA1] at hmk
  have hmk2 := run_make_row' (P := Tryd.prog) 90 4 (.bool false) 1 Tryd.underlying90 info_bool rfl .i64 .i64 n (by omega) (by omega) A1
  obtain ⟨A2, hA2⟩ : ∃ A2, A1.alloc (.cells (madeCells #[.bool false] n) 4) = A2 := ⟨_, rfl⟩
  rw [hA2] at hmk2
  have K2 := hide' (show CelK A2 A1.heap.size (List.replicate n false) by rw [← hA2]; exact CelK.made A1 n 4)
  have k0 := K2.out.cells 0 (by rw [List.length_replicate]; exact n0)
  rw [getD_replK] at k0
  have f0 := K2.out.fz 0
  obtain ⟨A3, hA3⟩ : ∃ A3, A2.setCell ⟨A1.heap.size, 0, none⟩ (.bool true) = A3 := ⟨_, rfl⟩
  have a1 : A1.heap.size = w1.heap.size + 1 := by rw [← hA1]; simp
  have a2 : A2.heap.size = w1.heap.size + 2 := by rw [← hA2, World.size_alloc, a1]
  have a3 : A3.heap.size = w1.heap.size + 2 := by rw [← hA3, World.size_setCell, a2]
  have KW0 := hide' (show KW w1 (A3.alloc (.cells #[.int .i64 0] 3)) w1.heap.size A1.heap.size A3.heap.size (.slice (some ⟨A3.heap.size, 0, none⟩) 1 1) [0] (List.replicate n 0) ((List.replicate n false).set 0 true) by
    have c1 : Cel A1 w1.heap.size (List.replicate n 0) := by rw [← hA1]; exact Cel.made w1 n 3
    have c2 : Cel A2 w1.heap.size (List.replicate n 0) := by rw [← hA2]; exact c1.block (by simp) (Below.heap_alloc _ _ _ c1.lt)
    have c3 : Cel A3 w1.heap.size (List.replicate n 0) := by rw [← hA3]; exact c2.block (by simp) (heap_setCell_other _ _ _ _ _ (by omega))
    have k3 : CelK A3 A1.heap.size ((List.replicate n false).set 0 true) := by rw [← hA3]; exact K2.out.set 0 true (by rw [List.length_replicate]; exact n0)
    have b3 : Below w1.heap.size w1 A3 := by rw [← hA3, ← hA2, ← hA1]; exact (((Below.refl _ _).alloc (Nat.le_refl _) _).alloc (by simp) _).setCell (p := ⟨_, 0, none⟩) (by simp) _
    refine ⟨b3.alloc b3.size _, c3.block (by simp) (Below.heap_alloc _ _ _ c3.lt), k3.block (by simp) (Below.heap_alloc _ _ _ k3.lt), ?_, Nat.le_refl _, by omega, by omega, by omega, by omega, by simp⟩
    exact row_of_blk (xs := [0]) (Blk.new A3 #[.int .i64 0] 3) (Nat.le_refl _) rfl (by unfold maxLen; omega))
  clear K2 a2 a1 a3
  obtain ⟨x0, x1, x2, x3, x4, x5, x6⟩ := RX.out
  go_enter Tryd.func24, Tryd.ntmps24
  go_wp2
  skip
  clear x0 x1 x2 x3 x4 x5 x6 hw1 hmk hmk2 k0 f0 hA1 hA2 hA3
  go_loopw [8, 9] (fun tv iv wr => ∃ (i : Nat) (Q : List Nat) (hs : List Int) (kn : List Bool), iv = .int .i64 (i : Int) ∧ i ≤ Q.length ∧ KW w1 wr w1.heap.size A1.heap.size A3.heap.size tv Q hs kn ∧ Hid (KI wn n T wt Q hs kn i 0)) (fun _ iv _ => n - (intOf iv).toNat)
  case atStart => exact ⟨0, [0], _, _, rfl, by omega, KW0.out, hide' (KI.start n0)⟩
  case round =>
    obtain ⟨i, Q, hs, kn, rfl, hiq, HK, KK⟩ := hrel
    have F0 := hide' HK
    obtain ⟨V, hV⟩ : ∃ V, V = wr := ⟨_, rfl⟩
    subst hV
    have qn : Q.length ≤ n := KK.out.le
    obtain ⟨sa, sc, e⟩ := ownsRow_len HK.own
    rw [List.length_map] at e
    subst e
    clear HK
    by_cases d : (i : Int) < (Q.length : Int)
    · obtain ⟨p, hp⟩ : ∃ p, Q[i]? = some p := ⟨Q[i], List.getElem?_eq_getElem (by omega)⟩
      have HP := hide' hp
      obtain ⟨g, cap, eg, ap⟩ := ownsRow_argP F0.out.own (by rw [List.length_map]; omega) (by rw [List.length_map]; unfold maxLen; omega)
      obtain ⟨gc, oc, e2, hc⟩ := ap.at (k := i) (by rw [List.length_map]; omega)
      injection eg with eg1 eg2 eg3
      subst eg1
      injection e2 with e2
      injection e2 with e21 e22 e23
      subst e21
      subst e22
      rw [Nat.zero_add] at hc
      have pv : (Q.map fun (y : Nat) => (y : Int)).getD i 0 = (p : Int) := by rw [List.getD_eq_getElem?_getD, List.getElem?_map, hp]; rfl
      rw [pv] at hc
      have pn : p < n := KK.out.lt p (List.mem_of_getElem? hp)
      clear eg2 eg3 ap pv hp
      go_wp2
      skip
      go_loopw [8, 11] (fun tv cv wr => ∃ (c : Nat) (Q : List Nat) (hs : List Int) (kn : List Bool), cv = .int .i64 (c : Int) ∧ c ≤ wn ∧ KW w1 wr w1.heap.size A1.heap.size A3.heap.size tv Q hs kn ∧ Hid (KI wn n T wt Q hs kn i c) ∧ Hid (Q[i]? = some p)) (fun _ cv _ => wn - (intOf cv).toNat)
      case atStart => exact ⟨0, Q, hs, kn, rfl, by omega, F0.out, KK, HP⟩
      case round =>
        clear HP KK hc qn hiq d
        obtain ⟨c, Q2, hs2, kn2, rfl, hcS, HK, KK, HP⟩ := hrel
        have F1 := hide' HK
        obtain ⟨U, hU⟩ : ∃ U, U = wr := ⟨_, rfl⟩
        subst hU
        have qn : Q2.length ≤ n := KK.out.le
        obtain ⟨sa2, sc2, e⟩ := ownsRow_len HK.own
        rw [List.length_map] at e
        subst e
        clear HK
        obtain ⟨x0, x1, x2, x3, x4, x5, x6⟩ := RX.out.next F1.out.bl
        by_cases dc : (c : Int) < (wn : Int)
        · obtain ⟨x, hx⟩ : ∃ x, p * wn + c = x := ⟨_, rfl⟩
          have xl : x < tn := by
            rw [← hx, HTN.out]
            have : (p + 1) * wn ≤ n * wn := Nat.mul_le_mul_right _ pn
            rw [Nat.add_mul] at this
            omega
          obtain ⟨y, hy⟩ : ∃ y : Nat, (p : Int) * (wn : Int) = (y : Int) := ⟨p * wn, by simp⟩
          have yx : y + c = x := by
            have : ((p * wn : Nat) : Int) = (y : Int) := by rw [← hy]; simp
            omega
          have yx2 : (y : Int) + (c : Int) = (x : Int) := by omega
          obtain ⟨tq, htq⟩ : ∃ tq, x % n = tq := ⟨_, rfl⟩
          have e1 : (x : Int).tmod (n : Int) = (tq : Int) := by
            rw [Int.tmod_eq_emod_of_nonneg (by omega), ← htq]
            simp
          have tl : tq < n := by rw [← htq]; exact Nat.mod_lt _ n0
          have hk1 := F1.out.ck.cells tq (by rw [KK.out.klen]; exact tl)
          have fk1 := F1.out.ck.fz tq
          obtain ⟨β, hβ⟩ : ∃ β, kn2.getD tq false = β := ⟨_, rfl⟩
          rw [hβ] at hk1
          cases β
          · have FR := hide' (KK.out.fresh n0 (by omega) (by omega) HP.out (by rw [hx, htq]; exact hβ) WT.out)
            rw [hx, htq] at FR
            obtain ⟨gt, ot, rfl, ht⟩ := (AT.out.below F1.out.bl).at (k := x) xl
            have tc2 := CA.out x xl
            obtain ⟨tv, htv⟩ : ∃ tv : Nat, T.getD x 0 = (tv : Int) := ⟨(T.getD x 0).toNat, by omega⟩
            rw [htv] at ht tc2
            have tvl : tv < wn := by omega
            obtain ⟨gw, ow, rfl, hw1⟩ := (AW.out.below F1.out.bl).at (k := tv) tvl
            obtain ⟨gw2, ow2, ew, hw2⟩ := (AW.out.below F1.out.bl).at (k := c) (by omega)
            injection ew with ew
            injection ew with ew1 ew2 ew3
            subst ew1
            subst ew2
            have wb1 := WT.out tv
            have wb2 := WT.out c
            have hb1 := KK.out.bnd p pn
            have hh1 := F1.out.ch.cells p (by rw [KK.out.hlen]; exact pn)
            have hh2 := F1.out.ch.cells tq (by rw [KK.out.hlen]; exact tl)
            have fh2 := F1.out.ch.fz tq
            obtain ⟨u1, hu1⟩ : ∃ u1, wt.getD tv 0 = u1 := ⟨_, rfl⟩
            obtain ⟨u2, hu2⟩ : ∃ u2, wt.getD c 0 = u2 := ⟨_, rfl⟩
            obtain ⟨u3, hu3⟩ : ∃ u3, hs2.getD p 0 = u3 := ⟨_, rfl⟩
            have EV := hide' (show hs2.getD p 0 + chl wn T wt x = u3 + u1 - u2 by
              unfold chl
              rw [htv, Int.toNat_natCast, hu1, hu3]
              have : x % wn = c := by rw [← hx, Nat.mul_comm, Nat.mul_add_mod, Nat.mod_eq_of_lt (by omega)]
              rw [this, hu2]
              omega)
            rw [EV.out] at FR
            rw [hu1] at hw1 wb1
            rw [hu2] at hw2 wb2
            rw [hu3] at hh1 hb1
            have NK := hide' (F1.out.setK tq (by rw [KK.out.klen]; exact tl))
            have hh1' := NK.out.ch.cells p (by rw [KK.out.hlen]; exact pn)
            rw [hu3] at hh1'
            have hh2' := NK.out.ch.cells tq (by rw [KK.out.hlen]; exact tl)
            have fh2' := NK.out.ch.fz tq
            obtain ⟨X, hX⟩ : ∃ X, (U.setCell ⟨A1.heap.size, tq, none⟩ (.bool true)).drew.setCell ⟨w1.heap.size, tq, none⟩ (.int .i64 (u3 + u1 - u2)) = X := ⟨_, rfl⟩
            have ND := hide' (show KW w1 X w1.heap.size A1.heap.size A3.heap.size (.slice sa2 Q2.length sc2) Q2 (hs2.set tq (u3 + u1 - u2)) (kn2.set tq true) by rw [← hX]; exact NK.out.drew.setH tq (u3 + u1 - u2) (by rw [KK.out.hlen]; exact tl))
            obtain ⟨z0, z1, z2, z3, z4, z5, z6⟩ := RX.out.next NK.out.bl
            obtain ⟨_, _, et, ht'⟩ := (AT.out.below NK.out.bl).at (k := x) xl
            obtain ⟨_, _, ew1, hw1'⟩ := (AW.out.below NK.out.bl).at (k := tv) tvl
            obtain ⟨_, _, ew2, hw2'⟩ := (AW.out.below NK.out.bl).at (k := c) (by omega)
            injection et with et
            injection et with et1 et2 et3
            subst et1
            subst et2
            injection ew1 with ew1
            injection ew1 with q1' q2' q3'
            subst q1'
            subst q2'
            injection ew2 with ew2
            injection ew2 with q4' q5' q6'
            subst q4'
            subst q5'
            rw [htv] at ht'
            rw [hu1] at hw1'
            rw [hu2] at hw2'
            have q4 : Q2.length ≤ 4096 := by omega
            clear hβ hu1 hu2 hu3 htv hx htq yx
            skip
            go_wp2
            skip
            go_region
            have HLN := hide' (show (Q2.map fun (y : Nat) => (y : Int)).length = Q2.length by rw [List.length_map])
            go_wp2_with (at_builtin; refine wpList_append_own _ rfl _ _ 22 rfl A3.heap.size 3 i0 (.int .i64 0) 1 8 Tryd.underlying22 hi hz0 hz1 hz2 rfl (by decide) (.slice sa2 Q2.length sc2) _ _ rfl (ND.out.own.alloc _) ⟨X.heap.size, 0, none⟩ 1 1 [.int .i64 (tq : Int)] rfl rfl (cell_one_new _ _ _) (fun x hx => by simp at hx; subst hx; rfl) (by rw [HLN.out]; unfold maxLen; omega) (by rw [HLN.out]; omega) (by have := ND.out.l5; rw [World.size_alloc]; omega) ?_; intro v' w3 hown3 hgrow3 hnil3; have L3 := hide' (ND.out.push tq 3 hgrow3 hown3); clear hown3 hgrow3 hnil3)
            skip
            exact ⟨⟨c + 1, Q2 ++ [tq], _, _, by go_num, by omega, L3.out, FR, hide' (by rw [List.getElem?_append_left (List.getElem?_eq_some_iff.1 HP.out).1]; exact HP.out)⟩, by simp [intOf]; omega⟩
          · have OL := hide' (KK.out.old n0 HP.out (by rw [hx, htq]; exact hβ))
            clear hβ hx htq yx
            go_wp2
            exact ⟨⟨c + 1, Q2, hs2, kn2, by go_num, by omega, F1.out, OL, HP⟩, by simp [intOf]; omega⟩
        · have cS : c = wn := by omega
          subst cS
          have il : i < Q2.length := (List.getElem?_eq_some_iff.1 HP.out).1
          have RW := hide' KK.out.row
          go_wp2
          exact ⟨⟨i + 1, Q2, hs2, kn2, by go_num, by omega, F1.out, RW⟩, by simp [intOf]; omega⟩
    · have iq : Q.length ≤ i := by omega
      have IFF := hide' (FIN.out Q hs kn i 0 KK.out iq)
      have HB := hide' KK.out.bnd
      have HLN := hide' KK.out.hlen
      clear KK iq hiq
      go_wp2
      clear d
      skip
      go_loopw [14] (fun pv wr => ∃ p q : Nat, pv = .int .i64 (p : Int) ∧ p ≤ n ∧ wr = V.drewN q ∧ Hid (∀ x, x < p * wn → hs.getD (x % n) 0 = hs.getD (x / wn) 0 + chl wn T wt x)) (fun pv _ => n - (intOf pv).toNat)
      case atStart => exact ⟨0, 0, rfl, by omega, rfl, hide' (fun x hx => by omega)⟩
      case round =>
        obtain ⟨p, q, rfl, hp, rfl, HO⟩ := hrel
        obtain ⟨x0, x1, x2, x3, x4, x5, x6⟩ := RX.out.next F0.out.bl
        by_cases d : (p : Int) < (n : Int)
        · go_wp2
          go_loopw [15] (fun cv wr => ∃ c q : Nat, cv = .int .i64 (c : Int) ∧ c ≤ wn ∧ wr = V.drewN q ∧ Hid (∀ x, x < p * wn + c → hs.getD (x % n) 0 = hs.getD (x / wn) 0 + chl wn T wt x)) (fun cv _ => wn - (intOf cv).toNat)
          case atStart => exact ⟨0, q, rfl, by omega, rfl, HO⟩
          case round =>
            obtain ⟨c, q, rfl, hc, rfl, HI⟩ := hrel
            obtain ⟨x0, x1, x2, x3, x4, x5, x6⟩ := RX.out.next F0.out.bl
            by_cases dc : (c : Int) < (wn : Int)
            · obtain ⟨x, hx⟩ : ∃ x, p * wn + c = x := ⟨_, rfl⟩
              have xl : x < tn := by
                rw [← hx, HTN.out]
                have : (p + 1) * wn ≤ n * wn := Nat.mul_le_mul_right _ (by omega)
                rw [Nat.add_mul] at this
                omega
              have HXL := hide' (show x < n * wn by rw [← HTN.out]; exact xl)
              obtain ⟨y, hy⟩ : ∃ y : Nat, (p : Int) * (wn : Int) = (y : Int) := ⟨p * wn, by simp⟩
              have yx : y + c = x := by
                have : ((p * wn : Nat) : Int) = (y : Int) := by rw [← hy]; simp
                omega
              have yx2 : (y : Int) + (c : Int) = (x : Int) := by omega
              obtain ⟨tq, htq⟩ : ∃ tq, x % n = tq := ⟨_, rfl⟩
              have e1 : (x : Int).tmod (n : Int) = (tq : Int) := by
                rw [Int.tmod_eq_emod_of_nonneg (by omega), ← htq]
                simp
              have tl : tq < n := by rw [← htq]; exact Nat.mod_lt _ n0
              obtain ⟨gt, ot, rfl, ht⟩ := (AT.out.below F0.out.bl).at (k := x) xl
              have tc2 := CA.out x xl
              obtain ⟨tv, htv⟩ : ∃ tv : Nat, T.getD x 0 = (tv : Int) := ⟨(T.getD x 0).toNat, by omega⟩
              rw [htv] at ht tc2
              have tvl : tv < wn := by omega
              obtain ⟨gw, ow, rfl, hw1⟩ := (AW.out.below F0.out.bl).at (k := tv) tvl
              obtain ⟨gw2, ow2, ew, hw2⟩ := (AW.out.below F0.out.bl).at (k := c) (by omega)
              injection ew with ew
              injection ew with ew1 ew2 ew3
              subst ew1
              subst ew2
              have wb1 := WT.out tv
              have wb2 := WT.out c
              have hb1 := HB.out p (by omega)
              have hb2 := HB.out tq tl
              have hh1 := F0.out.ch.cells p (by rw [HLN.out]; omega)
              have hh2 := F0.out.ch.cells tq (by rw [HLN.out]; exact tl)
              obtain ⟨u1, hu1⟩ : ∃ u1, wt.getD tv 0 = u1 := ⟨_, rfl⟩
              obtain ⟨u2, hu2⟩ : ∃ u2, wt.getD c 0 = u2 := ⟨_, rfl⟩
              obtain ⟨u3, hu3⟩ : ∃ u3, hs.getD p 0 = u3 := ⟨_, rfl⟩
              obtain ⟨u4, hu4⟩ : ∃ u4, hs.getD tq 0 = u4 := ⟨_, rfl⟩
              have EV := hide' (show (hs.getD (x % n) 0 = hs.getD (x / wn) 0 + chl wn T wt x) ↔ u4 = u3 + u1 - u2 by
                unfold chl
                have e5 : x % wn = c := by rw [← hx, Nat.mul_comm, Nat.mul_add_mod, Nat.mod_eq_of_lt (by omega)]
                have e6 : x / wn = p := by rw [← hx, Nat.mul_comm, Nat.mul_add_div (by omega), Nat.div_eq_of_lt (by omega), Nat.add_zero]
                rw [htq, e5, e6, htv, Int.toNat_natCast, hu1, hu2, hu3, hu4]
                omega)
              rw [hu1] at hw1 wb1
              rw [hu2] at hw2 wb2
              rw [hu3] at hh1 hb1
              rw [hu4] at hh2 hb2
              by_cases eq : u4 = u3 + u1 - u2
              · have qq : (u4 != u3 + u1 - u2) = false := by simp [eq]
                have NI := hide' (show ∀ z, z < p * wn + (c + 1) → hs.getD (z % n) 0 = hs.getD (z / wn) 0 + chl wn T wt z from fun z hz => by
                  rcases Nat.lt_or_ge z (p * wn + c) with r | r
                  · exact HI.out z r
                  · rw [show z = x by omega]; exact EV.out.2 eq)
                clear eq hu1 hu2 hu3 hu4 htv hx htq yx
                go_wp2
                go_quiet (fail)
                go_wp2
                exact ⟨⟨c + 1, q + nq, by go_num, by omega, rfl, NI⟩, by simp [intOf]; omega⟩
              · have qq : (u4 != u3 + u1 - u2) = true := by simp [eq]
                have NO := hide' (show ¬ KeepsP wn n T wt from fun h => eq (EV.out.1 (IFF.out.2 h x HXL.out)))
                clear eq hu1 hu2 hu3 hu4 htv hx htq yx
                go_wp2
                go_quiet (fail)
                go_wp2
                rw [← HPP.out]
                exact ⟨⟨false, rfl, ⟨fun h => Bool.noConfusion h, fun h => absurd h NO.out⟩⟩, BB.out.trans ((below_drewN (below_drewN F0.out.bl _) _).mono BB.out.size)⟩
            · have cS : c = wn := by omega
              have NO := hide' (show ∀ x, x < (p + 1) * wn → hs.getD (x % n) 0 = hs.getD (x / wn) 0 + chl wn T wt x from fun x hx => HI.out x (by rw [Nat.add_mul] at hx; omega))
              clear cS
              go_wp2
              exact ⟨⟨p + 1, q, by go_num, by omega, rfl, NO⟩, by simp [intOf]; omega⟩
        · have YS := hide' (IFF.out.1 (fun x hx => HO.out x (by rw [show p = n by omega]; exact hx)))
          go_wp2
          rw [← HPP.out]
          exact ⟨⟨true, rfl, ⟨fun _ => YS.out, fun _ => rfl⟩⟩, BB.out.trans ((below_drewN F0.out.bl _).mono BB.out.size)⟩
end Go.Proofs.YtjjdjdodhedihaaDoor

