/-
  What the last text of this claim leans on, part 12: St4, Sv4, Sv5, Sv6, Sv1, Sv7, Ci0.
-/
import Derived.Test.YtopcgkncmhhkmaaDoorZd11
import Derived.Test.YtopcgkncmhhkmaaDoorZd9
import Derived.Test.YtopcgkncmhhkmaaDoorZd1
import Derived.Deep.DeepCutAuto
import Derived.Deep.RegionHeld3
import Derived.BigRegion
namespace Go.Proofs.YtopcgkncmhhkmaaDoor
open Go.RowKit
set_option linter.unusedVariables false
set_option linter.unusedSimpArgs false
set_option maxRecDepth 100000 in
set_option maxHeartbeats 6400000 in
theorem groundCounts_any (W H rb : Nat) (cor : Bool) (w : World) (h1 : 1 ≤ W) (hW : W ≤ 6) (h3 : 1 ≤ H) (hH : H ≤ 6) (hN : W * H ≤ 16) (hR : ArV w rb (W * H) 45 (uQ fun a => beD W cor a (W * H))) (hT : TzTab w) : Calls Tryd.prog 21 #[.agg #[.int .u64 ((2 ^ W - 1 : Nat) : Int), .int .u64 (((2 ^ W - 1) * 2 ^ (W * H - W) : Nat) : Int), .slice (some ⟨rb, 0, none⟩) (W * H) (W * H)]] w (RoO w (W * H + 1) (croN W H cor)) := by
  have LC := hide' (fun s (hs : s < 2 ^ (W * H)) V (hV : Below w.heap.size w V) => leads_anyS W H s rb cor V h1 hW h3 hH hN hs (hR.below hV hR.lt) (hT.below hV))
  have OC := hide' (fun s (hs : s < 2 ^ (W * H)) V => oc_any s V (Nat.lt_of_lt_of_le hs (Nat.le_trans (Nat.pow_le_pow_right (by decide) hN) (by decide))))
  have OP := hide' (fun s (hs : s < 2 ^ (W * H)) => oc_pop (W * H) s hN hs)
  have PL := hide' (fun s => pop_le s (W * H))
  have NX := hide' (fun n i => cr_next W H cor n i)
  have CL := hide' (fun n i => cr_le W H cor n i)
  have FN := hide' (fun i => show crP W H cor (2 ^ (W * H)) i = croN W H cor i from rfl)
  have ml : 2 ^ (W * H) ≤ 65536 := Nat.le_trans (Nat.pow_le_pow_right (by decide) hN) (by decide)
  have cp := pow_cast (W * H)
  obtain ⟨fs, hfs⟩ : ∃ fs, 2 ^ W - 1 = fs := ⟨_, rfl⟩
  obtain ⟨ls, hls⟩ : ∃ ls, (2 ^ W - 1) * 2 ^ (W * H - W) = ls := ⟨_, rfl⟩
  rw [hls, hfs] at LC ⊢
  obtain ⟨N, hNN⟩ : ∃ N, W * H = N := ⟨_, rfl⟩
  rw [hNN] at hR LC OC OP PL FN ml cp hN NX ⊢
  obtain ⟨M, hM⟩ : ∃ M, 2 ^ N = M := ⟨_, rfl⟩
  rw [hM] at LC OC OP FN ml cp
  obtain ⟨L, hL⟩ : ∃ L, N + 1 = L := ⟨_, rfl⟩
  rw [hL]
  have eL : (N : Int) + 1 = (L : Int) := by omega
  have s1 : IntKind.u64.wrap ((2 : Int) ^ N) = (M : Int) := by rw [← cp]; exact wrap_u64K (by omega)
  have MI := hide' (fun V => mk_intsQ L (by omega) V)
  have HE := hide' (And.intro hNN (And.intro hM hL))
  clear hfs hls hNN hM hL cp hR hT h1 hW h3 hH
  obtain ⟨w0, hw0⟩ : ∃ x, w.alloc (.cells #[.int .u64 (fs : Int), .int .u64 (ls : Int), .slice (some ⟨rb, 0, none⟩) N N] 48) = x := ⟨_, rfl⟩
  have g0 : GrB w0 w.heap.size fs ls rb N := by rw [← hw0]; exact heap_alloc_new _ _
  have B0 := hide' (show Below w.heap.size w w0 by rw [← hw0]; exact below_box _ _)
  have z0 := hide' (show w.heap.size < w0.heap.size by rw [← hw0]; simp)
  obtain ⟨d0, d1, d2⟩ := g0.cell
  have G0 := hide' g0
  clear g0
  have mk := MI.out w0
  obtain ⟨w1, hw1⟩ : ∃ x, w0.alloc (.cells (arrQ L (iQ fun _ => 0)) 3) = x := ⟨_, rfl⟩
  have R1 := hide' (show ArV w1 w0.heap.size L 3 (iQ fun _ => 0) by rw [← hw1]; exact heap_alloc_new _ _)
  have B1 := hide' (show Below w0.heap.size w0 w1 by rw [← hw1]; exact below_box _ _)
  have B2 := hide' (B0.out.trans (B1.out.mono B0.out.size))
  have G1 := hide' (G0.out.keep (B1.out.block _ G0.out.lt))
  rw [hw1] at mk
  obtain ⟨ob, hob⟩ : ∃ b, w0.heap.size = b := ⟨_, rfl⟩
  rw [hob] at mk R1 z0
  obtain ⟨d0', d1', d2'⟩ := G1.out.cell
  clear hw1 B1 hob
  go_enter Tryd.func21, Tryd.ntmps21
  go_wp2
  clear mk d0 d1 d2 d0' d1' d2' s1
  go_loopw [4, 14] (fun _ sv wr => ∃ (s : Nat), sv = .int .u64 (s : Int) ∧ s ≤ M ∧ Hid (ArV wr ob L 3 (iQ (crP W H cor s))) ∧ Hid (GrB wr w.heap.size fs ls rb N) ∧ Hid (Below w.heap.size w wr)) (fun _ sv _ => M - (intOf sv).toNat)
  case atStart => exact ⟨0, rfl, by omega, R1, G1, B2⟩
  case round =>
    obtain ⟨s, rfl, hs, AR, GR, BR⟩ := hrel
    by_cases d : (s : Int) < (M : Int)
    · have sl : s < M := by omega
      obtain ⟨d0, d1, d2⟩ := GR.out.cell
      have N1 := hide' (fun i => NX.out s i)
      have LS := hide' (LC.out s sl wr BR.out)
      obtain ⟨t, ht⟩ : ∃ t, leaC W H cor s = t := ⟨_, rfl⟩
      rw [ht] at LS
      simp only [ht] at N1
      clear ht
      go_wp2_with fail
      refine LS.out.mono ?_
      rintro o w3 ⟨rfl, b3⟩
      have A3 := hide' (AR.out.below b3 AR.out.lt)
      have G3 := hide' (GR.out.keep (b3.block _ GR.out.lt))
      have B3 := hide' (BR.out.trans (b3.mono BR.out.size))
      clear d0 d1 d2 b3
      cases t with
      | false =>
        have A4 := hide' (A3.out.ext (f' := iQ (crP W H cor (s + 1))) fun k _ => by unfold iQ; rw [N1.out k, if_neg (by decide)])
        go_wp2
        exact ⟨⟨s + 1, by go_num, by omega, A4, G3, B3⟩, by simp [intOf]; omega⟩
      | true =>
        have OS := hide' (OC.out s sl w3)
        rw [OP.out s sl] at OS
        have pl := PL.out s
        obtain ⟨k, hk⟩ : ∃ k, popD s N = k := ⟨_, rfl⟩
        rw [hk] at OS pl
        simp only [hk] at N1
        have kL : k < L := by have := HE.out.2.2; omega
        have k0 : (0 : Int) ≤ (k : Int) := by omega
        have kI : (k : Int) < (L : Int) := by omega
        have ck := A3.out.cell kL
        have fk := A3.out.frozen k
        have lk := A3.out.lt
        unfold iQ at ck
        have vl := CL.out s k
        have A4 := hide' ((A3.out.set k (.int .i64 ((crP W H cor s k + 1 : Nat) : Int))).ext (f' := iQ (crP W H cor (s + 1))) fun j _ => by
          unfold iQ
          rw [N1.out j, if_true]
          by_cases e : j = k
          · rw [if_pos e, if_pos e, e]
          · rw [if_neg e, if_neg e])
        have G4 := hide' (fun v => show GrB (w3.setCell ⟨ob, k, none⟩ v) w.heap.size fs ls rb N from G3.out.keep (set_other (by have := z0.out; omega)))
        have B4 := hide' (fun v => show Below w.heap.size w (w3.setCell ⟨ob, k, none⟩ v) from B3.out.setCell (p := ⟨ob, k, none⟩) (Nat.le_of_lt z0.out) v)
        obtain ⟨v, hv⟩ : ∃ v, crP W H cor s k = v := ⟨_, rfl⟩
        rw [hv] at ck vl A4
        clear hk hv N1
        go_wp2_with fail
        refine OS.out.mono ?_
        rintro o w4 ⟨rfl, rfl⟩
        go_wp2
        exact ⟨⟨s + 1, by go_num, by omega, hide' (by have q := A4.out; simpa using q), hide' (G4.out _), hide' (B4.out _)⟩, by simp [intOf]; omega⟩
    · obtain rfl : s = M := by omega
      have A4 := hide' (AR.out.ext (f' := iQ (croN W H cor)) fun k _ => by unfold iQ; rw [FN.out k])
      go_wp2
      go_ret
      exact ⟨ob, rfl, A4.out, Nat.le_of_lt z0.out, BR.out⟩
set_option maxRecDepth 100000 in
set_option maxHeartbeats 1600000 in
theorem crossings_bad (W H : Int) (cor : Bool) (w : World) (h : ntF W H 16 ≠ 0) : Calls Tryd.prog 11 #[.int .i64 W, .int .i64 H, .bool cor] w (ErO (ntF W H 16) w) := by
  have C := hide' (spinsCheck_any W H 16 w (by decide))
  obtain ⟨f, hf⟩ : ∃ f, ntF W H 16 = f := ⟨_, rfl⟩
  rw [hf] at C h ⊢
  have ef : errOf f = .iface 40 (.int .i64 (f : Int)) := by unfold errOf; rw [if_neg h]
  rw [ef] at C
  clear hf h ef
  go_enter Tryd.func11, Tryd.ntmps11
  go_wp2_with fail
  refine (show Calls Tryd.prog _ #[.int .i64 W, .int .i64 H, .int .i64 16] w _ from C.out).mono ?_
  rintro o w3 ⟨rfl, rfl⟩
  go_wp2
  go_ret2
  exact ⟨rfl, Below.refl _ _⟩
set_option maxRecDepth 100000 in
set_option maxHeartbeats 1600000 in
theorem crossings_ok (W H : Nat) (cor : Bool) (w : World) (h1 : 1 ≤ W) (hW : W ≤ 6) (h3 : 1 ≤ H) (hH : H ≤ 6) (hN : W * H ≤ 16) (hT : TzTab w) : Calls Tryd.prog 11 #[.int .i64 (W : Int), .int .i64 (H : Int), .bool cor] w (RcO w (W * H + 1) (croN W H cor)) := by
  have C := hide' (spinsCheck_any W H 16 w (by decide))
  have n0 : ntF W H 16 = 0 := by
    unfold ntF
    rw [if_neg (by omega), if_neg (by have : (W : Int) * (H : Int) = ((W * H : Nat) : Int) := by { push_cast; rfl }
                                      rw [this]; omega)]
  rw [n0, show errOf 0 = .nilIface from rfl] at C
  have JC := hide' (join_any W H cor w h1 hW h3 hH hN)
  have GC := hide' (fun rb (V : World) (hV : Below w.heap.size w V) hR => groundCounts_any W H rb cor V h1 hW h3 hH hN hR (hT.below hV))
  obtain ⟨fs, hfs⟩ : ∃ fs, 2 ^ W - 1 = fs := ⟨_, rfl⟩
  obtain ⟨ls, hls⟩ : ∃ ls, (2 ^ W - 1) * 2 ^ (W * H - W) = ls := ⟨_, rfl⟩
  rw [hls, hfs] at JC GC
  obtain ⟨N, hNN⟩ : ∃ N, W * H = N := ⟨_, rfl⟩
  rw [hNN] at JC GC ⊢
  obtain ⟨L, hL⟩ : ∃ L, N + 1 = L := ⟨_, rfl⟩
  rw [hL] at GC ⊢
  clear hfs hls hNN hL n0 hN hT
  go_enter Tryd.func11, Tryd.ntmps11
  go_wp2_with fail
  refine (show Calls Tryd.prog _ #[.int .i64 (W : Int), .int .i64 (H : Int), .int .i64 16] w _ from C.out).mono ?_
  rintro o w3 ⟨rfl, rfl⟩
  go_wp2_with fail
  refine JC.out.mono ?_
  rintro o w4 ⟨⟨q, rfl, r4, q4⟩, b4⟩
  go_wp2_with fail
  refine (GC.out q w4 b4 r4).mono ?_
  rintro o w5 ⟨g, rfl, a5, g5, b5⟩
  have A5 := hide' a5
  have B5 := hide' (b4.trans (b5.mono b4.size))
  have G5 := hide' (Nat.le_trans b4.size g5)
  clear a5 g5 b5 b4 r4 q4
  go_wp2
  go_ret2
  exact ⟨g, rfl, A5.out, G5.out, B5.out⟩
end Go.Proofs.YtopcgkncmhhkmaaDoor

namespace Go.Proofs.YtopcgkncmhhkmaaDoor
set_option linter.unusedVariables false
/-- The nine places around one: may it be looked at; its number. -/
def lgM (W H : Nat) (cor : Bool) (x y m : Nat) : Bool := decide (1 ≤ x + m % 3) && decide (x + m % 3 ≤ W) && decide (1 ≤ y + m / 3) && decide (y + m / 3 ≤ H) && (decide (m % 3 = 1) || decide (m / 3 = 1) || cor)
def plM (W x y m : Nat) : Nat := (y + m / 3 - 1) * W + (x + m % 3 - 1)
/-- A search while it goes on: who is listed is who is marked. -/
structure SeR (W H : Nat) (cor : Bool) (s : Nat) (R : Nat → Bool) (l : List Nat) (d : Nat) : Prop where
  src : SrcL W (W * H) cor (fun i => decide (i / W = 0)) (fun i => decide (s / 2 ^ i % 2 = 1)) l d
  mark : ∀ j, j < W * H → (R j = true ↔ j ∈ l)
  cnt : l.length = cntD R (W * H)
theorem SeR.len {W H : Nat} {cor : Bool} {s : Nat} {R : Nat → Bool} {l : List Nat} {d : Nat} (h : SeR W H cor s R l d) : l.length ≤ W * H := by rw [h.cnt]; exact cnt_le _ _
/-- The first of the nine places are done with. -/
def hdM (W H : Nat) (cor : Bool) (s : Nat) (l : List Nat) (j m : Nat) : Prop := ∀ m', m' < m → lgM W H cor (j % W) (j / W) m' = true → s / 2 ^ plM W (j % W) (j / W) m' % 2 = 1 → plM W (j % W) (j / W) m' ∈ l
theorem SeR.no {W H : Nat} {cor : Bool} {s : Nat} {R : Nat → Bool} {l : List Nat} {d : Nat} (h : SeR W H cor s R l d) (hd : l.length ≤ d) (hn : ∀ k, k < d → ∀ j, l[k]? = some j → j / W ≠ H - 1) : leaC W H cor s = false := by
  rw [Bool.eq_false_iff]
  intro q
  obtain ⟨i, hi, e⟩ := any_iff.1 q
  rw [Bool.and_eq_true] at e
  have m := (h.src.over hd i hi).1 e.2
  obtain ⟨k, hk, ek⟩ := List.getElem_of_mem m
  exact hn k (by omega) i (by rw [List.getElem?_eq_getElem hk, ek]) (of_decide_eq_true e.1)
end Go.Proofs.YtopcgkncmhhkmaaDoor

namespace Go.Proofs.YtopcgkncmhhkmaaDoor
open Go.RowKit
set_option linter.unusedVariables false
set_option linter.unusedSimpArgs false
def iL (l : List Nat) : List Value := l.map fun (k : Nat) => Value.int .i64 (k : Int)
structure LdW (w wr : World) (B ib wb N : Nat) (I R : Nat → Bool) (l : List Nat) (v : Value) : Prop where
  inr : ArV wr ib N 4 (bQ I)
  wet : ArV wr wb N 4 (bQ R)
  own : wr.ownsRow B 3 1 v l.length (iL l)
  below : Below w.heap.size w wr
  il : ib < B
  wl : wb < B
  ne : ib ≠ wb
  i0 : w.heap.size ≤ ib
  w0 : w.heap.size ≤ wb
  size : B ≤ wr.heap.size
theorem LdW.alloc {w wr : World} {B ib wb N : Nat} {I R : Nat → Bool} {l : List Nat} {v : Value} (h : LdW w wr B ib wb N I R l v) (o : Obj) : LdW w (wr.alloc o) B ib wb N I R l v :=
  ⟨h.inr.alloc o, h.wet.alloc o, h.own.alloc o, h.below.alloc h.below.size o, h.il, h.wl, h.ne, h.i0, h.w0, by simp; have := h.size; omega⟩
/-- Two rows of nothing, and none listed. -/
theorem LdW.start (w : World) (N : Nat) : LdW w ((w.alloc (.cells (arrQ N (bQ fun _ => false)) 4)).alloc (.cells (arrQ N (bQ fun _ => false)) 4)) (w.heap.size + 1 + 1) w.heap.size (w.heap.size + 1) N (fun _ => false) (fun _ => false) [] (.slice none 0 0) := by
  have e1 : ArV (w.alloc (.cells (arrQ N (bQ fun _ => false)) 4)) w.heap.size N 4 (bQ fun _ => false) := heap_alloc_new _ _
  refine ⟨e1.alloc _, ?_, World.ownsRow_nil _ _ _ _, ((Below.refl _ _).alloc (Nat.le_refl _) _).alloc (by simp) _, by omega, by omega, by omega, Nat.le_refl _, by omega, by simp⟩
  have := heap_alloc_new (w.alloc (.cells (arrQ N (bQ fun _ => false)) 4)) (.cells (arrQ N (bQ fun _ => false)) 4)
  rw [show (w.alloc (.cells (arrQ N (bQ fun _ => false)) 4)).heap.size = w.heap.size + 1 by simp] at this
  exact this
/-- While the places around one are looked at. -/
structure InR (w wr : World) (B ib wb W H : Nat) (cor : Bool) (s i j mm : Nat) (R : Nat → Bool) (l : List Nat) (v : Value) : Prop where
  ld : LdW w wr B ib wb (W * H) (fun j => decide (s / 2 ^ j % 2 = 1)) R l v
  se : SeR W H cor s R l i
  nl : ∀ k, k < i → ∀ j', l[k]? = some j' → j' / W ≠ H - 1
  at' : l[i]? = some j
  hd : hdM W H cor s l j mm
theorem InR.lt {w wr : World} {B ib wb W H : Nat} {cor : Bool} {s i j mm : Nat} {R : Nat → Bool} {l : List Nat} {v : Value} (h : InR w wr B ib wb W H cor s i j mm R l v) : i < l.length := (List.getElem?_eq_some_iff.1 h.at').1
theorem InR.cell {w wr : World} {B ib wb W H : Nat} {cor : Bool} {s i j mm : Nat} {R : Nat → Bool} {l : List Nat} {v : Value} (h : InR w wr B ib wb W H cor s i j mm R l v) : j < W * H := h.se.src.lt j (List.mem_of_getElem? h.at')
end Go.Proofs.YtopcgkncmhhkmaaDoor

namespace Go.Proofs.YtopcgkncmhhkmaaDoor
open Go.RowKit
set_option linter.unusedVariables false
set_option linter.unusedSimpArgs false
end Go.Proofs.YtopcgkncmhhkmaaDoor

namespace Go.Proofs.YtopcgkncmhhkmaaDoor
open Go.RowKit
set_option linter.unusedVariables false
set_option linter.unusedSimpArgs false
end Go.Proofs.YtopcgkncmhhkmaaDoor

namespace Go.Proofs.YtopcgkncmhhkmaaDoor
open Go.RowKit
set_option linter.unusedVariables false
set_option linter.unusedSimpArgs false
/-- A row as a list of numbers. -/
def rwL (L : Nat) (F : Nat → Nat) : List Int := (List.range L).map fun k => ((F k : Nat) : Int)
theorem ArV.arg {V : World} {g L : Nat} {F : Nat → Nat} (h : ArV V g L 3 (iQ F)) (hL : L ≤ 100) : ArgP V (rwL L F) (some ⟨g, 0, none⟩) L L := by
  refine ⟨by simp [rwL], by unfold maxLen; omega, fun k hk => ⟨g, 0, rfl, h.lt, ?_⟩⟩
  have hk' : k < L := by simpa [rwL] using hk
  rw [Nat.zero_add, h.cell hk']
  simp [rwL, iQ]
set_option maxRecDepth 100000 in
theorem sum_anyS (g L : Nat) (F : Nat → Nat) (w : World) (hL : L ≤ 100) (hA : ArV w g L 3 (iQ F)) (hs : ∀ k, k ≤ L → sumN F k ≤ 1073741824) (hF : ∀ k, k < L → F k ≤ 1073741824) : Calls Tryd.prog 13 #[.slice (some ⟨g, 0, none⟩) L L] w fun e w' => e = .returned (.int .i64 (sumN F L : Int)) ∧ w' = w := by
  have HA := hide' hA
  have HS := hide' hs
  have HF := hide' hF
  have gl := hA.lt
  clear hA hs hF
  go_enter Tryd.func13, Tryd.ntmps13
  go_wp2
  go_loopw [3, 4] (fun nv iv wr => ∃ i : Nat, nv = .int .i64 ((sumN F i : Nat) : Int) ∧ iv = .int .i64 (i : Int) ∧ i ≤ L ∧ wr = w) (fun _ iv _ => L - (intOf iv).toNat)
  case atStart => exact ⟨0, rfl, rfl, by omega, rfl⟩
  case round =>
    obtain ⟨i, rfl, rfl, hi, rfl⟩ := hrel
    by_cases d : (i : Int) < (L : Int)
    · have il : i < L := by omega
      have ii0 : (0 : Int) ≤ (i : Int) := by omega
      have ci := HA.out.cell il
      unfold iQ at ci
      have s1 := HS.out i hi
      have f1 := HF.out i il
      have NX := hide' (show sumN F (i + 1) = sumN F i + F i from rfl)
      obtain ⟨u, hu⟩ : ∃ u, sumN F i = u := ⟨_, rfl⟩
      obtain ⟨v, hv⟩ : ∃ u, F i = u := ⟨_, rfl⟩
      rw [hu] at s1 NX ⊢
      rw [hv] at ci f1 NX
      clear hu hv
      go_wp2
      exact ⟨⟨i + 1, by rw [NX.out]; go_num, by go_num, by omega, trivial⟩, by simp [intOf]; omega⟩
    · obtain rfl : i = L := by omega
      obtain ⟨u, hu⟩ : ∃ u, sumN F i = u := ⟨_, rfl⟩
      rw [hu]
      go_wp2
      go_ret
      exact ⟨rfl, rfl⟩
end Go.Proofs.YtopcgkncmhhkmaaDoor

namespace Go.Proofs.YtopcgkncmhhkmaaDoor
open Go.RowKit
set_option linter.unusedVariables false

theorem list_ne_len {xs ys : List Int} (h : xs.length ≠ ys.length) : decide (xs = ys) = false := by
  simp; intro e; exact h (by rw [e])
theorem list_ne_at {xs ys : List Int} {k : Nat} (hx : k < xs.length) (hy : k < ys.length) (h : xs[k] ≠ ys[k]) : decide (xs = ys) = false := by
  simp; intro e; subst e; exact h rfl

set_option maxHeartbeats 1600000 in
theorem Ints_any (xs ys : List Int) (a b : Option Addr) (n c m d : Nat) (w : World) (hA : ArgP w xs a n c) (hB : ArgP w ys b m d) :
    Calls Tryd.prog 10 #[.slice a n c, .slice b m d] w fun e w' => e = .returned (.bool (decide (xs = ys))) ∧ ∃ q, w' = w.drewN q := by
  have HA := hide' hA
  have HB := hide' hB
  have hlx := hA.len
  have hly := hB.len
  have hma := hA.max
  have hmb := hB.max
  have LX := hide' hlx
  have LY := hide' hly
  unfold maxLen at hma hmb
  by_cases hnm : n = m
  · subst hnm
    clear hA hB hlx hly
    have EQ := hide' (fun (h : ∀ j (h1 : j < xs.length) (h2 : j < ys.length), xs[j] = ys[j]) => show decide (xs = ys) = true by
      simp; exact List.ext_getElem (by rw [← LX.out, ← LY.out]) fun j h1 h2 => h j h1 h2)
    go_enter Tryd.func10, Tryd.ntmps10
    go_wp2
    go_loopw [5] (fun iv wr => ∃ k q : Nat, iv = .int .i64 (k : Int) ∧ k ≤ n ∧ wr = w.drewN q ∧ Hid (∀ j (h1 : j < xs.length) (h2 : j < ys.length), j < k → xs[j] = ys[j])) (fun iv _ => n - (intOf iv).toNat)
    case atStart => exact ⟨0, 0, rfl, by omega, rfl, fun j h1 h2 h => by omega⟩
    case round =>
      obtain ⟨k, q, rfl, hk, rfl, HK⟩ := hrel
      by_cases hkn : (k : Int) < (n : Int)
      · have l1 : k < xs.length := by have := LX.out; omega
        have l2 : k < ys.length := by have := LY.out; omega
        obtain ⟨ga, oa, rfl, -, c1⟩ := HA.out.cells k l1
        obtain ⟨gb, ob, rfl, -, c2⟩ := HB.out.cells k l2
        obtain ⟨x, hx⟩ : ∃ x, xs[k] = x := ⟨_, rfl⟩
        obtain ⟨y, hy⟩ : ∃ y, ys[k] = y := ⟨_, rfl⟩
        rw [hx] at c1
        rw [hy] at c2
        have HX := hide' hx
        have HY := hide' hy
        clear hx hy
        by_cases e : x = y
        · subst e
          have m1 : (x != x) = false := by simp
          go_wp2
          go_quiet (fail)
          go_wp2
          refine ⟨⟨k + 1, q + nq, by go_num, by omega, rfl, fun j h1 h2 h => ?_⟩, by simp [intOf]; omega⟩
          by_cases ej : j = k
          · subst ej; rw [HX.out, HY.out]
          · exact HK.out j h1 h2 (by omega)
        · have m1 : (x != y) = true := by simp [e]
          have F := hide' (list_ne_at l1 l2 (by rw [HX.out, HY.out]; exact e))
          clear e
          go_wp2
          go_quiet (fail)
          go_wp2
          go_ret
          exact ⟨by rw [F.out]; rfl, q + nq, by simp [World.drewN, Nat.add_assoc]⟩
      · have F := hide' (EQ.out fun j h1 h2 => HK.out j h1 h2 (by have := LX.out; omega))
        go_wp2
        go_ret
        exact ⟨by rw [F.out]; rfl, q, rfl⟩
  · have m1 : ((n : Int) != (m : Int)) = true := by simp; omega
    have F := hide' (list_ne_len (xs := xs) (ys := ys) (by rw [← hlx, ← hly]; exact hnm))
    clear hA hB hlx hly hnm
    go_enter Tryd.func10, Tryd.ntmps10
    go_wp2
    go_ret
    exact ⟨by rw [F.out]; rfl, 0, rfl⟩

end Go.Proofs.YtopcgkncmhhkmaaDoor

