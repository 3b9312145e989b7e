/-
  What the last text of this claim leans on, part 21: Wv5, Wx3.
-/
import Derived.Test.YthmeapplnocfjaaDoorZd19
import Derived.Test.YthmeapplnocfjaaDoorZd20
import Derived.Test.YthmeapplnocfjaaDoorZd2
namespace Go.Proofs.YthmeapplnocfjaaDoor
open Go.RowKit
set_option linter.unusedVariables false
set_option linter.unusedSimpArgs false
theorem grown_below {w V V' : World} {row : Option Nat} (h : w.grownBy V row) (k : Below V.heap.size V V') : w.grownBy V' row := ⟨k.os.trans h.os, k.tape.trans h.tape, k.output.trans h.output, Nat.le_trans h.size k.size, fun p hp hn => (k.block p (Nat.lt_of_lt_of_le hp h.size)).trans (h.block p hp hn)⟩
theorem grown_set {w V : World} {g : Nat} (h : w.grownBy V (some g)) (i : Nat) (v : Value) : w.grownBy (V.setCell ⟨g, i, none⟩ v) (some g) := ⟨h.os, h.tape, h.output, by have := h.size; simp; exact this, fun p hp hn => by
  rw [heap_setCell_other _ _ _ _ (fun e => hn (by rw [e]))]
  exact h.block p hp hn⟩
theorem TzTab.grown {w V : World} {g : Nat} (h : TzTab w) (k : w.grownBy V (some g)) (hg : 2 ≠ g) : TzTab V := fun j hj => (World.cell?_of_block (w := w) (a := ⟨2, j, none⟩) (k.block _ (tz_lt h) (fun e => hg (Option.some.inj e)))).trans (h j hj)
/-- What choose answers. -/
def ChO (b : BdW) (g r c : Nat) (w : World) (e : Ending) (w' : World) : Prop := ∃ k, ChoW b r c k ∧ e = .returned (.int .i64 (k : Int)) ∧ k < 16 ∧ BrdA w' g (setM b r c (2 ^ k)) ∧ w.grownBy w' (some g)
set_option maxRecDepth 100000 in
set_option maxHeartbeats 12800000 in
theorem choose_any (b : BdW) (g r c : Nat) (w : World) (hB : BrdA w g b) (hb : BokW b) (hT : TzTab w) (ho : OpB b) (hg : 2 ≠ g) (hr : r < b.H) (hc : c < b.W) :
    Calls Tryd.prog 29 #[.pointer (some ⟨g, 0, none⟩), .int .i64 (r : Int), .int .i64 (c : Int)] w (ChO b g r c w) := by
  have r5 : r < 5 := by have := hb.h5; omega
  have c5 : c < 5 := by have := hb.w5; omega
  have M16 := hb.may r c
  have TZ := hide' (fun (x : Nat) (V : World) (h : w.grownBy V (some g)) (h0 : 0 < x) (h1 : x < 65536) => tz_any x V h0 (by omega) (hT.grown h hg))
  have OPC := hide' (fun (m : Nat) (hm : m < 65536) (V : World) (h : w.grownBy V (some g)) (hV : BrdA V g (setM b r c m)) => open_any (setM b r c m) g V hV (hb.set r c hm) (hT.grown h hg))
  have LAST := hide' (fun (n k : Nat) hn hk hb' hz => cho_last (rest := 0) (n := n) (k := k) ho hr hc hn hk hb' hz)
  have ONE := hide' (fun (n k : Nat) hn hk hb' hm ho' => cho_of (b := b) (r := r) (c := c) (n := n) (k := k) hn hk hb' hm ho')
  have MORE := hide' (fun (n k : Nat) hn hb' no => cho_more (b := b) (r := r) (c := c) (n := n) (k := k) hn hb' no)
  have POS := hide' (show 0 < b.may r c from by
    obtain ⟨S, hS⟩ := ho
    rcases Nat.eq_zero_or_pos (b.may r c) with z | z
    · have := hS.1 r c hr hc
      rw [z] at this
      simp at this
    · exact z)
  have RS0 := hide' (RsW.start M16)
  have E0 := hide' (show BrdA w g (setM b r c (b.may r c)) from by
    have e : setM b r c (b.may r c) = b := by
      unfold setM
      obtain ⟨t, W, H, rg, may⟩ := b
      simp only
      congr 1
      funext r' c'
      by_cases q : r' = r ∧ c' = c
      · rw [if_pos q, q.1, q.2]
      · rw [if_neg q]
    rw [e]; exact hB)
  have cm := hB.may r5 c5
  have gl := lt_blockT hB
  obtain ⟨M, hM⟩ : ∃ M, b.may r c = M := ⟨_, rfl⟩
  rw [hM] at M16 POS RS0 E0 cm
  have HM := hide' hM
  clear hB hb hT ho hM hr hc
  have r0 : (0 : Int) ≤ (r : Int) := by omega
  have ri5 : (r : Int) < 5 := by omega
  have c0 : (0 : Int) ≤ (c : Int) := by omega
  have ci5 : (c : Int) < 5 := by omega
  go_enter Tryd.func29, Tryd.ntmps29
  go_wp2
  clear cm
  go_loopw [7, 8] (fun rv _ wr => ∃ (n rest m : Nat), rv = .int .u64 (rest : Int) ∧ 0 < rest ∧ m < 65536 ∧ Hid (RsW M n rest) ∧ Hid (∀ j, j < n → (b.may r c).testBit j = true → ¬ OpB (setM b r c (2 ^ j))) ∧ Hid (BrdA wr g (setM b r c m)) ∧ Hid (w.grownBy wr (some g))) (fun rv _ _ => (intOf rv).toNat)
  case atStart => exact ⟨0, M, M, rfl, POS.out, M16, RS0, hide' (fun j h => by omega), E0, hide' (World.grownBy.refl _ _)⟩
  case round =>
    clear RS0 E0 POS
    obtain ⟨n, rest, m, rfl, z, hm, RS, HN, BR, GR⟩ := hrel
    have rl := RS.out.2.1
    obtain ⟨t1, t2⟩ := ctz_low z (by omega)
    have TZC := hide' (TZ.out rest wr GR.out z rl)
    obtain ⟨k, hk⟩ : ∃ k, Lib.ctz 64 rest = k := ⟨_, rfl⟩
    rw [hk] at t1 t2 TZC
    obtain ⟨nk, k16, mk, mz, RN⟩ := RS.out.step t1 t2
    rw [← HM.out] at mk mz
    have MKH := hide' mk
    have MZH := hide' mz
    have RN := hide' RN
    have a1 : bits .and .u64 (rest : Int) ((rest : Int) - 1) = ((rest &&& (rest - 1) : Nat) : Int) := and_u64W z rl
    have dl : rest &&& (rest - 1) < rest := and_pred_lt z
    have cm := BR.out.may r5 c5
    have fz := frozen_of_row wr _ (67 + r * 5 + c) _ _ BR.out
    have BN := hide' (show BrdA (wr.setCell ⟨g, 67 + r * 5 + c, none⟩ (.int .u64 ((2 ^ k : Nat) : Int))) g (setM b r c (2 ^ k)) from by
      have := set_mayW BR.out r5 c5 (2 ^ k)
      rwa [set_set] at this)
    have GN := hide' (grown_set GR.out (67 + r * 5 + c) (.int .u64 ((2 ^ k : Nat) : Int)))
    have sh := shl_small k16
    have pk16 : 2 ^ k < 65536 := Nat.lt_of_lt_of_le (Nat.pow_lt_pow_right (by omega) k16) (by decide)
    have gw := lt_blockT BR.out
    have HK := hide' (And.intro nk k16)
    have NC := hide' (show ChoW b r c k → ∀ V, BrdA V g (setM b r c (2 ^ k)) → w.grownBy V (some g) → ChO b g r c w (.returned (.int .i64 (k : Int))) V from fun h V h1 h2 => ⟨k, h, rfl, k16, h1, h2⟩)
    obtain ⟨pk, hpk⟩ : ∃ pk, 2 ^ k = pk := ⟨_, rfl⟩
    rw [hpk] at BN GN sh pk16
    have HPK := hide' hpk
    have k0 : (0 : Int) ≤ (k : Int) := by omega
    have k64 : (k : Int) ≤ 64 := by omega
    obtain ⟨nr, hnr⟩ : ∃ nr, rest &&& (rest - 1) = nr := ⟨_, rfl⟩
    rw [hnr] at RN a1 dl
    clear t1 t2 mk mz hk hpk hnr RS BR GR nk
    go_wp2_with fail
    refine TZC.out.mono ?_
    rintro e w' ⟨rfl, rfl⟩
    go_upto_region 3 with fail
    go_region
    obtain ⟨w5, hw5⟩ : ∃ w5, (w'.setCell ⟨g, 67 + r * 5 + c, none⟩ (.int .u64 (pk : Int))).drew = w5 := ⟨_, rfl⟩
    have B5 := hide' (show BrdA w5 g (setM b r c pk) by rw [← hw5]; exact BN.out)
    have G5 := hide' (show w.grownBy w5 (some g) by rw [← hw5]; exact ⟨GN.out.os, GN.out.tape, GN.out.output, GN.out.size, GN.out.block⟩)
    rw [hw5]
    clear hw5 cm fz
    rcases Nat.eq_zero_or_pos nr with q | q
    · subst q
      have CH := hide' (show ChoW b r c k from ONE.out n k HN.out HK.out.1 MZH.out MKH.out (LAST.out n k HN.out HK.out.1 MZH.out (fun j hj => by rw [HM.out]; exact RN.out.fin j hj)))
      go_wp2
      go_ret
      exact NC.out CH.out _ (by rw [HPK.out]; exact B5.out) G5.out
    · have qb : ((nr : Int) == 0) = false := by simp; omega
      have OC := hide' (OPC.out pk pk16 w5 G5.out B5.out)
      go_wp2_with fail
      refine OC.out.mono ?_
      rintro e w6 ⟨⟨zz, rfl, hz⟩, b6⟩
      have B6 := hide' (B5.out.below b6)
      have G6 := hide' (grown_below G5.out b6)
      clear b6
      cases zz with
      | true =>
        have CH := hide' (show ChoW b r c k from ONE.out n k HN.out HK.out.1 MZH.out MKH.out (by rw [HPK.out]; exact hz.1 rfl))
        clear hz
        go_wp2
        go_ret
        exact NC.out CH.out _ (by rw [HPK.out]; exact B6.out) G6.out
      | false =>
        have MO := hide' (MORE.out n k HN.out MZH.out (fun h => by rw [HPK.out] at h; have := hz.2 h; cases this))
        clear hz
        go_wp2
        exact ⟨⟨k + 1, nr, pk, rfl, q, pk16, RN, MO, B6, G6⟩, by simp [intOf]; omega⟩
end Go.Proofs.YthmeapplnocfjaaDoor

namespace Go.Proofs.YthmeapplnocfjaaDoor
open Go.RowKit
set_option linter.unusedVariables false
set_option linter.unusedSimpArgs false
/-- While it is filled: the board as it lies, the cells that are told. -/
structure FlS (b : BdW) (g : Nat) (w wr : World) (c : Nat → Nat) (N : Nat) (v : Value) : Prop where
  brd : ∃ B : BdW, BrdA wr g B ∧ B.t = b.t ∧ B.W = b.W ∧ B.H = b.H ∧ B.ring = b.ring ∧ (∀ r q, q < b.W → B.may r q = (setN b c N).may r q) ∧ (∀ r q, B.may r q < 65536)
  fil : FilW b c N
  own : wr.ownsRow w.heap.size 3 1 v N ((List.range N).map fun i => .int .i64 ((c i : Nat) : Int))
  gr : w.grownBy wr (some g)
/-- What fill answers. -/
def FiO (b : BdW) (g : Nat) (w : World) (e : Ending) (w' : World) : Prop :=
  (¬ OpB b ∧ e = .returned (.tuple #[.slice none 0 0, errOf 5]) ∧ w.grownBy w' (some g))
  ∨ (∃ c oa oc, FilW b c (b.H * b.W) ∧ e = .returned (.tuple #[.slice oa (b.H * b.W) oc, .nilIface]) ∧ w'.ownsRow w.heap.size 3 1 (.slice oa (b.H * b.W) oc) (b.H * b.W) ((List.range (b.H * b.W)).map fun i => .int .i64 ((c i : Nat) : Int)) ∧ w.grownBy w' (some g))
theorem cho_congr {b b' : BdW} (ht : b'.t = b.t) (hW : b'.W = b.W) (hH : b'.H = b.H) (hr : b'.ring = b.ring) (hm : ∀ r q, q < b.W → b'.may r q = b.may r q) {r q k : Nat} (hq : q < b.W) (h : ChoW b r q k) : ChoW b' r q k := by
  have key : ∀ j, OpB (setM b' r q (2 ^ j)) ↔ OpB (setM b r q (2 ^ j)) := fun j => by
    constructor
    · intro o
      exact op_congr (b := setM b' r q (2 ^ j)) (b' := setM b r q (2 ^ j)) ht.symm hW.symm hH.symm hr.symm (fun r' q' h' => by
        have h'' : q' < b.W := by rw [← hW]; exact h'
        show (if r' = r ∧ q' = q then 2 ^ j else b.may r' q') = (if r' = r ∧ q' = q then 2 ^ j else b'.may r' q')
        rw [hm r' q' h'']) o
    · intro o
      exact op_congr (b := setM b r q (2 ^ j)) (b' := setM b' r q (2 ^ j)) ht hW hH hr (fun r' q' h' => by
        show (if r' = r ∧ q' = q then 2 ^ j else b'.may r' q') = (if r' = r ∧ q' = q then 2 ^ j else b.may r' q')
        rw [hm r' q' h']) o
  obtain ⟨h1, h2, h3⟩ := h
  exact ⟨by rw [hm r q hq]; exact h1, (key k).2 h2, fun j hj hb => fun o => h3 j hj (by rw [← hm r q hq]; exact hb) ((key j).1 o)⟩
/-- The first cell is not told yet: nothing is set. -/
theorem FlS.start {b : BdW} {g : Nat} {w wr : World} {v : Value} (hB : BrdA wr g b) (hb : BokW b) (ho : OpB b) (own : wr.ownsRow w.heap.size 3 1 v 0 []) (gr : w.grownBy wr (some g)) : FlS b g w wr (fun _ => 0) 0 v :=
  ⟨⟨b, hB, rfl, rfl, rfl, rfl, fun r q _ => by rw [setN_zero], hb.may⟩, FilW.start _ ho, own, gr⟩
set_option maxRecDepth 100000 in
set_option maxHeartbeats 12800000 in
theorem fill_any (b : BdW) (g : Nat) (w : World) (hB : BrdA w g b) (hb : BokW b) (hT : TzTab w) (hg : 2 ≠ g) :
    Calls Tryd.prog 23 #[.pointer (some ⟨g, 0, none⟩)] w (FiO b g w) := by
  have OC := hide' (open_any b g w hB hb hT)
  have CC := hide' (fun (B : BdW) (r q : Nat) (V : World) (h : w.grownBy V (some g)) (hV : BrdA V g B) (h1 : B.t = b.t) (h2 : B.W = b.W) (h3 : B.H = b.H) (h5 : ∀ r c, B.may r c < 65536) (ho : OpB B) (hr : r < b.H) (hc : q < b.W) => choose_any B g r q V hV ⟨by rw [h2]; exact hb.w1, by rw [h2]; exact hb.w5, by rw [h3]; exact hb.h1, by rw [h3]; exact hb.h5, fun k => by rw [h1]; exact hb.col k, h5⟩ (hT.grown h hg) ho hg (by rw [h3]; exact hr) (by rw [h2]; exact hc))
  have HB := hide' (fun (V : World) (h : Below w.heap.size w V) => hB.below h)
  have HBO := hide' hb
  have W5 := hb.w5
  have H5 := hb.h5
  have W1 := hb.w1
  have H1 := hb.h1
  have gl := lt_blockT hB
  obtain ⟨i0, hi0, hz0, hz1, hz2⟩ := info_parts (show (Tryd.prog.info? 3).map (fun i => (i.zero, i.size, i.bytes)) = some (some (.int .i64 0), 1, 8) by kernel_rfl)
  clear hB hb hT
  go_enter Tryd.func23, Tryd.ntmps23
  go_wp2_with fail
  refine OC.out.mono ?_
  rintro e w1 ⟨⟨z, rfl, hz⟩, b1⟩
  have B1 := hide' b1
  clear b1
  cases z with
  | false =>
    have NO := hide' (show ¬ OpB b from fun h => by have := hz.2 h; cases this)
    clear hz
    go_wp2
    go_ret2
    exact Or.inl ⟨NO.out, rfl, ⟨B1.out.os, B1.out.tape, B1.out.output, B1.out.size, fun p hp _ => B1.out.block p hp⟩⟩
  | true =>
    have YES := hide' (hz.1 rfl)
    clear hz
    have D1 := hide' (HB.out w1 B1.out)
    have cw := D1.out.wide
    have ch := D1.out.high
    have gl1 := lt_blockT D1.out
    obtain ⟨N, hN⟩ : ∃ N, b.W * b.H = N := ⟨_, rfl⟩
    have eN : (b.W : Int) * (b.H : Int) = (N : Int) := by rw [← hN]; push_cast; rfl
    have N25 : N ≤ 25 := by rw [← hN]; exact Nat.le_trans (Nat.mul_le_mul W5 H5) (by decide)
    have wN : IntKind.i64.wrap ((b.W : Int) * (b.H : Int)) = (N : Int) := by rw [eN]; simp [IntKind.wrap, IntKind.signed, IntKind.bits]; omega
    have wN' : IntKind.i64.wrap (N : Int) = (N : Int) := by simp [IntKind.wrap, IntKind.signed, IntKind.bits]; omega
    obtain ⟨w2, hmk, own2, g2⟩ := run_make_own (P := Tryd.prog) w1.drew w.heap.size 23 3 i0 _ 1 Tryd.underlying23 hi0 hz0 hz1 .i64 .i64 N (by rw [hz2]; omega) (by unfold maxLen; omega) B1.out.size
    have K2 := hide' (show Below w1.heap.size w1 w2 from ⟨g2.os, g2.tape, g2.output, g2.size, fun p hp => g2.block p hp (by simp)⟩)
    have F2 := hide' (show FlS b g w w2 (fun _ => 0) 0 (.slice (some ⟨w1.drew.heap.size, 0, none⟩) 0 N) from FlS.start (D1.out.below K2.out) HBO.out YES.out own2 ⟨(K2.out.os.trans B1.out.os), (K2.out.tape.trans B1.out.tape), (K2.out.output.trans B1.out.output), Nat.le_trans B1.out.size K2.out.size, fun p hp _ => (K2.out.block p (Nat.lt_of_lt_of_le hp B1.out.size)).trans (B1.out.block p hp)⟩)
    have ch2 := (D1.out.below K2.out).high
    have gl2 := lt_blockT (D1.out.below K2.out)
    clear own2 g2 K2 D1 OC
    go_upto_region 3 with fail
    go_region
    clear hmk cw ch gl1
    go_wp2
    clear ch2 gl2
    go_loopw [4, 5, 6, 25] (fun ov _ _ iv wr => ∃ (r : Nat) (c : Nat → Nat) (oa : Option Addr) (oc : Nat), ov = .slice oa (r * b.W) oc ∧ iv = .int .i64 (r : Int) ∧ r ≤ b.H ∧ Hid (FlS b g w wr c (r * b.W) (.slice oa (r * b.W) oc))) (fun _ _ _ iv _ => b.H - (intOf iv).toNat)
    case atStart => exact ⟨0, _, _, N, by rw [Nat.zero_mul], rfl, by omega, by rw [Nat.zero_mul]; exact F2⟩
    case round =>
      clear F2
      obtain ⟨r, c, oa, oc, rfl, rfl, hr, FS⟩ := hrel
      by_cases d : (r : Int) < (b.H : Int)
      · have rH : r < b.H := by omega
        have cw : wr.cell? ⟨g, 64, none⟩ = some (.int .i64 (b.W : Int)) := by
          obtain ⟨B, h1, h2, h3, _⟩ := FS.out.brd
          rw [h1.wide, h3]
        have gw : g < wr.heap.size := by
          obtain ⟨B, h1, _⟩ := FS.out.brd
          exact lt_blockT h1
        obtain ⟨rw_, hrw⟩ : ∃ x, r * b.W = x := ⟨_, rfl⟩
        rw [hrw] at FS
        rw [hrw]
        have HRW := hide' hrw
        clear hrw
        go_wp2
        clear cw gw
        obtain ⟨VA, rfl⟩ : ∃ VV, VV = wr := ⟨_, rfl⟩
        go_loopw [4, 6, 32] (fun ov _ iv wr => ∃ (q : Nat) (c : Nat → Nat) (oa : Option Addr) (oc : Nat), ov = .slice oa (rw_ + q) oc ∧ iv = .int .i64 (q : Int) ∧ q ≤ b.W ∧ Hid (FlS b g w wr c (rw_ + q) (.slice oa (rw_ + q) oc))) (fun _ _ iv _ => b.W - (intOf iv).toNat)
        case atStart => exact ⟨0, c, oa, oc, rfl, rfl, by omega, FS⟩
        case round =>
          clear FS
          obtain ⟨q, c, oa, oc, rfl, rfl, hq, FS⟩ := hrel
          by_cases e : (q : Int) < (b.W : Int)
          · have qW : q < b.W := by omega
            obtain ⟨B, hBr, h1, h2, h3, h4, h5, h6⟩ := FS.out.brd
            have OPB := hide' (show OpB B from op_congr (b := setN b c (rw_ + q)) h1 h2 h3 h4 (fun r' q' h' => h5 r' q' h') FS.out.fil.op)
            have CH := hide' (CC.out B r q wr FS.out.gr hBr h1 h2 h3 h6 OPB.out rH qW)
            have KB := hide' (And.intro h1 (And.intro h2 (And.intro h3 (And.intro h4 (And.intro h5 h6)))))
            have OWN := hide' FS.out.own
            obtain ⟨m, hm⟩ : ∃ m, rw_ + q = m := ⟨_, rfl⟩
            have HMM := hide' hm
            have m25 : m < 25 := by
              have h7 := HRW.out
              have h8 : (r + 1) * b.W ≤ b.H * b.W := Nat.mul_le_mul_right _ rH
              have h9 : b.H * b.W ≤ 5 * 5 := Nat.mul_le_mul H5 W5
              rw [Nat.succ_mul] at h8
              omega
            rw [hm] at OWN
            rw [hm]
            clear h1 h2 h3 h4 h5 h6 hm hBr
            go_wp2_with fail
            refine CH.out.mono ?_
            rintro o w3 ⟨k, hk, rfl, k16, b3, g3⟩
            have OW3 := hide' (show w3.ownsRow w.heap.size 3 1 (.slice oa m oc) m ((List.range m).map fun i => .int .i64 ((c i : Nat) : Int)) from OWN.out.kept g3 (by
              rcases hv : (Value.slice oa m oc).ownBlock with _ | x
              · exact Or.inl rfl
              · refine Or.inr (fun e => ?_)
                have := (OWN.out.lt x hv).1
                cases e
                omega))
            have G3 := hide' (show w.grownBy w3 (some g) from ⟨g3.os.trans FS.out.gr.os, g3.tape.trans FS.out.gr.tape, g3.output.trans FS.out.gr.output, Nat.le_trans FS.out.gr.size g3.size, fun p hp hn => (g3.block p (Nat.lt_of_lt_of_le hp FS.out.gr.size) hn).trans (FS.out.gr.block p hp hn)⟩)
            have D3 := hide' b3
            have FN := hide' (show FilW b (upW c m k) (m + 1) from by
              have hc' : ChoW (setN b c (r * b.W + q)) r q k := cho_congr (b := B) (b' := setN b c (r * b.W + q)) KB.out.1.symm KB.out.2.1.symm KB.out.2.2.1.symm KB.out.2.2.2.1.symm (fun r' q' h' => by
                have h'' : q' < b.W := by rw [← KB.out.2.1]; exact h'
                rw [HRW.out]; exact (KB.out.2.2.2.2.1 r' q' h'').symm) (by rw [KB.out.2.1]; exact qW) hk
              have := FS.out.fil
              have fe : rw_ + q = r * b.W + q := by rw [HRW.out]
              rw [fe] at this
              have nx := this.next qW rH HBO.out.may hc'
              rw [HRW.out, HMM.out] at nx
              exact nx)
            have DN := hide' (show ∃ B' : BdW, BrdA w3 g B' ∧ B'.t = b.t ∧ B'.W = b.W ∧ B'.H = b.H ∧ B'.ring = b.ring ∧ (∀ r q, q < b.W → B'.may r q = (setN b (upW c m k) (m + 1)).may r q) ∧ (∀ r q, B'.may r q < 65536) from ⟨setM B r q (2 ^ k), D3.out, KB.out.1, KB.out.2.1, KB.out.2.2.1, KB.out.2.2.2.1, fun r' q' h' => by
              have h := setN_succ (b := b) (c := c) (r := r) (q := q) (k := k) qW r' q' h'
              rw [HRW.out, HMM.out] at h
              rw [← h]
              show (if r' = r ∧ q' = q then 2 ^ k else B.may r' q') = (if r' = r ∧ q' = q then 2 ^ k else (setN b c m).may r' q')
              have := KB.out.2.2.2.2.1 r' q' h'
              rw [HMM.out] at this
              rw [this], fun r' q' => by
              show (if r' = r ∧ q' = q then 2 ^ k else B.may r' q') < 65536
              split
              · exact Nat.lt_of_lt_of_le (Nat.pow_lt_pow_right (by omega) k16) (by decide)
              · exact KB.out.2.2.2.2.2 r' q'⟩)
            obtain ⟨w4, hw4⟩ : ∃ w4, w3.alloc (.cells #[.int .i64 (k : Int)] 3) = w4 := ⟨_, rfl⟩
            have K4 := (show Below w3.heap.size w3 w4 by rw [← hw4]; exact (Below.refl _ _).alloc (Nat.le_refl _) _)
            have O4 := hide' (own_alloc OW3.out K4)
            have G4 := hide' (grown_below G3.out K4)
            have NB := hide' (show ∀ j u, [Value.int .i64 (k : Int)][j]? = some u → w4.cell? ((⟨w3.heap.size, 0, none⟩ : Addr).add j) = some u from World.news_of_block (cs := #[.int .i64 (k : Int)]) (by rw [← hw4]; exact heap_alloc_new _ _))
            have FIN := hide' (fun (w5 : World) (gg cap : Nat) (hown : w5.ownsRow w.heap.size 3 1 (.slice (some ⟨gg, 0, none⟩) (m + 1) cap) (m + 1) (((List.range m).map fun i => Value.int .i64 ((c i : Nat) : Int)) ++ [.int .i64 (k : Int)])) (hgr : w4.grownBy w5 (Value.slice oa m oc).ownBlock) => show FlS b g w w5 (upW c m k) (m + 1) (.slice (some ⟨gg, 0, none⟩) (m + 1) cap) from by
              have lt := O4.out.lt
              have gB : some g ≠ (Value.slice oa m oc).ownBlock := fun e => by have := (lt g e.symm).1; omega
              obtain ⟨B', x1, x2⟩ := DN.out
              refine ⟨⟨B', ?_, x2⟩, FN.out, ?_, ⟨hgr.os.trans G4.out.os, hgr.tape.trans G4.out.tape, hgr.output.trans G4.out.output, Nat.le_trans G4.out.size hgr.size, fun p hp hn => (hgr.block p (Nat.lt_of_lt_of_le hp G4.out.size) (fun e => by have := (lt p e.symm).1; omega)).trans (G4.out.block p hp hn)⟩⟩
              · unfold BrdA
                rw [hgr.block g (Nat.lt_of_lt_of_le (lt_blockT x1) K4.size) gB]
                exact x1.below K4
              · have el : ((List.range (m + 1)).map fun i => Value.int .i64 ((upW c m k i : Nat) : Int)) = ((List.range m).map fun i => Value.int .i64 ((c i : Nat) : Int)) ++ [.int .i64 (k : Int)] := by
                  rw [List.range_succ, List.map_append]
                  congr 1
                  · exact List.map_congr_left fun i hi => by rw [upW_other _ (by have := List.mem_range.1 hi; omega)]
                  · simp [upW_at]
                rw [el]; exact hown)
            have HW4 := hide' hw4
            have G4S := hide' (Nat.le_trans G4.out.size (Nat.le_refl _))
            clear K4 hw4 b3 g3 hk D3 DN FN FS OWN CH OW3 KB OPB
            go_wp2_with (at_builtin; (try rw [HW4.out]); go_loud (refine wpList_append_lies _ rfl _ _ 23 rfl w.heap.size 3 i0 _ 1 8 Tryd.underlying23 hi0 hz0 hz1 hz2 rfl (by decide) (.slice oa m oc) m ((List.range m).map fun i => .int .i64 ((c i : Nat) : Int)) rfl O4.out ⟨w3.heap.size, 0, none⟩ 1 1 [.int .i64 (k : Int)] rfl rfl NB.out (fun u hu => by simp at hu; rw [hu]; rfl) (by omega) (by unfold maxLen; omega) (by omega) G4S.out w4.heap.size rfl ?_; intro g5 cap5 w5 hown hgr hat hlt; go_frame))
            have FX := hide' (FIN.out w5 g5 cap5 hown hgr)
            have em : rw_ + (q + 1) = m + 1 := by rw [← HMM.out]; omega
            exact ⟨⟨q + 1, _, some ⟨g5, 0, none⟩, cap5, by rw [em], by go_num, by omega, by rw [em]; exact FX⟩, by simp [intOf]; omega⟩
          · obtain rfl : q = b.W := by omega
            have em : rw_ + b.W = (r + 1) * b.W := by rw [← HRW.out, Nat.succ_mul]
            go_wp2
            exact ⟨⟨r + 1, c, oa, oc, by rw [em], by go_num, by omega, by rw [← em]; exact FS⟩, by simp [intOf]; omega⟩
      · obtain rfl : r = b.H := by omega
        obtain ⟨m, hm⟩ : ∃ m, b.H * b.W = m := ⟨_, rfl⟩
        rw [hm] at FS
        rw [hm]
        have HMM := hide' hm
        clear hm
        go_wp2
        go_ret2
        exact Or.inr ⟨c, oa, oc, by rw [HMM.out]; exact FS.out.fil, by rw [HMM.out]; rfl, by rw [HMM.out]; exact FS.out.own, FS.out.gr⟩
end Go.Proofs.YthmeapplnocfjaaDoor

