/-
  What the last text of this claim leans on, part 10: Ss9, St1.
-/
import Derived.Test.YtopcgkncmhhkmaaDoorZd9
import Derived.BigQuiet
namespace Go.Proofs.YtopcgkncmhhkmaaDoor
open Go.RowKit
set_option linter.unusedVariables false
set_option linter.unusedSimpArgs false
set_option maxRecDepth 100000 in
set_option maxHeartbeats 1600000 in
theorem meet_any (d r : Int) (cor : Bool) (w : World) (h1 : -100 ≤ d) (h2 : d ≤ 100) (h3 : -100 ≤ r) (h4 : r ≤ 100) : Calls Tryd.prog 30 #[.int .i64 d, .int .i64 r, .bool cor] w fun e w' => e = .returned (.bool (mtI d r cor)) ∧ w' = w := by
  have sq : ∀ x : Int, -100 ≤ x → x ≤ 100 → 0 ≤ x * x ∧ x * x ≤ 10000 := fun x a b => by
    refine ⟨sq_pos x, ?_⟩
    rcases Int.le_total 0 x with h | h
    · exact Int.le_trans (Int.mul_le_mul b b h (by omega)) (by decide)
    · have := Int.mul_le_mul (show -x ≤ 100 by omega) (show -x ≤ 100 by omega) (by omega) (by omega)
      rw [Int.neg_mul_neg] at this
      omega
  have a1 := sq d h1 h2
  have a2 := sq r h3 h4
  have E := hide' (show mtI d r cor = (decide (d * d + r * r = 1) || (cor && decide (d * d + r * r = 2))) from rfl)
  obtain ⟨p, hp⟩ : ∃ p, d * d = p := ⟨_, rfl⟩
  obtain ⟨q, hq⟩ : ∃ p, r * r = p := ⟨_, rfl⟩
  rw [hp] at a1 E
  rw [hq] at a2 E
  have l1 : wrap64 p = p := by unfold wrap64; omega
  have l2 : wrap64 q = q := by unfold wrap64; omega
  obtain ⟨s, hs⟩ : ∃ s, p + q = s := ⟨_, rfl⟩
  have l3 : wrap64 s = s := by unfold wrap64; omega
  rw [hs] at E
  by_cases e1 : s = 1
  · rw [decide_eq_true e1, Bool.true_or] at E
    subst e1
    go_enter Tryd.func30, Tryd.ntmps30
    go_wp2
    go_ret
    exact ⟨by rw [E.out]; rfl, rfl⟩
  · rw [decide_eq_false e1, Bool.false_or] at E
    have b1 : (s == 1) = false := by simp; exact e1
    cases cor with
    | false =>
      rw [Bool.false_and] at E
      go_enter Tryd.func30, Tryd.ntmps30
      go_wp2
      go_ret
      exact ⟨by rw [E.out]; rfl, rfl⟩
    | true =>
      rw [Bool.true_and] at E
      by_cases e2 : s = 2
      · rw [decide_eq_true e2] at E
        subst e2
        go_enter Tryd.func30, Tryd.ntmps30
        go_wp2
        go_ret
        exact ⟨by rw [E.out]; rfl, rfl⟩
      · rw [decide_eq_false e2] at E
        have b2 : (s == 2) = false := by simp; exact e2
        go_enter Tryd.func30, Tryd.ntmps30
        go_wp2
        go_ret
        exact ⟨by rw [E.out]; rfl, rfl⟩
end Go.Proofs.YtopcgkncmhhkmaaDoor

namespace Go.Proofs.YtopcgkncmhhkmaaDoor
open Go.RowKit
set_option linter.unusedVariables false
set_option linter.unusedSimpArgs false
/-- A ground in a box. -/
def GrB (V : World) (b fs ls rb N : Nat) : Prop := V.heap[b]? = some (.cells #[.int .u64 (fs : Int), .int .u64 (ls : Int), .slice (some ⟨rb, 0, none⟩) N N] 48 (0, 0))
theorem GrB.cell {V : World} {b fs ls rb N : Nat} (h : GrB V b fs ls rb N) : V.cell? ⟨b, 0, none⟩ = some (.int .u64 (fs : Int)) ∧ V.cell? ⟨b, 1, none⟩ = some (.int .u64 (ls : Int)) ∧ V.cell? ⟨b, 2, none⟩ = some (.slice (some ⟨rb, 0, none⟩) N N) := by
  refine ⟨?_, ?_, ?_⟩ <;> rw [cell_of_row V _ _ _ _ _ h] <;> rfl
theorem GrB.lt {V : World} {b fs ls rb N : Nat} (h : GrB V b fs ls rb N) : b < V.heap.size := lt_blockQ h
theorem GrB.keep {V V' : World} {b fs ls rb N : Nat} (h : GrB V b fs ls rb N) (e : V'.heap[b]? = V.heap[b]?) : GrB V' b fs ls rb N := e.trans h
theorem info_uintQ : (Tryd.prog.info? 45).map (fun i => (i.zero, i.size, i.bytes)) = some (some (.int .u64 0), 1, 8) := by kernel_rfl
theorem mk_uintsQ (n : Nat) (hn : n ≤ 100) (w : World) : (Instr.makeSlice 46 (.int .i64 (n : Int)) (.int .i64 (n : Int))).run Tryd.prog w = .ok (.slice (some ⟨w.heap.size, 0, none⟩) n n) (w.alloc (.cells (arrQ n (uQ fun _ => 0)) 45)) := by
  rw [show arrQ n (uQ fun _ => 0) = arrQ n (fun _ => .int .u64 0) from rfl, ← made_allQ]
  exact run_make_row' (P := Tryd.prog) 46 45 (.int .u64 0) 8 Tryd.underlying46 info_uintQ rfl .i64 .i64 n (by omega) (by omega) w
/-- What lies there while a ground is laid. -/
structure JnS (w wr : World) (fs ls N p q : Nat) (F : Nat → Nat) : Prop where
  res : wr.heap[w.heap.size]? = some (.cells #[.int .u64 0, .int .u64 0, .slice none 0 0] 48 (0, 0))
  grd : GrB wr p fs ls q N
  row : ArV wr q N 45 (uQ F)
  pl : w.heap.size + 1 ≤ p
  ql : w.heap.size + 1 ≤ q
  ne : p ≠ q
  below : Below w.heap.size w wr
theorem JnS.set {w wr : World} {fs ls N p q : Nat} {F : Nat → Nat} (h : JnS w wr fs ls N p q F) (a x : Nat) : JnS w (wr.setCell ⟨q, a, none⟩ (.int .u64 (x : Int))) fs ls N p q (fun k => if k = a then x else F k) :=
  ⟨(set_other (by have := h.ql; omega)).trans h.res, (set_other h.ne).trans h.grd, (h.row.set a _).ext fun k _ => by unfold uQ; by_cases e : k = a <;> simp [e], h.pl, h.ql, h.ne, h.below.setCell (p := ⟨q, a, none⟩) (by have := h.ql; show w.heap.size ≤ q; omega) _⟩
theorem JnS.ext {w wr : World} {fs ls N p q : Nat} {F G : Nat → Nat} (h : JnS w wr fs ls N p q F) (e : ∀ k, k < N → F k = G k) : JnS w wr fs ls N p q G := ⟨h.res, h.grd, h.row.ext fun k hk => by unfold uQ; rw [e k hk], h.pl, h.ql, h.ne, h.below⟩
theorem JnS.drewN {w wr : World} {fs ls N p q : Nat} {F : Nat → Nat} (h : JnS w wr fs ls N p q F) (k : Nat) : JnS w (wr.drewN k) fs ls N p q F := ⟨h.res, h.grd, h.row, h.pl, h.ql, h.ne, below_drewN h.below k⟩
theorem JnS.drew {w wr : World} {fs ls N p q : Nat} {F : Nat → Nat} (h : JnS w wr fs ls N p q F) : JnS w wr.drew fs ls N p q F := ⟨h.res, h.grd, h.row, h.pl, h.ql, h.ne, h.below.drew⟩
theorem cut3S {A B C : Type} {P Φ : A → B → C → Prop} {G : Prop} (h : (∀ a b c, P a b c → Φ a b c) → G) (k : ∀ a b c, P a b c → Φ a b c) : G := h k
set_option maxRecDepth 100000 in
set_option maxHeartbeats 6400000 in
theorem join_any (W H : Nat) (cor : Bool) (w : World) (h1 : 1 ≤ W) (hW : W ≤ 6) (h3 : 1 ≤ H) (hH : H ≤ 6) (hN : W * H ≤ 16) : Calls Tryd.prog 20 #[.int .i64 (W : Int), .int .i64 (H : Int), .bool cor] w fun e w' => (∃ q, e = .returned (.agg #[.int .u64 ((2 ^ W - 1 : Nat) : Int), .int .u64 (((2 ^ W - 1) * 2 ^ (W * H - W) : Nat) : Int), .slice (some ⟨q, 0, none⟩) (W * H) (W * H)]) ∧ ArV w' q (W * H) 45 (uQ fun a => beD W cor a (W * H)) ∧ w.heap.size ≤ q) ∧ Below w.heap.size w w' := by
  have WN : W ≤ W * H := Nat.le_mul_of_pos_right W h3
  obtain ⟨N, hNN⟩ : ∃ N, W * H = N := ⟨_, rfl⟩
  have eN : (W : Int) * (H : Int) = (N : Int) := by rw [← hNN]; push_cast; rfl
  rw [hNN] at WN hN ⊢
  obtain ⟨D, hD⟩ : ∃ D, N - W = D := ⟨_, rfl⟩
  have eD : (N : Int) - (W : Int) = (D : Int) := by omega
  rw [hD]
  have mk := fun V => mk_uintsQ N (by omega) V
  have ml := two_le6 hW
  have mp := two_pos W
  have cp := pow_cast W
  have cd := pow_cast D
  have dl : 2 ^ D ≤ 65536 := Nat.le_trans (Nat.pow_le_pow_right (by decide) (show D ≤ 16 by omega)) (by decide)
  obtain ⟨m, hm⟩ : ∃ m, 2 ^ W = m := ⟨_, rfl⟩
  obtain ⟨fs, hfs⟩ : ∃ fs, m - 1 = fs := ⟨_, rfl⟩
  obtain ⟨pd, hpd⟩ : ∃ pd, 2 ^ D = pd := ⟨_, rfl⟩
  obtain ⟨ls, hls⟩ : ∃ ls, fs * pd = ls := ⟨_, rfl⟩
  rw [hm, hfs, hpd, hls]
  rw [hm] at ml mp cp
  rw [hpd] at cd dl
  have lsl : ls ≤ 64 * 65536 := by rw [← hls]; exact Nat.mul_le_mul (by omega) dl
  have u1 : IntKind.u64.wrap ((2 : Int) ^ W) = (m : Int) := by rw [← cp]; exact wrap_u64K (by omega)
  have u2 : IntKind.u64.wrap ((m : Int) - 1) = (fs : Int) := by rw [show (m : Int) - 1 = (fs : Int) by omega]; exact wrap_u64K (by omega)
  have u3 : IntKind.u64.wrap ((fs : Int) * (2 : Int) ^ D) = (ls : Int) := by
    rw [← cd, show (fs : Int) * (pd : Int) = (ls : Int) by rw [← hls]; push_cast; rfl]
    exact wrap_u64K (Nat.lt_of_le_of_lt lsl (by decide))
  have HE := hide' (And.intro hNN (And.intro hD (And.intro hm (And.intro hfs (And.intro hpd hls)))))
  clear hNN hD hm hfs hpd hls cp cd dl mp
  have MT := hide' (fun a b V => meet_any ((a / W : Nat) - (b / W : Nat) : Int) ((a % W : Nat) - (b % W : Nat) : Int) cor V)
  have MI := hide' (fun a b => mt_is W a b cor)
  have NX := hide' (fun a b => be_next W cor a b)
  have BL := hide' (fun a b (hb : b ≤ 16) => show beD W cor a b < 65536 from Nat.lt_of_lt_of_le (be_lt W cor a b) (Nat.le_trans (Nat.pow_le_pow_right (by decide) hb) (by decide)))
  have n16 : N ≤ 16 := hN
  go_enter Tryd.func20, Tryd.ntmps20
  go_upto_region 3 with fail
  refine cut3S (P := fun p q V => Hid (JnS w V fs ls N p q (fun _ => 0))) (Φ := ?PH) (fun CUT => ?mn) ?rs
  case mn =>
    go_region
    · obtain ⟨p, hp⟩ : ∃ p, w.heap.size + 1 + 1 = p := ⟨_, rfl⟩
      obtain ⟨q, hq⟩ : ∃ q, w.heap.size + 1 = q := ⟨_, rfl⟩
      rw [hp, hq]
      obtain ⟨V, hV⟩ : ∃ V, (((w.alloc (.cells #[.int .u64 0, .int .u64 0, .slice none 0 0] 48)).alloc (.cells (arrQ N (uQ fun _ => 0)) 45)).alloc (.cells #[.int .u64 (fs : Int), .int .u64 (ls : Int), .slice (some ⟨q, 0, none⟩) N N] 48)).drew = V := ⟨_, rfl⟩
      rw [hV]
      have T8 := hide' (show JnS w V fs ls N p q (fun _ => 0) from by
        rw [← hV]
        have e1 := heap_alloc_new w (.cells #[.int .u64 0, .int .u64 0, .slice none 0 0] 48)
        obtain ⟨wa, hwa⟩ : ∃ x, w.alloc (.cells #[.int .u64 0, .int .u64 0, .slice none 0 0] 48) = x := ⟨_, rfl⟩
        have za : wa.heap.size = w.heap.size + 1 := by rw [← hwa]; simp
        have ba : Below w.heap.size w wa := by rw [← hwa]; exact below_box _ _
        rw [hwa] at e1 ⊢
        have e2 := heap_alloc_new wa (.cells (arrQ N (uQ fun _ => 0)) 45)
        obtain ⟨wb, hwb⟩ : ∃ x, wa.alloc (.cells (arrQ N (uQ fun _ => 0)) 45) = x := ⟨_, rfl⟩
        have zb : wb.heap.size = wa.heap.size + 1 := by rw [← hwb]; simp
        have bb : Below wa.heap.size wa wb := by rw [← hwb]; exact below_box _ _
        rw [hwb] at e2 ⊢
        have e3 := heap_alloc_new wb (.cells #[.int .u64 (fs : Int), .int .u64 (ls : Int), .slice (some ⟨q, 0, none⟩) N N] 48)
        have bc := below_box wb (.cells #[.int .u64 (fs : Int), .int .u64 (ls : Int), .slice (some ⟨q, 0, none⟩) N N] 48)
        obtain ⟨wc, hwc⟩ : ∃ x, wb.alloc (.cells #[.int .u64 (fs : Int), .int .u64 (ls : Int), .slice (some ⟨q, 0, none⟩) N N] 48) = x := ⟨_, rfl⟩
        rw [hwc] at e3 bc ⊢
        refine ⟨(bc.block _ (by omega)).trans ((bb.block _ (by omega)).trans e1), ?_, ?_, by omega, by omega, by omega, ((ba.trans (bb.mono (by omega))).trans (bc.mono (by omega))).drew⟩
        · rw [zb, za, hp] at e3; exact e3
        · rw [za, hq] at e2; exact (bc.block q (by omega)).trans e2)
      exact CUT _ _ _ T8
    · obtain ⟨q, hp⟩ : ∃ p, w.heap.size + 1 + 1 = p := ⟨_, rfl⟩
      obtain ⟨p, hq⟩ : ∃ q, w.heap.size + 1 = q := ⟨_, rfl⟩
      rw [hp, hq]
      obtain ⟨V, hV⟩ : ∃ V, (((w.alloc (.cells #[.int .u64 0, .int .u64 0, .slice none 0 0] 48)).alloc (.cells #[.int .u64 (fs : Int), .int .u64 (ls : Int), .slice (some ⟨q, 0, none⟩) N N] 48)).alloc (.cells (arrQ N (uQ fun _ => 0)) 45)).drew = V := ⟨_, rfl⟩
      rw [hV]
      have T8 := hide' (show JnS w V fs ls N p q (fun _ => 0) from by
        rw [← hV]
        have e1 := heap_alloc_new w (.cells #[.int .u64 0, .int .u64 0, .slice none 0 0] 48)
        obtain ⟨wa, hwa⟩ : ∃ x, w.alloc (.cells #[.int .u64 0, .int .u64 0, .slice none 0 0] 48) = x := ⟨_, rfl⟩
        have za : wa.heap.size = w.heap.size + 1 := by rw [← hwa]; simp
        have ba : Below w.heap.size w wa := by rw [← hwa]; exact below_box _ _
        rw [hwa] at e1 ⊢
        have e2 := heap_alloc_new wa (.cells #[.int .u64 (fs : Int), .int .u64 (ls : Int), .slice (some ⟨q, 0, none⟩) N N] 48)
        obtain ⟨wb, hwb⟩ : ∃ x, wa.alloc (.cells #[.int .u64 (fs : Int), .int .u64 (ls : Int), .slice (some ⟨q, 0, none⟩) N N] 48) = x := ⟨_, rfl⟩
        have zb : wb.heap.size = wa.heap.size + 1 := by rw [← hwb]; simp
        have bb : Below wa.heap.size wa wb := by rw [← hwb]; exact below_box _ _
        rw [hwb] at e2 ⊢
        have e3 := heap_alloc_new wb (.cells (arrQ N (uQ fun _ => 0)) 45)
        have bc := below_box wb (.cells (arrQ N (uQ fun _ => 0)) 45)
        obtain ⟨wc, hwc⟩ : ∃ x, wb.alloc (.cells (arrQ N (uQ fun _ => 0)) 45) = x := ⟨_, rfl⟩
        rw [hwc] at e3 bc ⊢
        refine ⟨(bc.block _ (by omega)).trans ((bb.block _ (by omega)).trans e1), ?_, ?_, by omega, by omega, by omega, ((ba.trans (bb.mono (by omega))).trans (bc.mono (by omega))).drew⟩
        · rw [za, hq] at e2; exact (bc.block p (by omega)).trans e2
        · rw [zb, za, hp] at e3; exact e3)
      exact CUT _ _ _ T8
  case rs =>
    intro p q V T8
    clear mk u1 u2 u3
    go_wp2
    go_loopw [10, 11, 28] (fun _ _ av wr => ∃ (a : Nat), av = .int .i64 (a : Int) ∧ a ≤ N ∧ Hid (JnS w wr fs ls N p q (fun k => if k < a then beD W cor k N else 0))) (fun _ _ av _ => N - (intOf av).toNat)
    case atStart => exact ⟨0, rfl, by omega, hide' (T8.out.ext fun k _ => by rw [if_neg (by omega)])⟩
    case round =>
      obtain ⟨a, rfl, ha, TA⟩ := hrel
      by_cases da : (a : Int) < (N : Int)
      · have al : a < N := by omega
        have a0 : (0 : Int) ≤ (a : Int) := by omega
        obtain ⟨V1, rfl⟩ : ∃ V, V = wr := ⟨_, rfl⟩
        go_wp2
        go_loopw [11, 32] (fun _ bv wr => ∃ (b : Nat), bv = .int .i64 (b : Int) ∧ b ≤ N ∧ Hid (JnS w wr fs ls N p q (fun k => if k < a then beD W cor k N else if k = a then beD W cor a b else 0))) (fun _ bv _ => N - (intOf bv).toNat)
        case atStart => exact ⟨0, rfl, by omega, hide' (TA.out.ext fun k _ => by
          by_cases e : k < a
          · rw [if_pos e, if_pos e]
          · rw [if_neg e, if_neg e]
            by_cases e2 : k = a
            · rw [if_pos e2]; rfl
            · rw [if_neg e2])⟩
        case round =>
          obtain ⟨b, rfl, hb, TT⟩ := hrel
          by_cases db : (b : Int) < (N : Int)
          · have bl : b < N := by omega
            have b0 : (0 : Int) ≤ (b : Int) := by omega
            have WZ : ((W : Int) == 0) = false := by simp; omega
            have WN0 : ¬ W = 0 := by omega
            have MC := hide' (fun V => MT.out a b V)
            have ME := hide' (MI.out a b)
            have NB := hide' (NX.out a b)
            have xl := BL.out a b (by omega)
            obtain ⟨ya, hya⟩ : ∃ x, a / W = x := ⟨_, rfl⟩
            obtain ⟨yb, hyb⟩ : ∃ x, b / W = x := ⟨_, rfl⟩
            obtain ⟨xa, hxa⟩ : ∃ x, a % W = x := ⟨_, rfl⟩
            obtain ⟨xb, hxb⟩ : ∃ x, b % W = x := ⟨_, rfl⟩
            have l1 : ya ≤ 16 := by rw [← hya]; exact Nat.le_trans (Nat.div_le_self _ _) (by omega)
            have l2 : yb ≤ 16 := by rw [← hyb]; exact Nat.le_trans (Nat.div_le_self _ _) (by omega)
            have l3 : xa ≤ 16 := by rw [← hxa]; exact Nat.le_trans (Nat.mod_le _ _) (by omega)
            have l4 : xb ≤ 16 := by rw [← hxb]; exact Nat.le_trans (Nat.mod_le _ _) (by omega)
            have q1 : ((a : Nat) : Int).tdiv (W : Int) = (ya : Int) := by rw [← hya]; exact (Int.ofNat_tdiv a W).symm
            have q2 : ((b : Nat) : Int).tdiv (W : Int) = (yb : Int) := by rw [← hyb]; exact (Int.ofNat_tdiv b W).symm
            have q3 : ((a : Nat) : Int).tmod (W : Int) = (xa : Int) := by rw [← hxa]; exact (Int.ofNat_tmod a W).symm
            have q4 : ((b : Nat) : Int).tmod (W : Int) = (xb : Int) := by rw [← hxb]; exact (Int.ofNat_tmod b W).symm
            rw [hya, hyb, hxa, hxb] at MC ME
            obtain ⟨dy, hdy⟩ : ∃ d : Int, (ya : Int) - (yb : Int) = d := ⟨_, rfl⟩
            obtain ⟨dx, hdx⟩ : ∃ d : Int, (xa : Int) - (xb : Int) = d := ⟨_, rfl⟩
            rw [hdy, hdx] at MC ME
            have MD := hide' (fun V => MC.out V (by omega) (by omega) (by omega) (by omega))
            have w1 : IntKind.i64.wrap (ya : Int) = (ya : Int) := wrap_i64S (by omega)
            have w2 : IntKind.i64.wrap (yb : Int) = (yb : Int) := wrap_i64S (by omega)
            have w3 : IntKind.i64.wrap (xa : Int) = (xa : Int) := wrap_i64S (by omega)
            have w4 : IntKind.i64.wrap (xb : Int) = (xb : Int) := wrap_i64S (by omega)
            have w5 : IntKind.i64.wrap dy = dy := by simp [IntKind.wrap, IntKind.signed, IntKind.bits]; omega
            have w6 : IntKind.i64.wrap dx = dx := by simp [IntKind.wrap, IntKind.signed, IntKind.bits]; omega
            clear hya hyb hxa hxb MC
            obtain ⟨t, ht⟩ : ∃ t, mtI dy dx cor = t := ⟨_, rfl⟩
            rw [ht] at MD
            rw [← ME.out, ht] at NB
            clear ht ME
            go_upto_region 10 with fail
            go_quiet (first | (go_at_call 30; exact Calls.quiet_of_same (MD.out _)))
            have T3 := hide' (TT.out.drewN nq)
            obtain ⟨V3, hV3⟩ : ∃ V, wr.drewN nq = V := ⟨_, rfl⟩
            rw [hV3] at T3 ⊢
            clear hV3
            cases t with
            | false =>
              rw [if_neg (by decide)] at NB
              have T4 := hide' (T3.out.ext (G := fun k => if k < a then beD W cor k N else if k = a then beD W cor a (b + 1) else 0) fun k _ => by rw [NB.out])
              go_wp2
              exact ⟨⟨b + 1, by go_num, by omega, T4⟩, by simp [intOf]; omega⟩
            | true =>
              rw [if_pos rfl] at NB
              obtain ⟨g0, g1, g2⟩ := T3.out.grd.cell
              have gl := T3.out.grd.lt
              have cr : V3.cell? ⟨q, a, none⟩ = some (.int .u64 ((beD W cor a b : Nat) : Int)) := by rw [T3.out.row.cell al]; simp [uQ]
              have fr := T3.out.row.frozen a
              have rl := T3.out.row.lt
              have pb : 2 ^ b ≤ 65536 := Nat.le_trans (Nat.pow_le_pow_right (by decide) (show b ≤ 16 by omega)) (by decide)
              have cb := pow_cast b
              have T4 := hide' ((T3.out.set a (beD W cor a (b + 1))).ext (G := fun k => if k < a then beD W cor k N else if k = a then beD W cor a (b + 1) else 0) fun k _ => by
                by_cases e : k = a
                · rw [if_pos e, if_neg (by omega), if_pos e]
                · rw [if_neg e, if_neg e, if_neg e])
              rw [NB.out] at T4
              have TX := hide' (show (fun k => if k < a then beD W cor k N else if k = a then beD W cor a (b + 1) else 0) = (fun k => if k < a then beD W cor k N else if k = a then beD W cor a b ||| 2 ^ b else 0) by rw [NB.out])
              obtain ⟨x, hx⟩ : ∃ x, beD W cor a b = x := ⟨_, rfl⟩
              rw [hx] at cr xl T4 TX
              obtain ⟨z, hz⟩ : ∃ z, 2 ^ b = z := ⟨_, rfl⟩
              rw [hz] at pb cb T4 TX
              have s1 : IntKind.u64.wrap ((2 : Int) ^ b) = (z : Int) := by rw [← cb]; exact wrap_u64K (by omega)
              have s2 : bits .or .u64 (x : Int) (z : Int) = ((x ||| z : Nat) : Int) := u64_or_nat x z (by omega) (by omega)
              obtain ⟨v, hv⟩ : ∃ v, x ||| z = v := ⟨_, rfl⟩
              rw [hv] at s2 T4 TX
              clear hx hz hv NB cb
              go_upto_region 11 with fail
              go_region
              all_goals go_wp2
              all_goals exact ⟨⟨b + 1, by go_num, by omega, hide' (by rw [TX.out]; first | exact T4.out.drew | exact T4.out)⟩, by simp [intOf]; omega⟩
          · obtain rfl : b = N := by omega
            have T4 := hide' (TT.out.ext (G := fun k => if k < a + 1 then beD W cor k b else 0) fun k _ => by
              by_cases e : k < a
              · rw [if_pos e, if_pos (by omega)]
              · rw [if_neg e]
                by_cases e2 : k = a
                · rw [if_pos e2, if_pos (by omega), e2]
                · rw [if_neg e2, if_neg (by omega)])
            go_wp2
            exact ⟨⟨a + 1, by go_num, by omega, T4⟩, by simp [intOf]; omega⟩
      · obtain rfl : a = N := by omega
        have T4 := hide' (TA.out.ext (G := fun k => beD W cor k a) fun k hk => by rw [if_pos hk])
        obtain ⟨g0, g1, g2⟩ := T4.out.grd.cell
        have gl := T4.out.grd.lt
        have RS := hide' T4.out.res
        have r0 : wr.cell? ⟨w.heap.size, 0, none⟩ = some (.int .u64 0) := by rw [cell_of_row _ _ _ _ _ _ RS.out]; rfl
        have r1 : wr.cell? ⟨w.heap.size, 1, none⟩ = some (.int .u64 0) := by rw [cell_of_row _ _ _ _ _ _ RS.out]; rfl
        have r2 : wr.cell? ⟨w.heap.size, 2, none⟩ = some (.slice none 0 0) := by rw [cell_of_row _ _ _ _ _ _ RS.out]; rfl
        have f0 := frozen_of_row _ _ 0 _ _ RS.out
        have f1 := frozen_of_row _ _ 1 _ _ RS.out
        have f2 := frozen_of_row _ _ 2 _ _ RS.out
        have rl := lt_blockQ RS.out
        have k1 := heap_setCell_same wr w.heap.size 0 _ _ (.int .u64 (fs : Int)) RS.out
        have k2 := heap_setCell_same _ w.heap.size 1 _ _ (.int .u64 (ls : Int)) k1
        have k3 := heap_setCell_same _ w.heap.size 2 _ _ (.slice (some ⟨q, 0, none⟩) a a) k2
        have K3 := hide' (show GrB (((wr.setCell ⟨w.heap.size, 0, none⟩ (.int .u64 (fs : Int))).setCell ⟨w.heap.size, 1, none⟩ (.int .u64 (ls : Int))).setCell ⟨w.heap.size, 2, none⟩ (.slice (some ⟨q, 0, none⟩) a a)) w.heap.size fs ls q a from k3)
        have KR := hide' (show ArV (((wr.setCell ⟨w.heap.size, 0, none⟩ (.int .u64 (fs : Int))).setCell ⟨w.heap.size, 1, none⟩ (.int .u64 (ls : Int))).setCell ⟨w.heap.size, 2, none⟩ (.slice (some ⟨q, 0, none⟩) a a)) q a 45 (uQ fun k => beD W cor k a) from by
          have ne : q ≠ w.heap.size := by have := T4.out.ql; omega
          exact T4.out.row.keep ((set_other ne).trans ((set_other ne).trans (set_other ne))))
        have KB := hide' (show Below w.heap.size w (((wr.setCell ⟨w.heap.size, 0, none⟩ (.int .u64 (fs : Int))).setCell ⟨w.heap.size, 1, none⟩ (.int .u64 (ls : Int))).setCell ⟨w.heap.size, 2, none⟩ (.slice (some ⟨q, 0, none⟩) a a)) from
          ((T4.out.below.setCell (p := ⟨w.heap.size, 0, none⟩) (Nat.le_refl _) _).setCell (p := ⟨w.heap.size, 1, none⟩) (Nat.le_refl _) _).setCell (p := ⟨w.heap.size, 2, none⟩) (Nat.le_refl _) _)
        have QL := hide' (show w.heap.size ≤ q by have := T4.out.ql; omega)
        clear k1 k2 k3 RS T4
        go_wp2
        obtain ⟨X, hX⟩ : ∃ X, (((wr.setCell ⟨w.heap.size, 0, none⟩ (.int .u64 (fs : Int))).setCell ⟨w.heap.size, 1, none⟩ (.int .u64 (ls : Int))).setCell ⟨w.heap.size, 2, none⟩ (.slice (some ⟨q, 0, none⟩) a a)) = X := ⟨_, rfl⟩
        rw [hX] at K3 KR KB ⊢
        clear hX
        obtain ⟨c0, c1, c2⟩ := K3.out.cell
        refine bodyPost_ret (v := .agg #[.int .u64 (fs : Int), .int .u64 (ls : Int), .slice (some ⟨q, 0, none⟩) a a]) (by simp [results, Tryd.results20, go_sem, c0, c1, c2]) rfl ?_
        exact ⟨⟨q, rfl, KR.out, QL.out⟩, KB.out⟩
end Go.Proofs.YtopcgkncmhhkmaaDoor

