/-
  What the last text of this claim leans on, part 11: St2, St3.
-/
import Derived.Test.YtopcgkncmhhkmaaDoorZd10
import Derived.Deep.RegionHeld3
import Derived.Deep.DeepCutAuto
namespace Go.Proofs.YtopcgkncmhhkmaaDoor
open Go.RowKit
set_option linter.unusedVariables false
set_option linter.unusedSimpArgs false
/-- The value of the closure. -/
def poF (sb wb pb gb : Nat) : Value := .func (.func 40) #[] #[.pointer (some ⟨sb, 0, none⟩), .pointer (some ⟨wb, 0, none⟩), .pointer (some ⟨pb, 0, none⟩), .pointer (some ⟨gb, 0, none⟩)]
/-- What stays as it lies while water is poured. -/
structure PoC (V : World) (sb wb pb gb rb s fs ls N : Nat) (nb : Nat → Nat) : Prop where
  set : V.cell? ⟨sb, 0, none⟩ = some (.int .u64 (s : Int))
  fn : V.cell? ⟨pb, 0, none⟩ = some (poF sb wb pb gb)
  grd : GrB V gb fs ls rb N
  row : ArV V rb N 45 (uQ nb)
  tz : TzTab V
  ns : sb ≠ wb
  np : pb ≠ wb
  ng : gb ≠ wb
  nr : rb ≠ wb
  nt : 2 ≠ wb
/-- Who is wet. -/
structure PoS (V0 V : World) (wb v : Nat) : Prop where
  wet : V.heap[wb]? = some (.cells #[.int .u64 (v : Int)] 45 (0, 0))
  keep : ∀ b, b ≠ wb → V.heap[b]? = V0.heap[b]?
  below : Below wb V0 V
theorem PoS.set {V0 V : World} {wb v : Nat} (h : PoS V0 V wb v) (x : Nat) : PoS V0 (V.setCell ⟨wb, 0, none⟩ (.int .u64 (x : Int))) wb x :=
  ⟨by rw [heap_setCell_same _ _ _ _ _ _ h.wet]; rfl, fun b hb => (set_other hb).trans (h.keep b hb), h.below.setCell (p := ⟨wb, 0, none⟩) (Nat.le_refl _) _⟩
theorem PoS.drew {V0 V : World} {wb v : Nat} (h : PoS V0 V wb v) : PoS V0 V.drew wb v := ⟨h.wet, h.keep, h.below.drew⟩
theorem PoS.cell {V0 V : World} {wb v : Nat} (h : PoS V0 V wb v) : V.cell? ⟨wb, 0, none⟩ = some (.int .u64 (v : Int)) := by rw [cell_of_row _ _ _ _ _ _ h.wet]; rfl
theorem cell_keep {V V' : World} {b k : Nat} {v : Value} (h : V.cell? ⟨b, k, none⟩ = some v) (e : V'.heap[b]? = V.heap[b]?) : V'.cell? ⟨b, k, none⟩ = some v := (World.cell?_of_block (w := V) (w' := V') (a := ⟨b, k, none⟩) e).trans h
theorem PoC.on {V V' : World} {sb wb pb gb rb s fs ls N v : Nat} {nb : Nat → Nat} (h : PoC V sb wb pb gb rb s fs ls N nb) (k : PoS V V' wb v) : V'.cell? ⟨sb, 0, none⟩ = some (.int .u64 (s : Int)) ∧ V'.cell? ⟨pb, 0, none⟩ = some (poF sb wb pb gb) ∧ GrB V' gb fs ls rb N ∧ ArV V' rb N 45 (uQ nb) ∧ TzTab V' :=
  ⟨cell_keep h.set (k.keep _ h.ns), cell_keep h.fn (k.keep _ h.np), h.grd.keep (k.keep _ h.ng), h.row.keep (k.keep _ h.nr), fun j hj => cell_keep (h.tz j hj) (k.keep _ h.nt)⟩
/-- What pouring comes to. -/
def PoO (V0 : World) (wb s c u : Nat) (nb : Nat → Nat) (R : Nat → Prop) (e : Ending) (w' : World) : Prop :=
  ∃ v, e = .returned (.tuple #[]) ∧ PoG nb s R u v ∧ (∀ i, c.testBit i = true → s.testBit i = true → v.testBit i = true) ∧ PoS V0 w' wb v
def wtO (V : World) (wb : Nat) : Nat := match V.cell? ⟨wb, 0, none⟩ with
  | some (.int _ z) => z.toNat
  | _ => 0
theorem PoS.wt {V0 V : World} {wb v : Nat} (h : PoS V0 V wb v) : wtO V wb = v := by unfold wtO; rw [h.cell]; rfl
set_option maxRecDepth 100000 in
set_option maxHeartbeats 6400000 in
theorem pour_step {V0 : World} {sb wb pb gb rb s fs ls N : Nat} {nb : Nat → Nat} {R : Nat → Prop} (hC : PoC V0 sb wb pb gb rb s fs ls N nb) (hN : N ≤ 16) (hs : s < 2 ^ N) (hnb : ∀ k, nb k < 65536) (hR : ∀ k, s.testBit k = true → R k → ∀ j, (nb k).testBit j = true → s.testBit j = true → R j) (n : Nat)
    (ih : ∀ (c u : Nat) (V : World), dyN s u N < n → c < 65536 → u < 2 ^ N → (∀ i, c.testBit i = true → s.testBit i = true → R i) → PoS V0 V wb u → Calls Tryd.prog 40 #[.int .u64 (c : Int), .pointer (some ⟨sb, 0, none⟩), .pointer (some ⟨wb, 0, none⟩), .pointer (some ⟨pb, 0, none⟩), .pointer (some ⟨gb, 0, none⟩)] V (PoO V0 wb s c u nb R))
    (c u : Nat) (V : World) (hn : dyN s u N < n + 1) (hc : c < 65536) (hu : u < 2 ^ N) (hcR : ∀ i, c.testBit i = true → s.testBit i = true → R i) (hS : PoS V0 V wb u) :
    Calls Tryd.prog 40 #[.int .u64 (c : Int), .pointer (some ⟨sb, 0, none⟩), .pointer (some ⟨wb, 0, none⟩), .pointer (some ⟨pb, 0, none⟩), .pointer (some ⟨gb, 0, none⟩)] V (PoO V0 wb s c u nb R) := by
  have p16 : 2 ^ N ≤ 65536 := Nat.le_trans (Nat.pow_le_pow_right (by decide) hN) (by decide)
  have s16 : s < 65536 := by omega
  have DB := hide' (fun x (hx : x < 65536) i => dr_bit (c := c) (s := s) (u := x) hx hc i)
  have DL := hide' (fun x => dr_lt (c := c) (s := s) (u := x) hc)
  have DN := hide' (fun x (hx : x < 65536) => dr_none (c := c) (s := s) (u := x) hx hc)
  have cl : c &&& s < 65536 := Nat.lt_of_le_of_lt Nat.and_le_left hc
  have a1 : bits .and .u64 (c : Int) (s : Int) = ((c &&& s : Nat) : Int) := u64_and_nat c s (by omega) (by omega)
  have AN := hide' (fun (x : Nat) (hx : x < 65536) => show bits .andNot .u64 ((c &&& s : Nat) : Int) (x : Int) = ((drD c s x : Nat) : Int) from u64_andNot_nat (c &&& s) x (by omega) (by omega))
  obtain ⟨cs, hcs⟩ : ∃ cs, c &&& s = cs := ⟨_, rfl⟩
  rw [hcs] at a1 AN
  clear hcs cl
  have CC := hide' hC
  have IH := hide' ih
  have HR := hide' hR
  have CR := hide' hcR
  have HS := hide' hs
  have NB := hide' hnb
  have HN := hide' (And.intro hn hu)
  have S0 := hide' hS
  have u16 : u < 65536 := by omega
  obtain ⟨g1, g2, g3, g4, g5⟩ := hC.on hS
  have gw := hS.cell
  have an := AN.out u u16
  clear hC ih hR hcR hs hn hu hS hnb g2 g3 g4 g5
  go_enter Tryd.func40, Tryd.ntmps40
  go_wp2
  clear g1 gw an
  go_loopw [6] (fun dv wr => ∃ x, dv = .int .u64 ((drD c s x : Nat) : Int) ∧ x < 65536 ∧ Hid (x < 2 ^ N) ∧ Hid (PoG nb s R u x) ∧ Hid (PoS V0 wr wb x)) (fun _ wr => dyN s (wtO wr wb) N)
  case atStart => exact ⟨u, rfl, u16, hide' HN.out.2, hide' (PoG.refl _ _ _ _), S0⟩
  case round =>
    obtain ⟨x, rfl, x16, XN, PG, PS⟩ := hrel
    have db := fun i => DB.out x x16 i
    have d16 := DL.out x
    have dn := DN.out x x16
    obtain ⟨dv, hdv⟩ : ∃ dv, drD c s x = dv := ⟨_, rfl⟩
    rw [hdv] at db d16 dn ⊢
    by_cases z : dv = 0
    · subst z
      have ALL := hide' (dn rfl)
      clear db dn hdv
      go_wp2
      go_end0
      exact ⟨x, rfl, PG.out, ALL.out, PS.out⟩
    · have zb : ((dv : Int) != 0) = true := by simp; omega
      have zp : 0 < dv := by omega
      obtain ⟨lo1, lo2⟩ := ctz_low zp (by omega)
      obtain ⟨hlow, hk⟩ := Lib.lowest_bit 64 dv (by omega) (by omega)
      have TZ := hide' (fun (W : World) (h : TzTab W) => tz_any dv W zp (by omega) h)
      obtain ⟨k, hkk⟩ : ∃ k, Lib.ctz 64 dv = k := ⟨_, rfl⟩
      rw [hkk] at lo1 hlow TZ
      have lb := db k
      rw [lo1] at lb
      have lb' := lb.symm
      rw [Bool.and_eq_true, Bool.and_eq_true] at lb'
      obtain ⟨⟨kc, ks⟩, ku⟩ := lb'
      have ku' : x.testBit k = false := by simpa using ku
      have kN : k < N := by
        rcases Nat.lt_or_ge k N with h | h
        · exact h
        · rw [Nat.testBit_lt_two_pow (Nat.lt_of_lt_of_le HS.out (Nat.pow_le_pow_right (by decide) h))] at ks; cases ks
      have pk : 2 ^ k ≤ 65536 := Nat.le_trans (Nat.pow_le_pow_right (by decide) (show k ≤ 16 by omega)) (by decide)
      have RK := hide' (CR.out k kc ks)
      have DY := hide' (dy_lt (s := s) (u := x) (N := N) (k := k) kN ks ku')
      have X1 := hide' (show x ||| 2 ^ k < 2 ^ N from Nat.or_lt_two_pow XN.out (Nat.pow_lt_pow_right (by decide) kN))
      have DU := hide' (show dyN s x N ≤ dyN s u N from dy_mono PG.out.up)
      have m1 : IntKind.u64.wrap (-(dv : Int)) = ((18446744073709551616 - dv : Nat) : Int) := by rw [IntKind.wrap_u64]; omega
      have m2 : bits .and .u64 (dv : Int) ((18446744073709551616 - dv : Nat) : Int) = ((2 ^ k : Nat) : Int) := by rw [bits_and_u64_nat dv _ (by omega) (by omega)]; exact congrArg _ hlow
      obtain ⟨ng, hng⟩ : ∃ ng, 18446744073709551616 - dv = ng := ⟨_, rfl⟩
      rw [hng] at m1 m2
      have STEP := hide' (fun y (h : PoG nb s R (x ||| 2 ^ k) y) h2 => PG.out.step ks RK.out h h2)
      have m3 : bits .or .u64 (x : Int) ((2 ^ k : Nat) : Int) = ((x ||| 2 ^ k : Nat) : Int) := u64_or_nat x _ (by omega) (by omega)
      have CK := hide' (fun j (h1 : (nb k).testBit j = true) (h2 : s.testBit j = true) => HR.out k ks RK.out j h1 h2)
      obtain ⟨pw, hpw⟩ : ∃ p, 2 ^ k = p := ⟨_, rfl⟩
      rw [hpw] at m2 m3 STEP DY X1 pk
      obtain ⟨x1, hx1⟩ : ∃ y, x ||| pw = y := ⟨_, rfl⟩
      rw [hx1] at m3 STEP DY X1
      clear hlow hk hkk lo1 lo2 lb ku ku' kc hng hpw hx1 db dn hdv RK
      have gw := PS.out.cell
      have fw := frozen_of_row _ _ 0 _ _ PS.out.wet
      have lw := lt_blockQ PS.out.wet
      have P1 := hide' (PS.out.set x1)
      go_upto_region 4 with fail
      obtain ⟨V4, hV4⟩ : ∃ V, wr.setCell ⟨wb, 0, none⟩ (.int .u64 (x1 : Int)) = V := ⟨_, rfl⟩
      rw [hV4] at P1 ⊢
      clear hV4 gw fw lw
      have k0 : (0 : Int) ≤ (k : Int) := by omega
      have kI : (k : Int) < (N : Int) := by omega
      have nk := NB.out k
      have SV := hide' (fun (W : World) y (h : PoS V0 W wb y) => show W.cell? ⟨pb, 0, none⟩ = some (.func (.func 40) #[] #[.pointer (some ⟨sb, 0, none⟩), .pointer (some ⟨wb, 0, none⟩), .pointer (some ⟨pb, 0, none⟩), .pointer (some ⟨gb, 0, none⟩)]) ∧ W.cell? ⟨gb, 2, none⟩ = some (.slice (some ⟨rb, 0, none⟩) N N) ∧ W.cell? ⟨rb, k, none⟩ = some (.int .u64 ((nb k : Nat) : Int)) from by
        obtain ⟨_, e2, e3, e4, _⟩ := CC.out.on h
        exact ⟨e2, e3.cell.2.2, e4.cell kN⟩)
      have IK := hide' (fun (W : World) (h : PoS V0 W wb x1) => IH.out (nb k) x1 W (by have := HN.out.1; have := DY.out; have := DU.out; omega) (NB.out k) X1.out CK.out h)
      have TK := hide' (fun (W : World) (h : PoS V0 W wb x1) => TZ.out W (CC.out.on h).2.2.2.2)
      obtain ⟨nn, hnn⟩ : ∃ v, nb k = v := ⟨_, rfl⟩
      rw [hnn] at SV IK nk CK STEP
      go_region_held3 (fun W => W.cell? ⟨pb, 0, none⟩ = some (.func (.func 40) #[] #[.pointer (some ⟨sb, 0, none⟩), .pointer (some ⟨wb, 0, none⟩), .pointer (some ⟨pb, 0, none⟩), .pointer (some ⟨gb, 0, none⟩)]) ∧ W.cell? ⟨gb, 2, none⟩ = some (.slice (some ⟨rb, 0, none⟩) N N) ∧ W.cell? ⟨rb, k, none⟩ = some (.int .u64 ((nn : Nat) : Int))) (first | exact SV.out _ _ ps | exact SV.out _ _ P1.out.drew | exact SV.out _ _ P1.out | fail) (first | (go_at_call 41; refine (TK.out _ P1.out.drew).mono ?_; rintro e6 w6 ⟨rfl, rfl⟩) | (go_at_call 40; refine (IK.out _ P1.out.drew).mono ?_; rintro e9 w9 ⟨y, rfl, pg, al, ps⟩) | fail)
      have YN := hide' (pg.lt HS.out X1.out)
      have y16 : y < 65536 := Nat.lt_of_lt_of_le YN.out p16
      have P2 := hide' (STEP.out y pg (fun j h1 h2 => al j h1 h2))
      have DY2 := hide' (show dyN s y N < dyN s x N from Nat.lt_of_le_of_lt (dy_mono pg.up) DY.out)
      have S9 := hide' ps
      have gw := ps.cell
      have g1 := (CC.out.on ps).1
      have an := AN.out y y16
      have M1 := hide' (show dyN s (wtO wr wb) N = dyN s x N by rw [PS.out.wt])
      have M2 := hide' (show dyN s (wtO w9 wb) N = dyN s y N by rw [ps.wt])
      clear pg al ps SV IK TK hnn STEP CK
      rename_i hh9
      clear hh9
      go_wp2
      exact ⟨⟨y, rfl, y16, YN, P2, S9⟩, by rw [M1.out, M2.out]; exact DY2.out⟩
theorem pour_any {V0 : World} {sb wb pb gb rb s fs ls N : Nat} {nb : Nat → Nat} {R : Nat → Prop} (hC : PoC V0 sb wb pb gb rb s fs ls N nb) (hN : N ≤ 16) (hs : s < 2 ^ N) (hnb : ∀ k, nb k < 65536) (hR : ∀ k, s.testBit k = true → R k → ∀ j, (nb k).testBit j = true → s.testBit j = true → R j) : ∀ (n c u : Nat) (V : World), dyN s u N < n → c < 65536 → u < 2 ^ N → (∀ i, c.testBit i = true → s.testBit i = true → R i) → PoS V0 V wb u →
    Calls Tryd.prog 40 #[.int .u64 (c : Int), .pointer (some ⟨sb, 0, none⟩), .pointer (some ⟨wb, 0, none⟩), .pointer (some ⟨pb, 0, none⟩), .pointer (some ⟨gb, 0, none⟩)] V (PoO V0 wb s c u nb R)
  | 0, _, _, _, h, _, _, _, _ => absurd h (Nat.not_lt_zero _)
  | n + 1, c, u, V, h, hc, hu, hr, hS => pour_step hC hN hs hnb hR n (fun c u V a b c' d e => pour_any hC hN hs hnb hR n c u V a b c' d e) c u V h hc hu hr hS
end Go.Proofs.YtopcgkncmhhkmaaDoor

namespace Go.Proofs.YtopcgkncmhhkmaaDoor
open Go.RowKit
set_option linter.unusedVariables false
set_option linter.unusedSimpArgs false
set_option maxRecDepth 100000 in
set_option maxHeartbeats 6400000 in
theorem leads_anyS (W H s rb : Nat) (cor : Bool) (w : World) (h1 : 1 ≤ W) (hW : W ≤ 6) (h3 : 1 ≤ H) (hH : H ≤ 6) (hN : W * H ≤ 16) (hs : s < 2 ^ (W * H)) (hR : ArV w rb (W * H) 45 (uQ fun a => beD W cor a (W * H))) (hT : TzTab w) : Calls Tryd.prog 31 #[.agg #[.int .u64 ((2 ^ W - 1 : Nat) : Int), .int .u64 (((2 ^ W - 1) * 2 ^ (W * H - W) : Nat) : Int), .slice (some ⟨rb, 0, none⟩) (W * H) (W * H)], .int .u64 (s : Int)] w fun e w' => e = .returned (.bool (leaC W H cor s)) ∧ Below w.heap.size w w' := by
  have hmf : ∀ (fn : Fn) (first cap : Array Value) (w : World), (Instr.makeFunc fn first cap).run Tryd.prog w = .ok (.func fn first cap) w := fun _ _ _ _ => rfl
  have hst := fun V a m => run_store Tryd.prog V a (poF (w.heap.size + 1) (w.heap.size + 1 + 1) (w.heap.size + 1 + 1 + 1) w.heap.size) m rfl
  unfold poF at hst
  have LP := hide' (fun v => lea_pour (W := W) (H := H) (cor := cor) (s := s) (v := v) (by omega) (by omega) hs)
  have WF := hide' (fun i (hi : i < W * H) => wt_first (W := W) (H := H) (cor := cor) (s := s) hi)
  have WO := hide' (fun i j (hi : i < W * H) (h : wtC W H cor s (W * H) i = true) hn (hj : j < W * H) => wt_on (W := W) (H := H) (cor := cor) (s := s) (i := i) (j := j) hi h hn hj)
  have BL := hide' (fun a => show beD W cor a (W * H) < 65536 from Nat.lt_of_lt_of_le (be_lt W cor a (W * H)) (Nat.le_trans (Nat.pow_le_pow_right (by decide) hN) (by decide)))
  have SI := hide' (fun i (h : s.testBit i = true) => show i < W * H from by
    rcases Nat.lt_or_ge i (W * H) with q | q
    · exact q
    · rw [Nat.testBit_lt_two_pow (Nat.lt_of_lt_of_le hs (Nat.pow_le_pow_right (by decide) q))] at h; cases h)
  have LL := hide' (show (2 ^ W - 1) * 2 ^ (W * H - W) ≤ 64 * 65536 from Nat.mul_le_mul (by have := two_le6 hW; omega) (Nat.le_trans (Nat.pow_le_pow_right (by decide) (show W * H - W ≤ 16 by omega)) (by decide)))
  have FL := hide' (show 2 ^ W - 1 ≤ 64 by have := two_le6 hW; omega)
  obtain ⟨R, hRR⟩ : ∃ R, (fun i => wtC W H cor s (W * H) i = true) = R := ⟨_, rfl⟩
  have RF := hide' (fun i => show R i ↔ wtC W H cor s (W * H) i = true by rw [← hRR])
  rw [hRR] at LP
  obtain ⟨nb, hnb⟩ : ∃ nb, (fun a => beD W cor a (W * H)) = nb := ⟨_, rfl⟩
  have NB := hide' (fun a => show nb a = beD W cor a (W * H) by rw [← hnb])
  rw [hnb] at LP hR
  obtain ⟨fs, hfs⟩ : ∃ fs, 2 ^ W - 1 = fs := ⟨_, rfl⟩
  rw [hfs] at LP WF LL FL
  obtain ⟨pd, hpd⟩ : ∃ fs, 2 ^ (W * H - W) = fs := ⟨_, rfl⟩
  obtain ⟨ls, hls⟩ : ∃ ls, fs * pd = ls := ⟨_, rfl⟩
  rw [hpd, hls] at LP LL
  rw [hfs, hpd, hls]
  obtain ⟨N, hNN⟩ : ∃ N, W * H = N := ⟨_, rfl⟩
  rw [hNN] at hR hs hN WF WO BL SI RF NB ⊢
  have HS := hide' hs
  have RW := hide' hR
  have TW := hide' hT
  have rl := hR.lt
  have tl := tz_lt hT
  clear hfs hpd hls hRR hnb hNN hs hR hT h3 hH
  obtain ⟨w1, hw1⟩ : ∃ x, w.alloc (.cells #[.int .u64 (fs : Int), .int .u64 (ls : Int), .slice (some ⟨rb, 0, none⟩) N N] 48) = x := ⟨_, rfl⟩
  have e1 : w1.heap[w.heap.size]? = some (.cells #[.int .u64 (fs : Int), .int .u64 (ls : Int), .slice (some ⟨rb, 0, none⟩) N N] 48 (0, 0)) := by rw [← hw1]; exact heap_alloc_new _ _
  have z1 : w1.heap.size = w.heap.size + 1 := by rw [← hw1]; simp
  have b1 : Below w.heap.size w w1 := by rw [← hw1]; exact below_box _ _
  obtain ⟨w2, hw2⟩ : ∃ x, w1.alloc (.cells #[.int .u64 (s : Int)] 45) = x := ⟨_, rfl⟩
  have e2 : w2.heap[w.heap.size + 1]? = some (.cells #[.int .u64 (s : Int)] 45 (0, 0)) := by rw [← z1, ← hw2]; exact heap_alloc_new _ _
  have z2 : w2.heap.size = w.heap.size + 1 + 1 := by rw [← z1, ← hw2]; simp
  have b2 : Below w1.heap.size w1 w2 := by rw [← hw2]; exact below_box _ _
  obtain ⟨w3, hw3⟩ : ∃ x, w2.alloc (.cells #[.int .u64 0] 45) = x := ⟨_, rfl⟩
  have e3 : w3.heap[w.heap.size + 1 + 1]? = some (.cells #[.int .u64 0] 45 (0, 0)) := by rw [← z2, ← hw3]; exact heap_alloc_new _ _
  have z3 : w3.heap.size = w.heap.size + 1 + 1 + 1 := by rw [← z2, ← hw3]; simp
  have b3 : Below w2.heap.size w2 w3 := by rw [← hw3]; exact below_box _ _
  have e4' := heap_alloc_new w3 (.cells #[.nilFunc] 75)
  rw [z3] at e4'
  have c4 := cell_of_row _ _ 0 _ _ _ e4'
  simp only [List.getElem?_toArray, List.getElem?_cons_zero] at c4
  have f4 := frozen_of_row _ _ 0 _ _ e4'
  have l4 := lt_blockQ e4'
  obtain ⟨w4, hw4⟩ : ∃ x, w3.alloc (.cells #[poF (w.heap.size + 1) (w.heap.size + 1 + 1) (w.heap.size + 1 + 1 + 1) w.heap.size] 75) = x := ⟨_, rfl⟩
  have e4 : w4.heap[w.heap.size + 1 + 1 + 1]? = some (.cells #[poF (w.heap.size + 1) (w.heap.size + 1 + 1) (w.heap.size + 1 + 1 + 1) w.heap.size] 75 (0, 0)) := by
    have := heap_alloc_new w3 (.cells #[poF (w.heap.size + 1) (w.heap.size + 1 + 1) (w.heap.size + 1 + 1 + 1) w.heap.size] 75)
    rw [z3, hw4] at this
    exact this
  have z4 : w4.heap.size = w.heap.size + 1 + 1 + 1 + 1 := by rw [← z3, ← hw4]; simp
  have b4 : Below w3.heap.size w3 w4 := by rw [← hw4]; exact below_box _ _
  have HW := hide' (And.intro hw1 (And.intro hw2 (And.intro hw3 hw4)))
  have B5 := hide' (show Below w.heap.size w w4 from ((b1.trans (b2.mono (by omega))).trans (b3.mono (by omega))).trans (b4.mono (by omega)))
  have E1 := hide' (show w4.heap[w.heap.size]? = some (.cells #[.int .u64 (fs : Int), .int .u64 (ls : Int), .slice (some ⟨rb, 0, none⟩) N N] 48 (0, 0)) from (b4.block _ (by omega)).trans ((b3.block _ (by omega)).trans ((b2.block _ (by omega)).trans e1)))
  have E2 := hide' (show w4.heap[w.heap.size + 1]? = some (.cells #[.int .u64 (s : Int)] 45 (0, 0)) from (b4.block _ (by omega)).trans ((b3.block _ (by omega)).trans e2))
  have E3 := hide' (show w4.heap[w.heap.size + 1 + 1]? = some (.cells #[.int .u64 0] 45 (0, 0)) from (b4.block _ (by omega)).trans e3)
  have E4 := hide' e4
  rw [← hw3, ← hw2, ← hw1] at c4 f4 l4
  clear e1 e2 e3 e4 e4' b1 b2 b3 b4 z1 z2 z3 z4 hw1 hw2 hw3 hw4
  go_enter Tryd.func31, Tryd.ntmps31
  go_upto_region 4 with fail
  obtain ⟨h1', h2', h3', h4'⟩ := HW.out
  unfold poF at h4'
  rw [h1', h2', h3', h4']
  clear h1' h2' h3' h4' HW c4 f4 l4 hst hmf
  obtain ⟨gb, hgb⟩ : ∃ b, w.heap.size = b := ⟨_, rfl⟩
  obtain ⟨sb, hsb⟩ : ∃ b, w.heap.size + 1 = b := ⟨_, rfl⟩
  obtain ⟨wb, hwb⟩ : ∃ b, w.heap.size + 1 + 1 = b := ⟨_, rfl⟩
  obtain ⟨pb, hpb⟩ : ∃ b, w.heap.size + 1 + 1 + 1 = b := ⟨_, rfl⟩
  have pc : PoC w4 sb wb pb gb rb s fs ls N nb := by
    refine ⟨?_, ?_, ?_, ?_, ?_, by omega, by omega, by omega, by omega, by omega⟩
    · have e : w4.heap[sb]? = some (.cells #[.int .u64 (s : Int)] 45 (0, 0)) := by rw [← hsb]; exact E2.out
      rw [cell_of_row _ _ _ _ _ _ e]; rfl
    · have e := E4.out
      rw [hpb, hwb, hsb, hgb] at e
      rw [cell_of_row _ _ _ _ _ _ e]; rfl
    · rw [← hgb]; exact E1.out
    · exact RW.out.below B5.out rl
    · exact TW.out.below B5.out
  have ps : PoS w4 w4 wb 0 := ⟨by rw [← hwb]; exact E3.out, fun _ _ => rfl, Below.refl _ _⟩
  rw [hpb, hwb, hsb, hgb]
  rw [hgb] at B5
  have LG := hide' (And.intro hgb (And.intro hsb (And.intro hwb hpb)))
  have gl : gb < wb := by omega
  clear hgb hsb hwb hpb E1 E2 E3 E4 rl tl
  have PO := hide' (pour_any (R := R) pc hN HS.out (fun k => by rw [NB.out k]; exact BL.out k) (fun k hk hr j h1 h2 => by
    rw [RF.out] at hr ⊢
    rw [NB.out k] at h1
    exact WO.out k j (SI.out k hk) hr h1 (SI.out j h2) h2) (dyN s 0 N + 1) fs 0 w4 (Nat.lt_succ_self _) (by have := FL.out; omega) (Nat.pow_pos (by decide)) (fun i h1 h2 => by rw [RF.out]; exact WF.out i (SI.out i h2) h1 h2) ps)
  have PC := hide' pc
  have c1 := pc.fn
  unfold poF at c1
  obtain ⟨c2, c3, c4⟩ := pc.grd.cell
  clear pc ps
  go_wp2_with fail
  refine PO.out.mono ?_
  rintro e6 w6 ⟨v, rfl, pg, al, ps6⟩
  have LV := LP.out v pg al
  have vl : v < 65536 := Nat.lt_of_lt_of_le (pg.lt HS.out (Nat.pow_pos (by decide))) (Nat.le_trans (Nat.pow_le_pow_right (by decide) hN) (by decide))
  obtain ⟨_, _, g6, _, _⟩ := PC.out.on ps6
  obtain ⟨d1, d2, d3⟩ := g6.cell
  have dw := ps6.cell
  have an : bits .and .u64 (v : Int) (ls : Int) = ((v &&& ls : Nat) : Int) := u64_and_nat v ls (by omega) (Nat.lt_of_le_of_lt LL.out (by decide))
  have B6 := hide' (show Below gb w w6 from B5.out.trans (ps6.below.mono (Nat.le_of_lt gl)))
  obtain ⟨x, hx⟩ : ∃ x, v &&& ls = x := ⟨_, rfl⟩
  rw [hx] at an LV
  clear c1 c2 c3 c4 g6 pg al ps6 hx PO PC
  by_cases z : x = 0
  · have E := hide' (show leaC W H cor s = false by
      rw [Bool.eq_false_iff]
      intro h
      exact LV.2 h z)
    subst z
    clear LV
    go_wp2
    go_ret
    exact ⟨by rw [E.out]; rfl, by rw [LG.out.1]; exact B6.out⟩
  · have E := hide' (LV.1 z)
    have zb : ((x : Int) != 0) = true := by simp; omega
    clear LV
    go_wp2
    go_ret
    exact ⟨by rw [E.out]; rfl, by rw [LG.out.1]; exact B6.out⟩
end Go.Proofs.YtopcgkncmhhkmaaDoor

