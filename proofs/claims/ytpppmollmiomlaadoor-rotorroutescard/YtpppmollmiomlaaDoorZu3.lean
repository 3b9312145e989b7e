/-
  What the last text of this claim leans on, part 3: Sw2, Rk, Fill, Ref2, Ow, PSpec.
-/
import Derived.Test.YtpppmollmiomlaaDoorZu2
import Derived.Deep.OwnRows
import Derived.Deep.AppendLies
import Derived.Deep.RegionHeld3
import Derived.Deep.RegionLaw
import Derived.Deep.RegionWith
import Derived.Laws.IdiomStrings
import Derived.Laws.MakeOwn
import Derived.Lib.BufferWrite
import Derived.Lib.Hide
import Derived.Lib.Walk
import Derived.WalkKit
import Derived.WalkSmall
namespace Go.Proofs.YtpppmollmiomlaaDoor
open Go.RowKit
set_option linter.unusedVariables false
def badE (P : Int) (e : EgT) : Prop := e.a < 0 ∨ P ≤ e.a ∨ e.b < 0 ∨ P ≤ e.b ∨ e.a = e.b ∨ e.t < 1 ∨ 100 < e.t
def edS (e : EgT) : EdS := ⟨e.a.toNat, e.b.toNat, e.t⟩
/-- Whom the first so many edges reach; so many rounds. -/
def rcS (xs : List EgT) (R : Nat → Bool) : Nat → Nat → Bool
  | 0 => R
  | j + 1 => rcE (rcS xs R j) (edS (xs.getD j egz))
def rcM (xs : List EgT) : Nat → Nat → Bool
  | 0 => fun k => decide (k = 0)
  | m + 1 => rcS xs (rcM xs m) xs.length
/-- An array, told by a function. -/
def arrS (n : Nat) (f : Nat → Value) : Array Value := ((List.range n).map f).toArray
theorem arrS_get {n k : Nat} (f : Nat → Value) (h : k < n) : (arrS n f)[k]? = some (f k) := by simp [arrS, h]
theorem arrS_set (n i : Nat) (f : Nat → Value) (v : Value) : (arrS n f).setIfInBounds i v = arrS n (fun k => if k = i then v else f k) := by
  apply Array.ext
  · simp [arrS]
  · intro k h1 h2
    simp only [arrS, List.getElem_toArray, List.getElem_map, List.getElem_range]
    by_cases q : k = i
    · simp [q]
    · simp [q, Ne.symm q]
theorem arrS_ext {n : Nat} {f g : Nat → Value} (h : ∀ k, k < n → f k = g k) : arrS n f = arrS n g := by
  unfold arrS
  congr 1
  apply List.map_congr_left
  intro k hk
  exact h k (List.mem_range.1 hk)
theorem made_allS (z : Value) (n : Nat) : madeCells #[z] n = arrS n (fun _ => z) := by
  apply Array.ext'
  rw [toList_madeCells_one]
  unfold arrS
  simp [List.map_const']
theorem info_boolS : (Tryd.prog.info? 4).map (fun i => (i.zero, i.size, i.bytes)) = some (some (.bool false), 1, 1) := by kernel_rfl
theorem mk_boolS (n : Nat) (hn : n ≤ 10) (w : World) : (Instr.makeSlice 63 (.int .i64 (n : Int)) (.int .i64 (n : Int))).run Tryd.prog w = .ok (.slice (some ⟨w.heap.size, 0, none⟩) n n) (w.alloc (.cells (arrS n fun _ => .bool false) 4)) := by
  rw [← made_allS]
  exact run_make_row' (P := Tryd.prog) 63 4 (.bool false) 1 Tryd.underlying63 info_boolS rfl .i64 .i64 n (by omega) (by omega) w
/-- Who is reached, as it lies. -/
def BkS (V : World) (mb P : Nat) (R : Nat → Bool) : Prop := V.heap[mb]? = some (.cells (arrS P fun k => .bool (R k)) 4 (0, 0))
theorem BkS.cell {V : World} {mb P k : Nat} {R : Nat → Bool} (h : BkS V mb P R) (hk : k < P) : V.cell? ⟨mb, k, none⟩ = some (.bool (R k)) := by
  have := cell_of_row V mb k _ _ _ h
  rw [arrS_get _ hk] at this
  exact this
theorem BkS.set {V : World} {mb P i : Nat} {R : Nat → Bool} (h : BkS V mb P R) : BkS (V.setCell ⟨mb, i, none⟩ (.bool true)) mb P (fun k => if k = i then true else R k) := by
  have := heap_setCell_same V mb i _ _ (.bool true) h
  rw [arrS_set] at this
  unfold BkS
  rw [this]
  congr 2
  exact arrS_ext fun k _ => by by_cases q : k = i <;> simp [q]
theorem BkS.ext {V : World} {mb P : Nat} {R R' : Nat → Bool} (h : BkS V mb P R) (e : ∀ k, k < P → R k = R' k) : BkS V mb P R' := by
  unfold BkS at *
  rw [h]
  congr 2
  exact arrS_ext fun k hk => by rw [e k hk]
theorem BkS.alloc {V : World} {mb P : Nat} {R : Nat → Bool} (h : BkS V mb P R) (o : Obj) : BkS (V.alloc o) mb P R := (heap_alloc_old _ _ (ltS_of_block h)).trans h
theorem rc_yes {R : Nat → Bool} {e : EgT} {a b : Nat} (ha : e.a = a) (hb : e.b = b) (h : R a = true ∨ R b = true) (k : Nat) : (if k = b then true else if k = a then true else R k) = rcE R (edS e) k := by
  unfold rcE edS
  rw [ha, hb]
  have e1 : (R ((a : Int).toNat) || R ((b : Int).toNat)) = true := by rcases h with h | h <;> simp [h]
  by_cases q : k = b
  · rw [if_pos q, if_pos (Or.inr (by simpa using q)), e1]
  · by_cases r : k = a
    · rw [if_neg q, if_pos r, if_pos (Or.inl (by simpa using r)), e1]
    · rw [if_neg q, if_neg r, if_neg (by simp; omega)]
theorem rc_no {R : Nat → Bool} {e : EgT} {a b : Nat} (ha : e.a = a) (hb : e.b = b) (h1 : R a = false) (h2 : R b = false) (k : Nat) : R k = rcE R (edS e) k := by
  unfold rcE edS
  rw [ha, hb]
  by_cases q : k = (a : Int).toNat ∨ k = (b : Int).toNat
  · rw [if_pos q]
    rcases q with q | q
    · rw [q]; simp [h1, h2]
    · rw [q]; simp [h1, h2]
  · rw [if_neg q]
set_option maxRecDepth 100000 in
set_option maxHeartbeats 6400000 in
theorem Fault_ok (P : Nat) (xs : List EgT) (ea : Option Addr) (n c : Nat) (w : World) (hE : ArgE w xs ea n c) (p1 : 1 ≤ P) (p2 : P ≤ 10) (n4 : n ≤ 40) (ok : ∀ j, j < xs.length → ¬ badE P (xs.getD j egz)) (f : Nat) (hf : f = if (∀ k, k < P → rcM xs P k = true) then 0 else 3) :
    Calls Tryd.prog 15 #[.agg #[.int .i64 (P : Int), .slice ea n c]] w fun e w' => e = .returned (.int .i64 (f : Int)) ∧ Below w.heap.size w w' := by
  obtain ⟨w1, hw1⟩ : ∃ w1, w.alloc (.cells #[.int .i64 (P : Int), .slice ea n c] 24) = w1 := ⟨_, rfl⟩
  have HW1 := hide' hw1
  have B1 := hide' (show Below w.heap.size w w1 by rw [← hw1]; exact (Below.refl _ _).alloc (Nat.le_refl _) _)
  have R1 := hide' (show w1.heap[w.heap.size]? = some (.cells #[.int .i64 (P : Int), .slice ea n c] 24 (0, 0)) by rw [← hw1]; exact heap_alloc_new _ _)
  have HE := hide' (fun (V : World) (h : Below w.heap.size w V) => hE.below h)
  have HL := hide' hE.len
  have OK := hide' ok
  have HF := hide' hf
  have y0 := cell_of_row w1 _ 0 _ _ _ R1.out
  have y1 := cell_of_row w1 _ 1 _ _ _ R1.out
  simp at y0 y1
  have q1 : ¬ (P : Int) < 1 := by omega
  have q2 : ¬ 10 < (P : Int) := by omega
  have q3 : ¬ 40 < (n : Int) := by omega
  clear hw1 hE ok hf
  go_enter Tryd.func15, Tryd.ntmps15
  go_upto_region 1 with fail
  rw [HW1.out]
  go_wp2
  go_loopw [3] (fun iv wr => ∃ i : Nat, iv = .int .i64 (i : Int) ∧ i ≤ n ∧ Hid (Below w1.heap.size w1 wr)) (fun iv _ => n - (intOf iv).toNat)
  case atStart => exact ⟨0, rfl, by omega, hide' (Below.refl _ _)⟩
  case round =>
    obtain ⟨i, rfl, hi, BW⟩ := hrel
    clear y0 y1
    have R2 := (BW.out.block _ (ltS_of_block R1.out)).trans R1.out
    have y0 := cell_of_row wr _ 0 _ _ _ R2
    have y1 := cell_of_row wr _ 1 _ _ _ R2
    simp at y0 y1
    by_cases d : (i : Int) < (n : Int)
    · have hl : i < xs.length := by have := HL.out; omega
      obtain ⟨g, off, rfl, hg, c0, c1, c2⟩ := (HE.out wr (B1.out.trans (BW.out.mono B1.out.size))).cells i hl
      obtain ⟨⟨p, q, t⟩, hx⟩ : ∃ x, xs[i] = x := ⟨_, rfl⟩
      rw [hx] at c0 c1 c2
      simp only at c0 c1 c2
      have b1 := OK.out i hl
      rw [eg_at hl, hx] at b1
      unfold badE at b1
      simp only at b1
      have k0 : ¬ (p < 0) := by omega
      have k1 : ¬ ((P : Int) ≤ p) := by omega
      have k2 : ¬ (q < 0) := by omega
      have k3 : ¬ ((P : Int) ≤ q) := by omega
      have k4 : ¬ (p = q) := by omega
      have k5 : ¬ (t < 1) := by omega
      have k6 : ¬ (100 < t) := by omega
      have k7 : (p == q) = false := by simpa using k4
      have BN := hide' (show ∀ o, Below w1.heap.size w1 (wr.alloc o) from fun o => BW.out.alloc BW.out.size o)
      have R3 := hide' (fun o => (heap_alloc_old wr o (ltS_of_block R2)).trans R2)
      have z0 := fun o => cell_of_row (wr.alloc o) _ 0 _ _ _ (R3.out o)
      simp at z0
      clear hx b1 R2
      go_wp2
      exact ⟨⟨i + 1, by go_num, by omega, hide' (BN.out _)⟩, by simp [intOf]; omega⟩
    · have mk := mk_boolS P p2
      have BX := hide' BW.out
      have SZ := hide' BW.out.size
      go_upto_region 12 with fail
      obtain ⟨mb, hmb⟩ : ∃ mb, wr.heap.size = mb := ⟨_, rfl⟩
      obtain ⟨w3, hw3⟩ : ∃ w3, wr.alloc (.cells (arrS P fun _ => .bool false) 4) = w3 := ⟨_, rfl⟩
      have K3 : BkS w3 mb P (fun _ => false) := by rw [← hw3, ← hmb]; exact heap_alloc_new _ _
      have B3 := hide' (show Below w1.heap.size w1 w3 by rw [← hw3]; exact BX.out.alloc BX.out.size _)
      have M3 := hide' (show w1.heap.size ≤ mb by rw [← hmb]; exact SZ.out)
      rw [hmb, hw3]
      have c0 := K3.cell (k := 0) (by omega)
      have f0 := frozen_of_row w3 mb 0 _ _ K3
      have l0 : (0 : Int) < (P : Int) := by omega
      have B4 := hide' (show Below w1.heap.size w1 (w3.setCell ⟨mb, 0, none⟩ (.bool true)) from B3.out.setCell M3.out _)
      have K4 := hide' ((K3.set (i := 0)).ext (R' := rcM xs 0) fun k _ => by unfold rcM; by_cases q : k = 0 <;> simp [q])
      clear hmb hw3 K3 mk y0 y1 R2
      go_wp2
      go_loopw [6] (fun mv V => ∃ m : Nat, mv = .int .i64 (m : Int) ∧ m ≤ P ∧ Hid (BkS V mb P (rcM xs m)) ∧ Hid (Below w1.heap.size w1 V)) (fun mv _ => P - (intOf mv).toNat)
      case atStart => exact ⟨0, rfl, by omega, K4, B4⟩
      case round =>
        obtain ⟨m, rfl, hm, KM, BM⟩ := hrel
        have RW := hide' (fun (V : World) (h : Below w1.heap.size w1 V) => (h.block _ (ltS_of_block R1.out)).trans R1.out)
        have y0 := cell_of_row wr _ 0 _ _ _ (RW.out wr BM.out)
        simp at y0
        by_cases dm : (m : Int) < (P : Int)
        · clear c0 f0
          go_upto_region 17 with fail
          go_loopw [7] (fun iv V => ∃ i : Nat, iv = .int .i64 (i : Int) ∧ i ≤ n ∧ Hid (BkS V mb P (rcS xs (rcM xs m) i)) ∧ Hid (Below w1.heap.size w1 V)) (fun iv _ => n - (intOf iv).toNat)
          case atStart => exact ⟨0, rfl, by omega, KM, BM⟩
          case round =>
            obtain ⟨j, rfl, hj, KJ, BJ⟩ := hrel
            clear y0
            have y1 := cell_of_row wr _ 1 _ _ _ (RW.out wr BJ.out)
            simp at y1
            by_cases dj : (j : Int) < (n : Int)
            · have hl : j < xs.length := by have := HL.out; omega
              obtain ⟨g, off, rfl, hg, e0, e1, e2⟩ := (HE.out wr (B1.out.trans (BJ.out.mono B1.out.size))).cells j hl
              obtain ⟨⟨p, q, t⟩, hx⟩ : ∃ x, xs[j] = x := ⟨_, rfl⟩
              rw [hx] at e0 e1 e2
              simp only at e0 e1 e2
              have EQ := hide' (show xs.getD j egz = ⟨p, q, t⟩ by rw [eg_at hl, hx])
              have b1 := OK.out j hl
              rw [EQ.out] at b1
              unfold badE at b1
              simp only at b1
              obtain ⟨pa, rfl⟩ := Int.eq_ofNat_of_zero_le (show 0 ≤ p by omega)
              obtain ⟨qa, rfl⟩ := Int.eq_ofNat_of_zero_le (show 0 ≤ q by omega)
              have lp : (pa : Int) < (P : Int) := by omega
              have lq : (qa : Int) < (P : Int) := by omega
              obtain ⟨R, hR⟩ : ∃ R, rcS xs (rcM xs m) j = R := ⟨_, rfl⟩
              have KR := hide' (show BkS wr mb P R by rw [← hR]; exact KJ.out)
              have ca := KR.out.cell (k := pa) (by omega)
              have cb := KR.out.cell (k := qa) (by omega)
              have fa := frozen_of_row wr mb pa _ _ KR.out
              have fb := frozen_of_row wr mb qa _ _ KR.out
              have lm := ltS_of_block KR.out
              have YES := hide' (show R pa = true ∨ R qa = true → ∀ V, BkS V mb P (fun k => if k = qa then true else if k = pa then true else R k) → BkS V mb P (rcS xs (rcM xs m) (j + 1)) from fun h V hV => hV.ext fun k _ => by
                show _ = rcE (rcS xs (rcM xs m) j) (edS (xs.getD j egz)) k
                rw [hR, EQ.out]; exact rc_yes rfl rfl h k)
              have NO := hide' (show R pa = false → R qa = false → ∀ V, BkS V mb P R → BkS V mb P (rcS xs (rcM xs m) (j + 1)) from fun h1 h2 V hV => hV.ext fun k _ => by
                show _ = rcE (rcS xs (rcM xs m) j) (edS (xs.getD j egz)) k
                rw [hR, EQ.out]; exact rc_no rfl rfl h1 h2 k)
              have ST := hide' (fun o => ((KR.out.set (i := pa)).set (i := qa)).alloc o)
              have BS := hide' (show ∀ o, Below w1.heap.size w1 (((wr.setCell ⟨mb, pa, none⟩ (.bool true)).setCell ⟨mb, qa, none⟩ (.bool true)).alloc o) from fun o => ((BJ.out.setCell M3.out _).setCell M3.out _).alloc (by rw [World.size_setCell, World.size_setCell]; exact BJ.out.size) o)
              have n1 : ¬ pa = qa := fun h => b1 (by rw [h]; simp)
              have n2 : ¬ qa = pa := fun h => n1 h.symm
              have ca2 : (wr.setCell ⟨mb, pa, none⟩ (.bool true)).cell? ⟨mb, qa, none⟩ = some (.bool (R qa)) := ((KR.out.set (i := pa)).cell (k := qa) (by omega)).trans (by rw [if_neg n2])
              have AL := hide' (fun o => KR.out.alloc o)
              have BA := hide' (fun o => BJ.out.alloc BJ.out.size o)
              clear hx b1 hR
              cases ha : R pa with
              | true =>
                have X := hide' (YES.out (Or.inl ha))
                rw [ha] at ca
                clear ha
                go_wp2
                exact ⟨⟨j + 1, by go_num, by omega, hide' (X.out _ (ST.out _)), hide' (BS.out _)⟩, by simp [intOf]; omega⟩
              | false =>
                cases hb : R qa with
                | true =>
                  have X := hide' (YES.out (Or.inr hb))
                  rw [ha] at ca
                  rw [hb] at cb ca2
                  clear ha hb
                  go_wp2
                  exact ⟨⟨j + 1, by go_num, by omega, hide' (X.out _ (ST.out _)), hide' (BS.out _)⟩, by simp [intOf]; omega⟩
                | false =>
                  have X := hide' (NO.out ha hb)
                  rw [ha] at ca
                  rw [hb] at cb ca2
                  clear ha hb
                  go_wp2
                  exact ⟨⟨j + 1, by go_num, by omega, hide' (X.out _ (AL.out _)), hide' (BA.out _)⟩, by simp [intOf]; omega⟩
            · obtain rfl : j = n := by omega
              have KN := hide' (show BkS wr mb P (rcM xs (m + 1)) by
                have e := HL.out
                show BkS wr mb P (rcS xs (rcM xs m) xs.length)
                rw [← e]; exact KJ.out)
              go_wp2
              exact ⟨⟨m + 1, by go_num, by omega, KN, BJ⟩, by simp [intOf]; omega⟩
        · obtain rfl : m = P := by omega
          clear c0 f0
          go_upto_region 24 with fail
          go_loopw [9] (fun kv V => ∃ k : Nat, kv = .int .i64 (k : Int) ∧ k ≤ m ∧ Hid (BkS V mb m (rcM xs m)) ∧ Hid (Below w1.heap.size w1 V) ∧ Hid (∀ i, i < k → rcM xs m i = true)) (fun kv _ => m - (intOf kv).toNat)
          case atStart => exact ⟨0, rfl, by omega, KM, BM, hide' fun i h => by omega⟩
          case round =>
            obtain ⟨k, rfl, hk, KK, BK, HA⟩ := hrel
            clear y0
            have y0 := cell_of_row wr _ 0 _ _ _ (RW.out wr BK.out)
            simp at y0
            have FIN := hide' (B1.out.trans (BK.out.mono B1.out.size))
            by_cases dk : (k : Int) < (m : Int)
            · have ck := KK.out.cell (k := k) (by omega)
              cases hr : rcM xs m k with
              | true =>
                have NX := hide' (show ∀ i, i < k + 1 → rcM xs m i = true from fun i h => by
                  by_cases q : i = k
                  · rw [q]; exact hr
                  · exact HA.out i (by omega))
                rw [hr] at ck
                clear hr
                go_wp2
                exact ⟨⟨k + 1, by go_num, by omega, KK, BK, NX⟩, by simp [intOf]; omega⟩
              | false =>
                have X := hide' (show f = 3 by rw [HF.out, if_neg (fun h => by rw [h k (by omega)] at hr; cases hr)])
                rw [hr] at ck
                clear hr
                go_wp2
                go_ret
                rw [X.out]; exact ⟨rfl, FIN.out⟩
            · obtain rfl : k = m := by omega
              have X := hide' (show f = 0 by rw [HF.out, if_pos HA.out])
              go_wp2
              go_ret
              rw [X.out]; exact ⟨rfl, FIN.out⟩
end Go.Proofs.YtpppmollmiomlaaDoor

namespace Go.Proofs.YtpppmollmiomlaaDoor
open Go.RowKit

/-- A table in memory: a slice that reads as the numbers. -/
def Tab (w : World) (v : Value) (xs : List Int) : Prop :=
  (xs = [] ∧ v = .slice none 0 0) ∨ ∃ g cap, v = .slice (some ⟨g, 0, none⟩) xs.length cap ∧ g < w.heap.size ∧ ∀ k (h : k < xs.length), w.cell? ⟨g, k, none⟩ = some (.int .i64 xs[k])

/-- A slice whose block was made since. -/
def Fresh (w : World) (v : Value) : Prop := ∀ g k c, v = .slice (some ⟨g, 0, none⟩) k c → w.heap.size ≤ g
theorem Fresh.nil (w : World) : Fresh w (.slice none 0 0) := fun _ _ _ h => by injection h with h1; cases h1
theorem Fresh.mk {w : World} {g k c : Nat} (h : w.heap.size ≤ g) : Fresh w (.slice (some ⟨g, 0, none⟩) k c) := fun g' _ _ q => by
  injection q with q1; injection q1 with q2; injection q2 with q3; omega

/-- A rule as a value, its table at v. -/
def Out.val (o : Out) (v : Value) : Value := .agg #[.int .i64 o.kind, .int .i64 o.born, .int .i64 o.stay, .int .i64 o.states, .int .i64 o.radius, v, .string o.turns]

/-- A block that the call made ahead still lies there. -/
theorem Rd.made {b : Nat} {w w' : World} {C : Array Value} {t : TypeId} (h : Rd b (w.alloc (.cells C t)) w') (hb : b < w.heap.size) :
    (∀ j, w'.cell? ⟨w.heap.size, j, none⟩ = C[j]?) ∧ (∀ j, w'.frozen? ⟨w.heap.size, j, none⟩ = false) := by
  refine ⟨fun j => ?_, fun j => ?_⟩
  · rw [h.cell w.heap.size j (by simp) (by omega)]; simp
  · rw [h.frozen w.heap.size j (by simp) (by omega)]; simp

end Go.Proofs.YtpppmollmiomlaaDoor

namespace Go.Proofs.YtpppmollmiomlaaDoor
open Go.RowKit

/-- At block g a list of n numbers, the first k of which are f's. -/
structure Fill (g n k : Nat) (f : Nat → Int) (w : World) : Prop where
  lt : g < w.heap.size
  cells : ∀ j, j < n → ∃ v, w.cell? ⟨g, j, none⟩ = some v ∧ (j < k → v = .int .i64 (f j))
  fz : ∀ j, w.frozen? ⟨g, j, none⟩ = false

theorem Fill.start (w : World) (n : Nat) (f : Nat → Int) (z : Value) (t : TypeId) : Fill w.heap.size n 0 f (w.alloc (.cells (madeCells #[z] n) t)) := by
  refine ⟨by simp, fun j hj => ⟨(madeCells #[z] n)[j]'(by rw [size_madeCells]; exact hj), ?_, by omega⟩, fun j => by simp⟩
  rw [World.cell?_alloc_at _ _ _ _ rfl]
  exact Array.getElem?_eq_getElem (by rw [size_madeCells]; exact hj)
theorem Fill.step {g n k : Nat} {f : Nat → Int} {w : World} (h : Fill g n k f w) (hk : k < n) : Fill g n (k + 1) f (w.setCell ⟨g, k, none⟩ (.int .i64 (f k))) := by
  refine ⟨by rw [World.size_setCell]; exact h.lt, fun j hj => ?_, fun j => by rw [World.frozen?_setCell]; exact h.fz j⟩
  by_cases e : j = k
  · subst e
    obtain ⟨v, hv, -⟩ := h.cells j hj
    exact ⟨_, World.cell?_setCell_same (w := w) (a := ⟨g, j, none⟩) (v := _) (h := hv), fun _ => rfl⟩
  · obtain ⟨v, hv, hv'⟩ := h.cells j hj
    refine ⟨v, ?_, fun _ => hv' (by omega)⟩
    exact (World.cell?_setCell_other (w := w) (a := ⟨g, k, none⟩) (b := ⟨g, j, none⟩) (v := _) (h := fun q => e (congrArg Addr.off q).symm)).trans hv
theorem Fill.other {g n k : Nat} {f : Nat → Int} {w : World} (h : Fill g n k f w) {p : Addr} (hp : g ≠ p.block) (u : Value) : Fill g n k f (w.setCell p u) := by
  have e : (w.setCell p u).heap[g]? = w.heap[g]? := Below.heap_setCell _ _ _ _ hp
  refine ⟨by rw [World.size_setCell]; exact h.lt, fun j hj => ?_, fun j => ?_⟩
  · obtain ⟨v, hv, hv'⟩ := h.cells j hj
    exact ⟨v, (World.cell?_of_block (w := w) (a := ⟨g, j, none⟩) e).trans hv, hv'⟩
  · exact (World.frozen?_of_block (w := w) (a := ⟨g, j, none⟩) e).trans (h.fz j)
theorem Tab.other {w : World} {v : Value} {xs : List Int} (h : Tab w v xs) {p : Addr} (u : Value) (hp : ∀ g c, v = .slice (some ⟨g, 0, none⟩) xs.length c → g ≠ p.block) : Tab (w.setCell p u) v xs := by
  rcases h with h | ⟨g, cap, hv, hg, hc⟩
  · exact Or.inl h
  · have e : (w.setCell p u).heap[g]? = w.heap[g]? := Below.heap_setCell _ _ _ _ (hp g cap hv)
    exact Or.inr ⟨g, cap, hv, by rw [World.size_setCell]; exact hg, fun k hk => (World.cell?_of_block (w := w) (a := ⟨g, k, none⟩) e).trans (hc k hk)⟩

end Go.Proofs.YtpppmollmiomlaaDoor

namespace Go.Proofs.YtpppmollmiomlaaDoor
open Go.RowKit
set_option linter.unusedVariables false

theorem Tab.parts {w : World} {v : Value} {xs : List Int} (h : Tab w v xs) :
    ∃ a c, v = .slice a xs.length c ∧ ∀ k (h : k < xs.length), ∃ g, a = some ⟨g, 0, none⟩ ∧ w.cell? ⟨g, k, none⟩ = some (.int .i64 xs[k]) := by
  rcases h with ⟨rfl, rfl⟩ | ⟨g, cap, rfl, hg, hc⟩
  · exact ⟨none, 0, rfl, fun k h => absurd h (by simp)⟩
  · exact ⟨_, cap, rfl, fun k h => ⟨g, rfl, hc k h⟩⟩

end Go.Proofs.YtpppmollmiomlaaDoor

namespace Go.Proofs.YtpppmollmiomlaaDoor
open Go.RowKit
set_option linter.unusedVariables false

theorem info_int : (Tryd.prog.info? 3).map (fun i => (i.zero, i.size, i.bytes)) = some (some (.int .i64 0), 1, 8) := by kernel_rfl
theorem Tab.slice {w : World} {v : Value} {xs : List Int} (h : Tab w v xs) : ∃ a n c, v = .slice a n c := by
  rcases h with ⟨-, h⟩ | ⟨g, cap, h, -, -⟩
  · exact ⟨_, _, _, h⟩
  · exact ⟨_, _, _, h⟩
theorem ownsRow_slice {w : World} {base : Nat} {e : TypeId} {v : Value} {n : Nat} {xs : List Value} (h : w.ownsRow base e 1 v n xs) : ∃ a m c, v = .slice a m c := by
  rcases h.2 with ⟨hv, -⟩ | ⟨g, cap, cur, hv, -⟩
  · exact ⟨_, _, _, hv⟩
  · exact ⟨_, _, _, hv⟩
end Go.Proofs.YtpppmollmiomlaaDoor

namespace Go.Proofs.YtpppmollmiomlaaDoor

def blankAt (s : ByteArray) (i : Nat) : Bool := decide (i < s.size) && (decide (bt s i = 32) || decide (bt s i = 10))
/-- Behind the blanks and bytes 10 from i on. -/
def skF (s : ByteArray) : Nat → Nat → Nat
  | 0, i => i
  | f + 1, i => if blankAt s i then skF s f (i + 1) else i
def sk (s : ByteArray) (i : Nat) : Nat := skF s (s.size - i) i

/-- One tag, at j: on, done, or wrong. -/
abbrev Go1 : Type := (Nat × Nat × Nat × List Int) ⊕ (List Int ⊕ (Nat × Nat))
abbrev Go1.on (i x y : Nat) (xs : List Int) : Go1 := Sum.inl (i, x, y, xs)
abbrev Go1.done (xs : List Int) : Go1 := Sum.inr (Sum.inl xs)
abbrev Go1.bad (a e : Nat) : Go1 := Sum.inr (Sum.inr (a, e))

end Go.Proofs.YtpppmollmiomlaaDoor

