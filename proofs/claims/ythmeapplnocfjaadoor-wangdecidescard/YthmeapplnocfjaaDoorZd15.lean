/-
  What the last text of this claim leans on, part 15: Ws9, Wt1.
-/
import Derived.Test.YthmeapplnocfjaaDoorZd12
import Derived.Maps.OwnSet
import Derived.Maps.OwnOps
import Derived.WideKeyArgs
import Derived.DeepKeys4
namespace Go.Proofs.YthmeapplnocfjaaDoor
open Go.RowKit
set_option linter.unusedVariables false
set_option linter.unusedSimpArgs false
theorem index_endsW (f : Nat → Int) (w : World) : (Instr.index 98 (.agg (arV 48 fun i => .int .i64 (f i))) (.int .i64 0)).run Tryd.prog w = .ok (.agg (arV 8 fun i => .int .i64 (f i))) w := by kernel_rfl
theorem index_eightW (f : Nat → Int) (i : Nat) (hi : i < 8) (w : World) : (Instr.index 96 (.agg (arV 8 fun i => .int .i64 (f i))) (.int .i64 (i : Int))).run Tryd.prog w = .ok (.int .i64 (f i)) w := by
  match i, hi with
  | 0, _ => exact (show (Instr.index 96 (.agg (arV 8 fun i => .int .i64 (f i))) (.int .i64 0)).run Tryd.prog w = .ok (.int .i64 (f 0)) w by kernel_rfl)
  | 1, _ => exact (show (Instr.index 96 (.agg (arV 8 fun i => .int .i64 (f i))) (.int .i64 1)).run Tryd.prog w = .ok (.int .i64 (f 1)) w by kernel_rfl)
  | 2, _ => exact (show (Instr.index 96 (.agg (arV 8 fun i => .int .i64 (f i))) (.int .i64 2)).run Tryd.prog w = .ok (.int .i64 (f 2)) w by kernel_rfl)
  | 3, _ => exact (show (Instr.index 96 (.agg (arV 8 fun i => .int .i64 (f i))) (.int .i64 3)).run Tryd.prog w = .ok (.int .i64 (f 3)) w by kernel_rfl)
  | 4, _ => exact (show (Instr.index 96 (.agg (arV 8 fun i => .int .i64 (f i))) (.int .i64 4)).run Tryd.prog w = .ok (.int .i64 (f 4)) w by kernel_rfl)
  | 5, _ => exact (show (Instr.index 96 (.agg (arV 8 fun i => .int .i64 (f i))) (.int .i64 5)).run Tryd.prog w = .ok (.int .i64 (f 5)) w by kernel_rfl)
  | 6, _ => exact (show (Instr.index 96 (.agg (arV 8 fun i => .int .i64 (f i))) (.int .i64 6)).run Tryd.prog w = .ok (.int .i64 (f 6)) w by kernel_rfl)
  | 7, _ => exact (show (Instr.index 96 (.agg (arV 8 fun i => .int .i64 (f i))) (.int .i64 7)).run Tryd.prog w = .ok (.int .i64 (f 7)) w by kernel_rfl)
def WyO (w : World) (e : Ending) (w' : World) : Prop := ∃ z : Int, e = .returned (.int .i64 z) ∧ Below w.heap.size w w'
set_option maxRecDepth 100000 in
set_option maxHeartbeats 6400000 in
theorem ways_any (b : BdW) (g : Nat) (w : World) (hB : BrdA w g b) (hb : BokW b) (hT : TzTab w) :
    Calls Tryd.prog 31 #[.pointer (some ⟨g, 0, none⟩)] w (WyO w) := by
  have EC := hide' (fun (r col : Nat) (V : World) (h : Below w.heap.size w V) (hr : r < b.H) (hc : col < 8) => ends_any b g r col V (hB.below h) hb (hT.below h) hr hc)
  have H5 := hb.h5
  have ch := hB.high
  have gl := lt_blockT hB
  clear hB hb hT
  go_enter Tryd.func31, Tryd.ntmps31
  go_wp2
  go_loopw [3, 4, 5, 10] (fun sv _ _ iv wr => ∃ (z : Int) (n : Nat), sv = .int .i64 z ∧ iv = .int .i64 (n : Int) ∧ n ≤ b.H ∧ Hid (Below w.heap.size w wr)) (fun _ _ _ iv _ => b.H - (intOf iv).toNat)
  case atStart => exact ⟨0, 0, rfl, rfl, by omega, hide' (Below.refl _ _)⟩
  case round =>
    obtain ⟨z, n, rfl, rfl, hn, BW⟩ := hrel
    by_cases d : (n : Int) < (b.H : Int)
    · go_wp2
      obtain ⟨VV, rfl⟩ : ∃ VV, VV = wr := ⟨_, rfl⟩
      go_loopw [3, 5, 13] (fun sv _ iv wr => ∃ (z : Int) (k : Nat), sv = .int .i64 z ∧ iv = .int .i64 (k : Int) ∧ k ≤ 8 ∧ Hid (Below w.heap.size w wr)) (fun _ _ iv _ => 8 - (intOf iv).toNat)
      case atStart => exact ⟨z, 0, rfl, rfl, by omega, BW⟩
      case round =>
        obtain ⟨z', k, rfl, rfl, hk, BK⟩ := hrel
        by_cases e : (k : Int) < 8
        · have ec := hide' (EC.out n k wr BK.out (by omega) (by omega))
          go_wp2_with fail
          refine ec.out.mono ?_
          rintro o w3 ⟨f, -, rfl, b3⟩
          have B3 := hide' (BK.out.trans (b3.mono BK.out.size))
          clear b3
          have i1 := index_endsW f w3
          have i2 := index_eightW f k (by omega) w3
          obtain ⟨A, hA⟩ : ∃ A, (arV 48 fun i => Value.int .i64 (f i)) = A := ⟨_, rfl⟩
          obtain ⟨A8, hA8⟩ : ∃ A, (arV 8 fun i => Value.int .i64 (f i)) = A := ⟨_, rfl⟩
          rw [hA, hA8] at i1
          rw [hA8] at i2
          rw [hA]
          obtain ⟨x, hx⟩ : ∃ x, f k = x := ⟨_, rfl⟩
          rw [hx] at i2
          clear hA hA8 hx
          go_wp2
          exact ⟨⟨_, k + 1, rfl, by go_num, by omega, B3⟩, by simp [intOf]; omega⟩
        · go_wp2
          exact ⟨⟨z', n + 1, rfl, by go_num, by omega, BK⟩, by simp [intOf]; omega⟩
    · go_wp2
      go_ret
      exact ⟨_, rfl, BW.out⟩
end Go.Proofs.YthmeapplnocfjaaDoor

namespace Go.Proofs.YthmeapplnocfjaaDoor
open Go.RowKit
open Go.Maps (Keyed)
set_option linter.unusedVariables false
set_option linter.unusedSimpArgs false
/-- A side of colours. -/
def SdOk (x : List Nat) : Prop := x.length = 5 ∧ ∀ i, i < 5 → x.getD i 0 < 8
def kyA (x : List Nat) : Array Value := #[.int .u8 ((x.getD 0 0 : Nat) : Int), .int .u8 ((x.getD 1 0 : Nat) : Int), .int .u8 ((x.getD 2 0 : Nat) : Int), .int .u8 ((x.getD 3 0 : Nat) : Int), .int .u8 ((x.getD 4 0 : Nat) : Int)]
def kS (x : List Nat) : Lit := .string (keyBytes [.int .u8 ((x.getD 0 0 : Nat) : Int), .int .u8 ((x.getD 1 0 : Nat) : Int), .int .u8 ((x.getD 2 0 : Nat) : Int), .int .u8 ((x.getD 3 0 : Nat) : Int), .int .u8 ((x.getD 4 0 : Nat) : Int)])
theorem laidOutK : laidOutB Tryd.prog = true := by kernel_rfl
theorem typesK : Tryd.prog.types.size = 160 := by kernel_rfl
theorem rowK : (102 : TypeId) < Tryd.prog.types.size := of_decide_eq_true (by kernel_rfl)
theorem cellsK : Tryd.prog.cellsOf 102 = 5 := by kernel_rfl
theorem cellsK8 : Tryd.prog.cellsOf 5 = 1 := by kernel_rfl
theorem deepK : Tryd.prog.keyType 102 = true := by kernel_rfl
theorem wideK : (match Tryd.prog.underlying 102 with | some (.array _ _) | some (.struct _) => true | _ => false) = true := by rw [Tryd.underlying102]
set_option maxRecDepth 100000 in
theorem lawK : Keyed Tryd.prog 102 := Keyed.of_law (deep_law_laid laidOutK (m := 5) (by omega) rowK (by kernel_rfl) wideK)
theorem formedK (x : List Nat) : (Value.agg (kyA x)).formed Tryd.prog 102 = true := by simp [Value.formed, Tryd.underlying102, cellsK, kyA]
theorem wfK {x : Nat} (h : x < 8) : (Lit.int .u8 (x : Int)).wf = true := by
  match x, h with
  | 0, _ => rfl
  | 1, _ => rfl
  | 2, _ => rfl
  | 3, _ => rfl
  | 4, _ => rfl
  | 5, _ => rfl
  | 6, _ => rfl
  | 7, _ => rfl
theorem key_side {x : List Nat} (h : SdOk x) : keyOf Tryd.prog 102 (.agg (kyA x)) = some (kS x) := by
  have h0 := wfK (h.2 0 (by omega))
  have h1 := wfK (h.2 1 (by omega))
  have h2 := wfK (h.2 2 (by omega))
  have h3 := wfK (h.2 3 (by omega))
  have h4 := wfK (h.2 4 (by omega))
  unfold keyOf kS
  rw [Tryd.underlying102]
  simp only [deepK, formedK, Bool.and_self, if_true]
  have h5 : Tryd.prog.keyLits (Tryd.prog.types.size + 1) 102 (Value.agg (kyA x)).cells.toList = some [.int .u8 ((x.getD 0 0 : Nat) : Int), .int .u8 ((x.getD 1 0 : Nat) : Int), .int .u8 ((x.getD 2 0 : Nat) : Int), .int .u8 ((x.getD 3 0 : Nat) : Int), .int .u8 ((x.getD 4 0 : Nat) : Int)] := by
    obtain ⟨n, hn⟩ : ∃ n, Tryd.prog.types.size = n + 1 := ⟨160 - 1, by rw [typesK]⟩
    obtain ⟨a, ha⟩ : ∃ a, x.getD 0 0 = a := ⟨_, rfl⟩
    obtain ⟨b, hb⟩ : ∃ a, x.getD 1 0 = a := ⟨_, rfl⟩
    obtain ⟨c, hc⟩ : ∃ a, x.getD 2 0 = a := ⟨_, rfl⟩
    obtain ⟨d, hd⟩ : ∃ a, x.getD 3 0 = a := ⟨_, rfl⟩
    obtain ⟨e, he⟩ : ∃ a, x.getD 4 0 = a := ⟨_, rfl⟩
    rw [hn]
    unfold kyA
    rw [ha] at h0 ⊢
    rw [hb] at h1 ⊢
    rw [hc] at h2 ⊢
    rw [hd] at h3 ⊢
    rw [he] at h4 ⊢
    simp [Program.keyLits, Tryd.underlying102, Tryd.underlying5, Value.cells, cellsK8, cellsK, h0, h1, h2, h3, h4, show List.range 5 = [0, 1, 2, 3, 4] from rfl]
  rw [h5]
  rfl
theorem kS_inj {x y : List Nat} (hx : SdOk x) (hy : SdOk y) (h : kS x = kS y) : x = y := by
  have := lawK.inj (key_side hx) ((key_side hy).trans (by rw [h]))
  refine list5 hx.1 hy.1 fun i hi => ?_
  unfold kyA at this
  simp only [Value.agg.injEq, Array.mk.injEq, List.cons.injEq, Value.int.injEq, true_and, and_true] at this
  obtain ⟨e0, e1, e2, e3, e4⟩ := this
  match i, hi with
  | 0, _ => exact Int.ofNat.inj e0
  | 1, _ => exact Int.ofNat.inj e1
  | 2, _ => exact Int.ofNat.inj e2
  | 3, _ => exact Int.ofNat.inj e3
  | 4, _ => exact Int.ofNat.inj e4
theorem kS_key (x : List Nat) : WideAt.IsKeyLit (kS x) := trivial
/-- What the map holds. -/
def dsW (acc : List (List Nat)) : Nat → DataW Unit
  | 0 => .map []
  | k + 1 => (dsW acc k).put (kS (acc.getD k [])) (.lit (.int .i64 (k : Int)))
theorem dsW_isMap (acc : List (List Nat)) : ∀ k, Maps.IsMap (dsW acc k)
  | 0 => Maps.isMap_empty
  | k + 1 => (dsW_isMap acc k).put _ _
theorem dsW_tidy (acc : List (List Nat)) : ∀ k, Maps.Tidy (dsW acc k)
  | 0 => Maps.tidy_empty
  | k + 1 => (dsW_tidy acc k).put (kS_key _) _
theorem dsW_ext {acc : List (List Nat)} {x : List Nat} : ∀ k, k ≤ acc.length → dsW (acc ++ [x]) k = dsW acc k
  | 0, _ => rfl
  | k + 1, h => by
    rw [dsW, dsW, dsW_ext k (by omega)]
    congr 2
    simp [List.getD, List.getElem?_append_left (show k < acc.length by omega)]
theorem dsW_snoc (acc : List (List Nat)) (x : List Nat) : dsW (acc ++ [x]) (acc ++ [x]).length = (dsW acc acc.length).put (kS x) (.lit (.int .i64 (acc.length : Int))) := by
  rw [List.length_append, List.length_singleton, dsW, dsW_ext _ (Nat.le_refl _)]
  congr 2
  simp [List.getD]
theorem dsW_not {acc : List (List Nat)} (hk : ∀ x ∈ acc, SdOk x) {x : List Nat} (hx : SdOk x) (hn : x ∉ acc) : ∀ k, k ≤ acc.length → Maps.has (dsW acc k) (kS x) = false
  | 0, _ => rfl
  | k + 1, h => by
    have hm : acc.getD k [] ∈ acc := by
      have : acc.getD k [] = acc[k]'(by omega) := by simp [List.getD, show k < acc.length by omega]
      rw [this]; exact List.getElem_mem _
    rw [dsW, Maps.has_put_other (fun e => hn (by rw [kS_inj hx (hk _ hm) e]; exact hm))]
    exact dsW_not hk hx hn k (by omega)
theorem dsW_at {acc : List (List Nat)} (hk : ∀ x ∈ acc, SdOk x) (hd : acc.Nodup) (z : DataW Unit) {i : Nat} (hi : i < acc.length) : ∀ k, i < k → k ≤ acc.length → Maps.has (dsW acc k) (kS acc[i]) = true ∧ (dsW acc k).atKey (kS acc[i]) z = .lit (.int .i64 (i : Int))
  | 0, h, _ => by omega
  | k + 1, h, hl => by
    have ge : acc.getD k [] = acc[k]'(by omega) := by simp [List.getD, show k < acc.length by omega]
    rw [dsW]
    by_cases e : i = k
    · subst e
      rw [ge]
      exact ⟨Maps.has_put_same (dsW_isMap acc i) (kS_key _) _, Maps.atKey_put_same (dsW_isMap acc i) (kS_key _) _ _⟩
    · have hne : kS acc[i] ≠ kS (acc.getD k []) := fun q => by
        rw [ge] at q
        have := kS_inj (hk _ (List.getElem_mem _)) (hk _ (List.getElem_mem _)) q
        exact e ((List.getElem_inj hd).1 this)
      rw [Maps.has_put_other hne, Maps.atKey_put_other hne]
      exact dsW_at hk hd z hi k (by omega) (by omega)
theorem dsW_size {acc : List (List Nat)} (hk : ∀ x ∈ acc, SdOk x) (hd : acc.Nodup) : ∀ k, k ≤ acc.length → Maps.size (dsW acc k) = k
  | 0, _ => rfl
  | k + 1, h => by
    have ge : acc.getD k [] = acc[k]'(by omega) := by simp [List.getD, show k < acc.length by omega]
    have hno : Maps.has (dsW acc k) (kS (acc.getD k [])) = false := by
      have key : ∀ m, m ≤ k → Maps.has (dsW acc m) (kS (acc.getD k [])) = false := by
        intro m
        induction m with
        | zero => intro _; rfl
        | succ m ih =>
          intro hm
          have gm : acc.getD m [] = acc[m]'(by omega) := by simp [List.getD, show m < acc.length by omega]
          rw [dsW, Maps.has_put_other (fun q => by
            rw [ge, gm] at q
            have := kS_inj (hk _ (List.getElem_mem _)) (hk _ (List.getElem_mem _)) q
            have := (List.getElem_inj hd).1 this
            omega)]
          exact ih (by omega)
      exact key k (Nat.le_refl _)
    rw [dsW, Maps.size_put (dsW_tidy acc k), hno, dsW_size hk hd k (by omega)]
    rfl
/-- Sides and their numbers as they lie in a map. -/
structure MpB (V : World) (mb : Nat) (acc : List (List Nat)) : Prop where
  ok : ∀ x ∈ acc, SdOk x
  nd : acc.Nodup
  len : acc.length ≤ 16777216
  own : V.ownsMap Tryd.prog 102 (plainElem (H := Unit) Tryd.prog 3) mb acc.length (dsW acc acc.length)
theorem zeroIntW (w : World) : (zeroValue 3).run Tryd.prog w = .ok (.int .i64 0) w := by kernel_rfl
theorem MpB.lt {V : World} {mb : Nat} {acc : List (List Nat)} (h : MpB V mb acc) : mb < V.heap.size := h.own.lt
theorem MpB.block {V V' : World} {mb : Nat} {acc : List (List Nat)} (h : MpB V mb acc) (e : V'.heap[mb]? = V.heap[mb]?) : MpB V' mb acc := by
  refine ⟨h.ok, h.nd, h.len, ?_⟩
  obtain ⟨es, clock, hb, r⟩ := h.own
  exact ⟨es, clock, e.trans hb, r⟩
theorem MpB.below {V V' : World} {mb : Nat} {acc : List (List Nat)} (h : MpB V mb acc) (k : Below V.heap.size V V') : MpB V' mb acc := h.block (k.block mb h.lt)
theorem MpB.yes {V : World} {mb : Nat} {acc : List (List Nat)} (h : MpB V mb acc) {x : List Nat} (hm : x ∈ acc) (z : DataW Unit) : Maps.has (dsW acc acc.length) (kS x) = true ∧ (dsW acc acc.length).atKey (kS x) z = .lit (.int .i64 ((noS acc x : Nat) : Int)) := by
  have hl := noS_lt hm
  have e : acc[noS acc x] = x := List.getElem_idxOf hl
  have := dsW_at h.ok h.nd z hl acc.length hl (Nat.le_refl _)
  rw [e] at this
  exact this
theorem lit_injW {a b : Int} (h : (DataW.lit (.int .i64 a) : DataW Unit) = .lit (.int .i64 b)) : a = b := by
  cases h
  rfl
theorem MpB.look_ok {V : World} {mb : Nat} {acc : List (List Nat)} (h : MpB V mb acc) {x : List Nat} (hx : SdOk x) : ∃ c : Int, (Instr.lookup 76 (.map (some mb)) (.agg (kyA x)) true).run Tryd.prog V = .ok (.tuple #[.int .i64 c, .bool (acc.contains x)]) V ∧ (x ∈ acc → c = ((noS acc x : Nat) : Int)) := by
  obtain ⟨v, ps, hr, hv⟩ := h.own.look_ok lawK Tryd.underlying76 (zeroIntW V) (plainElem_int Tryd.underlying3 (by decide)) (key_side hx)
  obtain ⟨c, rfl, hc, hw⟩ := plainElem_int_inv Tryd.underlying3 hv
  by_cases q : x ∈ acc
  · obtain ⟨y1, y2⟩ := h.yes q (.lit (.int .i64 0))
    rw [y1] at hr
    refine ⟨c, by rw [hr, List.contains_iff_mem.2 q], fun _ => ?_⟩
    have := congrArg Prod.fst hc
    simp only at this
    rw [y2] at this
    exact (lit_injW this).symm
  · rw [dsW_not h.ok hx q _ (Nat.le_refl _)] at hr
    have : acc.contains x = false := by
      rw [Bool.eq_false_iff]
      intro q'
      exact q (List.contains_iff_mem.1 q')
    exact ⟨c, by rw [hr, this], fun q' => absurd q' q⟩
theorem MpB.look {V : World} {mb : Nat} {acc : List (List Nat)} (h : MpB V mb acc) {x : List Nat} (hx : SdOk x) (q : x ∈ acc) : (Instr.lookup 76 (.map (some mb)) (.agg (kyA x)) false).run Tryd.prog V = .ok (.int .i64 ((noS acc x : Nat) : Int)) V := by
  obtain ⟨c, hr, hc, _⟩ := h.own.lookup_int lawK Tryd.underlying76 Tryd.underlying3 (zeroIntW V) (key_side hx)
  rw [(h.yes q _).2] at hc
  rw [hr, lit_injW hc]
theorem MpB.size {V : World} {mb : Nat} {acc : List (List Nat)} (h : MpB V mb acc) (ty : TypeId) : (Builtin.len_ #[76] ty #[.map (some mb)]).run Tryd.prog V = .ok (.int .i64 (acc.length : Int)) V := by
  rw [h.own.len Tryd.underlying76 ty, dsW_size h.ok h.nd _ (Nat.le_refl _)]
theorem MpB.add {V : World} {mb : Nat} {acc : List (List Nat)} (h : MpB V mb acc) {x : List Nat} (hx : SdOk x) (q : x ∉ acc) (hl : acc.length < 16777216) : ∃ V', (Instr.mapUpdate 76 (.map (some mb)) (.agg (kyA x)) (.int .i64 (acc.length : Int))).run Tryd.prog V = .ok () V' ∧ MpB V' mb (acc ++ [x]) ∧ V.grownBy V' (some mb) := by
  obtain ⟨V', hr, ho, hg⟩ := h.own.update (val := .int .i64 (acc.length : Int)) lawK Tryd.underlying76 (by unfold maxLen; omega) (key_side hx) (plainElem_int Tryd.underlying3 (WalkArith.wf_i64 (by omega)))
  refine ⟨V', hr, ⟨fun y hy => ?_, ?_, by simp; omega, ?_⟩, hg⟩
  · rcases List.mem_append.1 hy with hy | hy
    · exact h.ok y hy
    · rw [List.mem_singleton.1 hy]; exact hx
  · rw [List.nodup_append]
    refine ⟨h.nd, by simp, ?_⟩
    intro a ha b hb
    rw [List.mem_singleton] at hb
    rintro rfl
    exact q (hb ▸ ha)
  · rw [dsW_snoc]
    have e : (acc ++ [x]).length = acc.length + 1 := by simp
    rw [e]
    exact ho
/-- Looks of a row are sides of colours. -/
theorem lkL_ok {b : BdW} {r : Nat} (hb : BokW b) {L : LkW} (h : L ∈ lkL b r) : SdOk L.u ∧ SdOk L.d := by
  obtain ⟨s, _, rfl⟩ := (mem_lkL hb).1 h
  refine ⟨⟨(sees_len ..).1, fun i hi => ?_⟩, ⟨(sees_len ..).2, fun i hi => ?_⟩⟩
  · rw [(sees_at hi).1]
    split
    · have := (col_in hb.col r i (s i)).1; omega
    · omega
  · rw [(sees_at hi).2]
    split
    · have := (col_in hb.col r i (s i)).2.2.1; omega
    · omega
end Go.Proofs.YthmeapplnocfjaaDoor

