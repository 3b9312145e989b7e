/-
  What the last text of this claim leans on, part 12: Gz2, LawGx, OpenP, OpenGq.
-/
import Derived.Test.YtmnacanjbhlfeaaDoorZw11
import Derived.Test.YtmnacanjbhlfeaaDoorZw7
import Derived.Test.YtmnacanjbhlfeaaDoorZw1
import Derived.Test.YtmnacanjbhlfeaaDoorRows
import Derived.Test.YtmnacanjbhlfeaaDoorCards
import Derived.Test.YtmnacanjbhlfeaaDoorTie
import Derived.Test.YtmnacanjbhlfeaaDoorZw6
import Derived.Test.YtmnacanjbhlfeaaDoorZw2
import Derived.ProofKit
import Derived.OpenShut
import Derived.ChangeSame
import Derived.ChangeSlices
import Derived.ChangeVars
import Derived.JoinedOf
import Derived.RowKit
import Derived.RowKitTokens
import Derived.LaidLaws
import Derived.LaidHandle
import Derived.LaidSub
import Derived.Lay
import Derived.Carry
import Derived.Stop.Joined
import Derived.SevenTiedAt
import Derived.WalkKit
import Derived.ChangeMaps5
import Derived.SliceStrings
namespace Go.Proofs.YtmnacanjbhlfeaaDoor
open Go.RowKit
set_option linter.unusedVariables false
set_option linter.unusedSimpArgs false
/-- What Count answers. -/
def CoA (xs : List (List UInt8)) (k : Nat) (l : List UInt8) (n : Int) (w : World) (e : Ending) (w' : World) : Prop :=
  (gwF xs l n = 0 ∧ ∃ s g, cnW xs n.toNat l = some s ∧ e = .returned (.tuple #[.slice (some ⟨g, 0, none⟩) k k, .nilIface]) ∧ RowG w' g k (ctL s) ∧ w.heap.size ≤ g)
  ∨ (gwF xs l n = 0 ∧ cnW xs n.toNat l = none ∧ e = .returned (.tuple #[.slice none 0 0, .iface 44 (.int .i64 4)]))
  ∨ (gwF xs l n ≠ 0 ∧ e = .returned (.tuple #[.slice none 0 0, errOf (gwF xs l n)]))
theorem cnW_le {xs : List (List UInt8)} : ∀ {m : Nat} {l s : List UInt8}, cnW xs m l = some s → l.length ≤ 1000000000000000000 → s.length ≤ 1000000000000000000
  | 0, l, s, h, hl => by rw [cnW_zero] at h; rw [← Option.some.inj h]; exact hl
  | m + 1, l, s, h, hl => by
    rw [cnW_succ] at h
    split at h
    · cases h
    · exact cnW_le h (by omega)
set_option maxRecDepth 100000 in
set_option maxHeartbeats 12800000 in
theorem growCount_any (xs : List (List UInt8)) (a : Option Addr) (k c : Nat) (l : List UInt8) (n : Int) (w : World) (hA : ArgX w xs a k c) (hl : l.length ≤ maxLen) :
    Calls Tryd.prog 11 #[.slice a k c, .string ⟨l.toArray⟩, .int .i64 n] w fun e w' => CoA xs k l n w e w' ∧ Below w.heap.size w w' := by
  have CR := hide' (checkRounds_any xs a k c l n w hA hl)
  by_cases q : gwF xs l n = 0
  · obtain ⟨ok, l4, la, n0, n6⟩ := gwF_good q
    rw [← hA.len] at la
    obtain ⟨m, rfl⟩ : ∃ m : Nat, n = (m : Int) := ⟨n.toNat, by omega⟩
    have CB := hide' (fun (V : World) (h : Below w.heap.size w V) => countBehind_any xs a k c l m 1000000000000000000 V (hA.below h) ok l4 la (by omega) (by omega))
    have k8 : k ≤ 8 := by rw [hA.len]; exact (imF_ok ok).2.1
    have MK := hide' (fun (V : World) => run_make_row' (P := Tryd.prog) 33 3 (.int .i64 0) 8 Tryd.underlying33 info_int rfl .i64 .i64 k (by omega) (by omega) V)
    have TN : ((m : Int)).toNat = m := Int.toNat_natCast m
    have PO := hide' (show ∀ e w', ((∃ s g, cnW xs m l = some s ∧ e = .returned (.tuple #[.slice (some ⟨g, 0, none⟩) k k, .nilIface]) ∧ RowG w' g k (ctL s) ∧ w.heap.size ≤ g) ∨ (cnW xs m l = none ∧ e = .returned (.tuple #[.slice none 0 0, .iface 44 (.int .i64 4)]))) → CoA xs k l (m : Int) w e w' from fun e w' h => by
      rcases h with h | h
      · exact Or.inl ⟨q, by rw [TN]; exact h⟩
      · exact Or.inr (Or.inl ⟨q, by rw [TN]; exact h⟩))
    simp only [bdW_cn] at CB
    rw [q, errOf_yes] at CR
    clear hA la q TN hl ok
    go_enter Tryd.func11, Tryd.ntmps11
    go_wp2_with fail
    refine CR.out.mono ?_
    rintro o w3 ⟨rfl, b3⟩
    have B3 := hide' b3
    clear b3
    go_wp2_with fail
    refine (CB.out w3 B3.out).mono ?_
    rintro o w4 ⟨r4, b4⟩
    have B4 := hide' (B3.out.trans (b4.mono B3.out.size))
    clear b4
    rcases r4 with ⟨s, hs, rfl⟩ | ⟨hs, rfl⟩
    · obtain ⟨A, hA⟩ : ∃ A, arrF 8 (uF (ctL s)) = A := ⟨_, rfl⟩
      have asz : A.size = 8 := by rw [← hA, arrF_size]
      have al : A.all (·.oneCell') = true := by rw [← hA]; exact arrF_all _ _ (fun k _ => rfl)
      rw [hA]
      have gz : (w4.alloc (.cells #[.int .u64 0, .int .u64 0, .int .u64 0, .int .u64 0, .int .u64 0, .int .u64 0, .int .u64 0, .int .u64 0] 50)).heap[w4.heap.size]? = some (.cells #[.int .u64 0, .int .u64 0, .int .u64 0, .int .u64 0, .int .u64 0, .int .u64 0, .int .u64 0, .int .u64 0] 50 (0, 0)) := heap_alloc_new w4 _
      obtain ⟨V, hV⟩ : ∃ V, (w4.alloc (.cells #[.int .u64 0, .int .u64 0, .int .u64 0, .int .u64 0, .int .u64 0, .int .u64 0, .int .u64 0, .int .u64 0] 50)).setRow w4.heap.size A = V := ⟨_, rfl⟩
      have BV := hide' (show Below w.heap.size w V by rw [← hV]; exact B4.out.trans ((below_setRow ((Below.refl _ _).alloc (Nat.le_refl _) _) (Nat.le_refl _) _ : Below w4.heap.size w4 _).mono B4.out.size))
      have gv : V.heap[w4.heap.size]? = some (.cells A 50 (0, 0)) := by rw [← hV]; exact setRow_heap _ _ _ _ _ _ gz
      have SL := hide' (fun x => Nat.le_trans (ctL_le s x) (cnW_le hs (by omega)))
      have HS := hide' hs
      obtain ⟨V2, hV2⟩ : ∃ V2, V.alloc (.cells (madeCells #[.int .i64 0] k) 3) = V2 := ⟨_, rfl⟩
      have mk := MK.out V
      rw [hV2] at mk
      have R0 := hide' (show RowG V2 V.heap.size k (fun _ => 0) by rw [← hV2]; exact RowG.made V k)
      have G0 := hide' (show V2.heap[w4.heap.size]? = some (.cells (arrF 8 (uF (ctL s))) 50 (0, 0)) by rw [← hV2, Below.heap_alloc _ _ _ (lt_blockG gv), hA]; exact gv)
      have BV2 := hide' (show Below w.heap.size w V2 by rw [← hV2]; exact BV.out.alloc BV.out.size _)
      have WV := hide' BV.out.size
      have GL := lt_blockG gv
      clear hs gv
      go_wp2_with (first
        | (refine wpList_store_row rfl 50 _ _ rfl w4.heap.size A rfl rfl 50 _ gz (by rw [asz]; kernel_rfl) (by rw [asz]; rfl) al ?_; rw [hV]))
      obtain ⟨g, hg⟩ : ∃ g, V.heap.size = g := ⟨_, rfl⟩
      obtain ⟨p, hp⟩ : ∃ p, w4.heap.size = p := ⟨_, rfl⟩
      rw [hg] at R0 WV GL
      rw [hp] at G0 GL
      rw [hg, hp]
      clear hV gz al asz hA hV2 mk hg hp BV
      go_loopw [12, 35] (fun _ iv wr => ∃ (i : Nat), iv = .int .i64 (i : Int) ∧ i ≤ k ∧ Hid (RowG wr g k (fun j => if j < i then ctL s j else 0)) ∧ Hid (wr.heap[p]? = some (.cells (arrF 8 (uF (ctL s))) 50 (0, 0))) ∧ Hid (Below w.heap.size w wr)) (fun _ iv _ => k - (intOf iv).toNat)
      case atStart => exact ⟨0, rfl, by omega, hide' (R0.out.ext (fun j _ => by rw [if_neg (by omega)])), G0, BV2⟩
      case round =>
        obtain ⟨i, rfl, hi, RW, GW, BW⟩ := hrel
        by_cases e : (i : Int) < (k : Int)
        · have i0 : (0 : Int) ≤ (i : Int) := by omega
          have i8 : (i : Int) < 8 := by omega
          have c0 : wr.cell? ⟨p, i, none⟩ = some (.int .u64 ((ctL s i : Nat) : Int)) := by rw [cell_of_row wr _ _ _ _ _ GW.out, arrF_get _ (by omega)]; rfl
          have c1 := RW.out.cell (show i < k by omega)
          rw [if_neg (by omega)] at c1
          have f1 := frozen_of_row wr _ i _ _ RW.out
          have sl := SL.out i
          have NX := hide' ((RW.out.set i (ctL s i)).ext (f' := fun j => if j < i + 1 then ctL s j else 0) (fun j _ => by
            by_cases e : j = i
            · subst e; rw [if_pos rfl, if_pos (by omega)]
            · rw [if_neg e]
              by_cases q : j < i
              · rw [if_pos q, if_pos (by omega)]
              · rw [if_neg q, if_neg (by omega)]))
          have GX := hide' (fun v => show (wr.setCell ⟨g, i, none⟩ v).heap[p]? = _ from (Below.heap_setCell _ _ _ _ (by show p ≠ g; omega)).trans GW.out)
          have NB := hide' (fun v => show Below w.heap.size w (wr.setCell ⟨g, i, none⟩ v) from BW.out.setCell WV.out v)
          obtain ⟨v, hv⟩ : ∃ v, ctL s i = v := ⟨_, rfl⟩
          rw [hv] at c0 sl NX
          clear hv
          go_wp2
          exact ⟨⟨i + 1, by go_num, by omega, NX, hide' (GX.out _), hide' (NB.out _)⟩, by simp [intOf]; omega⟩
        · obtain rfl : i = k := by omega
          have RR := hide' (RW.out.ext (f' := ctL s) (fun j hj => by rw [if_pos hj]))
          go_wp2
          go_ret2
          exact ⟨PO.out _ _ (Or.inl ⟨s, g, HS.out, rfl, RR.out, WV.out⟩), BW.out⟩
    · obtain ⟨A, hA⟩ : ∃ A, arrF 8 (uF fun _ => 0) = A := ⟨_, rfl⟩
      have asz : A.size = 8 := by rw [← hA, arrF_size]
      have al : A.all (·.oneCell') = true := by rw [← hA]; exact arrF_all _ _ (fun k _ => rfl)
      rw [hA]
      have gz : (w4.alloc (.cells #[.int .u64 0, .int .u64 0, .int .u64 0, .int .u64 0, .int .u64 0, .int .u64 0, .int .u64 0, .int .u64 0] 50)).heap[w4.heap.size]? = some (.cells #[.int .u64 0, .int .u64 0, .int .u64 0, .int .u64 0, .int .u64 0, .int .u64 0, .int .u64 0, .int .u64 0] 50 (0, 0)) := heap_alloc_new w4 _
      obtain ⟨V, hV⟩ : ∃ V, (w4.alloc (.cells #[.int .u64 0, .int .u64 0, .int .u64 0, .int .u64 0, .int .u64 0, .int .u64 0, .int .u64 0, .int .u64 0] 50)).setRow w4.heap.size A = V := ⟨_, rfl⟩
      have BV := hide' (show Below w.heap.size w V by rw [← hV]; exact B4.out.trans ((below_setRow ((Below.refl _ _).alloc (Nat.le_refl _) _) (Nat.le_refl _) _ : Below w4.heap.size w4 _).mono B4.out.size))
      have HS := hide' hs
      clear hA hs
      go_wp2_with (first
        | (refine wpList_store_row rfl 50 _ _ rfl w4.heap.size A rfl rfl 50 _ gz (by rw [asz]; kernel_rfl) (by rw [asz]; rfl) al ?_; rw [hV]))
      go_ret2
      exact ⟨PO.out _ _ (Or.inr ⟨HS.out, rfl⟩), BV.out⟩
  · have PO := hide' (show ∀ w', CoA xs k l n w (.returned (.tuple #[.slice none 0 0, errOf (gwF xs l n)])) w' from fun w' => Or.inr (Or.inr ⟨q, rfl⟩))
    obtain ⟨f, hf⟩ : ∃ f, gwF xs l n = f := ⟨_, rfl⟩
    rw [hf] at CR PO q
    rw [errOf_no q] at CR PO
    clear q hf hA hl
    go_enter Tryd.func11, Tryd.ntmps11
    go_wp2_with fail
    refine CR.out.mono ?_
    rintro o w3 ⟨rfl, b3⟩
    go_wp2
    go_ret2
    exact ⟨PO.out _, b3⟩
end Go.Proofs.YtmnacanjbhlfeaaDoor

namespace Go.Proofs.YtmnacanjbhlfeaaDoor
open Go.RowKit
set_option linter.unusedVariables false
theorem law_words_all (xs : List (List UInt8)) (a : Option Addr) (k c : Nat) (l : List UInt8) (n : Int) (w : World) (hA : ArgX w xs a k c) (hl : l.length ≤ maxLen) (hg : Handle w) :
    Calls Tryd.prog 3 #[.slice a k c, .string ⟨l.toArray⟩, .int .i64 n] w fun e w' => e = .returned (.bool true) ∧ Below w.heap.size w w' := by
  refine law_words_of xs a k c l n w hA hl hg (fun V h => growCheck_any xs a k c V (hA.below h)) (fun V h => ?_) (fun V h => ?_)
  · refine (growGrow_any xs a k c l n V (hA.below h) hl).mono ?_
    rintro e w' ⟨r, b⟩
    refine ⟨?_, b⟩
    rcases r with ⟨q, s, hs, rfl⟩ | ⟨q, hs, rfl⟩ | ⟨q, rfl⟩
    · unfold grO; rw [if_pos q, hs]; rfl
    · unfold grO; rw [if_pos q, hs]; rfl
    · unfold grO; rw [if_neg q]
  · refine (growCount_any xs a k c l n V (hA.below h) hl).mono ?_
    rintro e w' ⟨r, b⟩
    rcases r with ⟨q, s, g, hs, rfl, hr, -⟩ | ⟨q, hs, rfl⟩ | ⟨q, rfl⟩
    · have k8 : k ≤ 8 := by rw [hA.len]; exact (imF_ok (gwF_good q).1).2.1
      unfold coO; rw [if_pos q, hs]
      exact ⟨_, _, _, rfl, hide' (hr.arg k8), hide' b⟩
    · unfold coO; rw [if_pos q, hs]
      exact ⟨none, 0, 0, rfl, hide' ⟨rfl, by simp, fun k hk => absurd hk (by simp)⟩, hide' b⟩
    · unfold coO; rw [if_neg q]
      exact ⟨none, 0, 0, rfl, hide' ⟨rfl, by simp, fun k hk => absurd hk (by simp)⟩, hide' b⟩
end Go.Proofs.YtmnacanjbhlfeaaDoor

namespace Go.Proofs.YtmnacanjbhlfeaaDoor
open Go.ChangeShapes Go.WideShapes Go.ChangeAt Go.RowKit
open Go.ChangeMaps (setBlock shut_map_nil open_string shut_string keptBut_setBlock frozen?_setBlock heap_setBlock_same)
set_option linter.unusedVariables false

theorem laidOutP : laidOutB Tryd.prog = true := by kernel_rfl
theorem ownP : ownKnob Tryd.prog.godebug = none := by kernel_rfl
theorem errorTypeAtP : Tryd.prog.globalNamed "errors.errorType" = some 0 := by kernel_rfl
theorem rtypeAtP : (Tryd.prog.cutTypes.find? (·.1 == "internal/reflectlite.rtype")).map (·.2) = some 88 := by kernel_rfl
theorem oneRowP : ((List.range 130).filter fun t => Tryd.prog.rowNamed t [101, 114, 114, 111, 114]) = [25] := by kernel_rfl
theorem typesSizeP : Tryd.prog.types.size = 130 := by kernel_rfl

/-- What the condition on the listed variable gives a walk: its one cell. -/
theorem handle_laid {W : World} (h : handlesMet Tryd.prog [("errors.errorType", Rows.laid_errors_errorType)] W) : Handle W := by
  obtain ⟨name, u, ty, e1, e2, e3, e4, e5⟩ := h _ (List.mem_singleton.2 rfl)
  have en : name = [101, 114, 114, 111, 114] := (Option.some.inj e1).symm
  subst en
  obtain rfl := Option.some.inj (rtypeAtP.symm.trans e2)
  have hm : ty ∈ (List.range 130).filter fun t => Tryd.prog.rowNamed t [101, 114, 114, 111, 114] := List.mem_filter.2 ⟨List.mem_range.2 (by rw [← typesSizeP]; exact e3), e4⟩
  rw [oneRowP] at hm
  obtain rfl := List.mem_singleton.1 hm
  have hh : typeHandle Tryd.prog 25 = .pointer (some ⟨1, 25, none⟩) := by kernel_rfl
  rw [hh] at e5
  simpa [Handle] using World.var?_cell errorTypeAtP e5 0

/-- The variable's cell laid. -/
def layBlockP (o : Obj) : Obj := match o with
  | .cells _ t frozen => .cells #[.iface 88 (.agg #[.pointer (some ⟨1, 25, none⟩)])] t frozen
  | o => o
def layWorldP (w : World) : World := { w with heap := w.heap.modify 0 layBlockP }

end Go.Proofs.YtmnacanjbhlfeaaDoor

namespace Go.Proofs.YtmnacanjbhlfeaaDoor
open Go.ChangeShapes Go.WideShapes Go.ChangeAt Go.RowKit
open Go.ChangeMaps (setBlock shut_map_nil open_string shut_string keptBut_setBlock frozen?_setBlock heap_setBlock_same)
set_option linter.unusedVariables false
set_option linter.unusedSimpArgs false
set_option maxRecDepth 100000
/-- A text that came in. -/
theorem open_textX {H : Type} {enc : TypeId × Value → H} {W : World} {base : Nat} {v : Value} {d : DataW H} {p : List MemPlace}
    (hv : Value.okWide Tryd.prog W .any base 9 v) (h : DataW.Trod enc Tryd.prog W 0 (fun _ => true) true 9 v d p) :
    ∃ l : List UInt8, v = .string ⟨l.toArray⟩ ∧ d = .lit (.string l) ∧ p = [] ∧ l.length ≤ maxLen := by
  obtain ⟨s, rfl, rfl, rfl, hs⟩ := open_string Tryd.underlying9 hv h
  exact ⟨s.data.toList, by simp, rfl, rfl, by simpa using hs⟩
theorem shut_textX {H : Type} {enc : TypeId × Value → H} {W : World} {base : Nat} {sp : Nat → Bool} {held : Bool} {l : List UInt8} (hl : l.length ≤ maxLen) : DataW.Trod enc Tryd.prog W base sp held 9 (.string ⟨l.toArray⟩) (.lit (.string l)) [] := by
  have := shut_string (H := H) (enc := enc) (P := Tryd.prog) (w := W) (base := base) (sp := sp) (held := held) (s := ⟨l.toArray⟩) Tryd.underlying9 (show l.toArray.size ≤ maxLen by simpa using hl)
  simpa using this
/-- A list of texts as it is read. -/
theorem texts_argX {H : Type} {enc : TypeId × Value → H} {W : World} {fuel : Nat} {cs : List Value} {x : DataW H × List MemPlace}
    (h : DataW.trod enc Tryd.prog W 0 (fun _ => true) true fuel 22 cs = some x) :
    ∃ (xs : List (List UInt8)) (a : Option Addr) (c : Nat), cs = [.slice a xs.length c] ∧ ArgX W xs a xs.length c := by
  have q3 : Tryd.prog.cellsOf 9 = 1 := by kernel_rfl
  rcases open_strings Tryd.underlying22 Tryd.underlying9 q3 h with ⟨rfl, -⟩ | ⟨a, len, cap, ss, rfl, hb, hlc, hcm, hzl, -, hcell, hwf⟩
  · exact ⟨[], none, 0, rfl, ⟨rfl, by simp, fun k hk => absurd hk (by simp), fun k hk => absurd hk (by simp)⟩⟩
  · simp only [if_true] at hzl
    have hl : ((ss.take len).map fun s => s.data.toList).length = len := by simp; omega
    have ge : ∀ k, k < len → ((ss.take len).map fun s => s.data.toList).getD k [] = (ss.getD k ByteArray.empty).data.toList := fun k hk => by
      have h1 : k < ss.length := by omega
      simp [List.getD, List.getElem?_take, hk, h1]
    refine ⟨(ss.take len).map fun s => s.data.toList, some a, cap, by rw [hl], ⟨rfl, by omega, fun k hk => ?_, fun k hk => ?_⟩⟩
    · rw [hl] at hk
      rw [ge k hk]
      have h1 : k < ss.length := by omega
      have := hwf (ss.getD k ByteArray.empty) (by rw [List.getD, List.getElem?_eq_getElem h1]; exact List.getElem_mem h1)
      simpa using this
    · rw [hl] at hk
      rw [ge k hk]
      have hc0 := hcell 0 (by omega)
      have hck := hcell k (by omega)
      obtain ⟨g, off, sp⟩ := a
      have hsp : sp = none := by
        cases sp with
        | none => rfl
        | some q =>
          exfalso
          simp [Addr.add, World.cell?] at hc0
          split at hc0 <;> simp at hc0
      subst hsp
      have ea : (⟨g, off, none⟩ : Addr).add k = ⟨g, off + k, none⟩ := by
        unfold Addr.add
        split
        · rename_i hz; subst hz; rfl
        · rfl
      rw [ea] at hck
      refine ⟨g, off, rfl, ?_, ?_⟩
      · rcases Nat.lt_or_ge g W.heap.size with q | q
        · exact q
        · simp [World.cell?, Array.getElem?_eq_none q] at hck
      · rw [hck]
set_option maxRecDepth 100000 in
/-- A list of texts that came in. -/
theorem open_textsX {H : Type} {enc : TypeId × Value → H} {W : World} {base : Nat} {v : Value} {d : DataW H} {p : List MemPlace}
    (hv : Value.okWide Tryd.prog W .any base 22 v) (h : DataW.Trod enc Tryd.prog W 0 (fun _ => true) true 22 v d p) :
    ∃ (xs : List (List UInt8)) (a : Option Addr) (c : Nat), v = .slice a xs.length c ∧ ArgX W xs a xs.length c := by
  obtain ⟨a0, n0, c0, rfl⟩ := okWide_slice Tryd.underlying22 hv
  obtain ⟨fuel, h⟩ := h
  obtain ⟨xs, a, c, e, ha⟩ := texts_argX h
  simp [Value.cells] at e
  obtain ⟨rfl, rfl, rfl⟩ := e
  exact ⟨xs, _, _, rfl, ha⟩
end Go.Proofs.YtmnacanjbhlfeaaDoor

