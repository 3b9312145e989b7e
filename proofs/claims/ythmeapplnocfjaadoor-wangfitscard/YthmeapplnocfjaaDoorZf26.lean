/-
  What the last text of this claim leans on, part 26: LawWg, LawWd, LawWe, LawWz, OpenP, OpenW, OpenZw.
-/
import Derived.Test.YthmeapplnocfjaaDoorZf25
import Derived.Test.YthmeapplnocfjaaDoorZf23
import Derived.Test.YthmeapplnocfjaaDoorZf2
import Derived.Test.YthmeapplnocfjaaDoorRows
import Derived.Test.YthmeapplnocfjaaDoorCards
import Derived.Test.YthmeapplnocfjaaDoorTie
import Derived.Test.YthmeapplnocfjaaDoorZf24
import Derived.Test.YthmeapplnocfjaaDoorZf7
import Derived.ProofKit
import Derived.OpenShut
import Derived.ChangeSame
import Derived.ChangeSlices
import Derived.ChangeVars
import Derived.JoinedOf
import Derived.RowKit
import Derived.RowKitTokens
import Derived.LaidLaws
import Derived.LaidHandle
import Derived.LaidSub
import Derived.Lay
import Derived.Carry
import Derived.Stop.Joined
import Derived.SevenTiedAt
import Derived.WalkKit
import Derived.Lib.LaidTab
namespace Go.Proofs.YthmeapplnocfjaaDoor
open Go.RowKit
set_option linter.unusedVariables false
set_option linter.unusedSimpArgs false
theorem law_wang_fits (xs : List TlT) (a : Option Addr) (n c : Nat) (W H : Int) (zs : List Int) (za : Option Addr) (zn zc : Nat) (ring : Bool) (w : World) (hA : ArgT w xs a n c) (hZ : ArgP w zs za zn zc) (hg : Handle w)
    (hC : ∀ V, Below w.heap.size w V → Calls Tryd.prog 7 #[.slice a n c] V fun e w' => e = .returned (errOf (tlF xs)) ∧ Below V.heap.size V w')
    (hF : ∀ V, Below w.heap.size w V → Calls Tryd.prog 11 #[.slice a n c, .int .i64 W, .int .i64 H, .slice za zn zc, .bool ring] V fun e w' => FtA xs n W H zs ring e ∧ Below V.heap.size V w')
    (hL : ∀ V, Below w.heap.size w V → Calls Tryd.prog 14 #[.slice a n c, .int .i64 W, .int .i64 H, .bool ring] V (WfA xs n W H ring V)) :
    Calls Tryd.prog 3 #[.slice a n c, .int .i64 W, .int .i64 H, .slice za zn zc, .bool ring] w fun e w' => e = .returned (.bool true) ∧ Below w.heap.size w w' := by
  have ER : ∀ V, Below w.heap.size w V → ∀ f : Nat, Calls Tryd.prog 8 #[errOf f, .int .i64 (f : Int)] V fun e w' => e = .returned (.bool true) ∧ Below V.heap.size V w' := fun V h f => errSameC_any f V (hg.below h)
  have cT := refTiles_any xs a n c w hA
  have cS := fun V (h : Below w.heap.size w V) => refSides_any xs a n c W H V (hA.below h)
  have KL := hA.len
  by_cases s0 : sdF xs W H = 0
  · rw [s0] at cS
    obtain ⟨t0, n1, n16, v, u, rfl, rfl, v1, v5, u1, u5⟩ := sdF_ok s0
    rw [← KL] at n1 n16
    have N25 : v * u ≤ 25 := Nat.le_trans (Nat.mul_le_mul v5 u5) (by decide)
    have cE := fun V (h : Below w.heap.size w V) => refCells_any a n c v u zs za zn zc V (hZ.below h) n16 v5 u5
    have cL := fun V (h : Below w.heap.size w V) => refFill_any xs a n c v u ring V (hA.below h) n16 v1 v5 u1 u5
    by_cases e0 : ceF n v u zs = 0
    · -- the cells are right
      rw [e0] at cE
      obtain ⟨zl, zr⟩ := ceF_ok e0
      have cel : ∀ V, Below w.heap.size w V → CelW V za zn (fun i => (zs.getD i 0).toNat) := fun V h => by
        have := celW_arg (hZ.below h) (by rw [zl]; exact Nat.mul_pos v1 u1) (fun i hi => (zr i (by omega)).1)
        rw [hZ.len]; exact this
      have cR := fun V (h : Below w.heap.size w V) => refFits_any xs a n c v u za zn zc ring (fun i => (zs.getD i 0).toNat) V (hA.below h) (cel V h) (by rw [hZ.len, zl]; exact N25) n16 v1 v5 u1 u5 (fun i hi => by have := zr i (by rw [hZ.len, zl] at hi; exact hi); omega)
      have eA : (∀ k, k < zn → okW xs v u ring k (fun i => (zs.getD i 0).toNat)) ↔ AllW xs v u ring zs := by unfold AllW; rw [hZ.len, zl]
      obtain ⟨b, hb⟩ : ∃ b : Bool, (b = true ↔ AllW xs v u ring zs) := by
        by_cases q : AllW xs v u ring zs
        · exact ⟨true, ⟨fun _ => q, fun _ => rfl⟩⟩
        · exact ⟨false, ⟨fun h => (by cases h), fun h => absurd h q⟩⟩
      have bu : ∀ b' : Bool, (b' = true ↔ AllW xs v u ring zs) → b' = b := fun b' h => by
        cases b <;> cases b' <;> simp_all
      have cF' : ∀ V, Below w.heap.size w V → Calls Tryd.prog 11 #[.slice a n c, .int .i64 (v : Int), .int .i64 (u : Int), .slice za zn zc, .bool ring] V fun e w' => e = .returned (.tuple #[.bool b, errOf 0]) ∧ Below V.heap.size V w' := fun V h => (hF V h).mono fun e w' ⟨r, bb⟩ => by
        rcases r with ⟨q, _⟩ | ⟨_, q, _⟩ | ⟨_, _, b', rfl, hb'⟩
        · exact absurd s0 q
        · exact absurd e0 q
        · rw [Int.toNat_natCast, Int.toNat_natCast] at hb'
          rw [bu b' hb']; exact ⟨rfl, bb⟩
      have cR' : ∀ V, Below w.heap.size w V → Calls Tryd.prog 12 #[.slice a n c, .int .i64 (v : Int), .int .i64 (u : Int), .slice za zn zc, .bool ring] V fun e w' => e = .returned (.bool b) ∧ Below V.heap.size V w' := fun V h => (cR V h).mono fun e w' ⟨⟨z, r, hz⟩, bb⟩ => by
        rw [r, bu z (hz.trans eA)]; exact ⟨rfl, bb⟩
      by_cases fi : ∃ d, FirstW n (v * u) (okW xs v u ring) d
      · obtain ⟨d, hd⟩ := fi
        refine law_wf_D a n c v u za zn zc ring w (tlF xs) 0 0 b ((List.range (v * u)).map fun i => ((d i : Nat) : Int)) cT hC cS cE cF' cR' (fun V h => ?_) (fun V h => ?_) ER
        · refine (cL V h).mono ?_
          rintro e w' ⟨r, bb⟩
          rcases r with ⟨d', g, hd', rfl, hr, -⟩ | ⟨no, -⟩
          · have e1 : (List.range (v * u)).map (fun i => ((d i : Nat) : Int)) = (List.range (v * u)).map (fun i => ((d' i : Nat) : Int)) := List.map_congr_left fun i hi => by rw [hd.only hd' i (List.mem_range.1 hi)]
            rw [e1]
            exact ⟨_, _, _, rfl, hide' (range_argP hr N25), hide' bb⟩
          · exact absurd no hd.none
        · refine (hL V h).mono ?_
          intro e w' r
          rcases r with ⟨q, _⟩ | ⟨_, no, _⟩ | ⟨_, d', hd', r⟩
          · exact absurd s0 q
          · rw [Int.toNat_natCast, Int.toNat_natCast] at no
            exact absurd no hd.none
          · rw [Int.toNat_natCast, Int.toNat_natCast] at hd' r
            have e1 : (List.range (v * u)).map (fun i => ((d i : Nat) : Int)) = (List.range (v * u)).map (fun i => ((d' i : Nat) : Int)) := List.map_congr_left fun i hi => by rw [hd.only hd' i (List.mem_range.1 hi)]
            rw [e1]; exact r
      · refine law_wf_E a n c v u za zn zc ring w (tlF xs) 0 0 b [] cT hC cS cE cF' cR' (fun V h => ?_) (fun V h => ?_) ER
        · refine (cL V h).mono ?_
          rintro e w' ⟨r, bb⟩
          rcases r with ⟨d', g, hd', _⟩ | ⟨no, rfl⟩
          · exact absurd ⟨d', hd'⟩ fi
          · exact ⟨none, 0, 0, rfl, hide' (nilW _), hide' bb⟩
        · refine (hL V h).mono ?_
          intro e w' r
          rcases r with ⟨q, _⟩ | ⟨_, no, r⟩ | ⟨_, d', hd', r⟩
          · exact absurd s0 q
          · exact r
          · rw [Int.toNat_natCast, Int.toNat_natCast] at hd'
            exact absurd ⟨d', hd'⟩ fi
    · have cF' : ∀ V, Below w.heap.size w V → Calls Tryd.prog 11 #[.slice a n c, .int .i64 (v : Int), .int .i64 (u : Int), .slice za zn zc, .bool ring] V fun e w' => e = .returned (.tuple #[.bool false, errOf (ceF n v u zs)]) ∧ Below V.heap.size V w' := fun V h => (hF V h).mono fun e w' ⟨r, bb⟩ => by
        rcases r with ⟨q, _⟩ | ⟨_, _, rfl⟩ | ⟨_, q, _⟩
        · exact absurd s0 q
        · exact ⟨rfl, bb⟩
        · exact absurd q e0
      by_cases fi : ∃ d, FirstW n (v * u) (okW xs v u ring) d
      · obtain ⟨d, hd⟩ := fi
        refine law_wf_B a n c v u za zn zc ring w (tlF xs) 0 (ceF n v u zs) false ((List.range (v * u)).map fun i => ((d i : Nat) : Int)) cT hC cS cE e0 cF' (fun V h => ?_) (fun V h => ?_) ER
        · refine (cL V h).mono ?_
          rintro e w' ⟨r, bb⟩
          rcases r with ⟨d', g, hd', rfl, hr, -⟩ | ⟨no, -⟩
          · have e1 : (List.range (v * u)).map (fun i => ((d i : Nat) : Int)) = (List.range (v * u)).map (fun i => ((d' i : Nat) : Int)) := List.map_congr_left fun i hi => by rw [hd.only hd' i (List.mem_range.1 hi)]
            rw [e1]
            exact ⟨_, _, _, rfl, hide' (range_argP hr N25), hide' bb⟩
          · exact absurd no hd.none
        · refine (hL V h).mono ?_
          intro e w' r
          rcases r with ⟨q, _⟩ | ⟨_, no, _⟩ | ⟨_, d', hd', r⟩
          · exact absurd s0 q
          · rw [Int.toNat_natCast, Int.toNat_natCast] at no
            exact absurd no hd.none
          · rw [Int.toNat_natCast, Int.toNat_natCast] at hd' r
            have e1 : (List.range (v * u)).map (fun i => ((d i : Nat) : Int)) = (List.range (v * u)).map (fun i => ((d' i : Nat) : Int)) := List.map_congr_left fun i hi => by rw [hd.only hd' i (List.mem_range.1 hi)]
            rw [e1]; exact r
      · refine law_wf_C a n c v u za zn zc ring w (tlF xs) 0 (ceF n v u zs) false [] cT hC cS cE e0 cF' (fun V h => ?_) (fun V h => ?_) ER
        · refine (cL V h).mono ?_
          rintro e w' ⟨r, bb⟩
          rcases r with ⟨d', g, hd', _⟩ | ⟨no, rfl⟩
          · exact absurd ⟨d', hd'⟩ fi
          · exact ⟨none, 0, 0, rfl, hide' (nilW _), hide' bb⟩
        · refine (hL V h).mono ?_
          intro e w' r
          rcases r with ⟨q, _⟩ | ⟨_, no, r⟩ | ⟨_, d', hd', r⟩
          · exact absurd s0 q
          · exact r
          · rw [Int.toNat_natCast, Int.toNat_natCast] at hd'
            exact absurd ⟨d', hd'⟩ fi
  · refine law_wf_A a n c W H za zn zc ring w (tlF xs) (sdF xs W H) 0 false [] cT hC cS s0 (fun V h => ?_) (fun V h => ?_) ER
    · refine (hF V h).mono ?_
      rintro e w' ⟨r, bb⟩
      rcases r with ⟨_, rfl⟩ | ⟨q, _⟩ | ⟨q, _⟩
      · exact ⟨rfl, bb⟩
      · exact absurd q s0
      · exact absurd q s0
    · refine (hL V h).mono ?_
      intro e w' r
      rcases r with ⟨_, r⟩ | ⟨q, _⟩ | ⟨q, _⟩
      · exact r
      · exact absurd q s0
      · exact absurd q s0
end Go.Proofs.YthmeapplnocfjaaDoor

namespace Go.Proofs.YthmeapplnocfjaaDoor
open Go.RowKit
set_option linter.unusedVariables false
set_option linter.unusedSimpArgs false
end Go.Proofs.YthmeapplnocfjaaDoor

namespace Go.Proofs.YthmeapplnocfjaaDoor
open Go.RowKit
set_option linter.unusedVariables false
end Go.Proofs.YthmeapplnocfjaaDoor

namespace Go.Proofs.YthmeapplnocfjaaDoor
open Go.RowKit
set_option linter.unusedVariables false
theorem law_wf_all (xs : List TlT) (a : Option Addr) (n c : Nat) (W H : Int) (zs : List Int) (za : Option Addr) (zn zc : Nat) (ring : Bool) (w : World) (hA : ArgT w xs a n c) (hZ : ArgP w zs za zn zc) (hg : Handle w) (hT : TzTab w) :
    Calls Tryd.prog 3 #[.slice a n c, .int .i64 W, .int .i64 H, .slice za zn zc, .bool ring] w fun e w' => e = .returned (.bool true) ∧ Below w.heap.size w w' :=
  law_wang_fits xs a n c W H zs za zn zc ring w hA hZ hg (fun V h => wangCheck_any xs a n c V (hA.below h)) (fun V h => wangFits_any xs a n c W H zs za zn zc ring V (hA.below h) (hZ.below h)) (fun V h => wangFill_any xs a n c W H ring V (hA.below h) (hT.below h))
end Go.Proofs.YthmeapplnocfjaaDoor

namespace Go.Proofs.YthmeapplnocfjaaDoor
open Go.ChangeShapes Go.WideShapes Go.ChangeAt Go.RowKit
open Go.ChangeMaps (setBlock shut_map_nil open_string shut_string keptBut_setBlock frozen?_setBlock heap_setBlock_same)
set_option linter.unusedVariables false

theorem laidOutP : laidOutB Tryd.prog = true := by kernel_rfl
theorem ownP : ownKnob Tryd.prog.godebug = none := by kernel_rfl
theorem errorTypeAtP : Tryd.prog.globalNamed "errors.errorType" = some 0 := by kernel_rfl
theorem rtypeAtP : (Tryd.prog.cutTypes.find? (·.1 == "internal/reflectlite.rtype")).map (·.2) = some 113 := by kernel_rfl
theorem oneRowP : ((List.range 160).filter fun t => Tryd.prog.rowNamed t [101, 114, 114, 111, 114]) = [26] := by kernel_rfl
theorem typesSizeP : Tryd.prog.types.size = 160 := by kernel_rfl

/-- What the condition on the listed variable gives a walk: its one cell. -/
theorem handle_laid {W : World} (h : handlesMet Tryd.prog [("errors.errorType", Rows.laid_errors_errorType)] W) : Handle W := by
  obtain ⟨name, u, ty, e1, e2, e3, e4, e5⟩ := h _ (List.mem_singleton.2 rfl)
  have en : name = [101, 114, 114, 111, 114] := (Option.some.inj e1).symm
  subst en
  obtain rfl := Option.some.inj (rtypeAtP.symm.trans e2)
  have hm : ty ∈ (List.range 160).filter fun t => Tryd.prog.rowNamed t [101, 114, 114, 111, 114] := List.mem_filter.2 ⟨List.mem_range.2 (by rw [← typesSizeP]; exact e3), e4⟩
  rw [oneRowP] at hm
  obtain rfl := List.mem_singleton.1 hm
  have hh : typeHandle Tryd.prog 26 = .pointer (some ⟨3, 26, none⟩) := by kernel_rfl
  rw [hh] at e5
  simpa [Handle] using World.var?_cell errorTypeAtP e5 0

/-- The variable's cell laid. -/
def layBlockP (o : Obj) : Obj := match o with
  | .cells _ t frozen => .cells #[.iface 113 (.agg #[.pointer (some ⟨3, 26, none⟩)])] t frozen
  | o => o
def layWorldP (w : World) : World := { w with heap := w.heap.modify 0 layBlockP }

end Go.Proofs.YthmeapplnocfjaaDoor

namespace Go.Proofs.YthmeapplnocfjaaDoor
open Go.ChangeShapes Go.WideShapes Go.ChangeAt Go.RowKit
open Go.ChangeMaps (setBlock shut_map_nil open_string shut_string keptBut_setBlock frozen?_setBlock heap_setBlock_same)
set_option linter.unusedVariables false
set_option linter.unusedSimpArgs false
set_option maxRecDepth 100000

/-- A list of ints as it is read. -/
theorem ints_argW {H : Type} {enc : TypeId × Value → H} {W : World} {fuel : Nat} {cs : List Value} {x : DataW H × List MemPlace}
    (h : DataW.trod enc Tryd.prog W 0 (fun _ => true) true fuel 23 cs = some x) :
    ∃ (xs : List Int) (a : Option Addr) (c : Nat), cs = [.slice a xs.length c] ∧ ArgP W xs a xs.length c ∧ xs.length ≤ c ∧ c ≤ maxLen := by
  have q3 : Tryd.prog.cellsOf 3 = 1 := by kernel_rfl
  rcases open_ints Tryd.underlying23 Tryd.underlying3 q3 h with ⟨rfl, -⟩ | ⟨a, len, cap, zs, rfl, hb, hlc, hcm, hzl, -, hcell, hwf⟩
  · exact ⟨[], none, 0, rfl, ⟨rfl, by simp, fun k hk => absurd hk (by simp)⟩, by simp, by simp⟩
  · simp only [if_true] at hzl
    have hl : (zs.take len).length = len := by simp; omega
    refine ⟨zs.take len, some a, cap, by rw [hl], ⟨rfl, by omega, fun k hk => ?_⟩, by omega, hcm⟩
    have hk' : k < len ∧ k < zs.length := by simp only [List.length_take] at hk; omega
    have hc0 := hcell 0 (by omega)
    have hck := hcell k hk'.2
    obtain ⟨g, off, sp⟩ := a
    have hsp : sp = none := by
      cases sp with
      | none => rfl
      | some q =>
        exfalso
        simp [Addr.add, World.cell?] at hc0
        split at hc0 <;> simp at hc0
    subst hsp
    have ea : (⟨g, off, none⟩ : Addr).add k = ⟨g, off + k, none⟩ := by
      unfold Addr.add
      split
      · rename_i hz; subst hz; rfl
      · rfl
    rw [ea] at hck
    refine ⟨g, off, rfl, ?_, ?_⟩
    · rcases Nat.lt_or_ge g W.heap.size with q | q
      · exact q
      · simp [World.cell?, Array.getElem?_eq_none q] at hck
    · rw [hck]
      simp [List.getD, hk'.2]

set_option maxRecDepth 100000 in
/-- A list of ints that came in. -/
theorem open_listW {H : Type} {enc : TypeId × Value → H} {W : World} {base : Nat} {v : Value} {d : DataW H} {p : List MemPlace}
    (hv : Value.okWide Tryd.prog W .any base 23 v) (h : DataW.Trod enc Tryd.prog W 0 (fun _ => true) true 23 v d p) :
    ∃ (xs : List Int) (a : Option Addr) (c : Nat), v = .slice a xs.length c ∧ ArgP W xs a xs.length c ∧ xs.length ≤ c ∧ c ≤ maxLen := by
  obtain ⟨a0, n0, c0, rfl⟩ := okWide_slice Tryd.underlying23 hv
  obtain ⟨fuel, h⟩ := h
  obtain ⟨xs, a, c, e, ha, h1, h2⟩ := ints_argW h
  simp [Value.cells] at e
  obtain ⟨rfl, rfl, rfl⟩ := e
  exact ⟨xs, _, _, rfl, ha, h1, h2⟩
theorem cells_fourW {w : World} {a : Addr} {cs : List Value} (h : w.cells? 0 a 4 = some cs) : ∃ c0 c1 c2 c3, cs = [c0, c1, c2, c3] ∧ w.cell? (a.add 0) = some c0 ∧ w.cell? (a.add 1) = some c1 ∧ w.cell? (a.add 2) = some c2 ∧ w.cell? (a.add 3) = some c3 := by
  unfold World.cells? at h
  rw [if_pos (Nat.zero_le _)] at h
  simp only [List.range, List.range.loop, List.mapM_cons, List.mapM_nil] at h
  cases h0 : w.cell? (a.add 0) with
  | none => simp [h0] at h
  | some c0 =>
  cases h1 : w.cell? (a.add 1) with
  | none => simp [h0, h1] at h
  | some c1 =>
  cases h2 : w.cell? (a.add 2) with
  | none => simp [h0, h1, h2] at h
  | some c2 =>
  cases h3 : w.cell? (a.add 3) with
  | none => simp [h0, h1, h2, h3] at h
  | some c3 =>
    simp [h0, h1, h2, h3] at h
    exact ⟨c0, c1, c2, c3, h.symm, rfl, rfl, rfl, rfl⟩
theorem add_atW (g off k : Nat) : (⟨g, off, none⟩ : Addr).add k = ⟨g, off + k, none⟩ := by
  unfold Addr.add
  split
  · rename_i hz; subst hz; rfl
  · rfl
theorem sp_noneW {w : World} {g off : Nat} {sp : Option Nat} {v : Value} (h : w.cell? (((⟨g, off, sp⟩ : Addr).add 0).add 0) = some v) : sp = none := by
  cases sp with
  | none => rfl
  | some q =>
    exfalso
    simp [Addr.add, World.cell?] at h
    split at h <;> simp at h
set_option maxRecDepth 100000 in
/-- A tile as it is read. -/
theorem tile_read {H : Type} {enc : TypeId × Value → H} {W : World} {fuel : Nat} {cs : List Value} {x : DataW H × List MemPlace}
    (h : DataW.trod enc Tryd.prog W 0 (fun _ => true) true fuel 47 cs = some x) (hc : cs.length = 4) : ∃ p : TlT, cs = [.int .i64 p.u, .int .i64 p.r, .int .i64 p.d, .int .i64 p.l] := by
  obtain ⟨xs, m, _, hx, hl, hlen, hf⟩ := DataW.trod_struct Tryd.underlying47 h
  have f0 := hf 0 _ rfl
  have f1 := hf 1 _ rfl
  have f2 := hf 2 _ rfl
  have f3 := hf 3 _ rfl
  clear hf hx h hl
  have q3 : Tryd.prog.cellsOf 3 = 1 := by kernel_rfl
  match cs, hc with
  | [c0, c1, c2, c3], _ =>
  match xs, hlen with
  | [y0, y1, y2, y3], _ =>
  simp [q3] at f0 f1 f2 f3
  obtain ⟨k0, e0, -, w0⟩ := DataW.trod_int Tryd.underlying3 f0
  obtain ⟨k1, e1, -, w1⟩ := DataW.trod_int Tryd.underlying3 f1
  obtain ⟨k2, e2, -, w2⟩ := DataW.trod_int Tryd.underlying3 f2
  obtain ⟨k3, e3, -, w3⟩ := DataW.trod_int Tryd.underlying3 f3
  simp only [List.cons.injEq, and_true] at e0 e1 e2 e3
  subst e0 e1 e2 e3
  exact ⟨⟨k0, k1, k2, k3⟩, rfl⟩
set_option maxRecDepth 100000 in
/-- Tiles that came in. -/
theorem tiles_arg {H : Type} {enc : TypeId × Value → H} {W : World} {fuel : Nat} {cs : List Value} {x : DataW H × List MemPlace}
    (h : DataW.trod enc Tryd.prog W 0 (fun _ => true) true fuel 22 cs = some x) :
    ∃ (xs : List TlT) (a : Option Addr) (c : Nat), cs = [.slice a xs.length c] ∧ ArgT W xs a xs.length c := by
  have q3 : Tryd.prog.cellsOf 47 = 4 := by kernel_rfl
  rcases DataW.trod_slice Tryd.underlying22 h with ⟨e, -⟩ | ⟨a, n0, c0, elems, rest, n, -, e, -, hb, hlc, hcm, hel, hc, -⟩
  · exact ⟨[], none, 0, e, ⟨rfl, by simp, fun k hk => absurd hk (by simp)⟩⟩
  · rw [q3] at hc
    have key : ∀ i, ∃ q : TlT, i < n0 → W.cell? ((a.add (i * 4)).add 0) = some (.int .i64 q.u) ∧ W.cell? ((a.add (i * 4)).add 1) = some (.int .i64 q.r) ∧ W.cell? ((a.add (i * 4)).add 2) = some (.int .i64 q.d) ∧ W.cell? ((a.add (i * 4)).add 3) = some (.int .i64 q.l) := fun i => by
      by_cases hi : i < n0
      · have h1 := hc i hi
        have h2 : elems[i]? = some (elems[i]'(by omega)) := List.getElem?_eq_getElem _
        rw [h2] at h1
        cases h3 : W.cells? 0 (a.add (i * 4)) 4 with
        | none => rw [h3] at h1; cases h1
        | some cs =>
          rw [h3] at h1
          obtain ⟨c0', c1', c2', c3', rfl, k0, k1, k2, k3⟩ := cells_fourW h3
          obtain ⟨q, hq⟩ := tile_read h1 rfl
          simp only [List.cons.injEq, and_true] at hq
          obtain ⟨rfl, rfl, rfl, rfl⟩ := hq
          exact ⟨q, fun _ => ⟨k0, k1, k2, k3⟩⟩
      · exact ⟨⟨0, 0, 0, 0⟩, fun h => absurd h hi⟩
    obtain ⟨f, hf⟩ := Classical.axiomOfChoice key
    refine ⟨(List.range n0).map f, some a, c0, by simpa using e, ⟨by simp, by simp only [List.length_map, List.length_range]; omega, fun k hk => ?_⟩⟩
    have hk' : k < n0 := by simpa using hk
    obtain ⟨g, off, sp⟩ := a
    have e0 := sp_noneW (hf 0 (by omega)).1
    subst e0
    obtain ⟨k0, k1, k2, k3⟩ := hf k hk'
    rw [add_atW, add_atW] at k0 k1 k2 k3
    have ge : ((List.range n0).map f).getD k tlz = f k := by simp [List.getD, hk']
    rw [ge]
    refine ⟨g, off, rfl, ?_, by simpa using k0, k1, k2, k3⟩
    rcases Nat.lt_or_ge g W.heap.size with q | q
    · exact q
    · simp [World.cell?, Array.getElem?_eq_none q] at k0
set_option maxRecDepth 100000 in
/-- A list of tiles that came in. -/
theorem open_tilesW {H : Type} {enc : TypeId × Value → H} {W : World} {base : Nat} {v : Value} {d : DataW H} {p : List MemPlace}
    (hv : Value.okWide Tryd.prog W .any base 22 v) (h : DataW.Trod enc Tryd.prog W 0 (fun _ => true) true 22 v d p) :
    ∃ (xs : List TlT) (a : Option Addr) (c : Nat), v = .slice a xs.length c ∧ ArgT W xs a xs.length c := by
  obtain ⟨a0, n0, c0, rfl⟩ := okWide_slice Tryd.underlying22 hv
  obtain ⟨fuel, h⟩ := h
  obtain ⟨xs, a, c, e, ha⟩ := tiles_arg h
  simp [Value.cells] at e
  obtain ⟨rfl, rfl, rfl⟩ := e
  exact ⟨xs, _, _, rfl, ha⟩
theorem trodAll_fiveW {H : Type} {enc : TypeId × Value → H} {P : Program} {w : World} {base : Nat} {spare : Nat → Bool} {held : Bool} {t0 t1 t2 t3 t4 : TypeId} {args : Array Value} {ds : List (DataW H)} {ps : List MemPlace} (h : DataW.TrodAll enc P w base spare held [t0, t1, t2, t3, t4] args.toList ds ps) :
    ∃ v0 v1 v2 v3 v4 d0 d1 d2 d3 d4 p0 p1 p2 p3 p4, args = #[v0, v1, v2, v3, v4] ∧ ds = [d0, d1, d2, d3, d4] ∧ ps = p0 ++ (p1 ++ (p2 ++ (p3 ++ p4))) ∧ DataW.Trod enc P w base spare held t0 v0 d0 p0 ∧ DataW.Trod enc P w base spare held t1 v1 d1 p1 ∧ DataW.Trod enc P w base spare held t2 v2 d2 p2 ∧ DataW.Trod enc P w base spare held t3 v3 d3 p3 ∧ DataW.Trod enc P w base spare held t4 v4 d4 p4 := by
  obtain ⟨v0, vs0, d0, ds0, p0, q0, hargs, rfl, rfl, hd0, r0⟩ := trodAll_cons h
  obtain ⟨v1, vs1, d1, ds1, p1, q1, rfl, rfl, rfl, hd1, r1⟩ := trodAll_cons r0
  obtain ⟨v2, vs2, d2, ds2, p2, q2, rfl, rfl, rfl, hd2, r2⟩ := trodAll_cons r1
  obtain ⟨v3, vs3, d3, ds3, p3, q3, rfl, rfl, rfl, hd3, r3⟩ := trodAll_cons r2
  obtain ⟨v4, vs4, d4, ds4, p4, q4, rfl, rfl, rfl, hd4, r4⟩ := trodAll_cons r3
  obtain ⟨rfl, rfl, rfl⟩ := trodAll_nil r4
  exact ⟨v0, v1, v2, v3, v4, d0, d1, d2, d3, d4, p0, p1, p2, p3, p4, by cases args; simp_all, rfl, by simp, hd0, hd1, hd2, hd3, hd4⟩
end Go.Proofs.YthmeapplnocfjaaDoor

namespace Go.Proofs.YthmeapplnocfjaaDoor
open Go.ChangeShapes Go.WideShapes Go.ChangeAt Go.RowKit
set_option linter.unusedVariables false

theorem tzAt : Tryd.prog.globalNamed "math/bits.deBruijn64tab" = some 2 := by kernel_rfl
theorem tz_of_laid {W : World} {l : List (String × DataW Unit)} (he : (l.filter fun x => x.1 == "math/bits.deBruijn64tab") = [("math/bits.deBruijn64tab", Lib.tabData .u8 (Lib.deBruijn64tab.map fun (x : Nat) => (x : Int)))])
    (h : laidMet Tryd.prog l W) : TzTab W := by
  have h1 := h.filter fun x => x.1 == "math/bits.deBruijn64tab"
  rw [he] at h1
  have h2 := Lib.tabIs_of_head tzAt (show (Tryd.prog.globals[2]?).map (·.type) = some 131 by kernel_rfl) Tryd.underlying131 Tryd.underlying5 (by kernel_rfl) (by kernel_rfl) h1
  intro j hj
  have hl : Lib.deBruijn64tab.length = 64 := by decide
  have h3 := h2.cell tzAt j (by rw [List.length_map, hl]; exact hj)
  rw [h3]
  have hj' : j < Lib.deBruijn64tab.length := by rw [hl]; exact hj
  simp [List.getD, hj']
end Go.Proofs.YthmeapplnocfjaaDoor

