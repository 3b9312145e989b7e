/-
  What the last text of this claim leans on, part 27: LawWe, LawWz, OpenP, OpenW, OpenZw.
-/
import Derived.Test.YthmeapplnocfjaaDoorZd26
import Derived.Test.YthmeapplnocfjaaDoorZd24
import Derived.Test.YthmeapplnocfjaaDoorZd2
import Derived.Test.YthmeapplnocfjaaDoorRows
import Derived.Test.YthmeapplnocfjaaDoorCards
import Derived.Test.YthmeapplnocfjaaDoorTie
import Derived.Test.YthmeapplnocfjaaDoorZd25
import Derived.Test.YthmeapplnocfjaaDoorZd8
import Derived.ProofKit
import Derived.OpenShut
import Derived.ChangeSame
import Derived.ChangeSlices
import Derived.ChangeVars
import Derived.JoinedOf
import Derived.RowKit
import Derived.RowKitTokens
import Derived.LaidLaws
import Derived.LaidHandle
import Derived.LaidSub
import Derived.Lay
import Derived.Carry
import Derived.Stop.Joined
import Derived.SevenTiedAt
import Derived.WalkKit
import Derived.Lib.LaidTab
namespace Go.Proofs.YthmeapplnocfjaaDoor
open Go.RowKit
set_option linter.unusedVariables false
theorem law_wang_decides (xs : List TlT) (a : Option Addr) (n c : Nat) (M : Int) (w : World) (hA : ArgT w xs a n c) (hg : Handle w)
    (hD : ∀ V, Below w.heap.size w V → Calls Tryd.prog 17 #[.slice a n c, .int .i64 M] V (WdA xs n M V)) :
    Calls Tryd.prog 4 #[.slice a n c, .int .i64 M] w fun e w' => e = .returned (.bool true) ∧ Below w.heap.size w w' := by
  have ER : ∀ V, Below w.heap.size w V → ∀ f : Nat, Calls Tryd.prog 8 #[errOf f, .int .i64 (f : Int)] V fun e w' => e = .returned (.bool true) ∧ Below V.heap.size V w' := fun V h f => errSameC_any f V (hg.below h)
  have cS := refSides_any xs a n c M M w hA
  have KL := hA.len
  by_cases s0 : sdF xs M M = 0
  · rw [s0] at cS
    obtain ⟨t0, n1, n16, m, u, rfl, e2, v1, v5, u1, u5⟩ := sdF_ok s0
    rw [← KL] at n1 n16
    have cR := fun V (h : Below w.heap.size w V) => refDecide_any xs a n c m V (hA.below h) n16 v5
    by_cases hT : ∃ v h, DecT xs n m v h
    · obtain ⟨v, h, ht⟩ := hT
      have vh5 : v * h ≤ 25 := by
        obtain ⟨s, q1, q2, _, q3, q4, q5, q6, _⟩ := ht
        exact Nat.le_trans (Nat.mul_le_mul (show v ≤ 5 by omega) (show h ≤ 5 by omega)) (by decide)
      -- the first filling, whichever search found it
      by_cases hF : ∃ d, FirstW n (v * h) (okW xs v h true) d
      · obtain ⟨d, hd⟩ := hF
        refine law_wd_B a n c m w 0 true (v : Int) (h : Int) ((List.range (v * h)).map fun i => ((d i : Nat) : Int)) cS (fun V b => ?_) (fun V b => ?_) ER
        · refine (cR V b).mono ?_
          rintro e w' ⟨r, bb⟩
          rcases r with ⟨v', h', d', g, ht', hd', rfl, hr, hg'⟩ | ⟨s, hs, _⟩ | ⟨hl, _⟩
          · obtain ⟨rfl, rfl⟩ := dec_tt ht ht'
            have e1 : (List.range (v * h)).map (fun i => ((d i : Nat) : Int)) = (List.range (v * h)).map (fun i => ((d' i : Nat) : Int)) := List.map_congr_left fun i hi => by rw [hd.only hd' i (List.mem_range.1 hi)]
            rw [e1]
            exact ⟨_, _, _, rfl, hide' (range_argP hr vh5), hide' (fun g' off e => by cases e; exact hg'), hide' bb⟩
          · exact (dec_ts ht hs).elim
          · exact (dec_tl ht hl).elim
        · refine (hD V b).mono ?_
          intro e w' r
          rcases r with ⟨q, _⟩ | ⟨_, hl, _⟩ | ⟨_, s, hs, _⟩ | ⟨_, v', h', d', ht', hd', r⟩
          · exact absurd s0 q
          · rw [Int.toNat_natCast] at hl; exact (dec_tl ht hl).elim
          · rw [Int.toNat_natCast] at hs; exact (dec_ts ht hs).elim
          · rw [Int.toNat_natCast] at ht'
            obtain ⟨rfl, rfl⟩ := dec_tt ht ht'
            have e1 : (List.range (v * h)).map (fun i => ((d i : Nat) : Int)) = (List.range (v * h)).map (fun i => ((d' i : Nat) : Int)) := List.map_congr_left fun i hi => by rw [hd.only hd' i (List.mem_range.1 hi)]
            rw [e1]; exact r
      · -- no first one, though there are some: what the reference answers says otherwise
        refine law_wd_B a n c m w 0 true (v : Int) (h : Int) [] cS (fun V b => ?_) (fun V b => ?_) ER
        · refine (cR V b).mono ?_
          rintro e w' ⟨r, bb⟩
          rcases r with ⟨v', h', d', g, ht', hd', _⟩ | ⟨s, hs, _⟩ | ⟨hl, _⟩
          · obtain ⟨rfl, rfl⟩ := dec_tt ht ht'
            exact absurd ⟨d', hd'⟩ hF
          · exact (dec_ts ht hs).elim
          · exact (dec_tl ht hl).elim
        · refine (hD V b).mono ?_
          intro e w' r
          rcases r with ⟨q, _⟩ | ⟨_, hl, _⟩ | ⟨_, s, hs, _⟩ | ⟨_, v', h', d', ht', hd', r⟩
          · exact absurd s0 q
          · rw [Int.toNat_natCast] at hl; exact (dec_tl ht hl).elim
          · rw [Int.toNat_natCast] at hs; exact (dec_ts ht hs).elim
          · rw [Int.toNat_natCast] at ht'
            obtain ⟨rfl, rfl⟩ := dec_tt ht ht'
            exact absurd ⟨d', hd'⟩ hF
    · by_cases hS : ∃ s, DecS xs n m s
      · obtain ⟨s, hs⟩ := hS
        refine law_wd_B a n c m w 0 false (s : Int) (s : Int) [] cS (fun V b => ?_) (fun V b => ?_) ER
        · refine (cR V b).mono ?_
          rintro e w' ⟨r, bb⟩
          rcases r with ⟨v', h', d', g, ht', _⟩ | ⟨s', hs', rfl⟩ | ⟨hl, _⟩
          · exact absurd ⟨v', h', ht'⟩ hT
          · obtain rfl := dec_ss hs hs'
            exact ⟨none, 0, 0, rfl, hide' (nilW _), hide' (fun g' off e => by cases e), hide' bb⟩
          · exact (dec_sl hs hl).elim
        · refine (hD V b).mono ?_
          intro e w' r
          rcases r with ⟨q, _⟩ | ⟨_, hl, _⟩ | ⟨_, s', hs', r⟩ | ⟨_, v', h', d', ht', _⟩
          · exact absurd s0 q
          · rw [Int.toNat_natCast] at hl; exact (dec_sl hs hl).elim
          · rw [Int.toNat_natCast] at hs'
            obtain rfl := dec_ss hs hs'
            exact r
          · rw [Int.toNat_natCast] at ht'; exact absurd ⟨v', h', ht'⟩ hT
      · refine law_wd_C a n c m w 0 false 0 0 [] cS (fun V b => ?_) (fun V b => ?_) ER
        · refine (cR V b).mono ?_
          rintro e w' ⟨r, bb⟩
          rcases r with ⟨v', h', d', g, ht', _⟩ | ⟨s', hs', _⟩ | ⟨hl, rfl⟩
          · exact absurd ⟨v', h', ht'⟩ hT
          · exact absurd ⟨s', hs'⟩ hS
          · exact ⟨none, 0, 0, rfl, hide' (nilW _), hide' (fun g' off e => by cases e), hide' bb⟩
        · refine (hD V b).mono ?_
          intro e w' r
          rcases r with ⟨q, _⟩ | ⟨_, _, r⟩ | ⟨_, s', hs', _⟩ | ⟨_, v', h', d', ht', _⟩
          · exact absurd s0 q
          · exact r
          · rw [Int.toNat_natCast] at hs'; exact absurd ⟨s', hs'⟩ hS
          · rw [Int.toNat_natCast] at ht'; exact absurd ⟨v', h', ht'⟩ hT
  · refine law_wd_A a n c M w (sdF xs M M) false 0 0 [] cS s0 (fun V b => ?_) ER
    refine (hD V b).mono ?_
    intro e w' r
    rcases r with ⟨_, r⟩ | ⟨q, _⟩ | ⟨q, _⟩ | ⟨q, _⟩
    · exact r
    · exact absurd q s0
    · exact absurd q s0
    · exact absurd q s0
end Go.Proofs.YthmeapplnocfjaaDoor

namespace Go.Proofs.YthmeapplnocfjaaDoor
open Go.RowKit
set_option linter.unusedVariables false
theorem law_wd_all (xs : List TlT) (a : Option Addr) (n c : Nat) (M : Int) (w : World) (hA : ArgT w xs a n c) (hg : Handle w) (hT : TzTab w) :
    Calls Tryd.prog 4 #[.slice a n c, .int .i64 M] w fun e w' => e = .returned (.bool true) ∧ Below w.heap.size w w' :=
  law_wang_decides xs a n c M w hA hg (fun V h => wangDecide_any xs a n c M V (hA.below h) (hT.below h))
end Go.Proofs.YthmeapplnocfjaaDoor

namespace Go.Proofs.YthmeapplnocfjaaDoor
open Go.ChangeShapes Go.WideShapes Go.ChangeAt Go.RowKit
open Go.ChangeMaps (setBlock shut_map_nil open_string shut_string keptBut_setBlock frozen?_setBlock heap_setBlock_same)
set_option linter.unusedVariables false

theorem laidOutP : laidOutB Tryd.prog = true := by kernel_rfl
theorem ownP : ownKnob Tryd.prog.godebug = none := by kernel_rfl
theorem errorTypeAtP : Tryd.prog.globalNamed "errors.errorType" = some 0 := by kernel_rfl
theorem rtypeAtP : (Tryd.prog.cutTypes.find? (·.1 == "internal/reflectlite.rtype")).map (·.2) = some 113 := by kernel_rfl
theorem oneRowP : ((List.range 160).filter fun t => Tryd.prog.rowNamed t [101, 114, 114, 111, 114]) = [26] := by kernel_rfl
theorem typesSizeP : Tryd.prog.types.size = 160 := by kernel_rfl

/-- What the condition on the listed variable gives a walk: its one cell. -/
theorem handle_laid {W : World} (h : handlesMet Tryd.prog [("errors.errorType", Rows.laid_errors_errorType)] W) : Handle W := by
  obtain ⟨name, u, ty, e1, e2, e3, e4, e5⟩ := h _ (List.mem_singleton.2 rfl)
  have en : name = [101, 114, 114, 111, 114] := (Option.some.inj e1).symm
  subst en
  obtain rfl := Option.some.inj (rtypeAtP.symm.trans e2)
  have hm : ty ∈ (List.range 160).filter fun t => Tryd.prog.rowNamed t [101, 114, 114, 111, 114] := List.mem_filter.2 ⟨List.mem_range.2 (by rw [← typesSizeP]; exact e3), e4⟩
  rw [oneRowP] at hm
  obtain rfl := List.mem_singleton.1 hm
  have hh : typeHandle Tryd.prog 26 = .pointer (some ⟨3, 26, none⟩) := by kernel_rfl
  rw [hh] at e5
  simpa [Handle] using World.var?_cell errorTypeAtP e5 0

/-- The variable's cell laid. -/
def layBlockP (o : Obj) : Obj := match o with
  | .cells _ t frozen => .cells #[.iface 113 (.agg #[.pointer (some ⟨3, 26, none⟩)])] t frozen
  | o => o
def layWorldP (w : World) : World := { w with heap := w.heap.modify 0 layBlockP }

end Go.Proofs.YthmeapplnocfjaaDoor

namespace Go.Proofs.YthmeapplnocfjaaDoor
open Go.ChangeShapes Go.WideShapes Go.ChangeAt Go.RowKit
open Go.ChangeMaps (setBlock shut_map_nil open_string shut_string keptBut_setBlock frozen?_setBlock heap_setBlock_same)
set_option linter.unusedVariables false
set_option linter.unusedSimpArgs false
set_option maxRecDepth 100000

theorem cells_fourW {w : World} {a : Addr} {cs : List Value} (h : w.cells? 0 a 4 = some cs) : ∃ c0 c1 c2 c3, cs = [c0, c1, c2, c3] ∧ w.cell? (a.add 0) = some c0 ∧ w.cell? (a.add 1) = some c1 ∧ w.cell? (a.add 2) = some c2 ∧ w.cell? (a.add 3) = some c3 := by
  unfold World.cells? at h
  rw [if_pos (Nat.zero_le _)] at h
  simp only [List.range, List.range.loop, List.mapM_cons, List.mapM_nil] at h
  cases h0 : w.cell? (a.add 0) with
  | none => simp [h0] at h
  | some c0 =>
  cases h1 : w.cell? (a.add 1) with
  | none => simp [h0, h1] at h
  | some c1 =>
  cases h2 : w.cell? (a.add 2) with
  | none => simp [h0, h1, h2] at h
  | some c2 =>
  cases h3 : w.cell? (a.add 3) with
  | none => simp [h0, h1, h2, h3] at h
  | some c3 =>
    simp [h0, h1, h2, h3] at h
    exact ⟨c0, c1, c2, c3, h.symm, rfl, rfl, rfl, rfl⟩
theorem add_atW (g off k : Nat) : (⟨g, off, none⟩ : Addr).add k = ⟨g, off + k, none⟩ := by
  unfold Addr.add
  split
  · rename_i hz; subst hz; rfl
  · rfl
theorem sp_noneW {w : World} {g off : Nat} {sp : Option Nat} {v : Value} (h : w.cell? (((⟨g, off, sp⟩ : Addr).add 0).add 0) = some v) : sp = none := by
  cases sp with
  | none => rfl
  | some q =>
    exfalso
    simp [Addr.add, World.cell?] at h
    split at h <;> simp at h
set_option maxRecDepth 100000 in
/-- A tile as it is read. -/
theorem tile_read {H : Type} {enc : TypeId × Value → H} {W : World} {fuel : Nat} {cs : List Value} {x : DataW H × List MemPlace}
    (h : DataW.trod enc Tryd.prog W 0 (fun _ => true) true fuel 47 cs = some x) (hc : cs.length = 4) : ∃ p : TlT, cs = [.int .i64 p.u, .int .i64 p.r, .int .i64 p.d, .int .i64 p.l] := by
  obtain ⟨xs, m, _, hx, hl, hlen, hf⟩ := DataW.trod_struct Tryd.underlying47 h
  have f0 := hf 0 _ rfl
  have f1 := hf 1 _ rfl
  have f2 := hf 2 _ rfl
  have f3 := hf 3 _ rfl
  clear hf hx h hl
  have q3 : Tryd.prog.cellsOf 3 = 1 := by kernel_rfl
  match cs, hc with
  | [c0, c1, c2, c3], _ =>
  match xs, hlen with
  | [y0, y1, y2, y3], _ =>
  simp [q3] at f0 f1 f2 f3
  obtain ⟨k0, e0, -, w0⟩ := DataW.trod_int Tryd.underlying3 f0
  obtain ⟨k1, e1, -, w1⟩ := DataW.trod_int Tryd.underlying3 f1
  obtain ⟨k2, e2, -, w2⟩ := DataW.trod_int Tryd.underlying3 f2
  obtain ⟨k3, e3, -, w3⟩ := DataW.trod_int Tryd.underlying3 f3
  simp only [List.cons.injEq, and_true] at e0 e1 e2 e3
  subst e0 e1 e2 e3
  exact ⟨⟨k0, k1, k2, k3⟩, rfl⟩
set_option maxRecDepth 100000 in
/-- Tiles that came in. -/
theorem tiles_arg {H : Type} {enc : TypeId × Value → H} {W : World} {fuel : Nat} {cs : List Value} {x : DataW H × List MemPlace}
    (h : DataW.trod enc Tryd.prog W 0 (fun _ => true) true fuel 22 cs = some x) :
    ∃ (xs : List TlT) (a : Option Addr) (c : Nat), cs = [.slice a xs.length c] ∧ ArgT W xs a xs.length c := by
  have q3 : Tryd.prog.cellsOf 47 = 4 := by kernel_rfl
  rcases DataW.trod_slice Tryd.underlying22 h with ⟨e, -⟩ | ⟨a, n0, c0, elems, rest, n, -, e, -, hb, hlc, hcm, hel, hc, -⟩
  · exact ⟨[], none, 0, e, ⟨rfl, by simp, fun k hk => absurd hk (by simp)⟩⟩
  · rw [q3] at hc
    have key : ∀ i, ∃ q : TlT, i < n0 → W.cell? ((a.add (i * 4)).add 0) = some (.int .i64 q.u) ∧ W.cell? ((a.add (i * 4)).add 1) = some (.int .i64 q.r) ∧ W.cell? ((a.add (i * 4)).add 2) = some (.int .i64 q.d) ∧ W.cell? ((a.add (i * 4)).add 3) = some (.int .i64 q.l) := fun i => by
      by_cases hi : i < n0
      · have h1 := hc i hi
        have h2 : elems[i]? = some (elems[i]'(by omega)) := List.getElem?_eq_getElem _
        rw [h2] at h1
        cases h3 : W.cells? 0 (a.add (i * 4)) 4 with
        | none => rw [h3] at h1; cases h1
        | some cs =>
          rw [h3] at h1
          obtain ⟨c0', c1', c2', c3', rfl, k0, k1, k2, k3⟩ := cells_fourW h3
          obtain ⟨q, hq⟩ := tile_read h1 rfl
          simp only [List.cons.injEq, and_true] at hq
          obtain ⟨rfl, rfl, rfl, rfl⟩ := hq
          exact ⟨q, fun _ => ⟨k0, k1, k2, k3⟩⟩
      · exact ⟨⟨0, 0, 0, 0⟩, fun h => absurd h hi⟩
    obtain ⟨f, hf⟩ := Classical.axiomOfChoice key
    refine ⟨(List.range n0).map f, some a, c0, by simpa using e, ⟨by simp, by simp only [List.length_map, List.length_range]; omega, fun k hk => ?_⟩⟩
    have hk' : k < n0 := by simpa using hk
    obtain ⟨g, off, sp⟩ := a
    have e0 := sp_noneW (hf 0 (by omega)).1
    subst e0
    obtain ⟨k0, k1, k2, k3⟩ := hf k hk'
    rw [add_atW, add_atW] at k0 k1 k2 k3
    have ge : ((List.range n0).map f).getD k tlz = f k := by simp [List.getD, hk']
    rw [ge]
    refine ⟨g, off, rfl, ?_, by simpa using k0, k1, k2, k3⟩
    rcases Nat.lt_or_ge g W.heap.size with q | q
    · exact q
    · simp [World.cell?, Array.getElem?_eq_none q] at k0
set_option maxRecDepth 100000 in
/-- A list of tiles that came in. -/
theorem open_tilesW {H : Type} {enc : TypeId × Value → H} {W : World} {base : Nat} {v : Value} {d : DataW H} {p : List MemPlace}
    (hv : Value.okWide Tryd.prog W .any base 22 v) (h : DataW.Trod enc Tryd.prog W 0 (fun _ => true) true 22 v d p) :
    ∃ (xs : List TlT) (a : Option Addr) (c : Nat), v = .slice a xs.length c ∧ ArgT W xs a xs.length c := by
  obtain ⟨a0, n0, c0, rfl⟩ := okWide_slice Tryd.underlying22 hv
  obtain ⟨fuel, h⟩ := h
  obtain ⟨xs, a, c, e, ha⟩ := tiles_arg h
  simp [Value.cells] at e
  obtain ⟨rfl, rfl, rfl⟩ := e
  exact ⟨xs, _, _, rfl, ha⟩
end Go.Proofs.YthmeapplnocfjaaDoor

namespace Go.Proofs.YthmeapplnocfjaaDoor
open Go.ChangeShapes Go.WideShapes Go.ChangeAt Go.RowKit
set_option linter.unusedVariables false

theorem tzAt : Tryd.prog.globalNamed "math/bits.deBruijn64tab" = some 2 := by kernel_rfl
theorem tz_of_laid {W : World} {l : List (String × DataW Unit)} (he : (l.filter fun x => x.1 == "math/bits.deBruijn64tab") = [("math/bits.deBruijn64tab", Lib.tabData .u8 (Lib.deBruijn64tab.map fun (x : Nat) => (x : Int)))])
    (h : laidMet Tryd.prog l W) : TzTab W := by
  have h1 := h.filter fun x => x.1 == "math/bits.deBruijn64tab"
  rw [he] at h1
  have h2 := Lib.tabIs_of_head tzAt (show (Tryd.prog.globals[2]?).map (·.type) = some 131 by kernel_rfl) Tryd.underlying131 Tryd.underlying5 (by kernel_rfl) (by kernel_rfl) h1
  intro j hj
  have hl : Lib.deBruijn64tab.length = 64 := by decide
  have h3 := h2.cell tzAt j (by rw [List.length_map, hl]; exact hj)
  rw [h3]
  have hj' : j < Lib.deBruijn64tab.length := by rw [hl]; exact hj
  simp [List.getD, hj']
end Go.Proofs.YthmeapplnocfjaaDoor

