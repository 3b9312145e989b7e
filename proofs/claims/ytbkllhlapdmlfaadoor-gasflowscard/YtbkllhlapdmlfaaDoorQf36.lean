/-
  What the last text of this claim leans on, part 36: LawGf, OpenP, OpenGf.
-/
import Derived.Test.YtbkllhlapdmlfaaDoorQf28
import Derived.Test.YtbkllhlapdmlfaaDoorQf29
import Derived.Test.YtbkllhlapdmlfaaDoorQf30
import Derived.Test.YtbkllhlapdmlfaaDoorQf31
import Derived.Test.YtbkllhlapdmlfaaDoorQf32
import Derived.Test.YtbkllhlapdmlfaaDoorQf33
import Derived.Test.YtbkllhlapdmlfaaDoorQf34
import Derived.Test.YtbkllhlapdmlfaaDoorQf35
import Derived.Test.YtbkllhlapdmlfaaDoorQf1
import Derived.Test.YtbkllhlapdmlfaaDoorRows
import Derived.Test.YtbkllhlapdmlfaaDoorCards
import Derived.Test.YtbkllhlapdmlfaaDoorTie
import Derived.Test.YtbkllhlapdmlfaaDoorQf27
import Derived.ProofKit
import Derived.OpenShut
import Derived.ChangeSame
import Derived.ChangeSlices
import Derived.ChangeVars
import Derived.JoinedOf
import Derived.RowKit
import Derived.RowKitTokens
import Derived.LaidLaws
import Derived.LaidHandle
import Derived.LaidSub
import Derived.Lay
import Derived.Carry
import Derived.Stop.Joined
import Derived.SevenTiedAt
namespace Go.Proofs.YtbkllhlapdmlfaaDoor
open Go.RowKit
set_option linter.unusedVariables false
theorem cells_all {cs : List Int} : (∀ k (h : k < cs.length), cellB cs[k] = true) ↔ cs.all cellB = true := by
  constructor
  · intro h
    refine List.all_eq_true.2 fun x hx => ?_
    obtain ⟨k, hk, rfl⟩ := List.getElem_of_mem hx
    exact h k hk
  · intro h k hk
    exact List.all_eq_true.1 h _ (List.getElem_mem hk)
theorem run_code {K W H : Int} {xs cs : List Int} {k : Int} {f : Nat} (g0 : gasE K W H xs = 0) (h : (if k < 0 ∨ 100000 < k then 1 else if cs.all cellB then (if K = 6 ∧ cs.length = 0 then 3 else 0) else 1) = f) : runGE K W H xs cs k = f := by
  unfold runGE
  rw [if_neg (by omega)]
  exact h
theorem gf_bad {K W H : Int} {xs : List Int} {a : Option Addr} {n c : Nat} {cs : List Int} {b : Option Addr} {m d : Nat} {k : Int} {w : World} {f : Nat} (hP : ArgP w xs a n c) (hC : ArgP w cs b m d) (e : runGE K W H xs cs k = f) (f0 : f ≠ 0) : ∀ V, Below w.heap.size w V → Calls Tryd.prog 24 #[.agg #[.int .i64 K, .int .i64 W, .int .i64 H, .slice a n c], .slice b m d, .int .i64 k] V (GasBad f V) := fun V h => by
  rw [← e] at f0 ⊢
  exact gasRun_bad K W H xs a n c cs b m d k V (hP.below h) (hC.below h) f0
theorem law_gf_all (K W H : Int) (xs : List Int) (a : Option Addr) (n c : Nat) (cs : List Int) (b : Option Addr) (m d : Nat) (k : Int) (w : World) (hP : ArgP w xs a n c) (hC : ArgP w cs b m d) (hg : Handle w) :
    Calls Tryd.prog 6 #[.agg #[.int .i64 K, .int .i64 W, .int .i64 H, .slice a n c], .slice b m d, .int .i64 k] w fun e w' => e = .returned (.bool true) ∧ Below w.heap.size w w' := by
  by_cases g0 : gasE K W H xs = 0
  · have rg : ∀ V, Below w.heap.size w V → Calls Tryd.prog 22 #[.agg #[.int .i64 K, .int .i64 W, .int .i64 H, .slice a n c]] V (NumE ((0 : Nat) : Int) V) := fun V h => by
      have := refGas_any K W H xs a n c V (hP.below h)
      rw [g0] at this
      exact this
    have ck : ∀ V, Below w.heap.size w V → Calls Tryd.prog 23 #[.agg #[.int .i64 K, .int .i64 W, .int .i64 H, .slice a n c]] V (ErrS 0 V) := fun V h => by
      have := Check_G K W H xs a n c V (hP.below h)
      rw [g0] at this
      exact this
    obtain ⟨Kn, Wn, Hn, f, rfl, rfl, rfl, hK, hW, hH, he, hl, hxs, hf⟩ := gasE_zero g0
    have en : n = Wn * Hn := hP.len.trans hl
    rw [hl, ← en] at hxs
    clear hl
    have n4 : n ≤ 10000 := by rw [en]; exact Nat.mul_le_mul hW.2 hH.2
    subst hxs
    have al : 0 < n → ∀ g off, a = some ⟨g, off, none⟩ → g < w.heap.size := fun z g off h => by
      obtain ⟨g', off', e', hg', _⟩ := hP.cells 0 (by simpa using z)
      rw [h] at e'; cases e'; exact hg'
    have rc := fun (f : Nat) => run_code (f := f) (cs := cs) (k := k) g0
    rcases hK with rfl | rfl
    · have f6 : ∀ i, f i ≤ 63 := fun i => by have := hf i; simp at this; omega
      have ma : ∀ V, Below w.heap.size w V → Calls Tryd.prog 27 #[.agg #[.int .i64 4, .int .i64 (Wn : Int), .int .i64 (Hn : Int), .slice a n c]] V (MassE (massN f n : Int) 0 V) := fun V h => mass_good _ _ _ f a n c V (hP.below h) g0 f6 n4
      have pu : ∀ V, Below w.heap.size w V → Calls Tryd.prog 28 #[.agg #[.int .i64 4, .int .i64 (Wn : Int), .int .i64 (Hn : Int), .slice a n c]] V (PushE (pushR 4 f n 4) (pushU 4 f n 4) 0 V) := fun V h => push_4 _ _ f a n c V (hP.below h) g0 f6 n4
      have tu : ∀ V, Below w.heap.size w V → Calls Tryd.prog 29 #[.agg #[.int .i64 4, .int .i64 (Wn : Int), .int .i64 (Hn : Int), .slice a n c]] V (GasOk 4 (Wn : Int) (Hn : Int) n ((List.range n).map fun i => (mvF (fun k => tnG 4 2 (f k)) (srcG 4 Wn Hn) i : Int)) V) := fun V h => gasTurned_4 Wn Hn f a n c V (hP.below h) g0 en hW hH hf
      have rm : ∀ V, Below w.heap.size w V → Calls Tryd.prog 30 #[.agg #[.int .i64 4, .int .i64 (Wn : Int), .int .i64 (Hn : Int), .slice a n c]] V (NumE (massN f n : Int) V) := fun V h => refMass_any _ _ _ f a n c V (hP.below h) f6 n4
      have rp : ∀ V, Below w.heap.size w V → Calls Tryd.prog 31 #[.agg #[.int .i64 4, .int .i64 (Wn : Int), .int .i64 (Hn : Int), .slice a n c]] V (TwoE (pushR 4 f n 4) (pushU 4 f n 4) V) := fun V h => refPush_4 _ _ f a n c V (hP.below h) f6 n4
      have rt : ∀ V, Below w.heap.size w V → Calls Tryd.prog 32 #[.agg #[.int .i64 4, .int .i64 (Wn : Int), .int .i64 (Hn : Int), .slice a n c]] V (GasRfT 4 (Wn : Int) (Hn : Int) n ((List.range n).map fun i => (mvF (fun k => tnG 4 2 (f k)) (srcG 4 Wn Hn) i : Int)) V) := fun V h => by
        refine (refTurned_4 Wn Hn f a n c V (hP.below h) he en hW hH hf).mono ?_
        rintro e w' ⟨q, rfl, ha, hb⟩
        exact ⟨some ⟨q, 0, none⟩, n, rfl, ha, hb⟩
      by_cases gc : cs.all cellB = true
      · have gc' := cells_all.2 gc
        by_cases bk : k < 0 ∨ 100000 < k
        · exact law_gf_k4 Wn Hn k cs (List.replicate n 0) _ _ _ _ a n c b m d w hg hC al (by simp) gc' bk rg ck (gf_bad hP hC (rc 1 (by rw [if_pos bk])) (by omega)) ma pu tu rm rp rt
        · obtain ⟨kn, rfl⟩ : ∃ kn : Nat, k = (kn : Int) := ⟨k.toNat, by omega⟩
          have r0 : runGE 4 (Wn : Int) (Hn : Int) ((List.range n).map fun i => (f i : Int)) cs (kn : Int) = 0 := rc 0 (by rw [if_neg bk, if_pos gc, if_neg (fun q => by simp at q)])
          obtain ⟨-, ⟨kn', hkn, hk⟩, hm, cf, hcs, hcf⟩ := runGE_zero r0
          rw [← hC.len] at hcs
          have run : ∀ V, Below w.heap.size w V → Calls Tryd.prog 24 #[.agg #[.int .i64 4, .int .i64 (Wn : Int), .int .i64 (Hn : Int), .slice a n c], .slice b m d, .int .i64 (kn : Int)] V (GasOk 4 (Wn : Int) (Hn : Int) n ((List.range n).map fun i => (flowG 4 Wn Hn 1 (fun _ => 0) f kn i : Int)) V) := fun V h => gasRun_4 Wn Hn f cf a n c b m d kn V (hP.below h) (by rw [← hcs]; exact hC.below h) (by rw [← hcs]; exact r0) en hW hH f6 hcf (by omega)
          have flo : ∀ V, Below w.heap.size w V → Calls Tryd.prog 25 #[.agg #[.int .i64 4, .int .i64 (Wn : Int), .int .i64 (Hn : Int), .slice a n c], .slice b m d, .int .i64 (kn : Int)] V (GasRef 4 (Wn : Int) (Hn : Int) n a ((List.range n).map fun i => (flowG 4 Wn Hn 1 (fun _ => 0) f kn i : Int)) V) := fun V h => by
            by_cases m0 : m = 0
            · exact refFlow_4z Wn Hn f cf a n c b m d kn V (hP.below h) (by rw [← hcs]; exact hC.below h) he en hW hH hf hcf m0 (by omega)
            · exact refFlow_4 Wn Hn f cf a n c b m d kn V (hP.below h) (by rw [← hcs]; exact hC.below h) he en hW hH hf hcf (by omega) (by omega)
          exact law_gf_o4 Wn Hn kn cs _ _ _ _ _ a n c b m d w hg hC al (by simp) gc' (by omega) rg ck run flo ma pu tu rm rp rt
      · exact law_gf_c4 Wn Hn k cs (List.replicate n 0) _ _ _ _ a n c b m d w hg hC al (by simp) (fun q => gc (cells_all.1 q)) rg ck (gf_bad hP hC (rc 1 (by rcases Classical.em (k < 0 ∨ 100000 < k) with q | q; exact if_pos q; exact (if_neg q).trans (if_neg gc))) (by omega)) ma pu tu rm rp rt
    · have f6 : ∀ i, f i ≤ 63 := fun i => by have := hf i; simp at this; omega
      have ma : ∀ V, Below w.heap.size w V → Calls Tryd.prog 27 #[.agg #[.int .i64 6, .int .i64 (Wn : Int), .int .i64 (Hn : Int), .slice a n c]] V (MassE (massN f n : Int) 0 V) := fun V h => mass_good _ _ _ f a n c V (hP.below h) g0 f6 n4
      have pu : ∀ V, Below w.heap.size w V → Calls Tryd.prog 28 #[.agg #[.int .i64 6, .int .i64 (Wn : Int), .int .i64 (Hn : Int), .slice a n c]] V (PushE (pushR 6 f n 6) (pushU 6 f n 6) 0 V) := fun V h => push_6 _ _ f a n c V (hP.below h) g0 f6 n4
      have tu : ∀ V, Below w.heap.size w V → Calls Tryd.prog 29 #[.agg #[.int .i64 6, .int .i64 (Wn : Int), .int .i64 (Hn : Int), .slice a n c]] V (GasOk 6 (Wn : Int) (Hn : Int) n ((List.range n).map fun i => (mvF (fun k => tnG 6 3 (f k)) (srcG 6 Wn Hn) i : Int)) V) := fun V h => gasTurned_6 Wn Hn f a n c V (hP.below h) g0 en hW hH hf
      have rm : ∀ V, Below w.heap.size w V → Calls Tryd.prog 30 #[.agg #[.int .i64 6, .int .i64 (Wn : Int), .int .i64 (Hn : Int), .slice a n c]] V (NumE (massN f n : Int) V) := fun V h => refMass_any _ _ _ f a n c V (hP.below h) f6 n4
      have rp : ∀ V, Below w.heap.size w V → Calls Tryd.prog 31 #[.agg #[.int .i64 6, .int .i64 (Wn : Int), .int .i64 (Hn : Int), .slice a n c]] V (TwoE (pushR 6 f n 6) (pushU 6 f n 6) V) := fun V h => refPush_6 _ _ f a n c V (hP.below h) f6 n4
      have rt : ∀ V, Below w.heap.size w V → Calls Tryd.prog 32 #[.agg #[.int .i64 6, .int .i64 (Wn : Int), .int .i64 (Hn : Int), .slice a n c]] V (GasRfT 6 (Wn : Int) (Hn : Int) n ((List.range n).map fun i => (mvF (fun k => tnG 6 3 (f k)) (srcG 6 Wn Hn) i : Int)) V) := fun V h => by
        refine (refTurned_6 Wn Hn f a n c V (hP.below h) he en hW hH hf).mono ?_
        rintro e w' ⟨q, rfl, ha, hb⟩
        exact ⟨some ⟨q, 0, none⟩, n, rfl, ha, hb⟩
      by_cases gc : cs.all cellB = true
      · have gc' := cells_all.2 gc
        by_cases bk : k < 0 ∨ 100000 < k
        · exact law_gf_k6 Wn Hn k cs (List.replicate n 0) _ _ _ _ a n c b m d w hg hC al (by simp) gc' bk rg ck (gf_bad hP hC (rc 1 (by rw [if_pos bk])) (by omega)) ma pu tu rm rp rt
        · obtain ⟨kn, rfl⟩ : ∃ kn : Nat, k = (kn : Int) := ⟨k.toNat, by omega⟩
          by_cases m0 : m = 0
          · exact law_gf_z6 Wn Hn kn cs (List.replicate n 0) _ _ _ _ a n c b m d w hg hC al (by simp) gc' (by omega) m0 rg ck (gf_bad hP hC (rc 3 (by rw [if_neg bk, if_pos gc, if_pos ⟨rfl, by rw [← hC.len]; exact m0⟩])) (by omega)) ma pu tu rm rp rt
          · have r0 : runGE 6 (Wn : Int) (Hn : Int) ((List.range n).map fun i => (f i : Int)) cs (kn : Int) = 0 := rc 0 (by rw [if_neg bk, if_pos gc, if_neg (fun q => m0 (hC.len.trans q.2))])
            obtain ⟨-, ⟨kn', hkn, hk⟩, hm, cf, hcs, hcf⟩ := runGE_zero r0
            rw [← hC.len] at hcs
            have run : ∀ V, Below w.heap.size w V → Calls Tryd.prog 24 #[.agg #[.int .i64 6, .int .i64 (Wn : Int), .int .i64 (Hn : Int), .slice a n c], .slice b m d, .int .i64 (kn : Int)] V (GasOk 6 (Wn : Int) (Hn : Int) n ((List.range n).map fun i => (flowG 6 Wn Hn m cf f kn i : Int)) V) := fun V h => gasRun_6 Wn Hn f cf a n c b m d kn V (hP.below h) (by rw [← hcs]; exact hC.below h) (by rw [← hcs]; exact r0) en hW hH f6 hcf (by omega) (by omega)
            have flo : ∀ V, Below w.heap.size w V → Calls Tryd.prog 25 #[.agg #[.int .i64 6, .int .i64 (Wn : Int), .int .i64 (Hn : Int), .slice a n c], .slice b m d, .int .i64 (kn : Int)] V (GasRef 6 (Wn : Int) (Hn : Int) n a ((List.range n).map fun i => (flowG 6 Wn Hn m cf f kn i : Int)) V) := fun V h => refFlow_6 Wn Hn f cf a n c b m d kn V (hP.below h) (by rw [← hcs]; exact hC.below h) he en hW hH hf hcf (by omega) (by omega)
            exact law_gf_o6 Wn Hn kn cs _ _ _ _ _ a n c b m d w hg hC al (by simp) gc' (by omega) (by omega) rg ck run flo ma pu tu rm rp rt
      · exact law_gf_c6 Wn Hn k cs (List.replicate n 0) _ _ _ _ a n c b m d w hg hC al (by simp) (fun q => gc (cells_all.1 q)) rg ck (gf_bad hP hC (rc 1 (by rcases Classical.em (k < 0 ∨ 100000 < k) with q | q; exact if_pos q; exact (if_neg q).trans (if_neg gc))) (by omega)) ma pu tu rm rp rt
  · refine law_gf_A K W H (gasE K W H xs) g0 k cs a n c b m d w hg hC (fun V h => refGas_any K W H xs a n c V (hP.below h)) (fun V h => Check_G K W H xs a n c V (hP.below h)) (gf_bad hP hC (by unfold runGE; rw [if_pos g0]) g0) (fun V h => mass_bad K W H xs a n c V (hP.below h) g0) (fun V h => push_bad K W H xs a n c V (hP.below h) g0) (fun V h => gasTurned_bad K W H xs a n c V (hP.below h) g0)
end Go.Proofs.YtbkllhlapdmlfaaDoor

namespace Go.Proofs.YtbkllhlapdmlfaaDoor
open Go.ChangeShapes Go.WideShapes Go.ChangeAt Go.RowKit
open Go.ChangeMaps (setBlock shut_map_nil open_string shut_string keptBut_setBlock frozen?_setBlock heap_setBlock_same)
set_option linter.unusedVariables false

theorem laidOutP : laidOutB Tryd.prog = true := by kernel_rfl
theorem ownP : ownKnob Tryd.prog.godebug = none := by kernel_rfl
theorem errorTypeAtP : Tryd.prog.globalNamed "errors.errorType" = some 0 := by kernel_rfl
theorem rtypeAtP : (Tryd.prog.cutTypes.find? (·.1 == "internal/reflectlite.rtype")).map (·.2) = some 238 := by kernel_rfl
theorem oneRowP : ((List.range 312).filter fun t => Tryd.prog.rowNamed t [101, 114, 114, 111, 114]) = [31] := by kernel_rfl
theorem typesSizeP : Tryd.prog.types.size = 312 := by kernel_rfl

/-- What the condition on the listed variable gives a walk: its one cell. -/
theorem handle_laid {W : World} (h : handlesMet Tryd.prog [("errors.errorType", Rows.laid_errors_errorType)] W) : Handle W := by
  obtain ⟨name, u, ty, e1, e2, e3, e4, e5⟩ := h _ (List.mem_singleton.2 rfl)
  have en : name = [101, 114, 114, 111, 114] := (Option.some.inj e1).symm
  subst en
  obtain rfl := Option.some.inj (rtypeAtP.symm.trans e2)
  have hm : ty ∈ (List.range 312).filter fun t => Tryd.prog.rowNamed t [101, 114, 114, 111, 114] := List.mem_filter.2 ⟨List.mem_range.2 (by rw [← typesSizeP]; exact e3), e4⟩
  rw [oneRowP] at hm
  obtain rfl := List.mem_singleton.1 hm
  have hh : typeHandle Tryd.prog 31 = .pointer (some ⟨2, 31, none⟩) := by kernel_rfl
  rw [hh] at e5
  simpa [Handle] using World.var?_cell errorTypeAtP e5 0

/-- The variable's cell laid. -/
def layBlockP (o : Obj) : Obj := match o with
  | .cells _ t frozen => .cells #[.iface 238 (.agg #[.pointer (some ⟨2, 31, none⟩)])] t frozen
  | o => o
def layWorldP (w : World) : World := { w with heap := w.heap.modify 0 layBlockP }

/-- A list of ints as it is read. -/
theorem ints_arg {H : Type} {enc : TypeId × Value → H} {W : World} {fuel : Nat} {cs : List Value} {x : DataW H × List MemPlace}
    (h : DataW.trod enc Tryd.prog W 0 (fun _ => true) true fuel 22 cs = some x) :
    ∃ (xs : List Int) (a : Option Addr) (c : Nat), cs = [.slice a xs.length c] ∧ ArgP W xs a xs.length c ∧ xs.length ≤ c ∧ c ≤ maxLen := by
  have q3 : Tryd.prog.cellsOf 3 = 1 := by kernel_rfl
  rcases open_ints Tryd.underlying22 Tryd.underlying3 q3 h with ⟨rfl, -⟩ | ⟨a, len, cap, zs, rfl, hb, hlc, hcm, hzl, -, hcell, hwf⟩
  · exact ⟨[], none, 0, rfl, ⟨rfl, by simp, fun k hk => absurd hk (by simp)⟩, by simp, by simp⟩
  · simp only [if_true] at hzl
    have hl : (zs.take len).length = len := by simp; omega
    refine ⟨zs.take len, some a, cap, by rw [hl], ⟨rfl, by omega, fun k hk => ?_⟩, by omega, hcm⟩
    have hk' : k < len ∧ k < zs.length := by simp only [List.length_take] at hk; omega
    have hc0 := hcell 0 (by omega)
    have hck := hcell k hk'.2
    obtain ⟨g, off, sp⟩ := a
    have hsp : sp = none := by
      cases sp with
      | none => rfl
      | some q =>
        exfalso
        simp [Addr.add, World.cell?] at hc0
        split at hc0 <;> simp at hc0
    subst hsp
    have ea : (⟨g, off, none⟩ : Addr).add k = ⟨g, off + k, none⟩ := by
      unfold Addr.add
      split
      · rename_i hz; subst hz; rfl
      · rfl
    rw [ea] at hck
    refine ⟨g, off, rfl, ?_, ?_⟩
    · rcases Nat.lt_or_ge g W.heap.size with q | q
      · exact q
      · simp [World.cell?, Array.getElem?_eq_none q] at hck
    · rw [hck]
      simp [List.getD, hk'.2]

set_option maxRecDepth 100000 in
/-- A list of ints that came in. -/
theorem open_list {H : Type} {enc : TypeId × Value → H} {W : World} {base : Nat} {v : Value} {d : DataW H} {p : List MemPlace}
    (hv : Value.okWide Tryd.prog W .any base 22 v) (h : DataW.Trod enc Tryd.prog W 0 (fun _ => true) true 22 v d p) :
    ∃ (xs : List Int) (a : Option Addr) (c : Nat), v = .slice a xs.length c ∧ ArgP W xs a xs.length c ∧ xs.length ≤ c ∧ c ≤ maxLen := by
  obtain ⟨a0, n0, c0, rfl⟩ := okWide_slice Tryd.underlying22 hv
  obtain ⟨fuel, h⟩ := h
  obtain ⟨xs, a, c, e, ha, h1, h2⟩ := ints_arg h
  simp [Value.cells] at e
  obtain ⟨rfl, rfl, rfl⟩ := e
  exact ⟨xs, _, _, rfl, ha, h1, h2⟩
end Go.Proofs.YtbkllhlapdmlfaaDoor

namespace Go.Proofs.YtbkllhlapdmlfaaDoor
open Go.ChangeShapes Go.WideShapes Go.ChangeAt Go.RowKit
open Go.ChangeMaps (setBlock shut_map_nil open_string shut_string keptBut_setBlock frozen?_setBlock heap_setBlock_same)
set_option linter.unusedVariables false
set_option maxRecDepth 100000 in
/-- A gas that came in. -/
theorem open_gas {H : Type} {enc : TypeId × Value → H} {W : World} {base : Nat} {v : Value} {d : DataW H} {p : List MemPlace}
    (hv : Value.okWide Tryd.prog W .any base 49 v) (h : DataW.Trod enc Tryd.prog W 0 (fun _ => true) true 49 v d p) :
    ∃ (kk w h : Int) (xs : List Int) (a : Option Addr) (c : Nat), v = .agg #[.int .i64 kk, .int .i64 w, .int .i64 h, .slice a xs.length c] ∧ ArgP W xs a xs.length c ∧ xs.length ≤ c ∧ c ≤ maxLen := by
  obtain ⟨cs, rfl, hsz⟩ := okWide_struct Tryd.underlying49 hv
  obtain ⟨fuel, h⟩ := h
  obtain ⟨xs, m, _, hx, hl, hlen, hf⟩ := DataW.trod_struct Tryd.underlying49 h
  have f0 := hf 0 _ rfl
  have f1 := hf 1 _ rfl
  have f2 := hf 2 _ rfl
  have f3 := hf 3 _ rfl
  clear hf hx h hv hl
  have q3 : Tryd.prog.cellsOf 3 = 1 := by kernel_rfl
  have k22 : Tryd.prog.cellsOf 22 = 1 := by kernel_rfl
  rw [show Tryd.prog.cellsOf 49 = 4 by kernel_rfl] at hsz
  obtain ⟨cl⟩ := cs
  match cl, hsz with
  | [c0, c1, c2, c3], _ =>
  match xs, hlen with
  | [y0, y1, y2, y3], _ =>
  simp [Value.cells, q3, k22] at f0 f1 f2 f3
  obtain ⟨k0, e0, -, w0⟩ := DataW.trod_int Tryd.underlying3 f0
  obtain ⟨k1, e1, -, w1⟩ := DataW.trod_int Tryd.underlying3 f1
  obtain ⟨k2, e2, -, w2⟩ := DataW.trod_int Tryd.underlying3 f2
  obtain ⟨zs, a, c, e3, ha, h1, h2⟩ := ints_arg f3
  simp only [List.cons.injEq, and_true] at e0 e1 e2 e3
  subst e0 e1 e2 e3
  exact ⟨k0, k1, k2, zs, a, c, rfl, ha, h1, h2⟩
end Go.Proofs.YtbkllhlapdmlfaaDoor

