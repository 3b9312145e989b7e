/-
  What the last text of this claim leans on, part 2: As, Err, Er1, Wa1, Wa2, Wb1, Qa1, Pa7, Pa8, Jumps, Pa9, Pa10, Qa2, Wb2, Wb3, Wc1, DSpec.
-/
import Derived.Test.YtjngjnkecnnmeaaDoorProg
import Derived.Test.YtjngjnkecnnmeaaDoorJ1
import Derived.WalkKit
import Derived.LaidEql
import Derived.Stop.Asserts
import Derived.RowKitTokens
import Derived.WalkSpells
import Derived.WalkLawsBesides
import Derived.Scope
import Derived.WalkMore
import Derived.Laws.RangeAny
namespace Go.Proofs.YtjngjnkecnnmeaaDoor
open Go.RowKit Go.Extern.Stop Go.Stop Go.Extern

/-- errors.As(nil, target). -/
theorem as_nil (t : Value) (w : World) :
    Calls Tryd.prog 109 #[.nilIface, t] w fun e w' => e = .returned (.bool false) ∧ w' = w := by
  go_enter Tryd.func109, Tryd.ntmps109
  go_wp2
  go_ret
  exact ⟨rfl, rfl⟩

theorem valueOfP (t : Addr) (w : World) : (ReflectliteValue.unpack (.iface 137 (.pointer (some t)))).run Tryd.prog w
    = .ok (.agg #[.pointer (some ⟨4, 137, none⟩), .pointer (some ⟨w.heap.size, 0, none⟩), .int .u64 150]) (w.alloc (.cells #[.pointer (some t)] 137)) := by kernel_rfl
theorem typeP (a : Addr) (w : World) : (ReflectliteValue.methodAny (ReflectliteValue.valueError "reflectlite.Value.Type" 0) (fun t _ _ _ => ReflectliteType.toType t) #[.agg #[.pointer (some ⟨4, 137, none⟩), .pointer (some a), .int .u64 150]]).run Tryd.prog w
    = .ok (.iface 178 (.agg #[.pointer (some ⟨4, 137, none⟩)])) w := by kernel_rfl
theorem kindP (w : World) : ((ReflectliteType.abiMethod fun t => Functor.map (fun a : Nat => Value.int IntKind.u8 (a : Int)) (Rtype.kind t)) #[.pointer (some ⟨4, 137, none⟩)]).run Tryd.prog w = .ok (.int .u8 22) w := by kernel_rfl
theorem kindE (w : World) : ((ReflectliteType.abiMethod fun t => Functor.map (fun a : Nat => Value.int IntKind.u8 (a : Int)) (Rtype.kind t)) #[.pointer (some ⟨4, 87, none⟩)]).run Tryd.prog w = .ok (.int .u8 2) w := by kernel_rfl
theorem methodKind (h : Value) (w : World) : (Go.method 331 178 (.agg #[h]) "Kind").run Tryd.prog w = .ok (188, h) w := by kernel_rfl

theorem rlm (z : Sem Value) (f : TypeId → Addr → Nat → Nat → Sem Value) (v : Value) :
    ReflectliteValue.method z f #[v] = (do match ← ReflectliteValue.parts v with | none => z | some (t, a, fl) => f t a fl (fl % 32)) := rfl
theorem partsP (a : Addr) (w : World) : (ReflectliteValue.parts (.agg #[.pointer (some ⟨4, 137, none⟩), .pointer (some a), .int .u64 150])).run Tryd.prog w = .ok (some (137, a, 150)) w := by kernel_rfl
theorem isNilP (a p : Addr) (W : World) (ha : W.cell? a = some (.pointer (some p))) :
    (ReflectliteValue.method (ReflectliteValue.valueError "reflectlite.Value.IsNil" 0) ReflectliteValue.isNil #[.agg #[.pointer (some ⟨4, 137, none⟩), .pointer (some a), .int .u64 150]]).run Tryd.prog W = .ok (.bool false) W := by
  rw [rlm]
  simp only [Sem.run_bind, partsP, Result.andThen]
  simp [ReflectliteValue.isNil, loadVar, isAgg, underlying, Tryd.underlying137, ha, Result.andThen]

theorem methodElem (h : Value) (w : World) : (Go.method 331 178 (.agg #[h]) "Elem").run Tryd.prog w = .ok (199, .agg #[h]) w := by kernel_rfl
theorem methodImplements (h : Value) (w : World) : (Go.method 331 178 (.agg #[h]) "Implements").run Tryd.prog w = .ok (200, .agg #[h]) w := by kernel_rfl
theorem methodAssignableTo (h : Value) (w : World) : (Go.method 331 178 (.agg #[h]) "AssignableTo").run Tryd.prog w = .ok (197, .agg #[h]) w := by kernel_rfl
theorem elemP (w : World) : (ReflectliteType.method ReflectliteType.elem #[.agg #[.pointer (some ⟨4, 137, none⟩)]]).run Tryd.prog w = .ok (.iface 178 (.agg #[.pointer (some ⟨4, 87, none⟩)])) w := by kernel_rfl
theorem implementsE (w : World) : (ReflectliteType.relation "Implements" ReflectliteType.implements_ #[.agg #[.pointer (some ⟨4, 87, none⟩)], .iface 178 (.agg #[.pointer (some ⟨4, 26, none⟩)])]).run Tryd.prog w = .ok (.bool true) w := by kernel_rfl
theorem typeOfE (v : Value) (w : World) : (ReflectliteType.typeOf #[.iface 87 v]).run Tryd.prog w = .ok (.iface 178 (.agg #[.pointer (some ⟨4, 87, none⟩)])) w := by kernel_rfl
theorem assignableE (w : World) : (ReflectliteType.relation "AssignableTo" ReflectliteType.assignableTo #[.agg #[.pointer (some ⟨4, 87, none⟩)], .iface 178 (.agg #[.pointer (some ⟨4, 87, none⟩)])]).run Tryd.prog w = .ok (.bool true) w := by kernel_rfl
theorem valueOfE (n : Int) (w : World) : (ReflectliteValue.unpack (.iface 87 (.int .i64 n))).run Tryd.prog w
    = .ok (.agg #[.pointer (some ⟨4, 87, none⟩), .pointer (some ⟨w.heap.size, 0, none⟩), .int .u64 130]) (w.alloc (.cells #[.int .i64 n] 87)) := by kernel_rfl
theorem elemOfP (w : World) : (Rtype.elem? 137).run Tryd.prog w = .ok (some 87) w := by kernel_rfl
theorem mkE (p : Addr) (w : World) : (ReflectliteValue.mk 87 p ReflectliteValue.flagAddr).run Tryd.prog w = .ok (.agg #[.pointer (some ⟨4, 87, none⟩), .pointer (some p), .int .u64 386]) w := by kernel_rfl
theorem elemVP (a p : Addr) (W : World) (ha : W.cell? a = some (.pointer (some p))) :
    (ReflectliteValue.method (ReflectliteValue.valueError "reflectlite.Value.Elem" 0) ReflectliteValue.elem #[.agg #[.pointer (some ⟨4, 137, none⟩), .pointer (some a), .int .u64 150]]).run Tryd.prog W
      = .ok (.agg #[.pointer (some ⟨4, 87, none⟩), .pointer (some p), .int .u64 386]) W := by
  rw [rlm]
  simp only [Sem.run_bind, partsP, Result.andThen]
  simp [ReflectliteValue.elem, loadVar, isAgg, underlying, Tryd.underlying137, ha, Result.andThen, elemOfP, mkE]
theorem rls (v x : Value) : ReflectliteValue.set #[v, x] = (do
    let (some (dst, a, fl), some (src, b, _)) := (← ReflectliteValue.parts v, ← ReflectliteValue.parts x)
      | unsupported (.noEntry "extern/(internal/reflectlite.Value).Set.zeroValue")
    if fl / ReflectliteValue.flagAddr % 2 == 0 then unsupported (.noEntry "extern/(internal/reflectlite.Value).Set.unaddressable")
    let val ← loadVar src b
    if ← Rtype.directlyAssignable dst src then storeVar dst a val
    else if ← Rtype.implements dst src then
      if (← Rtype.kind src) == 20 then
        match val with
        | .nilIface => unsupported (.noEntry "extern/reflectlite: a nil value of one interface type handed on as a value of another")
        | _ => storeVar dst a val
      else storeVar dst a (.iface src val)
    else panicString ("reflectlite.Set: value of type " ++ (← Rtype.spelt src) ++ " is not assignable to type " ++ (← Rtype.spelt dst))
    pure (.tuple #[])) := rfl
theorem partsEa (a : Addr) (w : World) : (ReflectliteValue.parts (.agg #[.pointer (some ⟨4, 87, none⟩), .pointer (some a), .int .u64 386])).run Tryd.prog w = .ok (some (87, a, 386)) w := by kernel_rfl
theorem partsE (a : Addr) (w : World) : (ReflectliteValue.parts (.agg #[.pointer (some ⟨4, 87, none⟩), .pointer (some a), .int .u64 130])).run Tryd.prog w = .ok (some (87, a, 130)) w := by kernel_rfl
theorem directE (w : World) : (Rtype.directlyAssignable 87 87).run Tryd.prog w = .ok true w := by kernel_rfl
theorem setE (ta b : Addr) (n : Int) (old : Value) (W : World) (hb : W.cell? b = some (.int .i64 n)) (ht : W.cell? ta = some old) (hf : W.frozen? ta = false) :
    (ReflectliteValue.set #[.agg #[.pointer (some ⟨4, 87, none⟩), .pointer (some ta), .int .u64 386], .agg #[.pointer (some ⟨4, 87, none⟩), .pointer (some b), .int .u64 130]]).run Tryd.prog W
      = .ok (.tuple #[]) (W.setCell ta (.int .i64 n)) := by
  rw [rls]
  simp only [Sem.run_bind, partsEa, partsE, Result.andThen]
  simp [ReflectliteValue.flagAddr, loadVar, isAgg, underlying, Tryd.underlying87, hb, Result.andThen, directE, storeVar, Value.cells, storeCells, Addr.add]
  rw [run_store Tryd.prog W ta _ _ (by rfl)]
  simp [ht, hf]

set_option maxRecDepth 100000 in
set_option maxHeartbeats 4000000 in
/-- errors.As of an Errno, the target a variable of type Errno: true, and it holds the number. -/
theorem as_hit (n : Int) (t : Addr) (old : Value) (w : World) (hg : w.cell? ⟨0, 0, none⟩ = some (.iface 178 (.agg #[.pointer (some ⟨4, 26, none⟩)]))) (ht0 : w.cell? t = some old) (hf0 : w.frozen? t = false) :
    Calls Tryd.prog 109 #[.iface 87 (.int .i64 n), .iface 137 (.pointer (some t))] w fun ev w' => ev = .returned (.bool true) ∧ w' = ((((w.alloc (.cells #[.pointer (some t)] 137)).alloc (.cells #[.pointer (some ⟨4, 137, none⟩), .pointer (some ⟨w.heap.size, 0, none⟩), .int .u64 150] 161)).alloc (.cells #[.pointer (some ⟨4, 137, none⟩), .pointer (some ⟨w.heap.size, 0, none⟩), .int .u64 150] 161)).alloc (.cells #[.int .i64 n] 87)).setCell t (.int .i64 n) := by
  have h6 := @run_callFunc_extern Tryd.prog 144 _ (fun args => ReflectliteValue.unpack (args.getD 0 (.tuple #[]))) Tryd.func144 (by kernel_rfl) (by kernel_rfl) (by kernel_rfl) (by kernel_rfl)
  have h7 := @run_callFunc_extern Tryd.prog 145 _ (ReflectliteValue.methodAny (ReflectliteValue.valueError "reflectlite.Value.Type" 0) (fun t _ _ _ => ReflectliteType.toType t)) Tryd.func145 (by kernel_rfl) (by kernel_rfl) (by kernel_rfl) (by kernel_rfl)
  have h8 := @run_callFunc_extern Tryd.prog 146 _ (ReflectliteValue.method (ReflectliteValue.valueError "reflectlite.Value.IsNil" 0) ReflectliteValue.isNil) Tryd.func146 (by kernel_rfl) (by kernel_rfl) (by kernel_rfl) (by kernel_rfl)
  have h27 := @run_callFunc_extern Tryd.prog 188 _ (ReflectliteType.abiMethod fun t => do pure (.int .u8 (← Rtype.kind t))) Tryd.func188 (by kernel_rfl) (by kernel_rfl) (by kernel_rfl) (by kernel_rfl)
  have h37 := @run_callFunc_extern Tryd.prog 199 _ (ReflectliteType.method ReflectliteType.elem) Tryd.func199 (by kernel_rfl) (by kernel_rfl) (by kernel_rfl) (by kernel_rfl)
  have h38 := @run_callFunc_extern Tryd.prog 200 _ (ReflectliteType.relation "Implements" ReflectliteType.implements_) Tryd.func200 (by kernel_rfl) (by kernel_rfl) (by kernel_rfl) (by kernel_rfl)
  have h10 := @run_callFunc_extern Tryd.prog 159 _ ReflectliteType.typeOf Tryd.func159 (by kernel_rfl) (by kernel_rfl) (by kernel_rfl) (by kernel_rfl)
  have h35 := @run_callFunc_extern Tryd.prog 197 _ (ReflectliteType.relation "AssignableTo" ReflectliteType.assignableTo) Tryd.func197 (by kernel_rfl) (by kernel_rfl) (by kernel_rfl) (by kernel_rfl)
  have h11 := @run_callFunc_extern Tryd.prog 160 _ (ReflectliteValue.method (ReflectliteValue.valueError "reflectlite.Value.Elem" 0) ReflectliteValue.elem) Tryd.func160 (by kernel_rfl) (by kernel_rfl) (by kernel_rfl) (by kernel_rfl)
  have h12 := @run_callFunc_extern Tryd.prog 161 _ ReflectliteValue.set Tryd.func161 (by kernel_rfl) (by kernel_rfl) (by kernel_rfl) (by kernel_rfl)
  have tO := typeOfE
  have mA := methodAssignableTo
  have a25 := assignableE
  have v25 := valueOfE
  have f6 := valueOfP
  have f7 := typeP
  have mK := methodKind
  have mE := methodElem
  have mI := methodImplements
  have k27 := kindP
  have k25 := kindE
  have e27 := elemP
  have i25 := implementsE
  have n8 := isNilP ⟨w.heap.size, 0, none⟩ t ((w.alloc (.cells #[.pointer (some t)] 137)).alloc (.cells #[.pointer (some ⟨4, 137, none⟩), .pointer (some ⟨w.heap.size, 0, none⟩), .int .u64 150] 161)) (by simp)
  have hlt : 0 < w.heap.size := by
    rcases Nat.lt_or_ge 0 w.heap.size with h | h
    · exact h
    · simp [World.cell?, Array.getElem?_eq_none h] at hg
  have hg2 : ((w.alloc (.cells #[.pointer (some t)] 137)).alloc (.cells #[.pointer (some ⟨4, 137, none⟩), .pointer (some ⟨w.heap.size, 0, none⟩), .int .u64 150] 161)).cell? ⟨0, 0, none⟩ = some (.iface 178 (.agg #[.pointer (some ⟨4, 26, none⟩)])) := by
    rw [World.cell?_alloc_lt _ _ ⟨0, 0, none⟩ (by simp <;> omega), World.cell?_alloc_lt _ _ ⟨0, 0, none⟩ hlt]; exact hg
  have htl : t.block < w.heap.size := by
    rcases Nat.lt_or_ge t.block w.heap.size with h | h
    · exact h
    · simp [World.cell?, Array.getElem?_eq_none h] at ht0
  have el := elemVP ⟨w.heap.size, 0, none⟩ t (((w.alloc (.cells #[.pointer (some t)] 137)).alloc (.cells #[.pointer (some ⟨4, 137, none⟩), .pointer (some ⟨w.heap.size, 0, none⟩), .int .u64 150] 161)).alloc (.cells #[.pointer (some ⟨4, 137, none⟩), .pointer (some ⟨w.heap.size, 0, none⟩), .int .u64 150] 161)) (by rw [World.cell?_alloc_lt _ _ ⟨w.heap.size, 0, none⟩ (by simp; omega)]; simp)
  have st := setE t ⟨w.heap.size + 1 + 1 + 1, 0, none⟩ n old ((((w.alloc (.cells #[.pointer (some t)] 137)).alloc (.cells #[.pointer (some ⟨4, 137, none⟩), .pointer (some ⟨w.heap.size, 0, none⟩), .int .u64 150] 161)).alloc (.cells #[.pointer (some ⟨4, 137, none⟩), .pointer (some ⟨w.heap.size, 0, none⟩), .int .u64 150] 161)).alloc (.cells #[.int .i64 n] 87))
    (by rw [World.cell?_alloc_at _ _ _ _ (by simp)]; rfl)
    (by rw [World.cell?_alloc_lt _ _ t (by simp; omega), World.cell?_alloc_lt _ _ t (by simp; omega), World.cell?_alloc_lt _ _ t (by simp; omega), World.cell?_alloc_lt _ _ t htl]; exact ht0)
    (by rw [World.frozen?_alloc_old _ _ t (by simp; omega), World.frozen?_alloc_old _ _ t (by simp; omega), World.frozen?_alloc_old _ _ t (by simp; omega), World.frozen?_alloc_old _ _ t (Nat.ne_of_lt htl)]; exact hf0)
  go_enter Tryd.func109, Tryd.ntmps109
  go_wp2
  refine wp_loop_rounds 1 ?_
  rw [rounds_succ]
  go_wp2
  go_ret
  exact ⟨rfl, rfl⟩
end Go.Proofs.YtjngjnkecnnmeaaDoor

namespace Go.Proofs.YtjngjnkecnnmeaaDoor
open Go.RowKit

theorem told_nil (w : World) :
    Calls Tryd.prog 61 #[.nilIface] w fun e w' => e = .returned (.int .i64 0) ∧ w' = w := by
  go_enter Tryd.func61, Tryd.ntmps61
  go_wp2
  go_ret
  exact ⟨rfl, rfl⟩

/-- The cell of errors.errorType holds the handle of the type error. -/
def Handle (w : World) : Prop := w.cell? ⟨0, 0, none⟩ = some (.iface 178 (.agg #[.pointer (some ⟨4, 26, none⟩)]))

theorem Handle.lt {w : World} (hg : Handle w) : 0 < w.heap.size := by
  unfold Handle at hg
  rcases Nat.lt_or_ge 0 w.heap.size with h | h
  · exact h
  · simp [World.cell?, Array.getElem?_eq_none h] at hg

theorem Handle.below {w w' : World} (hg : Handle w) (h : Below w.heap.size w w') : Handle w' := by
  have := hg.lt
  unfold Handle at hg ⊢
  rw [h.cell (p := ⟨0, 0, none⟩) this]; exact hg

set_option maxHeartbeats 1000000 in
theorem told_errno (n : Int) (w : World) (hg : Handle w) :
    Calls Tryd.prog 61 #[.iface 87 (.int .i64 n)] w fun e w' => e = .returned (.int .i64 n) ∧ Below w.heap.size w w' := by
  have hlt := hg.lt
  have hgA : (w.alloc (.cells #[.int .i64 0] 87)).cell? ⟨0, 0, none⟩ = some (.iface 178 (.agg #[.pointer (some ⟨4, 26, none⟩)])) := by
    rw [World.cell?_alloc_lt _ _ ⟨0, 0, none⟩ hlt]; exact hg
  have htA : (w.alloc (.cells #[.int .i64 0] 87)).cell? ⟨w.heap.size, 0, none⟩ = some (.int .i64 0) := by simp
  have hfA : (w.alloc (.cells #[.int .i64 0] 87)).frozen? ⟨w.heap.size, 0, none⟩ = false := by simp
  clear hg hlt
  go_enter Tryd.func61, Tryd.ntmps61
  go_wp2_with (go_at_call 109; refine (as_hit _ _ (.int .i64 0) _ hgA htA hfA).mono ?_; rintro e w' ⟨rfl, rfl⟩)
  go_ret
  refine ⟨rfl, ?_⟩
  repeat (first | exact Below.refl _ _ | refine Below.setCell ?_ (by simp) _ | refine Below.alloc ?_ (by simp; try omega) _)

set_option maxHeartbeats 400000 in
theorem error_nil (n : Int) (w : World) :
    Calls Tryd.prog 15 #[.nilIface, .int .i64 n] w fun e w' => e = .returned (.bool (0 == n)) ∧ w' = w := by
  go_enter Tryd.func15, Tryd.ntmps15
  go_wp2_with (go_at_call 61; refine (told_nil _).mono ?_; rintro e w' ⟨rfl, rfl⟩)
  go_ret
  exact ⟨rfl, rfl⟩

set_option maxHeartbeats 400000 in
theorem error_errno (k n : Int) (w : World) (hg : Handle w) :
    Calls Tryd.prog 15 #[.iface 87 (.int .i64 k), .int .i64 n] w fun e w' => e = .returned (.bool (k == n)) ∧ Below w.heap.size w w' := by
  go_enter Tryd.func15, Tryd.ntmps15
  go_wp2_with (go_at_call 61; refine (told_errno k _ hg).mono ?_; rintro e w' ⟨rfl, hb⟩)
  go_ret
  exact ⟨rfl, hb⟩
end Go.Proofs.YtjngjnkecnnmeaaDoor

namespace Go.Proofs.YtjngjnkecnnmeaaDoor
open Go.RowKit
set_option linter.unusedVariables false

theorem err_nil_true (w : World) : Calls Tryd.prog 15 #[.nilIface, .int .i64 0] w fun e w' => e = .returned (.bool true) ∧ Below w.heap.size w w' :=
  (error_nil 0 w).mono fun e w' ⟨h1, h2⟩ => ⟨h1, by rw [h2]; exact Below.refl _ _⟩
theorem err_some_true (k : Int) (w : World) (hg : Handle w) : Calls Tryd.prog 15 #[.iface 87 (.int .i64 k), .int .i64 k] w fun e w' => e = .returned (.bool true) ∧ Below w.heap.size w w' :=
  (error_errno k k w hg).mono fun e w' ⟨h1, h2⟩ => ⟨by rw [h1]; simp, h2⟩
theorem tab_nil (w : World) : Tab w (.slice none 0 0) [] := Or.inl ⟨rfl, rfl⟩

theorem stored_block (w : World) (p q : Nat) (a b c : Value) (h : q ≠ p) : (((w.setCell ⟨p, 0, none⟩ a).setCell ⟨p, 1, none⟩ b).setCell ⟨p, 2, none⟩ c).heap[q]? = w.heap[q]? :=
  (Below.heap_setCell _ _ _ _ h).trans ((Below.heap_setCell _ _ _ _ h).trans (Below.heap_setCell _ _ _ _ h))
theorem tab_stored {w : World} {v : Value} {xs : List Int} (h : Tab w v xs) (p : Nat) (a b c : Value) (hp : p < w.heap.size) (hv : ∀ g k cap, v = .slice (some ⟨g, 0, none⟩) k cap → g ≠ p) : Tab (((w.setCell ⟨p, 0, none⟩ a).setCell ⟨p, 1, none⟩ b).setCell ⟨p, 2, none⟩ c) v xs := by
  rcases h with h | ⟨g, cap, e, hg, hc⟩
  · exact Or.inl h
  · exact Or.inr ⟨g, cap, e, by rw [World.size_setCell, World.size_setCell, World.size_setCell]; exact hg, fun k hk => (World.cell?_of_block (w := w) (a := ⟨g, k, none⟩) (stored_block w p g a b c (hv g _ _ e))).trans (hc k hk)⟩
theorem tab_below {w w' : World} {v : Value} {xs : List Int} (h : Tab w v xs) (hb : Below w.heap.size w w') : Tab w' v xs := by
  rcases h with h | ⟨g, cap, hv, hg, hc⟩
  · exact Or.inl h
  · exact Or.inr ⟨g, cap, hv, Nat.lt_of_lt_of_le hg hb.size, fun k hk => (World.cell?_of_block (w := w) (a := ⟨g, k, none⟩) (hb.block g hg)).trans (hc k hk)⟩
theorem below_stored {B : Nat} {w w' : World} (h : Below B w w') (p : Nat) (hp : B ≤ p) (a b c : Value) : Below B w (((w'.setCell ⟨p, 0, none⟩ a).setCell ⟨p, 1, none⟩ b).setCell ⟨p, 2, none⟩ c) :=
  ((h.setCell hp _).setCell hp _).setCell hp _
theorem stored_size (w : World) (p : Nat) (a b c : Value) : (((w.setCell ⟨p, 0, none⟩ a).setCell ⟨p, 1, none⟩ b).setCell ⟨p, 2, none⟩ c).heap.size = w.heap.size := by
  rw [World.size_setCell, World.size_setCell, World.size_setCell]

end Go.Proofs.YtjngjnkecnnmeaaDoor

namespace Go.Proofs.YtjngjnkecnnmeaaDoor
open Go.RowKit
set_option linter.unusedVariables false

/-- A pattern that came in, as a value: its cells anywhere. -/
structure ArgP (w : World) (xs : List Int) (a : Option Addr) (n c : Nat) : Prop where
  len : n = xs.length
  max : n ≤ maxLen
  cells : ∀ k (h : k < xs.length), ∃ g off, a = some ⟨g, off, none⟩ ∧ g < w.heap.size ∧ w.cell? ⟨g, off + k, none⟩ = some (.int .i64 xs[k])
theorem ArgP.below {w w' : World} {xs : List Int} {a : Option Addr} {n c : Nat} (h : ArgP w xs a n c) (hb : Below w.heap.size w w') : ArgP w' xs a n c :=
  ⟨h.len, h.max, fun k hk => by
    obtain ⟨g, off, e, hg, hc⟩ := h.cells k hk
    exact ⟨g, off, e, Nat.lt_of_lt_of_le hg hb.size, (World.cell?_of_block (w := w) (a := ⟨g, off + k, none⟩) (hb.block g hg)).trans hc⟩⟩
theorem ArgP.alloc {w : World} {xs : List Int} {a : Option Addr} {n c : Nat} (h : ArgP w xs a n c) (x : Obj) : ArgP (w.alloc x) xs a n c :=
  h.below ((Below.refl _ _).alloc (Nat.le_refl _) _)

def cellB (x : Int) : Bool := decide (x = 0) || decide (x = 1)
def shapeF (W H : Int) (xs : List Int) : Nat :=
  if sideB W && sideB H then (if (xs.length : Int) = W * H then (if xs.all cellB then 0 else 1) else 3) else 1

def errOf (f : Nat) : Value := if f = 0 then .nilIface else .iface 87 (.int .i64 (f : Int))

theorem side_nat {W : Int} (h : sideB W = true) : ∃ n : Nat, W = (n : Int) ∧ n ≤ 100 := by
  unfold sideB at h
  simp at h
  exact ⟨W.toNat, by omega, by omega⟩
theorem side_no {W : Int} (h : sideB W = false) : W < 0 ∨ 100 < W := by
  unfold sideB at h
  simp at h
  omega
theorem all_bad {xs : List Int} {k : Nat} (hk : k < xs.length) (h : cellB xs[k] = false) : xs.all cellB = false := by
  cases q : xs.all cellB with
  | false => rfl
  | true => rw [List.all_eq_true.1 q _ (List.getElem_mem hk)] at h; cases h
theorem all_ok {xs : List Int} (h : ∀ k (hk : k < xs.length), cellB xs[k] = true) : xs.all cellB = true := by
  rw [List.all_eq_true]
  intro x hx
  obtain ⟨k, hk, rfl⟩ := List.getElem_of_mem hx
  exact h k hk
theorem cellB_iff (x : Int) : cellB x = true ↔ x = 0 ∨ x = 1 := by simp [cellB]

set_option maxHeartbeats 1600000 in
theorem Check_P (W H : Int) (xs : List Int) (a : Option Addr) (n c : Nat) (w : World) (hP : ArgP w xs a n c) :
    Calls Tryd.prog 27 #[.agg #[.int .i64 W, .int .i64 H, .slice a n c]] w fun e w' => e = .returned (errOf (shapeF W H xs)) ∧ Below w.heap.size w w' := by
  have HP := hide' (hP.alloc (.cells #[.int .i64 W, .int .i64 H, .slice a n c] 51))
  have hlen := hP.len
  have hmax := hP.max
  have HL := hide' hlen
  unfold maxLen at hmax
  clear hP hlen
  cases s1 : sideB W with
  | false =>
    have F := hide' (show errOf (shapeF W H xs) = .iface 87 (.int .i64 1) by unfold shapeF; rw [s1]; rfl)
    go_enter Tryd.func27, Tryd.ntmps27
    go_wp2_with fail
    refine (pisSide W _).mono ?_
    rw [s1]
    rintro e w1 ⟨rfl, rfl⟩
    go_wp2
    go_ret
    rw [F.out]
    exact ⟨rfl, (Below.refl _ _).alloc (Nat.le_refl _) _⟩
  | true =>
    cases s2 : sideB H with
    | false =>
      have F := hide' (show errOf (shapeF W H xs) = .iface 87 (.int .i64 1) by unfold shapeF; rw [s1, s2]; rfl)
      go_enter Tryd.func27, Tryd.ntmps27
      go_wp2_with fail
      refine (pisSide W _).mono ?_
      rw [s1]
      rintro e w1 ⟨rfl, rfl⟩
      go_wp2_with fail
      refine (pisSide H _).mono ?_
      rw [s2]
      rintro e w1 ⟨rfl, rfl⟩
      go_wp2
      go_ret
      rw [F.out]
      exact ⟨rfl, (Below.refl _ _).alloc (Nat.le_refl _) _⟩
    | true =>
      obtain ⟨Wn, rfl, lW⟩ := side_nat s1
      obtain ⟨Hn, rfl, lH⟩ := side_nat s2
      obtain ⟨N, hN⟩ : ∃ N, Wn * Hn = N := ⟨_, rfl⟩
      have hNi : (Wn : Int) * (Hn : Int) = (N : Int) := by rw [← hN]; simp
      have hN4 : N ≤ 10000 := by rw [← hN]; exact Nat.mul_le_mul lW lH
      by_cases q : n = N
      · have m1 : ((n : Int) != (N : Int)) = false := by simp; omega
        have FO := hide' (fun (h : xs.all cellB = true) => show errOf (shapeF Wn Hn xs) = .nilIface by unfold shapeF; rw [s1, s2, if_pos (show (true && true) = true from rfl), if_pos (by rw [hNi, ← HL.out, q]), if_pos h]; rfl)
        have FN := hide' (fun (h : xs.all cellB = false) => show errOf (shapeF Wn Hn xs) = .iface 87 (.int .i64 1) by unfold shapeF; rw [s1, s2, if_pos (show (true && true) = true from rfl), if_pos (by rw [hNi, ← HL.out, q]), if_neg (by rw [h]; simp)]; rfl)
        clear q hN
        go_enter Tryd.func27, Tryd.ntmps27
        go_wp2_with fail
        refine (pisSide _ _).mono ?_
        rw [s1]
        rintro e w1 ⟨rfl, rfl⟩
        go_wp2_with fail
        refine (pisSide _ _).mono ?_
        rw [s2]
        rintro e w1 ⟨rfl, rfl⟩
        go_wp2
        go_loop [29] (fun kv => ∃ k : Nat, kv = .int .i64 (k : Int) ∧ k ≤ n ∧ ∀ j (h : j < xs.length), j < k → cellB xs[j] = true) (fun kv => n - (intOf kv).toNat)
        case atStart => exact ⟨0, rfl, by omega, fun j h hj => by omega⟩
        case round =>
          obtain ⟨k, rfl, hk, hall⟩ := hrel
          have HA := hide' hall
          clear hall
          by_cases d : (k : Int) < (n : Int)
          · have hkl : k < xs.length := by have := HL.out; omega
            obtain ⟨g, off, rfl, hg, hc⟩ := HP.out.cells k hkl
            obtain ⟨x, hx⟩ : ∃ x, xs[k] = x := ⟨_, rfl⟩
            rw [hx] at hc
            have HX := hide' hx
            clear hx
            by_cases x0 : x = 0
            · have m2 : (x != 0) = false := by simp [x0]
              have X := hide' x0
              clear x0
              go_wp2
              refine ⟨⟨k + 1, by go_num, by omega, fun j h hj => ?_⟩, by simp [intOf]; omega⟩
              by_cases e : j = k
              · subst e; rw [HX.out, X.out]; rfl
              · exact HA.out j h (by omega)
            · have m2 : (x != 0) = true := by simp [x0]
              by_cases x1 : x = 1
              · have m3 : (x != 1) = false := by simp [x1]
                have X := hide' x1
                clear x0 x1
                go_wp2
                refine ⟨⟨k + 1, by go_num, by omega, fun j h hj => ?_⟩, by simp [intOf]; omega⟩
                by_cases e : j = k
                · subst e; rw [HX.out, X.out]; rfl
                · exact HA.out j h (by omega)
              · have m3 : (x != 1) = true := by simp [x1]
                have X := hide' (show cellB x = false by unfold cellB; simp [x0, x1])
                clear x0 x1
                go_wp2
                go_ret
                rw [FN.out (all_bad hkl (by rw [HX.out]; exact X.out))]
                exact ⟨rfl, (Below.refl _ _).alloc (Nat.le_refl _) _⟩
          · go_wp2
            go_ret
            rw [FO.out (all_ok fun j hj => HA.out j hj (by have := HL.out; omega))]
            exact ⟨rfl, (Below.refl _ _).alloc (Nat.le_refl _) _⟩
      · have m1 : ((n : Int) != (N : Int)) = true := by simp; omega
        have F := hide' (show errOf (shapeF Wn Hn xs) = .iface 87 (.int .i64 3) by unfold shapeF; rw [s1, s2, if_pos (show (true && true) = true from rfl), if_neg (by rw [hNi, ← HL.out]; omega)]; rfl)
        clear q hN
        go_enter Tryd.func27, Tryd.ntmps27
        go_wp2_with fail
        refine (pisSide _ _).mono ?_
        rw [s1]
        rintro e w1 ⟨rfl, rfl⟩
        go_wp2_with fail
        refine (pisSide _ _).mono ?_
        rw [s2]
        rintro e w1 ⟨rfl, rfl⟩
        go_wp2
        go_ret
        rw [F.out]
        exact ⟨rfl, (Below.refl _ _).alloc (Nat.le_refl _) _⟩
end Go.Proofs.YtjngjnkecnnmeaaDoor

namespace Go.Proofs.YtjngjnkecnnmeaaDoor
open Go.RowKit
set_option linter.unusedVariables false

set_option maxHeartbeats 1600000 in
theorem Shape_P (W H : Int) (xs : List Int) (a : Option Addr) (n c : Nat) (w : World) (hP : ArgP w xs a n c) :
    Calls Tryd.prog 26 #[.agg #[.int .i64 W, .int .i64 H, .slice a n c]] w fun e w' => e = .returned (.int .i64 ((shapeF W H xs : Nat) : Int)) ∧ Below w.heap.size w w' := by
  have HP := hide' (hP.alloc (.cells #[.int .i64 W, .int .i64 H, .slice a n c] 51))
  have hlen := hP.len
  have hmax := hP.max
  have HL := hide' hlen
  unfold maxLen at hmax
  clear hP hlen
  cases s1 : sideB W with
  | false =>
    have F := hide' (show shapeF W H xs = 1 by unfold shapeF; rw [s1]; rfl)
    rcases side_no s1 with h | h
    · clear s1
      go_enter Tryd.func26, Tryd.ntmps26
      go_wp2
      go_ret
      rw [F.out]
      exact ⟨rfl, (Below.refl _ _).alloc (Nat.le_refl _) _⟩
    · have h' : ¬ W < 0 := by omega
      clear s1
      go_enter Tryd.func26, Tryd.ntmps26
      go_wp2
      go_ret
      rw [F.out]
      exact ⟨rfl, (Below.refl _ _).alloc (Nat.le_refl _) _⟩
  | true =>
    cases s2 : sideB H with
    | false =>
      have F := hide' (show shapeF W H xs = 1 by unfold shapeF; rw [s1, s2]; rfl)
      obtain ⟨Wn, rfl, lW⟩ := side_nat s1
      have h1 : ¬ (Wn : Int) < 0 := by omega
      have h2 : ¬ 100 < (Wn : Int) := by omega
      rcases side_no s2 with h | h
      · clear s1 s2
        go_enter Tryd.func26, Tryd.ntmps26
        go_wp2
        go_ret
        rw [F.out]
        exact ⟨rfl, (Below.refl _ _).alloc (Nat.le_refl _) _⟩
      · have h' : ¬ H < 0 := by omega
        clear s1 s2
        go_enter Tryd.func26, Tryd.ntmps26
        go_wp2
        go_ret
        rw [F.out]
        exact ⟨rfl, (Below.refl _ _).alloc (Nat.le_refl _) _⟩
    | true =>
      obtain ⟨Wn, rfl, lW⟩ := side_nat s1
      obtain ⟨Hn, rfl, lH⟩ := side_nat s2
      have h1 : ¬ (Wn : Int) < 0 := by omega
      have h2 : ¬ 100 < (Wn : Int) := by omega
      have h3 : ¬ (Hn : Int) < 0 := by omega
      have h4 : ¬ 100 < (Hn : Int) := by omega
      obtain ⟨N, hN⟩ : ∃ N, Wn * Hn = N := ⟨_, rfl⟩
      have hNi : (Wn : Int) * (Hn : Int) = (N : Int) := by rw [← hN]; simp
      have hN4 : N ≤ 10000 := by rw [← hN]; exact Nat.mul_le_mul lW lH
      by_cases q : n = N
      · have m1 : ((n : Int) != (N : Int)) = false := by simp; omega
        have FO := hide' (fun (h : xs.all cellB = true) => show shapeF Wn Hn xs = 0 by unfold shapeF; rw [s1, s2, if_pos (show (true && true) = true from rfl), if_pos (by rw [hNi, ← HL.out, q]), if_pos h])
        have FN := hide' (fun (h : xs.all cellB = false) => show shapeF Wn Hn xs = 1 by unfold shapeF; rw [s1, s2, if_pos (show (true && true) = true from rfl), if_pos (by rw [hNi, ← HL.out, q]), if_neg (by rw [h]; simp)])
        clear q hN s1 s2
        go_enter Tryd.func26, Tryd.ntmps26
        go_wp2
        go_loop [3] (fun kv => ∃ k : Nat, kv = .int .i64 (k : Int) ∧ k ≤ n ∧ ∀ j (h : j < xs.length), j < k → cellB xs[j] = true) (fun kv => n - (intOf kv).toNat)
        case atStart => exact ⟨0, rfl, by omega, fun j h hj => by omega⟩
        case round =>
          obtain ⟨k, rfl, hk, hall⟩ := hrel
          have HA := hide' hall
          clear hall
          by_cases d : (k : Int) < (n : Int)
          · have hkl : k < xs.length := by have := HL.out; omega
            obtain ⟨g, off, rfl, hg, hc⟩ := HP.out.cells k hkl
            obtain ⟨x, hx⟩ : ∃ x, xs[k] = x := ⟨_, rfl⟩
            rw [hx] at hc
            have HX := hide' hx
            clear hx
            by_cases x0 : x < 0
            · have X := hide' (show cellB x = false by unfold cellB; simp; omega)
              go_wp2
              go_ret
              rw [FN.out (all_bad hkl (by rw [HX.out]; exact X.out))]
              exact ⟨rfl, (Below.refl _ _).alloc (Nat.le_refl _) _⟩
            · by_cases x1 : 1 < x
              · have X := hide' (show cellB x = false by unfold cellB; simp; omega)
                go_wp2
                go_ret
                rw [FN.out (all_bad hkl (by rw [HX.out]; exact X.out))]
                exact ⟨rfl, (Below.refl _ _).alloc (Nat.le_refl _) _⟩
              · have X := hide' (show cellB x = true by rw [cellB_iff]; omega)
                go_wp2
                refine ⟨⟨k + 1, by go_num, by omega, fun j h hj => ?_⟩, by simp [intOf]; omega⟩
                by_cases e : j = k
                · subst e; rw [HX.out]; exact X.out
                · exact HA.out j h (by omega)
          · go_wp2
            go_ret
            rw [FO.out (all_ok fun j hj => HA.out j hj (by have := HL.out; omega))]
            exact ⟨rfl, (Below.refl _ _).alloc (Nat.le_refl _) _⟩
      · have m1 : ((n : Int) != (N : Int)) = true := by simp; omega
        have F := hide' (show shapeF Wn Hn xs = 3 by unfold shapeF; rw [s1, s2, if_pos (show (true && true) = true from rfl), if_neg (by rw [hNi, ← HL.out]; omega)])
        clear q hN s1 s2
        go_enter Tryd.func26, Tryd.ntmps26
        go_wp2
        go_ret
        rw [F.out]
        exact ⟨rfl, (Below.refl _ _).alloc (Nat.le_refl _) _⟩
end Go.Proofs.YtjngjnkecnnmeaaDoor

namespace Go.Proofs.YtjngjnkecnnmeaaDoor
open Go.RowKit
set_option linter.unusedVariables false

/-- Where a cell goes when its pattern is mirrored; turned by a quarter. -/
def mirI (W H i : Nat) : Nat := i / W * W + (W - 1 - i % W)
def qtrI (W H i : Nat) : Nat := i % W * H + (H - 1 - i / W)
/-- The pattern mirrored; turned by a quarter (as wide as it was high). -/
def mirP (W H : Nat) (xs : List Int) : List Int := (List.range (W * H)).map fun q => xs.getD (q / W * W + (W - 1 - q % W)) 0
def qtrP (W H : Nat) (xs : List Int) : List Int := (List.range (H * W)).map fun q => xs.getD ((H - 1 - q % H) * W + q / H) 0
theorem mirP_length (W H : Nat) (xs : List Int) : (mirP W H xs).length = W * H := by simp [mirP]
theorem qtrP_length (W H : Nat) (xs : List Int) : (qtrP W H xs).length = H * W := by simp [qtrP]

theorem divmod_mk (W y x : Nat) (hx : x < W) : (y * W + x) / W = y ∧ (y * W + x) % W = x := by
  constructor
  · rw [Nat.mul_comm, Nat.mul_add_div (by omega), Nat.div_eq_of_lt hx]; omega
  · rw [Nat.mul_comm, Nat.mul_add_mod, Nat.mod_eq_of_lt hx]
theorem split_lt {W H i : Nat} (hi : i < W * H) : ∃ x y, x < W ∧ y < H ∧ i % W = x ∧ i / W = y ∧ y * W + x = i := by
  have hW : 0 < W := by
    rcases Nat.eq_zero_or_pos W with h | h
    · rw [h, Nat.zero_mul] at hi; omega
    · exact h
  refine ⟨i % W, i / W, Nat.mod_lt _ hW, ?_, rfl, rfl, ?_⟩
  · rw [Nat.div_lt_iff_lt_mul hW, Nat.mul_comm]; exact hi
  · rw [Nat.mul_comm]; exact Nat.div_add_mod i W
theorem mk_lt {W H x y : Nat} (hx : x < W) (hy : y < H) : y * W + x < W * H := by
  have := Nat.mul_le_mul_right W (show y + 1 ≤ H by omega)
  rw [Nat.add_mul, Nat.mul_comm H W] at this
  omega
theorem mirI_lt {W H i : Nat} (hi : i < W * H) : mirI W H i < W * H := by
  obtain ⟨x, y, h1, h2, h3, h4, h5⟩ := split_lt hi
  unfold mirI
  rw [h3, h4]
  exact mk_lt (by omega) h2
theorem mirI_mirI {W H i : Nat} (hi : i < W * H) : mirI W H (mirI W H i) = i := by
  obtain ⟨x, y, h1, h2, h3, h4, h5⟩ := split_lt hi
  obtain ⟨d, m⟩ := divmod_mk W y (W - 1 - x) (by omega)
  unfold mirI
  rw [h3, h4, d, m]
  omega
theorem qtrI_lt {W H i : Nat} (hi : i < W * H) : qtrI W H i < H * W := by
  obtain ⟨x, y, h1, h2, h3, h4, h5⟩ := split_lt hi
  unfold qtrI
  rw [h3, h4]
  exact mk_lt (by omega) h1
/-- The way back from a quarter. -/
def qtrJ (W H q : Nat) : Nat := (H - 1 - q % H) * W + q / H
theorem qtrJ_qtrI {W H i : Nat} (hi : i < W * H) : qtrJ W H (qtrI W H i) = i := by
  obtain ⟨x, y, h1, h2, h3, h4, h5⟩ := split_lt hi
  obtain ⟨d, m⟩ := divmod_mk H x (H - 1 - y) (by omega)
  unfold qtrJ qtrI
  rw [h3, h4, d, m, show H - 1 - (H - 1 - y) = y by omega]
  exact h5
theorem qtrJ_lt {W H q : Nat} (hq : q < H * W) : qtrJ W H q < W * H := by
  obtain ⟨x, y, h1, h2, h3, h4, h5⟩ := split_lt hq
  unfold qtrJ
  rw [h3, h4]
  exact mk_lt h2 (by omega)
theorem qtrI_qtrJ {W H q : Nat} (hq : q < H * W) : qtrI W H (qtrJ W H q) = q := by
  obtain ⟨x, y, h1, h2, h3, h4, h5⟩ := split_lt hq
  obtain ⟨d, m⟩ := divmod_mk W (H - 1 - x) y h2
  unfold qtrI qtrJ
  rw [h3, h4, d, m, show H - 1 - (H - 1 - x) = x by omega]
  exact h5

/-- At block g a list of n ints of the call's own; what stands at f i, for i below k, is xs' i-th. -/
structure ScJ (w0 w : World) (g n k : Nat) (f : Nat → Nat) (xs : List Int) : Prop where
  below : Below w0.heap.size w0 w
  ge : w0.heap.size ≤ g
  lt : g < w.heap.size
  cells : ∀ j, j < n → ∃ v, w.cell? ⟨g, j, none⟩ = some v ∧ (∀ i, i < k → f i = j → v = .int .i64 (xs.getD i 0))
  fz : ∀ j, w.frozen? ⟨g, j, none⟩ = false
theorem ScJ.step {w0 w : World} {g n k : Nat} {f : Nat → Nat} {xs : List Int} (h : ScJ w0 w g n k f xs) (hk : f k < n) (hinj : ∀ i, i < k → f i ≠ f k) {x : Int} (hx : xs.getD k 0 = x) : ScJ w0 (w.setCell ⟨g, f k, none⟩ (.int .i64 x)) g n (k + 1) f xs := by
  refine ⟨h.below.setCell h.ge _, h.ge, by rw [World.size_setCell]; exact h.lt, fun j hj => ?_, fun j => by rw [World.frozen?_setCell]; exact h.fz j⟩
  by_cases e : j = f k
  · subst e
    obtain ⟨v, hv, -⟩ := h.cells _ hj
    refine ⟨_, World.cell?_setCell_same _ _ _ hv, fun i hi he => ?_⟩
    by_cases q : i = k
    · subst q; rw [hx]
    · exact absurd he (hinj i (by omega))
  · obtain ⟨v, hv, hv'⟩ := h.cells j hj
    refine ⟨v, ?_, fun i hi he => hv' i (by have : i ≠ k := fun q => e (by rw [← he, q]); omega) he⟩
    exact (World.cell?_setCell_other _ ⟨g, f k, none⟩ ⟨g, j, none⟩ _ (fun q => e (congrArg Addr.off q).symm)).trans hv
theorem ScJ.drewN {w0 w : World} {g n k : Nat} {f : Nat → Nat} {xs : List Int} (h : ScJ w0 w g n k f xs) (m : Nat) : ScJ w0 (w.drewN m) g n k f xs :=
  ⟨h.below.trans ⟨rfl, rfl, rfl, Nat.le_refl _, fun _ _ => rfl⟩, h.ge, h.lt, h.cells, h.fz⟩
theorem ScJ.start {w0 w : World} {g n : Nat} (f : Nat → Nat) (xs ys : List Int) (hb : Below w0.heap.size w0 w) (hg : w0.heap.size ≤ g) (hc : Cel w g ys) (hn : ys.length = n) : ScJ w0 w g n 0 f xs :=
  ⟨hb, hg, hc.lt, fun j hj => ⟨_, hc.cells j (by omega), fun i hi => by omega⟩, hc.fz⟩
theorem ScJ.cel {w0 w : World} {g n : Nat} {f fi : Nat → Nat} {xs : List Int} (h : ScJ w0 w g n n f xs) (h1 : ∀ j, j < n → fi j < n) (h2 : ∀ j, j < n → f (fi j) = j) : Cel w g ((List.range n).map fun j => xs.getD (fi j) 0) := by
  refine ⟨h.lt, fun k hk => ?_, h.fz⟩
  simp only [List.length_map, List.length_range] at hk
  obtain ⟨v, hv, hv'⟩ := h.cells k hk
  rw [hv, hv' (fi k) (h1 k hk) (h2 k hk)]
  simp [List.getD, hk]
end Go.Proofs.YtjngjnkecnnmeaaDoor

namespace Go.Proofs.YtjngjnkecnnmeaaDoor
open Go.RowKit
set_option linter.unusedVariables false

def hd2 (s : ByteArray) (i a b : Nat) : (Nat × Nat × Nat) ⊕ (Nat × Nat) := match wordF s [10] i with | .inr k => .inr (k, 2) | .inl k => .inl (a, b, k)
def hd1 (s : ByteArray) (i a : Nat) : (Nat × Nat × Nat) ⊕ (Nat × Nat) := match sideS s [44, 32, 121, 32, 61, 32] i with | .inr e => .inr e | .inl (h, j) => hd2 s j a h
def hd0 (s : ByteArray) (i : Nat) : (Nat × Nat × Nat) ⊕ (Nat × Nat) := match sideS s [120, 32, 61, 32] i with | .inr e => .inr e | .inl (a, j) => hd1 s j a
theorem headS_hd (s : ByteArray) : headS s = hd0 s 0 := rfl
def hdQ (s : ByteArray) (q i a b : Nat) : (Nat × Nat × Nat) ⊕ (Nat × Nat) := if q = 0 then hd0 s i else if q = 1 then hd1 s i a else hd2 s i a b
def wd (q : Nat) : ByteArray := if q = 0 then ⟨#[120, 32, 61, 32]⟩ else if q = 1 then ⟨#[44, 32, 121, 32, 61, 32]⟩ else ⟨#[10]⟩

theorem wd_size (q : Nat) : (wd q).size ≤ 6 := by
  unfold wd
  split
  · decide
  split
  · decide
  · decide
theorem wd_word (q : Nat) : bts (wd q) = if q = 0 then [120, 32, 61, 32] else if q = 1 then [44, 32, 121, 32, 61, 32] else [10] := by
  unfold wd
  split
  · decide
  split
  · decide
  · decide

structure SdW (w wr : World) (a b : Nat) : Prop where
  below : Below w.heap.size w wr
  size : w.heap.size + 2 ≤ wr.heap.size
  words : ∀ q, q < 3 → wr.cell? ⟨w.heap.size, q, none⟩ = some (.string (wd q))
  n0 : wr.cell? ⟨w.heap.size + 1, 0, none⟩ = some (.int .i64 (a : Int))
  n1 : wr.cell? ⟨w.heap.size + 1, 1, none⟩ = some (.int .i64 (b : Int))
  fz : ∀ k, wr.frozen? ⟨w.heap.size + 1, k, none⟩ = false
theorem SdW.drewN {w wr : World} {a b : Nat} (h : SdW w wr a b) (n : Nat) : SdW w (wr.drewN n) a b :=
  ⟨h.below.trans ⟨rfl, rfl, rfl, Nat.le_refl _, fun _ _ => rfl⟩, h.size, h.words, h.n0, h.n1, h.fz⟩
theorem SdW.set0 {w wr : World} {a b : Nat} (h : SdW w wr a b) (x : Nat) : SdW w (wr.setCell ⟨w.heap.size + 1, 0, none⟩ (.int .i64 (x : Int))) x b := by
  refine ⟨h.below.setCell (by simp) _, by rw [World.size_setCell]; exact h.size, fun q hq => ?_, ?_, ?_, fun k => by rw [World.frozen?_setCell]; exact h.fz k⟩
  · exact (World.cell?_setCell_other _ ⟨w.heap.size + 1, 0, none⟩ ⟨w.heap.size, q, none⟩ _ (fun e => by have := congrArg Addr.block e; simp at this)).trans (h.words q hq)
  · exact World.cell?_setCell_same _ _ _ h.n0
  · exact (World.cell?_setCell_other _ ⟨w.heap.size + 1, 0, none⟩ ⟨w.heap.size + 1, 1, none⟩ _ (fun e => by have := congrArg Addr.off e; simp at this)).trans h.n1
theorem SdW.set1 {w wr : World} {a b : Nat} (h : SdW w wr a b) (x : Nat) : SdW w (wr.setCell ⟨w.heap.size + 1, 1, none⟩ (.int .i64 (x : Int))) a x := by
  refine ⟨h.below.setCell (by simp) _, by rw [World.size_setCell]; exact h.size, fun q hq => ?_, ?_, ?_, fun k => by rw [World.frozen?_setCell]; exact h.fz k⟩
  · exact (World.cell?_setCell_other _ ⟨w.heap.size + 1, 1, none⟩ ⟨w.heap.size, q, none⟩ _ (fun e => by have := congrArg Addr.block e; simp at this)).trans (h.words q hq)
  · exact (World.cell?_setCell_other _ ⟨w.heap.size + 1, 1, none⟩ ⟨w.heap.size + 1, 0, none⟩ _ (fun e => by have := congrArg Addr.off e; simp at this)).trans h.n0
  · exact World.cell?_setCell_same _ _ _ h.n1
theorem SdW.start (w : World) (t1 t2 : TypeId) : SdW w ((w.alloc (.cells #[.string ⟨#[120, 32, 61, 32]⟩, .string ⟨#[44, 32, 121, 32, 61, 32]⟩, .string ⟨#[10]⟩] t1)).alloc (.cells #[.int .i64 0, .int .i64 0, .int .i64 0] t2)) 0 0 := by
  refine ⟨((Below.refl _ _).alloc (Nat.le_refl _) _).alloc (by simp) _, by simp, fun q hq => ?_, ?_, ?_, fun k => ?_⟩
  · rw [World.cell?_alloc_past _ _ _ (by simp), World.cell?_alloc_at _ _ _ _ rfl]
    match q, hq with
    | 0, _ => rfl
    | 1, _ => rfl
    | 2, _ => rfl
  · rw [World.cell?_alloc_at _ _ _ _ (by simp)]; rfl
  · rw [World.cell?_alloc_at _ _ _ _ (by simp)]; rfl
  · simp

/-- What is left of a side behind its word. -/
def sideN (s : ByteArray) (j : Nat) : (Nat × Nat) ⊕ (Nat × Nat) := if !numSix s j then .inr (j, 2) else if 100 < (num s j).1 then .inr (j, 1) else .inl ((num s j).1, (num s j).2)
theorem sideS_inl {s : ByteArray} {ws : List Nat} {i j : Nat} (h : wordF s ws i = .inl j) : sideS s ws i = sideN s j := by unfold sideS sideN; rw [h]
theorem sideS_inr {s : ByteArray} {ws : List Nat} {i j : Nat} (h : wordF s ws i = .inr j) : sideS s ws i = .inr (j, 2) := by unfold sideS; rw [h]
theorem hdQ_no {s : ByteArray} {q i a b j : Nat} (h : wordF s (bts (wd q)) i = .inr j) : hdQ s q i a b = .inr (j, 2) := by
  rw [wd_word] at h
  unfold hdQ
  split
  · rename_i e; rw [if_pos e] at h; unfold hd0; rw [sideS_inr h]
  · rename_i e; rw [if_neg e] at h
    split
    · rename_i e; rw [if_pos e] at h; unfold hd1; rw [sideS_inr h]
    · rename_i e; rw [if_neg e] at h; unfold hd2; rw [h]
theorem hdQ_bad {s : ByteArray} {q i a b j k f : Nat} (hq : q < 2) (h : wordF s (bts (wd q)) i = .inl j) (hn : sideN s j = .inr (k, f)) : hdQ s q i a b = .inr (k, f) := by
  rw [wd_word] at h
  unfold hdQ
  split
  · rename_i e; rw [if_pos e] at h; unfold hd0; rw [sideS_inl h, hn]
  · rename_i e; rw [if_neg e, if_pos (by omega)] at h
    rw [if_pos (by omega)]; unfold hd1; rw [sideS_inl h, hn]
theorem hdQ_0 {s : ByteArray} {i a b j k n : Nat} (h : wordF s (bts (wd 0)) i = .inl j) (hn : sideN s j = .inl (n, k)) : hdQ s 0 i a b = hdQ s 1 k n b := by
  rw [wd_word] at h
  unfold hdQ
  rw [if_pos rfl] at h
  simp only [if_true, Nat.one_ne_zero, if_false]
  unfold hd0
  rw [sideS_inl h, hn]
theorem hdQ_1 {s : ByteArray} {i a b j k n : Nat} (h : wordF s (bts (wd 1)) i = .inl j) (hn : sideN s j = .inl (n, k)) : hdQ s 1 i a b = hdQ s 2 k a n := by
  rw [wd_word] at h
  unfold hdQ
  rw [if_neg (by omega), if_pos rfl] at h
  rw [if_neg (by omega), if_pos rfl, if_neg (by omega), if_neg (by omega)]
  unfold hd1
  rw [sideS_inl h, hn]
theorem hdQ_2 {s : ByteArray} {i a b j : Nat} (h : wordF s (bts (wd 2)) i = .inl j) : hdQ s 2 i a b = .inl (a, b, j) := by
  rw [wd_word] at h
  unfold hdQ
  rw [if_neg (by omega), if_neg (by omega)] at h
  rw [if_neg (by omega), if_neg (by omega)]
  unfold hd2
  rw [h]
theorem six_of {s : ByteArray} {j : Nat} {N : Int} (h : NumRef s j N) :
    (N < 0 ∧ numSix s j = false) ∨ (¬ N < 0 ∧ (j : Int) + 6 < ((num s j).2 : Int) ∧ numSix s j = false) ∨ (¬ N < 0 ∧ ¬ (j : Int) + 6 < ((num s j).2 : Int) ∧ numSix s j = true ∧ N = ((num s j).1 : Int)) := by
  have hg := num_ge s j
  by_cases b : (num s j).2 = j ∨ (1 < (num s j).2 - j ∧ bt s j = 48)
  · left
    have := h.bad b
    exact ⟨by omega, numSix_false.2 (by omega)⟩
  · right
    have h0 := h.good b
    by_cases c : (num s j).2 - j ≤ 6
    · right
      have hb := num_bound s j c
      have hok : numOk s j 0 999999 = true := by
        simp [numOk]
        omega
      exact ⟨by omega, by omega, numSix_true.2 (by omega), (h.ok 0 999999 (by omega) hok).1⟩
    · left
      exact ⟨by omega, by omega, numSix_false.2 (by omega)⟩

set_option maxHeartbeats 3200000 in
theorem sides_any (s : ByteArray) (w : World) (hs : s.size ≤ 40000) :
    Calls Tryd.prog 93 #[.string s] w fun e w' => Below w.heap.size w w' ∧ ((∃ a b k, headS s = .inl (a, b, k) ∧ e = .returned (.tuple #[.int .i64 (a : Int), .int .i64 (b : Int), .int .i64 (k : Int), .int .i64 0]) ∧ k ≤ s.size ∧ a ≤ 100 ∧ b ≤ 100) ∨ (∃ k f : Nat, headS s = .inr (k, f) ∧ 1 ≤ f ∧ e = .returned (.tuple #[.int .i64 0, .int .i64 0, .int .i64 (k : Int), .int .i64 (f : Int)]))) := by
  have hsm : s.size ≤ maxLen := by unfold maxLen; omega
  go_enter Tryd.func93, Tryd.ntmps93
  have S0 := hide' (SdW.start w 9 150)
  go_wp2
  go_loopw [8, 9] (fun iv qv wr => ∃ i q a b : Nat, iv = .int .i64 (i : Int) ∧ qv = .int .i64 (q : Int) ∧ q ≤ 2 ∧ i ≤ s.size ∧ a ≤ 100 ∧ b ≤ 100 ∧ SdW w wr a b ∧ hdQ s q i a b = headS s) (fun _ qv _ => 3 - (intOf qv).toNat)
  case atStart => exact ⟨0, 0, 0, 0, rfl, rfl, by omega, by omega, by omega, by omega, S0.out, rfl⟩
  case round =>
    obtain ⟨i, q, a, b, rfl, rfl, hq, hi, la, lb, sd, hH⟩ := hrel
    have SD := hide' sd
    have HH := hide' hH
    have cw := sd.words q (by omega)
    have ht := wd_size q
    obtain ⟨t, htt⟩ : ∃ t, wd q = t := ⟨_, rfl⟩
    have HT := hide' htt
    rw [htt] at cw ht
    have n3 : (q : Int) < 3 := by omega
    clear sd hH htt S0
    go_wp2
    go_loopw [8, 10] (fun jv kv wx => ∃ j k m : Nat, jv = .int .i64 (j : Int) ∧ kv = .int .i64 (k : Int) ∧ k ≤ t.size ∧ j ≤ s.size ∧ wx = wr.drewN m ∧ wordF s ((bts t).drop k) j = wordF s (bts t) i) (fun _ kv _ => t.size - (intOf kv).toNat)
    case atStart => exact ⟨i, 0, 0, rfl, rfl, by omega, hi, rfl, rfl⟩
    case round =>
      obtain ⟨j, k, m, rfl, rfl, hk, hj, rfl, hw⟩ := hrel
      have HW := hide' hw
      clear hw
      by_cases d : k < t.size
      · have n1 : (k : Int) < (t.size : Int) := by omega
        have hbt := bt_lt t k d
        by_cases e : s.size ≤ j
        · have n2 : (s.size : Int) ≤ (j : Int) := by omega
          have hw := HW.out
          rw [bts_drop t k d, wordF, if_neg (fun h => by have := h.1; omega)] at hw
          have RES := hide' (show headS s = .inr (j, 2) by rw [← HH.out]; exact hdQ_no (by rw [HT.out]; exact hw.symm))
          clear hw hbt
          go_wp2
          go_quiet (fail)
          go_wp2
          refine bodyPost_ret (v := .tuple #[.int .i64 0, .int .i64 0, .int .i64 (j : Int), .int .i64 2]) (by simp [results, Tryd.results93, go_sem]) rfl ?_
          exact ⟨((SD.out.drewN _).drewN _).below, Or.inr ⟨j, 2, RES.out, by omega, rfl⟩⟩
        · have n2 : ¬ (s.size : Int) ≤ (j : Int) := by omega
          have hjl : j < s.size := by omega
          have hbs := bt_lt s j hjl
          by_cases f : bt s j = bt t k
          · have n4 : ((s[j].toNat : Int) == (t[k].toNat : Int)) = true := by simp; omega
            have n5 : ((s[j].toNat : Int) != (t[k].toNat : Int)) = false := by simp; omega
            have hw := HW.out
            rw [bts_drop t k d, wordF, if_pos ⟨hjl, f⟩] at hw
            have HW2 := hide' hw
            clear hw hbt hbs f
            go_wp2
            go_quiet (fail)
            go_wp2
            refine ⟨⟨j + 1, k + 1, _, by go_num, by go_num, by omega, by omega, rfl, HW2.out⟩, by simp [intOf]; omega⟩
          · have n4 : ((s[j].toNat : Int) == (t[k].toNat : Int)) = false := by simp; omega
            have n5 : ((s[j].toNat : Int) != (t[k].toNat : Int)) = true := by simp; omega
            have hw := HW.out
            rw [bts_drop t k d, wordF, if_neg (fun h => f h.2)] at hw
            have RES := hide' (show headS s = .inr (j, 2) by rw [← HH.out]; exact hdQ_no (by rw [HT.out]; exact hw.symm))
            clear hw hbt hbs f
            go_wp2
            go_quiet (fail)
            go_wp2
            refine bodyPost_ret (v := .tuple #[.int .i64 0, .int .i64 0, .int .i64 (j : Int), .int .i64 2]) (by simp [results, Tryd.results93, go_sem]) rfl ?_
            exact ⟨((SD.out.drewN _).drewN _).below, Or.inr ⟨j, 2, RES.out, by omega, rfl⟩⟩
      · have n1 : ¬ (k : Int) < (t.size : Int) := by omega
        have hw := HW.out
        rw [show k = t.size by omega, bts_end, wordF] at hw
        have HW2 := hide' (show wordF s (bts (wd q)) i = .inl j by rw [HT.out]; exact hw.symm)
        clear hw
        by_cases q2 : q = 2
        · have n4 : ((q : Int) == 2) = true := by simp; omega
          have RES := hide' (show headS s = .inl (a, b, j) by rw [← HH.out, q2]; exact hdQ_2 (by rw [← q2]; exact HW2.out))
          have d0 := SD.out.n0
          have d1 := SD.out.n1
          clear q2
          go_wp2
          go_quiet (fail)
          go_wp2
          refine bodyPost_ret (v := .tuple #[.int .i64 (a : Int), .int .i64 (b : Int), .int .i64 (j : Int), .int .i64 0]) (by simp [results, Tryd.results93, go_sem]) rfl ?_
          exact ⟨((SD.out.drewN _).drewN _).below, Or.inl ⟨a, b, j, RES.out, rfl, hj, la, lb⟩⟩
        · have n4 : ((q : Int) == 2) = false := by simp; omega
          go_wp2_with fail
          refine (Number_any s j _ _ rfl hsm hj).mono ?_
          rintro e w3 ⟨N, rfl, hN, rfl⟩
          have hcap := hN.hi
          rcases six_of hN with ⟨b1, b2⟩ | ⟨b1, b2, b3⟩ | ⟨b1, b2, b3, b4⟩
          · have RES := hide' (show headS s = .inr (j, 2) by rw [← HH.out]; exact hdQ_bad (by omega) HW2.out (by unfold sideN; rw [b2]; simp))
            clear hN b2
            go_wp2
            refine bodyPost_ret (v := .tuple #[.int .i64 0, .int .i64 0, .int .i64 (j : Int), .int .i64 2]) (by simp [results, Tryd.results93, go_sem]) rfl ?_
            exact ⟨(SD.out.drewN _).below, Or.inr ⟨j, 2, RES.out, by omega, rfl⟩⟩
          · have RES := hide' (show headS s = .inr (j, 2) by rw [← HH.out]; exact hdQ_bad (by omega) HW2.out (by unfold sideN; rw [b3]; simp))
            clear hN b3
            go_wp2
            refine bodyPost_ret (v := .tuple #[.int .i64 0, .int .i64 0, .int .i64 (j : Int), .int .i64 2]) (by simp [results, Tryd.results93, go_sem]) rfl ?_
            exact ⟨(SD.out.drewN _).below, Or.inr ⟨j, 2, RES.out, by omega, rfl⟩⟩
          · obtain ⟨M, hM⟩ : ∃ M, (num s j).1 = M := ⟨_, rfl⟩
            rw [hM] at b4
            subst b4
            have hKs : (num s j).2 ≤ s.size := num_size s j hj
            by_cases g : 100 < M
            · have n5 : (100 : Int) < (M : Int) := by omega
              have RES := hide' (show headS s = .inr (j, 1) by rw [← HH.out]; exact hdQ_bad (by omega) HW2.out (by unfold sideN; rw [b3, if_neg (by simp), hM, if_pos g]))
              clear hN b3 hM
              go_wp2
              refine bodyPost_ret (v := .tuple #[.int .i64 0, .int .i64 0, .int .i64 (j : Int), .int .i64 1]) (by simp [results, Tryd.results93, go_sem]) rfl ?_
              exact ⟨(SD.out.drewN _).below, Or.inr ⟨j, 1, RES.out, by omega, rfl⟩⟩
            · have n5 : ¬ (100 : Int) < (M : Int) := by omega
              have hS : sideN s j = .inl (M, (num s j).2) := by unfold sideN; rw [b3, if_neg (by simp), hM, if_neg g]
              obtain ⟨x, hv⟩ : ∃ x, wr.cell? ⟨w.heap.size + 1, q, none⟩ = some x := by
                rcases (show q = 0 ∨ q = 1 by omega) with h | h
                · rw [h]; exact ⟨_, SD.out.n0⟩
                · rw [h]; exact ⟨_, SD.out.n1⟩
              have hz := SD.out.fz q
              have RES : ∃ a' b', SdW w ((wr.drewN m).setCell ⟨w.heap.size + 1, q, none⟩ (.int .i64 (M : Int))) a' b' ∧ a' ≤ 100 ∧ b' ≤ 100 ∧ hdQ s (q + 1) (num s j).2 a' b' = headS s := by
                rcases (show q = 0 ∨ q = 1 by omega) with h | h
                · subst h; exact ⟨M, b, (SD.out.drewN _).set0 M, by omega, lb, by rw [← HH.out]; exact (hdQ_0 HW2.out hS).symm⟩
                · subst h; exact ⟨a, M, (SD.out.drewN _).set1 M, la, by omega, by rw [← HH.out]; exact (hdQ_1 HW2.out hS).symm⟩
              obtain ⟨a', b', r1, r2, r3, r4⟩ := RES
              have R1 := hide' r1
              have R4 := hide' r4
              have hq2 : q < 2 := by omega
              have hq3 : (q : Int) < 3 := by omega
              clear hN b3 hM hS r1 r4
              go_wp2
              refine ⟨⟨(num s j).2, q + 1, a', b', rfl, by go_num, by omega, hKs, r2, r3, R1.out, R4.out⟩, by simp [intOf]; omega⟩
end Go.Proofs.YtjngjnkecnnmeaaDoor

namespace Go.Proofs.YtjngjnkecnnmeaaDoor
open Go.RowKit
set_option linter.unusedVariables false

theorem bts_x : bts ⟨#[120, 32, 61, 32]⟩ = [120, 32, 61, 32] := by decide
theorem bts_y : bts ⟨#[44, 32, 121, 32, 61, 32]⟩ = [44, 32, 121, 32, 61, 32] := by decide
theorem bts_n : bts ⟨#[10]⟩ = [10] := by decide

def HeadPost (b : Nat) (s : ByteArray) (r : Rv) (w : World) (e : Ending) (w' : World) : Prop :=
  (∃ W H k g, headS s = .inl (W, H, k) ∧ e = .returned (.bool true) ∧ RAt b s { r with i := k, wd := (W : Int), hi := (H : Int), cs := .slice (some ⟨g, 0, none⟩) (W * H) (W * H) } w' ∧ w.heap.size ≤ g ∧ Cel w' g (List.replicate (W * H) 0) ∧ Rd b w w' ∧ k ≤ s.size ∧ W ≤ 100 ∧ H ≤ 100) ∨
  (∃ a f : Nat, headS s = .inr (a, f) ∧ e = .returned (.bool false) ∧ RAt b s { r with i := a, fl := f } w' ∧ Rd b w w')

theorem Below.toRd {b : Nat} {w w' : World} (h : Below w.heap.size w w') : Rd b w w' := ⟨h.os, h.tape, h.output, h.size, fun k hk _ => h.block k hk⟩

set_option maxHeartbeats 1600000 in
theorem pheader (b : Nat) (s : ByteArray) (r : Rv) (w : World) (h : RAt b s r w) (hi : r.i = 0) (hs : s.size ≤ 40000) :
    Calls Tryd.prog 86 #[.pointer (some ⟨b, 0, none⟩)] w (HeadPost b s r w) := by
  have H := hide' h
  have HI := hide' hi
  clear h hi
  go_enter Tryd.func86, Tryd.ntmps86
  go_wp2_with fail
  refine (pside b s _ r _ H.out (by rw [HI.out]; omega) hs (by decide) (by decide)).mono ?_
  rw [bts_x]
  rintro e w1 (⟨W, i1, h1, rfl, a1, r1, l1, hW⟩ | ⟨a, f, m, h1, rfl, a1, r1⟩)
  · have A1 := hide' a1
    have R1 := hide' r1
    have H1 := hide' h1
    clear a1 r1 h1
    go_wp2_with fail
    refine (pside b s _ _ _ A1.out l1 hs (by decide) (by decide)).mono ?_
    rw [bts_y]
    rintro e w2 (⟨Hh, i2, h2, rfl, a2, r2, l2, hH⟩ | ⟨a, f, m, h2, rfl, a2, r2⟩)
    · have A2 := hide' a2
      have R2 := hide' r2
      have H2 := hide' h2
      clear a2 r2 h2
      go_wp2_with fail
      refine (pexpect b s _ _ _ A2.out l2 hs (by decide) (by decide)).mono ?_
      rw [bts_n]
      rintro e w3 (⟨k, h3, rfl, a3, r3, l3⟩ | ⟨k, h3, rfl, a3, r3⟩)
      · have A3 := hide' a3
        have R3 := hide' r3
        have H3 := hide' h3
        clear a3 r3 h3
        go_wp2_with fail
        refine (pblank W Hh _ hW hH).mono ?_
        rintro e w4 ⟨g, rfl, hg, C, b4⟩
        have A4 := hide' (A3.out.below b4)
        obtain ⟨c0, c1, c2, c3, c4, c5, c6, c7, c8, c9, f1, f2, f3, f4, f5, f6, f7, f8, f9⟩ := A4.out.ten
        have B4 := hide' b4
        have CC := hide' C
        have hb : b < w3.heap.size := A3.out.lt
        have z1 := R1.out.size
        have z2 := R2.out.size
        have z3 := R3.out.size
        clear b4 C
        go_wp2
        go_ret
        left
        refine ⟨W, Hh, k, g, ?_, rfl, ((A4.out.set_wd (W : Int)).set_hi (Hh : Int)).set_cs _, by omega, ?_, ((((R1.out.trans R2.out).trans R3.out).trans (Below.toRd B4.out)).set _ _ |>.set _ _).set _ _, l3, hW, hH⟩
        · unfold headS
          have e1 : sideS s [120, 32, 61, 32] 0 = .inl (W, i1) := by rw [← HI.out]; exact H1.out
          have e2 : sideS s [44, 32, 121, 32, 61, 32] i1 = .inl (Hh, i2) := H2.out
          have e3 : wordF s [10] i2 = .inl k := H3.out
          rw [e1]; simp only []; rw [e2]; simp only []; rw [e3]
        · exact ((CC.out.rd ((Rd.refl b _).set 3 _) (by omega)).rd ((Rd.refl b _).set 4 _) (by omega)).rd ((Rd.refl b _).set 5 _) (by omega)
      · have A3 := hide' a3
        have R3 := hide' r3
        have H3 := hide' h3
        clear a3 r3 h3
        go_wp2
        go_ret
        right
        refine ⟨k, 2, ?_, rfl, A3.out, (R1.out.trans R2.out).trans R3.out⟩
        unfold headS
        have e1 : sideS s [120, 32, 61, 32] 0 = .inl (W, i1) := by rw [← HI.out]; exact H1.out
        have e2 : sideS s [44, 32, 121, 32, 61, 32] i1 = .inl (Hh, i2) := H2.out
        have e3 : wordF s [10] i2 = .inr k := H3.out
        rw [e1]; simp only []; rw [e2]; simp only []; rw [e3]
    · have A2 := hide' a2
      have R2 := hide' r2
      have H2 := hide' h2
      clear a2 r2 h2
      go_wp2
      go_ret
      right
      refine ⟨a, f, ?_, rfl, A2.out, R1.out.trans R2.out⟩
      unfold headS
      have e1 : sideS s [120, 32, 61, 32] 0 = .inl (W, i1) := by rw [← HI.out]; exact H1.out
      have e2 : sideS s [44, 32, 121, 32, 61, 32] i1 = .inr (a, f) := H2.out
      rw [e1]; simp only []; rw [e2]
  · have A1 := hide' a1
    have R1 := hide' r1
    have H1 := hide' h1
    clear a1 r1 h1
    go_wp2
    go_ret
    right
    refine ⟨a, f, ?_, rfl, A1.out, R1.out⟩
    unfold headS
    have e1 : sideS s [120, 32, 61, 32] 0 = .inr (a, f) := by rw [← HI.out]; exact H1.out
    rw [e1]

def CountPost (b : Nat) (s : ByteArray) (r : Rv) (w : World) (e : Ending) (w' : World) : Prop :=
  (tagBad s r.i = false ∧ e = .returned (.bool true) ∧ RAt b s { r with i := tagK s r.i, bg := (r.i : Int), tm := (tagN s r.i : Int) } w' ∧ Rd b w w' ∧ tagK s r.i ≤ s.size) ∨
  (tagBad s r.i = true ∧ e = .returned (.bool false) ∧ (∃ t, RAt b s { r with i := r.i, fl := 2, bg := (r.i : Int), tm := t } w') ∧ Rd b w w')

set_option maxHeartbeats 1600000 in
theorem pcount (b : Nat) (s : ByteArray) (r : Rv) (w : World) (h : RAt b s r w) (hi : r.i ≤ s.size) (hs : s.size ≤ 40000) :
    Calls Tryd.prog 88 #[.pointer (some ⟨b, 0, none⟩)] w (CountPost b s r w) := by
  have H := hide' h
  obtain ⟨c0, c1, c2, c3, c4, c5, c6, c7, c8, c9, f1, f2, f3, f4, f5, f6, f7, f8, f9⟩ := h.ten
  have A0 := hide' ((h.set_bg (r.i : Int)).set_tm 1)
  clear h
  go_enter Tryd.func88, Tryd.ntmps88
  go_wp2_with fail
  cases hd : inR s r.i 48 57 with
  | false =>
    have D := hide' hd
    refine (pisDigit' b s { r with bg := (r.i : Int), tm := 1 } _ false hd A0.out hi).mono ?_
    rintro e w1 ⟨rfl, n, rfl⟩
    clear hd
    go_wp2
    go_ret
    left
    have hk : tagK s r.i = r.i := by unfold tagK dAt; rw [D.out]; simp
    have hn : tagN s r.i = 1 := by unfold tagN dAt; rw [D.out]; simp
    refine ⟨by unfold tagBad dAt; rw [D.out]; simp, rfl, ?_, (((Rd.refl _ _).set _ _).set _ _).drewN _, by rw [hk]; exact hi⟩
    rw [hk, hn]
    exact A0.out.drewN n
  | true =>
    have D := hide' hd
    refine (pisDigit' b s { r with bg := (r.i : Int), tm := 1 } _ true hd A0.out hi).mono ?_
    rintro e w1 ⟨rfl, n, rfl⟩
    clear hd
    go_wp2_with fail
    refine (pnumber b s _ _ (A0.out.drewN n) hi hs).mono ?_
    rintro e w2 (⟨hn, rfl, a2, r2, hj2⟩ | ⟨hn, rfl, a2, r2⟩)
    · have A2 := hide' a2
      have R2 := hide' r2
      have HN := hide' (show numSix s r.i = true from hn)
      have HJ := hide' (show (num s r.i).2 ≤ s.size from hj2)
      have g8 := a2.ten.c8
      have g9 := a2.ten.c9
      have gf9 := a2.ten.f9
      dsimp only at g8 g9
      clear a2 r2 hn hj2 c0 c1 c2 c3 c4 c5 c6 c7 c8 c9 f1 f2 f3 f4 f5 f6 f7 f8 f9
      by_cases q : (num s r.i).1 < 2
      · have n1 : ((num s r.i).1 : Int) < 2 := by omega
        go_wp2_with fail
        refine (pfail b s _ r.i _ _ _ rfl A2.out).mono ?_
        rintro e w3 ⟨rfl, a3, r3⟩
        have A3 := hide' a3
        have R3 := hide' r3
        have k9 := a3.ten.c9
        have kf9 := a3.ten.f9
        clear a3 r3
        go_wp2
        go_ret
        right
        refine ⟨by unfold tagBad dAt; rw [D.out]; simp; omega, rfl, ⟨_, A3.out.set_tm _⟩, ((((((Rd.refl _ _).set _ _).set _ _).drewN n).trans R2.out).trans R3.out).set _ _⟩
      · have n1 : ¬ ((num s r.i).1 : Int) < 2 := by omega
        go_wp2
        go_ret
        left
        have hk : tagK s r.i = (num s r.i).2 := by unfold tagK dAt; rw [D.out]; simp
        have hn : tagN s r.i = (num s r.i).1 := by unfold tagN dAt; rw [D.out]; simp
        refine ⟨by unfold tagBad dAt; rw [D.out, HN.out]; simp; omega, rfl, ?_, (((((Rd.refl _ _).set _ _).set _ _).drewN n).trans R2.out).set _ _, by rw [hk]; exact HJ.out⟩
        rw [hk, hn]
        exact A2.out.set_tm _
    · have A2 := hide' a2
      have R2 := hide' r2
      have HN := hide' (show numSix s r.i = false from hn)
      have g9 := a2.ten.c9
      have gf9 := a2.ten.f9
      dsimp only at g9
      clear a2 r2 hn c0 c1 c2 c3 c4 c5 c6 c7 c8 c9 f1 f2 f3 f4 f5 f6 f7 f8 f9
      go_wp2
      go_ret
      right
      refine ⟨by unfold tagBad dAt; rw [D.out, HN.out]; simp, rfl, ⟨0, A2.out.set_tm 0⟩, (((((Rd.refl _ _).set _ _).set _ _).drewN n).trans R2.out).set _ _⟩
end Go.Proofs.YtjngjnkecnnmeaaDoor

namespace Go.Proofs.YtjngjnkecnnmeaaDoor
open Go.RowKit
set_option linter.unusedVariables false

theorem prows (b : Nat) (s : ByteArray) (r : Rv) (w : World) (j y n H : Nat) (h : RAt b s r w) (hi : r.i < s.size) (hs : s.size ≤ 40000) (hj : r.bg = (j : Int)) (hy : r.dn = (y : Int)) (hn : r.tm = (n : Int)) (hH : r.hi = (H : Int)) (ly : y ≤ 100) (ln : n < 1000000) :
    Calls Tryd.prog 91 #[.pointer (some ⟨b, 0, none⟩)] w fun e w' => (H ≤ y + n ∧ e = .returned (.bool false) ∧ RAt b s { r with i := j, fl := 1 } w' ∧ Rd b w w') ∨ (¬ H ≤ y + n ∧ e = .returned (.bool true) ∧ RAt b s { r with i := r.i + 1, rt := 0, dn := ((y + n : Nat) : Int) } w' ∧ Rd b w w') := by
  have A := hide' h
  obtain ⟨c0, c1, c2, c3, c4, c5, c6, c7, c8, c9, f1, f2, f3, f4, f5, f6, f7, f8, f9⟩ := h.ten
  rw [hH] at c4
  rw [hy] at c7
  rw [hj] at c8
  rw [hn] at c9
  clear h hj hy hn hH
  by_cases q : H ≤ y + n
  · have n1 : (H : Int) ≤ (y : Int) + (n : Int) := by omega
    go_enter Tryd.func91, Tryd.ntmps91
    go_wp2
    go_quiet (fail)
    go_wp2_with fail
    refine (pfail b s _ j _ _ _ rfl (A.out.drewN _)).mono ?_
    rintro e w1 ⟨rfl, a1, r1⟩
    have A1 := hide' a1
    have R1 := hide' r1
    clear a1 r1
    go_wp2
    go_ret
    exact Or.inl ⟨q, rfl, A1.out, ((Rd.refl _ _).drewN _).trans R1.out⟩
  · have n1 : ¬ (H : Int) ≤ (y : Int) + (n : Int) := by omega
    go_enter Tryd.func91, Tryd.ntmps91
    go_wp2
    go_quiet (fail)
    go_wp2
    go_region
    go_wp2
    go_ret
    right
    refine ⟨q, rfl, ?_, (((((Rd.refl _ _).drewN _).set _ _).drewN _).set _ _).set _ _⟩
    rw [show (y : Int) + (n : Int) = ((y + n : Nat) : Int) by omega, show (r.i : Int) + 1 = ((r.i + 1 : Nat) : Int) by omega]
    exact ((((A.out.drewN _).set_rt 0).drewN _).set_dn ((y + n : Nat) : Int)).set_i (r.i + 1)

theorem pend (b : Nat) (s : ByteArray) (r : Rv) (w : World) (j : Nat) (h : RAt b s r w) (hi : r.i < s.size) (hs : s.size ≤ 40000) (hj : r.bg = (j : Int)) :
    Calls Tryd.prog 92 #[.pointer (some ⟨b, 0, none⟩)] w fun e w' => (r.i ≠ j ∧ e = .returned (.bool false) ∧ RAt b s { r with i := r.i, fl := 2 } w' ∧ Rd b w w') ∨ (r.i = j ∧ e = .returned (.bool true) ∧ RAt b s { r with i := r.i + 1 } w' ∧ Rd b w w') := by
  have A := hide' h
  obtain ⟨c0, c1, c2, c3, c4, c5, c6, c7, c8, c9, f1, f2, f3, f4, f5, f6, f7, f8, f9⟩ := h.ten
  rw [hj] at c8
  clear h hj
  by_cases q : r.i = j
  · have n1 : ((r.i : Int) == (j : Int)) = true := by simp; omega
    have n2 : ((r.i : Int) != (j : Int)) = false := by simp; omega
    have Q := hide' q
    clear q
    go_enter Tryd.func92, Tryd.ntmps92
    go_wp2
    go_quiet (fail)
    go_wp2
    go_ret
    right
    refine ⟨Q.out, rfl, ?_, ((Rd.refl _ _).drewN _).set _ _⟩
    rw [show (r.i : Int) + 1 = ((r.i + 1 : Nat) : Int) by omega]
    exact (A.out.drewN _).set_i (r.i + 1)
  · have n1 : ((r.i : Int) == (j : Int)) = false := by simp; omega
    have n2 : ((r.i : Int) != (j : Int)) = true := by simp; omega
    have Q := hide' q
    clear q
    go_enter Tryd.func92, Tryd.ntmps92
    go_wp2
    go_quiet (fail)
    go_wp2_with fail
    refine (pfail b s _ r.i _ _ _ rfl (A.out.drewN _)).mono ?_
    rintro e w1 ⟨rfl, a1, r1⟩
    have A1 := hide' a1
    have R1 := hide' r1
    clear a1 r1
    go_wp2
    go_ret
    exact Or.inl ⟨Q.out, rfl, A1.out, ((Rd.refl _ _).drewN _).trans R1.out⟩

set_option maxHeartbeats 1600000 in
theorem pcells (b g : Nat) (s : ByteArray) (r : Rv) (xs : List Int) (w : World) (B j x y n W H : Nat) (c : Int) (h : RAt b s r w) (hC : Cel w g xs) (hi : r.i < s.size) (hs : s.size ≤ 40000) (hj : r.bg = (j : Int)) (hx : r.rt = (x : Int)) (hy : r.dn = (y : Int)) (hn : r.tm = (n : Int)) (hW : r.wd = (W : Int)) (hH : r.hi = (H : Int))
    (hc : r.cs = .slice (some ⟨g, 0, none⟩) (W * H) (W * H)) (hl : xs.length = W * H) (hgb : g ≠ b) (hBb : B ≤ b) (hBg : B ≤ g) (lx : x ≤ W) (ly : y ≤ H) (lW : W ≤ 100) (lH : H ≤ 100) (ln : n < 1000000) :
    Calls Tryd.prog 90 #[.pointer (some ⟨b, 0, none⟩), .int .i64 c] w fun e w' => ((H ≤ y ∨ W < x + n) ∧ e = .returned (.bool false) ∧ RAt b s { r with i := j, fl := 1 } w' ∧ Rd b w w') ∨ (¬ (H ≤ y ∨ W < x + n) ∧ e = .returned (.bool true) ∧ RAt b s { r with i := r.i + 1, rt := ((x + n : Nat) : Int) } w' ∧ Cel w' g (setRun xs (y * W + x) n c) ∧ Below B w w') := by
  have A := hide' h
  have C := hide' hC
  obtain ⟨c0, c1, c2, c3, c4, c5, c6, c7, c8, c9, f1, f2, f3, f4, f5, f6, f7, f8, f9⟩ := h.ten
  rw [hW] at c3
  rw [hH] at c4
  rw [hc] at c5
  rw [hx] at c6
  rw [hy] at c7
  rw [hj] at c8
  rw [hn] at c9
  have RX := hide' hx
  have RC := hide' hc
  have RW := hide' hW
  have RY := hide' hy
  have HL := hide' hl
  clear h hC hj hx hy hn hW hH hc hl
  by_cases q : y = H
  · have n1 : ((y : Int) == (H : Int)) = true := by simp; omega
    have Q := hide' q
    clear q
    go_enter Tryd.func90, Tryd.ntmps90
    go_wp2
    go_quiet (fail)
    go_wp2_with fail
    refine (pfail b s _ j _ _ _ rfl (A.out.drewN _)).mono ?_
    rintro e w1 ⟨rfl, a1, r1⟩
    have A1 := hide' a1
    have R1 := hide' r1
    clear a1 r1
    go_wp2
    go_ret
    exact Or.inl ⟨Or.inl (by have := Q.out; omega), rfl, A1.out, ((Rd.refl _ _).drewN _).trans R1.out⟩
  · have n1 : ((y : Int) == (H : Int)) = false := by simp; omega
    by_cases q2 : W < x + n
    · have n2 : (W : Int) < (x : Int) + (n : Int) := by omega
      go_enter Tryd.func90, Tryd.ntmps90
      go_wp2
      go_quiet (fail)
      go_wp2_with fail
      refine (pfail b s _ j _ _ _ rfl (A.out.drewN _)).mono ?_
      rintro e w1 ⟨rfl, a1, r1⟩
      have A1 := hide' a1
      have R1 := hide' r1
      clear a1 r1
      go_wp2
      go_ret
      exact Or.inl ⟨Or.inr q2, rfl, A1.out, ((Rd.refl _ _).drewN _).trans R1.out⟩
    · have n2 : ¬ (W : Int) < (x : Int) + (n : Int) := by omega
      go_enter Tryd.func90, Tryd.ntmps90
      go_wp2
      go_quiet (fail)
      go_wp2
      obtain ⟨P, hP⟩ : ∃ P, y * W = P := ⟨_, rfl⟩
      obtain ⟨N, hN⟩ : ∃ N, W * H = N := ⟨_, rfl⟩
      have hPN : P + W ≤ N := by
        rw [← hP, ← hN, Nat.mul_comm W H]
        have := Nat.mul_le_mul_right W (show y + 1 ≤ H by omega)
        rw [Nat.add_mul] at this
        omega
      have hN4 : N ≤ 10000 := by rw [← hN]; exact Nat.mul_le_mul lW lH
      have hPi : (y : Int) * (W : Int) = (P : Int) := by rw [← hP]; simp
      have HL' := hide' (show xs.length = N by rw [← hN]; exact HL.out)
      rw [hN] at c5
      have HP := hide' hP
      have HN := hide' hN
      clear hP hN
      go_loopw [42] (fun kv wr => ∃ k R : Nat, kv = .int .i64 (k : Int) ∧ k ≤ n ∧ R = x + k ∧ RAt b s { r with rt := (R : Int) } wr ∧ Cel wr g (setRun xs (P + x) k c) ∧ Below B w wr) (fun kv _ => n - (intOf kv).toNat)
      case atStart => exact ⟨0, x, rfl, by omega, rfl, by rw [← RX.out]; exact A.out.drewN _, C.out.block (Nat.le_refl _) rfl, ⟨rfl, rfl, rfl, Nat.le_refl _, fun _ _ => rfl⟩⟩
      case round =>
        obtain ⟨k, R, rfl, hk, hR, a1, C1, b1⟩ := hrel
        have HRk := hide' hR
        have lR : x ≤ R := by omega
        have lR' : k < n → R < W := by omega
        clear hR
        have A1 := hide' a1
        have CC := hide' C1
        have BB := hide' b1
        have d1 := a1.ten.c1
        have d3 := a1.ten.c3
        have d5 := a1.ten.c5
        have d6 := a1.ten.c6
        have d7 := a1.ten.c7
        have df1 := a1.ten.f1
        have df6 := a1.ten.f6
        dsimp only at d1 d3 d5 d6 d7
        clear a1 C1 b1
        have e5 := RC.out
        rw [HN.out] at e5
        rw [RW.out] at d3
        rw [e5] at d5
        rw [RY.out] at d7
        clear e5
        by_cases d : k < n
        · have n3 : (k : Int) < (n : Int) := by omega
          have hpl : P + R < (setRun xs (P + x) k c).length := by rw [setRun_length, HL'.out]; have := lR' d; omega
          have hv := CC.out.cells (P + R) hpl
          have hf := CC.out.fz (P + R)
          have HPL := hide' hpl
          have hlt : P + R < N := by have := lR' d; omega
          have hlt2 : R < 100 := by have := lR' d; omega
          clear lR'
          clear hpl c0 c1 c2 c3 c4 c5 c6 c7 c8 c9 f1 f2 f3 f4 f5 f6 f7 f8 f9
          go_wp2
          go_region
          have A2 := hide' ((A1.out.setOther (p := ⟨g, P + R, none⟩) hgb.symm (.int .i64 c)).block (w' := (wr.setCell ⟨g, P + R, none⟩ (.int .i64 c)).drew) rfl)
          have e6 := A2.out.ten.c6
          have ef6 := A2.out.ten.f6
          dsimp only at e6
          clear d1 d3 d5 d6 d7 df1 df6 hv hf
          go_wp2
          refine ⟨⟨k + 1, R + 1, by go_num, by omega, by rw [HRk.out]; omega, by rw [show (R : Int) + 1 = ((R + 1 : Nat) : Int) by omega]; exact A2.out.set_rt ((R + 1 : Nat) : Int), ?_, ?_⟩, by simp [intOf]; omega⟩
          · have c2 := CC.out.set (P + R) c HPL.out
            have c3 := c2.block (w' := ((wr.setCell ⟨g, P + R, none⟩ (.int .i64 c)).drew).setCell ⟨b, 6, none⟩ (.int .i64 ((R : Int) + 1))) (by simp [World.setCell, World.drew]) (Below.heap_setCell _ _ _ _ hgb)
            rw [setRun, show P + x + k = P + R by rw [HRk.out]; omega]
            exact c3
          · exact ((BB.out.setCell (p := ⟨g, P + R, none⟩) hBg _).setCell (p := ⟨b, 6, none⟩) hBb _).trans ⟨rfl, rfl, rfl, Nat.le_refl _, fun _ _ => rfl⟩
        · have n3 : ¬ (k : Int) < (n : Int) := by omega
          have K := hide' (show k = n by omega)
          clear c0 c1 c2 c3 c4 c5 c6 c7 c8 c9 f1 f2 f3 f4 f5 f6 f7 f8 f9
          go_wp2
          go_ret
          right
          refine ⟨by omega, rfl, ?_, ?_, BB.out.setCell hBb _⟩
          · have := HRk.out
            rw [K.out] at this
            rw [show (r.i : Int) + 1 = ((r.i + 1 : Nat) : Int) by omega, show (x : Int) + (n : Int) = (R : Int) by omega]
            exact A1.out.set_i (r.i + 1)
          · have c3 := CC.out.block (w' := wr.setCell ⟨b, 1, none⟩ (.int .i64 ((r.i : Int) + 1))) (by simp [World.setCell]) (Below.heap_setCell _ _ _ _ hgb)
            rw [HP.out, ← K.out]
            exact c3
end Go.Proofs.YtjngjnkecnnmeaaDoor

namespace Go.Proofs.YtjngjnkecnnmeaaDoor
open Go

/-- As Q; by a goto to label l: J l. -/
def jumps (J : Nat → Act → World → Prop) (Q : Exit → Act → World → Prop) : Exit → Act → World → Prop
  | .goto l, a, w => J l a w
  | e, a, w => Q e a w

section
variable {P : Program} {a : Act} {w : World} {Q : Exit → Act → World → Prop}

theorem wp_scope_labels {c : Code} (J : Nat → Act → World → Prop) (μ : Nat → Act → World → Nat)
    (first : c.wp P (jumps J Q) a w)
    (pass : ∀ l a w, J l a w → ∃ rest, findLabel c l = some rest ∧ rest.wp P (jumps (fun l' a' w' => J l' a' w' ∧ μ l' a' w' < μ l a w) Q) a w) : (Code.scope c).wp P Q a w := by
  intro b k cs
  have key : ∀ n l a w, μ l a w = n → J l a w → ∃ rest, findLabel c l = some rest ∧ ∃ e a' w', Q e a' w' ∧ Arrives P (lone (b.at a (.code rest :: .inScope c :: k)) cs w) b k cs e a' w' := by
    intro n
    induction n using Nat.strongRecOn with
    | _ n ih =>
      intro l a w hn hJ
      obtain ⟨rest, hf, hp⟩ := pass l a w hJ
      refine ⟨rest, hf, ?_⟩
      obtain ⟨e, a₁, w₁, hq, harr⟩ := hp b (.inScope c :: k) cs
      cases e with
      | normal => exact ⟨.normal, a₁, w₁, hq, Steps.trans harr (.one step_inScope)⟩
      | exit id => exact ⟨.exit id, a₁, w₁, hq, fun k' hk => harr k' (by simp [exitTo, hk])⟩
      | goto l' =>
        obtain ⟨hJ', hlt⟩ := hq
        obtain ⟨rest', hf', e₂, a₂, w₂, hq₂, harr₂⟩ := ih _ (by omega) l' a₁ w₁ rfl hJ'
        have hg : gotoIn l' (.inScope c :: k) = some (.code rest' :: .inScope c :: k) := by simp [gotoIn, hf']
        exact ⟨e₂, a₂, w₂, hq₂, .of_steps (harr _ hg) harr₂⟩
      | ret => exact ⟨_, a₁, w₁, hq, harr⟩
      | panic ch => exact ⟨_, a₁, w₁, hq, harr⟩
      | outgrown => exact ⟨_, a₁, w₁, hq, harr⟩
  obtain ⟨e, a₁, w₁, hq, harr⟩ := first b (.inScope c :: k) cs
  cases e with
  | normal => exact ⟨.normal, a₁, w₁, hq, .head step_scope (Steps.trans harr (.one step_inScope))⟩
  | exit id => exact ⟨.exit id, a₁, w₁, hq, fun k' hk => .head step_scope (harr k' (by simp [exitTo, hk]))⟩
  | goto l' =>
    obtain ⟨rest', hf', e₂, a₂, w₂, hq₂, harr₂⟩ := key _ l' a₁ w₁ rfl hq
    have hg : gotoIn l' (.inScope c :: k) = some (.code rest' :: .inScope c :: k) := by simp [gotoIn, hf']
    exact ⟨e₂, a₂, w₂, hq₂, .of_steps (.head step_scope (harr _ hg)) harr₂⟩
  | ret => exact ⟨_, a₁, w₁, hq, .of_steps (.one step_scope) harr⟩
  | panic ch => exact ⟨_, a₁, w₁, hq, .of_steps (.one step_scope) harr⟩
  | outgrown => exact ⟨_, a₁, w₁, hq, .of_steps (.one step_scope) harr⟩
end
end Go.Proofs.YtjngjnkecnnmeaaDoor

namespace Go.Proofs.YtjngjnkecnnmeaaDoor
open Go.RowKit
set_option linter.unusedVariables false

/-- The frame at a jump: the text, where the result and the reader lie. -/
def RunFrame (s : ByteArray) (R b : Nat) (a' : Act) : Prop := ∃ u6 u7 u8 u9 u10 u11 u12 u13 u14 u15 u16 u17 u18 u19 u20 u21 u22 u23 u24 u25 u26 u27 u28 u29 u30 u31 u32 u33 u34 u35 u36 u37 u38 u39 u40 u41 u42 u43 u44 u45 u46 u47 u48 u49 : Value, a' = { tmps := #[.string s, undef, .pointer (some ⟨R, 0, none⟩), .int .i64 0, .nilIface, .pointer (some ⟨b, 0, none⟩), u6, u7, u8, u9, u10, u11, u12, u13, u14, u15, u16, u17, u18, u19, u20, u21, u22, u23, u24, u25, u26, u27, u28, u29, u30, u31, u32, u33, u34, u35, u36, u37, u38, u39, u40, u41, u42, u43, u44, u45, u46, u47, u48, u49], defers := [] }

/-- The result's block. -/
structure ResB (R : Nat) (w : World) : Prop where
  c0 : w.cell? ⟨R, 0, none⟩ = some (.int .i64 0)
  c1 : w.cell? ⟨R, 1, none⟩ = some (.int .i64 0)
  c2 : w.cell? ⟨R, 2, none⟩ = some (.slice none 0 0)
  f0 : w.frozen? ⟨R, 0, none⟩ = false
  f1 : w.frozen? ⟨R, 1, none⟩ = false
  f2 : w.frozen? ⟨R, 2, none⟩ = false
theorem ResB.block {R : Nat} {w w' : World} (h : ResB R w) (e : w'.heap[R]? = w.heap[R]?) : ResB R w' :=
  ⟨(World.cell?_of_block (w := w) (a := ⟨R, 0, none⟩) e).trans h.c0, (World.cell?_of_block (w := w) (a := ⟨R, 1, none⟩) e).trans h.c1, (World.cell?_of_block (w := w) (a := ⟨R, 2, none⟩) e).trans h.c2,
   (World.frozen?_of_block (w := w) (a := ⟨R, 0, none⟩) e).trans h.f0, (World.frozen?_of_block (w := w) (a := ⟨R, 1, none⟩) e).trans h.f1, (World.frozen?_of_block (w := w) (a := ⟨R, 2, none⟩) e).trans h.f2⟩
def resW (w : World) : World := w.alloc (.cells #[.int .i64 0, .int .i64 0, .slice none 0 0] 51)
theorem resW_size (w : World) : (resW w).heap.size = w.heap.size + 1 := by simp [resW]
theorem resW_res (w : World) : ResB w.heap.size (resW w) := by
  unfold resW
  exact ⟨cell_new_at _ _ _ _, cell_new_at _ _ _ _, cell_new_at _ _ _ _, by simp, by simp, by simp⟩
theorem ResB.below {w w' : World} {R : Nat} (h : ResB R w) (hR : R < w.heap.size) (hb : Below (R + 1) w w') : ResB R w' := h.block (hb.block R (by omega))

def fin2 (W H : Nat) : List Int ⊕ (Nat × Nat) → (Nat × Nat × List Int) ⊕ (Nat × Nat)
  | .inl xs => .inl (W, H, xs)
  | .inr e => .inr e
def fin3 (s : ByteArray) (W H i : Nat) (xs : List Int) : (Nat × Nat × List Int) ⊕ (Nat × Nat) :=
  if sk s i = s.size then .inl (W, H, xs) else .inr (sk s i, 2)

structure JWrong (s : ByteArray) (w0 w' : World) : Prop where
  at_ : ∃ r f : Nat, ∃ v : Rv, RAt (w0.heap.size + 1) s v w' ∧ v.i = r ∧ v.fl = (f : Int) ∧ runsS s = .inr (r, f)
  below : Below (w0.heap.size + 1) (resW w0) w'
structure JCells (s : ByteArray) (w0 w' : World) (v : Rv) (W H g : Nat) (xs : List Int) : Prop where
  rat : RAt (w0.heap.size + 1) s v w'
  wd : v.wd = (W : Int)
  hi : v.hi = (H : Int)
  cs : v.cs = .slice (some ⟨g, 0, none⟩) (W * H) (W * H)
  cel : Cel w' g xs
  len : xs.length = W * H
  gb : w0.heap.size + 1 < g
  lw : W ≤ 100
  lh : H ≤ 100
  li : v.i ≤ s.size
  below : Below (w0.heap.size + 1) (resW w0) w'
def JRun (s : ByteArray) (w0 w' : World) : Prop := ∃ (v : Rv) (W H g x y : Nat) (xs : List Int), JCells s w0 w' v W H g xs ∧ v.rt = (x : Int) ∧ v.dn = (y : Int) ∧ x ≤ W ∧ y ≤ H ∧ fin2 W H (tagsF s W H (s.size + 1 - v.i) v.i x y xs) = runsS s
def JRest (s : ByteArray) (w0 w' : World) : Prop := ∃ (v : Rv) (W H g : Nat) (xs : List Int), JCells s w0 w' v W H g xs ∧ fin3 s W H v.i xs = runsS s

def JAll (s : ByteArray) (w0 : World) (l : Nat) (a' : Act) (w' : World) : Prop :=
  RunFrame s w0.heap.size (w0.heap.size + 1) a' ∧ ((l = 0 ∧ JWrong s w0 w') ∨ (l = 1 ∧ JRun s w0 w') ∨ (l = 2 ∧ JRest s w0 w'))
def mAll (s : ByteArray) (w0 : World) (l : Nat) (_ : Act) (w' : World) : Nat := match l with | 0 => 0 | 2 => 1 | _ => 2 + (s.size - posOf (w0.heap.size + 1) w')

theorem JCells.rd {s : ByteArray} {w0 w' w'' : World} {v v' : Rv} {W H g : Nat} {xs : List Int} (h : JCells s w0 w' v W H g xs) (ha : RAt (w0.heap.size + 1) s v' w'') (hr : Rd (w0.heap.size + 1) w' w'') (h1 : v'.wd = v.wd) (h2 : v'.hi = v.hi) (h3 : v'.cs = v.cs) (h4 : v'.i ≤ s.size) : JCells s w0 w'' v' W H g xs :=
  ⟨ha, h1.trans h.wd, h2.trans h.hi, h3.trans h.cs, h.cel.rd hr (by have := h.gb; omega), h.len, h.gb, h.lw, h.lh, h4, h.below.trans (hr.below (Nat.le_refl _) (by have := h.below.size; rw [resW_size] at this; omega))⟩

def RunsPost (s : ByteArray) (w : World) (e : Ending) (w' : World) : Prop :=
  Below w.heap.size w w' ∧
  ((∃ W H xs g, runsS s = .inl (W, H, xs) ∧ e = .returned (.tuple #[.agg #[.int .i64 (W : Int), .int .i64 (H : Int), .slice (some ⟨g, 0, none⟩) (W * H) (W * H)], .int .i64 0, .nilIface]) ∧ Cel w' g xs ∧ xs.length = W * H ∧ W ≤ 100 ∧ H ≤ 100) ∨
   (∃ a f : Nat, runsS s = .inr (a, f) ∧ e = .returned (.tuple #[.agg #[.int .i64 0, .int .i64 0, .slice none 0 0], .int .i64 (a : Int), .iface 87 (.int .i64 (f : Int))])))

end Go.Proofs.YtjngjnkecnnmeaaDoor

namespace Go.Proofs.YtjngjnkecnnmeaaDoor
open Go.RowKit
set_option linter.unusedVariables false

theorem tag1_bad {s : ByteArray} {W H j x y : Nat} {xs : List Int} (h : tagBad s j = true) : tag1 s W H j x y xs = .bad j 2 := by
  unfold tag1; rw [if_pos h]
theorem tag1_none {s : ByteArray} {W H j x y : Nat} {xs : List Int} (h : tagBad s j = false) (h1 : ¬ bt s (tagK s j) = 98) (h2 : ¬ bt s (tagK s j) = 111) (h3 : ¬ bt s (tagK s j) = 36) (h4 : ¬ bt s (tagK s j) = 33) : tag1 s W H j x y xs = .bad (tagK s j) 2 := by
  unfold tag1
  rw [if_neg (by rw [h]; simp)]
  split
  · rfl
  · simp [h1, h2]
theorem tag1_cells_bad {s : ByteArray} {W H j x y : Nat} {xs : List Int} (h : tagBad s j = false) (hk : tagK s j < s.size) (h1 : bt s (tagK s j) = 98 ∨ bt s (tagK s j) = 111) (h2 : H ≤ y ∨ W < x + tagN s j) : tag1 s W H j x y xs = .bad j 1 := by
  unfold tag1
  rw [if_neg (by rw [h]; simp), if_neg (by omega), if_pos h1, if_pos h2]
theorem tag1_cells_on {s : ByteArray} {W H j x y : Nat} {xs : List Int} (c : Int) (h : tagBad s j = false) (hk : tagK s j < s.size) (h1 : bt s (tagK s j) = 98 ∨ bt s (tagK s j) = 111) (hc : (if bt s (tagK s j) = 111 then (1 : Int) else 0) = c) (h2 : ¬ (H ≤ y ∨ W < x + tagN s j)) : tag1 s W H j x y xs = .on (tagK s j + 1) (x + tagN s j) y (setRun xs (y * W + x) (tagN s j) c) := by
  unfold tag1
  rw [if_neg (by rw [h]; simp), if_neg (by omega), if_pos h1, if_neg h2, hc]
theorem tag1_rows_bad {s : ByteArray} {W H j x y : Nat} {xs : List Int} (h : tagBad s j = false) (hk : tagK s j < s.size) (h1 : bt s (tagK s j) = 36) (h2 : H ≤ y + tagN s j) : tag1 s W H j x y xs = .bad j 1 := by
  unfold tag1
  rw [if_neg (by rw [h]; simp), if_neg (by omega), if_neg (by omega), if_pos h1, if_pos h2]
theorem tag1_rows_on {s : ByteArray} {W H j x y : Nat} {xs : List Int} (h : tagBad s j = false) (hk : tagK s j < s.size) (h1 : bt s (tagK s j) = 36) (h2 : ¬ H ≤ y + tagN s j) : tag1 s W H j x y xs = .on (tagK s j + 1) 0 (y + tagN s j) xs := by
  unfold tag1
  rw [if_neg (by rw [h]; simp), if_neg (by omega), if_neg (by omega), if_pos h1, if_neg h2]
theorem tag1_end_bad {s : ByteArray} {W H j x y : Nat} {xs : List Int} (h : tagBad s j = false) (hk : tagK s j < s.size) (h1 : bt s (tagK s j) = 33) (h2 : tagK s j ≠ j) : tag1 s W H j x y xs = .bad (tagK s j) 2 := by
  unfold tag1
  rw [if_neg (by rw [h]; simp), if_neg (by omega), if_neg (by omega), if_neg (by omega), if_pos h1, if_pos (fun e => h2 e.symm)]
theorem tag1_end {s : ByteArray} {W H j x y : Nat} {xs : List Int} (h : tagBad s j = false) (hk : tagK s j < s.size) (h1 : bt s (tagK s j) = 33) (h2 : tagK s j = j) : tag1 s W H j x y xs = if sk s (tagK s j + 1) = s.size then .done xs else .bad (sk s (tagK s j + 1)) 2 := by
  unfold tag1
  rw [if_neg (by rw [h]; simp), if_neg (by omega), if_neg (by omega), if_neg (by omega), if_pos h1, if_neg (fun e => e h2.symm)]
theorem tag1_on {s : ByteArray} {W H j x y i' x' y' : Nat} {xs xs' : List Int} (h : tag1 s W H j x y xs = .on i' x' y' xs') : j < i' ∧ i' ≤ s.size := by
  have hk := tagK_ge s j
  unfold tag1 at h
  split at h
  · cases h
  split at h
  · cases h
  split at h
  · split at h
    · cases h
    · simp only [Sum.inl.injEq, Prod.mk.injEq] at h; omega
  split at h
  · split at h
    · cases h
    · simp only [Sum.inl.injEq, Prod.mk.injEq] at h; omega
  split at h
  · split at h
    · cases h
    · split at h <;> cases h
  · cases h

theorem tagsF_fuel (s : ByteArray) (W H : Nat) : ∀ f f' i x y xs, i ≤ s.size → s.size + 1 - i ≤ f → s.size + 1 - i ≤ f' → tagsF s W H f i x y xs = tagsF s W H f' i x y xs := by
  intro f
  induction f with
  | zero => intro f' i x y xs h1 h2; omega
  | succ f ih =>
    intro f' i x y xs h1 h2 h3
    obtain ⟨f'', rfl⟩ : ∃ f'', f' = f'' + 1 := ⟨f' - 1, by omega⟩
    simp only [tagsF]
    cases ht : tag1 s W H (sk s i) x y xs with
    | inl q =>
      obtain ⟨i', x', y', xs'⟩ := q
      have := tag1_on ht
      have := sk_ge s i
      exact ih f'' i' x' y' xs' (by omega) (by omega) (by omega)
    | inr q => cases q <;> rfl
theorem tagsF_bad {s : ByteArray} {W H i x y a e : Nat} {xs : List Int} (hi : i ≤ s.size) (h : tag1 s W H (sk s i) x y xs = .bad a e) : tagsF s W H (s.size + 1 - i) i x y xs = .inr (a, e) := by
  rw [show s.size + 1 - i = (s.size - i) + 1 by omega, tagsF, h]
theorem tagsF_done {s : ByteArray} {W H i x y : Nat} {xs ys : List Int} (hi : i ≤ s.size) (h : tag1 s W H (sk s i) x y xs = .done ys) : tagsF s W H (s.size + 1 - i) i x y xs = .inl ys := by
  rw [show s.size + 1 - i = (s.size - i) + 1 by omega, tagsF, h]
theorem tagsF_on {s : ByteArray} {W H i x y i' x' y' : Nat} {xs xs' : List Int} (hi : i ≤ s.size) (h : tag1 s W H (sk s i) x y xs = .on i' x' y' xs') : tagsF s W H (s.size + 1 - i) i x y xs = tagsF s W H (s.size + 1 - i') i' x' y' xs' := by
  rw [show s.size + 1 - i = (s.size - i) + 1 by omega, tagsF, h]
  have := tag1_on h
  have := sk_ge s i
  exact tagsF_fuel s W H _ _ _ _ _ _ (by omega) (by omega) (by omega)
theorem fin_end {s : ByteArray} {W H i x y : Nat} {xs : List Int} (hi : i ≤ s.size) (h : tag1 s W H (sk s i) x y xs = if sk s (tagK s (sk s i) + 1) = s.size then .done xs else .bad (sk s (tagK s (sk s i) + 1)) 2) :
    fin2 W H (tagsF s W H (s.size + 1 - i) i x y xs) = fin3 s W H (tagK s (sk s i) + 1) xs := by
  unfold fin3
  split
  · rename_i q
    rw [if_pos q] at h
    rw [tagsF_done hi h]; rfl
  · rename_i q
    rw [if_neg q] at h
    rw [tagsF_bad hi h]; rfl
theorem tagN_lt {s : ByteArray} {j : Nat} (h : tagBad s j = false) : tagN s j < 1000000 := by
  unfold tagN
  split
  · rename_i hd
    unfold tagBad at h
    rw [hd] at h
    simp at h
    exact num_bound s j (numSix_true.1 h.1).2.2
  · omega

theorem JWrong.mk' {s : ByteArray} {w0 w' w'' : World} {v v' : Rv} {W H g : Nat} {xs : List Int} (h : JCells s w0 w' v W H g xs) (ha : RAt (w0.heap.size + 1) s v' w'') (hr : Rd (w0.heap.size + 1) w' w'') (r f : Nat) (h1 : v'.i = r) (h2 : v'.fl = (f : Int)) (h3 : runsS s = .inr (r, f)) : JWrong s w0 w'' :=
  ⟨⟨r, f, v', ha, h1, h2, h3⟩, h.below.trans (hr.below (Nat.le_refl _) (by have := h.below.size; rw [resW_size] at this; omega))⟩
theorem JCells.cells {s : ByteArray} {w0 w' w'' : World} {v v' : Rv} {W H g : Nat} {xs xs' : List Int} (h : JCells s w0 w' v W H g xs) (ha : RAt (w0.heap.size + 1) s v' w'') (hb : Below (w0.heap.size + 1) w' w'') (hC : Cel w'' g xs') (hl : xs'.length = xs.length) (h1 : v'.wd = v.wd) (h2 : v'.hi = v.hi) (h3 : v'.cs = v.cs) (h4 : v'.i ≤ s.size) : JCells s w0 w'' v' W H g xs' :=
  ⟨ha, h1.trans h.wd, h2.trans h.hi, h3.trans h.cs, hC, hl.trans h.len, h.gb, h.lw, h.lh, h4, h.below.trans hb⟩
end Go.Proofs.YtjngjnkecnnmeaaDoor

namespace Go.Proofs.YtjngjnkecnnmeaaDoor
open Go.RowKit
set_option linter.unusedVariables false

structure RS (w wr : World) (P W H : Nat) (xs : List Int) : Prop where
  res : ResB w.heap.size wr
  non : ResB (w.heap.size + 1) wr
  p0 : wr.cell? ⟨P, 0, none⟩ = some (.int .i64 (W : Int))
  p1 : wr.cell? ⟨P, 1, none⟩ = some (.int .i64 (H : Int))
  p2 : wr.cell? ⟨P, 2, none⟩ = some (.slice (some ⟨P + 1, 0, none⟩) (W * H) (W * H))
  cel : Cel wr (P + 1) xs
  len : xs.length = W * H
  hP : w.heap.size + 2 ≤ P
  below : Below w.heap.size w wr
theorem RS.set {w wr : World} {P W H : Nat} {xs : List Int} (h : RS w wr P W H xs) (p : Nat) (x : Int) (hp : p < xs.length) : RS w (wr.setCell ⟨P + 1, p, none⟩ (.int .i64 x)) P W H (xs.set p x) := by
  have hP := h.hP
  refine ⟨h.res.block (Below.heap_setCell _ _ _ _ (by simp; omega)), h.non.block (Below.heap_setCell _ _ _ _ (by simp; omega)), ?_, ?_, ?_, h.cel.set p x hp, by rw [List.length_set]; exact h.len, hP, h.below.setCell (by simp; omega) _⟩
  · exact (World.cell?_of_block (w := wr) (a := ⟨P, 0, none⟩) (Below.heap_setCell _ _ _ _ (by simp))).trans h.p0
  · exact (World.cell?_of_block (w := wr) (a := ⟨P, 1, none⟩) (Below.heap_setCell _ _ _ _ (by simp))).trans h.p1
  · exact (World.cell?_of_block (w := wr) (a := ⟨P, 2, none⟩) (Below.heap_setCell _ _ _ _ (by simp))).trans h.p2

def zeros (xs : List Int) (p : Nat) : Prop := ∀ q, p ≤ q → xs.getD q 0 = 0
theorem zeros_mono {xs : List Int} {p p' : Nat} (h : zeros xs p) (hp : p ≤ p') : zeros xs p' := fun q hq => h q (by omega)
theorem zeros_replicate (n p : Nat) : zeros (List.replicate n 0) p := fun q _ => by
  simp [List.getD, List.getElem?_replicate]
  split <;> rfl
theorem setRun_zero {xs : List Int} {p : Nat} (h : zeros xs p) (n : Nat) : setRun xs p n 0 = xs := by
  induction n with
  | zero => rfl
  | succ n ih =>
    rw [setRun, ih]
    have := h (p + n) (by omega)
    apply List.ext_getElem?
    intro k
    rw [List.getElem?_set]
    split
    · rename_i e
      subst e
      split
      · rename_i hl
        simp [List.getD, hl] at this
        simp [this, hl]
      · rename_i hl
        rw [List.getElem?_eq_none (by omega)]
    · rfl
theorem setRun_zeros {xs : List Int} {p : Nat} (v : Int) : ∀ n, zeros xs (p + n) → zeros (setRun xs p n v) (p + n) := by
  intro n h q hq
  have : ∀ m, m ≤ n → (setRun xs p m v).getD q 0 = xs.getD q 0 := by
    intro m hm
    induction m with
    | zero => rfl
    | succ m ih =>
      rw [setRun]
      rw [← ih (by omega)]
      simp only [List.getD]
      rw [List.getElem?_set_ne (by omega)]
  rw [this n (Nat.le_refl _)]
  exact h q hq

def RefRuns (s : ByteArray) (w : World) (e : Ending) (w' : World) : Prop :=
  Below w.heap.size w w' ∧
  ((∃ W H xs g, runsS s = .inl (W, H, xs) ∧ e = .returned (.tuple #[.agg #[.int .i64 (W : Int), .int .i64 (H : Int), .slice (some ⟨g, 0, none⟩) (W * H) (W * H)], .int .i64 0, .int .i64 0]) ∧ Cel w' g xs ∧ xs.length = W * H ∧ W ≤ 100 ∧ H ≤ 100) ∨
   (∃ a f : Nat, runsS s = .inr (a, f) ∧ 1 ≤ f ∧ e = .returned (.tuple #[.agg #[.int .i64 0, .int .i64 0, .slice none 0 0], .int .i64 (a : Int), .int .i64 (f : Int)])))

/-- The result's block, written. -/
theorem fin_below {w wr : World} (hb : Below w.heap.size w wr) (a b c : Value) : Below w.heap.size w (((wr.setCell ⟨w.heap.size, 0, none⟩ a).setCell ⟨w.heap.size, 1, none⟩ b).setCell ⟨w.heap.size, 2, none⟩ c) :=
  ((hb.setCell (Nat.le_refl _) _).setCell (Nat.le_refl _) _).setCell (Nat.le_refl _) _
theorem fin_cel {w wr : World} {g : Nat} {xs : List Int} (h : Cel wr g xs) (hg : g ≠ w.heap.size) (a b c : Value) : Cel (((wr.setCell ⟨w.heap.size, 0, none⟩ a).setCell ⟨w.heap.size, 1, none⟩ b).setCell ⟨w.heap.size, 2, none⟩ c) g xs :=
  ((h.rd ((Rd.refl w.heap.size _).set 0 _) hg).rd ((Rd.refl w.heap.size _).set 1 _) hg).rd ((Rd.refl w.heap.size _).set 2 _) hg
theorem res_new (w : World) (t : TypeId) : ResB w.heap.size (w.alloc (.cells #[.int .i64 0, .int .i64 0, .slice none 0 0] t)) :=
  ⟨cell_new_at _ _ _ _, cell_new_at _ _ _ _, cell_new_at _ _ _ _, by simp, by simp, by simp⟩
theorem RS.start {w w1 : World} {W H : Nat} (t1 t2 t3 t4 : TypeId) (hW : W ≤ 100) (hH : H ≤ 100)
    (hb : Below (w.heap.size + 2) ((w.alloc (.cells #[.int .i64 0, .int .i64 0, .slice none 0 0] t1)).alloc (.cells #[.int .i64 0, .int .i64 0, .slice none 0 0] t2)) w1) (N : Nat) (hN : W * H = N) :
    RS w ((w1.alloc (.cells #[.int .i64 (W : Int), .int .i64 (H : Int), .slice (some ⟨w1.heap.size + 1, 0, none⟩) N N] t3)).alloc (.cells (madeCells #[.int .i64 0] N) t4)) w1.heap.size W H (List.replicate N 0) := by
  subst hN
  have z := hb.size
  simp at z
  have r0 := (res_new w t1).block (w' := (w.alloc (.cells #[.int .i64 0, .int .i64 0, .slice none 0 0] t1)).alloc (.cells #[.int .i64 0, .int .i64 0, .slice none 0 0] t2)) (Below.heap_alloc _ _ _ (by simp))
  have r1 := res_new (w.alloc (.cells #[.int .i64 0, .int .i64 0, .slice none 0 0] t1)) t2
  rw [show (w.alloc (.cells #[.int .i64 0, .int .i64 0, .slice none 0 0] t1)).heap.size = w.heap.size + 1 by simp] at r1
  have e : ∀ k, k < w1.heap.size → ((w1.alloc (.cells #[.int .i64 (W : Int), .int .i64 (H : Int), .slice (some ⟨w1.heap.size + 1, 0, none⟩) (W * H) (W * H)] t3)).alloc (.cells (madeCells #[.int .i64 0] (W * H)) t4)).heap[k]? = w1.heap[k]? := fun k hk =>
    (Below.heap_alloc _ _ _ (by simp; omega)).trans (Below.heap_alloc _ _ _ hk)
  refine ⟨(r0.block (hb.block _ (by omega))).block (e _ (by omega)), (r1.block (hb.block _ (by omega))).block (e _ (by omega)), ?_, ?_, ?_, ⟨by simp, fun k hk => ?_, fun k => by simp⟩, by simp, z, ?_⟩
  · rw [World.cell?_alloc_past _ _ _ (by simp), World.cell?_alloc_at _ _ _ _ rfl]; rfl
  · rw [World.cell?_alloc_past _ _ _ (by simp), World.cell?_alloc_at _ _ _ _ rfl]; rfl
  · rw [World.cell?_alloc_past _ _ _ (by simp), World.cell?_alloc_at _ _ _ _ rfl]; rfl
  · rw [World.cell?_alloc_at _ _ _ _ (by simp)]
    rw [List.length_replicate] at hk
    rw [show (List.replicate (W * H) (0 : Int)).getD k 0 = 0 by simp [List.getD, hk]]
    rw [← Array.getElem?_toList, toList_madeCells_one]
    simp [hk]
  · exact (((((Below.refl _ _).alloc (Nat.le_refl _) _).alloc (by simp) _).trans (hb.mono (by omega))).alloc (by omega) _).alloc (by simp; omega) _
end Go.Proofs.YtjngjnkecnnmeaaDoor

namespace Go.Proofs.YtjngjnkecnnmeaaDoor
open Go.RowKit
set_option linter.unusedVariables false

/-- Three values in a block. -/
structure TB (p : Nat) (a b c : Value) (w : World) : Prop where
  c0 : w.cell? ⟨p, 0, none⟩ = some a
  c1 : w.cell? ⟨p, 1, none⟩ = some b
  c2 : w.cell? ⟨p, 2, none⟩ = some c
  fz : ∀ k, w.frozen? ⟨p, k, none⟩ = false
theorem TB.lt {p : Nat} {a b c : Value} {w : World} (h : TB p a b c w) : p < w.heap.size := by
  rcases Nat.lt_or_ge p w.heap.size with k | k
  · exact k
  · have := h.c0; simp [World.cell?, Array.getElem?_eq_none k] at this
theorem TB.block {p : Nat} {a b c : Value} {w w' : World} (h : TB p a b c w) (e : w'.heap[p]? = w.heap[p]?) : TB p a b c w' :=
  ⟨(World.cell?_of_block (w := w) (a := ⟨p, 0, none⟩) e).trans h.c0, (World.cell?_of_block (w := w) (a := ⟨p, 1, none⟩) e).trans h.c1, (World.cell?_of_block (w := w) (a := ⟨p, 2, none⟩) e).trans h.c2, fun k => (World.frozen?_of_block (w := w) (a := ⟨p, k, none⟩) e).trans (h.fz k)⟩
theorem TB.next {p : Nat} {a b c : Value} {w w' : World} (h : TB p a b c w) (hb : Below w.heap.size w w') : TB p a b c w' := h.block (hb.block p h.lt)
theorem TB.alloc {p : Nat} {a b c : Value} {w : World} (h : TB p a b c w) (o : Obj) : TB p a b c (w.alloc o) := h.block (Below.heap_alloc _ _ _ h.lt)
theorem TB.new (w : World) (a b c : Value) (t : TypeId) : TB w.heap.size a b c (w.alloc (.cells #[a, b, c] t)) :=
  ⟨cell_new_at _ _ _ _, cell_new_at _ _ _ _, cell_new_at _ _ _ _, fun k => by simp⟩

/-- A turning's memory: the box, the result's block, the new pattern's block, its cells. -/
structure TW (w wr : World) (O g W H W' H' n k : Nat) (f : Nat → Nat) (xs : List Int) (a : Option Addr) (c : Nat) : Prop where
  box : TB w.heap.size (.int .i64 (W : Int)) (.int .i64 (H : Int)) (.slice a n c) wr
  res : TB (w.heap.size + 1) (.int .i64 0) (.int .i64 0) (.slice none 0 0) wr
  out : TB O (.int .i64 (W' : Int)) (.int .i64 (H' : Int)) (.slice (some ⟨g, 0, none⟩) n n) wr
  sc : ScJ w wr g n k f xs
  hg : w.heap.size + 2 ≤ g
  hO : g < O
theorem TW.step {w wr : World} {O g W H W' H' n k : Nat} {f : Nat → Nat} {xs : List Int} {a : Option Addr} {c : Nat} (h : TW w wr O g W H W' H' n k f xs a c) (m : Nat) (hk : f k < n) (hinj : ∀ i, i < k → f i ≠ f k) {x : Int} (hx : xs.getD k 0 = x) : TW w ((wr.drewN m).setCell ⟨g, f k, none⟩ (.int .i64 x)) O g W H W' H' n (k + 1) f xs a c := by
  have h1 := h.hg
  have h2 := h.hO
  exact ⟨(h.box.block rfl).block (Below.heap_setCell _ _ _ _ (by simp; omega)), (h.res.block rfl).block (Below.heap_setCell _ _ _ _ (by simp; omega)), (h.out.block rfl).block (Below.heap_setCell _ _ _ _ (by simp; omega)), (h.sc.drewN m).step hk hinj hx, h1, h2⟩

theorem TW.start {w w1 : World} {g W H W' H' n : Nat} {f : Nat → Nat} {xs ys : List Int} {a : Option Addr} {c : Nat} (t1 t2 t3 : TypeId) (hg : ((w.alloc (.cells #[.int .i64 (W : Int), .int .i64 (H : Int), .slice a n c] t1)).alloc (.cells #[.int .i64 0, .int .i64 0, .slice none 0 0] t2)).heap.size ≤ g)
    (hc : Cel w1 g ys) (hn : ys.length = n) (hb : Below ((w.alloc (.cells #[.int .i64 (W : Int), .int .i64 (H : Int), .slice a n c] t1)).alloc (.cells #[.int .i64 0, .int .i64 0, .slice none 0 0] t2)).heap.size ((w.alloc (.cells #[.int .i64 (W : Int), .int .i64 (H : Int), .slice a n c] t1)).alloc (.cells #[.int .i64 0, .int .i64 0, .slice none 0 0] t2)) w1) :
    TW w (w1.alloc (.cells #[.int .i64 (W' : Int), .int .i64 (H' : Int), .slice (some ⟨g, 0, none⟩) n n] t3)) w1.heap.size g W H W' H' n 0 f xs a c := by
  have r1 := TB.new (w.alloc (.cells #[.int .i64 (W : Int), .int .i64 (H : Int), .slice a n c] t1)) (.int .i64 0) (.int .i64 0) (.slice none 0 0) t2
  rw [World.size_alloc] at r1
  simp only [World.size_alloc] at hg hb
  have hz := hb.size
  simp only [World.size_alloc] at hz
  have hlt := hc.lt
  have BB : Below w.heap.size w (w1.alloc (.cells #[.int .i64 (W' : Int), .int .i64 (H' : Int), .slice (some ⟨g, 0, none⟩) n n] t3)) :=
    ((((Below.refl _ _).alloc (Nat.le_refl _) _).alloc (by simp) _).trans (hb.mono (by omega))).alloc (by omega) _
  exact ⟨(((TB.new w _ _ _ t1).alloc _).block (hb.block _ (by omega))).alloc _, (r1.block (hb.block _ (by omega))).alloc _, TB.new w1 _ _ _ t3, ScJ.start f xs ys BB (by omega) (hc.block (by simp) (Below.heap_alloc _ _ _ hlt)) hn, by omega, hlt⟩

set_option maxHeartbeats 1600000 in
theorem pmirrored (W H : Nat) (xs : List Int) (a : Option Addr) (n c : Nat) (w : World) (hP : ArgP w xs a n c) (lW : W ≤ 100) (lH : H ≤ 100) (hn : n = W * H) :
    Calls Tryd.prog 124 #[.agg #[.int .i64 (W : Int), .int .i64 (H : Int), .slice a n c]] w fun e w' => ∃ g, e = .returned (.agg #[.int .i64 (W : Int), .int .i64 (H : Int), .slice (some ⟨g, 0, none⟩) n n]) ∧ w.heap.size ≤ g ∧ Cel w' g (mirP W H xs) ∧ Below w.heap.size w w' := by
  have hN4 : n ≤ 10000 := by rw [hn]; exact Nat.mul_le_mul lW lH
  have HP := hide' hP
  have HL := hide' hP.len
  have HN := hide' hn
  clear hP hn
  go_enter Tryd.func124, Tryd.ntmps124
  go_wp2_with fail
  refine (pblank W H _ lW lH).mono ?_
  rw [← HN.out]
  rintro e w1 ⟨g, rfl, hg, C, b1⟩
  have T0 := hide' (TW.start (W' := W) (H' := H) (f := mirI W H) (xs := xs) 51 51 51 hg C (by simp) b1)
  obtain ⟨x0, x1, x2, -⟩ := T0.out.box
  clear hg C b1
  go_wp2
  go_loopw [16] (fun kv wr => ∃ k : Nat, kv = .int .i64 (k : Int) ∧ k ≤ n ∧ TW w wr w1.heap.size g W H W H n k (mirI W H) xs a c) (fun kv _ => n - (intOf kv).toNat)
  case atStart => exact ⟨0, rfl, by omega, T0.out⟩
  case round =>
    obtain ⟨k, rfl, hk, tw⟩ := hrel
    have T := hide' tw
    clear tw T0 x0 x1 x2
    by_cases d : (k : Int) < (n : Int)
    · have hkl : k < xs.length := by have := HL.out; omega
      have hkn : k < W * H := by rw [← HN.out]; omega
      obtain ⟨ga, off, rfl, hga, hc⟩ := (HP.out.below T.out.sc.below).cells k hkl
      obtain ⟨x, hx⟩ : ∃ x, xs[k] = x := ⟨_, rfl⟩
      rw [hx] at hc
      have HX := hide' (show xs.getD k 0 = x by rw [← hx]; simp [List.getD, hkl])
      have b0 := T.out.box.c0
      have o2 := T.out.out.c2
      have o0 := T.out.out.c0
      obtain ⟨X, Y, hX, hY, hXe, hYe, hs⟩ := split_lt hkn
      have hW0 : ¬ (W : Int) = 0 := by omega
      have q1 : (k : Int) / (W : Int) = (Y : Int) := by rw [← hYe]; simp
      have q2 : (k : Int) % (W : Int) = (X : Int) := by rw [← hXe]; simp
      obtain ⟨PP, hPP⟩ : ∃ PP, Y * W = PP := ⟨_, rfl⟩
      have q3 : (Y : Int) * (W : Int) = (PP : Int) := by rw [← hPP]; simp
      obtain ⟨Q, hQ⟩ : ∃ Q, Q = PP + (W - 1 - X) := ⟨_, rfl⟩
      have q4 : (PP : Int) + (W : Int) - 1 - (X : Int) = (Q : Int) := by omega
      have hQf : Q = mirI W H k := by unfold mirI; rw [hYe, hXe, hPP]; exact hQ
      have hQn : Q < n := by rw [hQf, HN.out]; exact mirI_lt hkn
      have hPk : PP ≤ k := by omega
      obtain ⟨v, hv, -⟩ := T.out.sc.cells Q hQn
      have hf := T.out.sc.fz Q
      have HQ := hide' hQf
      have INJ := hide' (show ∀ i, i < k → mirI W H i ≠ mirI W H k from fun i hi he => by
        have h1 := mirI_mirI (W := W) (H := H) (i := i) (by omega)
        have h2 := mirI_mirI (W := W) (H := H) (i := k) hkn
        rw [he, h2] at h1
        omega)
      clear hx hQ hQf hPP hs hXe hYe
      go_wp2
      go_quiet (fail)
      go_wp2
      refine ⟨⟨k + 1, by go_num, by omega, ?_⟩, by simp [intOf]; omega⟩
      rw [HQ.out]
      exact T.out.step _ (by rw [← HQ.out]; exact hQn) INJ.out HX.out
    · have K := hide' (show k = n by omega)
      obtain ⟨o0, o1, o2, -⟩ := T.out.out
      obtain ⟨r0, r1, r2, rf⟩ := T.out.res
      have f0 := rf 0
      have f1 := rf 1
      have f2 := rf 2
      clear rf
      go_wp2
      refine bodyPost_ret (v := .agg #[.int .i64 (W : Int), .int .i64 (H : Int), .slice (some ⟨g, 0, none⟩) n n]) (by simp [results, Tryd.results124, go_sem, r0, r1, r2]) rfl ?_
      have hgg := T.out.hg
      have C := (show ScJ w wr g n n (mirI W H) xs by have := T.out.sc; rw [K.out] at this; exact this).cel (fi := mirI W H) (fun j hj => by rw [HN.out] at hj ⊢; exact mirI_lt hj) (fun j hj => mirI_mirI (by rw [← HN.out]; exact hj))
      rw [HN.out] at C
      refine ⟨g, rfl, by omega, ((C.rd ((Rd.refl (w.heap.size + 1) _).set 0 _) (by omega)).rd ((Rd.refl (w.heap.size + 1) _).set 1 _) (by omega)).rd ((Rd.refl (w.heap.size + 1) _).set 2 _) (by omega), ?_⟩
      exact ((T.out.sc.below.setCell (by simp) _).setCell (by simp) _).setCell (by simp) _
end Go.Proofs.YtjngjnkecnnmeaaDoor

namespace Go.Proofs.YtjngjnkecnnmeaaDoor
open Go.RowKit
set_option linter.unusedVariables false

set_option maxHeartbeats 1600000 in
theorem pquarter (W H : Nat) (xs : List Int) (a : Option Addr) (n c : Nat) (w : World) (hP : ArgP w xs a n c) (lW : W ≤ 100) (lH : H ≤ 100) (hn : n = W * H) :
    Calls Tryd.prog 125 #[.agg #[.int .i64 (W : Int), .int .i64 (H : Int), .slice a n c]] w fun e w' => ∃ g, e = .returned (.agg #[.int .i64 (H : Int), .int .i64 (W : Int), .slice (some ⟨g, 0, none⟩) n n]) ∧ w.heap.size ≤ g ∧ Cel w' g (qtrP W H xs) ∧ Below w.heap.size w w' := by
  have hN4 : n ≤ 10000 := by rw [hn]; exact Nat.mul_le_mul lW lH
  have HP := hide' hP
  have HL := hide' hP.len
  have HN := hide' hn
  have HM := hide' (show n = H * W by rw [hn, Nat.mul_comm])
  clear hP hn
  go_enter Tryd.func125, Tryd.ntmps125
  go_wp2_with fail
  refine (pblank H W _ lH lW).mono ?_
  rw [← HM.out]
  rintro e w1 ⟨g, rfl, hg, C, b1⟩
  have T0 := hide' (TW.start (W' := H) (H' := W) (f := qtrI W H) (xs := xs) 51 51 51 hg C (by simp) b1)
  obtain ⟨x0, x1, x2, -⟩ := T0.out.box
  clear hg C b1
  go_wp2
  go_loopw [16] (fun kv wr => ∃ k : Nat, kv = .int .i64 (k : Int) ∧ k ≤ n ∧ TW w wr w1.heap.size g W H H W n k (qtrI W H) xs a c) (fun kv _ => n - (intOf kv).toNat)
  case atStart => exact ⟨0, rfl, by omega, T0.out⟩
  case round =>
    obtain ⟨k, rfl, hk, tw⟩ := hrel
    have T := hide' tw
    clear tw T0 x0 x1 x2
    by_cases d : (k : Int) < (n : Int)
    · have hkl : k < xs.length := by have := HL.out; omega
      have hkn : k < W * H := by rw [← HN.out]; omega
      obtain ⟨ga, off, rfl, hga, hc⟩ := (HP.out.below T.out.sc.below).cells k hkl
      obtain ⟨x, hx⟩ : ∃ x, xs[k] = x := ⟨_, rfl⟩
      rw [hx] at hc
      have HX := hide' (show xs.getD k 0 = x by rw [← hx]; simp [List.getD, hkl])
      have b0 := T.out.box.c0
      have b1 := T.out.box.c1
      have o2 := T.out.out.c2
      have o0 := T.out.out.c0
      obtain ⟨X, Y, hX, hY, hXe, hYe, hs⟩ := split_lt hkn
      have hW0 : ¬ (W : Int) = 0 := by omega
      have q1 : (k : Int) / (W : Int) = (Y : Int) := by rw [← hYe]; simp
      have q2 : (k : Int) % (W : Int) = (X : Int) := by rw [← hXe]; simp
      obtain ⟨PP, hPP⟩ : ∃ PP, X * H = PP := ⟨_, rfl⟩
      have q3 : (X : Int) * (H : Int) = (PP : Int) := by rw [← hPP]; simp
      obtain ⟨Q, hQ⟩ : ∃ Q, Q = PP + (H - 1 - Y) := ⟨_, rfl⟩
      have q4 : (PP : Int) + (H : Int) - 1 - (Y : Int) = (Q : Int) := by omega
      have hQf : Q = qtrI W H k := by unfold qtrI; rw [hYe, hXe, hPP]; exact hQ
      have hQn : Q < n := by rw [hQf, HM.out]; exact qtrI_lt hkn
      have hPk : PP ≤ 10000 := by rw [← hPP]; exact Nat.le_trans (Nat.mul_le_mul (show X ≤ 100 by omega) lH) (by omega)
      obtain ⟨v, hv, -⟩ := T.out.sc.cells Q hQn
      have hf := T.out.sc.fz Q
      have HQ := hide' hQf
      have INJ := hide' (show ∀ i, i < k → qtrI W H i ≠ qtrI W H k from fun i hi he => by
        have h1 := qtrJ_qtrI (W := W) (H := H) (i := i) (by omega)
        have h2 := qtrJ_qtrI (W := W) (H := H) (i := k) hkn
        rw [he, h2] at h1
        omega)
      clear hx hQ hQf hPP hs hXe hYe
      go_wp2
      go_quiet (fail)
      go_wp2
      refine ⟨⟨k + 1, by go_num, by omega, ?_⟩, by simp [intOf]; omega⟩
      rw [HQ.out]
      exact T.out.step _ (by rw [← HQ.out]; exact hQn) INJ.out HX.out
    · have K := hide' (show k = n by omega)
      obtain ⟨o0, o1, o2, -⟩ := T.out.out
      obtain ⟨r0, r1, r2, rf⟩ := T.out.res
      have f0 := rf 0
      have f1 := rf 1
      have f2 := rf 2
      clear rf
      go_wp2
      refine bodyPost_ret (v := .agg #[.int .i64 (H : Int), .int .i64 (W : Int), .slice (some ⟨g, 0, none⟩) n n]) (by simp [results, Tryd.results125, go_sem, r0, r1, r2]) rfl ?_
      have hgg := T.out.hg
      have C := (show ScJ w wr g n n (qtrI W H) xs by have := T.out.sc; rw [K.out] at this; exact this).cel (fi := qtrJ W H) (fun j hj => by rw [HM.out] at hj; rw [HN.out]; exact qtrJ_lt hj) (fun j hj => qtrI_qtrJ (by rw [← HM.out]; exact hj))
      rw [HM.out] at C
      refine ⟨g, rfl, by omega, ((C.rd ((Rd.refl (w.heap.size + 1) _).set 0 _) (by omega)).rd ((Rd.refl (w.heap.size + 1) _).set 1 _) (by omega)).rd ((Rd.refl (w.heap.size + 1) _).set 2 _) (by omega), ?_⟩
      exact ((T.out.sc.below.setCell (by simp) _).setCell (by simp) _).setCell (by simp) _
end Go.Proofs.YtjngjnkecnnmeaaDoor

namespace Go.Proofs.YtjngjnkecnnmeaaDoor
open Go.RowKit
set_option linter.unusedVariables false

/-- A cell by its place. -/
def atP (W : Nat) (xs : List Int) (x y : Nat) : Int := xs.getD (y * W + x) 0
structure Pat where
  W : Nat
  H : Nat
  xs : List Int
def Pat.ok (p : Pat) : Prop := p.xs.length = p.W * p.H
def Pat.mir (p : Pat) : Pat := ⟨p.W, p.H, mirP p.W p.H p.xs⟩
def Pat.qtr (p : Pat) : Pat := ⟨p.H, p.W, qtrP p.W p.H p.xs⟩
def Pat.rot (p : Pat) : Nat → Pat
  | 0 => p
  | j + 1 => (p.rot j).qtr
def Pat.turn (p : Pat) (k : Nat) : Pat := (if 4 ≤ k then p.mir else p).rot (k % 4)

theorem mir_at (W H : Nat) (xs : List Int) (x y : Nat) (hx : x < W) (hy : y < H) : atP W (mirP W H xs) x y = atP W xs (W - 1 - x) y := by
  unfold atP mirP
  obtain ⟨d, m⟩ := divmod_mk W y x hx
  have hl := mk_lt hx hy
  simp [List.getD, hl, d, m]
theorem qtr_at (W H : Nat) (xs : List Int) (x y : Nat) (hx : x < H) (hy : y < W) : atP H (qtrP W H xs) x y = atP W xs y (H - 1 - x) := by
  unfold atP qtrP
  obtain ⟨d, m⟩ := divmod_mk H y x hx
  have hl := mk_lt hx hy
  simp [List.getD, hl, d, m]

/-- Where the document's turn by k takes the cell x, y of the new pattern from. -/
def srcX (p : Pat) (k x y : Nat) : Nat :=
  let a := if k % 4 = 1 then y else if k % 4 = 2 then p.W - 1 - x else if k % 4 = 3 then p.W - 1 - y else x
  if 4 ≤ k then p.W - 1 - a else a
def srcY (p : Pat) (k x y : Nat) : Nat :=
  if k % 4 = 1 then p.H - 1 - x else if k % 4 = 2 then p.H - 1 - y else if k % 4 = 3 then x else y
def turnW (p : Pat) (k : Nat) : Nat := if k % 2 = 1 then p.H else p.W
def turnH (p : Pat) (k : Nat) : Nat := if k % 2 = 1 then p.W else p.H
def refTurn (p : Pat) (k : Nat) : List Int := (List.range (turnW p k * turnH p k)).map fun q => atP p.W p.xs (srcX p k (q % turnW p k) (q / turnW p k)) (srcY p k (q % turnW p k) (q / turnW p k))

theorem list_at {W H : Nat} {xs ys : List Int} (h1 : xs.length = W * H) (h2 : ys.length = W * H) (h : ∀ x y, x < W → y < H → atP W xs x y = atP W ys x y) : xs = ys := by
  apply List.ext_getElem (by omega)
  intro i hi hj
  obtain ⟨x, y, hx, hy, -, -, e⟩ := split_lt (W := W) (H := H) (i := i) (by omega)
  have := h x y hx hy
  unfold atP at this
  rw [e] at this
  simpa [List.getD, hi, hj] using this
theorem ref_at (p : Pat) (k x y : Nat) (hx : x < turnW p k) (hy : y < turnH p k) : atP (turnW p k) (refTurn p k) x y = atP p.W p.xs (srcX p k x y) (srcY p k x y) := by
  unfold refTurn
  obtain ⟨d, m⟩ := divmod_mk (turnW p k) y x hx
  have hl := mk_lt hx hy
  rw [atP]
  simp [List.getD, hl, d, m]
theorem refTurn_length (p : Pat) (k : Nat) : (refTurn p k).length = turnW p k * turnH p k := by simp [refTurn]

theorem turn_is (p : Pat) (hp : p.ok) (k : Nat) (hk : k < 8) : p.turn k = ⟨turnW p k, turnH p k, refTurn p k⟩ := by
  obtain ⟨W, H, xs⟩ := p
  unfold Pat.ok at hp
  dsimp only at hp
  have key : ∀ (q : Pat), q.W = turnW ⟨W, H, xs⟩ k → q.H = turnH ⟨W, H, xs⟩ k → q.xs.length = q.W * q.H → (∀ x y, x < q.W → y < q.H → atP q.W q.xs x y = atP W xs (srcX ⟨W, H, xs⟩ k x y) (srcY ⟨W, H, xs⟩ k x y)) → q = ⟨turnW ⟨W, H, xs⟩ k, turnH ⟨W, H, xs⟩ k, refTurn ⟨W, H, xs⟩ k⟩ := by
    rintro ⟨A, B, ys⟩ h1 h2 h3 h4
    dsimp only at h1 h2 h3 h4
    subst h1 h2
    congr 1
    refine list_at h3 (refTurn_length _ _) fun x y hx hy => ?_
    rw [h4 x y hx hy, ref_at _ _ _ _ hx hy]
  have hk' : k = 0 ∨ k = 1 ∨ k = 2 ∨ k = 3 ∨ k = 4 ∨ k = 5 ∨ k = 6 ∨ k = 7 := by omega
  rcases hk' with rfl | rfl | rfl | rfl | rfl | rfl | rfl | rfl
  · exact key _ rfl rfl hp fun x y hx hy => rfl
  · exact key _ rfl rfl (qtrP_length _ _ _) fun x y hx hy => qtr_at _ _ _ x y hx hy
  · refine key _ rfl rfl (qtrP_length _ _ _) fun x y hx hy => ?_
    refine (qtr_at _ _ _ x y hx hy).trans ?_
    refine (qtr_at W H xs y (W - 1 - x) hy (by have : x < W := hx; omega)).trans ?_
    rfl
  · refine key _ rfl rfl (qtrP_length _ _ _) fun x y hx hy => ?_
    refine (qtr_at _ _ _ x y hx hy).trans ?_
    refine (qtr_at _ _ _ y (H - 1 - x) hy (by have : x < H := hx; show H - 1 - x < H; omega)).trans ?_
    refine (qtr_at W H xs (H - 1 - x) (W - 1 - y) (by have : x < H := hx; omega) (by have : y < W := hy; omega)).trans ?_
    show atP W xs (W - 1 - y) (H - 1 - (H - 1 - x)) = atP W xs (W - 1 - y) x
    rw [show H - 1 - (H - 1 - x) = x by have : x < H := hx; omega]
  · exact key _ rfl rfl (mirP_length _ _ _) fun x y hx hy => mir_at _ _ _ x y hx hy
  · refine key _ rfl rfl (qtrP_length _ _ _) fun x y hx hy => ?_
    refine (qtr_at _ _ _ x y hx hy).trans ?_
    refine (mir_at W H xs y (H - 1 - x) hy (by have : x < H := hx; omega)).trans ?_
    rfl
  · refine key _ rfl rfl (qtrP_length _ _ _) fun x y hx hy => ?_
    refine (qtr_at _ _ _ x y hx hy).trans ?_
    refine (qtr_at W H _ y (W - 1 - x) hy (by have : x < W := hx; omega)).trans ?_
    refine (mir_at W H xs (W - 1 - x) (H - 1 - y) (by have : x < W := hx; omega) (by have : y < H := hy; omega)).trans ?_
    rfl
  · refine key _ rfl rfl (qtrP_length _ _ _) fun x y hx hy => ?_
    refine (qtr_at _ _ _ x y hx hy).trans ?_
    refine (qtr_at _ _ _ y (H - 1 - x) hy (by have : x < H := hx; show H - 1 - x < H; omega)).trans ?_
    refine (qtr_at W H _ (H - 1 - x) (W - 1 - y) (by have : x < H := hx; omega) (by have : y < W := hy; omega)).trans ?_
    refine (mir_at W H xs (W - 1 - y) (H - 1 - (H - 1 - x)) (by have : y < W := hy; omega) (by have : x < H := hx; omega)).trans ?_
    show atP W xs (W - 1 - (W - 1 - y)) (H - 1 - (H - 1 - x)) = atP W xs (W - 1 - (W - 1 - y)) x
    rw [show H - 1 - (H - 1 - x) = x by have : x < H := hx; omega]
end Go.Proofs.YtjngjnkecnnmeaaDoor

namespace Go.Proofs.YtjngjnkecnnmeaaDoor

def isDot (s : ByteArray) (i : Nat) : Bool := decide (bt s i = 194) && decide (i + 1 < s.size) && decide (bt s (i + 1) = 183)
def isBall (s : ByteArray) (i : Nat) : Bool := decide (bt s i = 226) && decide (i + 2 < s.size) && decide (bt s (i + 1) = 151) && decide (bt s (i + 2) = 143)
theorem isDot_true {s : ByteArray} {i : Nat} : isDot s i = true ↔ bt s i = 194 ∧ i + 1 < s.size ∧ bt s (i + 1) = 183 := by simp [isDot, and_assoc]
theorem isBall_true {s : ByteArray} {i : Nat} : isBall s i = true ↔ bt s i = 226 ∧ i + 2 < s.size ∧ bt s (i + 1) = 151 ∧ bt s (i + 2) = 143 := by simp [isBall, and_assoc]

theorem get_bt (s : ByteArray) (j : Nat) : (s.get! j).toNat = bt s j := by
  unfold bt
  split
  · rename_i h; simp [ByteArray.get!, getElem!_pos, h]; rfl
  · rename_i h
    have : s.data[j]! = default := getElem!_neg _ _ (show ¬ j < s.data.size from h)
    simp [ByteArray.get!, this]; rfl

theorem decode_dot {s : ByteArray} {i : Nat} (h : isDot s i = true) : Utf8.decode s i = (183, 2) := by
  obtain ⟨h0, h1, h2⟩ := isDot_true.1 h
  simp [Utf8.decode, get_bt, h0, h1, h2]
theorem decode_ball {s : ByteArray} {i : Nat} (h : isBall s i = true) : Utf8.decode s i = (9679, 3) := by
  obtain ⟨h0, h1, h2, h3⟩ := isBall_true.1 h
  have h1' : i + 1 < s.size := by omega
  simp [Utf8.decode, get_bt, h0, h1, h1', h2, h3, Utf8.valid]
theorem decode_ten {s : ByteArray} {i : Nat} (h : bt s i = 10) : Utf8.decode s i = (10, 1) := by
  simp [Utf8.decode, get_bt, h]
theorem decode_other {s : ByteArray} {i : Nat} (hd : isDot s i = false) (hb : isBall s i = false) (hn : ¬ bt s i = 10) :
    ¬ (Utf8.decode s i).1 = 183 ∧ ¬ (Utf8.decode s i).1 = 9679 ∧ ¬ (Utf8.decode s i).1 = 10 := by
  have hd' : ¬ (bt s i = 194 ∧ i + 1 < s.size ∧ bt s (i + 1) = 183) := by rw [← isDot_true, hd]; simp
  have hb' : ¬ (bt s i = 226 ∧ i + 2 < s.size ∧ bt s (i + 1) = 151 ∧ bt s (i + 2) = 143) := by rw [← isBall_true, hb]; simp
  have b0 := bt_le s i
  have b1 := bt_le s (i + 1)
  have b2 := bt_le s (i + 2)
  have b3 := bt_le s (i + 3)
  simp only [Utf8.decode, get_bt, Nat.add_zero]
  generalize bt s i = x0 at *
  generalize bt s (i + 1) = x1 at *
  generalize bt s (i + 2) = x2 at *
  generalize bt s (i + 3) = x3 at *
  clear hd hb
  repeat' split
  all_goals simp only [Bool.and_eq_true, decide_eq_true_eq, beq_iff_eq, Utf8.runeError] at *
  all_goals (first | omega | (refine ⟨?_, ?_, ?_⟩ <;> omega))

/-- A drawing from i on: its row began at r, with n cells so far; wide, high and the cells of what was read. -/
def drawF (s : ByteArray) : Nat → Nat → Nat → Nat → Nat → Nat → List Int → (Nat × Nat × List Int) ⊕ (Nat × Nat)
  | 0, _, _, _, _, _, _ => .inr (0, 0)
  | f + 1, i, r, n, wide, high, xs =>
    if s.size ≤ i then (if r < s.size then .inr (s.size, 2) else .inl (wide, high, xs))
    else if isDot s i then (if high = 100 then .inr (r, 1) else if n = 100 then .inr (i, 1) else drawF s f (i + 2) r (n + 1) wide high (xs ++ [0]))
    else if isBall s i then (if high = 100 then .inr (r, 1) else if n = 100 then .inr (i, 1) else drawF s f (i + 3) r (n + 1) wide high (xs ++ [1]))
    else if bt s i ≠ 10 then .inr (i, 2)
    else if high = 100 then .inr (r, 1)
    else if 0 < high ∧ n ≠ wide then .inr (r, 3)
    else drawF s f (i + 1) (i + 1) 0 n (high + 1) xs

def drawS (s : ByteArray) : (Nat × Nat × List Int) ⊕ (Nat × Nat) :=
  if 40000 < s.size then .inr (0, 4) else drawF s (s.size + 1) 0 0 0 0 0 []
end Go.Proofs.YtjngjnkecnnmeaaDoor

