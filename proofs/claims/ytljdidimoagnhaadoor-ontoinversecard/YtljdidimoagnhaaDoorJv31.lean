/-
  What the last text of this claim leans on, part 31: As, Err, Er1, Lk1.
-/
import Derived.Test.YtljdidimoagnhaaDoorProg
import Derived.Test.YtljdidimoagnhaaDoorJv6
import Derived.Test.YtljdidimoagnhaaDoorJv7
import Derived.WalkKit
import Derived.LaidEql
import Derived.Stop.Asserts
import Derived.RowKitTokens
import Derived.WalkSpells
import Derived.WalkLawsBesides
namespace Go.Proofs.YtljdidimoagnhaaDoor
open Go.RowKit Go.Extern.Stop Go.Stop Go.Extern

/-- errors.As(nil, target). -/
theorem as_nil (t : Value) (w : World) :
    Calls Tryd.prog 139 #[.nilIface, t] w fun e w' => e = .returned (.bool false) ∧ w' = w := by
  go_enter Tryd.func139, Tryd.ntmps139
  go_wp2
  go_ret
  exact ⟨rfl, rfl⟩

theorem valueOfP (t : Addr) (w : World) : (ReflectliteValue.unpack (.iface 158 (.pointer (some t)))).run Tryd.prog w
    = .ok (.agg #[.pointer (some ⟨4, 158, none⟩), .pointer (some ⟨w.heap.size, 0, none⟩), .int .u64 150]) (w.alloc (.cells #[.pointer (some t)] 158)) := by kernel_rfl
theorem typeP (a : Addr) (w : World) : (ReflectliteValue.methodAny (ReflectliteValue.valueError "reflectlite.Value.Type" 0) (fun t _ _ _ => ReflectliteType.toType t) #[.agg #[.pointer (some ⟨4, 158, none⟩), .pointer (some a), .int .u64 150]]).run Tryd.prog w
    = .ok (.iface 231 (.agg #[.pointer (some ⟨4, 158, none⟩)])) w := by kernel_rfl
theorem kindP (w : World) : ((ReflectliteType.abiMethod fun t => Functor.map (fun a : Nat => Value.int IntKind.u8 (a : Int)) (Rtype.kind t)) #[.pointer (some ⟨4, 158, none⟩)]).run Tryd.prog w = .ok (.int .u8 22) w := by kernel_rfl
theorem kindE (w : World) : ((ReflectliteType.abiMethod fun t => Functor.map (fun a : Nat => Value.int IntKind.u8 (a : Int)) (Rtype.kind t)) #[.pointer (some ⟨4, 97, none⟩)]).run Tryd.prog w = .ok (.int .u8 2) w := by kernel_rfl
theorem methodKind (h : Value) (w : World) : (Go.method 383 231 (.agg #[h]) "Kind").run Tryd.prog w = .ok (241, h) w := by kernel_rfl

theorem rlm (z : Sem Value) (f : TypeId → Addr → Nat → Nat → Sem Value) (v : Value) :
    ReflectliteValue.method z f #[v] = (do match ← ReflectliteValue.parts v with | none => z | some (t, a, fl) => f t a fl (fl % 32)) := rfl
theorem partsP (a : Addr) (w : World) : (ReflectliteValue.parts (.agg #[.pointer (some ⟨4, 158, none⟩), .pointer (some a), .int .u64 150])).run Tryd.prog w = .ok (some (158, a, 150)) w := by kernel_rfl
theorem isNilP (a p : Addr) (W : World) (ha : W.cell? a = some (.pointer (some p))) :
    (ReflectliteValue.method (ReflectliteValue.valueError "reflectlite.Value.IsNil" 0) ReflectliteValue.isNil #[.agg #[.pointer (some ⟨4, 158, none⟩), .pointer (some a), .int .u64 150]]).run Tryd.prog W = .ok (.bool false) W := by
  rw [rlm]
  simp only [Sem.run_bind, partsP, Result.andThen]
  simp [ReflectliteValue.isNil, loadVar, isAgg, underlying, Tryd.underlying158, ha, Result.andThen]

theorem methodElem (h : Value) (w : World) : (Go.method 383 231 (.agg #[h]) "Elem").run Tryd.prog w = .ok (252, .agg #[h]) w := by kernel_rfl
theorem methodImplements (h : Value) (w : World) : (Go.method 383 231 (.agg #[h]) "Implements").run Tryd.prog w = .ok (253, .agg #[h]) w := by kernel_rfl
theorem methodAssignableTo (h : Value) (w : World) : (Go.method 383 231 (.agg #[h]) "AssignableTo").run Tryd.prog w = .ok (250, .agg #[h]) w := by kernel_rfl
theorem elemP (w : World) : (ReflectliteType.method ReflectliteType.elem #[.agg #[.pointer (some ⟨4, 158, none⟩)]]).run Tryd.prog w = .ok (.iface 231 (.agg #[.pointer (some ⟨4, 97, none⟩)])) w := by kernel_rfl
theorem implementsE (w : World) : (ReflectliteType.relation "Implements" ReflectliteType.implements_ #[.agg #[.pointer (some ⟨4, 97, none⟩)], .iface 231 (.agg #[.pointer (some ⟨4, 26, none⟩)])]).run Tryd.prog w = .ok (.bool true) w := by kernel_rfl
theorem typeOfE (v : Value) (w : World) : (ReflectliteType.typeOf #[.iface 97 v]).run Tryd.prog w = .ok (.iface 231 (.agg #[.pointer (some ⟨4, 97, none⟩)])) w := by kernel_rfl
theorem assignableE (w : World) : (ReflectliteType.relation "AssignableTo" ReflectliteType.assignableTo #[.agg #[.pointer (some ⟨4, 97, none⟩)], .iface 231 (.agg #[.pointer (some ⟨4, 97, none⟩)])]).run Tryd.prog w = .ok (.bool true) w := by kernel_rfl
theorem valueOfE (n : Int) (w : World) : (ReflectliteValue.unpack (.iface 97 (.int .i64 n))).run Tryd.prog w
    = .ok (.agg #[.pointer (some ⟨4, 97, none⟩), .pointer (some ⟨w.heap.size, 0, none⟩), .int .u64 130]) (w.alloc (.cells #[.int .i64 n] 97)) := by kernel_rfl
theorem elemOfP (w : World) : (Rtype.elem? 158).run Tryd.prog w = .ok (some 97) w := by kernel_rfl
theorem mkE (p : Addr) (w : World) : (ReflectliteValue.mk 97 p ReflectliteValue.flagAddr).run Tryd.prog w = .ok (.agg #[.pointer (some ⟨4, 97, none⟩), .pointer (some p), .int .u64 386]) w := by kernel_rfl
theorem elemVP (a p : Addr) (W : World) (ha : W.cell? a = some (.pointer (some p))) :
    (ReflectliteValue.method (ReflectliteValue.valueError "reflectlite.Value.Elem" 0) ReflectliteValue.elem #[.agg #[.pointer (some ⟨4, 158, none⟩), .pointer (some a), .int .u64 150]]).run Tryd.prog W
      = .ok (.agg #[.pointer (some ⟨4, 97, none⟩), .pointer (some p), .int .u64 386]) W := by
  rw [rlm]
  simp only [Sem.run_bind, partsP, Result.andThen]
  simp [ReflectliteValue.elem, loadVar, isAgg, underlying, Tryd.underlying158, ha, Result.andThen, elemOfP, mkE]
theorem rls (v x : Value) : ReflectliteValue.set #[v, x] = (do
    let (some (dst, a, fl), some (src, b, _)) := (← ReflectliteValue.parts v, ← ReflectliteValue.parts x)
      | unsupported (.noEntry "extern/(internal/reflectlite.Value).Set.zeroValue")
    if fl / ReflectliteValue.flagAddr % 2 == 0 then unsupported (.noEntry "extern/(internal/reflectlite.Value).Set.unaddressable")
    let val ← loadVar src b
    if ← Rtype.directlyAssignable dst src then storeVar dst a val
    else if ← Rtype.implements dst src then
      if (← Rtype.kind src) == 20 then
        match val with
        | .nilIface => unsupported (.noEntry "extern/reflectlite: a nil value of one interface type handed on as a value of another")
        | _ => storeVar dst a val
      else storeVar dst a (.iface src val)
    else panicString ("reflectlite.Set: value of type " ++ (← Rtype.spelt src) ++ " is not assignable to type " ++ (← Rtype.spelt dst))
    pure (.tuple #[])) := rfl
theorem partsEa (a : Addr) (w : World) : (ReflectliteValue.parts (.agg #[.pointer (some ⟨4, 97, none⟩), .pointer (some a), .int .u64 386])).run Tryd.prog w = .ok (some (97, a, 386)) w := by kernel_rfl
theorem partsE (a : Addr) (w : World) : (ReflectliteValue.parts (.agg #[.pointer (some ⟨4, 97, none⟩), .pointer (some a), .int .u64 130])).run Tryd.prog w = .ok (some (97, a, 130)) w := by kernel_rfl
theorem directE (w : World) : (Rtype.directlyAssignable 97 97).run Tryd.prog w = .ok true w := by kernel_rfl
theorem setE (ta b : Addr) (n : Int) (old : Value) (W : World) (hb : W.cell? b = some (.int .i64 n)) (ht : W.cell? ta = some old) (hf : W.frozen? ta = false) :
    (ReflectliteValue.set #[.agg #[.pointer (some ⟨4, 97, none⟩), .pointer (some ta), .int .u64 386], .agg #[.pointer (some ⟨4, 97, none⟩), .pointer (some b), .int .u64 130]]).run Tryd.prog W
      = .ok (.tuple #[]) (W.setCell ta (.int .i64 n)) := by
  rw [rls]
  simp only [Sem.run_bind, partsEa, partsE, Result.andThen]
  simp [ReflectliteValue.flagAddr, loadVar, isAgg, underlying, Tryd.underlying97, hb, Result.andThen, directE, storeVar, Value.cells, storeCells, Addr.add]
  rw [run_store Tryd.prog W ta _ _ (by rfl)]
  simp [ht, hf]

set_option maxRecDepth 100000 in
set_option maxHeartbeats 4000000 in
/-- errors.As of an Errno, the target a variable of type Errno: true, and it holds the number. -/
theorem as_hit (n : Int) (t : Addr) (old : Value) (w : World) (hg : w.cell? ⟨0, 0, none⟩ = some (.iface 231 (.agg #[.pointer (some ⟨4, 26, none⟩)]))) (ht0 : w.cell? t = some old) (hf0 : w.frozen? t = false) :
    Calls Tryd.prog 139 #[.iface 97 (.int .i64 n), .iface 158 (.pointer (some t))] w fun ev w' => ev = .returned (.bool true) ∧ w' = ((((w.alloc (.cells #[.pointer (some t)] 158)).alloc (.cells #[.pointer (some ⟨4, 158, none⟩), .pointer (some ⟨w.heap.size, 0, none⟩), .int .u64 150] 203)).alloc (.cells #[.pointer (some ⟨4, 158, none⟩), .pointer (some ⟨w.heap.size, 0, none⟩), .int .u64 150] 203)).alloc (.cells #[.int .i64 n] 97)).setCell t (.int .i64 n) := by
  have h6 := @run_callFunc_extern Tryd.prog 190 _ (fun args => ReflectliteValue.unpack (args.getD 0 (.tuple #[]))) Tryd.func190 (by kernel_rfl) (by kernel_rfl) (by kernel_rfl) (by kernel_rfl)
  have h7 := @run_callFunc_extern Tryd.prog 191 _ (ReflectliteValue.methodAny (ReflectliteValue.valueError "reflectlite.Value.Type" 0) (fun t _ _ _ => ReflectliteType.toType t)) Tryd.func191 (by kernel_rfl) (by kernel_rfl) (by kernel_rfl) (by kernel_rfl)
  have h8 := @run_callFunc_extern Tryd.prog 192 _ (ReflectliteValue.method (ReflectliteValue.valueError "reflectlite.Value.IsNil" 0) ReflectliteValue.isNil) Tryd.func192 (by kernel_rfl) (by kernel_rfl) (by kernel_rfl) (by kernel_rfl)
  have h27 := @run_callFunc_extern Tryd.prog 241 _ (ReflectliteType.abiMethod fun t => do pure (.int .u8 (← Rtype.kind t))) Tryd.func241 (by kernel_rfl) (by kernel_rfl) (by kernel_rfl) (by kernel_rfl)
  have h37 := @run_callFunc_extern Tryd.prog 252 _ (ReflectliteType.method ReflectliteType.elem) Tryd.func252 (by kernel_rfl) (by kernel_rfl) (by kernel_rfl) (by kernel_rfl)
  have h38 := @run_callFunc_extern Tryd.prog 253 _ (ReflectliteType.relation "Implements" ReflectliteType.implements_) Tryd.func253 (by kernel_rfl) (by kernel_rfl) (by kernel_rfl) (by kernel_rfl)
  have h10 := @run_callFunc_extern Tryd.prog 211 _ ReflectliteType.typeOf Tryd.func211 (by kernel_rfl) (by kernel_rfl) (by kernel_rfl) (by kernel_rfl)
  have h35 := @run_callFunc_extern Tryd.prog 250 _ (ReflectliteType.relation "AssignableTo" ReflectliteType.assignableTo) Tryd.func250 (by kernel_rfl) (by kernel_rfl) (by kernel_rfl) (by kernel_rfl)
  have h11 := @run_callFunc_extern Tryd.prog 212 _ (ReflectliteValue.method (ReflectliteValue.valueError "reflectlite.Value.Elem" 0) ReflectliteValue.elem) Tryd.func212 (by kernel_rfl) (by kernel_rfl) (by kernel_rfl) (by kernel_rfl)
  have h12 := @run_callFunc_extern Tryd.prog 213 _ ReflectliteValue.set Tryd.func213 (by kernel_rfl) (by kernel_rfl) (by kernel_rfl) (by kernel_rfl)
  have tO := typeOfE
  have mA := methodAssignableTo
  have a25 := assignableE
  have v25 := valueOfE
  have f6 := valueOfP
  have f7 := typeP
  have mK := methodKind
  have mE := methodElem
  have mI := methodImplements
  have k27 := kindP
  have k25 := kindE
  have e27 := elemP
  have i25 := implementsE
  have n8 := isNilP ⟨w.heap.size, 0, none⟩ t ((w.alloc (.cells #[.pointer (some t)] 158)).alloc (.cells #[.pointer (some ⟨4, 158, none⟩), .pointer (some ⟨w.heap.size, 0, none⟩), .int .u64 150] 203)) (by simp)
  have hlt : 0 < w.heap.size := by
    rcases Nat.lt_or_ge 0 w.heap.size with h | h
    · exact h
    · simp [World.cell?, Array.getElem?_eq_none h] at hg
  have hg2 : ((w.alloc (.cells #[.pointer (some t)] 158)).alloc (.cells #[.pointer (some ⟨4, 158, none⟩), .pointer (some ⟨w.heap.size, 0, none⟩), .int .u64 150] 203)).cell? ⟨0, 0, none⟩ = some (.iface 231 (.agg #[.pointer (some ⟨4, 26, none⟩)])) := by
    rw [World.cell?_alloc_lt _ _ ⟨0, 0, none⟩ (by simp <;> omega), World.cell?_alloc_lt _ _ ⟨0, 0, none⟩ hlt]; exact hg
  have htl : t.block < w.heap.size := by
    rcases Nat.lt_or_ge t.block w.heap.size with h | h
    · exact h
    · simp [World.cell?, Array.getElem?_eq_none h] at ht0
  have el := elemVP ⟨w.heap.size, 0, none⟩ t (((w.alloc (.cells #[.pointer (some t)] 158)).alloc (.cells #[.pointer (some ⟨4, 158, none⟩), .pointer (some ⟨w.heap.size, 0, none⟩), .int .u64 150] 203)).alloc (.cells #[.pointer (some ⟨4, 158, none⟩), .pointer (some ⟨w.heap.size, 0, none⟩), .int .u64 150] 203)) (by rw [World.cell?_alloc_lt _ _ ⟨w.heap.size, 0, none⟩ (by simp; omega)]; simp)
  have st := setE t ⟨w.heap.size + 1 + 1 + 1, 0, none⟩ n old ((((w.alloc (.cells #[.pointer (some t)] 158)).alloc (.cells #[.pointer (some ⟨4, 158, none⟩), .pointer (some ⟨w.heap.size, 0, none⟩), .int .u64 150] 203)).alloc (.cells #[.pointer (some ⟨4, 158, none⟩), .pointer (some ⟨w.heap.size, 0, none⟩), .int .u64 150] 203)).alloc (.cells #[.int .i64 n] 97))
    (by rw [World.cell?_alloc_at _ _ _ _ (by simp)]; rfl)
    (by rw [World.cell?_alloc_lt _ _ t (by simp; omega), World.cell?_alloc_lt _ _ t (by simp; omega), World.cell?_alloc_lt _ _ t (by simp; omega), World.cell?_alloc_lt _ _ t htl]; exact ht0)
    (by rw [World.frozen?_alloc_old _ _ t (by simp; omega), World.frozen?_alloc_old _ _ t (by simp; omega), World.frozen?_alloc_old _ _ t (by simp; omega), World.frozen?_alloc_old _ _ t (Nat.ne_of_lt htl)]; exact hf0)
  go_enter Tryd.func139, Tryd.ntmps139
  go_wp2
  refine wp_loop_rounds 1 ?_
  rw [rounds_succ]
  go_wp2
  go_ret
  exact ⟨rfl, rfl⟩
end Go.Proofs.YtljdidimoagnhaaDoor

namespace Go.Proofs.YtljdidimoagnhaaDoor
open Go.RowKit

theorem told_nil (w : World) :
    Calls Tryd.prog 79 #[.nilIface] w fun e w' => e = .returned (.int .i64 0) ∧ w' = w := by
  go_enter Tryd.func79, Tryd.ntmps79
  go_wp2
  go_ret
  exact ⟨rfl, rfl⟩

/-- The cell of errors.errorType holds the handle of the type error. -/
def Handle (w : World) : Prop := w.cell? ⟨0, 0, none⟩ = some (.iface 231 (.agg #[.pointer (some ⟨4, 26, none⟩)]))

theorem Handle.lt {w : World} (hg : Handle w) : 0 < w.heap.size := by
  unfold Handle at hg
  rcases Nat.lt_or_ge 0 w.heap.size with h | h
  · exact h
  · simp [World.cell?, Array.getElem?_eq_none h] at hg

theorem Handle.below {w w' : World} (hg : Handle w) (h : Below w.heap.size w w') : Handle w' := by
  have := hg.lt
  unfold Handle at hg ⊢
  rw [h.cell (p := ⟨0, 0, none⟩) this]; exact hg

set_option maxHeartbeats 1000000 in
theorem told_errno (n : Int) (w : World) (hg : Handle w) :
    Calls Tryd.prog 79 #[.iface 97 (.int .i64 n)] w fun e w' => e = .returned (.int .i64 n) ∧ Below w.heap.size w w' := by
  have hlt := hg.lt
  have hgA : (w.alloc (.cells #[.int .i64 0] 97)).cell? ⟨0, 0, none⟩ = some (.iface 231 (.agg #[.pointer (some ⟨4, 26, none⟩)])) := by
    rw [World.cell?_alloc_lt _ _ ⟨0, 0, none⟩ hlt]; exact hg
  have htA : (w.alloc (.cells #[.int .i64 0] 97)).cell? ⟨w.heap.size, 0, none⟩ = some (.int .i64 0) := by simp
  have hfA : (w.alloc (.cells #[.int .i64 0] 97)).frozen? ⟨w.heap.size, 0, none⟩ = false := by simp
  clear hg hlt
  go_enter Tryd.func79, Tryd.ntmps79
  go_wp2_with (go_at_call 139; refine (as_hit _ _ (.int .i64 0) _ hgA htA hfA).mono ?_; rintro e w' ⟨rfl, rfl⟩)
  go_ret
  refine ⟨rfl, ?_⟩
  repeat (first | exact Below.refl _ _ | refine Below.setCell ?_ (by simp) _ | refine Below.alloc ?_ (by simp; try omega) _)

set_option maxHeartbeats 400000 in
theorem error_nil (n : Int) (w : World) :
    Calls Tryd.prog 19 #[.nilIface, .int .i64 n] w fun e w' => e = .returned (.bool (0 == n)) ∧ w' = w := by
  go_enter Tryd.func19, Tryd.ntmps19
  go_wp2_with (go_at_call 79; refine (told_nil _).mono ?_; rintro e w' ⟨rfl, rfl⟩)
  go_ret
  exact ⟨rfl, rfl⟩

set_option maxHeartbeats 400000 in
theorem error_errno (k n : Int) (w : World) (hg : Handle w) :
    Calls Tryd.prog 19 #[.iface 97 (.int .i64 k), .int .i64 n] w fun e w' => e = .returned (.bool (k == n)) ∧ Below w.heap.size w w' := by
  go_enter Tryd.func19, Tryd.ntmps19
  go_wp2_with (go_at_call 79; refine (told_errno k _ hg).mono ?_; rintro e w' ⟨rfl, hb⟩)
  go_ret
  exact ⟨rfl, hb⟩
end Go.Proofs.YtljdidimoagnhaaDoor

namespace Go.Proofs.YtljdidimoagnhaaDoor
open Go.RowKit
set_option linter.unusedVariables false

theorem err_nil_true (w : World) : Calls Tryd.prog 19 #[.nilIface, .int .i64 0] w fun e w' => e = .returned (.bool true) ∧ Below w.heap.size w w' :=
  (error_nil 0 w).mono fun e w' ⟨h1, h2⟩ => ⟨h1, by rw [h2]; exact Below.refl _ _⟩
theorem err_some_true (k : Int) (w : World) (hg : Handle w) : Calls Tryd.prog 19 #[.iface 97 (.int .i64 k), .int .i64 k] w fun e w' => e = .returned (.bool true) ∧ Below w.heap.size w w' :=
  (error_errno k k w hg).mono fun e w' ⟨h1, h2⟩ => ⟨by rw [h1]; simp, h2⟩
theorem tab_nil (w : World) : Tab w (.slice none 0 0) [] := Or.inl ⟨rfl, rfl⟩

theorem stored_block (w : World) (p q : Nat) (a b c : Value) (h : q ≠ p) : (((w.setCell ⟨p, 0, none⟩ a).setCell ⟨p, 1, none⟩ b).setCell ⟨p, 2, none⟩ c).heap[q]? = w.heap[q]? :=
  (Below.heap_setCell _ _ _ _ h).trans ((Below.heap_setCell _ _ _ _ h).trans (Below.heap_setCell _ _ _ _ h))
theorem tab_stored {w : World} {v : Value} {xs : List Int} (h : Tab w v xs) (p : Nat) (a b c : Value) (hp : p < w.heap.size) (hv : ∀ g k cap, v = .slice (some ⟨g, 0, none⟩) k cap → g ≠ p) : Tab (((w.setCell ⟨p, 0, none⟩ a).setCell ⟨p, 1, none⟩ b).setCell ⟨p, 2, none⟩ c) v xs := by
  rcases h with h | ⟨g, cap, e, hg, hc⟩
  · exact Or.inl h
  · exact Or.inr ⟨g, cap, e, by rw [World.size_setCell, World.size_setCell, World.size_setCell]; exact hg, fun k hk => (World.cell?_of_block (w := w) (a := ⟨g, k, none⟩) (stored_block w p g a b c (hv g _ _ e))).trans (hc k hk)⟩
theorem tab_below {w w' : World} {v : Value} {xs : List Int} (h : Tab w v xs) (hb : Below w.heap.size w w') : Tab w' v xs := by
  rcases h with h | ⟨g, cap, hv, hg, hc⟩
  · exact Or.inl h
  · exact Or.inr ⟨g, cap, hv, Nat.lt_of_lt_of_le hg hb.size, fun k hk => (World.cell?_of_block (w := w) (a := ⟨g, k, none⟩) (hb.block g hg)).trans (hc k hk)⟩
theorem below_stored {B : Nat} {w w' : World} (h : Below B w w') (p : Nat) (hp : B ≤ p) (a b c : Value) : Below B w (((w'.setCell ⟨p, 0, none⟩ a).setCell ⟨p, 1, none⟩ b).setCell ⟨p, 2, none⟩ c) :=
  ((h.setCell hp _).setCell hp _).setCell hp _
theorem stored_size (w : World) (p : Nat) (a b c : Value) : (((w.setCell ⟨p, 0, none⟩ a).setCell ⟨p, 1, none⟩ b).setCell ⟨p, 2, none⟩ c).heap.size = w.heap.size := by
  rw [World.size_setCell, World.size_setCell, World.size_setCell]

end Go.Proofs.YtljdidimoagnhaaDoor

namespace Go.Proofs.YtljdidimoagnhaaDoor
open Go.RowKit
set_option linter.unusedVariables false

/-- Go's remainder of what is below nothing. -/
theorem tmod_neg (a : Int) (n : Nat) (hn : 0 < n) (ha : a < 0) : (a.tmod (n : Int) = 0 ∧ a % (n : Int) = 0) ∨ (a.tmod (n : Int) < 0 ∧ -(n : Int) < a.tmod (n : Int) ∧ a % (n : Int) = a.tmod (n : Int) + n) := by
  obtain ⟨b, rfl⟩ : ∃ b : Int, a = -b := ⟨-a, by omega⟩
  rw [Int.neg_tmod, Int.tmod_eq_emod_of_nonneg (by omega)]
  have h1 := Int.emod_nonneg b (show (n : Int) ≠ 0 by omega)
  have h2 := Int.emod_lt_of_pos b (show (0 : Int) < n by omega)
  have h3 := Int.emod_add_mul_ediv b (n : Int)
  by_cases h : b % (n : Int) = 0
  · left
    refine ⟨by omega, ?_⟩
    rw [show -b = 0 + (n : Int) * (-(b / (n : Int))) by rw [Int.mul_neg]; omega, Int.add_mul_emod_self_left]
    rfl
  · right
    refine ⟨by omega, by omega, ?_⟩
    rw [show -b = ((n : Int) - b % (n : Int)) + (n : Int) * (-(b / (n : Int)) - 1) by rw [Int.mul_sub, Int.mul_neg]; omega, Int.add_mul_emod_self_left, Int.emod_eq_of_lt (by omega) (by omega)]
    omega

/-- What Step's function sees: its own place, the length, the word. -/
structure CloS (w : World) (pi pn pw : Nat) (i : Nat) (ws : List Int) (wa : Option Addr) (wc : Nat) : Prop where
  ci : w.cell? ⟨pi, 0, none⟩ = some (.int .i64 (i : Int))
  cn : w.cell? ⟨pn, 0, none⟩ = some (.int .i64 (ws.length : Int))
  cw : w.cell? ⟨pw, 0, none⟩ = some (.slice wa ws.length wc)
  arg : ArgP w ws wa ws.length wc
theorem cell_lt {w : World} {p o : Nat} {v : Value} (h : w.cell? ⟨p, o, none⟩ = some v) : p < w.heap.size := by
  rcases Nat.lt_or_ge p w.heap.size with k | k
  · exact k
  · simp [World.cell?, Array.getElem?_eq_none k] at h
theorem cell_next {w w' : World} {p o : Nat} {v : Value} (h : w.cell? ⟨p, o, none⟩ = some v) (hb : Below w.heap.size w w') : w'.cell? ⟨p, o, none⟩ = some v :=
  (World.cell?_of_block (w := w) (a := ⟨p, o, none⟩) (hb.block p (cell_lt h))).trans h
theorem CloS.below {w w' : World} {pi pn pw i : Nat} {ws : List Int} {wa : Option Addr} {wc : Nat} (h : CloS w pi pn pw i ws wa wc) (hb : Below w.heap.size w w') : CloS w' pi pn pw i ws wa wc :=
  ⟨cell_next h.ci hb, cell_next h.cn hb, cell_next h.cw hb, h.arg.below hb⟩

set_option maxHeartbeats 1600000 in
theorem cloS_any (pi pn pw i : Nat) (ws : List Int) (wa : Option Addr) (wc : Nat) (k : Int) (w : World) (hC : CloS w pi pn pw i ws wa wc) (hi : i < ws.length) (hl : ws.length ≤ 1000) (k1 : -10 ≤ k) (k2 : k ≤ 10) :
    Calls Tryd.prog 117 #[.int .i64 k, .pointer (some ⟨pi, 0, none⟩), .pointer (some ⟨pn, 0, none⟩), .pointer (some ⟨pw, 0, none⟩)] w fun e w' => e = .returned (.int .i64 (rat ws ((i : Int) + k))) ∧ w' = w := by
  obtain ⟨c1, c2, c3, ha⟩ := hC
  have HA := hide' ha
  have n0 : ((ws.length : Int) == 0) = false := by rw [beq_eq_false_iff_ne]; omega
  obtain ⟨r, hr⟩ : ∃ r : Nat, ((i : Int) + k) % (ws.length : Int) = (r : Int) := ⟨(((i : Int) + k) % (ws.length : Int)).toNat, by have := Int.emod_nonneg ((i : Int) + k) (show (ws.length : Int) ≠ 0 by omega); omega⟩
  have hrl : r < ws.length := by have := Int.emod_lt_of_pos ((i : Int) + k) (show (0 : Int) < (ws.length : Int) by omega); omega
  obtain ⟨g, off, rfl, hc⟩ := ha.at (k := r) hrl
  have RA := hide' (show rat ws ((i : Int) + k) = ws.getD r 0 by unfold rat; rw [hr]; rfl)
  rw [RA.out]
  obtain ⟨x, hx⟩ : ∃ x, ws.getD r 0 = x := ⟨_, rfl⟩
  rw [hx] at hc ⊢
  clear ha hx RA
  by_cases h0 : 0 ≤ (i : Int) + k
  · have q1 : ((i : Int) + k).tmod (ws.length : Int) = (r : Int) := by rw [Int.tmod_eq_emod_of_nonneg h0]; exact hr
    have q2 : ¬ (r : Int) < 0 := by omega
    go_enter Tryd.func117, Tryd.ntmps117
    go_wp2
    go_ret
    exact ⟨rfl, rfl⟩
  · rcases tmod_neg ((i : Int) + k) ws.length (by omega) (by omega) with ⟨h1, h2⟩ | ⟨h1, h2, h3⟩
    · have r0 : r = 0 := by omega
      subst r0
      rw [Nat.add_zero] at hc
      clear hr h2
      go_enter Tryd.func117, Tryd.ntmps117
      go_wp2
      go_ret
      exact ⟨rfl, rfl⟩
    · obtain ⟨t, ht⟩ : ∃ t, ((i : Int) + k).tmod (ws.length : Int) = t := ⟨_, rfl⟩
      rw [ht] at h1 h2 h3
      have q3 : t + (ws.length : Int) = (r : Int) := by omega
      clear hr h3
      go_enter Tryd.func117, Tryd.ntmps117
      go_wp2
      go_ret
      exact ⟨rfl, rfl⟩

/-- What Apply's function sees. -/
structure CloA (w : World) (pw pi : Nat) (i : Nat) (ws : List Int) (wa : Option Addr) (wc : Nat) : Prop where
  cw : w.cell? ⟨pw, 0, none⟩ = some (.slice wa ws.length wc)
  ci : w.cell? ⟨pi, 0, none⟩ = some (.int .i64 (i : Int))
  arg : ArgP w ws wa ws.length wc
theorem CloA.below {w w' : World} {pw pi i : Nat} {ws : List Int} {wa : Option Addr} {wc : Nat} (h : CloA w pw pi i ws wa wc) (hb : Below w.heap.size w w') : CloA w' pw pi i ws wa wc :=
  ⟨cell_next h.cw hb, cell_next h.ci hb, h.arg.below hb⟩

set_option maxHeartbeats 1600000 in
theorem cloA_any (pw pi i d R : Nat) (ws : List Int) (wa : Option Addr) (wc : Nat) (k : Int) (w : World) (hC : CloA w pw pi i ws wa wc) (hk : k = (d : Int) - R) (hi : R ≤ i + d) (hd : i + d - R < ws.length) (hl : ws.length ≤ 5000) (hd1 : d ≤ 30) (hR : R ≤ 30) :
    Calls Tryd.prog 118 #[.int .i64 k, .pointer (some ⟨pw, 0, none⟩), .pointer (some ⟨pi, 0, none⟩)] w fun e w' => e = .returned (.int .i64 (ws.getD (i + d - R) 0)) ∧ w' = w := by
  obtain ⟨c1, c2, ha⟩ := hC
  obtain ⟨g, off, rfl, hc⟩ := ha.at (k := i + d - R) hd
  obtain ⟨x, hx⟩ : ∃ x, ws.getD (i + d - R) 0 = x := ⟨_, rfl⟩
  rw [hx] at hc ⊢
  obtain ⟨t, ht⟩ : ∃ t, i + d - R = t := ⟨_, rfl⟩
  rw [ht] at hc hd
  have q1 : (i : Int) + k = (t : Int) := by omega
  have k3 : -100 ≤ k := by omega
  have k4 : k ≤ 100 := by omega
  have HA := hide' ha
  clear ha hx ht hk
  go_enter Tryd.func118, Tryd.ntmps118
  go_wp2
  go_ret
  exact ⟨rfl, rfl⟩
end Go.Proofs.YtljdidimoagnhaaDoor

