/-
  What the last text of this claim leans on, part 4: Lb4, Lb5, Lb6.
-/
import Derived.Test.YtpajdmhgonmgoaaDoorYt3
namespace Go.Proofs.YtpajdmhgonmgoaaDoor
open Go.RowKit
set_option linter.unusedVariables false
open Go.Conc
set_option linter.unusedSimpArgs false
theorem zGuIn {P : Program} : ∀ (d : Nat) (t : TypeId) (x y : Value), TzT P (Op.eqGuardIn d t x y) := by
  intro d
  induction d with
  | zero => intro t x y; exact zUns _
  | succ d ih =>
    intro t x y
    unfold Op.eqGuardIn
    repeat' (first | with_reducible exact zPure _ | with_reducible exact zStuck _ | with_reducible exact zUns _ | with_reducible exact zPanic _ | with_reducible exact zProg | with_reducible exact zLoad _ _ | with_reducible exact zStore _ _ _ | with_reducible exact zNew _ | with_reducible exact zFroz _ | with_reducible exact zGetObj _ | with_reducible exact zChoose _ | with_reducible exact zRoom _ | with_reducible exact zInfo _ | with_reducible exact zUnd _ | with_reducible exact zZero _ | with_reducible exact zSize _ | with_reducible exact zAgg _ | with_reducible exact zStr _ | with_reducible exact zLoadCs _ _ | with_reducible exact zStoreC _ _ _ | with_reducible exact zLoadV _ _ | with_reducible exact zStoreV _ _ _ | with_reducible exact zRow _ _ | with_reducible exact zVar _ _ | with_reducible exact zElem _ | with_reducible exact zPart _ _ _ | with_reducible exact zRun _ | with_reducible exact zBnd _ _ _ _ | with_reducible exact zIntOf _ | with_reducible exact zInt _ | with_reducible exact zBool _ | with_reducible exact zAggV _ | with_reducible exact zAddr _ | with_reducible exact zSure _ | with_reducible exact zView _ | with_reducible exact zNum _ | with_reducible exact zBeh _ | with_reducible exact zAsNum _ _ | with_reducible exact zNoView _ | with_reducible exact zByte _ | with_reducible exact zPartAt _ _ _ | with_reducible exact zField _ _ | with_reducible exact ziAlloc _ _ _ | with_reducible exact ziBox _ _ | with_reducible exact ziBuild _ _ | with_reducible exact ziBuildS _ _ _ | with_reducible exact ziLoad _ _ | with_reducible exact ziStore _ _ _ | with_reducible exact ziMkI _ _ | with_reducible exact ziMkS _ _ _ | with_reducible exact ziSlB _ _ _ | with_reducible exact ziSlBs _ _ _ _ _ _ | with_reducible exact ziSl _ _ _ _ _ | with_reducible exact ziSlA _ _ _ _ _ | with_reducible exact ziFieldA _ _ _ | with_reducible exact ziField _ _ _ | with_reducible exact ziIndexA _ _ _ | with_reducible exact ziIndex _ _ _ | with_reducible exact ziExtract _ _ | with_reducible exact zTwo _ _ | with_reducible exact zASub _ _ _ | with_reducible exact zACmp _ _ _ | with_reducible exact zAMod _ _ _ | with_reducible exact zUAdd _ _ _ | with_reducible exact zMovN _ _ _ | with_reducible exact zMovP _ _ _ | with_reducible exact zShift _ _ _ _ _ | with_reducible exact zArith _ _ _ _ | with_reducible exact zDiv _ _ _ _ | with_reducible exact zBits _ _ _ _ | with_reducible exact zCmp _ _ _ | with_reducible exact zFA _ _ _ _ | with_reducible exact zFC _ _ _ _ | with_reducible exact zFF _ _ _ | with_reducible exact zCA _ _ _ _ | with_reducible exact zCC _ _ _ _ | with_reducible exact zCV _ _ _ | with_reducible exact zCM _ _ | with_reducible exact zCAd _ _ | with_reducible exact zCSu _ _ | with_reducible exact zCQu _ _ | with_reducible exact zCPr _ _ _ _ | with_reducible exact zCCo _ _ _ _ _ | with_reducible exact zCQt _ _ _ _ | with_reducible exact zCO _ _ _ _ _ _ | with_reducible exact zSO _ _ _ | with_reducible exact zUn _ _ | with_reducible exact zFolB _ _ _ | with_reducible exact zNilA _ _ _ _ | with_reducible exact zLen _ _ _ | with_reducible exact zCap _ _ _ | with_reducible exact zLenOf _ | with_reducible exact zFirst _ _ _ | with_reducible exact zMark | with_reducible exact zCopy _ _ _ | with_reducible exact zApp _ _ _ | with_reducible exact ih _ _ _ | ((with_reducible refine zShB ?_ (fun _ => ?_)); · exact fun _ => Or.inl (fun _ _ => rfl)) | (with_reducible refine zB ?_ (fun _ => ?_)) | (refine zForArr _ (fun _ _ => ?_) _ _) | (refine zForRange _ (fun _ _ => ?_) _ _) | (with_reducible refine zIte ?_ ?_) | (split) | (dsimp only))
theorem zGu {P : Program} : ∀ (o : BinOp) (t : TypeId) (x y : Operand) (a b : Value), TzT P (eqGuard o t x y a b) := by
  intro o t x y a b; unfold eqGuard
  repeat' (first | with_reducible exact zGuIn _ _ _ _ | with_reducible exact zPure _ | with_reducible exact zStuck _ | with_reducible exact zUns _ | with_reducible exact zPanic _ | with_reducible exact zProg | with_reducible exact zLoad _ _ | with_reducible exact zStore _ _ _ | with_reducible exact zNew _ | with_reducible exact zFroz _ | with_reducible exact zGetObj _ | with_reducible exact zChoose _ | with_reducible exact zRoom _ | with_reducible exact zInfo _ | with_reducible exact zUnd _ | with_reducible exact zZero _ | with_reducible exact zSize _ | with_reducible exact zAgg _ | with_reducible exact zStr _ | with_reducible exact zLoadCs _ _ | with_reducible exact zStoreC _ _ _ | with_reducible exact zLoadV _ _ | with_reducible exact zStoreV _ _ _ | with_reducible exact zRow _ _ | with_reducible exact zVar _ _ | with_reducible exact zElem _ | with_reducible exact zPart _ _ _ | with_reducible exact zRun _ | with_reducible exact zBnd _ _ _ _ | with_reducible exact zIntOf _ | with_reducible exact zInt _ | with_reducible exact zBool _ | with_reducible exact zAggV _ | with_reducible exact zAddr _ | with_reducible exact zSure _ | with_reducible exact zView _ | with_reducible exact zNum _ | with_reducible exact zBeh _ | with_reducible exact zAsNum _ _ | with_reducible exact zNoView _ | with_reducible exact zByte _ | with_reducible exact zPartAt _ _ _ | with_reducible exact zField _ _ | with_reducible exact ziAlloc _ _ _ | with_reducible exact ziBox _ _ | with_reducible exact ziBuild _ _ | with_reducible exact ziBuildS _ _ _ | with_reducible exact ziLoad _ _ | with_reducible exact ziStore _ _ _ | with_reducible exact ziMkI _ _ | with_reducible exact ziMkS _ _ _ | with_reducible exact ziSlB _ _ _ | with_reducible exact ziSlBs _ _ _ _ _ _ | with_reducible exact ziSl _ _ _ _ _ | with_reducible exact ziSlA _ _ _ _ _ | with_reducible exact ziFieldA _ _ _ | with_reducible exact ziField _ _ _ | with_reducible exact ziIndexA _ _ _ | with_reducible exact ziIndex _ _ _ | with_reducible exact ziExtract _ _ | with_reducible exact zTwo _ _ | with_reducible exact zASub _ _ _ | with_reducible exact zACmp _ _ _ | with_reducible exact zAMod _ _ _ | with_reducible exact zUAdd _ _ _ | with_reducible exact zMovN _ _ _ | with_reducible exact zMovP _ _ _ | with_reducible exact zShift _ _ _ _ _ | with_reducible exact zArith _ _ _ _ | with_reducible exact zDiv _ _ _ _ | with_reducible exact zBits _ _ _ _ | with_reducible exact zCmp _ _ _ | with_reducible exact zFA _ _ _ _ | with_reducible exact zFC _ _ _ _ | with_reducible exact zFF _ _ _ | with_reducible exact zCA _ _ _ _ | with_reducible exact zCC _ _ _ _ | with_reducible exact zCV _ _ _ | with_reducible exact zCM _ _ | with_reducible exact zCAd _ _ | with_reducible exact zCSu _ _ | with_reducible exact zCQu _ _ | with_reducible exact zCPr _ _ _ _ | with_reducible exact zCCo _ _ _ _ _ | with_reducible exact zCQt _ _ _ _ | with_reducible exact zCO _ _ _ _ _ _ | with_reducible exact zSO _ _ _ | with_reducible exact zUn _ _ | with_reducible exact zFolB _ _ _ | with_reducible exact zNilA _ _ _ _ | with_reducible exact zLen _ _ _ | with_reducible exact zCap _ _ _ | with_reducible exact zLenOf _ | with_reducible exact zFirst _ _ _ | with_reducible exact zMark | with_reducible exact zCopy _ _ _ | with_reducible exact zApp _ _ _ | ((with_reducible refine zShB ?_ (fun _ => ?_)); · exact fun _ => Or.inl (fun _ _ => rfl)) | (with_reducible refine zB ?_ (fun _ => ?_)) | (refine zForArr _ (fun _ _ => ?_) _ _) | (refine zForRange _ (fun _ _ => ?_) _ _) | (with_reducible refine zIte ?_ ?_) | (split) | (dsimp only))
theorem zBinN {P : Program} {o : BinOp} (h : o ≠ .eql) (h' : o ≠ .neq) (t : TypeId) (x y : Value) : TzT P (binOp o t x y) := by
  unfold binOp
  repeat' (first | contradiction | exact absurd rfl h | exact absurd rfl h' | with_reducible exact zPure _ | with_reducible exact zStuck _ | with_reducible exact zUns _ | with_reducible exact zPanic _ | with_reducible exact zProg | with_reducible exact zLoad _ _ | with_reducible exact zStore _ _ _ | with_reducible exact zNew _ | with_reducible exact zFroz _ | with_reducible exact zGetObj _ | with_reducible exact zChoose _ | with_reducible exact zRoom _ | with_reducible exact zInfo _ | with_reducible exact zUnd _ | with_reducible exact zZero _ | with_reducible exact zSize _ | with_reducible exact zAgg _ | with_reducible exact zStr _ | with_reducible exact zLoadCs _ _ | with_reducible exact zStoreC _ _ _ | with_reducible exact zLoadV _ _ | with_reducible exact zStoreV _ _ _ | with_reducible exact zRow _ _ | with_reducible exact zVar _ _ | with_reducible exact zElem _ | with_reducible exact zPart _ _ _ | with_reducible exact zRun _ | with_reducible exact zBnd _ _ _ _ | with_reducible exact zIntOf _ | with_reducible exact zInt _ | with_reducible exact zBool _ | with_reducible exact zAggV _ | with_reducible exact zAddr _ | with_reducible exact zSure _ | with_reducible exact zView _ | with_reducible exact zNum _ | with_reducible exact zBeh _ | with_reducible exact zAsNum _ _ | with_reducible exact zNoView _ | with_reducible exact zByte _ | with_reducible exact zPartAt _ _ _ | with_reducible exact zField _ _ | with_reducible exact ziAlloc _ _ _ | with_reducible exact ziBox _ _ | with_reducible exact ziBuild _ _ | with_reducible exact ziBuildS _ _ _ | with_reducible exact ziLoad _ _ | with_reducible exact ziStore _ _ _ | with_reducible exact ziMkI _ _ | with_reducible exact ziMkS _ _ _ | with_reducible exact ziSlB _ _ _ | with_reducible exact ziSlBs _ _ _ _ _ _ | with_reducible exact ziSl _ _ _ _ _ | with_reducible exact ziSlA _ _ _ _ _ | with_reducible exact ziFieldA _ _ _ | with_reducible exact ziField _ _ _ | with_reducible exact ziIndexA _ _ _ | with_reducible exact ziIndex _ _ _ | with_reducible exact ziExtract _ _ | with_reducible exact zTwo _ _ | with_reducible exact zASub _ _ _ | with_reducible exact zACmp _ _ _ | with_reducible exact zAMod _ _ _ | with_reducible exact zUAdd _ _ _ | with_reducible exact zMovN _ _ _ | with_reducible exact zMovP _ _ _ | with_reducible exact zShift _ _ _ _ _ | with_reducible exact zArith _ _ _ _ | with_reducible exact zDiv _ _ _ _ | with_reducible exact zBits _ _ _ _ | with_reducible exact zCmp _ _ _ | with_reducible exact zFA _ _ _ _ | with_reducible exact zFC _ _ _ _ | with_reducible exact zFF _ _ _ | with_reducible exact zCA _ _ _ _ | with_reducible exact zCC _ _ _ _ | with_reducible exact zCV _ _ _ | with_reducible exact zCM _ _ | with_reducible exact zCAd _ _ | with_reducible exact zCSu _ _ | with_reducible exact zCQu _ _ | with_reducible exact zCPr _ _ _ _ | with_reducible exact zCCo _ _ _ _ _ | with_reducible exact zCQt _ _ _ _ | with_reducible exact zCO _ _ _ _ _ _ | with_reducible exact zSO _ _ _ | with_reducible exact zUn _ _ | with_reducible exact zFolB _ _ _ | with_reducible exact zNilA _ _ _ _ | with_reducible exact zLen _ _ _ | with_reducible exact zCap _ _ _ | with_reducible exact zLenOf _ | with_reducible exact zFirst _ _ _ | with_reducible exact zMark | with_reducible exact zCopy _ _ _ | with_reducible exact zApp _ _ _ | ((with_reducible refine zShB ?_ (fun _ => ?_)); · exact fun _ => Or.inl (fun _ _ => rfl)) | (with_reducible refine zB ?_ (fun _ => ?_)) | (refine zForArr _ (fun _ _ => ?_) _ _) | (refine zForRange _ (fun _ _ => ?_) _ _) | (with_reducible refine zIte ?_ ?_) | (split) | (dsimp only))
theorem zBinE {P : Program} {o : BinOp} (hop : o = .eql ∨ o = .neq) {t : TypeId} {x y : Value} (he : TzT P (Op.equal t x y)) : TzT P (binOp o t x y) := by
  rcases hop with rfl | rfl <;> unfold binOp
  all_goals repeat' (first | contradiction | (exact zB he (fun _ => zPure _)) | with_reducible exact zPure _ | with_reducible exact zStuck _ | with_reducible exact zUns _ | with_reducible exact zPanic _ | with_reducible exact zProg | with_reducible exact zLoad _ _ | with_reducible exact zStore _ _ _ | with_reducible exact zNew _ | with_reducible exact zFroz _ | with_reducible exact zGetObj _ | with_reducible exact zChoose _ | with_reducible exact zRoom _ | with_reducible exact zInfo _ | with_reducible exact zUnd _ | with_reducible exact zZero _ | with_reducible exact zSize _ | with_reducible exact zAgg _ | with_reducible exact zStr _ | with_reducible exact zLoadCs _ _ | with_reducible exact zStoreC _ _ _ | with_reducible exact zLoadV _ _ | with_reducible exact zStoreV _ _ _ | with_reducible exact zRow _ _ | with_reducible exact zVar _ _ | with_reducible exact zElem _ | with_reducible exact zPart _ _ _ | with_reducible exact zRun _ | with_reducible exact zBnd _ _ _ _ | with_reducible exact zIntOf _ | with_reducible exact zInt _ | with_reducible exact zBool _ | with_reducible exact zAggV _ | with_reducible exact zAddr _ | with_reducible exact zSure _ | with_reducible exact zView _ | with_reducible exact zNum _ | with_reducible exact zBeh _ | with_reducible exact zAsNum _ _ | with_reducible exact zNoView _ | with_reducible exact zByte _ | with_reducible exact zPartAt _ _ _ | with_reducible exact zField _ _ | with_reducible exact ziAlloc _ _ _ | with_reducible exact ziBox _ _ | with_reducible exact ziBuild _ _ | with_reducible exact ziBuildS _ _ _ | with_reducible exact ziLoad _ _ | with_reducible exact ziStore _ _ _ | with_reducible exact ziMkI _ _ | with_reducible exact ziMkS _ _ _ | with_reducible exact ziSlB _ _ _ | with_reducible exact ziSlBs _ _ _ _ _ _ | with_reducible exact ziSl _ _ _ _ _ | with_reducible exact ziSlA _ _ _ _ _ | with_reducible exact ziFieldA _ _ _ | with_reducible exact ziField _ _ _ | with_reducible exact ziIndexA _ _ _ | with_reducible exact ziIndex _ _ _ | with_reducible exact ziExtract _ _ | with_reducible exact zTwo _ _ | with_reducible exact zASub _ _ _ | with_reducible exact zACmp _ _ _ | with_reducible exact zAMod _ _ _ | with_reducible exact zUAdd _ _ _ | with_reducible exact zMovN _ _ _ | with_reducible exact zMovP _ _ _ | with_reducible exact zShift _ _ _ _ _ | with_reducible exact zArith _ _ _ _ | with_reducible exact zDiv _ _ _ _ | with_reducible exact zBits _ _ _ _ | with_reducible exact zCmp _ _ _ | with_reducible exact zFA _ _ _ _ | with_reducible exact zFC _ _ _ _ | with_reducible exact zFF _ _ _ | with_reducible exact zCA _ _ _ _ | with_reducible exact zCC _ _ _ _ | with_reducible exact zCV _ _ _ | with_reducible exact zCM _ _ | with_reducible exact zCAd _ _ | with_reducible exact zCSu _ _ | with_reducible exact zCQu _ _ | with_reducible exact zCPr _ _ _ _ | with_reducible exact zCCo _ _ _ _ _ | with_reducible exact zCQt _ _ _ _ | with_reducible exact zCO _ _ _ _ _ _ | with_reducible exact zSO _ _ _ | with_reducible exact zUn _ _ | with_reducible exact zFolB _ _ _ | with_reducible exact zNilA _ _ _ _ | with_reducible exact zLen _ _ _ | with_reducible exact zCap _ _ _ | with_reducible exact zLenOf _ | with_reducible exact zFirst _ _ _ | with_reducible exact zMark | with_reducible exact zCopy _ _ _ | with_reducible exact zApp _ _ _ | ((with_reducible refine zShB ?_ (fun _ => ?_)); · exact fun _ => Or.inl (fun _ _ => rfl)) | (with_reducible refine zB ?_ (fun _ => ?_)) | (refine zForArr _ (fun _ _ => ?_) _ _) | (refine zForRange _ (fun _ _ => ?_) _ _) | (with_reducible refine zIte ?_ ?_) | (split) | (dsimp only))
def ifaceT (P : Program) (t : TypeId) : Bool :=
  match P.underlying t with
  | some (.interface _) => true
  | _ => false
def nilC (x : Operand) : Bool :=
  match x with
  | .const .nilIface => true
  | _ => false
/-- What may be compared. -/
def eqOk (P : Program) (t : TypeId) (x y : Operand) : Bool := flatT P t || (ifaceT P t && (nilC x || nilC y))
theorem nilC_eval {x : Operand} (h : nilC x = true) (a : Act) : a.eval x = .nilIface := by
  unfold nilC at h
  split at h
  · rfl
  · cases h
theorem ifaceT_is {P : Program} {t : TypeId} (h : ifaceT P t = true) : ∃ ms, P.underlying t = some (.interface ms) := by
  unfold ifaceT at h
  split at h
  · exact ⟨_, by assumption⟩
  · cases h
/-- An operation that looks at no length and calls none but S. -/
def zO (P : Program) (S : FuncId → Bool) (o : Oper) : Bool :=
  tameO S o && (match o.op with
    | .binOp op t x y _ => (match op with
      | .eql | .neq => eqOk P t x y
      | _ => true)
    | _ => true)
theorem zO_tame {P : Program} {S : FuncId → Bool} {o : Oper} (h : zO P S o = true) : tameO S o = true := by
  unfold zO at h
  exact (Bool.and_eq_true_iff.1 h).1
theorem zVal {P : Program} {S : FuncId → Bool} {s : Sem Value} (h : TzT P s) : Tz P (NextOk S) (s >>= fun x => pure (.value x)) := zB h (fun a => Or.inl ⟨a, rfl⟩)
theorem zSki {P : Program} {S : FuncId → Bool} {s : Sem Unit} (h : TzT P s) : Tz P (NextOk S) (s >>= fun _ => pure .skip) := zB h (fun a => Or.inr (Or.inl rfl))
theorem z_func {P : Program} {S : FuncId → Bool} (hS : Bodied P S) {f : FuncId} (h : S f = true) (args : Array Value) : Tz P (NextOk S) (callFunc f args) := by
  obtain ⟨fn, h1, h2, h3⟩ := hS f h
  unfold callFunc
  show Tz P (NextOk S) (match P.funcs[f]? with
    | none => stuck "call: no such function"
    | some fn => _)
  rw [h1]
  show Tz P (NextOk S) (if (fn.name == "runtime.NumGoroutine") = true then _ else if fn.body.isNone = true then _ else _)
  rw [if_neg (by rw [h2]; decide), if_neg (by rw [h3]; decide)]
  exact Or.inr (Or.inr ⟨f, args, rfl, h⟩)
theorem z_exec {P : Program} {S : FuncId → Bool} (hS : Bodied P S) (a : Act) (o : Oper) (h : zO P S o = true) : Tz P (NextOk S) (execOp a.eval o) := by
  have ht := zO_tame h
  obtain ⟨dst, op, type, pos, after, guard⟩ := o
  cases op
  case move x => exact Or.inl ⟨_, rfl⟩
  case assign x => exact Or.inl ⟨_, rfl⟩
  case pick c a b => exact zB (zBool _) (fun a => Or.inl ⟨_, rfl⟩)
  case alloc t => exact zVal (ziAlloc _ _ _)
  case box t x => exact zVal (ziBox _ _)
  case build t l => exact zVal (ziBuild _ _)
  case buildSlice t n l => exact zVal (ziBuildS _ _ _)
  case load t a => exact zVal (ziLoad _ _)
  case store t a x => exact zSki (ziStore _ _ _)
  case nilCheck x =>
    show Tz P (NextOk S) (match a.eval x with
      | .pointer none | .nilIface | .nilFunc => runtimePanic .nilDeref
      | .func (.method name) first captured => _
      | x => pure (.value x))
    split
    · exact zRun _
    · exact zRun _
    · exact zRun _
    · rename_i name first captured hh
      split
      · exact zRun _
      · refine zB zProg (fun _ => ?_)
        refine zB (zNilA _ _ _ _) (fun _ => ?_)
        split
        · exact zUns _
        · exact Or.inl ⟨_, rfl⟩
      · exact Or.inl ⟨_, rfl⟩
    · exact Or.inl ⟨_, rfl⟩
  case binOp op t x y u =>
    refine zVal (zB (zGu _ _ _ _ _ _) (fun _ => ?_))
    by_cases h1 : op = .eql ∨ op = .neq
    · refine zBinE h1 ?_
      have h2 := (Bool.and_eq_true_iff.1 h).2
      have h3 : eqOk P t x y = true := by
        rcases h1 with rfl | rfl <;> exact h2
      rcases Bool.or_eq_true_iff.1 h3 with h4 | h4
      · exact zEqF h4 _ _
      · obtain ⟨h5, h6⟩ := Bool.and_eq_true_iff.1 h4
        refine zEqN (ms := #[]) _ _ ?_ (ifaceT_is h5)
        rcases Bool.or_eq_true_iff.1 h6 with h7 | h7
        · exact Or.inl (nilC_eval h7 a)
        · exact Or.inr (nilC_eval h7 a)
    · exact zBinN (fun e => h1 (Or.inl e)) (fun e => h1 (Or.inr e)) _ _ _
  case unOp op t x => exact zVal (zUn _ _)
  case makeInterface t x => exact zVal (ziMkI _ _)
  case makeSlice t l c => exact zVal (ziMkS _ _ _)
  case slice t x l hh m => exact zVal (ziSlA _ _ _ _ _)
  case fieldAddr s x f => exact zVal (ziFieldA _ _ _)
  case field s x f => exact zVal (ziField _ _ _)
  case indexAddr s x f => exact zVal (ziIndexA _ _ _)
  case index s x f => exact zVal (ziIndex _ _ _)
  case extract x n => exact zVal (ziExtract _ _)
  case call c =>
    obtain ⟨callee, args, ats⟩ := c
    cases callee with
    | builtin b =>
      cases b <;> first
        | exact zVal (zLen _ _ _)
        | exact zVal (zCap _ _ _)
        | exact zVal (zCopy _ _ _)
        | exact zVal (zApp _ _ _)
        | (simp [tameO] at ht)
    | invoke r n => simp [tameO] at ht
    | value f =>
      cases f with
      | func f =>
        have hf : S f = true := ht
        exact (z_func hS hf ((#[] ++ args.map a.eval) ++ #[]) : Tz P (NextOk S) _)
      | tmp t => simp [tameO] at ht
      | const v => simp [tameO] at ht
      | global g => simp [tameO] at ht
  all_goals simp [tameO] at ht
theorem z_results {P : Program} (fn : Func) (tmps : Array Value) : TzT P (results fn tmps) := by
  unfold results
  refine zB (zMapArr _ (fun r => ?_) _) (fun _ => zPure _)
  cases r with
  | tmp t => exact zPure _
  | cell a t => exact zB (zAddr _) (fun _ => zLoadV _ _)
end Go.Proofs.YtpajdmhgonmgoaaDoor

namespace Go.Proofs.YtpajdmhgonmgoaaDoor
open Go.RowKit
set_option linter.unusedVariables false
open Go.Conc
set_option linter.unusedSimpArgs false
/-- A row of cells, emptied. -/
def empt : Obj → Obj
  | .cells _ t fr => .cells #[] t fr
  | o => o
/-- v is w with the rows of X emptied (on whichever tape). -/
structure Poi (X : Nat → Prop) (v w : World) : Prop where
  size : v.heap.size = w.heap.size
  same : ∀ k, ¬ X k → v.heap[k]? = w.heap[k]?
  bad : ∀ k, X k → v.heap[k]? = (w.heap[k]?).map empt
  low : ∀ k, X k → k < w.heap.size
  os : v.os = w.os
  out : v.output = w.output
/-- The channels that are not to be touched plainly. -/
def Chs (Xo : Nat → Prop) (w : World) : Prop := ∀ r, Xo r → ∃ o, w.heap[r]? = some o ∧ o.isChan = true
/-- What a step of ours may list. -/
def EvS (X Xo : Nat → Prop) (B : Nat) (e : Event) : Prop := EvG B e ∧ (∀ a, e.loc = .cell a → ¬ X a.block) ∧ ∀ r, e.loc = .obj r → Xo r → e.sync = true
theorem EvS.mono {X Xo : Nat → Prop} {B B' : Nat} {e : Event} (h : EvS X Xo B e) (hB : B ≤ B') : EvS X Xo B' e := ⟨h.1.mono hB, h.2⟩
section
variable {X Xo : Nat → Prop} {P : Program} {v w : World}
theorem poi_cell (hp : Poi X v w) {a : Addr} {x : Value} (h : v.cell? a = some x) : ¬ X a.block ∧ w.cell? a = some x := by
  by_cases hX : X a.block
  · exfalso
    unfold World.cell? at h
    rw [hp.bad _ hX] at h
    cases ho : w.heap[a.block]? with
    | none => rw [ho] at h; simp at h
    | some o =>
      rw [ho] at h
      cases o <;> simp [empt] at h
  · refine ⟨hX, ?_⟩
    unfold World.cell? at h ⊢
    rw [← hp.same _ hX]; exact h
theorem poi_get (hp : Poi X v w) {r : Nat} {o : Obj} (h : v.heap[r]? = some o) (hn : ∀ c t fr, o ≠ .cells c t fr) : w.heap[r]? = some o := by
  by_cases hX : X r
  · rw [hp.bad _ hX] at h
    cases ho : w.heap[r]? with
    | none => rw [ho] at h; simp at h
    | some o' =>
      rw [ho] at h
      simp only [Option.map_some, Option.some.injEq] at h
      subst h
      cases o' <;> first | rfl | exact (hn _ _ _ rfl).elim
  · rw [← hp.same _ hX]; exact h
theorem seenCells_nil {e f x n : Nat} {l} (h : seenCells P #[] e (f + 1) x (x + n) = .ok l) : n = 0 := by
  unfold seenCells at h
  split at h
  · omega
  · dsimp only at h
    split at h
    · cases h
    · split at h
      · cases h
      · simp at h
theorem bytes_pos {x : Value} {bs : List UInt8} (h : x.bytes? = some bs) : bs.length ≠ 0 := by
  cases x <;> simp [Value.bytes?] at h
  · subst h; simp
  · rename_i k n; subst h; cases k <;> simp [leBytes, IntKind.bits]
  · rename_i k n; subst h; cases k <;> simp [leBytes, FloatKind.bytes]
  · rename_i k n m; subst h; cases k <;> simp [leBytes, FloatKind.bytes]
theorem poi_seen (hp : Poi X v w) {at_ : Addr} {u : TypeId} {k : Addr} {b : Bool} {x} (h : v.seen P at_ u k b = .ok x) : w.seen P at_ u k b = .ok x ∧ ¬ X at_.block := by
  by_cases hX : X at_.block
  · exfalso
    unfold World.seen at h
    rw [hp.bad _ hX] at h
    cases ho : w.heap[at_.block]? with
    | none =>
      rw [ho] at h
      simp only [bind, Except.bind, pure, Except.pure, throw, throwThe, MonadExceptOf.throw] at h
      repeat' split at h
      all_goals simp_all
    | some o =>
      rw [ho] at h
      simp only [bind, Except.bind, pure, Except.pure, throw, throwThe, MonadExceptOf.throw, Option.map_some] at h
      have key : ∀ {p : Program} {c : Array Value} {e f y n : Nat} {l} {like : Value}, c = #[] → like.bytes?.map (·.length) = some n → seenCells p c e (f + 1) y (y + n) = .ok l → False := by
        intro p c e f y n l like hc hb hs
        subst hc
        have h0 := seenCells_nil hs
        cases hbb : like.bytes? with
        | none => rw [hbb] at hb; cases hb
        | some bs =>
          rw [hbb] at hb
          simp only [Option.map_some, Option.some.injEq] at hb
          exact bytes_pos hbb (by omega)
      have emp : ∀ {c : Array Value} {t : TypeId} {fr : Nat × Nat}, some (empt o) = some (.cells c t fr) → c = #[] := by
        intro c t fr hh
        injection hh with hh
        cases o <;> simp [empt] at hh
        exact hh.1
      repeat' split at h
      all_goals first
        | (cases h; done)
        | (exact key (emp (by assumption)) (by assumption) (by assumption))
  · refine ⟨?_, hX⟩
    rw [← h]
    unfold World.seen
    rw [hp.same _ hX]
end
end Go.Proofs.YtpajdmhgonmgoaaDoor

namespace Go.Proofs.YtpajdmhgonmgoaaDoor
open Go.RowKit
set_option linter.unusedVariables false
open Go.Conc
set_option linter.unusedSimpArgs false
section
variable {X Xo : Nat → Prop} {P : Program} {v w : World}
theorem viewLoad_poi (hp : Poi X v w) {at_ : Addr} {u : TypeId} {k : Addr} {b : Bool} {r : Value × List Addr} (h : v.viewLoad P at_ u k b = .ok r) : w.viewLoad P at_ u k b = .ok r ∧ ∀ y ∈ r.2, ¬ X y.block := by
  unfold World.viewLoad at h ⊢
  cases hs : v.seen P at_ u k b with
  | error e => rw [hs] at h; cases h
  | ok x =>
    obtain ⟨hs', hX⟩ := poi_seen hp hs
    rw [hs] at h
    rw [hs']
    refine ⟨h, ?_⟩
    obtain ⟨x1, x2, x3, x4, x5, x6⟩ := x
    simp only [bind, Except.bind, pure, Except.pure, throw, throwThe, MonadExceptOf.throw] at h
    split at h
    · injection h with h
      subst h
      intro y hy
      obtain ⟨z, _, rfl⟩ := List.mem_map.1 hy
      exact hX
    · cases h
theorem viewStore_poi (hp : Poi X v w) {at_ : Addr} {u : TypeId} {k : Addr} {x : Value} {b : Bool} {v1 : World} {l : List Addr} (h : v.viewStore P at_ u k x b = .ok (v1, l)) :
    ∃ c t fr, v1 = { v with heap := v.heap.setIfInBounds at_.block (.cells c t fr) } ∧ w.viewStore P at_ u k x b = .ok ({ w with heap := w.heap.setIfInBounds at_.block (.cells c t fr) }, l) ∧ ¬ X at_.block ∧ ∀ y ∈ l, ¬ X y.block := by
  unfold World.viewStore at h ⊢
  cases hs : v.seen P at_ u k b with
  | error e =>
    rw [hs] at h
    simp only [bind, Except.bind, pure, Except.pure, throw, throwThe, MonadExceptOf.throw] at h
    repeat' split at h
    all_goals cases h
  | ok y =>
    obtain ⟨hs', hX⟩ := poi_seen hp hs
    rw [hs] at h
    rw [hs']
    simp only [bind, Except.bind, pure, Except.pure, throw, throwThe, MonadExceptOf.throw] at h ⊢
    repeat' split at h
    all_goals first
      | (cases h; done)
      | (injection h with h
         injection h with h1 h2
         subst h1
         subst h2
         refine ⟨_, _, _, rfl, ?_, hX, fun y hy => ?_⟩
         · clear hX hs hs' hp
           first
             | rfl
             | (simp only [*, ↓reduceIte]; done)
             | (simp [*]; done)
             | ((try simp only [*, ↓reduceIte]); repeat' split; all_goals first | rfl | (simp_all; done))
         · obtain ⟨z, _, rfl⟩ := List.mem_map.1 hy
           exact hX)
theorem cell_view {a : Addr} {at_ : Addr} {u : TypeId} (h : w.heap[a.block]? = some (.view at_ u)) : w.cell? a = none := by
  unfold World.cell?
  rw [h]
theorem farLoad_poi (hp : Poi X v w) {a : Addr} {b : Bool} {r : Value × List Addr} (h : v.farLoad P a b = .ok r) : w.cell? a = none ∧ w.farLoad P a b = .ok r ∧ ∀ y ∈ r.2, ¬ X y.block := by
  unfold World.farLoad at h
  split at h
  · rename_i at_ u hv
    have hw := poi_get hp hv (fun _ _ _ e => by cases e)
    cases hl : v.viewLoad P at_ u a b with
    | error e => rw [hl] at h; cases h
    | ok r' =>
      rw [hl] at h
      injection h with h
      subst h
      obtain ⟨h1, h2⟩ := viewLoad_poi hp hl
      refine ⟨cell_view hw, ?_, h2⟩
      unfold World.farLoad
      rw [hw]
      dsimp only
      rw [h1]
  · cases h
theorem farStore_poi (hp : Poi X v w) {a : Addr} {x : Value} {b : Bool} {v1 : World} {l : List Addr} (h : v.farStore P a x b = .ok (v1, l)) :
    ∃ g c t fr, v1 = { v with heap := v.heap.setIfInBounds g (.cells c t fr) } ∧ w.cell? a = none ∧ w.farStore P a x b = .ok ({ w with heap := w.heap.setIfInBounds g (.cells c t fr) }, l) ∧ ¬ X g ∧ (∃ c' t' fr', w.heap[g]? = some (.cells c' t' fr')) ∧ ∀ y ∈ l, ¬ X y.block := by
  unfold World.farStore at h
  split at h
  · rename_i at_ u hv
    have hw := poi_get hp hv (fun _ _ _ e => by cases e)
    cases hl : v.viewStore P at_ u a x b with
    | error e => rw [hl] at h; cases h
    | ok r' =>
      rw [hl] at h
      injection h with h
      subst h
      obtain ⟨c, t, fr, h1, h2, h3, h4⟩ := viewStore_poi hp hl
      refine ⟨at_.block, c, t, fr, h1, cell_view hw, ?_, h3, ?_, h4⟩
      · unfold World.farStore
        rw [hw]
        dsimp only
        rw [h2]
      · unfold World.viewStore at hl
        cases hs : v.seen P at_ u a b with
        | error e =>
          rw [hs] at hl
          simp only [bind, Except.bind, pure, Except.pure, throw, throwThe, MonadExceptOf.throw] at hl
          repeat' split at hl
          all_goals cases hl
        | ok y =>
          obtain ⟨hs', hX⟩ := poi_seen hp hs
          unfold World.seen at hs'
          simp only [bind, Except.bind, pure, Except.pure, throw, throwThe, MonadExceptOf.throw] at hs'
          repeat' split at hs'
          all_goals first
            | (cases hs'; done)
            | exact ⟨_, _, _, by assumption⟩
  · cases h
theorem poi_frozen (hp : Poi X v w) (a : Addr) : v.frozen? a = w.frozen? a := by
  unfold World.frozen?
  by_cases hX : X a.block
  · rw [hp.bad _ hX]
    cases ho : w.heap[a.block]? with
    | none => rfl
    | some o => cases o <;> rfl
  · rw [hp.same _ hX]
theorem poi_setI (hp : Poi X v w) {g : Nat} (hX : ¬ X g) (o : Obj) : Poi X { v with heap := v.heap.setIfInBounds g o } { w with heap := w.heap.setIfInBounds g o } :=
  ⟨by simp [hp.size], fun k hk => by
    show (v.heap.setIfInBounds g o)[k]? = (w.heap.setIfInBounds g o)[k]?
    rw [Array.getElem?_setIfInBounds, Array.getElem?_setIfInBounds, hp.size, hp.same k hk], fun k hk => by
    show (v.heap.setIfInBounds g o)[k]? = ((w.heap.setIfInBounds g o)[k]?).map empt
    have : g ≠ k := fun e => hX (e ▸ hk)
    rw [Array.getElem?_setIfInBounds_ne this, Array.getElem?_setIfInBounds_ne this]
    exact hp.bad k hk, fun k hk => by
    show k < (w.heap.setIfInBounds g o).size
    rw [Array.size_setIfInBounds]; exact hp.low k hk, hp.os, hp.out⟩
theorem poi_setC (hp : Poi X v w) {a : Addr} (hX : ¬ X a.block) (x : Value) : Poi X (v.setCell a x) (w.setCell a x) :=
  ⟨by simp [World.setCell, hp.size], fun k hk => by
    simp only [World.setCell, Array.getElem?_modify]
    rw [hp.same k hk], fun k hk => by
    have : a.block ≠ k := fun e => hX (e ▸ hk)
    simp only [World.setCell, Array.getElem?_modify]
    rw [if_neg this, if_neg this]
    exact hp.bad k hk, fun k hk => by
    have := hp.low k hk
    simpa [World.setCell] using this, hp.os, hp.out⟩
theorem poi_push (hp : Poi X v w) (o : Obj) : Poi X { v with heap := v.heap.push o } { w with heap := w.heap.push o } :=
  ⟨by simp [hp.size], fun k hk => by
    show (v.heap.push o)[k]? = (w.heap.push o)[k]?
    rw [Array.getElem?_push, Array.getElem?_push, hp.size, hp.same k hk], fun k hk => by
    show (v.heap.push o)[k]? = ((w.heap.push o)[k]?).map empt
    have := hp.low k hk
    rw [Array.getElem?_push, Array.getElem?_push, if_neg (by rw [hp.size]; omega), if_neg (by omega)]
    exact hp.bad k hk, fun k hk => by
    show k < (w.heap.push o).size
    have := hp.low k hk
    simp; omega, hp.os, hp.out⟩
theorem poi_tape (hp : Poi X v w) {v' w' : World} (hv : v'.heap = v.heap) (hw : w'.heap = w.heap) (h1 : v'.os = v.os) (h2 : w'.os = w.os) (h3 : v'.output = v.output) (h4 : w'.output = w.output) : Poi X v' w' :=
  ⟨by rw [hv, hw]; exact hp.size, fun k hk => by rw [hv, hw]; exact hp.same k hk, fun k hk => by rw [hv, hw]; exact hp.bad k hk, fun k hk => by rw [hw]; exact hp.low k hk, by rw [h1, h2]; exact hp.os, by rw [h3, h4]; exact hp.out⟩
theorem chs_of (hc : Chs Xo w) {w' : World} (h : ∀ (r : Nat) (o : Obj), w.heap[r]? = some o → o.isChan = true → w'.heap[r]? = some o) : Chs Xo w' := fun r hr => by
  obtain ⟨o, h1, h2⟩ := hc r hr
  exact ⟨o, h r o h1 h2, h2⟩
theorem chs_push (hc : Chs Xo w) (o : Obj) : Chs Xo { w with heap := w.heap.push o } := chs_of hc fun r o' h _ => by
  show (w.heap.push o)[r]? = _
  have := (Array.getElem?_eq_some_iff.1 h).1
  rw [Array.getElem?_push, if_neg (by omega)]; exact h
theorem chs_setI (hc : Chs Xo w) {g : Nat} {c t fr} (hg : w.heap[g]? = some (.cells c t fr)) (o : Obj) : Chs Xo { w with heap := w.heap.setIfInBounds g o } := chs_of hc fun r o' h hch => by
  show (w.heap.setIfInBounds g o)[r]? = _
  have : g ≠ r := fun e => by
    subst e
    rw [hg] at h
    injection h with h
    subst h
    cases hch
  rw [Array.getElem?_setIfInBounds_ne this]; exact h
theorem chs_setC (hc : Chs Xo w) {a : Addr} {y : Value} (hy : w.cell? a = some y) (x : Value) : Chs Xo (w.setCell a x) := chs_of hc fun r o' h hch => by
  simp only [World.setCell, Array.getElem?_modify]
  have : a.block ≠ r := fun e => by
    subst e
    unfold World.cell? at hy
    rw [h] at hy
    cases o' <;> simp [Obj.isChan] at hch hy
  rw [if_neg this]; exact h
end
end Go.Proofs.YtpajdmhgonmgoaaDoor

