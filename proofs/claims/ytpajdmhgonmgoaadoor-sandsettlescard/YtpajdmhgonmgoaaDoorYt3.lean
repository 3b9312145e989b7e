/-
  What the last text of this claim leans on, part 3: Lb2, La4, Lb3.
-/
import Derived.Test.YtpajdmhgonmgoaaDoorYt1
import Derived.Test.YtpajdmhgonmgoaaDoorYt2
namespace Go.Proofs.YtpajdmhgonmgoaaDoor
open Go.RowKit
set_option linter.unusedVariables false
open Go.Conc
set_option linter.unusedSimpArgs false
theorem zIte {α : Type} {P : Program} {Q : α → Prop} {c : Prop} [Decidable c] {a b : Sem α} (ha : Tz P Q a) (hb : Tz P Q b) : Tz P Q (if c then a else b) := by
  split
  · exact ha
  · exact hb
theorem zForRange {β : Type} {P : Program} (f : Nat → β → Sem (ForInStep β)) (hf : ∀ a b, TzT P (f a b)) (n : Nat) (b : β) : TzT P (forIn [0:n] b f) := by
  rw [Std.Legacy.Range.forIn_eq_forIn_range']
  exact zForList f hf _ _
theorem zTwo {P : Program} : ∀ (a b : Addr), TzT P (Op.twoPlaces a b) := by
  intro a b; unfold Op.twoPlaces
  repeat' (first | with_reducible exact zPure _ | with_reducible exact zUns _ | with_reducible exact zProg | with_reducible exact zByte _ | (with_reducible refine zB ?_ (fun _ => ?_)) | (with_reducible refine zIte ?_ ?_) | (split) | (dsimp only))
theorem zASub {P : Program} : ∀ (k : IntKind) (a b : Addr), TzT P (Op.addrSub k a b) := by
  intro k a b; unfold Op.addrSub
  repeat' (first | with_reducible exact zPure _ | with_reducible exact zTwo _ _ | (with_reducible refine zB ?_ (fun _ => ?_)) | (split) | (dsimp only))
theorem zACmp {P : Program} : ∀ (o : BinOp) (a b : Addr), TzT P (Op.addrCmp o a b) := by
  intro o a b; unfold Op.addrCmp
  repeat' (first | with_reducible exact zPure _ | with_reducible exact zUns _ | with_reducible exact zTwo _ _ | (with_reducible refine zB ?_ (fun _ => ?_)) | (split) | (dsimp only))
theorem zAMod {P : Program} : ∀ (k : IntKind) (a : Addr) (n : Int), TzT P (Op.addrMod k a n) := by
  intro k a n; unfold Op.addrMod
  repeat' (first | with_reducible exact zPure _ | with_reducible exact zUns _ | with_reducible exact zInfo _ | with_reducible exact zByte _ | ((with_reducible refine zShB ?_ (fun _ => ?_)); · exact fun _ => Or.inl (fun _ _ => rfl)) | (with_reducible refine zB ?_ (fun _ => ?_)) | (with_reducible refine zIte ?_ ?_) | (split) | (dsimp only))
theorem cab0 (p : Program) (d e off : Nat) (n : Int) : cellAtBytes p d e 0 off n = none := by
  unfold cellAtBytes
  dsimp only
  split
  · rfl
  · cases byteOfCell p d e (off % p.cellsOf e) with
    | none => rfl
    | some here =>
      simp only [Option.bind_eq_bind, Option.bind_some, Nat.zero_mul]
      split
      · rfl
      · rename_i h1 h2
        exfalso
        apply h2
        simp
        omega
theorem zUAdd {P : Program} (t : TypeId) (x y : Value) : TzT P (Builtin.unsafeAdd_ #[] t #[x, y]) := by
  cases x
  case pointer p =>
    refine zB (s := asInt y) (zInt _) (fun n => ?_)
    repeat' (first | ((with_reducible refine zShB ?_ (fun _ => ?_)); · exact fun _ => Or.inl (fun _ _ => rfl)) | ((with_reducible refine zShB ?_ (fun _ => ?_)); · (intro t; refine Or.inr ?_; (show Tame P (fun _ => False) (match cellAtBytes P P.depth t (0 / P.cellsOf t) _ _ with | some off => _ | none => _)); rw [Nat.zero_div, cab0]; exact tUns _)) | with_reducible exact zPure _ | with_reducible exact zStuck _ | with_reducible exact zUns _ | with_reducible exact zProg | with_reducible exact zInt _ | with_reducible exact zView _ | ((with_reducible refine zShB ?_ (fun _ => ?_)); · exact fun _ => Or.inl (fun _ _ => rfl)) | (with_reducible refine zB ?_ (fun _ => ?_)) | (with_reducible refine zIte ?_ ?_) | (split) | (dsimp only))
  all_goals exact zStuck _
theorem zMovN {P : Program} : ∀ (t : TypeId) (x y : Value), TzT P (movedNumber t x y) := by
  intro t x y; unfold movedNumber
  repeat' (first | with_reducible exact zPure _ | with_reducible exact zUns _ | with_reducible exact zUnd _ | with_reducible exact zBeh _ | with_reducible exact zAsNum _ _ | with_reducible exact zUAdd _ _ _ | (with_reducible refine zB ?_ (fun _ => ?_)) | (with_reducible refine zIte ?_ ?_) | (split) | (dsimp only))
theorem zMovP {P : Program} : ∀ (t : TypeId) (x y : Value), TzT P (movedPointer t x y) := by
  intro t x y; unfold movedPointer
  repeat' (first | with_reducible exact zUns _ | with_reducible exact zNum _ | with_reducible exact zUAdd _ _ _ | (with_reducible refine zB ?_ (fun _ => ?_)) | (with_reducible refine zIte ?_ ?_) | (split) | (dsimp only))
theorem zShift {P : Program} : ∀ (o : BinOp) (k : IntKind) (x : Int) (j : IntKind) (y : Int), TzT P (Op.shift o k x j y) := by
  intro o k x j y; unfold Op.shift
  repeat' (first | with_reducible exact zPure _ | with_reducible exact zStuck _ | with_reducible exact zRun _ | (with_reducible refine zIte ?_ ?_) | (split) | (dsimp only))
theorem zArith {P : Program} : ∀ (o : BinOp) (k : IntKind) (x y : Int), TzT P (Op.intArith o k x y) := by
  intro o k x y; unfold Op.intArith
  repeat' (first | with_reducible exact zPure _ | with_reducible exact zStuck _ | (split) | (dsimp only))
theorem zDiv {P : Program} : ∀ (o : BinOp) (k : IntKind) (x y : Int), TzT P (Op.intDiv o k x y) := by
  intro o k x y; unfold Op.intDiv
  repeat' (first | with_reducible exact zPure _ | with_reducible exact zStuck _ | with_reducible exact zRun _ | (with_reducible refine zIte ?_ ?_) | (split) | (dsimp only))
theorem zBits {P : Program} : ∀ (o : BinOp) (k : IntKind) (x y : Int), TzT P (Op.intBits o k x y) := by
  intro o k x y; unfold Op.intBits
  repeat' (first | with_reducible exact zPure _ | with_reducible exact zStuck _ | (split) | (dsimp only))
theorem zCmp {P : Program} : ∀ (o : BinOp) (x y : Int), TzT P (Op.intCmp o x y) := by
  intro o x y; unfold Op.intCmp
  repeat' (first | with_reducible exact zPure _ | with_reducible exact zStuck _ | (split) | (dsimp only))
theorem zFA {P : Program} : ∀ (o : BinOp) (k : FloatKind) (x y : Nat), TzT P (Op.floatArith o k x y) := by
  intro o k x y; unfold Op.floatArith
  repeat' (first | with_reducible exact zPure _ | with_reducible exact zStuck _ | with_reducible exact zChoose _ | (with_reducible refine zB ?_ (fun _ => ?_)) | (split) | (dsimp only))
theorem zFC {P : Program} : ∀ (o : BinOp) (k : FloatKind) (x y : Nat), TzT P (Op.floatCmp o k x y) := by
  intro o k x y; unfold Op.floatCmp
  repeat' (first | with_reducible exact zPure _ | with_reducible exact zStuck _ | (split) | (dsimp only))
theorem zFF {P : Program} : ∀ (k : FloatKind) (x : Nat) (j : FloatKind), TzT P (Conv.floatToFloat k x j) := by
  intro k x j; unfold Conv.floatToFloat
  repeat' (first | with_reducible exact zPure _ | with_reducible exact zChoose _ | (with_reducible refine zB ?_ (fun _ => ?_)) | (with_reducible refine zIte ?_ ?_) | (split) | (dsimp only))
theorem zCA {P : Program} : ∀ (o : BinOp) (k : FloatKind) (x y : Nat), TzT P (Op.Complex.arith o k x y) := by
  intro o k x y; unfold Op.Complex.arith
  repeat' (first | with_reducible exact zPure _ | with_reducible exact zStuck _ | with_reducible exact zFA _ _ _ _ | (with_reducible refine zB ?_ (fun _ => ?_)) | (split) | (dsimp only))
theorem zCC {P : Program} : ∀ (o : BinOp) (k : FloatKind) (x y : Nat), TzT P (Op.Complex.cmp o k x y) := by
  intro o k x y; unfold Op.Complex.cmp
  repeat' (first | with_reducible exact zBool _ | with_reducible exact zFC _ _ _ _ | (with_reducible refine zB ?_ (fun _ => ?_)) | (split) | (dsimp only))
theorem zCV {P : Program} : ∀ (k : FloatKind) (x : Nat) (j : FloatKind), TzT P (Op.Complex.conv k x j) := by
  intro k x j; unfold Op.Complex.conv
  repeat' (first | with_reducible exact zPure _ | with_reducible exact zStuck _ | with_reducible exact zFF _ _ _ | (with_reducible refine zB ?_ (fun _ => ?_)) | (with_reducible refine zIte ?_ ?_) | (split) | (dsimp only))
theorem zCM {P : Program} : ∀ (x y : Nat), TzT P (Op.Complex.mul x y) := by
  intro x y; unfold Op.Complex.mul
  repeat' (first | with_reducible exact zCA _ _ _ _ | (split) | (dsimp only))
theorem zCAd {P : Program} : ∀ (x y : Nat), TzT P (Op.Complex.add x y) := by
  intro x y; unfold Op.Complex.add
  repeat' (first | with_reducible exact zCA _ _ _ _ | (split) | (dsimp only))
theorem zCSu {P : Program} : ∀ (x y : Nat), TzT P (Op.Complex.sub x y) := by
  intro x y; unfold Op.Complex.sub
  repeat' (first | with_reducible exact zCA _ _ _ _ | (split) | (dsimp only))
theorem zCQu {P : Program} : ∀ (x y : Nat), TzT P (Op.Complex.quo x y) := by
  intro x y; unfold Op.Complex.quo
  repeat' (first | with_reducible exact zCA _ _ _ _ | (split) | (dsimp only))
theorem zCPr {P : Program} : ∀ (a b c d : Nat), TzT P (Op.Complex.product a b c d) := by
  intro a b c d; unfold Op.Complex.product
  repeat' (first | with_reducible exact zPure _ | with_reducible exact zCM _ _ | with_reducible exact zCAd _ _ | with_reducible exact zCSu _ _ | (with_reducible refine zB ?_ (fun _ => ?_)) | (split) | (dsimp only))
theorem zCCo {P : Program} : ∀ (s a b c d : Nat), TzT P (Op.Complex.corrected s a b c d) := by
  intro s a b c d; unfold Op.Complex.corrected
  repeat' (first | with_reducible exact zPure _ | with_reducible exact zCM _ _ | with_reducible exact zCAd _ _ | with_reducible exact zCSu _ _ | (with_reducible refine zB ?_ (fun _ => ?_)) | (split) | (dsimp only))
theorem zCQt {P : Program} : ∀ (a b c d : Nat), TzT P (Op.Complex.quotient a b c d) := by
  intro a b c d; unfold Op.Complex.quotient
  repeat' (first | with_reducible exact zPure _ | with_reducible exact zCC _ _ _ _ | with_reducible exact zCM _ _ | with_reducible exact zCAd _ _ | with_reducible exact zCSu _ _ | with_reducible exact zCQu _ _ | with_reducible exact zCCo _ _ _ _ _ | (with_reducible refine zB ?_ (fun _ => ?_)) | (with_reducible refine zIte ?_ ?_) | (split) | (dsimp only))
theorem zCO {P : Program} : ∀ (o : BinOp) (k : FloatKind) (a b c d : Nat), TzT P (Op.complexOp o k a b c d) := by
  intro o k a b c d; unfold Op.complexOp
  repeat' (first | with_reducible exact zPure _ | with_reducible exact zStuck _ | with_reducible exact zCA _ _ _ _ | with_reducible exact zCC _ _ _ _ | with_reducible exact zCV _ _ _ | with_reducible exact zCPr _ _ _ _ | with_reducible exact zCQt _ _ _ _ | (with_reducible refine zB ?_ (fun _ => ?_)) | (with_reducible refine zIte ?_ ?_) | (split) | (dsimp only))
theorem zSO {P : Program} : ∀ (o : BinOp) (a b : ByteArray), TzT P (Op.stringOp o a b) := by
  intro o a b; unfold Op.stringOp
  repeat' (first | with_reducible exact zPure _ | with_reducible exact zStuck _ | with_reducible exact zUns _ | (with_reducible refine zIte ?_ ?_) | (split) | (dsimp only))
theorem zUn {P : Program} : ∀ (o : UnOp) (v : Value), TzT P (Op.unary o v) := by
  intro o v; unfold Op.unary
  repeat' (first | with_reducible exact zPure _ | with_reducible exact zStuck _ | with_reducible exact zUns _ | with_reducible exact zArith _ _ _ _ | with_reducible exact zBits _ _ _ _ | (split) | (dsimp only))
theorem zFolB {P : Program} : ∀ (l : List FieldStep) (t : TypeId) (x : Option Value), TzT P (followBlind l t x) := by
  intro l
  induction l with
  | nil => intro t x; exact zPure _
  | cons s r ih =>
    intro t x
    unfold followBlind
    repeat' (first | with_reducible exact zPure _ | with_reducible exact zStuck _ | with_reducible exact zUnd _ | with_reducible exact zPart _ _ _ | with_reducible exact ih _ _ | (with_reducible refine zB ?_ (fun _ => ?_)) | (split) | (dsimp only))
theorem zNilA {P : Program} : ∀ (d : Nat) (t : TypeId) (x : Value) (s : String), TzT P (nilAhead d t x s) := by
  intro d
  induction d with
  | zero => intro t x s; exact zPure _
  | succ d ih =>
    intro t x s
    unfold nilAhead
    repeat' (first | with_reducible exact zPure _ | with_reducible exact zStuck _ | with_reducible exact zInfo _ | with_reducible exact zUnd _ | with_reducible exact ih _ _ _ | with_reducible exact zFolB _ _ _ | (with_reducible refine zB ?_ (fun _ => ?_)) | (split) | (dsimp only))
theorem zLen {P : Program} : ∀ (l : Array TypeId) (t : TypeId) (v : Array Value), TzT P (Builtin.len_ l t v) := by
  intro l t v; unfold Builtin.len_
  repeat' (first | with_reducible exact zPure _ | with_reducible exact zStuck _ | with_reducible exact zGetObj _ | with_reducible exact zUnd _ | (with_reducible refine zB ?_ (fun _ => ?_)) | (split) | (dsimp only))
theorem zCap {P : Program} : ∀ (l : Array TypeId) (t : TypeId) (v : Array Value), TzT P (Builtin.cap_ l t v) := by
  intro l t v; unfold Builtin.cap_
  repeat' (first | with_reducible exact zPure _ | with_reducible exact zStuck _ | with_reducible exact zGetObj _ | with_reducible exact zUnd _ | (with_reducible refine zB ?_ (fun _ => ?_)) | (split) | (dsimp only))
theorem zLenOf {P : Program} : ∀ (v : Value), TzT P (Builtin.lenOf v) := by
  intro v; unfold Builtin.lenOf
  repeat' (first | with_reducible exact zPure _ | with_reducible exact zStuck _ | (split) | (dsimp only))
theorem zFirst {P : Program} : ∀ (a b : Nat) (v : Value), TzT P (Builtin.firstCells a b v) := by
  intro a b v; unfold Builtin.firstCells
  repeat' (first | with_reducible exact zPure _ | with_reducible exact zStuck _ | with_reducible exact zLoadCs _ _ | (split) | (dsimp only))
theorem zMark {P : Program} : TzT P (mark .noRoom) := ⟨rfl, trivial⟩
theorem zCopy {P : Program} : ∀ (l : Array TypeId) (t : TypeId) (v : Array Value), TzT P (Builtin.copy_ l t v) := by
  intro l t v; unfold Builtin.copy_
  repeat' (first | with_reducible exact zPure _ | with_reducible exact zStuck _ | with_reducible exact zUnd _ | with_reducible exact zSize _ | with_reducible exact zStoreC _ _ _ | with_reducible exact zLenOf _ | with_reducible exact zFirst _ _ _ | (with_reducible refine zB ?_ (fun _ => ?_)) | (split) | (dsimp only))
set_option maxHeartbeats 4000000 in
theorem zApp {P : Program} : ∀ (l : Array TypeId) (t : TypeId) (v : Array Value), TzT P (Builtin.append_ l t v) := by
  intro l t v; unfold Builtin.append_
  repeat' (first | (with_reducible refine zDeadB (tMaySh _ _ _ _ _) (fun _ => ?_)) | with_reducible exact tUns _ | with_reducible exact tMark | (with_reducible refine tB ?_ (fun _ => ?_)) | with_reducible exact zPure _ | with_reducible exact zStuck _ | with_reducible exact zChoose _ | with_reducible exact zRoom _ | with_reducible exact zInfo _ | with_reducible exact zUnd _ | with_reducible exact zZero _ | with_reducible exact zSize _ | with_reducible exact zStoreC _ _ _ | with_reducible exact zRow _ _ | with_reducible exact zRun _ | with_reducible exact zInt _ | with_reducible exact zLenOf _ | with_reducible exact zFirst _ _ _ | (with_reducible refine zB ?_ (fun _ => ?_)) | (with_reducible refine zIte ?_ ?_) | (split) | (dsimp only))
end Go.Proofs.YtpajdmhgonmgoaaDoor

namespace Go.Proofs.YtpajdmhgonmgoaaDoor
open Go.RowKit
set_option linter.unusedVariables false
open Go.Conc
set_option linter.unusedSimpArgs false
/-- An operation that says no mark and calls none but S. -/
def tameO (S : FuncId → Bool) (o : Oper) : Bool :=
  match o.op with
  | .move _ | .assign _ | .pick .. | .alloc _ | .box .. | .build .. | .buildSlice .. | .load .. | .store .. | .nilCheck _ | .binOp .. | .unOp .. | .makeInterface .. | .makeSlice .. | .slice .. | .fieldAddr .. | .field .. | .indexAddr .. | .index .. | .extract .. => true
  | .call c => match c.callee with
    | .builtin .len | .builtin .cap | .builtin .append | .builtin .copy => true
    | .value (.func f) => S f
    | _ => false
  | _ => false
def NextOk (S : FuncId → Bool) (n : Next) : Prop := (∃ v, n = .value v) ∨ n = .skip ∨ ∃ f args, n = .enter f args ∧ S f = true
/-- The functions of S have Go bodies. -/
def Bodied (P : Program) (S : FuncId → Bool) : Prop := ∀ f, S f = true → ∃ fn, P.funcs[f]? = some fn ∧ (fn.name == "runtime.NumGoroutine") = false ∧ fn.body.isNone = false
theorem tVal {P : Program} {S : FuncId → Bool} {s : Sem Value} (h : TameT P s) : Tame P (NextOk S) (s >>= fun x => pure (.value x)) := tB h (fun a => Or.inl ⟨a, rfl⟩)
theorem tSki {P : Program} {S : FuncId → Bool} {s : Sem Unit} (h : TameT P s) : Tame P (NextOk S) (s >>= fun _ => pure .skip) := tB h (fun a => Or.inr (Or.inl rfl))
theorem tame_func {P : Program} {S : FuncId → Bool} (hS : Bodied P S) {f : FuncId} (h : S f = true) (args : Array Value) : Tame P (NextOk S) (callFunc f args) := by
  obtain ⟨fn, h1, h2, h3⟩ := hS f h
  unfold callFunc
  show Tame P (NextOk S) (match P.funcs[f]? with
    | none => stuck "call: no such function"
    | some fn => _)
  rw [h1]
  show Tame P (NextOk S) (if (fn.name == "runtime.NumGoroutine") = true then _ else if fn.body.isNone = true then _ else _)
  rw [if_neg (by rw [h2]; decide), if_neg (by rw [h3]; decide)]
  exact Or.inr (Or.inr ⟨f, args, rfl, h⟩)
theorem tame_exec {P : Program} {S : FuncId → Bool} (hS : Bodied P S) (a : Act) (o : Oper) (h : tameO S o = true) : Tame P (NextOk S) (execOp a.eval o) := by
  obtain ⟨dst, op, type, pos, after, guard⟩ := o
  cases op
  case move x => exact Or.inl ⟨_, rfl⟩
  case assign x => exact Or.inl ⟨_, rfl⟩
  case pick c a b => exact tB (tBool _) (fun a => Or.inl ⟨_, rfl⟩)
  case alloc t => exact tVal (tiAlloc _ _ _)
  case box t x => exact tVal (tiBox _ _)
  case build t l => exact tVal (tiBuild _ _)
  case buildSlice t n l => exact tVal (tiBuildS _ _ _)
  case load t a => exact tVal (tiLoad _ _)
  case store t a x => exact tSki (tiStore _ _ _)
  case nilCheck x =>
    show Tame P (NextOk S) (match a.eval x with
      | .pointer none | .nilIface | .nilFunc => runtimePanic .nilDeref
      | .func (.method name) first captured => _
      | x => pure (.value x))
    split
    · exact tRun _
    · exact tRun _
    · exact tRun _
    · rename_i name first captured hh
      split
      · exact tRun _
      · refine tB tProg (fun _ => ?_)
        refine tB (tNilA _ _ _ _) (fun _ => ?_)
        split
        · exact tUns _
        · exact Or.inl ⟨_, rfl⟩
      · exact Or.inl ⟨_, rfl⟩
    · exact Or.inl ⟨_, rfl⟩
  case binOp op t x y u => exact tVal (tB (tGu _ _ _ _ _ _) (fun _ => tBin _ _ _ _))
  case unOp op t x => exact tVal (tUn _ _)
  case makeInterface t x => exact tVal (tiMkI _ _)
  case makeSlice t l c => exact tVal (tiMkS _ _ _)
  case slice t x l hh m => exact tVal (tiSlA _ _ _ _ _)
  case fieldAddr s x f => exact tVal (tiFieldA _ _ _)
  case field s x f => exact tVal (tiField _ _ _)
  case indexAddr s x f => exact tVal (tiIndexA _ _ _)
  case index s x f => exact tVal (tiIndex _ _ _)
  case extract x n => exact tVal (tiExtract _ _)
  case call c =>
    obtain ⟨callee, args, ats⟩ := c
    cases callee with
    | builtin b =>
      cases b <;> first
        | exact tVal (tLen _ _ _)
        | exact tVal (tCap _ _ _)
        | exact tVal (tCopy _ _ _)
        | exact tVal (tApp _ _ _)
        | (simp [tameO] at h)
    | invoke r n => simp [tameO] at h
    | value f =>
      cases f with
      | func f =>
        have hf : S f = true := h
        exact (tame_func hS hf ((#[] ++ args.map a.eval) ++ #[]) : Tame P (NextOk S) _)
      | tmp t => simp [tameO] at h
      | const v => simp [tameO] at h
      | global g => simp [tameO] at h
  all_goals simp [tameO] at h
theorem tame_results {P : Program} (fn : Func) (tmps : Array Value) : TameT P (results fn tmps) := by
  unfold results
  refine tB (tMapArr _ (fun r => ?_) _) (fun _ => tPure _)
  cases r with
  | tmp t => exact tPure _
  | cell a t => exact tB (tAddr _) (fun _ => tLoadV _ _)
end Go.Proofs.YtpajdmhgonmgoaaDoor

namespace Go.Proofs.YtpajdmhgonmgoaaDoor
open Go.RowKit
set_option linter.unusedVariables false
open Go.Conc
set_option linter.unusedSimpArgs false
/-- Types whose values are compared without a look at an address. -/
def flatT (P : Program) (t : TypeId) : Bool :=
  match P.underlying t with
  | some (.int _) | some .bool | some (.slice _) => true
  | _ => false
theorem zUndK {P : Program} {α : Type} {Q : α → Prop} {t : TypeId} {f : TypeDesc → Sem α} (h : ∀ d, P.underlying t = some d → Tz P Q (f d)) : Tz P Q (underlying t >>= f) := by
  show Tz P Q ((match P.underlying t with
    | some d => pure d
    | none => stuck "no such type") >>= f)
  cases hd : P.underlying t with
  | some d => exact h d hd
  | none => exact zStuck _
theorem zEqF {P : Program} {t : TypeId} (ht : flatT P t = true) (x y : Value) : TzT P (Op.equal t x y) := by
  unfold Op.equal
  rw [show Op.maxDepth = 9999 + 1 from rfl]
  unfold Op.equalIn
  refine zUndK fun d hd => ?_
  unfold flatT at ht
  rw [hd] at ht
  cases d <;> first | (simp at ht; done) | skip
  all_goals dsimp only
  all_goals (repeat' (first | contradiction | with_reducible exact zPure _ | with_reducible exact zStuck _ | with_reducible exact zUns _ | with_reducible exact zPanic _ | with_reducible exact zProg | with_reducible exact zLoad _ _ | with_reducible exact zStore _ _ _ | with_reducible exact zNew _ | with_reducible exact zFroz _ | with_reducible exact zGetObj _ | with_reducible exact zChoose _ | with_reducible exact zRoom _ | with_reducible exact zInfo _ | with_reducible exact zUnd _ | with_reducible exact zZero _ | with_reducible exact zSize _ | with_reducible exact zAgg _ | with_reducible exact zStr _ | with_reducible exact zLoadCs _ _ | with_reducible exact zStoreC _ _ _ | with_reducible exact zLoadV _ _ | with_reducible exact zStoreV _ _ _ | with_reducible exact zRow _ _ | with_reducible exact zVar _ _ | with_reducible exact zElem _ | with_reducible exact zPart _ _ _ | with_reducible exact zRun _ | with_reducible exact zBnd _ _ _ _ | with_reducible exact zIntOf _ | with_reducible exact zInt _ | with_reducible exact zBool _ | with_reducible exact zAggV _ | with_reducible exact zAddr _ | with_reducible exact zSure _ | with_reducible exact zView _ | with_reducible exact zNum _ | with_reducible exact zBeh _ | with_reducible exact zAsNum _ _ | with_reducible exact zNoView _ | with_reducible exact zByte _ | with_reducible exact zPartAt _ _ _ | with_reducible exact zField _ _ | with_reducible exact ziAlloc _ _ _ | with_reducible exact ziBox _ _ | with_reducible exact ziBuild _ _ | with_reducible exact ziBuildS _ _ _ | with_reducible exact ziLoad _ _ | with_reducible exact ziStore _ _ _ | with_reducible exact ziMkI _ _ | with_reducible exact ziMkS _ _ _ | with_reducible exact ziSlB _ _ _ | with_reducible exact ziSlBs _ _ _ _ _ _ | with_reducible exact ziSl _ _ _ _ _ | with_reducible exact ziSlA _ _ _ _ _ | with_reducible exact ziFieldA _ _ _ | with_reducible exact ziField _ _ _ | with_reducible exact ziIndexA _ _ _ | with_reducible exact ziIndex _ _ _ | with_reducible exact ziExtract _ _ | with_reducible exact zTwo _ _ | with_reducible exact zASub _ _ _ | with_reducible exact zACmp _ _ _ | with_reducible exact zAMod _ _ _ | with_reducible exact zUAdd _ _ _ | with_reducible exact zMovN _ _ _ | with_reducible exact zMovP _ _ _ | with_reducible exact zShift _ _ _ _ _ | with_reducible exact zArith _ _ _ _ | with_reducible exact zDiv _ _ _ _ | with_reducible exact zBits _ _ _ _ | with_reducible exact zCmp _ _ _ | with_reducible exact zFA _ _ _ _ | with_reducible exact zFC _ _ _ _ | with_reducible exact zFF _ _ _ | with_reducible exact zCA _ _ _ _ | with_reducible exact zCC _ _ _ _ | with_reducible exact zCV _ _ _ | with_reducible exact zCM _ _ | with_reducible exact zCAd _ _ | with_reducible exact zCSu _ _ | with_reducible exact zCQu _ _ | with_reducible exact zCPr _ _ _ _ | with_reducible exact zCCo _ _ _ _ _ | with_reducible exact zCQt _ _ _ _ | with_reducible exact zCO _ _ _ _ _ _ | with_reducible exact zSO _ _ _ | with_reducible exact zUn _ _ | with_reducible exact zFolB _ _ _ | with_reducible exact zNilA _ _ _ _ | with_reducible exact zLen _ _ _ | with_reducible exact zCap _ _ _ | with_reducible exact zLenOf _ | with_reducible exact zFirst _ _ _ | with_reducible exact zMark | with_reducible exact zCopy _ _ _ | with_reducible exact zApp _ _ _ | ((with_reducible refine zShB ?_ (fun _ => ?_)); · exact fun _ => Or.inl (fun _ _ => rfl)) | (with_reducible refine zB ?_ (fun _ => ?_)) | (refine zForArr _ (fun _ _ => ?_) _ _) | (refine zForRange _ (fun _ _ => ?_) _ _) | (with_reducible refine zIte ?_ ?_) | (split) | (dsimp only)))
theorem zEqN {P : Program} {t : TypeId} {ms : Array (String × TypeId)} (x y : Value) (hn : x = .nilIface ∨ y = .nilIface) (ht : ∃ ms, P.underlying t = some (.interface ms)) : TzT P (Op.equal t x y) := by
  unfold Op.equal
  rw [show Op.maxDepth = 9999 + 1 from rfl]
  unfold Op.equalIn
  refine zUndK fun d hd => ?_
  obtain ⟨ms, ht⟩ := ht
  rw [hd] at ht
  injection ht with ht
  subst ht
  dsimp only
  split <;> first
    | contradiction
    | exact zPure _
    | exact zUns _
    | exact zStuck _
    | (rcases hn with hn | hn <;> cases hn)
end Go.Proofs.YtpajdmhgonmgoaaDoor

