/-
  What the last text of this claim leans on, part 2: La2, La3.
-/
import Derived.Test.YtpajdmhgonmgoaaDoorYt1
import Derived.Tactics2
namespace Go.Proofs.YtpajdmhgonmgoaaDoor
open Go.RowKit
set_option linter.unusedVariables false
open Go.Conc
set_option linter.unusedSimpArgs false
abbrev TameT {α : Type} (P : Program) (s : Sem α) : Prop := Tame P (fun _ => True) s
theorem tB {α β : Type} {P : Program} {R : β → Prop} {s : Sem α} {f : α → Sem β} (h : TameT P s) (hf : ∀ a, Tame P R (f a)) : Tame P R (s >>= f) := Tame.bind (fun a _ => hf a) h
theorem tPure {α : Type} {P : Program} (a : α) : TameT P (pure a) := trivial
theorem tStuck {α : Type} {P : Program} {Q : α → Prop} (s : String) : Tame P Q (stuck s) := .inr (.inl ⟨_, rfl⟩)
theorem tUns {α : Type} {P : Program} {Q : α → Prop} (u : Unsupported) : Tame P Q (unsupported u) := .inr (.inr ⟨_, rfl⟩)
theorem tPanic {α : Type} {P : Program} {Q : α → Prop} (v : Value) : Tame P Q (goPanic v) := .inl ⟨_, rfl⟩
theorem tProg {P : Program} : TameT P program := trivial
theorem tLoad {P : Program} (a : Addr) (m : Mode) : TameT P (load a m) := fun _ => trivial
theorem tStore {P : Program} (a : Addr) (v : Value) (m : Mode) : TameT P (store a v m) := trivial
theorem tNew {P : Program} (o : Obj) : TameT P (newObj o) := fun _ => trivial
theorem tShape {P : Program} (r : Nat) : TameT P (shape r) := fun _ => trivial
theorem tFroz {P : Program} (a : Addr) : TameT P (frozen a) := fun _ => trivial
theorem tFreeze {P : Program} (a : Addr) (n : Nat) : TameT P (freeze a n) := trivial
theorem tGetObj {P : Program} (r : Nat) : TameT P (getObj r) := fun _ => trivial
theorem tSetObj {P : Program} (r : Nat) (o : Obj) : TameT P (setObj r o) := trivial
theorem tChoose {P : Program} (q : Question) : TameT P (choose q) := fun _ => trivial
theorem tRoom {P : Program} (n : Nat) : TameT P (askRoom n) := by
  unfold askRoom
  split
  · exact ⟨rfl, trivial⟩
  · exact trivial
theorem tForList {α β : Type} {P : Program} (f : α → β → Sem (ForInStep β)) (hf : ∀ a b, TameT P (f a b)) : ∀ (l : List α) (b : β), TameT P (forIn l b f)
  | [], b => trivial
  | a :: r, b => by
    rw [List.forIn_cons]
    refine tB (hf a b) (fun s => ?_)
    cases s with
    | done b => exact trivial
    | yield b => exact tForList f hf r b
theorem tForArr {α β : Type} {P : Program} (f : α → β → Sem (ForInStep β)) (hf : ∀ a b, TameT P (f a b)) (l : Array α) (b : β) : TameT P (forIn l b f) := by
  rw [← Array.forIn_toList]
  exact tForList f hf _ _
theorem tMapList {α β : Type} {P : Program} (f : α → Sem β) (hf : ∀ a, TameT P (f a)) : ∀ (l : List α) (acc : List β), TameT P (List.mapM.loop f l acc)
  | [], acc => trivial
  | a :: r, acc => tB (hf a) (fun b => tMapList f hf r _)
theorem tMapArr {α β : Type} {P : Program} (f : α → Sem β) (hf : ∀ a, TameT P (f a)) (xs : Array α) : TameT P (Array.mapM f xs) := by
  rw [Array.mapM_eq_mapM_toList]
  exact tB (tMapList f hf _ _) (fun _ => trivial)
theorem tInfo {P : Program} : ∀ (t : TypeId), TameT P (typeInfo t) := by
  intro t; unfold typeInfo
  repeat' (first | with_reducible exact tPure _ | with_reducible exact tStuck _ | with_reducible exact tProg | (with_reducible refine tB ?_ (fun _ => ?_)) | (split) | (dsimp only))
theorem tUnd {P : Program} : ∀ (t : TypeId), TameT P (underlying t) := by
  intro t; unfold underlying
  repeat' (first | with_reducible exact tPure _ | with_reducible exact tStuck _ | with_reducible exact tProg | (with_reducible refine tB ?_ (fun _ => ?_)) | (split) | (dsimp only))
theorem tZero {P : Program} : ∀ (t : TypeId), TameT P (zeroValue t) := by
  intro t; unfold zeroValue
  repeat' (first | with_reducible exact tPure _ | with_reducible exact tUns _ | with_reducible exact tInfo _ | (with_reducible refine tB ?_ (fun _ => ?_)) | (split) | (dsimp only))
theorem tSize {P : Program} : ∀ (t : TypeId), TameT P (sizeOf t) := by
  intro t; unfold sizeOf
  repeat' (first | with_reducible exact tPure _ | with_reducible exact tInfo _ | (with_reducible refine tB ?_ (fun _ => ?_)) | (split) | (dsimp only))
theorem tAgg {P : Program} : ∀ (t : TypeId), TameT P (isAgg t) := by
  intro t; unfold isAgg
  repeat' (first | with_reducible exact tPure _ | with_reducible exact tUnd _ | (with_reducible refine tB ?_ (fun _ => ?_)) | (split) | (dsimp only))
theorem tStr {P : Program} : ∀ (t : TypeId), TameT P (typeStr t) := by
  intro t; unfold typeStr
  repeat' (first | with_reducible exact tPure _ | with_reducible exact tUns _ | with_reducible exact tInfo _ | (with_reducible refine tB ?_ (fun _ => ?_)) | (split) | (dsimp only))
theorem tLoadC {P : Program} : ∀ (n : Nat) (a : Addr) (i : Nat) (acc : Array Value), TameT P (loadCellsFrom a i n acc)
  | 0, a, i, acc => trivial
  | n + 1, a, i, acc => tB (tLoad _ _) (fun v => tLoadC n a _ _)
theorem tLoadCs {P : Program} (a : Addr) (n : Nat) : TameT P (loadCells a n) := tLoadC _ _ _ _
theorem tStoreC {P : Program} : ∀ (vs : List Value) (a : Addr) (i : Nat), TameT P (storeCells a vs i)
  | [], a, i => trivial
  | v :: r, a, i => tB (tStore _ _ _) (fun _ => tStoreC r a _)
theorem tLoadV {P : Program} : ∀ (t : TypeId) (a : Addr), TameT P (loadVar t a) := by
  intro t a; unfold loadVar
  repeat' (first | with_reducible exact tPure _ | with_reducible exact tLoad _ _ | with_reducible exact tSize _ | with_reducible exact tAgg _ | with_reducible exact tLoadCs _ _ | (with_reducible refine tB ?_ (fun _ => ?_)) | (split) | (dsimp only))
theorem tStoreV {P : Program} : ∀ (t : TypeId) (a : Addr) (v : Value), TameT P (storeVar t a v) := by
  intro t a v; unfold storeVar
  repeat' (first | with_reducible exact tStuck _ | with_reducible exact tSize _ | with_reducible exact tStoreC _ _ _ | (with_reducible refine tB ?_ (fun _ => ?_)) | (split) | (dsimp only))
theorem tRow {P : Program} : ∀ (t : TypeId) (c : Array Value), TameT P (newRow t c) := by
  intro t c; unfold newRow
  repeat' (first | with_reducible exact tPure _ | with_reducible exact tNew _ | (with_reducible refine tB ?_ (fun _ => ?_)) | (split) | (dsimp only))
theorem tVar {P : Program} : ∀ (t : TypeId) (v : Value), TameT P (newVar t v) := by
  intro t v; unfold newVar
  repeat' (first | with_reducible exact tRow _ _ | (split) | (dsimp only))
theorem tElem {P : Program} : ∀ (t : TypeId), TameT P (elemOf t) := by
  intro t; unfold elemOf
  repeat' (first | with_reducible exact tPure _ | with_reducible exact tStuck _ | with_reducible exact tUnd _ | (with_reducible refine tB ?_ (fun _ => ?_)) | (split) | (dsimp only))
theorem tPart {P : Program} : ∀ (t : TypeId) (c : Array Value) (o : Nat), TameT P (part t c o) := by
  intro t c o; unfold part
  repeat' (first | with_reducible exact tPure _ | with_reducible exact tStuck _ | with_reducible exact tSize _ | with_reducible exact tAgg _ | (with_reducible refine tB ?_ (fun _ => ?_)) | (split) | (dsimp only))
theorem tRun {P : Program} : ∀ {α : Type} {Q : α → Prop} (e : RuntimeError), Tame P Q (runtimePanic e) := by
  intro α Q e; unfold runtimePanic
  repeat' (first | with_reducible exact tPanic _ | with_reducible exact tProg | with_reducible exact tVar _ _ | with_reducible exact tElem _ | (with_reducible refine tB ?_ (fun _ => ?_)) | (split) | (dsimp only))
theorem tBnd {P : Program} : ∀ {α : Type} {Q : α → Prop} (k : IntKind) (x y : Int) (c : BoundsCode), Tame P Q (boundsPanic k x y c) := by
  intro α Q k x y c; unfold boundsPanic
  repeat' (first | with_reducible exact tPure _ | with_reducible exact tChoose _ | with_reducible exact tRun _ | (refine tB (α := Nat) ?_ (fun _ => ?_)) | exact trivial | (with_reducible refine tB ?_ (fun _ => ?_)) | (split) | (dsimp only))
theorem tIntOf {P : Program} : ∀ (v : Value), TameT P (asIntOf v) := by
  intro v; unfold asIntOf
  repeat' (first | with_reducible exact tPure _ | with_reducible exact tStuck _ | with_reducible exact tUns _ | (split) | (dsimp only))
theorem tInt {P : Program} : ∀ (v : Value), TameT P (asInt v) := by
  intro v; unfold asInt
  repeat' (first | with_reducible exact tPure _ | with_reducible exact tIntOf _ | (with_reducible refine tB ?_ (fun _ => ?_)) | (split) | (dsimp only))
theorem tBool {P : Program} : ∀ (v : Value), TameT P (asBool v) := by
  intro v; unfold asBool
  repeat' (first | with_reducible exact tPure _ | with_reducible exact tStuck _ | (split) | (dsimp only))
theorem tAggV {P : Program} : ∀ (v : Value), TameT P (asAgg v) := by
  intro v; unfold asAgg
  repeat' (first | with_reducible exact tPure _ | with_reducible exact tStuck _ | (split) | (dsimp only))
theorem tAddr {P : Program} : ∀ (v : Value), TameT P (asAddr v) := by
  intro v; unfold asAddr
  repeat' (first | with_reducible exact tPure _ | with_reducible exact tStuck _ | with_reducible exact tRun _ | (split) | (dsimp only))
theorem tSure {P : Program} : ∀ (v : Value), TameT P (Instr.sureAddr v) := by
  intro v; unfold Instr.sureAddr
  repeat' (first | with_reducible exact tPure _ | with_reducible exact tStuck _ | (split) | (dsimp only))
theorem tView {P : Program} : ∀ (r : Nat), TameT P (viewAt r) := by
  intro r; unfold viewAt
  repeat' (first | with_reducible exact tPure _ | with_reducible exact tShape _ | with_reducible exact tGetObj _ | (with_reducible refine tB ?_ (fun _ => ?_)) | (split) | (dsimp only))
theorem tNum {P : Program} : ∀ (r : Nat), TameT P (numberAt r) := by
  intro r; unfold numberAt
  repeat' (first | with_reducible exact tPure _ | with_reducible exact tShape _ | with_reducible exact tGetObj _ | (with_reducible refine tB ?_ (fun _ => ?_)) | (split) | (dsimp only))
theorem tBeh {P : Program} : ∀ (n : Addr), TameT P (behindNumber n) := by
  intro n; unfold behindNumber
  repeat' (first | with_reducible exact tPure _ | with_reducible exact tNum _ | (with_reducible refine tB ?_ (fun _ => ?_)) | (split) | (dsimp only))
theorem tAsNum {P : Program} : ∀ (n : Addr) (b : Bool), TameT P (asNumber n b) := by
  intro n b; unfold asNumber
  repeat' (first | with_reducible exact tPure _ | with_reducible exact tNew _ | (with_reducible refine tB ?_ (fun _ => ?_)) | (split) | (dsimp only))
theorem tNoView {P : Program} : ∀ (n : Addr), TameT P (noView n) := by
  intro n; unfold noView
  repeat' (first | with_reducible exact tPure _ | with_reducible exact tUns _ | with_reducible exact tView _ | (with_reducible refine tB ?_ (fun _ => ?_)) | (split) | (dsimp only))
theorem tStrish {P : Program} : ∀ (n : Addr), TameT P (stringish n) := by
  intro n; unfold stringish
  repeat' (first | with_reducible exact tPure _ | with_reducible exact tShape _ | with_reducible exact tFroz _ | (with_reducible refine tB ?_ (fun _ => ?_)) | (split) | (dsimp only))
theorem tMayBe {P : Program} : ∀ (a b : Addr), TameT P (mayBeOne a b) := by
  intro a b; unfold mayBeOne
  repeat' (first | with_reducible exact tPure _ | with_reducible exact tShape _ | with_reducible exact tStrish _ | (with_reducible refine tB ?_ (fun _ => ?_)) | (split) | (dsimp only))
theorem tSame {P : Program} : ∀ (a b : Addr), TameT P (sameAddr a b) := by
  intro a b; unfold sameAddr
  repeat' (first | with_reducible exact tPure _ | with_reducible exact tUns _ | with_reducible exact tFroz _ | with_reducible exact tChoose _ | with_reducible exact tNoView _ | with_reducible exact tMayBe _ _ | (with_reducible refine tB ?_ (fun _ => ?_)) | (split) | (dsimp only))
theorem tSamePt {P : Program} : ∀ (a b : Option Addr), TameT P (samePointer a b) := by
  intro a b; unfold samePointer
  repeat' (first | with_reducible exact tPure _ | with_reducible exact tSame _ _ | (split) | (dsimp only))
theorem tByte {P : Program} : ∀ (a : Addr), TameT P (byteOf a) := by
  intro a; unfold byteOf
  repeat' (first | with_reducible exact tPure _ | with_reducible exact tStuck _ | with_reducible exact tProg | with_reducible exact tShape _ | with_reducible exact tNoView _ | (with_reducible refine tB ?_ (fun _ => ?_)) | (split) | (dsimp only))
theorem tPartAt {P : Program} : ∀ (a : Addr) (c b : Nat), TameT P (partAt a c b) := by
  intro a c b; unfold partAt
  repeat' (first | with_reducible exact tPure _ | with_reducible exact tByte _ | (with_reducible refine tB ?_ (fun _ => ?_)) | (split) | (dsimp only))
theorem tField {P : Program} : ∀ (a : Addr) (f : Field), TameT P (fieldPlace a f) := by
  intro a f; unfold fieldPlace
  repeat' (first | with_reducible exact tPure _ | with_reducible exact tSize _ | with_reducible exact tPartAt _ _ _ | (with_reducible refine tB ?_ (fun _ => ?_)) | (split) | (dsimp only))
theorem tiAlloc {P : Program} : ∀ (t : TypeId) (b : Bool) (v : Value), TameT P (Instr.alloc t b v) := by
  intro t b v; unfold Instr.alloc
  repeat' (first | with_reducible exact tPure _ | with_reducible exact tZero _ | with_reducible exact tStoreV _ _ _ | with_reducible exact tVar _ _ | (with_reducible refine tB ?_ (fun _ => ?_)) | (split) | (dsimp only))
theorem tiBox {P : Program} : ∀ (t : TypeId) (v : Value), TameT P (Instr.box t v) := by
  intro t v; unfold Instr.box
  repeat' (first | with_reducible exact tPure _ | with_reducible exact tVar _ _ | (with_reducible refine tB ?_ (fun _ => ?_)) | (split) | (dsimp only))
theorem tiBuild {P : Program} : ∀ (t : TypeId) (l : Array (Nat × Value)), TameT P (Instr.build t l) := by
  intro t l; unfold Instr.build
  repeat' (first | with_reducible exact tPure _ | with_reducible exact tStuck _ | with_reducible exact tUnd _ | with_reducible exact tZero _ | with_reducible exact tSize _ | (refine tMapArr _ (fun _ => ?_) _) | (with_reducible refine tB ?_ (fun _ => ?_)) | (split) | (dsimp only))
theorem tiBuildS {P : Program} : ∀ (t : TypeId) (n : Nat) (l : Array (Nat × Value)), TameT P (Instr.buildSlice t n l) := by
  intro t n l; unfold Instr.buildSlice
  repeat' (first | with_reducible exact tPure _ | with_reducible exact tStuck _ | with_reducible exact tUns _ | with_reducible exact tUnd _ | with_reducible exact tZero _ | with_reducible exact tSize _ | with_reducible exact tRow _ _ | (with_reducible refine tB ?_ (fun _ => ?_)) | (split) | (dsimp only))
theorem tiLoad {P : Program} : ∀ (t : TypeId) (v : Value), TameT P (Instr.loadAt t v) := by
  intro t v; unfold Instr.loadAt
  repeat' (first | with_reducible exact tLoadV _ _ | with_reducible exact tSure _ | (with_reducible refine tB ?_ (fun _ => ?_)) | (split) | (dsimp only))
theorem tiStore {P : Program} : ∀ (t : TypeId) (v x : Value), TameT P (Instr.storeAt t v x) := by
  intro t v x; unfold Instr.storeAt
  repeat' (first | with_reducible exact tStoreV _ _ _ | with_reducible exact tSure _ | (with_reducible refine tB ?_ (fun _ => ?_)) | (split) | (dsimp only))
theorem tiMkI {P : Program} : ∀ (t : TypeId) (v : Value), TameT P (Instr.makeInterface t v) := by
  intro t v; unfold Instr.makeInterface
  repeat' (first | with_reducible exact tPure _ | with_reducible exact tStuck _ | with_reducible exact tUnd _ | (with_reducible refine tB ?_ (fun _ => ?_)) | (split) | (dsimp only))
theorem tiMkS {P : Program} : ∀ (t : TypeId) (l c : Value), TameT P (Instr.makeSlice t l c) := by
  intro t l c; unfold Instr.makeSlice
  repeat' (first | with_reducible exact tPure _ | with_reducible exact tStuck _ | with_reducible exact tChoose _ | with_reducible exact tRoom _ | with_reducible exact tInfo _ | with_reducible exact tUnd _ | with_reducible exact tZero _ | with_reducible exact tSize _ | with_reducible exact tRow _ _ | with_reducible exact tRun _ | with_reducible exact tInt _ | (with_reducible refine tB ?_ (fun _ => ?_)) | (split) | (dsimp only))
theorem tiSlB {P : Program} : ∀ (x : Value) (y : Nat) (c : BoundsCode), TameT P (Instr.sliceBound x y c) := by
  intro x y c; unfold Instr.sliceBound
  repeat' (first | with_reducible exact tPure _ | with_reducible exact tBnd _ _ _ _ | with_reducible exact tIntOf _ | (with_reducible refine tB ?_ (fun _ => ?_)) | (split) | (dsimp only))
theorem tiSlBs {P : Program} : ∀ (b : Bool) (x y : Nat) (l h m : Option Value), TameT P (Instr.sliceBounds b x y l h m) := by
  intro b x y l h m; unfold Instr.sliceBounds
  repeat' (first | with_reducible exact tPure _ | with_reducible exact tStuck _ | with_reducible exact tiSlB _ _ _ | (with_reducible refine tB ?_ (fun _ => ?_)) | (split) | (dsimp only))
theorem tiSl {P : Program} : ∀ (t : TypeId) (x : Value) (l h m : Option Value), TameT P (Instr.slice t x l h m) := by
  intro t x l h m; unfold Instr.slice
  repeat' (first | with_reducible exact tPure _ | with_reducible exact tStuck _ | with_reducible exact tUnd _ | with_reducible exact tSize _ | with_reducible exact tAddr _ | with_reducible exact tiSlBs _ _ _ _ _ _ | (with_reducible refine tB ?_ (fun _ => ?_)) | (split) | (dsimp only))
theorem tiSlA {P : Program} : ∀ (t : TypeId) (x : Value) (l h m : Option Value), TameT P (Instr.sliceAt t x l h m) := by
  intro t x l h m; unfold Instr.sliceAt
  repeat' (first | with_reducible exact tPure _ | with_reducible exact tUnd _ | with_reducible exact tSize _ | with_reducible exact tSure _ | with_reducible exact tiSlBs _ _ _ _ _ _ | with_reducible exact tiSl _ _ _ _ _ | (with_reducible refine tB ?_ (fun _ => ?_)) | (split) | (dsimp only))
theorem tiFieldA {P : Program} : ∀ (t : TypeId) (v : Value) (n : Nat), TameT P (Instr.fieldAt t v n) := by
  intro t v n; unfold Instr.fieldAt
  repeat' (first | with_reducible exact tPure _ | with_reducible exact tStuck _ | with_reducible exact tUnd _ | with_reducible exact tSure _ | with_reducible exact tField _ _ | (with_reducible refine tB ?_ (fun _ => ?_)) | (split) | (dsimp only))
theorem tiField {P : Program} : ∀ (t : TypeId) (v : Value) (n : Nat), TameT P (Instr.field t v n) := by
  intro t v n; unfold Instr.field
  repeat' (first | with_reducible exact tStuck _ | with_reducible exact tUnd _ | with_reducible exact tPart _ _ _ | with_reducible exact tAggV _ | (with_reducible refine tB ?_ (fun _ => ?_)) | (split) | (dsimp only))
theorem tiIndexA {P : Program} : ∀ (t : TypeId) (v x : Value), TameT P (Instr.indexAt t v x) := by
  intro t v x; unfold Instr.indexAt
  repeat' (first | with_reducible exact tPure _ | with_reducible exact tStuck _ | with_reducible exact tUns _ | with_reducible exact tUnd _ | with_reducible exact tSize _ | with_reducible exact tBnd _ _ _ _ | with_reducible exact tIntOf _ | with_reducible exact tSure _ | (with_reducible refine tB ?_ (fun _ => ?_)) | (split) | (dsimp only))
theorem tiIndex {P : Program} : ∀ (t : TypeId) (v x : Value), TameT P (Instr.index t v x) := by
  intro t v x; unfold Instr.index
  repeat' (first | with_reducible exact tPure _ | with_reducible exact tStuck _ | with_reducible exact tUnd _ | with_reducible exact tSize _ | with_reducible exact tPart _ _ _ | with_reducible exact tBnd _ _ _ _ | with_reducible exact tIntOf _ | (with_reducible refine tB ?_ (fun _ => ?_)) | (split) | (dsimp only))
theorem tiExtract {P : Program} : ∀ (v : Value) (n : Nat), TameT P (Instr.extract v n) := by
  intro v n; unfold Instr.extract
  repeat' (first | with_reducible exact tPure _ | with_reducible exact tStuck _ | (split) | (dsimp only))
end Go.Proofs.YtpajdmhgonmgoaaDoor

namespace Go.Proofs.YtpajdmhgonmgoaaDoor
open Go.RowKit
set_option linter.unusedVariables false
open Go.Conc
set_option linter.unusedSimpArgs false
theorem tIte {α : Type} {P : Program} {Q : α → Prop} {c : Prop} [Decidable c] {a b : Sem α} (ha : Tame P Q a) (hb : Tame P Q b) : Tame P Q (if c then a else b) := by
  split
  · exact ha
  · exact hb
theorem tForRange {β : Type} {P : Program} (f : Nat → β → Sem (ForInStep β)) (hf : ∀ a b, TameT P (f a b)) (n : Nat) (b : β) : TameT P (forIn [0:n] b f) := by
  rw [Std.Legacy.Range.forIn_eq_forIn_range']
  exact tForList f hf _ _
theorem tTwo {P : Program} : ∀ (a b : Addr), TameT P (Op.twoPlaces a b) := by
  intro a b; unfold Op.twoPlaces
  repeat' (first | with_reducible exact tPure _ | with_reducible exact tUns _ | with_reducible exact tProg | with_reducible exact tByte _ | (with_reducible refine tB ?_ (fun _ => ?_)) | (with_reducible refine tIte ?_ ?_) | (split) | (dsimp only))
theorem tASub {P : Program} : ∀ (k : IntKind) (a b : Addr), TameT P (Op.addrSub k a b) := by
  intro k a b; unfold Op.addrSub
  repeat' (first | with_reducible exact tPure _ | with_reducible exact tTwo _ _ | (with_reducible refine tB ?_ (fun _ => ?_)) | (split) | (dsimp only))
theorem tACmp {P : Program} : ∀ (o : BinOp) (a b : Addr), TameT P (Op.addrCmp o a b) := by
  intro o a b; unfold Op.addrCmp
  repeat' (first | with_reducible exact tPure _ | with_reducible exact tUns _ | with_reducible exact tTwo _ _ | (with_reducible refine tB ?_ (fun _ => ?_)) | (split) | (dsimp only))
theorem tAMod {P : Program} : ∀ (k : IntKind) (a : Addr) (n : Int), TameT P (Op.addrMod k a n) := by
  intro k a n; unfold Op.addrMod
  repeat' (first | with_reducible exact tPure _ | with_reducible exact tUns _ | with_reducible exact tShape _ | with_reducible exact tInfo _ | with_reducible exact tByte _ | (with_reducible refine tB ?_ (fun _ => ?_)) | (with_reducible refine tIte ?_ ?_) | (split) | (dsimp only))
theorem tUAdd {P : Program} (t : TypeId) (x y : Value) : TameT P (Builtin.unsafeAdd_ #[] t #[x, y]) := by
  cases x
  case pointer p =>
    refine tB (s := asInt y) (tInt _) (fun n => ?_)
    repeat' (first | with_reducible exact tPure _ | with_reducible exact tStuck _ | with_reducible exact tUns _ | with_reducible exact tProg | with_reducible exact tShape _ | with_reducible exact tInt _ | with_reducible exact tView _ | (with_reducible refine tB ?_ (fun _ => ?_)) | (with_reducible refine tIte ?_ ?_) | (split) | (dsimp only))
  all_goals exact tStuck _
theorem tMovN {P : Program} : ∀ (t : TypeId) (x y : Value), TameT P (movedNumber t x y) := by
  intro t x y; unfold movedNumber
  repeat' (first | with_reducible exact tPure _ | with_reducible exact tUns _ | with_reducible exact tUnd _ | with_reducible exact tBeh _ | with_reducible exact tAsNum _ _ | with_reducible exact tUAdd _ _ _ | (with_reducible refine tB ?_ (fun _ => ?_)) | (with_reducible refine tIte ?_ ?_) | (split) | (dsimp only))
theorem tMovP {P : Program} : ∀ (t : TypeId) (x y : Value), TameT P (movedPointer t x y) := by
  intro t x y; unfold movedPointer
  repeat' (first | with_reducible exact tUns _ | with_reducible exact tNum _ | with_reducible exact tUAdd _ _ _ | (with_reducible refine tB ?_ (fun _ => ?_)) | (with_reducible refine tIte ?_ ?_) | (split) | (dsimp only))
theorem tShift {P : Program} : ∀ (o : BinOp) (k : IntKind) (x : Int) (j : IntKind) (y : Int), TameT P (Op.shift o k x j y) := by
  intro o k x j y; unfold Op.shift
  repeat' (first | with_reducible exact tPure _ | with_reducible exact tStuck _ | with_reducible exact tRun _ | (with_reducible refine tIte ?_ ?_) | (split) | (dsimp only))
theorem tArith {P : Program} : ∀ (o : BinOp) (k : IntKind) (x y : Int), TameT P (Op.intArith o k x y) := by
  intro o k x y; unfold Op.intArith
  repeat' (first | with_reducible exact tPure _ | with_reducible exact tStuck _ | (split) | (dsimp only))
theorem tDiv {P : Program} : ∀ (o : BinOp) (k : IntKind) (x y : Int), TameT P (Op.intDiv o k x y) := by
  intro o k x y; unfold Op.intDiv
  repeat' (first | with_reducible exact tPure _ | with_reducible exact tStuck _ | with_reducible exact tRun _ | (with_reducible refine tIte ?_ ?_) | (split) | (dsimp only))
theorem tBits {P : Program} : ∀ (o : BinOp) (k : IntKind) (x y : Int), TameT P (Op.intBits o k x y) := by
  intro o k x y; unfold Op.intBits
  repeat' (first | with_reducible exact tPure _ | with_reducible exact tStuck _ | (split) | (dsimp only))
theorem tCmp {P : Program} : ∀ (o : BinOp) (x y : Int), TameT P (Op.intCmp o x y) := by
  intro o x y; unfold Op.intCmp
  repeat' (first | with_reducible exact tPure _ | with_reducible exact tStuck _ | (split) | (dsimp only))
theorem tFA {P : Program} : ∀ (o : BinOp) (k : FloatKind) (x y : Nat), TameT P (Op.floatArith o k x y) := by
  intro o k x y; unfold Op.floatArith
  repeat' (first | with_reducible exact tPure _ | with_reducible exact tStuck _ | with_reducible exact tChoose _ | (with_reducible refine tB ?_ (fun _ => ?_)) | (split) | (dsimp only))
theorem tFC {P : Program} : ∀ (o : BinOp) (k : FloatKind) (x y : Nat), TameT P (Op.floatCmp o k x y) := by
  intro o k x y; unfold Op.floatCmp
  repeat' (first | with_reducible exact tPure _ | with_reducible exact tStuck _ | (split) | (dsimp only))
theorem tFF {P : Program} : ∀ (k : FloatKind) (x : Nat) (j : FloatKind), TameT P (Conv.floatToFloat k x j) := by
  intro k x j; unfold Conv.floatToFloat
  repeat' (first | with_reducible exact tPure _ | with_reducible exact tChoose _ | (with_reducible refine tB ?_ (fun _ => ?_)) | (with_reducible refine tIte ?_ ?_) | (split) | (dsimp only))
theorem tCA {P : Program} : ∀ (o : BinOp) (k : FloatKind) (x y : Nat), TameT P (Op.Complex.arith o k x y) := by
  intro o k x y; unfold Op.Complex.arith
  repeat' (first | with_reducible exact tPure _ | with_reducible exact tStuck _ | with_reducible exact tFA _ _ _ _ | (with_reducible refine tB ?_ (fun _ => ?_)) | (split) | (dsimp only))
theorem tCC {P : Program} : ∀ (o : BinOp) (k : FloatKind) (x y : Nat), TameT P (Op.Complex.cmp o k x y) := by
  intro o k x y; unfold Op.Complex.cmp
  repeat' (first | with_reducible exact tBool _ | with_reducible exact tFC _ _ _ _ | (with_reducible refine tB ?_ (fun _ => ?_)) | (split) | (dsimp only))
theorem tCV {P : Program} : ∀ (k : FloatKind) (x : Nat) (j : FloatKind), TameT P (Op.Complex.conv k x j) := by
  intro k x j; unfold Op.Complex.conv
  repeat' (first | with_reducible exact tPure _ | with_reducible exact tStuck _ | with_reducible exact tFF _ _ _ | (with_reducible refine tB ?_ (fun _ => ?_)) | (with_reducible refine tIte ?_ ?_) | (split) | (dsimp only))
theorem tCM {P : Program} : ∀ (x y : Nat), TameT P (Op.Complex.mul x y) := by
  intro x y; unfold Op.Complex.mul
  repeat' (first | with_reducible exact tCA _ _ _ _ | (split) | (dsimp only))
theorem tCAd {P : Program} : ∀ (x y : Nat), TameT P (Op.Complex.add x y) := by
  intro x y; unfold Op.Complex.add
  repeat' (first | with_reducible exact tCA _ _ _ _ | (split) | (dsimp only))
theorem tCSu {P : Program} : ∀ (x y : Nat), TameT P (Op.Complex.sub x y) := by
  intro x y; unfold Op.Complex.sub
  repeat' (first | with_reducible exact tCA _ _ _ _ | (split) | (dsimp only))
theorem tCQu {P : Program} : ∀ (x y : Nat), TameT P (Op.Complex.quo x y) := by
  intro x y; unfold Op.Complex.quo
  repeat' (first | with_reducible exact tCA _ _ _ _ | (split) | (dsimp only))
theorem tCPr {P : Program} : ∀ (a b c d : Nat), TameT P (Op.Complex.product a b c d) := by
  intro a b c d; unfold Op.Complex.product
  repeat' (first | with_reducible exact tPure _ | with_reducible exact tCM _ _ | with_reducible exact tCAd _ _ | with_reducible exact tCSu _ _ | (with_reducible refine tB ?_ (fun _ => ?_)) | (split) | (dsimp only))
theorem tCCo {P : Program} : ∀ (s a b c d : Nat), TameT P (Op.Complex.corrected s a b c d) := by
  intro s a b c d; unfold Op.Complex.corrected
  repeat' (first | with_reducible exact tPure _ | with_reducible exact tCM _ _ | with_reducible exact tCAd _ _ | with_reducible exact tCSu _ _ | (with_reducible refine tB ?_ (fun _ => ?_)) | (split) | (dsimp only))
theorem tCQt {P : Program} : ∀ (a b c d : Nat), TameT P (Op.Complex.quotient a b c d) := by
  intro a b c d; unfold Op.Complex.quotient
  repeat' (first | with_reducible exact tPure _ | with_reducible exact tCC _ _ _ _ | with_reducible exact tCM _ _ | with_reducible exact tCAd _ _ | with_reducible exact tCSu _ _ | with_reducible exact tCQu _ _ | with_reducible exact tCCo _ _ _ _ _ | (with_reducible refine tB ?_ (fun _ => ?_)) | (with_reducible refine tIte ?_ ?_) | (split) | (dsimp only))
theorem tCO {P : Program} : ∀ (o : BinOp) (k : FloatKind) (a b c d : Nat), TameT P (Op.complexOp o k a b c d) := by
  intro o k a b c d; unfold Op.complexOp
  repeat' (first | with_reducible exact tPure _ | with_reducible exact tStuck _ | with_reducible exact tCA _ _ _ _ | with_reducible exact tCC _ _ _ _ | with_reducible exact tCV _ _ _ | with_reducible exact tCPr _ _ _ _ | with_reducible exact tCQt _ _ _ _ | (with_reducible refine tB ?_ (fun _ => ?_)) | (with_reducible refine tIte ?_ ?_) | (split) | (dsimp only))
theorem tSO {P : Program} : ∀ (o : BinOp) (a b : ByteArray), TameT P (Op.stringOp o a b) := by
  intro o a b; unfold Op.stringOp
  repeat' (first | with_reducible exact tPure _ | with_reducible exact tStuck _ | with_reducible exact tUns _ | (with_reducible refine tIte ?_ ?_) | (split) | (dsimp only))
theorem tUn {P : Program} : ∀ (o : UnOp) (v : Value), TameT P (Op.unary o v) := by
  intro o v; unfold Op.unary
  repeat' (first | with_reducible exact tPure _ | with_reducible exact tStuck _ | with_reducible exact tUns _ | with_reducible exact tArith _ _ _ _ | with_reducible exact tBits _ _ _ _ | (split) | (dsimp only))
theorem tEqIn {P : Program} : ∀ (d : Nat) (t : TypeId) (x y : Value), TameT P (Op.equalIn d t x y) := by
  intro d
  induction d with
  | zero => intro t x y; exact tUns _
  | succ d ih =>
    intro t x y
    unfold Op.equalIn
    repeat' (first | with_reducible exact tPure _ | with_reducible exact tStuck _ | with_reducible exact tUns _ | with_reducible exact tProg | with_reducible exact tChoose _ | with_reducible exact tInfo _ | with_reducible exact tUnd _ | with_reducible exact tSize _ | with_reducible exact tStr _ | with_reducible exact tPart _ _ _ | with_reducible exact tRun _ | with_reducible exact tBeh _ | with_reducible exact tSame _ _ | with_reducible exact tSamePt _ _ | with_reducible exact tByte _ | with_reducible exact ih _ _ _ | (with_reducible refine tB ?_ (fun _ => ?_)) | (refine tForArr _ (fun _ _ => ?_) _ _) | (refine tForRange _ (fun _ _ => ?_) _ _) | (with_reducible refine tIte ?_ ?_) | (split) | (dsimp only))
theorem tGuIn {P : Program} : ∀ (d : Nat) (t : TypeId) (x y : Value), TameT P (Op.eqGuardIn d t x y) := by
  intro d
  induction d with
  | zero => intro t x y; exact tUns _
  | succ d ih =>
    intro t x y
    unfold Op.eqGuardIn
    repeat' (first | with_reducible exact tPure _ | with_reducible exact tUns _ | with_reducible exact tUnd _ | with_reducible exact tSize _ | with_reducible exact tPart _ _ _ | with_reducible exact ih _ _ _ | (with_reducible refine tB ?_ (fun _ => ?_)) | (refine tForArr _ (fun _ _ => ?_) _ _) | (refine tForRange _ (fun _ _ => ?_) _ _) | (with_reducible refine tIte ?_ ?_) | (split) | (dsimp only))
theorem tEq {P : Program} : ∀ (t : TypeId) (x y : Value), TameT P (Op.equal t x y) := by
  intro t x y; unfold Op.equal
  repeat' (first | with_reducible exact tEqIn _ _ _ _ | (split) | (dsimp only))
theorem tGu {P : Program} : ∀ (o : BinOp) (t : TypeId) (x y : Operand) (a b : Value), TameT P (eqGuard o t x y a b) := by
  intro o t x y a b; unfold eqGuard
  repeat' (first | with_reducible exact tPure _ | with_reducible exact tUns _ | with_reducible exact tProg | with_reducible exact tGuIn _ _ _ _ | (with_reducible refine tB ?_ (fun _ => ?_)) | (with_reducible refine tIte ?_ ?_) | (split) | (dsimp only))
theorem tBin {P : Program} : ∀ (o : BinOp) (t : TypeId) (x y : Value), TameT P (binOp o t x y) := by
  intro o t x y; unfold binOp
  repeat' (first | with_reducible exact tPure _ | with_reducible exact tStuck _ | with_reducible exact tUns _ | with_reducible exact tUnd _ | with_reducible exact tBeh _ | with_reducible exact tASub _ _ _ | with_reducible exact tACmp _ _ _ | with_reducible exact tAMod _ _ _ | with_reducible exact tMovN _ _ _ | with_reducible exact tMovP _ _ _ | with_reducible exact tShift _ _ _ _ _ | with_reducible exact tArith _ _ _ _ | with_reducible exact tDiv _ _ _ _ | with_reducible exact tBits _ _ _ _ | with_reducible exact tCmp _ _ _ | with_reducible exact tFA _ _ _ _ | with_reducible exact tFC _ _ _ _ | with_reducible exact tCO _ _ _ _ _ _ | with_reducible exact tSO _ _ _ | with_reducible exact tEq _ _ _ | (with_reducible refine tB ?_ (fun _ => ?_)) | (with_reducible refine tIte ?_ ?_) | (split) | (dsimp only))
theorem tFolB {P : Program} : ∀ (l : List FieldStep) (t : TypeId) (x : Option Value), TameT P (followBlind l t x) := by
  intro l
  induction l with
  | nil => intro t x; exact tPure _
  | cons s r ih =>
    intro t x
    unfold followBlind
    repeat' (first | with_reducible exact tPure _ | with_reducible exact tStuck _ | with_reducible exact tUnd _ | with_reducible exact tPart _ _ _ | with_reducible exact ih _ _ | (with_reducible refine tB ?_ (fun _ => ?_)) | (split) | (dsimp only))
theorem tNilA {P : Program} : ∀ (d : Nat) (t : TypeId) (x : Value) (s : String), TameT P (nilAhead d t x s) := by
  intro d
  induction d with
  | zero => intro t x s; exact tPure _
  | succ d ih =>
    intro t x s
    unfold nilAhead
    repeat' (first | with_reducible exact tPure _ | with_reducible exact tStuck _ | with_reducible exact tInfo _ | with_reducible exact tUnd _ | with_reducible exact ih _ _ _ | with_reducible exact tFolB _ _ _ | (with_reducible refine tB ?_ (fun _ => ?_)) | (split) | (dsimp only))
theorem tLen {P : Program} : ∀ (l : Array TypeId) (t : TypeId) (v : Array Value), TameT P (Builtin.len_ l t v) := by
  intro l t v; unfold Builtin.len_
  repeat' (first | with_reducible exact tPure _ | with_reducible exact tStuck _ | with_reducible exact tGetObj _ | with_reducible exact tUnd _ | (with_reducible refine tB ?_ (fun _ => ?_)) | (split) | (dsimp only))
theorem tCap {P : Program} : ∀ (l : Array TypeId) (t : TypeId) (v : Array Value), TameT P (Builtin.cap_ l t v) := by
  intro l t v; unfold Builtin.cap_
  repeat' (first | with_reducible exact tPure _ | with_reducible exact tStuck _ | with_reducible exact tGetObj _ | with_reducible exact tUnd _ | (with_reducible refine tB ?_ (fun _ => ?_)) | (split) | (dsimp only))
theorem tHolds {P : Program} : ∀ (a : Addr) (n : Nat), TameT P (Builtin.holdsCells a n) := by
  intro a n; unfold Builtin.holdsCells
  repeat' (first | with_reducible exact tPure _ | with_reducible exact tShape _ | (with_reducible refine tB ?_ (fun _ => ?_)) | (split) | (dsimp only))
theorem tMaySh {P : Program} : ∀ (a b c : Nat) (o : Option Addr) (v : Value), TameT P (Builtin.mayShare a b c o v) := by
  intro a b c o v; unfold Builtin.mayShare
  repeat' (first | with_reducible exact tPure _ | with_reducible exact tFroz _ | with_reducible exact tHolds _ _ | (with_reducible refine tB ?_ (fun _ => ?_)) | (with_reducible refine tIte ?_ ?_) | (split) | (dsimp only))
theorem tLenOf {P : Program} : ∀ (v : Value), TameT P (Builtin.lenOf v) := by
  intro v; unfold Builtin.lenOf
  repeat' (first | with_reducible exact tPure _ | with_reducible exact tStuck _ | (split) | (dsimp only))
theorem tFirst {P : Program} : ∀ (a b : Nat) (v : Value), TameT P (Builtin.firstCells a b v) := by
  intro a b v; unfold Builtin.firstCells
  repeat' (first | with_reducible exact tPure _ | with_reducible exact tStuck _ | with_reducible exact tLoadCs _ _ | (split) | (dsimp only))
theorem tMark {P : Program} : TameT P (mark .noRoom) := ⟨rfl, trivial⟩
theorem tCopy {P : Program} : ∀ (l : Array TypeId) (t : TypeId) (v : Array Value), TameT P (Builtin.copy_ l t v) := by
  intro l t v; unfold Builtin.copy_
  repeat' (first | with_reducible exact tPure _ | with_reducible exact tStuck _ | with_reducible exact tUnd _ | with_reducible exact tSize _ | with_reducible exact tStoreC _ _ _ | with_reducible exact tLenOf _ | with_reducible exact tFirst _ _ _ | (with_reducible refine tB ?_ (fun _ => ?_)) | (split) | (dsimp only))
set_option maxHeartbeats 4000000 in
theorem tApp {P : Program} : ∀ (l : Array TypeId) (t : TypeId) (v : Array Value), TameT P (Builtin.append_ l t v) := by
  intro l t v; unfold Builtin.append_
  repeat' (first | with_reducible exact tPure _ | with_reducible exact tStuck _ | with_reducible exact tUns _ | with_reducible exact tChoose _ | with_reducible exact tRoom _ | with_reducible exact tInfo _ | with_reducible exact tUnd _ | with_reducible exact tZero _ | with_reducible exact tSize _ | with_reducible exact tStoreC _ _ _ | with_reducible exact tRow _ _ | with_reducible exact tRun _ | with_reducible exact tInt _ | with_reducible exact tMaySh _ _ _ _ _ | with_reducible exact tLenOf _ | with_reducible exact tFirst _ _ _ | with_reducible exact tMark | (with_reducible refine tB ?_ (fun _ => ?_)) | (with_reducible refine tIte ?_ ?_) | (split) | (dsimp only))
end Go.Proofs.YtpajdmhgonmgoaaDoor

