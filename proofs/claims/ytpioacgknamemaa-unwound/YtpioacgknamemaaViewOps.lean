/- Which operations of the program act alike in a small world and in a great one (see View). -/
import Derived.Test.YtpioacgknamemaaView
namespace Go.Proofs.Ytpioacgknamemaa
open Go Go.RowKit
section
variable {P : Program} {α β : Type}

theorem Lcl.stuck (s : String) : Lcl P (Go.stuck s : Sem α) := Lcl.halt trivial
theorem Lcl.unsup (x : Unsupported) (h : Mild (.unsupported x)) : Lcl P (Go.unsupported x : Sem α) := Lcl.halt h
theorem Lcl.goPanic (v : Value) : Lcl P (Go.goPanic v : Sem α) := Lcl.halt trivial
theorem Lcl.loadA (a : Addr) (m : Mode) : Lcl P (Go.load a m) := Lcl.load m a (fun v => Lcl.pure v)
theorem Lcl.storeA (a : Addr) (v : Value) (m : Mode) : Lcl P (Go.store a v m) := Lcl.store m a v (Lcl.pure ())
theorem Lcl.chooseQ (q : Question) : Lcl P (Go.choose q) := Lcl.choose q (fun n => Lcl.pure n)
theorem Lcl.bindP {f : Program → Sem β} (h : Lcl P (f P)) : Lcl P (Go.program >>= f) := Lcl.program h
theorem Lcl.bindU {t : TypeId} {f : TypeDesc → Sem β} (h : ∀ d, P.underlying t = some d → Lcl P (f d)) : Lcl P (Go.underlying t >>= f) := by
  show Lcl P (Sem.program fun p => Sem.bind (match p.underlying t with | some d => Sem.pure d | none => Go.stuck "no such type") f)
  refine Lcl.program ?_
  cases hu : P.underlying t with
  | none => exact Lcl.halt trivial
  | some d => exact h d hu
theorem Lcl.bindI {t : TypeId} {f : TypeInfo → Sem β} (h : ∀ d, P.info? t = some d → Lcl P (f d)) : Lcl P (Go.typeInfo t >>= f) := by
  show Lcl P (Sem.program fun p => Sem.bind (match p.info? t with | some d => Sem.pure d | none => Go.stuck "no such type") f)
  refine Lcl.program ?_
  cases hu : P.info? t with
  | none => exact Lcl.halt trivial
  | some d => exact h d hu
theorem Lcl.underlying (t : TypeId) : Lcl P (Go.underlying t) := by
  have := Lcl.bindU (P := P) (t := t) (f := Sem.pure) (fun d _ => Lcl.pure d)
  have e : (Go.underlying t >>= Sem.pure) = Go.underlying t := by
    show (Sem.program fun p => Sem.bind (match p.underlying t with | some d => Sem.pure d | none => Go.stuck "no such type") Sem.pure) = Sem.program fun p => match p.underlying t with | some d => Sem.pure d | none => Go.stuck "no such type"
    congr 1; funext p; split <;> rfl
  rwa [e] at this
theorem Lcl.typeInfo (t : TypeId) : Lcl P (Go.typeInfo t) := by
  have := Lcl.bindI (P := P) (t := t) (f := Sem.pure) (fun d _ => Lcl.pure d)
  have e : (Go.typeInfo t >>= Sem.pure) = Go.typeInfo t := by
    show (Sem.program fun p => Sem.bind (match p.info? t with | some d => Sem.pure d | none => Go.stuck "no such type") Sem.pure) = Sem.program fun p => match p.info? t with | some d => Sem.pure d | none => Go.stuck "no such type"
    congr 1; funext p; split <;> rfl
  rwa [e] at this
theorem Lcl.sizeOf (t : TypeId) : Lcl P (Go.sizeOf t) := by unfold Go.sizeOf; exact (Lcl.typeInfo t).bind fun _ => Lcl.pure _
theorem Lcl.zeroValue (t : TypeId) : Lcl P (Go.zeroValue t) := by
  unfold Go.zeroValue
  refine (Lcl.typeInfo t).bind fun i => ?_
  split
  · exact Lcl.pure _
  · exact Lcl.unsup _ trivial
theorem Lcl.isAgg (t : TypeId) : Lcl P (Go.isAgg t) := by
  unfold Go.isAgg
  refine (Lcl.underlying t).bind fun i => ?_
  split <;> exact Lcl.pure _
theorem Lcl.asIntOf (v : Value) : Lcl P (Go.asIntOf v) := by
  unfold Go.asIntOf
  split
  · exact Lcl.pure _
  · exact Lcl.unsup _ trivial
  · exact Lcl.stuck _
theorem Lcl.asInt (v : Value) : Lcl P (Go.asInt v) := by unfold Go.asInt; exact (Lcl.asIntOf v).bind fun _ => Lcl.pure _
theorem Lcl.asBool (v : Value) : Lcl P (Go.asBool v) := by
  unfold Go.asBool
  split
  · exact Lcl.pure _
  · exact Lcl.stuck _
theorem Lcl.asAgg (v : Value) : Lcl P (Go.asAgg v) := by
  unfold Go.asAgg
  split
  · exact Lcl.pure _
  · exact Lcl.stuck _
theorem Lcl.newRow (e : TypeId) (c : Array Value) : Lcl P (Go.newRow e c) := by
  unfold Go.newRow Go.newObj
  exact Lcl.bind (Lcl.new c e (0, 0) fun r => Lcl.pure r) fun _ => Lcl.pure _
theorem Lcl.newVar (e : TypeId) (v : Value) : Lcl P (Go.newVar e v) := Lcl.newRow e _
theorem Lcl.elemOf (t : TypeId) : Lcl P (Go.elemOf t) := by
  unfold Go.elemOf
  refine (Lcl.underlying t).bind fun i => ?_
  split
  · exact Lcl.pure _
  · exact Lcl.stuck _
theorem Lcl.rtPanic (e : RuntimeError) : Lcl P (Go.runtimePanic e : Sem α) := by
  unfold Go.runtimePanic
  refine Lcl.bindP ?_
  dsimp only
  cases e with
  | typeAssertion i c a m => exact (Lcl.elemOf _).bind fun _ => (Lcl.newVar _ _).bind fun _ => Lcl.goPanic _
  | panicNil => exact (Lcl.elemOf _).bind fun _ => (Lcl.newVar _ _).bind fun _ => Lcl.goPanic _
  | _ => exact Lcl.goPanic _
theorem Lcl.bndPanic (k : IntKind) (x y : Int) (c : BoundsCode) : Lcl P (Go.boundsPanic k x y c : Sem α) := by
  unfold Go.boundsPanic
  dsimp only
  split
  · exact Lcl.bind (Lcl.bind (Lcl.chooseQ _) fun _ => Lcl.pure _) fun _ => Lcl.rtPanic _
  · exact (Lcl.pure _).bind fun _ => Lcl.rtPanic _
theorem Lcl.asAddr (v : Value) : Lcl P (Go.asAddr v) := by
  unfold Go.asAddr
  split
  · exact Lcl.pure _
  · exact Lcl.rtPanic _
  · exact Lcl.stuck _
theorem Lcl.sureAddr (v : Value) : Lcl P (Instr.sureAddr v) := by
  unfold Instr.sureAddr
  split
  · exact Lcl.pure _
  · exact Lcl.stuck _
theorem Lcl.askRoom (n : Nat) : Lcl P (Go.askRoom n) := by
  unfold Go.askRoom Go.mark
  split
  · exact Lcl.mark _ (.inr rfl) (Lcl.pure ())
  · exact Lcl.pure _
theorem Lcl.loadCellsFrom (a : Addr) : ∀ (n i : Nat) (acc : Array Value), Lcl P (Go.loadCellsFrom a i n acc)
  | 0, _, _ => Lcl.pure _
  | n + 1, i, _ => (Lcl.loadA _ _).bind fun _ => Lcl.loadCellsFrom a n (i + 1) _
theorem Lcl.loadCells (a : Addr) (n : Nat) : Lcl P (Go.loadCells a n) := Lcl.loadCellsFrom a n 0 _
theorem Lcl.storeCells (a : Addr) : ∀ (vs : List Value) (i : Nat), Lcl P (Go.storeCells a vs i)
  | [], _ => Lcl.pure _
  | _ :: vs, i => (Lcl.storeA _ _ _).bind fun _ => Lcl.storeCells a vs (i + 1)
theorem Lcl.loadVar (t : TypeId) (a : Addr) : Lcl P (Go.loadVar t a) := by
  unfold Go.loadVar
  refine (Lcl.isAgg t).bind fun b => ?_
  split
  · exact (Lcl.sizeOf t).bind fun _ => (Lcl.loadCells _ _).bind fun _ => Lcl.pure _
  · exact Lcl.loadA _ _
theorem Lcl.storeVar (t : TypeId) (a : Addr) (v : Value) : Lcl P (Go.storeVar t a v) := by
  unfold Go.storeVar
  refine (Lcl.sizeOf t).bind fun n => ?_
  dsimp only
  split
  · exact (Lcl.stuck _).bind fun _ => Lcl.storeCells _ _ _
  · exact Lcl.storeCells _ _ _
theorem Lcl.part (t : TypeId) (cs : Array Value) (off : Nat) : Lcl P (Go.part t cs off) := by
  unfold Go.part
  refine (Lcl.isAgg t).bind fun b => ?_
  split
  · exact (Lcl.sizeOf t).bind fun _ => Lcl.pure _
  · split
    · exact Lcl.pure _
    · exact Lcl.stuck _
theorem Lcl.sliceBound (x : Value) (y : Nat) (c : BoundsCode) : Lcl P (Instr.sliceBound x y c) := by
  unfold Instr.sliceBound
  refine (Lcl.asIntOf x).bind fun b => ?_
  dsimp only
  split
  · exact Lcl.pure _
  · exact Lcl.bndPanic _ _ _ _
theorem Lcl.sliceBounds (b : Bool) (l c : Nat) (lo hi mx : Option Value) : Lcl P (Instr.sliceBounds b l c lo hi mx) := by
  unfold Instr.sliceBounds
  (repeat' (first | exact Lcl.pure _ | exact Lcl.stuck _ | exact Lcl.unsup _ trivial | exact Lcl.goPanic _ | exact Lcl.rtPanic _ | exact Lcl.bndPanic _ _ _ _ | exact Lcl.loadA _ _ | exact Lcl.storeA _ _ _ | exact Lcl.underlying _ | exact Lcl.typeInfo _ | exact Lcl.sizeOf _ | exact Lcl.zeroValue _ | exact Lcl.isAgg _ | exact Lcl.asIntOf _ | exact Lcl.asInt _ | exact Lcl.asBool _ | exact Lcl.asAddr _ | exact Lcl.sureAddr _ | exact Lcl.chooseQ _ | exact Lcl.part _ _ _ | exact Lcl.newRow _ _ | exact Lcl.newVar _ _ | exact Lcl.askRoom _ | exact Lcl.loadVar _ _ | exact Lcl.storeVar _ _ _ | exact Lcl.loadCells _ _ | exact Lcl.storeCells _ _ _ | exact Lcl.sliceBound _ _ _ | assumption | apply Lcl.bind | intro _ | split | dsimp only))

/-! ### the operations -/
theorem Lcl.alloc (e : TypeId) : Lcl P (Instr.alloc e true (.tuple #[])) := by
  unfold Instr.alloc
  (repeat' (first | exact Lcl.pure _ | exact Lcl.stuck _ | exact Lcl.unsup _ trivial | exact Lcl.goPanic _ | exact Lcl.rtPanic _ | exact Lcl.bndPanic _ _ _ _ | exact Lcl.loadA _ _ | exact Lcl.storeA _ _ _ | exact Lcl.underlying _ | exact Lcl.typeInfo _ | exact Lcl.sizeOf _ | exact Lcl.zeroValue _ | exact Lcl.isAgg _ | exact Lcl.asIntOf _ | exact Lcl.asInt _ | exact Lcl.asBool _ | exact Lcl.asAddr _ | exact Lcl.sureAddr _ | exact Lcl.chooseQ _ | exact Lcl.part _ _ _ | exact Lcl.newRow _ _ | exact Lcl.newVar _ _ | exact Lcl.askRoom _ | exact Lcl.loadVar _ _ | exact Lcl.storeVar _ _ _ | exact Lcl.loadCells _ _ | exact Lcl.storeCells _ _ _ | exact Lcl.sliceBound _ _ _ | assumption | apply Lcl.bind | intro _ | split | dsimp only))
theorem Lcl.box (e : TypeId) (v : Value) : Lcl P (Instr.box e v) := by
  unfold Instr.box
  (repeat' (first | exact Lcl.pure _ | exact Lcl.stuck _ | exact Lcl.unsup _ trivial | exact Lcl.goPanic _ | exact Lcl.rtPanic _ | exact Lcl.bndPanic _ _ _ _ | exact Lcl.loadA _ _ | exact Lcl.storeA _ _ _ | exact Lcl.underlying _ | exact Lcl.typeInfo _ | exact Lcl.sizeOf _ | exact Lcl.zeroValue _ | exact Lcl.isAgg _ | exact Lcl.asIntOf _ | exact Lcl.asInt _ | exact Lcl.asBool _ | exact Lcl.asAddr _ | exact Lcl.sureAddr _ | exact Lcl.chooseQ _ | exact Lcl.part _ _ _ | exact Lcl.newRow _ _ | exact Lcl.newVar _ _ | exact Lcl.askRoom _ | exact Lcl.loadVar _ _ | exact Lcl.storeVar _ _ _ | exact Lcl.loadCells _ _ | exact Lcl.storeCells _ _ _ | exact Lcl.sliceBound _ _ _ | assumption | apply Lcl.bind | intro _ | split | dsimp only))
theorem Lcl.loadAt (t : TypeId) (v : Value) : Lcl P (Instr.loadAt t v) := by
  unfold Instr.loadAt
  (repeat' (first | exact Lcl.pure _ | exact Lcl.stuck _ | exact Lcl.unsup _ trivial | exact Lcl.goPanic _ | exact Lcl.rtPanic _ | exact Lcl.bndPanic _ _ _ _ | exact Lcl.loadA _ _ | exact Lcl.storeA _ _ _ | exact Lcl.underlying _ | exact Lcl.typeInfo _ | exact Lcl.sizeOf _ | exact Lcl.zeroValue _ | exact Lcl.isAgg _ | exact Lcl.asIntOf _ | exact Lcl.asInt _ | exact Lcl.asBool _ | exact Lcl.asAddr _ | exact Lcl.sureAddr _ | exact Lcl.chooseQ _ | exact Lcl.part _ _ _ | exact Lcl.newRow _ _ | exact Lcl.newVar _ _ | exact Lcl.askRoom _ | exact Lcl.loadVar _ _ | exact Lcl.storeVar _ _ _ | exact Lcl.loadCells _ _ | exact Lcl.storeCells _ _ _ | exact Lcl.sliceBound _ _ _ | assumption | apply Lcl.bind | intro _ | split | dsimp only))
theorem Lcl.storeAt (t : TypeId) (a v : Value) : Lcl P (Instr.storeAt t a v) := by
  unfold Instr.storeAt
  (repeat' (first | exact Lcl.pure _ | exact Lcl.stuck _ | exact Lcl.unsup _ trivial | exact Lcl.goPanic _ | exact Lcl.rtPanic _ | exact Lcl.bndPanic _ _ _ _ | exact Lcl.loadA _ _ | exact Lcl.storeA _ _ _ | exact Lcl.underlying _ | exact Lcl.typeInfo _ | exact Lcl.sizeOf _ | exact Lcl.zeroValue _ | exact Lcl.isAgg _ | exact Lcl.asIntOf _ | exact Lcl.asInt _ | exact Lcl.asBool _ | exact Lcl.asAddr _ | exact Lcl.sureAddr _ | exact Lcl.chooseQ _ | exact Lcl.part _ _ _ | exact Lcl.newRow _ _ | exact Lcl.newVar _ _ | exact Lcl.askRoom _ | exact Lcl.loadVar _ _ | exact Lcl.storeVar _ _ _ | exact Lcl.loadCells _ _ | exact Lcl.storeCells _ _ _ | exact Lcl.sliceBound _ _ _ | assumption | apply Lcl.bind | intro _ | split | dsimp only))
theorem Lcl.indexAt (t : TypeId) (x i : Value) : Lcl P (Instr.indexAt t x i) := by
  unfold Instr.indexAt
  (repeat' (first | exact Lcl.pure _ | exact Lcl.stuck _ | exact Lcl.unsup _ trivial | exact Lcl.goPanic _ | exact Lcl.rtPanic _ | exact Lcl.bndPanic _ _ _ _ | exact Lcl.loadA _ _ | exact Lcl.storeA _ _ _ | exact Lcl.underlying _ | exact Lcl.typeInfo _ | exact Lcl.sizeOf _ | exact Lcl.zeroValue _ | exact Lcl.isAgg _ | exact Lcl.asIntOf _ | exact Lcl.asInt _ | exact Lcl.asBool _ | exact Lcl.asAddr _ | exact Lcl.sureAddr _ | exact Lcl.chooseQ _ | exact Lcl.part _ _ _ | exact Lcl.newRow _ _ | exact Lcl.newVar _ _ | exact Lcl.askRoom _ | exact Lcl.loadVar _ _ | exact Lcl.storeVar _ _ _ | exact Lcl.loadCells _ _ | exact Lcl.storeCells _ _ _ | exact Lcl.sliceBound _ _ _ | assumption | apply Lcl.bind | intro _ | split | dsimp only))
theorem Lcl.index (t : TypeId) (x i : Value) : Lcl P (Instr.index t x i) := by
  unfold Instr.index
  (repeat' (first | exact Lcl.pure _ | exact Lcl.stuck _ | exact Lcl.unsup _ trivial | exact Lcl.goPanic _ | exact Lcl.rtPanic _ | exact Lcl.bndPanic _ _ _ _ | exact Lcl.loadA _ _ | exact Lcl.storeA _ _ _ | exact Lcl.underlying _ | exact Lcl.typeInfo _ | exact Lcl.sizeOf _ | exact Lcl.zeroValue _ | exact Lcl.isAgg _ | exact Lcl.asIntOf _ | exact Lcl.asInt _ | exact Lcl.asBool _ | exact Lcl.asAddr _ | exact Lcl.sureAddr _ | exact Lcl.chooseQ _ | exact Lcl.part _ _ _ | exact Lcl.newRow _ _ | exact Lcl.newVar _ _ | exact Lcl.askRoom _ | exact Lcl.loadVar _ _ | exact Lcl.storeVar _ _ _ | exact Lcl.loadCells _ _ | exact Lcl.storeCells _ _ _ | exact Lcl.sliceBound _ _ _ | assumption | apply Lcl.bind | intro _ | split | dsimp only))
theorem Lcl.slice (t : TypeId) (x : Value) (lo hi mx : Option Value) : Lcl P (Instr.slice t x lo hi mx) := by
  unfold Instr.slice
  have hB := fun b l c lo hi mx => Lcl.sliceBounds (P := P) b l c lo hi mx
  (repeat' (first | exact hB _ _ _ _ _ _ | exact Lcl.pure _ | exact Lcl.stuck _ | exact Lcl.unsup _ trivial | exact Lcl.goPanic _ | exact Lcl.rtPanic _ | exact Lcl.bndPanic _ _ _ _ | exact Lcl.loadA _ _ | exact Lcl.storeA _ _ _ | exact Lcl.underlying _ | exact Lcl.typeInfo _ | exact Lcl.sizeOf _ | exact Lcl.zeroValue _ | exact Lcl.isAgg _ | exact Lcl.asIntOf _ | exact Lcl.asInt _ | exact Lcl.asBool _ | exact Lcl.asAddr _ | exact Lcl.sureAddr _ | exact Lcl.chooseQ _ | exact Lcl.part _ _ _ | exact Lcl.newRow _ _ | exact Lcl.newVar _ _ | exact Lcl.askRoom _ | exact Lcl.loadVar _ _ | exact Lcl.storeVar _ _ _ | exact Lcl.loadCells _ _ | exact Lcl.storeCells _ _ _ | exact Lcl.sliceBound _ _ _ | assumption | apply Lcl.bind | intro _ | split | dsimp only))
theorem Lcl.sliceAt (t : TypeId) (x : Value) (lo hi mx : Option Value) : Lcl P (Instr.sliceAt t x lo hi mx) := by
  unfold Instr.sliceAt
  refine (Lcl.underlying t).bind fun b => ?_
  have hB := fun b l c lo hi mx => Lcl.sliceBounds (P := P) b l c lo hi mx
  split
  · (repeat' (first | exact hB _ _ _ _ _ _ | exact Lcl.pure _ | exact Lcl.stuck _ | exact Lcl.unsup _ trivial | exact Lcl.goPanic _ | exact Lcl.rtPanic _ | exact Lcl.bndPanic _ _ _ _ | exact Lcl.loadA _ _ | exact Lcl.storeA _ _ _ | exact Lcl.underlying _ | exact Lcl.typeInfo _ | exact Lcl.sizeOf _ | exact Lcl.zeroValue _ | exact Lcl.isAgg _ | exact Lcl.asIntOf _ | exact Lcl.asInt _ | exact Lcl.asBool _ | exact Lcl.asAddr _ | exact Lcl.sureAddr _ | exact Lcl.chooseQ _ | exact Lcl.part _ _ _ | exact Lcl.newRow _ _ | exact Lcl.newVar _ _ | exact Lcl.askRoom _ | exact Lcl.loadVar _ _ | exact Lcl.storeVar _ _ _ | exact Lcl.loadCells _ _ | exact Lcl.storeCells _ _ _ | exact Lcl.sliceBound _ _ _ | assumption | apply Lcl.bind | intro _ | split | dsimp only))
  · exact Lcl.slice _ _ _ _ _
theorem Lcl.extract (x : Value) (i : Nat) : Lcl P (Instr.extract x i) := by
  unfold Instr.extract
  (repeat' (first | exact Lcl.pure _ | exact Lcl.stuck _ | exact Lcl.unsup _ trivial | exact Lcl.goPanic _ | exact Lcl.rtPanic _ | exact Lcl.bndPanic _ _ _ _ | exact Lcl.loadA _ _ | exact Lcl.storeA _ _ _ | exact Lcl.underlying _ | exact Lcl.typeInfo _ | exact Lcl.sizeOf _ | exact Lcl.zeroValue _ | exact Lcl.isAgg _ | exact Lcl.asIntOf _ | exact Lcl.asInt _ | exact Lcl.asBool _ | exact Lcl.asAddr _ | exact Lcl.sureAddr _ | exact Lcl.chooseQ _ | exact Lcl.part _ _ _ | exact Lcl.newRow _ _ | exact Lcl.newVar _ _ | exact Lcl.askRoom _ | exact Lcl.loadVar _ _ | exact Lcl.storeVar _ _ _ | exact Lcl.loadCells _ _ | exact Lcl.storeCells _ _ _ | exact Lcl.sliceBound _ _ _ | assumption | apply Lcl.bind | intro _ | split | dsimp only))
theorem Lcl.makeSlice (t : TypeId) (l c : Value) : Lcl P (Instr.makeSlice t l c) := by
  unfold Instr.makeSlice
  (repeat' (first | exact Lcl.pure _ | exact Lcl.stuck _ | exact Lcl.unsup _ trivial | exact Lcl.goPanic _ | exact Lcl.rtPanic _ | exact Lcl.bndPanic _ _ _ _ | exact Lcl.loadA _ _ | exact Lcl.storeA _ _ _ | exact Lcl.underlying _ | exact Lcl.typeInfo _ | exact Lcl.sizeOf _ | exact Lcl.zeroValue _ | exact Lcl.isAgg _ | exact Lcl.asIntOf _ | exact Lcl.asInt _ | exact Lcl.asBool _ | exact Lcl.asAddr _ | exact Lcl.sureAddr _ | exact Lcl.chooseQ _ | exact Lcl.part _ _ _ | exact Lcl.newRow _ _ | exact Lcl.newVar _ _ | exact Lcl.askRoom _ | exact Lcl.loadVar _ _ | exact Lcl.storeVar _ _ _ | exact Lcl.loadCells _ _ | exact Lcl.storeCells _ _ _ | exact Lcl.sliceBound _ _ _ | assumption | apply Lcl.bind | intro _ | split | dsimp only))
theorem Lcl.buildSlice (t : TypeId) (n : Nat) (ps : Array (Nat × Value)) : Lcl P (Instr.buildSlice t n ps) := by
  unfold Instr.buildSlice
  (repeat' (first | exact Lcl.pure _ | exact Lcl.stuck _ | exact Lcl.unsup _ trivial | exact Lcl.goPanic _ | exact Lcl.rtPanic _ | exact Lcl.bndPanic _ _ _ _ | exact Lcl.loadA _ _ | exact Lcl.storeA _ _ _ | exact Lcl.underlying _ | exact Lcl.typeInfo _ | exact Lcl.sizeOf _ | exact Lcl.zeroValue _ | exact Lcl.isAgg _ | exact Lcl.asIntOf _ | exact Lcl.asInt _ | exact Lcl.asBool _ | exact Lcl.asAddr _ | exact Lcl.sureAddr _ | exact Lcl.chooseQ _ | exact Lcl.part _ _ _ | exact Lcl.newRow _ _ | exact Lcl.newVar _ _ | exact Lcl.askRoom _ | exact Lcl.loadVar _ _ | exact Lcl.storeVar _ _ _ | exact Lcl.loadCells _ _ | exact Lcl.storeCells _ _ _ | exact Lcl.sliceBound _ _ _ | assumption | apply Lcl.bind | intro _ | split | dsimp only))
theorem Lcl.unary (op : UnOp) (x : Value) : Lcl P (Op.unary op x) := by
  unfold Op.unary Op.intArith Op.intBits
  (repeat' (first | exact Lcl.pure _ | exact Lcl.stuck _ | exact Lcl.unsup _ trivial | exact Lcl.goPanic _ | exact Lcl.rtPanic _ | exact Lcl.bndPanic _ _ _ _ | exact Lcl.loadA _ _ | exact Lcl.storeA _ _ _ | exact Lcl.underlying _ | exact Lcl.typeInfo _ | exact Lcl.sizeOf _ | exact Lcl.zeroValue _ | exact Lcl.isAgg _ | exact Lcl.asIntOf _ | exact Lcl.asInt _ | exact Lcl.asBool _ | exact Lcl.asAddr _ | exact Lcl.sureAddr _ | exact Lcl.chooseQ _ | exact Lcl.part _ _ _ | exact Lcl.newRow _ _ | exact Lcl.newVar _ _ | exact Lcl.askRoom _ | exact Lcl.loadVar _ _ | exact Lcl.storeVar _ _ _ | exact Lcl.loadCells _ _ | exact Lcl.storeCells _ _ _ | exact Lcl.sliceBound _ _ _ | assumption | apply Lcl.bind | intro _ | split | dsimp only))
end
end Go.Proofs.Ytpioacgknamemaa
namespace Go.Proofs.Ytpioacgknamemaa
open Go Go.RowKit
section
variable {P : Program} {α β : Type}

theorem Lcl.map {s : Sem α} (f : α → β) (h : Lcl P s) : Lcl P (f <$> s) := Lcl.bind h fun _ => Lcl.pure _
theorem Lcl.listMapM {f : α → Sem β} (hf : ∀ a, Lcl P (f a)) : ∀ l : List α, Lcl P (l.mapM f)
  | [] => Lcl.pure _
  | a :: l => by
    rw [List.mapM_cons]
    exact (hf a).bind fun _ => (Lcl.listMapM hf l).bind fun _ => Lcl.pure _
theorem Lcl.mapM {f : α → Sem β} (hf : ∀ a, Lcl P (f a)) (l : Array α) : Lcl P (l.mapM f) := by
  rw [Array.mapM_eq_mapM_toList]
  exact Lcl.map _ (Lcl.listMapM hf _)
theorem Lcl.foldlM {f : α → β → Sem α} (hf : ∀ a b, Lcl P (f a b)) : ∀ (l : List β) (a : α), Lcl P (l.foldlM f a)
  | [], _ => Lcl.pure _
  | b :: l, a => by
    rw [List.foldlM_cons]
    exact (hf a b).bind fun _ => Lcl.foldlM hf l _

theorem Lcl.build (t : TypeId) (ps : Array (Nat × Value)) : Lcl P (Instr.build t ps) := by
  unfold Instr.build
  have hM : ∀ fs : Array Field, Lcl P (fs.mapM fun f => do Pure.pure (f.offset, ← Go.sizeOf f.type)) := fun fs => Lcl.mapM (fun f => (Lcl.sizeOf f.type).bind fun _ => Lcl.pure _) fs
  (repeat' (first | exact hM _ | exact Lcl.pure _ | exact Lcl.stuck _ | exact Lcl.unsup _ trivial | exact Lcl.goPanic _ | exact Lcl.rtPanic _ | exact Lcl.bndPanic _ _ _ _ | exact Lcl.loadA _ _ | exact Lcl.storeA _ _ _ | exact Lcl.underlying _ | exact Lcl.typeInfo _ | exact Lcl.sizeOf _ | exact Lcl.zeroValue _ | exact Lcl.isAgg _ | exact Lcl.asIntOf _ | exact Lcl.asInt _ | exact Lcl.asBool _ | exact Lcl.asAddr _ | exact Lcl.sureAddr _ | exact Lcl.chooseQ _ | exact Lcl.part _ _ _ | exact Lcl.newRow _ _ | exact Lcl.newVar _ _ | exact Lcl.askRoom _ | exact Lcl.loadVar _ _ | exact Lcl.storeVar _ _ _ | exact Lcl.loadCells _ _ | exact Lcl.storeCells _ _ _ | exact Lcl.sliceBound _ _ _ | assumption | apply Lcl.bind | intro _ | split | dsimp only))

theorem Lcl.lenOf (v : Value) : Lcl P (Builtin.lenOf v) := by
  unfold Builtin.lenOf
  (repeat' (first | exact Lcl.pure _ | exact Lcl.stuck _ | exact Lcl.unsup _ trivial | exact Lcl.goPanic _ | exact Lcl.rtPanic _ | exact Lcl.bndPanic _ _ _ _ | exact Lcl.loadA _ _ | exact Lcl.storeA _ _ _ | exact Lcl.underlying _ | exact Lcl.typeInfo _ | exact Lcl.sizeOf _ | exact Lcl.zeroValue _ | exact Lcl.isAgg _ | exact Lcl.asIntOf _ | exact Lcl.asInt _ | exact Lcl.asBool _ | exact Lcl.asAddr _ | exact Lcl.sureAddr _ | exact Lcl.chooseQ _ | exact Lcl.part _ _ _ | exact Lcl.newRow _ _ | exact Lcl.newVar _ _ | exact Lcl.askRoom _ | exact Lcl.loadVar _ _ | exact Lcl.storeVar _ _ _ | exact Lcl.loadCells _ _ | exact Lcl.storeCells _ _ _ | exact Lcl.sliceBound _ _ _ | assumption | apply Lcl.bind | intro _ | split | dsimp only))
theorem Lcl.firstCells (a b : Nat) (v : Value) : Lcl P (Builtin.firstCells a b v) := by
  unfold Builtin.firstCells
  (repeat' (first | exact Lcl.pure _ | exact Lcl.stuck _ | exact Lcl.unsup _ trivial | exact Lcl.goPanic _ | exact Lcl.rtPanic _ | exact Lcl.bndPanic _ _ _ _ | exact Lcl.loadA _ _ | exact Lcl.storeA _ _ _ | exact Lcl.underlying _ | exact Lcl.typeInfo _ | exact Lcl.sizeOf _ | exact Lcl.zeroValue _ | exact Lcl.isAgg _ | exact Lcl.asIntOf _ | exact Lcl.asInt _ | exact Lcl.asBool _ | exact Lcl.asAddr _ | exact Lcl.sureAddr _ | exact Lcl.chooseQ _ | exact Lcl.part _ _ _ | exact Lcl.newRow _ _ | exact Lcl.newVar _ _ | exact Lcl.askRoom _ | exact Lcl.loadVar _ _ | exact Lcl.storeVar _ _ _ | exact Lcl.loadCells _ _ | exact Lcl.storeCells _ _ _ | exact Lcl.sliceBound _ _ _ | assumption | apply Lcl.bind | intro _ | split | dsimp only))

theorem Dies.unsup (x : Unsupported) (h : Mild (.unsupported x)) : Dies P (Go.unsupported x : Sem α) := Dies.halt h
theorem Dies.stuck (s : String) : Dies P (Go.stuck s : Sem α) := Dies.halt trivial

/-- What halts in every world, mildly. -/
def Dead (P : Program) (s : Sem α) : Prop := ∀ u, ∃ h u', s.run P u = .halt h u' ∧ Mild h
theorem Dead.dies {s : Sem α} (h : Dead P s) : Dies P s := fun _ u _ _ => by
  obtain ⟨x, u', hx, hm⟩ := h u
  rw [hx]
  refine ⟨fun a u'' e => (by cases e), fun y u'' e => (by cases e; exact hm)⟩
structure OkAll (P : Program) (s : Sem α) : Prop where
  out : ∀ u, ∃ a u', s.run P u = .ok a u'
theorem OkAll.pure (a : α) : OkAll P (Sem.pure a) := ⟨fun u => ⟨a, u, rfl⟩⟩
theorem OkAll.bind {s : Sem α} {f : α → Sem β} (hs : OkAll P s) (hf : ∀ a, OkAll P (f a)) : OkAll P (s >>= f) := by
  refine ⟨fun u => ?_⟩
  obtain ⟨a, u', e⟩ := hs.out u
  obtain ⟨b, u'', e'⟩ := (hf a).out u'
  exact ⟨b, u'', by simp [e, e']⟩
theorem OkAll.shape (r : Nat) : OkAll P (Go.shape r) := ⟨fun u => ⟨_, u, rfl⟩⟩
theorem OkAll.frozen (a : Addr) : OkAll P (Go.frozen a) := ⟨fun u => ⟨_, u, rfl⟩⟩
theorem Dead.bind {s : Sem α} {f : α → Sem β} (hs : OkAll P s) (hf : ∀ a, Dead P (f a)) : Dead P (s >>= f) := by
  intro u
  obtain ⟨a, u', e⟩ := hs.out u
  obtain ⟨h, u'', e', hm⟩ := hf a u'
  exact ⟨h, u'', by simp [e, e'], hm⟩
theorem Dead.halt {h : Halt} (hm : Mild h) : Dead P (Sem.halt h : Sem α) := fun u => ⟨h, u, rfl, hm⟩
theorem mayShare_ok (a b c : Nat) (d : Option Addr) (v : Value) : OkAll P (Builtin.mayShare a b c d v) := by
  unfold Builtin.mayShare Builtin.holdsCells
  (repeat' (first | exact OkAll.pure _ | exact OkAll.shape _ | exact OkAll.frozen _ | apply OkAll.bind | intro _ | split | dsimp only))

theorem Lcl.append (ts : Array TypeId) (t : TypeId) (args : Array Value) (s0 x0 e0 : TypeId) (h0 : ts[0]? = some s0) (h1 : ts[1]? = some x0) (hx : P.underlying x0 = some (.slice e0)) : Lcl P (Builtin.append_ ts t args) := by
  unfold Builtin.append_
  simp only [h0, h1]
  cases args[0]? with
  | none => exact Lcl.stuck _
  | some s =>
  cases args[1]? with
  | none => exact Lcl.stuck _
  | some x =>
  dsimp only
  refine (Lcl.underlying _).bind fun d => ?_
  split
  case h_2 => exact Lcl.stuck _
  rename_i elem
  split
  case h_2 => exact Lcl.stuck _
  rename_i base sLen sCap
  refine (Lcl.sizeOf _).bind fun size => ?_
  refine Lcl.bindU fun d hd => ?_
  obtain rfl : d = .slice e0 := by rw [hx] at hd; exact (Option.some.inj hd).symm
  simp only [pure_bind, Bool.false_eq_true, ↓reduceIte, Bool.not_false, false_or]
  refine (Lcl.lenOf _).bind fun n => ?_
  have hf := fun a b v => Lcl.firstCells (P := P) a b v
  split
  · (repeat' (first | exact hf _ _ _ | exact Lcl.pure _ | exact Lcl.storeCells _ _ _ | apply Lcl.bind | intro _ | split))
  · have hrest : Lcl P (do
        let newCap ← Go.choose (Question.appendCap (sLen + n) sCap elem)
        let i ← Go.typeInfo elem
        Go.askRoom (newCap * i.bytes)
        let old ← Builtin.firstCells size sLen (Value.slice base sLen sCap)
        let new ← Builtin.firstCells size n x
        let z ← Go.zeroValue elem
        let r ← Go.newRow elem (old ++ new ++ Builtin.zeroCells z.cells (newCap - (sLen + n)))
        Pure.pure (Value.slice (some r) (sLen + n) newCap)) :=
      (Lcl.chooseQ _).bind fun c => (Lcl.typeInfo _).bind fun i => (Lcl.askRoom _).bind fun _ => (hf _ _ _).bind fun _ => (hf _ _ _).bind fun _ => (Lcl.zeroValue _).bind fun _ => (Lcl.newRow _ _).bind fun _ => Lcl.pure _
    refine (Lcl.typeInfo _).bind fun i => ?_
    split
    · refine (Lcl.rtPanic _).bind fun _ => (Lcl.typeInfo _).bind fun i => ?_
      split
      · refine Lcl.bind (Dead.dies (Dead.bind (mayShare_ok size sLen n base x) fun b => ?_)).lcl fun _ => hrest
        cases b <;> exact fun u => ⟨_, u, rfl, trivial⟩
      · exact hrest
    · refine (Lcl.typeInfo _).bind fun i => ?_
      split
      · refine Lcl.bind (Dead.dies (Dead.bind (mayShare_ok size sLen n base x) fun b => ?_)).lcl fun _ => hrest
        cases b <;> exact fun u => ⟨_, u, rfl, trivial⟩
      · exact hrest

theorem Lcl.len (ts : Array TypeId) (t : TypeId) (args : Array Value) (s0 e0 : TypeId) (h0 : ts[0]? = some s0) (hx : P.underlying s0 = some (.slice e0)) : Lcl P (Builtin.len_ ts t args) := by
  unfold Builtin.len_
  simp only [h0]
  cases args[0]? with
  | none => exact Lcl.stuck _
  | some s =>
  dsimp only
  refine Lcl.bindU fun d hd => ?_
  obtain rfl : d = .slice e0 := by rw [hx] at hd; exact (Option.some.inj hd).symm
  cases s <;> first | exact Lcl.pure _ | exact Lcl.stuck _

theorem Lcl.fieldAt (s : TypeId) (a : Value) (i : Nat) (fs : Array Field) (f : Field) (hs : P.underlying s = some (.struct fs)) (hf : fs[i]? = some f) (hz : ∀ d, P.info? f.type = some d → d.size ≠ 0) : Lcl P (Instr.fieldAt s a i) := by
  unfold Instr.fieldAt
  refine Lcl.bindU fun d hd => ?_
  obtain rfl : d = .struct fs := by rw [hs] at hd; exact (Option.some.inj hd).symm
  simp only [hf]
  refine (Lcl.sureAddr _).bind fun b => ?_
  refine Lcl.bind ?_ fun _ => Lcl.pure _
  unfold fieldPlace Go.sizeOf
  simp only [bind_assoc, pure_bind]
  refine Lcl.bindI fun d hd => ?_
  rw [if_neg (hz d hd)]
  exact Lcl.pure _

theorem View.obj {κ : Nat → Kd} {u w : World} (h : View κ u w) {r : Nat} {a : Addr} {l : Bool} (e : u.heap[r]? = some (.number a l)) : κ r = .same ∧ r < u.heap.size ∧ w.heap[r]? = some (.number a l) := by
  have hlt : r < u.heap.size := by
    rcases Nat.lt_or_ge r u.heap.size with h | h
    · exact h
    · simp [h] at e
  have hk : κ r = .same := by
    cases hk : κ r with
    | same => rfl
    | void => rw [h.void r hk] at e; cases e
    | froz => obtain ⟨c, T, fz, e1, _⟩ := h.froz r hk; rw [e1] at e; cases e
  exact ⟨hk, hlt, by rw [h.same r hlt hk]; exact e⟩
theorem View.row {κ : Nat → Kd} {u w : World} (h : View κ u w) {r : Nat} {c : Array Value} {T : TypeId} {fz : Nat × Nat} (e : u.heap[r]? = some (.cells c T fz)) : r < u.heap.size ∧ κ r ≠ .void := by
  have hlt : r < u.heap.size := by
    rcases Nat.lt_or_ge r u.heap.size with h | h
    · exact h
    · simp [h] at e
  exact ⟨hlt, fun hk => by rw [h.void r hk] at e; cases e⟩

/-- From a step that is the same in both worlds, and turns neither, to what follows. -/
theorem Went.head {s : Sem α} {t : Sem α} {κ : Nat → Kd} {u w : World} {a : α} {u' : World} (pre : Array Event) (hp : ∀ e ∈ pre, EvOk κ u.heap.size e) (h : Went P κ t u w a u')
    (hw : s.run P w = t.run P w) (eu : ∀ es, s.events P u es = t.events P u (es ++ pre)) (ew : ∀ es, s.events P w es = t.events P w (es ++ pre)) : Went P κ s u w a u' := by
  obtain ⟨a1, a2, a3, a4, a5, a6, a7⟩ := h
  refine ⟨a1, a2, a3, a4, a5, a6, fun b1 b2 => ?_⟩
  obtain ⟨w', c1, c2, c3, c4, c5, c6, c7, c8, c9⟩ := a7 b1 b2
  refine ⟨w', hw.trans c1, c2, c3, c4, c5, c6, c7, c8, fun es => ?_⟩
  obtain ⟨ne, d1, d2, d3⟩ := c9 (es ++ pre)
  exact ⟨pre ++ ne, by rw [eu, d1, Array.append_assoc], by rw [ew, d2, Array.append_assoc], fun e he => (Array.mem_append.1 he).elim (fun x => (hp e x).mono a1) (d3 e)⟩

theorem Lcl.viewAt (r : Nat) {f : Option (Addr × TypeId) → Sem α} (h0 : Lcl P (f none)) (h1 : ∀ x, Dies P (f (some x))) : Lcl P (Go.viewAt r >>= f) := by
  refine ⟨fun κ u w hV => ?_⟩
  obtain ⟨g1, g2⟩ := h0.out κ u w hV
  rcases hV.look r with e | ⟨c, T, fz, e⟩ | ⟨x, l, e⟩ | e
  · have hr : ∀ f : Option (Addr × TypeId) → Sem α, (Go.viewAt r >>= f).run P u = .halt (.stuck "getObj: no such block") u := fun f => by simp [Go.viewAt, Go.shape, Go.getObj, Sem.run, World.shape?, e]
    exact ⟨fun a u' h => (by rw [hr] at h; cases h), fun h u' hh => (by rw [hr] at hh; cases hh; trivial)⟩
  · obtain ⟨hlt, hnv⟩ := hV.row e
    have hs : ∀ x : World, (∃ y, x.shape? r = some y) → (Go.viewAt r >>= f).run P x = (f none).run P x ∧ ∀ es, (Go.viewAt r >>= f).events P x es = (f none).events P x es := fun x ⟨y, hy⟩ => by
      constructor
      · simp [Go.viewAt, Go.shape, Sem.run, hy]
      · intro es
        show Sem.events P (Sem.shape r _) x es = _
        simp only [Sem.events, Sem.runT, hy]
        rfl
    obtain ⟨u1, u2⟩ := hs u ⟨(T, c.size), by simp [World.shape?, e]⟩
    obtain ⟨w1, w2⟩ := hs w ⟨(T, c.size), by rw [hV.shape hlt hnv]; simp [World.shape?, e]⟩
    exact ⟨fun a u' h => Went.head #[] (by simp) (g1 a u' (by rw [← u1]; exact h)) w1 (by simpa using u2) (by simpa using w2), fun h u' hh => g2 h u' (by rw [← u1]; exact hh)⟩
  · obtain ⟨hk, hlt, ew⟩ := hV.obj e
    have hs : ∀ y : World, y.heap[r]? = some (.number x l) → (Go.viewAt r >>= f).run P y = (f none).run P y ∧ ∀ es, (Go.viewAt r >>= f).events P y es = (f none).events P y (es ++ #[⟨.obj r, false, false⟩]) := fun y hy => by
      constructor
      · simp [Go.viewAt, Go.shape, Go.getObj, Sem.run, World.shape?, hy]
      · intro es
        show Sem.events P (Sem.shape r _) y es = _
        simp only [Sem.events, Sem.runT, World.shape?, hy]
        show (Sem.runT P (Sem.getObj r _) y es).2 = _
        simp only [Sem.runT, hy]
        rfl
    obtain ⟨u1, u2⟩ := hs u e
    obtain ⟨w1, w2⟩ := hs w ew
    exact ⟨fun a u' h => Went.head #[⟨.obj r, false, false⟩] (fun z hz => by simp at hz; subst hz; exact ⟨hlt, hk, rfl, rfl⟩) (g1 a u' (by rw [← u1]; exact h)) w1 u2 w2, fun h u' hh => g2 h u' (by rw [← u1]; exact hh)⟩
  · have hr : (Go.viewAt r >>= f).run P u = (f (some (⟨r, 0, none⟩, 0))).run P u := by simp [Go.viewAt, Go.shape, Go.getObj, Sem.run, World.shape?, e]
    have := h1 (⟨r, 0, none⟩, 0) κ u w hV
    exact ⟨fun a u' h => absurd (by rw [← hr]; exact h) (this.1 a u'), fun h u' hh => this.2 h u' (by rw [← hr]; exact hh)⟩

theorem Lcl.behind (n : Addr) {f : Addr × Bool → Sem α} (h0 : ∀ x, Lcl P (f x)) (h1 : DiesAt P n.block (f (n, false))) : Lcl P (Go.behindNumber n >>= f) := by
  refine ⟨fun κ u w hV => ?_⟩
  rcases hV.look n.block with e | ⟨c, T, fz, e⟩ | ⟨x, l, e⟩ | e
  · have hr : (Go.behindNumber n >>= f).run P u = .halt (.stuck "getObj: no such block") u := by simp [Go.behindNumber, Go.numberAt, Go.shape, Go.getObj, Sem.run, World.shape?, e]
    exact ⟨fun a u' h => (by rw [hr] at h; cases h), fun h u' hh => (by rw [hr] at hh; cases hh; trivial)⟩
  · obtain ⟨g1, g2⟩ := (h0 (n, false)).out κ u w hV
    obtain ⟨hlt, hnv⟩ := hV.row e
    have hs : ∀ x : World, (∃ y, x.shape? n.block = some y) → (Go.behindNumber n >>= f).run P x = (f (n, false)).run P x ∧ ∀ es, (Go.behindNumber n >>= f).events P x es = (f (n, false)).events P x es := fun x ⟨y, hy⟩ => by
      constructor
      · simp [Go.behindNumber, Go.numberAt, Go.shape, Sem.run, hy]
      · intro es
        show Sem.events P (Sem.shape n.block _) x es = _
        simp only [Sem.events, Sem.runT, hy]
        rfl
    obtain ⟨u1, u2⟩ := hs u ⟨(T, c.size), by simp [World.shape?, e]⟩
    obtain ⟨w1, w2⟩ := hs w ⟨(T, c.size), by rw [hV.shape hlt hnv]; simp [World.shape?, e]⟩
    exact ⟨fun a u' h => Went.head #[] (by simp) (g1 a u' (by rw [← u1]; exact h)) w1 (by simpa using u2) (by simpa using w2), fun h u' hh => g2 h u' (by rw [← u1]; exact hh)⟩
  · obtain ⟨g1, g2⟩ := (h0 (x, l)).out κ u w hV
    obtain ⟨hk, hlt, ew⟩ := hV.obj e
    have hs : ∀ y : World, y.heap[n.block]? = some (.number x l) → (Go.behindNumber n >>= f).run P y = (f (x, l)).run P y ∧ ∀ es, (Go.behindNumber n >>= f).events P y es = (f (x, l)).events P y (es ++ #[⟨.obj n.block, false, false⟩]) := fun y hy => by
      constructor
      · simp [Go.behindNumber, Go.numberAt, Go.shape, Go.getObj, Sem.run, World.shape?, hy]
      · intro es
        show Sem.events P (Sem.shape n.block _) y es = _
        simp only [Sem.events, Sem.runT, World.shape?, hy]
        show (Sem.runT P (Sem.getObj n.block _) y es).2 = _
        simp only [Sem.runT, hy]
        rfl
    obtain ⟨u1, u2⟩ := hs u e
    obtain ⟨w1, w2⟩ := hs w ew
    exact ⟨fun a u' h => Went.head #[⟨.obj n.block, false, false⟩] (fun z hz => by simp at hz; subst hz; exact ⟨hlt, hk, rfl, rfl⟩) (g1 a u' (by rw [← u1]; exact h)) w1 u2 w2, fun h u' hh => g2 h u' (by rw [← u1]; exact hh)⟩
  · have hr : (Go.behindNumber n >>= f).run P u = (f (n, false)).run P u := by simp [Go.behindNumber, Go.numberAt, Go.shape, Go.getObj, Sem.run, World.shape?, e]
    have hk : κ n.block = .void := by
      have hlt : n.block < u.heap.size := by
        rcases Nat.lt_or_ge n.block u.heap.size with h | h
        · exact h
        · simp [h] at e
      cases hk : κ n.block with
      | same => rcases hV.kind _ hlt hk with ⟨c, T, fz, e'⟩ | ⟨x, l, e'⟩ <;> rw [e] at e' <;> cases e'
      | void => rfl
      | froz => obtain ⟨c, T, fz, e1, _⟩ := hV.froz _ hk; rw [e1] at e; cases e
    have := h1 κ u w hV (.inl hk)
    exact ⟨fun a u' h => absurd (by rw [← hr]; exact h) (this.1 a u'), fun h u' hh => this.2 h u' (by rw [← hr]; exact hh)⟩

end
end Go.Proofs.Ytpioacgknamemaa
namespace Go.Proofs.Ytpioacgknamemaa
open Go Go.RowKit
section
variable {P : Program} {α β : Type}

theorem Lcl.purep (a : α) : Lcl P (Pure.pure a : Sem α) := Lcl.pure a

theorem unsafeAdd_eq (ts : Array TypeId) (t : TypeId) (p : Option Addr) (y : Value) : Builtin.unsafeAdd_ ts t #[.pointer p, y] = (do
    let n ← Go.asInt y
    if n = 0 then (match p with
      | some a => do
        let v ← Go.viewAt a.block
        if v.isSome = true then unsupported (Unsupported.unsafePointer "Add: at a place where no cell lies") else Pure.pure (Value.pointer p)
      | none => unsupported (Unsupported.unsafePointer "Add: from nil"))
    else if n < 0 then unsupported (Unsupported.unsafePointer "Add: a move by a count below zero")
    else (match p with
      | some a => do
        let x ← Go.shape a.block
        match x with
        | some (e, cells) => do
          let q ← Go.program
          match cellAtBytes q q.depth e (cells / q.cellsOf e) a.off n with
          | some off => Pure.pure (Value.pointer (some { a with off }))
          | none => unsupported (Unsupported.unsafePointer "Add")
        | none => unsupported (Unsupported.unsafePointer "Add")
      | none => unsupported (Unsupported.unsafePointer "Add"))) := by
  cases p with
  | none => rfl
  | some a =>
    show Sem.bind (Go.asInt y) _ = Sem.bind (Go.asInt y) _
    congr 1
    funext n
    show (if n = 0 then _ else _) = (if n = 0 then _ else _)
    by_cases h0 : n = 0
    · rw [if_pos h0, if_pos h0]
      show Sem.bind (Go.viewAt a.block) _ = Sem.bind (Go.viewAt a.block) _
      congr 1
    · rw [if_neg h0, if_neg h0]
      show (if n < 0 then _ else _) = (if n < 0 then _ else _)
      by_cases h1 : n < 0
      · rw [if_pos h1, if_pos h1]; rfl
      · rw [if_neg h1, if_neg h1]
        show Sem.bind (Go.shape a.block) _ = Sem.bind (Go.shape a.block) _
        congr 1
        funext x
        rcases x with _ | ⟨e, c⟩
        · rfl
        · rfl

theorem Lcl.shapeA (r : Nat) {k : Option (TypeId × Nat) → Sem α} (hk : ∀ x, Lcl P (k (some x))) (hn : Dies P (k none)) : Lcl P (Go.shape r >>= k) := Lcl.shape r hk hn

theorem Lcl.unsafeAdd (ts : Array TypeId) (t : TypeId) (x y : Value) : Lcl P (Builtin.unsafeAdd_ ts t #[x, y]) := by
  cases x with
  | pointer p =>
    rw [unsafeAdd_eq]
    refine (Lcl.asInt _).bind fun n => ?_
    split
    · cases p with
      | none => exact Lcl.unsup _ trivial
      | some a => exact Lcl.viewAt _ (Lcl.pure _) (fun x => Dies.unsup _ trivial)
    · split
      · exact Lcl.unsup _ trivial
      · cases p with
        | none => exact Lcl.unsup _ trivial
        | some a =>
          refine Lcl.shapeA _ (fun x => ?_) (Dies.unsup _ trivial)
          refine Lcl.bindP ?_
          split
          · exact Lcl.pure _
          · exact Lcl.unsup _ trivial
  | _ => exact Lcl.stuck _

theorem diesAt_unsafeAdd (ts : Array TypeId) (t : TypeId) (a : Addr) (y : Value) : DiesAt P a.block (Builtin.unsafeAdd_ ts t #[.pointer (some a), y]) := by
  intro κ u w hV hk
  have hs : u.shape? a.block = none := by
    rcases hk with hk | hk
    · simp [World.shape?, hV.void _ hk]
    · simp [World.shape?, hk]
  rw [unsafeAdd_eq]
  have hi := (Lcl.asInt (P := P) y).out κ u w hV
  cases hr : (Go.asInt y).run P u with
  | halt x u₁ => exact ⟨by simp [hr], fun z u' e => by simp [hr] at e; exact e.1 ▸ hi.2 x u₁ hr⟩
  | ok n u₁ =>
    have hu : u₁ = u := by
      cases y <;> simp [Go.asInt, Go.asIntOf, go_sem] at hr
      · exact hr.2.symm
      · rename_i q; cases q <;> simp [Go.unsupported, Go.stuck] at hr
    subst hu
    by_cases h0 : n = 0
    · subst h0
      rcases hk with hk | hk
      · have e := hV.void _ hk
        refine ⟨fun b u' => ?_, fun z u' => ?_⟩
        · simp [hr, Go.viewAt, Go.shape, Go.getObj, Sem.run, hs, e, Go.unsupported]
        · intro e'
          simp [hr, Go.viewAt, Go.shape, Go.getObj, Sem.run, hs, e, Go.unsupported] at e'
          exact e'.1 ▸ trivial
      · have e : u₁.heap[a.block]? = none := by simp [hk]
        refine ⟨fun b u' => ?_, fun z u' => ?_⟩
        · simp [hr, Go.viewAt, Go.shape, Go.getObj, Sem.run, hs, e]
        · intro e'
          simp [hr, Go.viewAt, Go.shape, Go.getObj, Sem.run, hs, e] at e'
          exact e'.1 ▸ trivial
    · by_cases h1 : n < 0
      · refine ⟨fun b u' => ?_, fun z u' => ?_⟩
        · simp [hr, h0, h1, Go.unsupported, Sem.run]
        · intro e'
          simp [hr, h0, h1, Go.unsupported, Sem.run] at e'
          exact e'.1 ▸ trivial
      · refine ⟨fun b u' => ?_, fun z u' => ?_⟩
        · simp [hr, h0, h1, Go.shape, hs, Go.unsupported, Sem.run]
        · intro e'
          simp [hr, h0, h1, Go.shape, hs, Go.unsupported, Sem.run] at e'
          exact e'.1 ▸ trivial

theorem Lcl.byteOf (a : Addr) : Lcl P (Go.byteOf a) := by
  unfold Go.byteOf
  split
  · exact Lcl.pure _
  · refine Lcl.bindP ?_
    unfold noView
    refine Lcl.bind (Lcl.viewAt _ (Lcl.pure _) (fun x => Dies.unsup _ trivial)) fun _ => ?_
    refine Lcl.shapeA _ (fun x => ?_) (Dies.stuck _)
    (repeat' (first | exact Lcl.pure _ | exact Lcl.stuck _ | exact Lcl.unsup _ trivial | exact Lcl.goPanic _ | exact Lcl.rtPanic _ | exact Lcl.bndPanic _ _ _ _ | exact Lcl.loadA _ _ | exact Lcl.storeA _ _ _ | exact Lcl.underlying _ | exact Lcl.typeInfo _ | exact Lcl.sizeOf _ | exact Lcl.zeroValue _ | exact Lcl.isAgg _ | exact Lcl.asIntOf _ | exact Lcl.asInt _ | exact Lcl.asBool _ | exact Lcl.asAddr _ | exact Lcl.sureAddr _ | exact Lcl.chooseQ _ | exact Lcl.part _ _ _ | exact Lcl.newRow _ _ | exact Lcl.newVar _ _ | exact Lcl.askRoom _ | exact Lcl.loadVar _ _ | exact Lcl.storeVar _ _ _ | exact Lcl.loadCells _ _ | exact Lcl.storeCells _ _ _ | exact Lcl.sliceBound _ _ _ | assumption | apply Lcl.bind | intro _ | split | dsimp only))

theorem Lcl.addrMod (k : IntKind) (a : Addr) (n : Int) : Lcl P (Op.addrMod k a n) := by
  unfold Op.addrMod
  refine Lcl.shapeA _ (fun x => ?_) (Dies.unsup _ trivial)
  have hb := Lcl.byteOf (P := P) a
  (repeat' (first | exact hb | exact Lcl.pure _ | exact Lcl.stuck _ | exact Lcl.unsup _ trivial | exact Lcl.goPanic _ | exact Lcl.rtPanic _ | exact Lcl.bndPanic _ _ _ _ | exact Lcl.loadA _ _ | exact Lcl.storeA _ _ _ | exact Lcl.underlying _ | exact Lcl.typeInfo _ | exact Lcl.sizeOf _ | exact Lcl.zeroValue _ | exact Lcl.isAgg _ | exact Lcl.asIntOf _ | exact Lcl.asInt _ | exact Lcl.asBool _ | exact Lcl.asAddr _ | exact Lcl.sureAddr _ | exact Lcl.chooseQ _ | exact Lcl.part _ _ _ | exact Lcl.newRow _ _ | exact Lcl.newVar _ _ | exact Lcl.askRoom _ | exact Lcl.loadVar _ _ | exact Lcl.storeVar _ _ _ | exact Lcl.loadCells _ _ | exact Lcl.storeCells _ _ _ | exact Lcl.sliceBound _ _ _ | assumption | apply Lcl.bind | intro _ | split | dsimp only))

theorem diesAt_addrMod (k : IntKind) (a : Addr) (n : Int) : DiesAt P a.block (Op.addrMod k a n) := by
  intro κ u w hV hk
  have hs : u.shape? a.block = none := by
    rcases hk with hk | hk
    · simp [World.shape?, hV.void _ hk]
    · simp [World.shape?, hk]
  refine ⟨fun b u' => ?_, fun z u' => ?_⟩
  · simp [Op.addrMod, Go.shape, hs, Go.unsupported, Sem.run]
  · intro e'
    simp [Op.addrMod, Go.shape, hs, Go.unsupported, Sem.run] at e'
    exact e'.1 ▸ trivial

theorem Lcl.asNumber (a : Addr) (l : Bool) : Lcl P (Go.asNumber a l) := by
  unfold Go.asNumber Go.newObj
  exact Lcl.bind (Lcl.newObj _ (.inr ⟨a, l, rfl⟩) fun r => Lcl.pure r) fun _ => Lcl.pure _

theorem Lcl.movedNumber (t : TypeId) (x y : Value) : Lcl P (Go.movedNumber t x y) := by
  unfold Go.movedNumber
  refine (Lcl.underlying t).bind fun d => ?_
  have key : Lcl P (match x with
      | .pointer (some n) => (do
        let (a, lost) ← behindNumber n
        match ← Builtin.unsafeAdd_ #[] t #[.pointer (some a), y] with
        | .pointer (some b) => Go.asNumber b lost
        | v => Pure.pure v : Sem Value)
      | _ => Builtin.unsafeAdd_ #[] t #[x, y]) := by
    split
    · rename_i n
      refine Lcl.behind n (fun z => ?_) ?_
      · refine (Lcl.unsafeAdd _ _ _ _).bind fun v => ?_
        split
        · exact Lcl.asNumber _ _
        · exact Lcl.pure _
      · exact DiesAt.first (diesAt_unsafeAdd _ _ _ _)
    · exact Lcl.unsafeAdd _ _ _ _
  dsimp only
  split
  · exact (Lcl.unsup (.unsafePointer "arithmetic at a pointer's type") trivial).bind fun _ => key
  · exact key

theorem Lcl.movedPointer (t : TypeId) (x y : Value) (hu : ∃ k, P.underlying t = some (.int k)) : Lcl P (Go.underlying t >>= fun d => if (d matches .unsafePointer) then Go.movedPointer t x y else Go.movedNumber t x y) := by
  refine Lcl.bindU fun d hd => ?_
  obtain ⟨k, hk⟩ := hu
  obtain rfl : d = .int k := by rw [hk] at hd; exact (Option.some.inj hd).symm
  exact Lcl.movedNumber _ _ _

theorem Lcl.shift (op : BinOp) (k : IntKind) (x : Int) (j : IntKind) (y : Int) : Lcl P (Op.shift op k x j y) := by
  unfold Op.shift
  (repeat' (first | exact Lcl.pure _ | exact Lcl.stuck _ | exact Lcl.unsup _ trivial | exact Lcl.goPanic _ | exact Lcl.rtPanic _ | exact Lcl.bndPanic _ _ _ _ | exact Lcl.loadA _ _ | exact Lcl.storeA _ _ _ | exact Lcl.underlying _ | exact Lcl.typeInfo _ | exact Lcl.sizeOf _ | exact Lcl.zeroValue _ | exact Lcl.isAgg _ | exact Lcl.asIntOf _ | exact Lcl.asInt _ | exact Lcl.asBool _ | exact Lcl.asAddr _ | exact Lcl.sureAddr _ | exact Lcl.chooseQ _ | exact Lcl.part _ _ _ | exact Lcl.newRow _ _ | exact Lcl.newVar _ _ | exact Lcl.askRoom _ | exact Lcl.loadVar _ _ | exact Lcl.storeVar _ _ _ | exact Lcl.loadCells _ _ | exact Lcl.storeCells _ _ _ | exact Lcl.sliceBound _ _ _ | assumption | apply Lcl.bind | intro _ | split | dsimp only))
theorem Lcl.intArith (op : BinOp) (k : IntKind) (x y : Int) : Lcl P (Op.intArith op k x y) := by
  unfold Op.intArith
  (repeat' (first | exact Lcl.pure _ | exact Lcl.stuck _ | exact Lcl.unsup _ trivial | exact Lcl.goPanic _ | exact Lcl.rtPanic _ | exact Lcl.bndPanic _ _ _ _ | exact Lcl.loadA _ _ | exact Lcl.storeA _ _ _ | exact Lcl.underlying _ | exact Lcl.typeInfo _ | exact Lcl.sizeOf _ | exact Lcl.zeroValue _ | exact Lcl.isAgg _ | exact Lcl.asIntOf _ | exact Lcl.asInt _ | exact Lcl.asBool _ | exact Lcl.asAddr _ | exact Lcl.sureAddr _ | exact Lcl.chooseQ _ | exact Lcl.part _ _ _ | exact Lcl.newRow _ _ | exact Lcl.newVar _ _ | exact Lcl.askRoom _ | exact Lcl.loadVar _ _ | exact Lcl.storeVar _ _ _ | exact Lcl.loadCells _ _ | exact Lcl.storeCells _ _ _ | exact Lcl.sliceBound _ _ _ | assumption | apply Lcl.bind | intro _ | split | dsimp only))
theorem Lcl.intDiv (op : BinOp) (k : IntKind) (x y : Int) : Lcl P (Op.intDiv op k x y) := by
  unfold Op.intDiv
  (repeat' (first | exact Lcl.pure _ | exact Lcl.stuck _ | exact Lcl.unsup _ trivial | exact Lcl.goPanic _ | exact Lcl.rtPanic _ | exact Lcl.bndPanic _ _ _ _ | exact Lcl.loadA _ _ | exact Lcl.storeA _ _ _ | exact Lcl.underlying _ | exact Lcl.typeInfo _ | exact Lcl.sizeOf _ | exact Lcl.zeroValue _ | exact Lcl.isAgg _ | exact Lcl.asIntOf _ | exact Lcl.asInt _ | exact Lcl.asBool _ | exact Lcl.asAddr _ | exact Lcl.sureAddr _ | exact Lcl.chooseQ _ | exact Lcl.part _ _ _ | exact Lcl.newRow _ _ | exact Lcl.newVar _ _ | exact Lcl.askRoom _ | exact Lcl.loadVar _ _ | exact Lcl.storeVar _ _ _ | exact Lcl.loadCells _ _ | exact Lcl.storeCells _ _ _ | exact Lcl.sliceBound _ _ _ | assumption | apply Lcl.bind | intro _ | split | dsimp only))
theorem Lcl.intBits (op : BinOp) (k : IntKind) (x y : Int) : Lcl P (Op.intBits op k x y) := by
  unfold Op.intBits
  (repeat' (first | exact Lcl.pure _ | exact Lcl.stuck _ | exact Lcl.unsup _ trivial | exact Lcl.goPanic _ | exact Lcl.rtPanic _ | exact Lcl.bndPanic _ _ _ _ | exact Lcl.loadA _ _ | exact Lcl.storeA _ _ _ | exact Lcl.underlying _ | exact Lcl.typeInfo _ | exact Lcl.sizeOf _ | exact Lcl.zeroValue _ | exact Lcl.isAgg _ | exact Lcl.asIntOf _ | exact Lcl.asInt _ | exact Lcl.asBool _ | exact Lcl.asAddr _ | exact Lcl.sureAddr _ | exact Lcl.chooseQ _ | exact Lcl.part _ _ _ | exact Lcl.newRow _ _ | exact Lcl.newVar _ _ | exact Lcl.askRoom _ | exact Lcl.loadVar _ _ | exact Lcl.storeVar _ _ _ | exact Lcl.loadCells _ _ | exact Lcl.storeCells _ _ _ | exact Lcl.sliceBound _ _ _ | assumption | apply Lcl.bind | intro _ | split | dsimp only))
theorem Lcl.intCmp (op : BinOp) (x y : Int) : Lcl P (Op.intCmp op x y) := by
  unfold Op.intCmp
  (repeat' (first | exact Lcl.pure _ | exact Lcl.stuck _ | exact Lcl.unsup _ trivial | exact Lcl.goPanic _ | exact Lcl.rtPanic _ | exact Lcl.bndPanic _ _ _ _ | exact Lcl.loadA _ _ | exact Lcl.storeA _ _ _ | exact Lcl.underlying _ | exact Lcl.typeInfo _ | exact Lcl.sizeOf _ | exact Lcl.zeroValue _ | exact Lcl.isAgg _ | exact Lcl.asIntOf _ | exact Lcl.asInt _ | exact Lcl.asBool _ | exact Lcl.asAddr _ | exact Lcl.sureAddr _ | exact Lcl.chooseQ _ | exact Lcl.part _ _ _ | exact Lcl.newRow _ _ | exact Lcl.newVar _ _ | exact Lcl.askRoom _ | exact Lcl.loadVar _ _ | exact Lcl.storeVar _ _ _ | exact Lcl.loadCells _ _ | exact Lcl.storeCells _ _ _ | exact Lcl.sliceBound _ _ _ | assumption | apply Lcl.bind | intro _ | split | dsimp only))
theorem Lcl.floatArith (op : BinOp) (k : FloatKind) (x y : Nat) : Lcl P (Op.floatArith op k x y) := by
  unfold Op.floatArith
  (repeat' (first | exact Lcl.pure _ | exact Lcl.stuck _ | exact Lcl.unsup _ trivial | exact Lcl.goPanic _ | exact Lcl.rtPanic _ | exact Lcl.bndPanic _ _ _ _ | exact Lcl.loadA _ _ | exact Lcl.storeA _ _ _ | exact Lcl.underlying _ | exact Lcl.typeInfo _ | exact Lcl.sizeOf _ | exact Lcl.zeroValue _ | exact Lcl.isAgg _ | exact Lcl.asIntOf _ | exact Lcl.asInt _ | exact Lcl.asBool _ | exact Lcl.asAddr _ | exact Lcl.sureAddr _ | exact Lcl.chooseQ _ | exact Lcl.part _ _ _ | exact Lcl.newRow _ _ | exact Lcl.newVar _ _ | exact Lcl.askRoom _ | exact Lcl.loadVar _ _ | exact Lcl.storeVar _ _ _ | exact Lcl.loadCells _ _ | exact Lcl.storeCells _ _ _ | exact Lcl.sliceBound _ _ _ | assumption | apply Lcl.bind | intro _ | split | dsimp only))
theorem Lcl.floatCmp (op : BinOp) (k : FloatKind) (x y : Nat) : Lcl P (Op.floatCmp op k x y) := by
  unfold Op.floatCmp
  (repeat' (first | exact Lcl.pure _ | exact Lcl.stuck _ | exact Lcl.unsup _ trivial | exact Lcl.goPanic _ | exact Lcl.rtPanic _ | exact Lcl.bndPanic _ _ _ _ | exact Lcl.loadA _ _ | exact Lcl.storeA _ _ _ | exact Lcl.underlying _ | exact Lcl.typeInfo _ | exact Lcl.sizeOf _ | exact Lcl.zeroValue _ | exact Lcl.isAgg _ | exact Lcl.asIntOf _ | exact Lcl.asInt _ | exact Lcl.asBool _ | exact Lcl.asAddr _ | exact Lcl.sureAddr _ | exact Lcl.chooseQ _ | exact Lcl.part _ _ _ | exact Lcl.newRow _ _ | exact Lcl.newVar _ _ | exact Lcl.askRoom _ | exact Lcl.loadVar _ _ | exact Lcl.storeVar _ _ _ | exact Lcl.loadCells _ _ | exact Lcl.storeCells _ _ _ | exact Lcl.sliceBound _ _ _ | assumption | apply Lcl.bind | intro _ | split | dsimp only))
theorem Lcl.floatToFloat (a : FloatKind) (x : Nat) (b : FloatKind) : Lcl P (Conv.floatToFloat a x b) := by
  unfold Conv.floatToFloat
  (repeat' (first | exact Lcl.pure _ | exact Lcl.stuck _ | exact Lcl.unsup _ trivial | exact Lcl.goPanic _ | exact Lcl.rtPanic _ | exact Lcl.bndPanic _ _ _ _ | exact Lcl.loadA _ _ | exact Lcl.storeA _ _ _ | exact Lcl.underlying _ | exact Lcl.typeInfo _ | exact Lcl.sizeOf _ | exact Lcl.zeroValue _ | exact Lcl.isAgg _ | exact Lcl.asIntOf _ | exact Lcl.asInt _ | exact Lcl.asBool _ | exact Lcl.asAddr _ | exact Lcl.sureAddr _ | exact Lcl.chooseQ _ | exact Lcl.part _ _ _ | exact Lcl.newRow _ _ | exact Lcl.newVar _ _ | exact Lcl.askRoom _ | exact Lcl.loadVar _ _ | exact Lcl.storeVar _ _ _ | exact Lcl.loadCells _ _ | exact Lcl.storeCells _ _ _ | exact Lcl.sliceBound _ _ _ | assumption | apply Lcl.bind | intro _ | split | dsimp only))
theorem Lcl.floatToInt (a : FloatKind) (x : Nat) (b : IntKind) : Lcl P (Conv.floatToInt a x b) := by
  unfold Conv.floatToInt
  (repeat' (first | exact Lcl.pure _ | exact Lcl.stuck _ | exact Lcl.unsup _ trivial | exact Lcl.goPanic _ | exact Lcl.rtPanic _ | exact Lcl.bndPanic _ _ _ _ | exact Lcl.loadA _ _ | exact Lcl.storeA _ _ _ | exact Lcl.underlying _ | exact Lcl.typeInfo _ | exact Lcl.sizeOf _ | exact Lcl.zeroValue _ | exact Lcl.isAgg _ | exact Lcl.asIntOf _ | exact Lcl.asInt _ | exact Lcl.asBool _ | exact Lcl.asAddr _ | exact Lcl.sureAddr _ | exact Lcl.chooseQ _ | exact Lcl.part _ _ _ | exact Lcl.newRow _ _ | exact Lcl.newVar _ _ | exact Lcl.askRoom _ | exact Lcl.loadVar _ _ | exact Lcl.storeVar _ _ _ | exact Lcl.loadCells _ _ | exact Lcl.storeCells _ _ _ | exact Lcl.sliceBound _ _ _ | assumption | apply Lcl.bind | intro _ | split | dsimp only))
theorem Lcl.stringOp (op : BinOp) (x y : ByteArray) : Lcl P (Op.stringOp op x y) := by
  unfold Op.stringOp
  (repeat' (first | exact Lcl.pure _ | exact Lcl.stuck _ | exact Lcl.unsup _ trivial | exact Lcl.goPanic _ | exact Lcl.rtPanic _ | exact Lcl.bndPanic _ _ _ _ | exact Lcl.loadA _ _ | exact Lcl.storeA _ _ _ | exact Lcl.underlying _ | exact Lcl.typeInfo _ | exact Lcl.sizeOf _ | exact Lcl.zeroValue _ | exact Lcl.isAgg _ | exact Lcl.asIntOf _ | exact Lcl.asInt _ | exact Lcl.asBool _ | exact Lcl.asAddr _ | exact Lcl.sureAddr _ | exact Lcl.chooseQ _ | exact Lcl.part _ _ _ | exact Lcl.newRow _ _ | exact Lcl.newVar _ _ | exact Lcl.askRoom _ | exact Lcl.loadVar _ _ | exact Lcl.storeVar _ _ _ | exact Lcl.loadCells _ _ | exact Lcl.storeCells _ _ _ | exact Lcl.sliceBound _ _ _ | assumption | apply Lcl.bind | intro _ | split | dsimp only))
theorem Lcl.cArith (op : BinOp) (k : FloatKind) (x y : Nat) : Lcl P (Op.Complex.arith op k x y) := by
  unfold Op.Complex.arith
  refine (Lcl.floatArith _ _ _ _).bind fun v => ?_
  (repeat' (first | exact Lcl.pure _ | exact Lcl.stuck _ | exact Lcl.unsup _ trivial | exact Lcl.goPanic _ | exact Lcl.rtPanic _ | exact Lcl.bndPanic _ _ _ _ | exact Lcl.loadA _ _ | exact Lcl.storeA _ _ _ | exact Lcl.underlying _ | exact Lcl.typeInfo _ | exact Lcl.sizeOf _ | exact Lcl.zeroValue _ | exact Lcl.isAgg _ | exact Lcl.asIntOf _ | exact Lcl.asInt _ | exact Lcl.asBool _ | exact Lcl.asAddr _ | exact Lcl.sureAddr _ | exact Lcl.chooseQ _ | exact Lcl.part _ _ _ | exact Lcl.newRow _ _ | exact Lcl.newVar _ _ | exact Lcl.askRoom _ | exact Lcl.loadVar _ _ | exact Lcl.storeVar _ _ _ | exact Lcl.loadCells _ _ | exact Lcl.storeCells _ _ _ | exact Lcl.sliceBound _ _ _ | assumption | apply Lcl.bind | intro _ | split | dsimp only))
theorem Lcl.cCmp (op : BinOp) (k : FloatKind) (x y : Nat) : Lcl P (Op.Complex.cmp op k x y) := by
  unfold Op.Complex.cmp
  exact (Lcl.floatCmp _ _ _ _).bind fun v => Lcl.asBool _
theorem Lcl.cConv (a : FloatKind) (x : Nat) (b : FloatKind) : Lcl P (Op.Complex.conv a x b) := by
  unfold Op.Complex.conv
  split
  · exact Lcl.pure _
  · refine (Lcl.floatToFloat _ _ _).bind fun v => ?_
    (repeat' (first | exact Lcl.pure _ | exact Lcl.stuck _ | exact Lcl.unsup _ trivial | exact Lcl.goPanic _ | exact Lcl.rtPanic _ | exact Lcl.bndPanic _ _ _ _ | exact Lcl.loadA _ _ | exact Lcl.storeA _ _ _ | exact Lcl.underlying _ | exact Lcl.typeInfo _ | exact Lcl.sizeOf _ | exact Lcl.zeroValue _ | exact Lcl.isAgg _ | exact Lcl.asIntOf _ | exact Lcl.asInt _ | exact Lcl.asBool _ | exact Lcl.asAddr _ | exact Lcl.sureAddr _ | exact Lcl.chooseQ _ | exact Lcl.part _ _ _ | exact Lcl.newRow _ _ | exact Lcl.newVar _ _ | exact Lcl.askRoom _ | exact Lcl.loadVar _ _ | exact Lcl.storeVar _ _ _ | exact Lcl.loadCells _ _ | exact Lcl.storeCells _ _ _ | exact Lcl.sliceBound _ _ _ | assumption | apply Lcl.bind | intro _ | split | dsimp only))
theorem Lcl.cAdd (x y : Nat) : Lcl P (Op.Complex.add x y) := Lcl.cArith _ _ _ _
theorem Lcl.cSub (x y : Nat) : Lcl P (Op.Complex.sub x y) := Lcl.cArith _ _ _ _
theorem Lcl.cMul (x y : Nat) : Lcl P (Op.Complex.mul x y) := Lcl.cArith _ _ _ _
theorem Lcl.cQuo (x y : Nat) : Lcl P (Op.Complex.quo x y) := Lcl.cArith _ _ _ _
theorem Lcl.cProduct (a b c d : Nat) : Lcl P (Op.Complex.product a b c d) := by
  unfold Op.Complex.product
  (repeat' (first | with_reducible exact Lcl.purep _ | with_reducible exact Lcl.pure _ | with_reducible exact Lcl.cAdd _ _ | with_reducible exact Lcl.cSub _ _ | with_reducible exact Lcl.cMul _ _ | with_reducible exact Lcl.cQuo _ _ | with_reducible exact Lcl.cArith _ _ _ _ | with_reducible exact Lcl.cCmp _ _ _ _ | with_reducible exact Lcl.cConv _ _ _ | with_reducible exact Lcl.stuck _ | apply Lcl.bind | intro _ | split | dsimp only))
theorem Lcl.cCorrected (s a b c d : Nat) : Lcl P (Op.Complex.corrected s a b c d) := by
  unfold Op.Complex.corrected
  (repeat' (first | with_reducible exact Lcl.purep _ | with_reducible exact Lcl.pure _ | with_reducible exact Lcl.cAdd _ _ | with_reducible exact Lcl.cSub _ _ | with_reducible exact Lcl.cMul _ _ | with_reducible exact Lcl.cQuo _ _ | with_reducible exact Lcl.cArith _ _ _ _ | with_reducible exact Lcl.cCmp _ _ _ _ | with_reducible exact Lcl.cConv _ _ _ | with_reducible exact Lcl.cProduct _ _ _ _ | with_reducible exact Lcl.stuck _ | apply Lcl.bind | intro _ | split | dsimp only))
theorem Lcl.cQuotient (a b c d : Nat) : Lcl P (Op.Complex.quotient a b c d) := by
  unfold Op.Complex.quotient
  (repeat' (first | with_reducible exact Lcl.purep _ | with_reducible exact Lcl.pure _ | with_reducible exact Lcl.cAdd _ _ | with_reducible exact Lcl.cSub _ _ | with_reducible exact Lcl.cMul _ _ | with_reducible exact Lcl.cQuo _ _ | with_reducible exact Lcl.cArith _ _ _ _ | with_reducible exact Lcl.cCmp _ _ _ _ | with_reducible exact Lcl.cConv _ _ _ | with_reducible exact Lcl.cProduct _ _ _ _ | with_reducible exact Lcl.cCorrected _ _ _ _ _ | with_reducible exact Lcl.stuck _ | apply Lcl.bind | intro _ | split | dsimp only))
theorem Lcl.complexOp (op : BinOp) (k : FloatKind) (a b c d : Nat) : Lcl P (Op.complexOp op k a b c d) := by
  unfold Op.complexOp
  (repeat' (first | with_reducible exact Lcl.purep _ | with_reducible exact Lcl.pure _ | with_reducible exact Lcl.cAdd _ _ | with_reducible exact Lcl.cSub _ _ | with_reducible exact Lcl.cMul _ _ | with_reducible exact Lcl.cQuo _ _ | with_reducible exact Lcl.cArith _ _ _ _ | with_reducible exact Lcl.cCmp _ _ _ _ | with_reducible exact Lcl.cConv _ _ _ | with_reducible exact Lcl.cProduct _ _ _ _ | with_reducible exact Lcl.cCorrected _ _ _ _ _ | with_reducible exact Lcl.cQuotient _ _ _ _ | with_reducible exact Lcl.stuck _ | apply Lcl.bind | intro _ | split | dsimp only))
end
end Go.Proofs.Ytpioacgknamemaa
namespace Go.Proofs.Ytpioacgknamemaa
open Go Go.RowKit
section
variable {P : Program} {α β : Type}

/-- Types whose values are held against each other without a look into memory. -/
def flatTy : TypeDesc → Bool
  | .int _ | .slice _ | .pointer _ | .bool => true
  | _ => false

theorem Lcl.eqGuardIn (t : TypeId) (d : TypeDesc) (hd : P.underlying t = some d) (hf : flatTy d = true) (x y : Value) : Lcl P (Op.eqGuardIn Op.maxDepth t x y) := by
  show Lcl P (Op.eqGuardIn (9999 + 1) t x y)
  unfold Op.eqGuardIn
  refine Lcl.bindU fun d' hd' => ?_
  obtain rfl : d' = d := by rw [hd] at hd'; exact (Option.some.inj hd').symm
  cases d' <;> simp [flatTy] at hf <;> exact Lcl.pure _

theorem Lcl.eqGuard (op : BinOp) (t : TypeId) (d : TypeDesc) (hd : P.underlying t = some d) (hf : flatTy d = true) (x y : Operand) (a b : Value) : Lcl P (Go.eqGuard op t x y a b) := by
  have hG := fun a b => Lcl.eqGuardIn t d hd hf a b
  unfold Go.eqGuard
  (repeat' (first | with_reducible exact Lcl.purep _ | with_reducible exact hG _ _ | exact Lcl.unsup _ trivial | with_reducible apply Lcl.bindP | with_reducible apply Lcl.bind | intro _ | split | dsimp only))

def Fine (P : Program) (s : Sem α) : Prop := ∀ u, (∃ a u', s.run P u = .ok a u') ∨ (∃ h u', s.run P u = .halt h u' ∧ Mild h)
theorem Dead.after {s : Sem α} {f : α → Sem β} (hs : Fine P s) (hf : ∀ a, Dead P (f a)) : Dead P (s >>= f) := by
  intro u
  rcases hs u with ⟨a, u', e⟩ | ⟨h, u', e, hm⟩
  · obtain ⟨h, u'', e', hm⟩ := hf a u'
    exact ⟨h, u'', by simp [e, e'], hm⟩
  · exact ⟨h, u', by simp [e], hm⟩
theorem Fine.behind (n : Addr) : Fine P (Go.behindNumber n) := by
  intro u
  cases hs : u.shape? n.block with
  | some y => left; exact ⟨(n, false), u, by simp [Go.behindNumber, Go.numberAt, Go.shape, Sem.run, hs]⟩
  | none =>
    cases e : u.heap[n.block]? with
    | none => right; exact ⟨.stuck "getObj: no such block", u, by simp [Go.behindNumber, Go.numberAt, Go.shape, Go.getObj, Sem.run, hs, e], trivial⟩
    | some o =>
      left
      cases o with
      | cells c T fz => simp [World.shape?, e] at hs
      | number a l => exact ⟨(a, l), u, by simp [Go.behindNumber, Go.numberAt, Go.shape, Go.getObj, Sem.run, hs, e]⟩
      | _ => exact ⟨(n, false), u, by simp [Go.behindNumber, Go.numberAt, Go.shape, Go.getObj, Sem.run, hs, e]⟩
theorem Dead.bindP {f : Program → Sem β} (h : Dead P (f P)) : Dead P (Go.program >>= f) := h
theorem Dead.bindI {t : TypeId} {f : TypeInfo → Sem β} (h : ∀ d, P.info? t = some d → Dead P (f d)) : Dead P (Go.typeInfo t >>= f) := by
  show Dead P (Sem.program fun p => Sem.bind (match p.info? t with | some d => Sem.pure d | none => Go.stuck "no such type") f)
  intro u
  show ∃ h u', (Sem.bind (match P.info? t with | some d => Sem.pure d | none => Go.stuck "no such type") f).run P u = .halt h u' ∧ Mild h
  cases hu : P.info? t with
  | none => exact ⟨.stuck "no such type", u, rfl, trivial⟩
  | some d => exact h d hu u

theorem Lcl.equalInt (t : TypeId) (k : IntKind) (hd : P.underlying t = some (.int k)) (hg : P.globals.size = 0) (hn : ∀ i, P.info? t = some i → ∀ n, i.desc ≠ .named "sync.copyChecker" n) (x y : Value) : Lcl P (Op.equal t x y) := by
  unfold Op.equal
  show Lcl P (Op.equalIn (9999 + 1) t x y)
  unfold Op.equalIn
  refine Lcl.bindU fun d' hd' => ?_
  obtain rfl : d' = .int k := by rw [hd] at hd'; exact (Option.some.inj hd').symm
  split
  all_goals first
    | exact Lcl.purep _
    | exact Lcl.unsup _ trivial
    | exact Lcl.stuck _
    | (split <;> first | exact Lcl.purep _ | exact Lcl.stuck _)
    | contradiction
    | skip
  rename_i a b
  refine (Dead.dies (Dead.after (Fine.behind _) fun x => Dead.after (Fine.behind _) fun y => ?_)).lcl
  dsimp only
  refine Dead.bindP ?_
  simp only [hg, Nat.not_lt_zero, decide_false, Bool.and_false, Bool.false_eq_true, if_false]
  refine Dead.bindI fun i hi => ?_
  have := hn i hi
  split
  · rename_i n e; exact absurd e (this n)
  · exact fun u => ⟨_, u, rfl, trivial⟩

theorem Lcl.equalSlice (t e : TypeId) (hd : P.underlying t = some (.slice e)) (x y : Value) : Lcl P (Op.equal t x y) := by
  unfold Op.equal
  show Lcl P (Op.equalIn (9999 + 1) t x y)
  unfold Op.equalIn
  refine Lcl.bindU fun d' hd' => ?_
  obtain rfl : d' = .slice e := by rw [hd] at hd'; exact (Option.some.inj hd').symm
  split
  all_goals first
    | exact Lcl.purep _
    | exact Lcl.stuck _
    | contradiction
theorem Lcl.equalNil (t e : TypeId) (hd : P.underlying t = some (.pointer e)) (x : Value) : Lcl P (Op.equal t x (.pointer none)) := by
  unfold Op.equal
  show Lcl P (Op.equalIn (9999 + 1) t x (.pointer none))
  unfold Op.equalIn
  refine Lcl.bindU fun d' hd' => ?_
  obtain rfl : d' = .pointer e := by rw [hd] at hd'; exact (Option.some.inj hd').symm
  cases x with
  | pointer p => cases p <;> exact Lcl.purep _
  | _ => exact Lcl.stuck _

/-- What is asked of a binary operation. -/
def okBin (P : Program) (op : BinOp) (t : TypeId) (y : Operand) : Bool :=
  match P.underlying t with
  | some (.int _) => P.globals.size == 0 && (match P.info? t with | some i => (match i.desc with | .named "sync.copyChecker" _ => false | _ => true) | none => true)
  | some (.slice _) => op == .eql || op == .neq
  | some (.pointer _) => (op == .eql || op == .neq) && (match y with | .const (.pointer none) => true | _ => false)
  | _ => false

theorem Lcl.binInt (op : BinOp) (t : TypeId) (k : IntKind) (hd : P.underlying t = some (.int k)) (hg : P.globals.size = 0) (hn : ∀ i, P.info? t = some i → ∀ n, i.desc ≠ .named "sync.copyChecker" n) (x y : Value) : Lcl P (Go.binOp op t x y) := by
  have hE := fun x y => Lcl.equalInt t k hd hg hn x y
  have dead2 : ∀ (a b : Addr) (f : Addr → Addr → Sem Value), (∀ a b, Dead P (f a b)) → Lcl P (do f (← behindNumber a).1 (← behindNumber b).1) := fun a b f hf =>
    (Dead.dies (Dead.after (Fine.behind _) fun x => Dead.after (Fine.behind _) fun y => hf _ _)).lcl
  have tp : ∀ (a b : Addr), Dead P (Op.twoPlaces a b) := fun a b => by
    unfold Op.twoPlaces
    refine Dead.bindP ?_
    simp only [hg, Nat.zero_le, ge_iff_le, decide_true, Bool.or_true, if_true]
    exact fun u => ⟨_, u, rfl, trivial⟩
  have hsub : ∀ k a b, Dead P (Op.addrSub k a b) := fun k a b u => by
    obtain ⟨h, u', e, hm⟩ := tp a b u
    exact ⟨h, u', by simp [Op.addrSub, e], hm⟩
  have hcmp : ∀ op a b, Dead P (Op.addrCmp op a b) := fun op a b u => by
    obtain ⟨h, u', e, hm⟩ := tp a b u
    exact ⟨h, u', by simp [Op.addrCmp, e], hm⟩
  have hmod : ∀ k a n, Lcl P (do Op.addrMod k (← behindNumber a).1 n) := fun k a n => Lcl.behind a (fun z => Lcl.addrMod k z.1 n) (diesAt_addrMod k a n)
  unfold Go.binOp
  split
  all_goals first
    | exact Lcl.shift _ _ _ _ _
    | exact Lcl.stringOp _ _ _
    | exact (hE _ _).bind fun _ => Lcl.purep _
    | exact Lcl.movedPointer _ _ _ ⟨k, hd⟩
    | exact Lcl.movedNumber _ _ _
    | exact dead2 _ _ _ (fun a b => hsub _ a b)
    | exact dead2 _ _ _ (fun a b => hcmp _ a b)
    | exact hmod _ _ _
    | exact Lcl.unsup _ trivial
    | exact Lcl.stuck _
    | (split
       · exact Lcl.stuck _
       · split <;> first | exact Lcl.intArith _ _ _ _ | exact Lcl.intDiv _ _ _ _ | exact Lcl.intBits _ _ _ _ | exact Lcl.intCmp _ _ _ | exact Lcl.floatArith _ _ _ _ | exact Lcl.floatCmp _ _ _ _)
    | (split
       · exact Lcl.stuck _
       · exact Lcl.complexOp _ _ _ _ _ _)
end
end Go.Proofs.Ytpioacgknamemaa
namespace Go.Proofs.Ytpioacgknamemaa
open Go Go.RowKit
section
variable {P : Program} {α β : Type}

theorem Lcl.convInt (s d : TypeId) (j k : IntKind) (hs : P.underlying s = some (.int j)) (hd : P.underlying d = some (.int k)) (x : Value) : Lcl P (Go.convert s d x) := by
  unfold Go.convert
  refine Lcl.bindU fun d1 h1 => Lcl.bindU fun d2 h2 => ?_
  obtain rfl : d1 = .int j := by rw [hs] at h1; exact (Option.some.inj h1).symm
  obtain rfl : d2 = .int k := by rw [hd] at h2; exact (Option.some.inj h2).symm
  cases x with
  | int i n => exact Lcl.purep _
  | float f b => exact Lcl.floatToInt _ _ _
  | pointer p => cases p <;> exact Lcl.unsup _ trivial
  | _ => exact Lcl.unsup _ trivial

theorem Lcl.followBlind : ∀ (l : List FieldStep) (t : TypeId) (x : Option Value), Lcl P (Go.followBlind l t x)
  | [], _, _ => Lcl.pure _
  | s :: rest, t, x => by
    unfold Go.followBlind
    have ih := fun t x => Lcl.followBlind rest t x
    (repeat' (first | exact ih _ _ | exact Lcl.pure _ | exact Lcl.stuck _ | exact Lcl.unsup _ trivial | exact Lcl.goPanic _ | exact Lcl.rtPanic _ | exact Lcl.bndPanic _ _ _ _ | exact Lcl.loadA _ _ | exact Lcl.storeA _ _ _ | exact Lcl.underlying _ | exact Lcl.typeInfo _ | exact Lcl.sizeOf _ | exact Lcl.zeroValue _ | exact Lcl.isAgg _ | exact Lcl.asIntOf _ | exact Lcl.asInt _ | exact Lcl.asBool _ | exact Lcl.asAddr _ | exact Lcl.sureAddr _ | exact Lcl.chooseQ _ | exact Lcl.part _ _ _ | exact Lcl.newRow _ _ | exact Lcl.newVar _ _ | exact Lcl.askRoom _ | exact Lcl.loadVar _ _ | exact Lcl.storeVar _ _ _ | exact Lcl.loadCells _ _ | exact Lcl.storeCells _ _ _ | exact Lcl.sliceBound _ _ _ | assumption | apply Lcl.bind | intro _ | split | dsimp only))
theorem Lcl.nilAhead : ∀ (n : Nat) (t : TypeId) (v : Value) (m : String), Lcl P (Go.nilAhead n t v m)
  | 0, _, _, _ => Lcl.pure _
  | n + 1, t, v, m => by
    unfold Go.nilAhead
    have ih := fun t v m => Lcl.nilAhead n t v m
    have hb := fun l t x => Lcl.followBlind (P := P) l t x
    (repeat' (first | exact ih _ _ _ | exact hb _ _ _ | exact Lcl.pure _ | exact Lcl.stuck _ | exact Lcl.unsup _ trivial | exact Lcl.goPanic _ | exact Lcl.rtPanic _ | exact Lcl.bndPanic _ _ _ _ | exact Lcl.loadA _ _ | exact Lcl.storeA _ _ _ | exact Lcl.underlying _ | exact Lcl.typeInfo _ | exact Lcl.sizeOf _ | exact Lcl.zeroValue _ | exact Lcl.isAgg _ | exact Lcl.asIntOf _ | exact Lcl.asInt _ | exact Lcl.asBool _ | exact Lcl.asAddr _ | exact Lcl.sureAddr _ | exact Lcl.chooseQ _ | exact Lcl.part _ _ _ | exact Lcl.newRow _ _ | exact Lcl.newVar _ _ | exact Lcl.askRoom _ | exact Lcl.loadVar _ _ | exact Lcl.storeVar _ _ _ | exact Lcl.loadCells _ _ | exact Lcl.storeCells _ _ _ | exact Lcl.sliceBound _ _ _ | assumption | apply Lcl.bind | intro _ | split | dsimp only))

theorem Lcl.atomRead (t : Extern.Atomic.T) (a : Addr) : Lcl P (Extern.Atomic.read t a) := by
  unfold Extern.Atomic.read
  (repeat' (first | exact Lcl.pure _ | exact Lcl.stuck _ | exact Lcl.unsup _ trivial | exact Lcl.goPanic _ | exact Lcl.rtPanic _ | exact Lcl.bndPanic _ _ _ _ | exact Lcl.loadA _ _ | exact Lcl.storeA _ _ _ | exact Lcl.underlying _ | exact Lcl.typeInfo _ | exact Lcl.sizeOf _ | exact Lcl.zeroValue _ | exact Lcl.isAgg _ | exact Lcl.asIntOf _ | exact Lcl.asInt _ | exact Lcl.asBool _ | exact Lcl.asAddr _ | exact Lcl.sureAddr _ | exact Lcl.chooseQ _ | exact Lcl.part _ _ _ | exact Lcl.newRow _ _ | exact Lcl.newVar _ _ | exact Lcl.askRoom _ | exact Lcl.loadVar _ _ | exact Lcl.storeVar _ _ _ | exact Lcl.loadCells _ _ | exact Lcl.storeCells _ _ _ | exact Lcl.sliceBound _ _ _ | assumption | apply Lcl.bind | intro _ | split | dsimp only))
theorem Lcl.atomLoad (t : Extern.Atomic.T) (args : Array Value) : Lcl P (Extern.Atomic.loadT t args) := by
  obtain ⟨l⟩ := args
  rcases l with _ | ⟨a, _ | ⟨b, l⟩⟩
  · exact Lcl.stuck _
  · exact Lcl.bind (Lcl.asAddr a) fun x => Lcl.atomRead _ _
  · exact Lcl.stuck _
theorem Lcl.atomAdd (k : IntKind) (b : Bool) (args : Array Value) : Lcl P (Extern.Atomic.update (Op.intArith .add) k b args) := by
  obtain ⟨l⟩ := args
  rcases l with _ | ⟨a, _ | ⟨y, _ | ⟨c, l⟩⟩⟩
  · exact Lcl.stuck _
  · exact Lcl.stuck _
  · exact Lcl.bind (Lcl.asAddr a) fun x => (Lcl.atomRead _ _).bind fun o => (Lcl.asInt _).bind fun _ => (Lcl.asInt _).bind fun _ => (Lcl.intArith _ _ _ _).bind fun _ => (Lcl.storeA _ _ _).bind fun _ => Lcl.purep _
  · exact Lcl.stuck _

/-- What a step of such code comes to. -/
def Plain (S : FuncId → Bool) : Next → Prop
  | .value _ => True
  | .skip => True
  | .enter f _ => S f = true
  | _ => False

/-- A function without a body whose entry acts alike. -/
def Quick (P : Program) (f : FuncId) : Prop :=
  ∃ fn e, P.funcs[f]? = some fn ∧ (fn.name == "runtime.NumGoroutine") = false ∧ fn.body.isNone = true ∧ Extern.findNext fn = none ∧ Extern.find fn = some e ∧ ∀ args, Lcl P (e args)
/-- A function with a body. -/
def Bodied (P : Program) (f : FuncId) : Prop := ∃ fn, P.funcs[f]? = some fn ∧ (fn.name == "runtime.NumGoroutine") = false ∧ fn.body.isNone = false

structure OpOk (P : Program) (S : FuncId → Bool) (s : Sem Next) : Prop where
  lcl : Lcl P s
  plain : ∀ u n u', s.run P u = .ok n u' → Plain S n

theorem OpOk.val {S : FuncId → Bool} {s : Sem Value} (h : Lcl P s) : OpOk P S (do Pure.pure (.value (← s))) :=
  ⟨h.bind fun _ => Lcl.purep _, fun u n u' e => by
    cases hr : s.run P u with
    | ok v u₁ => simp [hr] at e; rw [← e.1]; trivial
    | halt x u₁ => simp [hr] at e⟩
theorem OpOk.skip {S : FuncId → Bool} {s : Sem Unit} (h : Lcl P s) : OpOk P S (do s; Pure.pure .skip) :=
  ⟨h.bind fun _ => Lcl.purep _, fun u n u' e => by
    cases hr : s.run P u with
    | ok v u₁ => simp [hr] at e; rw [← e.1]; trivial
    | halt x u₁ => simp [hr] at e⟩
theorem OpOk.dies {S : FuncId → Bool} {s : Sem Next} (h : Lcl P s) (hd : ∀ u n u', s.run P u ≠ .ok n u') : OpOk P S s := ⟨h, fun u n u' e => absurd e (hd u n u')⟩

theorem OpOk.callBody {S : FuncId → Bool} {f : FuncId} (h : Bodied P f) (hS : S f = true) (args : Array Value) : OpOk P S (callFunc f args) := by
  obtain ⟨fn, h1, h2, h3⟩ := h
  have e : (callFunc f args) = Sem.program fun p => (match p.funcs[f]? with
    | none => Go.stuck "call: no such function"
    | some fn => _) := rfl
  have hr : ∀ u, (callFunc f args).run P u = .ok (.enter f args) u := fun u => by
    rw [e]
    simp only [Sem.run, h1, h2, h3, Bool.false_eq_true, if_false]
    rfl
  refine ⟨?_, fun u n u' e => by rw [hr] at e; cases e; exact hS⟩
  rw [e]
  refine Lcl.program ?_
  rw [h1]
  simp only [h2, h3, Bool.false_eq_true, if_false]
  exact Lcl.purep _
theorem OpOk.callQuick {S : FuncId → Bool} {f : FuncId} (h : Quick P f) (args : Array Value) : OpOk P S (callFunc f args) := by
  obtain ⟨fn, e, h1, h2, h3, h4, h5, h6⟩ := h
  have ee : (callFunc f args) = Sem.program fun p => (match p.funcs[f]? with
    | none => Go.stuck "call: no such function"
    | some fn => _) := rfl
  have key : Lcl P (callFunc f args) := by
    rw [ee]
    refine Lcl.program ?_
    rw [h1]
    simp only [h2, h3, h4, h5, Bool.false_eq_true, if_false, if_true]
    refine Lcl.bind (Lcl.mark _ (.inl ⟨f, rfl⟩) (Lcl.pure ())) fun _ => ?_
    exact (h6 args).bind fun _ => Lcl.purep _
  refine ⟨key, fun u n u' hh => ?_⟩
  have hr : (callFunc f args).run P u = ((e args).run P u).andThen fun v w => .ok (.value v) w := by
    rw [ee]
    simp only [Sem.run, h1, h2, h3, h4, h5, Bool.false_eq_true, if_false, if_true]
    simp [Go.mark, Sem.run]
  rw [hr] at hh
  cases hx : (e args).run P u with
  | ok v u₁ => simp [hx] at hh; rw [← hh.1]; trivial
  | halt x u₁ => simp [hx] at hh

def isIntTy (P : Program) (t : TypeId) : Bool := match P.underlying t with | some (.int _) => true | _ => false
def isSliceTy (P : Program) (t : Option TypeId) : Bool := match t with | some t => (match P.underlying t with | some (.slice _) => true | _ => false) | none => false
def okField (P : Program) (s : TypeId) (i : Nat) : Bool :=
  match P.underlying s with
  | some (.struct fs) => (match fs[i]? with | some f => (match P.info? f.type with | some d => d.size != 0 | none => true) | none => false)
  | _ => false

def okOp (P : Program) (S X : FuncId → Bool) : Op → Bool
  | .move _ | .assign _ | .pick _ _ _ | .alloc _ | .box _ _ | .build _ _ | .buildSlice _ _ _ | .load _ _ | .store _ _ _ | .nilCheck _ | .unOp _ _ _ | .makeSlice _ _ _ | .slice _ _ _ _ _ | .indexAddr _ _ _ | .index _ _ _ | .extract _ _ => true
  | .binOp op t _ y _ => okBin P op t y
  | .convert s d _ => isIntTy P s && isIntTy P d
  | .fieldAddr s _ i => okField P s i
  | .call c => (match c.callee with
    | .value (.func f) => S f || X f
    | .builtin .len => isSliceTy P c.argTypes[0]?
    | .builtin .append => isSliceTy P c.argTypes[0]? && isSliceTy P c.argTypes[1]?
    | _ => false)
  | _ => false

theorem slice_of {t : Option TypeId} (h : isSliceTy P t = true) : ∃ x e, t = some x ∧ P.underlying x = some (.slice e) := by
  unfold isSliceTy at h
  split at h
  · split at h
    · exact ⟨_, _, rfl, ‹_›⟩
    · cases h
  · cases h
theorem int_of {t : TypeId} (h : isIntTy P t = true) : ∃ k, P.underlying t = some (.int k) := by
  unfold isIntTy at h
  split at h
  · exact ⟨_, ‹_›⟩
  · cases h

theorem Lcl.binOk {op : BinOp} {t : TypeId} {y : Operand} (h : okBin P op t y = true) (x : Operand) (a : Act) : Lcl P (do Go.eqGuard op t x y (a.eval x) (a.eval y); Go.binOp op t (a.eval x) (a.eval y)) := by
  unfold okBin at h
  split at h
  · rename_i k hd
    simp only [Bool.and_eq_true, beq_iff_eq] at h
    refine (Lcl.eqGuard op t _ hd rfl x y _ _).bind fun _ => Lcl.binInt op t k hd h.1 (fun i hi n e => ?_) _ _
    have := h.2
    simp [hi, e] at this
  · rename_i e hd
    refine (Lcl.eqGuard op t _ hd rfl x y _ _).bind fun _ => ?_
    have hE := fun x y => Lcl.equalSlice (P := P) t e hd x y
    simp only [Bool.or_eq_true, beq_iff_eq] at h
    unfold Go.binOp
    rcases h with rfl | rfl
    · split
      all_goals first
        | contradiction
        | exact (hE _ _).bind fun _ => Lcl.purep _
        | exact Lcl.stringOp _ _ _
        | exact Lcl.unsup _ trivial
        | exact Lcl.stuck _
        | (split
           · exact Lcl.stuck _
           · first | exact Lcl.intCmp _ _ _ | exact Lcl.floatCmp _ _ _ _ | exact Lcl.complexOp _ _ _ _ _ _)
        | simp_all
    · split
      all_goals first
        | contradiction
        | exact (hE _ _).bind fun _ => Lcl.purep _
        | exact Lcl.stringOp _ _ _
        | exact Lcl.unsup _ trivial
        | exact Lcl.stuck _
        | (split
           · exact Lcl.stuck _
           · first | exact Lcl.intCmp _ _ _ | exact Lcl.floatCmp _ _ _ _ | exact Lcl.complexOp _ _ _ _ _ _)
        | simp_all
  · rename_i e hd
    simp only [Bool.and_eq_true, Bool.or_eq_true, beq_iff_eq] at h
    obtain ⟨h, hy⟩ := h
    split at hy
    · refine (Lcl.eqGuard op t _ hd rfl x _ _ _).bind fun _ => ?_
      have hE := fun x => Lcl.equalNil (P := P) t e hd x
      show Lcl P (Go.binOp op t (a.eval x) (.pointer none))
      unfold Go.binOp
      rcases h with rfl | rfl
      · cases a.eval x <;> exact (hE _).bind fun _ => Lcl.purep _
      · cases a.eval x <;> exact (hE _).bind fun _ => Lcl.purep _
    · cases hy
  · cases h

theorem okOp_sound {S X : FuncId → Bool} (hS : ∀ f, S f = true → Bodied P f) (hX : ∀ f, X f = true → Quick P f) (o : Oper) (a : Act) (h : okOp P S X o.op = true) : OpOk P S (execOp a.eval o) := by
  obtain ⟨dst, op, type, pos, after, guard⟩ := o
  cases op <;> simp only [okOp, Bool.false_eq_true] at h
  case move x => exact ⟨Lcl.purep _, fun u n u' e => by cases e; trivial⟩
  case assign x => exact ⟨Lcl.purep _, fun u n u' e => by cases e; trivial⟩
  case pick c x y =>
    refine ⟨(Lcl.asBool (a.eval c)).bind fun _ => Lcl.purep _, fun u n u' e => ?_⟩
    have hr : (execOp a.eval { dst := dst, op := Op.pick c x y, type := type, pos := pos, after := after, guard := guard }).run P u = ((asBool (a.eval c)).run P u).andThen fun b w => .ok (.value (if b = true then a.eval x else a.eval y)) w := by simp [execOp]
    rw [hr] at e
    cases hx : (asBool (a.eval c)).run P u with
    | ok v u₁ => simp [hx] at e; rw [← e.1]; trivial
    | halt x u₁ => simp [hx] at e
  case alloc e => exact OpOk.val (Lcl.alloc _)
  case box e x => exact OpOk.val (Lcl.box _ _)
  case build t ps => exact OpOk.val (Lcl.build _ _)
  case buildSlice t n ps => exact OpOk.val (Lcl.buildSlice _ _ _)
  case load t x => exact OpOk.val (Lcl.loadAt _ _)
  case store t x y => exact OpOk.skip (Lcl.storeAt _ _ _)
  case unOp op t x => exact OpOk.val (Lcl.unary _ _)
  case makeSlice t l c => exact OpOk.val (Lcl.makeSlice _ _ _)
  case slice t x lo hi mx => exact OpOk.val (Lcl.sliceAt _ _ _ _ _)
  case indexAddr t x i => exact OpOk.val (Lcl.indexAt _ _ _)
  case index t x i => exact OpOk.val (Lcl.index _ _ _)
  case extract x i => exact OpOk.val (Lcl.extract _ _)
  case binOp op t x y z => exact OpOk.val (Lcl.binOk h x a)
  case convert s d x =>
    simp only [Bool.and_eq_true] at h
    obtain ⟨j, hj⟩ := int_of h.1
    obtain ⟨k, hk⟩ := int_of h.2
    exact OpOk.val (Lcl.convInt s d j k hj hk _)
  case fieldAddr s x i =>
    unfold okField at h
    split at h
    · rename_i fs hs
      split at h
      · rename_i f hf
        refine OpOk.val (Lcl.fieldAt s _ i fs f hs hf fun d hd => ?_)
        simpa [hd] using h
      · cases h
    · cases h
  case nilCheck x =>
    have hp : OpOk P S (runtimePanic .nilDeref : Sem Next) := OpOk.dies (Lcl.rtPanic _) (fun u n u' e => by cases e)
    have hv : ∀ v, OpOk P S (Pure.pure (.value v) : Sem Next) := fun v => ⟨Lcl.purep _, fun u n u' e => by cases e; trivial⟩
    unfold execOp
    dsimp only
    generalize a.eval x = v
    cases v with
    | pointer p => cases p with
      | none => exact hp
      | some q => exact hv _
    | nilIface => exact hp
    | nilFunc => exact hp
    | func fn first captured => cases fn with
      | method name =>
        show OpOk P S (match (first[0]? : Option Value) with
          | some .nilIface => runtimePanic .nilDeref
          | some (.iface t w) => _
          | _ => Pure.pure (.value (.func (.method name) first captured)))
        split
        · exact hp
        · rename_i t w _
          refine ⟨Lcl.bindP ?_, fun u n u' e => ?_⟩
          · refine (Lcl.nilAhead _ _ _ _).bind fun b => ?_
            split
            · refine Lcl.bind (Lcl.unsup _ ?_) fun _ => Lcl.purep _
              trivial
            · exact Lcl.purep _
          · simp only [Go.program, Sem.run_bind] at e
            simp only [Sem.run, Result.andThen_ok] at e
            cases hx : (nilAhead (P.types.size + Made.depth) t w name).run P u with
            | halt h u₁ => simp [hx] at e
            | ok b u₁ =>
              rw [hx] at e
              simp only [Result.andThen_ok] at e
              split at e
              · simp [Go.unsupported] at e
              · simp at e; rw [← e.1]; trivial
        · exact hv _
      | _ => exact hv _
    | _ => exact hv _
  case call c =>
    obtain ⟨callee, args, ts⟩ := c
    cases callee with
    | invoke r m => cases h
    | value f => cases f with
      | func f =>
        simp only [Bool.or_eq_true] at h
        show OpOk P S (callFunc f ((#[] ++ args.map a.eval) ++ #[]))
        rcases h with h | h
        · exact OpOk.callBody (hS f h) h _
        · exact OpOk.callQuick (hX f h) _
      | _ => cases h
    | builtin b => cases b <;> simp only [Bool.false_eq_true, Bool.and_eq_true] at h
                   case len =>
                     obtain ⟨t, e, h1, h2⟩ := slice_of h
                     exact OpOk.val (Lcl.len ts type _ t e h1 h2)
                   case append =>
                     obtain ⟨t, e, h1, h2⟩ := slice_of h.1
                     obtain ⟨t', e', h1', h2'⟩ := slice_of h.2
                     exact OpOk.val (Lcl.append ts type _ t t' e' h1 h1' h2')

/-- Code all of whose operations pass, without jumps by name, without range functions. -/
def okCode (P : Program) (S X : FuncId → Bool) : Code → Bool
  | .skip | .exit _ | .ret => true
  | .region _ ops _ => ops.all fun o => okOp P S X o.op
  | .seq a b => okCode P S X a && okCode P S X b
  | .cond _ a b => okCode P S X a && okCode P S X b
  | .block _ c => okCode P S X c
  | .loop c => okCode P S X c
  | _ => false
end
end Go.Proofs.Ytpioacgknamemaa
