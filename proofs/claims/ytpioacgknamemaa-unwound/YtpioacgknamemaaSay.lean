/- Goroutine 0 beside leavers: small steps, for code that calls what starts goroutines. -/
import Derived.Test.YtpioacgknamemaaEnds
import Derived.Test.YtpioacgknamemaaTame
import Derived.Test.YtpioacgknamemaaPlace
set_option linter.unusedSectionVars false
namespace Go.Proofs.Ytpioacgknamemaa
open Go Go.RowKit Go.Conc Go.ConcN

section
variable {P : Program} {Post : Value → World → Prop} {W : World} {Sh : Loc → Prop} {κ : Nat → Kd} {M : Nat} {u : World} {b : Frame} {a : Act} {k : List Item} {cs : List Frame}

theorem ends_view {g : Goroutine} (h : View κ u u → EndsOk P Post W Sh κ M g u) : EndsOk P Post W Sh κ M g u :=
  fun gs w sl t q h0 hgm hV hz hI hl => h hV.self gs w sl t q h0 hgm hV hz hI hl
theorem EndsOk.at {g : Goroutine} {u' : World} (h : EndsOk P Post W Sh κ M g u) (e : u'.heap = u.heap) : EndsOk P Post W Sh κ M g u' :=
  fun gs w sl t q h0 hgm hV hz hI hl => h gs w sl t q h0 hgm (hV.of_heap e.symm) (by rw [← e]; exact hz) hI hl
theorem ends_seq {x y : Code} (h : EndsOk P Post W Sh κ M (G (b.at a (.code x :: .code y :: k)) cs) u) : EndsOk P Post W Sh κ M (G (b.at a (.code (.seq x y) :: k)) cs) u :=
  ends_pure rfl (fun _ => stepG_seq) h
theorem ends_reg {id : Nat} {ops : Array Oper} {l : List Nat} (hl : List.range ops.size = l) (h : EndsOk P Post W Sh κ M (G (b.at a (.inRegion ops l :: k)) cs) u) : EndsOk P Post W Sh κ M (G (b.at a (.code (.region id ops false) :: k)) cs) u :=
  ends_pure rfl (fun _ => stepG_region) (hl ▸ h)
theorem ends_regEnd {ops : Array Oper} (h : EndsOk P Post W Sh κ M (G (b.at a k) cs) u) : EndsOk P Post W Sh κ M (G (b.at a (.inRegion ops [] :: k)) cs) u :=
  ends_pure rfl (fun _ => stepG_region_end) h
theorem ends_ret {todo : List Item} (h : EndsOk P Post W Sh κ M (G { b.at a (.code .ret :: todo) with mode := .returning } cs) u) : EndsOk P Post W Sh κ M (G (b.at a (.code .ret :: todo)) cs) u :=
  ends_pure rfl (fun _ => stepG_ret') h
theorem ends_op {ops : Array Oper} {i : Nat} {rest : List Nat} {o : Oper} {v : Value} (ho : ops[i]? = some o) (hw : Region.wanted o (yielded ops a.tmps) = true) (hr : ∀ w, (execOp a.eval o).run P w = .ok (.value v) w) (he : ∀ w, (execOp a.eval o).events P w #[] = #[])
    (h : EndsOk P Post W Sh κ M (G (b.at (a.put o.dst v) (.inRegion ops rest :: k)) cs) u) : EndsOk P Post W Sh κ M (G (b.at a (.inRegion ops (i :: rest) :: k)) cs) u := by
  refine ends_pure rfl (fun w => ?_) h
  rw [stepG_oper ho hw]
  simp [stepG.apply, hr, he, G, Frame.at, GStep.after, seen_none, Frame.finish, ho, Act.put]
  cases o.dst <;> simp
theorem ends_into {ops : Array Oper} {i : Nat} {rest : List Nat} {o : Oper} {f : FuncId} {fn : Func} {c : Code} {args : Array Operand} {ats : Array TypeId} (ho : ops[i]? = some o) (hw : Region.wanted o (yielded ops a.tmps) = true) (hk : b.kind ≠ .early) (hop : o.op = .call { callee := .value (.func f), args, argTypes := ats })
    (hf : P.funcs[f]? = some fn) (hname : (fn.name == "runtime.NumGoroutine") = false) (hb : fn.body = some c) (h : EndsOk P Post W Sh κ M (G (Frame.enter P f (args.map a.eval) .normal) (b.at a (.inRegion ops (i :: rest) :: k) :: cs)) u) :
    EndsOk P Post W Sh κ M (G (b.at a (.inRegion ops (i :: rest) :: k)) cs) u := by
  have hb' : fn.body.isNone = false := by rw [hb]; rfl
  refine ends_pure rfl (fun w => ?_) h
  have e : listed P b.fn a o w = #[] := by unfold listed; rw [events_call_body hop hf hname hb']; exact seen_none P _
  rw [stepG_enter ho hw hk (run_call_body hop hf hname hb'), e]
theorem ends_leave {fn : Func} {todo : List Item} {c : Frame} (hk : b.kind = .normal) (hd : a.defers = []) (hf : P.funcs[b.fn]? = some fn) (hs : slotRes fn = true) (h : EndsOk P Post W Sh κ M (G (c.finish (resV fn a.tmps)) cs) u) :
    EndsOk P Post W Sh κ M (G { b.at a todo with mode := .returning } (c :: cs)) u := by
  refine ends_pure rfl (fun w => ?_) h
  rw [stepG_leave hk hd hf (by rw [results_slots hs]; rfl) (by rw [results_slots hs]; rfl)]
theorem finish_at {ops : Array Oper} {i : Nat} {rest : List Nat} {o : Oper} {v : Value} (ho : ops[i]? = some o) : (b.at a (.inRegion ops (i :: rest) :: k)).finish v = b.at (a.put o.dst v) (.inRegion ops rest :: k) := by
  rw [Frame.finish_at, ho]; rfl
end
end Go.Proofs.Ytpioacgknamemaa
