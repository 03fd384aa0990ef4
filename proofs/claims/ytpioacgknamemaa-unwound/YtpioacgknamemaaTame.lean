/- Which functions walk alone. -/
import Derived.Test.YtpioacgknamemaaLink
import Derived.Conc.WgGenW
namespace Go.Proofs.Ytpioacgknamemaa
open Go Go.RowKit Go.Conc Go.ConcN Go.Conc.Lib Go.ConcR.Gen

def loneS (f : Nat) : Bool := (7 ≤ f && f ≤ 11) || (13 ≤ f && f ≤ 18) || (20 ≤ f && f ≤ 32) || (34 ≤ f && f ≤ 36) || f == 38 || f == 39 || (45 ≤ f && f ≤ 58) || (72 ≤ f && f ≤ 77) || f == 86
def loneX (f : Nat) : Bool := f == 37 || f == 40
def okFn (P : Program) (S X : FuncId → Bool) (f : FuncId) : Bool := match P.funcs[f]? with
  | some fn => (match fn.body with | some c => okCode P S X c | none => false) && !(fn.name == "runtime.NumGoroutine")
  | none => false
theorem lone_checked : (List.range 105).all (fun f => !loneS f || okFn Try.prog loneS loneX f) = true := by kernel_rfl

theorem Lcl.readT {P : Program} (k : IntKind) (a : Addr) : Lcl P (Extern.Atomic.read (.int k) a) := by
  unfold Extern.Atomic.read
  refine (Lcl.loadA _ _).bind fun v => ?_
  split <;> first | exact Lcl.pure _ | exact Lcl.unsup _ trivial | (split <;> first | exact Lcl.pure _ | exact Lcl.unsup _ trivial)
theorem Lcl.loadT {P : Program} (k : IntKind) (args : Array Value) : Lcl P (Extern.Atomic.loadT (.int k) args) := by
  obtain ⟨l⟩ := args
  rcases l with _ | ⟨x, _ | ⟨y, l⟩⟩
  · exact Lcl.stuck _
  · exact (Lcl.asAddr x).bind fun a => Lcl.readT k a
  · exact Lcl.stuck _
theorem Lcl.updateT {P : Program} (k : IntKind) (args : Array Value) : Lcl P (Extern.Atomic.update (Op.intArith .add) k true args) := by
  obtain ⟨l⟩ := args
  rcases l with _ | ⟨x, _ | ⟨y, _ | ⟨z, l⟩⟩⟩
  · exact Lcl.stuck _
  · exact Lcl.stuck _
  · exact (Lcl.asAddr x).bind fun a => (Lcl.readT k a).bind fun old => (Lcl.asInt old).bind fun p => (Lcl.asInt y).bind fun q =>
      Lcl.bind (show Lcl P (Op.intArith .add k p q) from Lcl.pure _) fun new => (Lcl.storeA a new .atomic).bind fun _ => Lcl.pure _
  · exact Lcl.stuck _

theorem tame : Tame Try.prog loneS loneX := by
  refine ⟨fun (f : Nat) hf => ?_, fun (f : Nat) hf => ?_⟩
  · have hlt : (f : Nat) < (105 : Nat) := by
      simp only [loneS, Bool.or_eq_true, Bool.and_eq_true, decide_eq_true_eq, beq_iff_eq] at hf
      omega
    have h := List.all_eq_true.1 lone_checked f (List.mem_range.2 hlt)
    rw [hf] at h
    simp only [Bool.not_true, Bool.false_or, okFn] at h
    cases hx : Try.prog.funcs[f]? with
    | none => rw [hx] at h; cases h
    | some fn =>
      rw [hx] at h
      simp only [Bool.and_eq_true, Bool.not_eq_true'] at h
      cases hb : fn.body with
      | none => rw [hb] at h; exact absurd h.1 (by simp)
      | some c => rw [hb] at h; exact ⟨fn, c, rfl, hb, h.1, h.2⟩
  · simp only [loneX, Bool.or_eq_true, beq_iff_eq] at hf
    rcases hf with rfl | rfl
    · exact ⟨_, _, wgLib.f_loadU64, x_loadU64_n link, x_loadU64_b link, x_loadU64_x link, x_loadU64_f link, fun args => Lcl.loadT .u64 args⟩
    · exact ⟨_, _, wgLib.f_addU64, x_addU64_n link, x_addU64_b link, x_addU64_x link, x_addU64_f link, fun args => Lcl.updateT .u64 args⟩
end Go.Proofs.Ytpioacgknamemaa
