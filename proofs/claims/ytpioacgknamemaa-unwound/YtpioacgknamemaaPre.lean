/- FindAll's beginning: up to the head of its loop. -/
import Derived.Test.YtpioacgknamemaaFl
set_option linter.unusedSectionVars false
set_option linter.unusedSimpArgs false
namespace Go.Proofs.Ytpioacgknamemaa
open Go Go.RowKit Go.Conc Go.ConcN Go.ConcN.Gen Go.Conc.Lib Go.ConcR.Gen
open Go.ConcR (KK wgBlock WgAt stA smA rd wr mk ofEvent_cell Payload Aside2 DC0)

theorem info3 : (Try.prog.info? 3).map (fun i => (i.zero, i.size, i.bytes)) = some (some (.int .i64 0), 1, 8) := by kernel_rfl
theorem info_parts {P : Program} {t : TypeId} {z : Value} {s b : Nat} (h : (P.info? t).map (fun i => (i.zero, i.size, i.bytes)) = some (some z, s, b)) : ∃ i, P.info? t = some i ∧ i.zero = some z ∧ i.size = s ∧ i.bytes = b := by
  obtain ⟨i, h1, h2⟩ := Option.map_eq_some_iff.1 h
  simp only [Prod.mk.injEq] at h2
  exact ⟨i, h1, h2.1, h2.2.1, h2.2.2⟩
theorem mk22 (n : Nat) (w : World) (h : 8 * n ≤ 281474976710656) :
    (Instr.makeSlice 22 (.int .i64 n) (.int .i64 n)).run Try.prog w = .ok (.slice (some ⟨w.heap.size, 0, none⟩) n n) (w.alloc (.cells (madeCells #[.int .i64 0] n) 3)) := by
  obtain ⟨i0, hi, hz0, hz1, hz2⟩ := info_parts info3
  have := run_make (P := Try.prog) w 22 3 i0 (.int .i64 0) Try.underlying22 hi hz0 .i64 .i64 (n : Int) (n : Int) (by omega) (by omega) (by rw [hz2]; omega) (by omega)
  rw [this, hz1]
  simp [Value.cells]
theorem mk22_ev (n : Nat) (w : World) (h : 8 * n ≤ 281474976710656) : ∀ e ∈ (Instr.makeSlice 22 (.int .i64 n) (.int .i64 n)).events Try.prog w #[], e.loc = .mark .noRoom := by
  have wn : IntKind.i64.wrap (n : Int) = n := by rw [IntKind.wrap_i64]; omega
  have hb : Try.t3.bytes = 8 := by kernel_rfl
  have n1 : ¬ ((n : Int) < 0) := by omega
  have n2 : ¬ (281474976710656 < (8 : Int) * n) := by omega
  intro e he
  simp only [Instr.makeSlice, Sem.events_bind, run_underlying Try.underlying22, events_underlying, Result.evThen_ok, asInt, asIntOf, Sem.run_bind, Sem.run_pure, Sem.events_pure, Result.andThen_ok] at he
  simp [wn, hb, n1, n2] at he
  have key : ∀ e ∈ (askRoom (n * 8)).events Try.prog w #[], e.loc = .mark .noRoom := by
    intro e he
    unfold askRoom at he
    split at he
    · simp at he
      rw [he]
    · simp at he
  split at he <;> simp [newRow] at he <;> exact key e he

theorem loud33 : (Try.prog.funcs[(base 33).fn]?).any (·.norace) = false := by kernel_rfl
noncomputable def body33 : Code := Try.f33.body.getD .skip
noncomputable def L33 : Code := match body33 with | .seq _ (.seq _ (.seq _ (.seq _ (.seq (.seq _ (.block _ (.loop c))) _)))) => c | _ => .skip
noncomputable def E33 : Code := match body33 with | .seq _ (.seq _ (.seq _ (.seq _ (.seq _ r)))) => r | _ => .skip

/-- At the head of the loop, i workers being started. -/
def AtHead (f : FA) (i : Nat) (c : Frame) (cs : List Frame) (g : Goroutine) : Prop :=
  ∃ TT : Array Value, g = G ((base 33).at ⟨TT, []⟩ [.code L33, .inLoop L33, .inBlock 0, .code E33]) (c :: cs) ∧ TT.size = 36 ∧ TT[2]? = some (ptr f.z) ∧ TT[3]? = some (ptr (f.z + 1)) ∧ TT[5]? = some (ptr (f.z + 3)) ∧ TT[6]? = some (.int .i64 f.part) ∧
    TT[7]? = some (ptr (f.z + 4)) ∧ TT[8]? = some (ptr (f.z + (5 + 4 * i)))

set_option maxRecDepth 100000 in
set_option maxHeartbeats 4000000 in
theorem fa_pre {f : FA} (hO : f.Ok) {sa : Addr} (hS : f.S = .pointer (some sa)) (hroom : 8 * f.n ≤ 281474976710656) (hpart : f.part = (f.n + 7) / 8) {c : Frame} {cs : List Frame} {w : World} (hF : FL f 0 (fun _ => none) w) :
    Way Try.prog true R0 (D0 f) (fun g w => AtHead f 0 c cs g ∧ ∃ gg, FL f 6 gg w ∧ gg 0 = some (.cells #[f.S] 66) ∧ gg 1 = some (.cells #[.slice (some f.lb) f.n f.cap] 23) ∧ gg 2 = some (.cells (madeCells #[.int .i64 0] f.n) 3) ∧ gg 3 = some (.cells #[.slice (some ⟨f.z + 2, 0, none⟩) f.n f.n] 22) ∧ gg 4 = some (wgBlock 82 0 0) ∧ gg 5 = some (.cells #[.int .i64 (f.fr 0 : Nat)] 3))
      (G (Frame.enter Try.prog 33 #[.pointer (some sa), .slice (some f.lb) f.n f.cap] .normal) (c :: cs)) w := by
  have e1 : IntKind.i64.wrap ((f.n : Int) + 8) = (f.n : Int) + 8 := by rw [IntKind.wrap_i64]; omega
  have e2 : IntKind.i64.wrap ((f.n : Int) + 8 - 1) = (f.n : Int) + 7 := by rw [IntKind.wrap_i64]; omega
  have e3 : ((f.n : Int) + 7) / 8 = (f.part : Int) := by rw [hpart]; omega
  have e4 : ((f.n : Int) + 7).tdiv 8 = (f.part : Int) := by rw [Int.tdiv_eq_ediv_of_nonneg (by omega)]; exact e3
  have e5 : IntKind.i64.wrap (f.part : Int) = (f.part : Int) := by rw [IntKind.wrap_i64]; omega
  clear hpart
  rw [Go.Conc.enter_at _ Try.func33 rfl]
  simp only [AtHead, L33, E33, body33, Try.f33, Option.getD_some, List.size_toArray, List.length_cons, List.length_nil, Nat.reduceAdd, Nat.reduceSub, Array.replicate_succ, Array.replicate_zero, List.push_toArray, List.append_toArray, List.nil_append, List.cons_append]
  refine Way.ctl (t0 f) rfl (fun _ => stepG_seq) ?_
  refine Way.ctl (t0 f) rfl (fun _ => stepG_region) ?_
  simp only [List.size_toArray, List.length_cons, List.length_nil, Nat.reduceAdd, Nat.zero_add, List.range, List.range.loop]
  refine Way.step rfl (fun w₁ h₁ => ?_)
  replace hF := hF.r0 h₁
  clear h₁
  refine goes_oper_k rfl rfl (by k_ne) (fun K hK => ?_)
  go_simp
  refine hK _ _ ⟨by rw [listed_nil (by simp [go_sem, *])]; exact fun e he => by simp at he, ?_⟩
  clear hK K
  simp only [hF.size]
  replace hF := hF.alloc (.cells #[.pointer (some sa)] 66)
  refine Way.step rfl (fun w₁ h₁ => ?_)
  replace hF := hF.r0 h₁
  clear h₁
  refine goes_oper_k rfl rfl (by k_ne) (fun K hK => ?_)
  go_simp
  refine hK _ _ ⟨by rw [listed_nil (by simp [go_sem, *])]; exact fun e he => by simp at he, ?_⟩
  clear hK K
  simp only [hF.size]
  replace hF := hF.alloc (.cells #[.slice (some f.lb) f.n f.cap] 23)
  refine Way.step rfl (fun w₁ h₁ => ?_)
  replace hF := hF.r0 h₁
  clear h₁
  refine goes_oper_k rfl rfl (by k_ne) (fun K hK => ?_)
  go_simp
  refine hK _ _ ⟨by rw [listed_nil (by simp [go_sem, *])]; exact fun e he => by simp at he, ?_⟩
  clear hK K
  refine Way.ctl (t0 f) rfl (fun _ => stepG_region_end) ?_
  refine Way.ctl (t0 f) rfl (fun _ => stepG_seq) ?_
  refine Way.ctl (t0 f) rfl (fun _ => stepG_region) ?_
  simp only [List.size_toArray, List.length_cons, List.length_nil, Nat.reduceAdd, Nat.zero_add, List.range, List.range.loop]
  refine Way.step rfl (fun w₁ h₁ => ?_)
  replace hF := hF.r0 h₁
  clear h₁
  refine goes_oper_k rfl rfl (by k_ne) (fun K hK => ?_)
  have hl := hF.cell (i := 1) (v := .slice (some f.lb) f.n f.cap) (T := 23) (by omega) (by simp [upd])
  go_simp
  refine hK _ _ ⟨by rw [listed_cell (ad := ⟨f.z + 1, 0, none⟩) (wr := false) loud33 (by simp [go_sem, hl])]; exact d0_cell hO (by omega) (by omega) _ _ false, ?_⟩
  clear hK K hl
  refine Way.step rfl (fun w₁ h₁ => ?_)
  replace hF := hF.r0 h₁
  clear h₁
  refine goes_oper_k rfl rfl (by k_ne) (fun K hK => ?_)
  go_simp
  refine hK _ _ ⟨by rw [listed_nil (by simp [go_sem, *])]; exact fun e he => by simp at he, ?_⟩
  clear hK K
  refine Way.step rfl (fun w₁ h₁ => ?_)
  replace hF := hF.r0 h₁
  clear h₁
  refine goes_oper_k rfl rfl (by k_ne) (fun K hK => ?_)
  have hm := mk22 f.n w₁ hroom
  go_simp
  refine hK _ _ ⟨d0_room _ _ (fun e he => by have := mem_listed he; simp [go_sem] at this; exact mk22_ev f.n w₁ hroom e this), ?_⟩
  clear hK K hm
  simp only [hF.size]
  replace hF := hF.alloc (.cells (madeCells #[.int .i64 0] f.n) 3)
  refine Way.step rfl (fun w₁ h₁ => ?_)
  replace hF := hF.r0 h₁
  clear h₁
  refine goes_oper_k rfl rfl (by k_ne) (fun K hK => ?_)
  go_simp
  refine hK _ _ ⟨by rw [listed_nil (by simp [go_sem, *])]; exact fun e he => by simp at he, ?_⟩
  clear hK K
  simp only [hF.size]
  replace hF := hF.alloc (.cells #[.slice none 0 0] 22)
  refine Way.step rfl (fun w₁ h₁ => ?_)
  replace hF := hF.r0 h₁
  clear h₁
  refine goes_oper_k rfl rfl (by k_ne) (fun K hK => ?_)
  have hl := hF.cell (i := 3) (v := .slice none 0 0) (T := 22) (by omega) (by simp [upd])
  have hz := hF.thaw (i := 3) (v := .slice none 0 0) (T := 22) (by omega) (by simp [upd])
  go_simp
  refine hK _ _ ⟨by rw [listed_cell (ad := ⟨f.z + 3, 0, none⟩) (wr := true) loud33 (by simp [go_sem, storedEv, hl, hz])]; exact d0_cell hO (by omega) (by omega) _ _ true, ?_⟩
  clear hK K hl hz
  replace hF := hF.store (i := 3) (v := .slice none 0 0) (v' := .slice (some ⟨f.z + 2, 0, none⟩) f.n f.n) (T := 22) (by omega) (by simp [upd])
  refine Way.ctl (t0 f) rfl (fun _ => stepG_region_end) ?_
  refine Way.ctl (t0 f) rfl (fun _ => stepG_seq) ?_
  refine Way.ctl (t0 f) rfl (fun _ => stepG_region) ?_
  simp only [List.size_toArray, List.length_cons, List.length_nil, Nat.reduceAdd, Nat.zero_add, List.range, List.range.loop]
  refine Way.step rfl (fun w₁ h₁ => ?_)
  replace hF := hF.r0 h₁
  clear h₁
  refine goes_oper_k rfl rfl (by k_ne) (fun K hK => ?_)
  have hl := hF.cell (i := 1) (v := .slice (some f.lb) f.n f.cap) (T := 23) (by omega) (by simp [upd])
  go_simp
  refine hK _ _ ⟨by rw [listed_cell (ad := ⟨f.z + 1, 0, none⟩) (wr := false) loud33 (by simp [go_sem, hl])]; exact d0_cell hO (by omega) (by omega) _ _ false, ?_⟩
  clear hK K hl
  refine Way.step rfl (fun w₁ h₁ => ?_)
  replace hF := hF.r0 h₁
  clear h₁
  refine goes_oper_k rfl rfl (by k_ne) (fun K hK => ?_)
  go_simp
  refine hK _ _ ⟨by rw [listed_nil (by simp [go_sem, *])]; exact fun e he => by simp at he, ?_⟩
  clear hK K
  refine Way.step rfl (fun w₁ h₁ => ?_)
  replace hF := hF.r0 h₁
  clear h₁
  refine goes_oper_k rfl rfl (by k_ne) (fun K hK => ?_)
  go_simp
  refine hK _ _ ⟨by rw [listed_nil (by simp [go_sem, *])]; exact fun e he => by simp at he, ?_⟩
  clear hK K
  refine Way.step rfl (fun w₁ h₁ => ?_)
  replace hF := hF.r0 h₁
  clear h₁
  refine goes_oper_k rfl rfl (by k_ne) (fun K hK => ?_)
  go_simp
  refine hK _ _ ⟨by rw [listed_nil (by simp [go_sem, *])]; exact fun e he => by simp at he, ?_⟩
  clear hK K
  refine Way.step rfl (fun w₁ h₁ => ?_)
  replace hF := hF.r0 h₁
  clear h₁
  refine goes_oper_k rfl rfl (by k_ne) (fun K hK => ?_)
  go_simp
  refine hK _ _ ⟨by rw [listed_nil (by simp [go_sem, *])]; exact fun e he => by simp at he, ?_⟩
  clear hK K
  refine Way.step rfl (fun w₁ h₁ => ?_)
  replace hF := hF.r0 h₁
  clear h₁
  refine goes_oper_k rfl rfl (by k_ne) (fun K hK => ?_)
  go_simp
  refine hK _ _ ⟨by rw [listed_nil (by simp [go_sem, *])]; exact fun e he => by simp at he, ?_⟩
  clear hK K
  refine Way.ctl (t0 f) rfl (fun _ => stepG_region_end) ?_
  refine Way.ctl (t0 f) rfl (fun _ => stepG_seq) ?_
  refine Way.ctl (t0 f) rfl (fun _ => stepG_region) ?_
  simp only [List.size_toArray, List.length_cons, List.length_nil, Nat.reduceAdd, Nat.zero_add, List.range, List.range.loop]
  refine Way.step rfl (fun w₁ h₁ => ?_)
  replace hF := hF.r0 h₁
  clear h₁
  refine goes_oper_k rfl rfl (by k_ne) (fun K hK => ?_)
  go_simp
  refine hK _ _ ⟨by rw [listed_nil (by simp [go_sem, *])]; exact fun e he => by simp at he, ?_⟩
  clear hK K
  simp only [hF.size]
  replace hF := hF.alloc (.cells #[.int .u64 0, .int .u32 0] 82)
  refine Way.ctl (t0 f) rfl (fun _ => stepG_region_end) ?_
  refine Way.ctl (t0 f) rfl (fun _ => stepG_seq) ?_
  refine Way.ctl (t0 f) rfl (fun _ => stepG_seq) ?_
  refine Way.ctl (t0 f) rfl (fun _ => stepG_region) ?_
  simp only [List.size_toArray, List.length_cons, List.length_nil, Nat.reduceAdd, Nat.zero_add, List.range, List.range.loop]
  refine Way.step rfl (fun w₁ h₁ => ?_)
  replace hF := hF.r0 h₁
  clear h₁
  refine goes_oper_k rfl rfl (by k_ne) (fun K hK => ?_)
  go_simp
  refine hK _ _ ⟨by rw [listed_nil (by simp [go_sem, *])]; exact fun e he => by simp at he, ?_⟩
  clear hK K
  simp only [hF.size]
  replace hF := hF.alloc (.cells #[.int .i64 0] 3)
  refine Way.step rfl (fun w₁ h₁ => ?_)
  replace hF := hF.r0 h₁
  clear h₁
  refine goes_oper_k rfl rfl (by k_ne) (fun K hK => ?_)
  have hl := hF.cell (i := 5) (v := .int .i64 0) (T := 3) (by omega) (by simp [upd])
  have hz := hF.thaw (i := 5) (v := .int .i64 0) (T := 3) (by omega) (by simp [upd])
  go_simp
  refine hK _ _ ⟨by rw [listed_cell (ad := ⟨f.z + 5, 0, none⟩) (wr := true) loud33 (by simp [go_sem, storedEv, hl, hz])]; exact d0_cell hO (by omega) (by omega) _ _ true, ?_⟩
  clear hK K hl hz
  replace hF := hF.store (i := 5) (v := .int .i64 0) (v' := .int .i64 0) (T := 3) (by omega) (by simp [upd])
  refine Way.ctl (t0 f) rfl (fun _ => stepG_region_end) ?_
  refine Way.ctl (t0 f) rfl (fun _ => stepG_block) ?_
  refine Way.ctl (t0 f) rfl (fun _ => stepG_loop) ?_
  refine .stop fun w₁ h₁ => ?_
  replace hF := hF.r0 h₁
  exact ⟨⟨_, rfl, rfl, rfl, rfl, rfl, by simp, rfl, rfl⟩, _, hF, by simp [upd, hS], by simp [upd], by simp [upd], by simp [upd], by simp [upd, wgBlock], by simp [upd, FA.fr]⟩
end Go.Proofs.Ytpioacgknamemaa
