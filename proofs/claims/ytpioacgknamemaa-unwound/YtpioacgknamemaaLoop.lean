/- FindAll's loop: one round of it, up to the go statement, and behind it. -/
import Derived.Test.YtpioacgknamemaaPre
import Derived.Test.YtpioacgknamemaaWg
set_option linter.unusedSectionVars false
set_option linter.unusedSimpArgs false
namespace Go.Proofs.Ytpioacgknamemaa
open Go Go.RowKit Go.Conc Go.ConcN Go.ConcN.Gen Go.Conc.Lib Go.ConcR.Gen
open Go.ConcR (KK wgBlock WgAt stA smA rd wr mk ofEvent_cell Payload Aside2 DC0)

theorem arr36 (T : Array Value) (h : T.size = 36) : ∃ v0 v1 v2 v3 v4 v5 v6 v7 v8 v9 v10 v11 v12 v13 v14 v15 v16 v17 v18 v19 v20 v21 v22 v23 v24 v25 v26 v27 v28 v29 v30 v31 v32 v33 v34 v35 : Value, T = #[v0, v1, v2, v3, v4, v5, v6, v7, v8, v9, v10, v11, v12, v13, v14, v15, v16, v17, v18, v19, v20, v21, v22, v23, v24, v25, v26, v27, v28, v29, v30, v31, v32, v33, v34, v35] := by
  obtain ⟨l⟩ := T
  simp only [List.size_toArray] at h
  rcases l with _ | ⟨v0, l⟩
  · simp at h
  rcases l with _ | ⟨v1, l⟩
  · simp at h
  rcases l with _ | ⟨v2, l⟩
  · simp at h
  rcases l with _ | ⟨v3, l⟩
  · simp at h
  rcases l with _ | ⟨v4, l⟩
  · simp at h
  rcases l with _ | ⟨v5, l⟩
  · simp at h
  rcases l with _ | ⟨v6, l⟩
  · simp at h
  rcases l with _ | ⟨v7, l⟩
  · simp at h
  rcases l with _ | ⟨v8, l⟩
  · simp at h
  rcases l with _ | ⟨v9, l⟩
  · simp at h
  rcases l with _ | ⟨v10, l⟩
  · simp at h
  rcases l with _ | ⟨v11, l⟩
  · simp at h
  rcases l with _ | ⟨v12, l⟩
  · simp at h
  rcases l with _ | ⟨v13, l⟩
  · simp at h
  rcases l with _ | ⟨v14, l⟩
  · simp at h
  rcases l with _ | ⟨v15, l⟩
  · simp at h
  rcases l with _ | ⟨v16, l⟩
  · simp at h
  rcases l with _ | ⟨v17, l⟩
  · simp at h
  rcases l with _ | ⟨v18, l⟩
  · simp at h
  rcases l with _ | ⟨v19, l⟩
  · simp at h
  rcases l with _ | ⟨v20, l⟩
  · simp at h
  rcases l with _ | ⟨v21, l⟩
  · simp at h
  rcases l with _ | ⟨v22, l⟩
  · simp at h
  rcases l with _ | ⟨v23, l⟩
  · simp at h
  rcases l with _ | ⟨v24, l⟩
  · simp at h
  rcases l with _ | ⟨v25, l⟩
  · simp at h
  rcases l with _ | ⟨v26, l⟩
  · simp at h
  rcases l with _ | ⟨v27, l⟩
  · simp at h
  rcases l with _ | ⟨v28, l⟩
  · simp at h
  rcases l with _ | ⟨v29, l⟩
  · simp at h
  rcases l with _ | ⟨v30, l⟩
  · simp at h
  rcases l with _ | ⟨v31, l⟩
  · simp at h
  rcases l with _ | ⟨v32, l⟩
  · simp at h
  rcases l with _ | ⟨v33, l⟩
  · simp at h
  rcases l with _ | ⟨v34, l⟩
  · simp at h
  rcases l with _ | ⟨v35, l⟩
  · simp at h
  rcases l with _ | ⟨x, l⟩
  · exact ⟨v0, v1, v2, v3, v4, v5, v6, v7, v8, v9, v10, v11, v12, v13, v14, v15, v16, v17, v18, v19, v20, v21, v22, v23, v24, v25, v26, v27, v28, v29, v30, v31, v32, v33, v34, v35, rfl⟩
  · simp at h

/-- What the starter knows at the loop's head. -/
def gh (f : FA) (i : Nat) : Nat → Option Obj := fun j => if j = 0 then some (.cells #[f.S] 66) else if j = 1 then some (.cells #[.slice (some f.lb) f.n f.cap] 23) else if j = 3 then some (.cells #[.slice (some ⟨f.z + 2, 0, none⟩) f.n f.n] 22) else if j = 5 + 4 * i then some (.cells #[.int .i64 (f.fr i : Nat)] 3) else none

theorem gh0 (f : FA) (i : Nat) : gh f i 0 = some (.cells #[f.S] 66) := rfl
theorem gh1 (f : FA) (i : Nat) : gh f i 1 = some (.cells #[.slice (some f.lb) f.n f.cap] 23) := rfl
theorem gh2 (f : FA) (i : Nat) : gh f i 2 = none := by unfold gh; rw [if_neg (by omega), if_neg (by omega), if_neg (by omega), if_neg (by omega)]
theorem gh3 (f : FA) (i : Nat) : gh f i 3 = some (.cells #[.slice (some ⟨f.z + 2, 0, none⟩) f.n f.n] 22) := rfl
theorem gh4 (f : FA) (i : Nat) : gh f i 4 = none := by unfold gh; rw [if_neg (by omega), if_neg (by omega), if_neg (by omega), if_neg (by omega)]
theorem ghi (f : FA) (i : Nat) : gh f i (5 + 4 * i) = some (.cells #[.int .i64 (f.fr i : Nat)] 3) := by unfold gh; rw [if_neg (by omega), if_neg (by omega), if_neg (by omega), if_pos rfl]

theorem min_ev (a b : Int) (w : World) (es : Array Event) : (Builtin.min_ #[3, 3] 3 #[.int .i64 a, .int .i64 b]).events Try.prog w es = es := by
  simp [Builtin.min_, Builtin.min2]

/-- .. and that the group's block is one. -/
structure FW (f : FA) (len : Nat) (g : Nat → Option Obj) (w : World) : Prop where
  fl : FL f len g w
  live : WgLive 82 (f.z + 4) w

section
variable {f : FA} {len i : Nat} {g : Nat → Option Obj} {w w₁ : World}
theorem FL.aside (h2 : g 2 = none) (h4 : g 4 = none) (h : FL f len g w) (r : Aside2 (f.z + 2) (f.z + 4) w w₁) : FL f len g w₁ := by
  refine ⟨r.size.trans h.size, fun x hx => (r.block x (by omega) (by omega)).trans (h.old x hx), fun i o hi hg => (r.block _ ?_ ?_).trans (h.at' i o hi hg), r.tape.trans h.tape, r.os.trans h.os, r.output.trans h.output⟩
  · intro e
    have : i = 2 := by omega
    subst this; rw [h2] at hg; cases hg
  · intro e
    have : i = 4 := by omega
    subst this; rw [h4] at hg; cases hg
theorem FW.rc (h2 : g 2 = none) (h4 : g 4 = none) (h : FW f len g w) (r : RC 82 (f.z + 4) (f.z + 2) w w₁) : FW f len g w₁ := ⟨h.fl.aside h2 h4 r.aside, r.live h.live⟩
theorem FW.size (h : FW f len g w) : w.heap.size = f.z + len := h.fl.size
theorem FW.cell {v : Value} {T : TypeId} (h : FW f len g w) (hi : i < len) (hg : g i = some (.cells #[v] T)) : w.cell? ⟨f.z + i, 0, none⟩ = some v := h.fl.cell hi hg
theorem FW.thaw {v : Value} {T : TypeId} (h : FW f len g w) (hi : i < len) (hg : g i = some (.cells #[v] T)) : w.frozen? ⟨f.z + i, 0, none⟩ = false := h.fl.thaw hi hg
theorem FW.alloc (h : FW f len g w) (o : Obj) : FW f (len + 1) (upd g len (some o)) (w.alloc o) := by
  refine ⟨h.fl.alloc o, ?_⟩
  obtain ⟨st, sm, x⟩ := h.live
  refine ⟨st, sm, x.of_block ?_⟩
  have hlt : f.z + 4 < w.heap.size := (Array.getElem?_eq_some_iff.1 x).1
  rw [World.alloc, Array.getElem?_push_lt hlt, ← Array.getElem?_eq_getElem]
theorem FW.store {v v' : Value} {T : TypeId} (h : FW f len g w) (hi : i < len) (h4 : i ≠ 4) (hg : g i = some (.cells #[v] T)) : FW f len (upd g i (some (.cells #[v'] T))) (w.setCell ⟨f.z + i, 0, none⟩ v') := by
  refine ⟨h.fl.store hi hg, ?_⟩
  obtain ⟨st, sm, x⟩ := h.live
  exact ⟨st, sm, x.of_block ((aside_setCell w ⟨f.z + i, 0, none⟩ v').block _ (by simp; omega))⟩
end

theorem ts (f : FA) (n : Nat) : Terms (RC 82 (f.z + 4) (f.z + 2)) (f.plan.DSt n) := ⟨fun _ _ _ h k => h.trans k, fun w => dst_none n w⟩

/-- .. and at the go statement. -/
def gs (f : FA) (i : Nat) : Nat → Option Obj := upd (upd (upd (upd (gh f i) (6 + 4 * i) (some (.cells #[.int .i64 0] 3))) (6 + 4 * i) (some (.cells #[.int .i64 (f.to i : Nat)] 3))) (6 + 4 * i + 1) (some (.cells #[ptr (f.z + 4)] 96))) (6 + 4 * i + 1 + 1) (some (.cells #[.func (.func 42) #[] #[ptr f.z, ptr (f.z + 1), ptr (f.z + (5 + 4 * i)), ptr (f.z + (6 + 4 * i)), ptr (f.z + 3)]] 1))

theorem gs2 (f : FA) (i : Nat) : gs f i 2 = none := by unfold gs; ((try simp only [upd]); (repeat first | rw [if_neg (by omega)] | rw [if_pos (by omega)]); first | rfl | exact gh0 f i | exact gh1 f i | exact gh2 f i | exact gh3 f i | exact gh4 f i | exact ghi f i)
theorem gs4 (f : FA) (i : Nat) : gs f i 4 = none := by unfold gs; ((try simp only [upd]); (repeat first | rw [if_neg (by omega)] | rw [if_pos (by omega)]); first | rfl | exact gh0 f i | exact gh1 f i | exact gh2 f i | exact gh3 f i | exact gh4 f i | exact ghi f i)

section
variable {f : FA} {i n : Nat} {w : World} {c : Frame} {cs : List Frame} {g : Goroutine} {Stop : Goroutine → World → Prop}

theorem FA.Ok.works' (hO : f.Ok) {S X : FuncId → Bool} (hT : Tame Try.prog S X) (h34 : S 34 = true) (hi : i < f.m) (h : f.WK i 0 w) : f.plan.Works (f.J0 + i) (born Try.prog (call60 (f.z + 7 + 4 * i) (f.z + 8 + 4 * i))) w := FA.works hO hT h34 hi h

theorem step_go60 {main : Bool} {b : Frame} {a : Act} {k : List Item} {cs : List Frame} {w : World} {ops : Array Oper} {i : Nat} {rest : List Nat} {o : Oper} {x : Operand} {gb gf : Nat} {ats : Array TypeId} (ho : ops[i]? = some o) (hw : Region.wanted o (yielded ops a.tmps) = true) (hk : b.kind ≠ .early) (hop : o.op = .go { callee := .value x, args := #[], argTypes := ats }) (hx : a.eval x = .func (.func 60) #[] #[ptr gb, ptr gf]) (hd : o.dst = none) :
    stepG Try.prog main (G (b.at a (.inRegion ops (i :: rest) :: k)) cs) w = .spawn (G (b.at a (.inRegion ops rest :: k)) cs) (born Try.prog (call60 gb gf)) w #[] := by
  have hr : (execOp a.eval o).run Try.prog w = .ok (.spawn (call60 gb gf)) w := by
    unfold execOp
    simp [hop, resolve, Deferred.ofValue, hx, call60]
  have he : (execOp a.eval o).events Try.prog w #[] = #[] := by
    unfold execOp
    simp [hop, resolve, Deferred.ofValue, hx]
  have e : listed Try.prog b.fn a o w = #[] := by unfold listed; rw [he]; exact seen_none _ _
  rw [stepG_spawn ho hw hk hr rfl, e, hd]
  rfl

noncomputable def ops33 : Array Oper := match L33 with | .seq _ (.seq (.block _ (.seq _ (.region _ o _))) _) => o | _ => #[]
noncomputable def X33 : Code := match L33 with | .seq _ (.seq _ x) => x | _ => .skip
noncomputable def ops41 : Array Oper := match Try.f41.body with | some (.seq _ (.seq _ (.region _ o _))) => o | _ => #[]
/-- Right behind the go statement. -/
def AfterGo (f : FA) (i : Nat) (c : Frame) (cs : List Frame) (g : Goroutine) : Prop :=
  ∃ (T41 TT : Array Value), g = G ((base 41).at ⟨T41, []⟩ [.inRegion ops41 []]) ((base 33).at ⟨TT, []⟩ [.inRegion ops33 [1], .inBlock 1, .code X33, .inLoop L33, .inBlock 0, .code E33] :: c :: cs) ∧ TT.size = 36 ∧ TT[2]? = some (ptr f.z) ∧ TT[3]? = some (ptr (f.z + 1)) ∧ TT[5]? = some (ptr (f.z + 3)) ∧ TT[6]? = some (.int .i64 f.part) ∧
    TT[7]? = some (ptr (f.z + 4)) ∧ TT[8]? = some (ptr (f.z + (5 + 4 * i)))

set_option maxRecDepth 100000 in
set_option maxHeartbeats 4000000 in
/-- From the loop's head into Add. -/
theorem round_a (hO : f.Ok) (hroom : 8 * f.n ≤ 281474976710656) (hpn : f.part ≤ f.n) (hi : i < f.m) (hn : n = f.J0 + i) (hg : AtHead f i c cs g) (hF : FW f (6 + 4 * i) (gh f i) w) {Next : Goroutine → World → Prop}
    (hN : ∀ g w, AfterGo f i c cs g → FW f (6 + 4 * i + 1 + 1 + 1) (gs f i) w → Next g w) {S X : FuncId → Bool} (hT : Tame Try.prog S X) (h34 : S 34 = true) : f.plan.GoTo n (f.plan.SPd n Next) g w := by
  obtain ⟨TT, rfl, hT, t2, t3, t5, t6, t7, t8⟩ := hg
  obtain ⟨v0, v1, v2, v3, v4, v5, v6, v7, v8, v9, v10, v11, v12, v13, v14, v15, v16, v17, v18, v19, v20, v21, v22, v23, v24, v25, v26, v27, v28, v29, v30, v31, v32, v33, v34, v35, rfl⟩ := arr36 TT hT
  simp only [List.getElem?_toArray, List.getElem?_cons_succ, List.getElem?_cons_zero, Option.some.injEq] at t2 t3 t5 t6 t7 t8
  subst t2 t3 t5 t6 t7 t8
  clear hT
  have hlt : (f.fr i : Int) < (f.n : Int) := by have := hO.m1 i hi; omega
  have e1 : IntKind.i64.wrap ((f.fr i : Int) + (f.part : Int)) = (f.fr i : Int) + (f.part : Int) := by rw [IntKind.wrap_i64]; omega
  have e2 : (if (f.n : Int) < (f.fr i : Int) + (f.part : Int) then (f.n : Int) else (f.fr i : Int) + (f.part : Int)) = ((f.to i : Nat) : Int) := by
    have ht : f.to i = min (f.fr i + f.part) f.n := rfl
    by_cases hx : (f.n : Int) < (f.fr i : Int) + (f.part : Int)
    · rw [if_pos hx]; omega
    · rw [if_neg hx]; omega
  simp only [L33, E33, body33, Try.f33, Option.getD_some]
  show Way Try.prog true (RC 82 (f.z + 4) (f.z + 2)) (f.plan.DSt n) (f.plan.SPd n Next) _ _
  refine Way.ctl (ts f n) rfl (fun _ => stepG_seq) ?_
  refine Way.ctl (ts f n) rfl (fun _ => stepG_seq) ?_
  refine Way.ctl (ts f n) rfl (fun _ => stepG_region) ?_
  simp only [List.size_toArray, List.length_cons, List.length_nil, Nat.reduceAdd, Nat.zero_add, List.range, List.range.loop]
  refine Way.step rfl (fun w₁ h₁ => ?_)
  replace hF := hF.rc (by ((try simp only [upd]); (repeat first | rw [if_neg (by omega)] | rw [if_pos (by omega)]); first | rfl | exact gh0 f i | exact gh1 f i | exact gh2 f i | exact gh3 f i | exact gh4 f i | exact ghi f i)) (by ((try simp only [upd]); (repeat first | rw [if_neg (by omega)] | rw [if_pos (by omega)]); first | rfl | exact gh0 f i | exact gh1 f i | exact gh2 f i | exact gh3 f i | exact gh4 f i | exact ghi f i)) h₁
  clear h₁
  refine goes_oper_k rfl rfl (by k_ne) (fun K hK => ?_)
  have hl := hF.cell (i := 5 + 4 * i) (v := .int .i64 (f.fr i : Nat)) (T := 3) (by omega) (by ((try simp only [upd]); (repeat first | rw [if_neg (by omega)] | rw [if_pos (by omega)]); first | rfl | exact gh0 f i | exact gh1 f i | exact gh2 f i | exact gh3 f i | exact gh4 f i | exact ghi f i))
  go_simp
  refine hK _ _ ⟨by rw [listed_cell (ad := ⟨f.z + (5 + 4 * i), 0, none⟩) (wr := false) loud33 (by simp [go_sem, hl])]; exact dst_read hO (by omega) (by omega) (by omega) _, ?_⟩
  clear hK K hl
  refine Way.step rfl (fun w₁ h₁ => ?_)
  replace hF := hF.rc (by ((try simp only [upd]); (repeat first | rw [if_neg (by omega)] | rw [if_pos (by omega)]); first | rfl | exact gh0 f i | exact gh1 f i | exact gh2 f i | exact gh3 f i | exact gh4 f i | exact ghi f i)) (by ((try simp only [upd]); (repeat first | rw [if_neg (by omega)] | rw [if_pos (by omega)]); first | rfl | exact gh0 f i | exact gh1 f i | exact gh2 f i | exact gh3 f i | exact gh4 f i | exact ghi f i)) h₁
  clear h₁
  refine goes_oper_k rfl rfl (by k_ne) (fun K hK => ?_)
  have hl := hF.cell (i := 1) (v := .slice (some f.lb) f.n f.cap) (T := 23) (by omega) (by ((try simp only [upd]); (repeat first | rw [if_neg (by omega)] | rw [if_pos (by omega)]); first | rfl | exact gh0 f i | exact gh1 f i | exact gh2 f i | exact gh3 f i | exact gh4 f i | exact ghi f i))
  go_simp
  refine hK _ _ ⟨by rw [listed_cell (ad := ⟨f.z + (1), 0, none⟩) (wr := false) loud33 (by simp [go_sem, hl])]; exact dst_read hO (by omega) (by omega) (by omega) _, ?_⟩
  clear hK K hl
  refine Way.step rfl (fun w₁ h₁ => ?_)
  replace hF := hF.rc (by ((try simp only [upd]); (repeat first | rw [if_neg (by omega)] | rw [if_pos (by omega)]); first | rfl | exact gh0 f i | exact gh1 f i | exact gh2 f i | exact gh3 f i | exact gh4 f i | exact ghi f i)) (by ((try simp only [upd]); (repeat first | rw [if_neg (by omega)] | rw [if_pos (by omega)]); first | rfl | exact gh0 f i | exact gh1 f i | exact gh2 f i | exact gh3 f i | exact gh4 f i | exact ghi f i)) h₁
  clear h₁
  refine goes_oper_k rfl rfl (by k_ne) (fun K hK => ?_)
  go_simp
  refine hK _ _ ⟨by rw [listed_nil (by simp [go_sem, min_ev, *])]; exact dst_none _ _, ?_⟩
  clear hK K
  refine Way.step rfl (fun w₁ h₁ => ?_)
  replace hF := hF.rc (by ((try simp only [upd]); (repeat first | rw [if_neg (by omega)] | rw [if_pos (by omega)]); first | rfl | exact gh0 f i | exact gh1 f i | exact gh2 f i | exact gh3 f i | exact gh4 f i | exact ghi f i)) (by ((try simp only [upd]); (repeat first | rw [if_neg (by omega)] | rw [if_pos (by omega)]); first | rfl | exact gh0 f i | exact gh1 f i | exact gh2 f i | exact gh3 f i | exact gh4 f i | exact ghi f i)) h₁
  clear h₁
  refine goes_oper_k rfl rfl (by k_ne) (fun K hK => ?_)
  go_simp
  refine hK _ _ ⟨by rw [listed_nil (by simp [go_sem, min_ev, *])]; exact dst_none _ _, ?_⟩
  clear hK K
  refine Way.ctl (ts f n) rfl (fun _ => stepG_region_end) ?_
  refine Way.ctl (ts f n) rfl (fun _ => stepG_cond (t := true) rfl) ?_
  simp only [if_true, if_false, Bool.false_eq_true, ↓reduceIte]
  refine Way.ctl (ts f n) rfl (fun _ => stepG_skip) ?_
  refine Way.ctl (ts f n) rfl (fun _ => stepG_seq) ?_
  refine Way.ctl (ts f n) rfl (fun _ => stepG_block) ?_
  refine Way.ctl (ts f n) rfl (fun _ => stepG_seq) ?_
  refine Way.ctl (ts f n) rfl (fun _ => stepG_region) ?_
  simp only [List.size_toArray, List.length_cons, List.length_nil, Nat.reduceAdd, Nat.zero_add, List.range, List.range.loop]
  refine Way.step rfl (fun w₁ h₁ => ?_)
  replace hF := hF.rc (by ((try simp only [upd]); (repeat first | rw [if_neg (by omega)] | rw [if_pos (by omega)]); first | rfl | exact gh0 f i | exact gh1 f i | exact gh2 f i | exact gh3 f i | exact gh4 f i | exact ghi f i)) (by ((try simp only [upd]); (repeat first | rw [if_neg (by omega)] | rw [if_pos (by omega)]); first | rfl | exact gh0 f i | exact gh1 f i | exact gh2 f i | exact gh3 f i | exact gh4 f i | exact ghi f i)) h₁
  clear h₁
  refine goes_oper_k rfl rfl (by k_ne) (fun K hK => ?_)
  have hl := hF.cell (i := 5 + 4 * i) (v := .int .i64 (f.fr i : Nat)) (T := 3) (by omega) (by ((try simp only [upd]); (repeat first | rw [if_neg (by omega)] | rw [if_pos (by omega)]); first | rfl | exact gh0 f i | exact gh1 f i | exact gh2 f i | exact gh3 f i | exact gh4 f i | exact ghi f i))
  go_simp
  refine hK _ _ ⟨by rw [listed_cell (ad := ⟨f.z + (5 + 4 * i), 0, none⟩) (wr := false) loud33 (by simp [go_sem, hl])]; exact dst_read hO (by omega) (by omega) (by omega) _, ?_⟩
  clear hK K hl
  refine Way.step rfl (fun w₁ h₁ => ?_)
  replace hF := hF.rc (by ((try simp only [upd]); (repeat first | rw [if_neg (by omega)] | rw [if_pos (by omega)]); first | rfl | exact gh0 f i | exact gh1 f i | exact gh2 f i | exact gh3 f i | exact gh4 f i | exact ghi f i)) (by ((try simp only [upd]); (repeat first | rw [if_neg (by omega)] | rw [if_pos (by omega)]); first | rfl | exact gh0 f i | exact gh1 f i | exact gh2 f i | exact gh3 f i | exact gh4 f i | exact ghi f i)) h₁
  clear h₁
  refine goes_oper_k rfl rfl (by k_ne) (fun K hK => ?_)
  go_simp
  refine hK _ _ ⟨by rw [listed_nil (by simp [go_sem, min_ev, *])]; exact dst_none _ _, ?_⟩
  clear hK K
  refine Way.step rfl (fun w₁ h₁ => ?_)
  replace hF := hF.rc (by ((try simp only [upd]); (repeat first | rw [if_neg (by omega)] | rw [if_pos (by omega)]); first | rfl | exact gh0 f i | exact gh1 f i | exact gh2 f i | exact gh3 f i | exact gh4 f i | exact ghi f i)) (by ((try simp only [upd]); (repeat first | rw [if_neg (by omega)] | rw [if_pos (by omega)]); first | rfl | exact gh0 f i | exact gh1 f i | exact gh2 f i | exact gh3 f i | exact gh4 f i | exact ghi f i)) h₁
  clear h₁
  refine goes_oper_k rfl rfl (by k_ne) (fun K hK => ?_)
  go_simp
  refine hK _ _ ⟨by rw [listed_nil (by simp [go_sem, min_ev, *])]; exact dst_none _ _, ?_⟩
  clear hK K
  refine Way.step rfl (fun w₁ h₁ => ?_)
  replace hF := hF.rc (by ((try simp only [upd]); (repeat first | rw [if_neg (by omega)] | rw [if_pos (by omega)]); first | rfl | exact gh0 f i | exact gh1 f i | exact gh2 f i | exact gh3 f i | exact gh4 f i | exact ghi f i)) (by ((try simp only [upd]); (repeat first | rw [if_neg (by omega)] | rw [if_pos (by omega)]); first | rfl | exact gh0 f i | exact gh1 f i | exact gh2 f i | exact gh3 f i | exact gh4 f i | exact ghi f i)) h₁
  clear h₁
  refine goes_oper_k rfl rfl (by k_ne) (fun K hK => ?_)
  have hl := hF.cell (i := 1) (v := .slice (some f.lb) f.n f.cap) (T := 23) (by omega) (by ((try simp only [upd]); (repeat first | rw [if_neg (by omega)] | rw [if_pos (by omega)]); first | rfl | exact gh0 f i | exact gh1 f i | exact gh2 f i | exact gh3 f i | exact gh4 f i | exact ghi f i))
  go_simp
  refine hK _ _ ⟨by rw [listed_cell (ad := ⟨f.z + (1), 0, none⟩) (wr := false) loud33 (by simp [go_sem, hl])]; exact dst_read hO (by omega) (by omega) (by omega) _, ?_⟩
  clear hK K hl
  refine Way.step rfl (fun w₁ h₁ => ?_)
  replace hF := hF.rc (by ((try simp only [upd]); (repeat first | rw [if_neg (by omega)] | rw [if_pos (by omega)]); first | rfl | exact gh0 f i | exact gh1 f i | exact gh2 f i | exact gh3 f i | exact gh4 f i | exact ghi f i)) (by ((try simp only [upd]); (repeat first | rw [if_neg (by omega)] | rw [if_pos (by omega)]); first | rfl | exact gh0 f i | exact gh1 f i | exact gh2 f i | exact gh3 f i | exact gh4 f i | exact ghi f i)) h₁
  clear h₁
  refine goes_oper_k rfl rfl (by k_ne) (fun K hK => ?_)
  go_simp
  refine hK _ _ ⟨by rw [listed_nil (by simp [go_sem, min_ev, *])]; exact dst_none _ _, ?_⟩
  clear hK K
  refine Way.step rfl (fun w₁ h₁ => ?_)
  replace hF := hF.rc (by ((try simp only [upd]); (repeat first | rw [if_neg (by omega)] | rw [if_pos (by omega)]); first | rfl | exact gh0 f i | exact gh1 f i | exact gh2 f i | exact gh3 f i | exact gh4 f i | exact ghi f i)) (by ((try simp only [upd]); (repeat first | rw [if_neg (by omega)] | rw [if_pos (by omega)]); first | rfl | exact gh0 f i | exact gh1 f i | exact gh2 f i | exact gh3 f i | exact gh4 f i | exact ghi f i)) h₁
  clear h₁
  refine goes_oper_k rfl rfl (by k_ne) (fun K hK => ?_)
  go_simp
  refine hK _ _ ⟨by rw [listed_nil (by simp [go_sem, min_ev, *])]; exact dst_none _ _, ?_⟩
  clear hK K
  refine Way.step rfl (fun w₁ h₁ => ?_)
  replace hF := hF.rc (by ((try simp only [upd]); (repeat first | rw [if_neg (by omega)] | rw [if_pos (by omega)]); first | rfl | exact gh0 f i | exact gh1 f i | exact gh2 f i | exact gh3 f i | exact gh4 f i | exact ghi f i)) (by ((try simp only [upd]); (repeat first | rw [if_neg (by omega)] | rw [if_pos (by omega)]); first | rfl | exact gh0 f i | exact gh1 f i | exact gh2 f i | exact gh3 f i | exact gh4 f i | exact ghi f i)) h₁
  clear h₁
  refine goes_oper_k rfl rfl (by k_ne) (fun K hK => ?_)
  go_simp
  refine hK _ _ ⟨by rw [listed_nil (by simp [go_sem, *])]; exact dst_alloc hF.size (by omega) (by omega) _, ?_⟩
  clear hK K
  simp only [hF.size]
  replace hF := hF.alloc (.cells #[.int .i64 0] 3)
  refine Way.step rfl (fun w₁ h₁ => ?_)
  replace hF := hF.rc (by ((try simp only [upd]); (repeat first | rw [if_neg (by omega)] | rw [if_pos (by omega)]); first | rfl | exact gh0 f i | exact gh1 f i | exact gh2 f i | exact gh3 f i | exact gh4 f i | exact ghi f i)) (by ((try simp only [upd]); (repeat first | rw [if_neg (by omega)] | rw [if_pos (by omega)]); first | rfl | exact gh0 f i | exact gh1 f i | exact gh2 f i | exact gh3 f i | exact gh4 f i | exact ghi f i)) h₁
  clear h₁
  refine goes_oper_k rfl rfl (by k_ne) (fun K hK => ?_)
  have hl := hF.cell (i := 6 + 4 * i) (v := .int .i64 0) (T := 3) (by omega) (by ((try simp only [upd]); (repeat first | rw [if_neg (by omega)] | rw [if_pos (by omega)]); first | rfl | exact gh0 f i | exact gh1 f i | exact gh2 f i | exact gh3 f i | exact gh4 f i | exact ghi f i))
  have hz := hF.thaw (i := 6 + 4 * i) (v := .int .i64 0) (T := 3) (by omega) (by ((try simp only [upd]); (repeat first | rw [if_neg (by omega)] | rw [if_pos (by omega)]); first | rfl | exact gh0 f i | exact gh1 f i | exact gh2 f i | exact gh3 f i | exact gh4 f i | exact ghi f i))
  go_simp
  refine hK _ _ ⟨by rw [listed_cell (ad := ⟨f.z + (6 + 4 * i), 0, none⟩) (wr := true) loud33 (by simp [go_sem, storedEv, hl, hz])]; exact dst_write hO (by omega) (by omega) (by omega) _ _, ?_⟩
  clear hK K hl hz
  replace hF := hF.store (i := 6 + 4 * i) (v := .int .i64 0) (v' := .int .i64 (f.to i : Nat)) (T := 3) (by omega) (by omega) (by ((try simp only [upd]); (repeat first | rw [if_neg (by omega)] | rw [if_pos (by omega)]); first | rfl | exact gh0 f i | exact gh1 f i | exact gh2 f i | exact gh3 f i | exact gh4 f i | exact ghi f i))
  refine Way.ctl (ts f n) rfl (fun _ => stepG_region_end) ?_
  refine Way.ctl (ts f n) rfl (fun _ => stepG_region) ?_
  simp only [List.size_toArray, List.length_cons, List.length_nil, Nat.reduceAdd, Nat.zero_add, List.range, List.range.loop]
  refine Way.step rfl (fun w₁ h₁ => ?_)
  replace hF := hF.rc (by ((try simp only [upd]); (repeat first | rw [if_neg (by omega)] | rw [if_pos (by omega)]); first | rfl | exact gh0 f i | exact gh1 f i | exact gh2 f i | exact gh3 f i | exact gh4 f i | exact ghi f i)) (by ((try simp only [upd]); (repeat first | rw [if_neg (by omega)] | rw [if_pos (by omega)]); first | rfl | exact gh0 f i | exact gh1 f i | exact gh2 f i | exact gh3 f i | exact gh4 f i | exact ghi f i)) h₁
  clear h₁
  refine goes_oper_k rfl rfl (by k_ne) (fun K hK => ?_)
  go_simp
  refine hK _ _ ⟨by rw [listed_nil (by simp [go_sem, min_ev, *])]; exact dst_none _ _, ?_⟩
  clear hK K
  refine way_enter (ts f n) rfl rfl (by k_ne) rfl Try.func41 (by kernel_rfl) rfl ?_
  rw [Go.Conc.enter_at _ Try.func41 rfl]
  walk_nrm
  simp only [Try.ntmps41, List.size_toArray, List.length_cons, List.length_nil, Nat.reduceAdd, Nat.reduceSub, Array.replicate_succ, Array.replicate_zero, List.push_toArray, List.append_toArray, List.nil_append, List.cons_append]
  refine Way.ctl (ts f n) rfl (fun _ => stepG_seq) ?_
  refine Way.ctl (ts f n) rfl (fun _ => stepG_region) ?_
  simp only [List.size_toArray, List.length_cons, List.length_nil, Nat.reduceAdd, Nat.zero_add, List.range, List.range.loop]
  refine Way.step rfl (fun w₁ h₁ => ?_)
  replace hF := hF.rc (by ((try simp only [upd]); (repeat first | rw [if_neg (by omega)] | rw [if_pos (by omega)]); first | rfl | exact gh0 f i | exact gh1 f i | exact gh2 f i | exact gh3 f i | exact gh4 f i | exact ghi f i)) (by ((try simp only [upd]); (repeat first | rw [if_neg (by omega)] | rw [if_pos (by omega)]); first | rfl | exact gh0 f i | exact gh1 f i | exact gh2 f i | exact gh3 f i | exact gh4 f i | exact ghi f i)) h₁
  clear h₁
  refine goes_oper_k rfl rfl (by k_ne) (fun K hK => ?_)
  go_simp
  refine hK _ _ ⟨by rw [listed_nil (by simp [go_sem, *])]; exact dst_alloc hF.size (by omega) (by omega) _, ?_⟩
  clear hK K
  simp only [hF.size]
  replace hF := hF.alloc (.cells #[ptr (f.z + 4)] 96)
  refine Way.step rfl (fun w₁ h₁ => ?_)
  replace hF := hF.rc (by ((try simp only [upd]); (repeat first | rw [if_neg (by omega)] | rw [if_pos (by omega)]); first | rfl | exact gh0 f i | exact gh1 f i | exact gh2 f i | exact gh3 f i | exact gh4 f i | exact ghi f i)) (by ((try simp only [upd]); (repeat first | rw [if_neg (by omega)] | rw [if_pos (by omega)]); first | rfl | exact gh0 f i | exact gh1 f i | exact gh2 f i | exact gh3 f i | exact gh4 f i | exact ghi f i)) h₁
  clear h₁
  refine goes_oper_k rfl rfl (by k_ne) (fun K hK => ?_)
  go_simp
  refine hK _ _ ⟨by rw [listed_nil (by simp [go_sem, *])]; exact dst_alloc hF.size (by omega) (by omega) _, ?_⟩
  clear hK K
  simp only [hF.size]
  replace hF := hF.alloc (.cells #[.func (.func 42) #[] #[ptr f.z, ptr (f.z + 1), ptr (f.z + (5 + 4 * i)), ptr (f.z + (6 + 4 * i)), ptr (f.z + 3)]] 1)
  refine Way.ctl (ts f n) rfl (fun _ => stepG_region_end) ?_
  refine Way.ctl (ts f n) rfl (fun _ => stepG_seq) ?_
  refine Way.ctl (ts f n) rfl (fun _ => stepG_region) ?_
  simp only [List.size_toArray, List.length_cons, List.length_nil, Nat.reduceAdd, Nat.zero_add, List.range, List.range.loop]
  refine Way.step rfl (fun w₁ h₁ => ?_)
  replace hF := hF.rc (by ((try simp only [upd]); (repeat first | rw [if_neg (by omega)] | rw [if_pos (by omega)]); first | rfl | exact gh0 f i | exact gh1 f i | exact gh2 f i | exact gh3 f i | exact gh4 f i | exact ghi f i)) (by ((try simp only [upd]); (repeat first | rw [if_neg (by omega)] | rw [if_pos (by omega)]); first | rfl | exact gh0 f i | exact gh1 f i | exact gh2 f i | exact gh3 f i | exact gh4 f i | exact ghi f i)) h₁
  clear h₁
  refine goes_oper_k rfl rfl (by k_ne) (fun K hK => ?_)
  have hl := hF.cell (i := 6 + 4 * i + 1) (v := ptr (f.z + 4)) (T := 96) (by omega) (by ((try simp only [upd]); (repeat first | rw [if_neg (by omega)] | rw [if_pos (by omega)]); first | rfl | exact gh0 f i | exact gh1 f i | exact gh2 f i | exact gh3 f i | exact gh4 f i | exact ghi f i))
  go_simp
  refine hK _ _ ⟨by rw [listed_quiet (ad := ⟨f.z + (6 + 4 * i + 1), 0, none⟩) (wr := false) (by kernel_rfl) (by simp [go_sem, hl])]; exact dst_none _ _, ?_⟩
  clear hK K hl
  refine way_enter (ts f n) rfl rfl (by k_ne) rfl Try.func59 (by kernel_rfl) rfl ?_
  rw [Go.Conc.enter_at _ Try.func59 rfl]
  walk_nrm
  simp only [Try.ntmps59, List.size_toArray, List.length_cons, List.length_nil, Nat.reduceAdd, Nat.reduceSub, Array.replicate_succ, Array.replicate_zero, List.push_toArray, List.append_toArray, List.nil_append, List.cons_append]
  have hL : LowOk f.plan n (f.z + 5 + 4 * i) := ⟨fun k h1 h2 => by simp only [FA.plan] at h1 ⊢; omega, by simp only [FA.plan]; omega, by simp only [FA.plan]; omega⟩
  refine gd (p := f.plan) hL (fun g w => spd (p := f.plan) hL ?_) (addPos (L := link) (P := Try.prog) (C := f.z + 2) (Wg := f.z + 4) (F := FL f (6 + 4 * i + 1 + 1 + 1) (gs f i)) wgLib (fun w w' r h => h.aside (gs2 f i) (gs4 f i) r) _ ⟨hF.fl, hF.live⟩)
  clear hF
  rintro g w ⟨rfl, hF, hl⟩
  walk_nrm
  show Way Try.prog true (RC 82 (f.z + 4) (f.z + 2)) (f.plan.DSt n) (f.plan.SGo n Next) _ _
  replace hF : FW f (6 + 4 * i + 1 + 1 + 1) (gs f i) w := ⟨hF, hl⟩
  clear hl
  unfold gs at hF
  refine Way.ctl (ts f n) rfl (fun _ => stepG_region_end) ?_
  refine Way.ctl (ts f n) rfl (fun _ => stepG_region) ?_
  simp only [List.size_toArray, List.length_cons, List.length_nil, Nat.reduceAdd, Nat.zero_add, List.range, List.range.loop]
  refine Way.step rfl (fun w₁ h₁ => ?_)
  replace hF := hF.rc (by ((try simp only [upd]); (repeat first | rw [if_neg (by omega)] | rw [if_pos (by omega)]); first | rfl | exact gh0 f i | exact gh1 f i | exact gh2 f i | exact gh3 f i | exact gh4 f i | exact ghi f i)) (by ((try simp only [upd]); (repeat first | rw [if_neg (by omega)] | rw [if_pos (by omega)]); first | rfl | exact gh0 f i | exact gh1 f i | exact gh2 f i | exact gh3 f i | exact gh4 f i | exact ghi f i)) h₁
  clear h₁
  refine goes_oper_k rfl rfl (by k_ne) (fun K hK => ?_)
  go_simp
  refine hK _ _ ⟨by rw [listed_nil (by simp [go_sem, min_ev, *])]; exact dst_none _ _, ?_⟩
  clear hK K
  refine .stop fun w₁ h₁ => ?_
  replace hF := hF.rc (by ((try simp only [upd]); (repeat first | rw [if_neg (by omega)] | rw [if_pos (by omega)]); first | rfl | exact gh0 f i | exact gh1 f i | exact gh2 f i | exact gh3 f i | exact gh4 f i | exact ghi f i)) (by ((try simp only [upd]); (repeat first | rw [if_neg (by omega)] | rw [if_pos (by omega)]); first | rfl | exact gh0 f i | exact gh1 f i | exact gh2 f i | exact gh3 f i | exact gh4 f i | exact ghi f i)) h₁
  clear h₁
  refine ⟨rfl, _, _, step_go60 rfl rfl (by k_ne) rfl rfl rfl, rfl, fun hp hl => ?_, hN _ _ ⟨_, _, rfl, rfl, rfl, rfl, rfl, rfl, rfl, rfl⟩ hF⟩
  subst hn
  have e5 : f.z + (5 + 4 * i) = f.z + 5 + 4 * i := by omega
  have e6 : f.z + (6 + 4 * i) = f.z + 6 + 4 * i := by omega
  have e7 : f.z + (6 + 4 * i + 1) = f.z + 7 + 4 * i := by omega
  have e8 : f.z + (6 + 4 * i + 1 + 1) = f.z + 8 + 4 * i := by omega
  have k0 := hF.cell (i := 0) (v := f.S) (T := 66) (by omega) (by ((try simp only [upd]); (repeat first | rw [if_neg (by omega)] | rw [if_pos (by omega)]); first | rfl | exact gh0 f i | exact gh1 f i | exact gh2 f i | exact gh3 f i | exact gh4 f i | exact ghi f i))
  have k1 := hF.cell (i := 1) (v := .slice (some f.lb) f.n f.cap) (T := 23) (by omega) (by ((try simp only [upd]); (repeat first | rw [if_neg (by omega)] | rw [if_pos (by omega)]); first | rfl | exact gh0 f i | exact gh1 f i | exact gh2 f i | exact gh3 f i | exact gh4 f i | exact ghi f i))
  have k3 := hF.cell (i := 3) (v := .slice (some ⟨f.z + 2, 0, none⟩) f.n f.n) (T := 22) (by omega) (by ((try simp only [upd]); (repeat first | rw [if_neg (by omega)] | rw [if_pos (by omega)]); first | rfl | exact gh0 f i | exact gh1 f i | exact gh2 f i | exact gh3 f i | exact gh4 f i | exact ghi f i))
  have k5 := hF.cell (i := 5 + 4 * i) (v := .int .i64 (f.fr i : Nat)) (T := 3) (by omega) (by ((try simp only [upd]); (repeat first | rw [if_neg (by omega)] | rw [if_pos (by omega)]); first | rfl | exact gh0 f i | exact gh1 f i | exact gh2 f i | exact gh3 f i | exact gh4 f i | exact ghi f i))
  have k6 := hF.cell (i := 6 + 4 * i) (v := .int .i64 (f.to i : Nat)) (T := 3) (by omega) (by ((try simp only [upd]); (repeat first | rw [if_neg (by omega)] | rw [if_pos (by omega)]); first | rfl | exact gh0 f i | exact gh1 f i | exact gh2 f i | exact gh3 f i | exact gh4 f i | exact ghi f i))
  have k7 := hF.cell (i := 6 + 4 * i + 1) (v := ptr (f.z + 4)) (T := 96) (by omega) (by ((try simp only [upd]); (repeat first | rw [if_neg (by omega)] | rw [if_pos (by omega)]); first | rfl | exact gh0 f i | exact gh1 f i | exact gh2 f i | exact gh3 f i | exact gh4 f i | exact ghi f i))
  have k8 := hF.cell (i := 6 + 4 * i + 1 + 1) (v := .func (.func 42) #[] #[ptr f.z, ptr (f.z + 1), ptr (f.z + (5 + 4 * i)), ptr (f.z + (6 + 4 * i)), ptr (f.z + 3)]) (T := 1) (by omega) (by ((try simp only [upd]); (repeat first | rw [if_neg (by omega)] | rw [if_pos (by omega)]); first | rfl | exact gh0 f i | exact gh1 f i | exact gh2 f i | exact gh3 f i | exact gh4 f i | exact ghi f i))
  rw [e5] at k5
  rw [e6] at k6
  rw [e7] at k7
  rw [e5, e6, e8] at k8
  rw [e7, e8]
  exact hO.works' hT h34 hi ⟨hF.fl.old, k0, k1, k3, k5, k6, k7, k8, hF.live, hp, fun o o1 o2 => absurd o2 (by omega)⟩
end
end Go.Proofs.Ytpioacgknamemaa
set_option linter.unusedSectionVars false
set_option linter.unusedSimpArgs false
namespace Go.Proofs.Ytpioacgknamemaa
open Go Go.RowKit Go.Conc Go.ConcN Go.ConcN.Gen Go.Conc.Lib Go.ConcR.Gen
open Go.ConcR (KK wgBlock WgAt stA smA rd wr mk ofEvent_cell Payload Aside2 DC0)

section
variable {f : FA} {i n : Nat} {w : World} {c : Frame} {cs : List Frame} {g : Goroutine}

set_option maxRecDepth 100000 in
set_option maxHeartbeats 4000000 in
theorem round_b (hO : f.Ok) (hroom : 8 * f.n ≤ 281474976710656) (hpn : f.part ≤ f.n) (hi : i < f.m) (hn : n = f.J0 + i + 1) (hg : AfterGo f i c cs g) (hF : FW f (6 + 4 * i + 1 + 1 + 1) (gs f i) w) :
    Way Try.prog true (RC 82 (f.z + 4) (f.z + 2)) (f.plan.DSt n) (fun g w => AtHead f (i + 1) c cs g ∧ FW f (6 + 4 * (i + 1)) (gh f (i + 1)) w) g w := by
  obtain ⟨T41, TT, rfl, hT, t2, t3, t5, t6, t7, t8⟩ := hg
  obtain ⟨v0, v1, v2, v3, v4, v5, v6, v7, v8, v9, v10, v11, v12, v13, v14, v15, v16, v17, v18, v19, v20, v21, v22, v23, v24, v25, v26, v27, v28, v29, v30, v31, v32, v33, v34, v35, rfl⟩ := arr36 TT hT
  simp only [List.getElem?_toArray, List.getElem?_cons_succ, List.getElem?_cons_zero, Option.some.injEq] at t2 t3 t5 t6 t7 t8
  subst t2 t3 t5 t6 t7 t8
  clear hT
  have hlt := hO.m1 i hi
  have e1 : IntKind.i64.wrap ((f.fr i : Int) + (f.part : Int)) = ((f.fr (i + 1) : Nat) : Int) := by
    have : f.fr (i + 1) = f.fr i + f.part := by simp only [FA.fr]; rw [Nat.succ_mul]
    rw [this, IntKind.wrap_i64]; omega
  unfold gs at hF
  simp only [AtHead, ops33, ops41, X33, L33, E33, body33, Try.f33, Try.f41, Option.getD_some]
  refine Way.ctl (ts f n) rfl (fun _ => stepG_region_end) ?_
  refine Way.ctl (ts f n) rfl (fun _ => stepG_end) ?_
  refine Way.ctl (ts f n) rfl (fun w => by rw [stepG_leave rfl rfl Try.func41 (results_none rfl _ Try.prog w) (events_results_none rfl _ _), Frame.finish_at]) ?_
  walk_nrm
  refine Way.ctl (ts f n) rfl (fun _ => stepG_region_end) ?_
  refine Way.ctl (ts f n) rfl (fun _ => stepG_inBlock) ?_
  refine Way.ctl (ts f n) rfl (fun _ => stepG_seq) ?_
  refine Way.ctl (ts f n) rfl (fun _ => stepG_seq) ?_
  refine Way.ctl (ts f n) rfl (fun _ => stepG_region) ?_
  simp only [List.size_toArray, List.length_cons, List.length_nil, Nat.reduceAdd, Nat.zero_add, List.range, List.range.loop]
  refine Way.step rfl (fun w₁ h₁ => ?_)
  replace hF := hF.rc (by ((try simp only [upd]); (repeat first | rw [if_neg (by omega)] | rw [if_pos (by omega)]); first | rfl | exact gs2 f i | exact gs4 f i | exact gh0 f i | exact gh1 f i | exact gh2 f i | exact gh3 f i | exact gh4 f i | exact ghi f i)) (by ((try simp only [upd]); (repeat first | rw [if_neg (by omega)] | rw [if_pos (by omega)]); first | rfl | exact gs2 f i | exact gs4 f i | exact gh0 f i | exact gh1 f i | exact gh2 f i | exact gh3 f i | exact gh4 f i | exact ghi f i)) h₁
  clear h₁
  refine goes_oper_k rfl rfl (by k_ne) (fun K hK => ?_)
  have hl := hF.cell (i := 5 + 4 * i) (v := .int .i64 (f.fr i : Nat)) (T := 3) (by omega) (by ((try simp only [upd]); (repeat first | rw [if_neg (by omega)] | rw [if_pos (by omega)]); first | rfl | exact gs2 f i | exact gs4 f i | exact gh0 f i | exact gh1 f i | exact gh2 f i | exact gh3 f i | exact gh4 f i | exact ghi f i))
  go_simp
  refine hK _ _ ⟨by rw [listed_cell (ad := ⟨f.z + (5 + 4 * i), 0, none⟩) (wr := false) loud33 (by simp [go_sem, hl])]; exact dst_read hO (by omega) (by omega) (by omega) _, ?_⟩
  clear hK K hl
  refine Way.ctl (ts f n) rfl (fun _ => stepG_region_end) ?_
  refine Way.ctl (ts f n) rfl (fun _ => stepG_region) ?_
  simp only [List.size_toArray, List.length_cons, List.length_nil, Nat.reduceAdd, Nat.zero_add, List.range, List.range.loop]
  refine Way.step rfl (fun w₁ h₁ => ?_)
  replace hF := hF.rc (by ((try simp only [upd]); (repeat first | rw [if_neg (by omega)] | rw [if_pos (by omega)]); first | rfl | exact gs2 f i | exact gs4 f i | exact gh0 f i | exact gh1 f i | exact gh2 f i | exact gh3 f i | exact gh4 f i | exact ghi f i)) (by ((try simp only [upd]); (repeat first | rw [if_neg (by omega)] | rw [if_pos (by omega)]); first | rfl | exact gs2 f i | exact gs4 f i | exact gh0 f i | exact gh1 f i | exact gh2 f i | exact gh3 f i | exact gh4 f i | exact ghi f i)) h₁
  clear h₁
  refine goes_oper_k rfl rfl (by k_ne) (fun K hK => ?_)
  go_simp
  refine hK _ _ ⟨by rw [listed_nil (by simp [go_sem, *])]; exact dst_alloc hF.size (by omega) (by omega) _, ?_⟩
  clear hK K
  simp only [hF.size]
  replace hF := hF.alloc (.cells #[.int .i64 0] 3)
  refine Way.step rfl (fun w₁ h₁ => ?_)
  replace hF := hF.rc (by ((try simp only [upd]); (repeat first | rw [if_neg (by omega)] | rw [if_pos (by omega)]); first | rfl | exact gs2 f i | exact gs4 f i | exact gh0 f i | exact gh1 f i | exact gh2 f i | exact gh3 f i | exact gh4 f i | exact ghi f i)) (by ((try simp only [upd]); (repeat first | rw [if_neg (by omega)] | rw [if_pos (by omega)]); first | rfl | exact gs2 f i | exact gs4 f i | exact gh0 f i | exact gh1 f i | exact gh2 f i | exact gh3 f i | exact gh4 f i | exact ghi f i)) h₁
  clear h₁
  refine goes_oper_k rfl rfl (by k_ne) (fun K hK => ?_)
  have hl := hF.cell (i := 6 + 4 * i + 1 + 1 + 1) (v := .int .i64 0) (T := 3) (by omega) (by ((try simp only [upd]); (repeat first | rw [if_neg (by omega)] | rw [if_pos (by omega)]); first | rfl | exact gs2 f i | exact gs4 f i | exact gh0 f i | exact gh1 f i | exact gh2 f i | exact gh3 f i | exact gh4 f i | exact ghi f i))
  have hz := hF.thaw (i := 6 + 4 * i + 1 + 1 + 1) (v := .int .i64 0) (T := 3) (by omega) (by ((try simp only [upd]); (repeat first | rw [if_neg (by omega)] | rw [if_pos (by omega)]); first | rfl | exact gs2 f i | exact gs4 f i | exact gh0 f i | exact gh1 f i | exact gh2 f i | exact gh3 f i | exact gh4 f i | exact ghi f i))
  go_simp
  refine hK _ _ ⟨by rw [listed_cell (ad := ⟨f.z + (6 + 4 * i + 1 + 1 + 1), 0, none⟩) (wr := true) loud33 (by simp [go_sem, storedEv, hl, hz])]; exact dst_write hO (by omega) (by omega) (by omega) _ _, ?_⟩
  clear hK K hl hz
  replace hF := hF.store (i := 6 + 4 * i + 1 + 1 + 1) (v := .int .i64 0) (v' := .int .i64 (f.fr i : Nat)) (T := 3) (by omega) (by omega) (by ((try simp only [upd]); (repeat first | rw [if_neg (by omega)] | rw [if_pos (by omega)]); first | rfl | exact gs2 f i | exact gs4 f i | exact gh0 f i | exact gh1 f i | exact gh2 f i | exact gh3 f i | exact gh4 f i | exact ghi f i))
  refine Way.ctl (ts f n) rfl (fun _ => stepG_region_end) ?_
  refine Way.ctl (ts f n) rfl (fun _ => stepG_region) ?_
  simp only [List.size_toArray, List.length_cons, List.length_nil, Nat.reduceAdd, Nat.zero_add, List.range, List.range.loop]
  refine Way.step rfl (fun w₁ h₁ => ?_)
  replace hF := hF.rc (by ((try simp only [upd]); (repeat first | rw [if_neg (by omega)] | rw [if_pos (by omega)]); first | rfl | exact gs2 f i | exact gs4 f i | exact gh0 f i | exact gh1 f i | exact gh2 f i | exact gh3 f i | exact gh4 f i | exact ghi f i)) (by ((try simp only [upd]); (repeat first | rw [if_neg (by omega)] | rw [if_pos (by omega)]); first | rfl | exact gs2 f i | exact gs4 f i | exact gh0 f i | exact gh1 f i | exact gh2 f i | exact gh3 f i | exact gh4 f i | exact ghi f i)) h₁
  clear h₁
  refine goes_oper_k rfl rfl (by k_ne) (fun K hK => ?_)
  have hl := hF.cell (i := 6 + 4 * i + 1 + 1 + 1) (v := .int .i64 (f.fr i : Nat)) (T := 3) (by omega) (by ((try simp only [upd]); (repeat first | rw [if_neg (by omega)] | rw [if_pos (by omega)]); first | rfl | exact gs2 f i | exact gs4 f i | exact gh0 f i | exact gh1 f i | exact gh2 f i | exact gh3 f i | exact gh4 f i | exact ghi f i))
  go_simp
  refine hK _ _ ⟨by rw [listed_cell (ad := ⟨f.z + (6 + 4 * i + 1 + 1 + 1), 0, none⟩) (wr := false) loud33 (by simp [go_sem, hl])]; exact dst_read hO (by omega) (by omega) (by omega) _, ?_⟩
  clear hK K hl
  refine Way.step rfl (fun w₁ h₁ => ?_)
  replace hF := hF.rc (by ((try simp only [upd]); (repeat first | rw [if_neg (by omega)] | rw [if_pos (by omega)]); first | rfl | exact gs2 f i | exact gs4 f i | exact gh0 f i | exact gh1 f i | exact gh2 f i | exact gh3 f i | exact gh4 f i | exact ghi f i)) (by ((try simp only [upd]); (repeat first | rw [if_neg (by omega)] | rw [if_pos (by omega)]); first | rfl | exact gs2 f i | exact gs4 f i | exact gh0 f i | exact gh1 f i | exact gh2 f i | exact gh3 f i | exact gh4 f i | exact ghi f i)) h₁
  clear h₁
  refine goes_oper_k rfl rfl (by k_ne) (fun K hK => ?_)
  go_simp
  refine hK _ _ ⟨by rw [listed_nil (by simp [go_sem, min_ev, *])]; exact dst_none _ _, ?_⟩
  clear hK K
  refine Way.step rfl (fun w₁ h₁ => ?_)
  replace hF := hF.rc (by ((try simp only [upd]); (repeat first | rw [if_neg (by omega)] | rw [if_pos (by omega)]); first | rfl | exact gs2 f i | exact gs4 f i | exact gh0 f i | exact gh1 f i | exact gh2 f i | exact gh3 f i | exact gh4 f i | exact ghi f i)) (by ((try simp only [upd]); (repeat first | rw [if_neg (by omega)] | rw [if_pos (by omega)]); first | rfl | exact gs2 f i | exact gs4 f i | exact gh0 f i | exact gh1 f i | exact gh2 f i | exact gh3 f i | exact gh4 f i | exact ghi f i)) h₁
  clear h₁
  refine goes_oper_k rfl rfl (by k_ne) (fun K hK => ?_)
  go_simp
  refine hK _ _ ⟨by rw [listed_nil (by simp [go_sem, min_ev, *])]; exact dst_none _ _, ?_⟩
  clear hK K
  refine Way.step rfl (fun w₁ h₁ => ?_)
  replace hF := hF.rc (by ((try simp only [upd]); (repeat first | rw [if_neg (by omega)] | rw [if_pos (by omega)]); first | rfl | exact gs2 f i | exact gs4 f i | exact gh0 f i | exact gh1 f i | exact gh2 f i | exact gh3 f i | exact gh4 f i | exact ghi f i)) (by ((try simp only [upd]); (repeat first | rw [if_neg (by omega)] | rw [if_pos (by omega)]); first | rfl | exact gs2 f i | exact gs4 f i | exact gh0 f i | exact gh1 f i | exact gh2 f i | exact gh3 f i | exact gh4 f i | exact ghi f i)) h₁
  clear h₁
  refine goes_oper_k rfl rfl (by k_ne) (fun K hK => ?_)
  have hl := hF.cell (i := 6 + 4 * i + 1 + 1 + 1) (v := .int .i64 (f.fr i : Nat)) (T := 3) (by omega) (by ((try simp only [upd]); (repeat first | rw [if_neg (by omega)] | rw [if_pos (by omega)]); first | rfl | exact gs2 f i | exact gs4 f i | exact gh0 f i | exact gh1 f i | exact gh2 f i | exact gh3 f i | exact gh4 f i | exact ghi f i))
  have hz := hF.thaw (i := 6 + 4 * i + 1 + 1 + 1) (v := .int .i64 (f.fr i : Nat)) (T := 3) (by omega) (by ((try simp only [upd]); (repeat first | rw [if_neg (by omega)] | rw [if_pos (by omega)]); first | rfl | exact gs2 f i | exact gs4 f i | exact gh0 f i | exact gh1 f i | exact gh2 f i | exact gh3 f i | exact gh4 f i | exact ghi f i))
  go_simp
  refine hK _ _ ⟨by rw [listed_cell (ad := ⟨f.z + (6 + 4 * i + 1 + 1 + 1), 0, none⟩) (wr := true) loud33 (by simp [go_sem, storedEv, hl, hz])]; exact dst_write hO (by omega) (by omega) (by omega) _ _, ?_⟩
  clear hK K hl hz
  replace hF := hF.store (i := 6 + 4 * i + 1 + 1 + 1) (v := .int .i64 (f.fr i : Nat)) (v' := .int .i64 (f.fr (i + 1) : Nat)) (T := 3) (by omega) (by omega) (by ((try simp only [upd]); (repeat first | rw [if_neg (by omega)] | rw [if_pos (by omega)]); first | rfl | exact gs2 f i | exact gs4 f i | exact gh0 f i | exact gh1 f i | exact gh2 f i | exact gh3 f i | exact gh4 f i | exact ghi f i))
  refine Way.ctl (ts f n) rfl (fun _ => stepG_region_end) ?_
  refine Way.ctl (ts f n) rfl (fun _ => stepG_inLoop) ?_
  refine .stop fun w₁ h₁ => ?_
  replace hF := hF.rc (by ((try simp only [upd]); (repeat first | rw [if_neg (by omega)] | rw [if_pos (by omega)]); first | rfl | exact gs2 f i | exact gs4 f i | exact gh0 f i | exact gh1 f i | exact gh2 f i | exact gh3 f i | exact gh4 f i | exact ghi f i)) (by ((try simp only [upd]); (repeat first | rw [if_neg (by omega)] | rw [if_pos (by omega)]); first | rfl | exact gs2 f i | exact gs4 f i | exact gh0 f i | exact gh1 f i | exact gh2 f i | exact gh3 f i | exact gh4 f i | exact ghi f i)) h₁
  have e6 : 6 + 4 * (i + 1) = 6 + 4 * i + 1 + 1 + 1 + 1 := by omega
  have e5 : 5 + 4 * (i + 1) = 6 + 4 * i + 1 + 1 + 1 := by omega
  refine ⟨⟨_, rfl, rfl, rfl, rfl, rfl, rfl, rfl, by rw [e5]; rfl⟩, ?_⟩
  rw [e6]
  refine ⟨hF.fl.weaken fun j hj => ?_, hF.live⟩
  by_cases j0 : j = 0
  · subst j0; left; rw [gh0 f (i + 1)]; symm; ((try simp only [upd]); (repeat first | rw [if_neg (by omega)] | rw [if_pos (by omega)]); first | rfl | exact gs2 f i | exact gs4 f i | exact gh0 f i | exact gh1 f i | exact gh2 f i | exact gh3 f i | exact gh4 f i | exact ghi f i)
  by_cases j1 : j = 1
  · subst j1; left; rw [gh1 f (i + 1)]; symm; ((try simp only [upd]); (repeat first | rw [if_neg (by omega)] | rw [if_pos (by omega)]); first | rfl | exact gs2 f i | exact gs4 f i | exact gh0 f i | exact gh1 f i | exact gh2 f i | exact gh3 f i | exact gh4 f i | exact ghi f i)
  by_cases j3 : j = 3
  · subst j3; left; rw [gh3 f (i + 1)]; symm; ((try simp only [upd]); (repeat first | rw [if_neg (by omega)] | rw [if_pos (by omega)]); first | rfl | exact gs2 f i | exact gs4 f i | exact gh0 f i | exact gh1 f i | exact gh2 f i | exact gh3 f i | exact gh4 f i | exact ghi f i)
  by_cases j5 : j = 6 + 4 * i + 1 + 1 + 1
  · subst j5; left; rw [show gh f (i + 1) (6 + 4 * i + 1 + 1 + 1) = some (.cells #[.int .i64 (f.fr (i + 1) : Nat)] 3) from by rw [← e5]; exact ghi f (i + 1)]; symm; ((try simp only [upd]); (repeat first | rw [if_neg (by omega)] | rw [if_pos (by omega)]); first | rfl | exact gs2 f i | exact gs4 f i | exact gh0 f i | exact gh1 f i | exact gh2 f i | exact gh3 f i | exact gh4 f i | exact ghi f i)
  right
  unfold gh
  rw [if_neg j0, if_neg j1, if_neg j3, if_neg (by omega)]
end
end Go.Proofs.Ytpioacgknamemaa
set_option linter.unusedSectionVars false
set_option linter.unusedSimpArgs false
namespace Go.Proofs.Ytpioacgknamemaa
open Go Go.RowKit Go.Conc Go.ConcN Go.ConcN.Gen Go.Conc.Lib Go.ConcR.Gen
open Go.ConcR (KK wgBlock WgAt stA smA rd wr mk ofEvent_cell Payload Aside2 DC0)

section
variable {p : Plan} {n Low : Nat} {K K' Hd Hd' : Goroutine → World → Prop} {g : Goroutine} {w : World}
theorem sacq' (hK : ∀ g w, K g w → K' g w) (h : QAcq p.P p.Wg K g w) : p.SAcq K' g w := let ⟨a, g', b, c⟩ := h; ⟨a, g', b, hK _ _ c⟩
theorem ske' (hL : LowOk p n Low) (hK : ∀ g w, K g w → K' g w) (h : QKe p.P p.ty p.Wg p.C Low K g w) : p.SKe n K' g w := let ⟨a, g', b, c⟩ := h; ⟨a, g', b, gd hL (fun _ _ => sacq' hK) c⟩
theorem sw4' (hL : LowOk p n Low) (hK : ∀ g w, K g w → K' g w) (h : QW4 p.P p.ty p.Wg p.C Low K g w) : p.SW4 n K' g w := ⟨h.1, fun x => let ⟨g', b, c⟩ := h.2 x; ⟨g', b, gd hL (fun _ _ => ske' hL hK) c⟩⟩
theorem sw3' (hL : LowOk p n Low) (hK : ∀ g w, K g w → K' g w) (h : QW3 p.P p.ty p.Wg p.C Low K g w) : p.SW3 n K' g w := ⟨h.1, h.2.1, h.2.2.1, fun x => let ⟨g', b, c⟩ := h.2.2.2 x; ⟨g', b, gd hL (fun _ _ => sw4' hL hK) c⟩⟩
theorem sw2' (hL : LowOk p n Low) (hK : ∀ g w, K g w → K' g w) (hH : ∀ g w, Hd g w → Hd' g w) {vs : Nat} (h : QW2 p.P p.ty p.Wg p.C Low K Hd vs g w) : p.SW2 n K' Hd' vs g w :=
  ⟨h.1, fun v hv hw => ⟨fun e => let ⟨g', b, c⟩ := (h.2 v hv hw).1 e; ⟨g', b, gd hL (fun _ _ => sw3' hL hK) c⟩, fun e => let ⟨g', b, c⟩ := (h.2 v hv hw).2 e; ⟨g', b, gd hL hH c⟩⟩⟩
theorem sw1' (hL : LowOk p n Low) (hK : ∀ g w, K g w → K' g w) (hH : ∀ g w, Hd g w → Hd' g w) (h : QW1 p.P p.ty p.Wg p.C Low K Hd g w) : p.SW1 n K' Hd' g w :=
  ⟨h.1, fun v hv hw => let ⟨g', b, c, d⟩ := h.2 v hv hw; ⟨g', b, fun e => gd hL (fun _ _ => ske' hL hK) (c e), fun e => gd hL (fun _ _ => sw2' hL hK hH) (d e)⟩⟩
end

noncomputable def ops11 : Array Oper := match E33 with | .seq (.region _ o _) _ => o | _ => #[]
noncomputable def F33 : Code := match E33 with | .seq _ r => r | _ => .skip
def Act33 (f : FA) (a : Act) : Prop := ∃ TT : Array Value, a = ⟨TT, []⟩ ∧ TT.size = 36 ∧ TT[5]? = some (ptr (f.z + 3))
def FH (f : FA) (w : World) : Prop := FL f (6 + 4 * f.m) (gh f f.m) w
def Head (f : FA) (c : Frame) (cs : List Frame) (g : Goroutine) (w : World) : Prop := ∃ a, Act33 f a ∧ AnchWN link (FH f) (f.z + 4) ((base 33).at a [.inRegion ops11 [0], .code F33]) (c :: cs) g w
def Anch (f : FA) (c : Frame) (cs : List Frame) (g : Goroutine) (w : World) : Prop := ∃ a, Act33 f a ∧ Joined Try.prog (f.z + 2) (FH f) 82 (f.z + 4) (base 33) a ops11 0 [] [.code F33] (c :: cs) g w

section
variable {f : FA} {i n : Nat} {w : World} {c : Frame} {cs : List Frame} {g : Goroutine}

set_option maxRecDepth 100000 in
set_option maxHeartbeats 4000000 in
theorem round_end (hO : f.Ok) (hend : f.n ≤ f.fr f.m) (hn : n = f.J0 + f.m) (hg : AtHead f f.m c cs g) (hF : FW f (6 + 4 * f.m) (gh f f.m) w) : f.plan.GoTo n (f.plan.SKd n (Head f c cs)) g w := by
  obtain ⟨TT, rfl, hT, t2, t3, t5, t6, t7, t8⟩ := hg
  obtain ⟨v0, v1, v2, v3, v4, v5, v6, v7, v8, v9, v10, v11, v12, v13, v14, v15, v16, v17, v18, v19, v20, v21, v22, v23, v24, v25, v26, v27, v28, v29, v30, v31, v32, v33, v34, v35, rfl⟩ := arr36 TT hT
  simp only [List.getElem?_toArray, List.getElem?_cons_succ, List.getElem?_cons_zero, Option.some.injEq] at t2 t3 t5 t6 t7 t8
  subst t2 t3 t5 t6 t7 t8
  clear hT
  have hlt : ¬ ((f.fr f.m : Int) < (f.n : Int)) := by omega
  simp only [L33, E33, body33, Try.f33, Option.getD_some]
  show Way Try.prog true (RC 82 (f.z + 4) (f.z + 2)) (f.plan.DSt n) (f.plan.SKd n (Head f c cs)) _ _
  refine Way.ctl (ts f n) rfl (fun _ => stepG_seq) ?_
  refine Way.ctl (ts f n) rfl (fun _ => stepG_seq) ?_
  refine Way.ctl (ts f n) rfl (fun _ => stepG_region) ?_
  simp only [List.size_toArray, List.length_cons, List.length_nil, Nat.reduceAdd, Nat.zero_add, List.range, List.range.loop]
  refine Way.step rfl (fun w₁ h₁ => ?_)
  replace hF := hF.rc (by ((try simp only [upd]); (repeat first | rw [if_neg (by omega)] | rw [if_pos (by omega)]); first | rfl | exact gh0 f f.m | exact gh1 f f.m | exact gh2 f f.m | exact gh3 f f.m | exact gh4 f f.m | exact ghi f f.m)) (by ((try simp only [upd]); (repeat first | rw [if_neg (by omega)] | rw [if_pos (by omega)]); first | rfl | exact gh0 f f.m | exact gh1 f f.m | exact gh2 f f.m | exact gh3 f f.m | exact gh4 f f.m | exact ghi f f.m)) h₁
  clear h₁
  refine goes_oper_k rfl rfl (by k_ne) (fun K hK => ?_)
  have hl := hF.cell (i := 5 + 4 * f.m) (v := .int .i64 (f.fr f.m : Nat)) (T := 3) (by omega) (by ((try simp only [upd]); (repeat first | rw [if_neg (by omega)] | rw [if_pos (by omega)]); first | rfl | exact gh0 f f.m | exact gh1 f f.m | exact gh2 f f.m | exact gh3 f f.m | exact gh4 f f.m | exact ghi f f.m))
  go_simp
  refine hK _ _ ⟨by rw [listed_cell (ad := ⟨f.z + (5 + 4 * f.m), 0, none⟩) (wr := false) loud33 (by simp [go_sem, hl])]; exact dst_read hO (by omega) (by omega) (by omega) _, ?_⟩
  clear hK K hl
  refine Way.step rfl (fun w₁ h₁ => ?_)
  replace hF := hF.rc (by ((try simp only [upd]); (repeat first | rw [if_neg (by omega)] | rw [if_pos (by omega)]); first | rfl | exact gh0 f f.m | exact gh1 f f.m | exact gh2 f f.m | exact gh3 f f.m | exact gh4 f f.m | exact ghi f f.m)) (by ((try simp only [upd]); (repeat first | rw [if_neg (by omega)] | rw [if_pos (by omega)]); first | rfl | exact gh0 f f.m | exact gh1 f f.m | exact gh2 f f.m | exact gh3 f f.m | exact gh4 f f.m | exact ghi f f.m)) h₁
  clear h₁
  refine goes_oper_k rfl rfl (by k_ne) (fun K hK => ?_)
  have hl := hF.cell (i := 1) (v := .slice (some f.lb) f.n f.cap) (T := 23) (by omega) (by ((try simp only [upd]); (repeat first | rw [if_neg (by omega)] | rw [if_pos (by omega)]); first | rfl | exact gh0 f f.m | exact gh1 f f.m | exact gh2 f f.m | exact gh3 f f.m | exact gh4 f f.m | exact ghi f f.m))
  go_simp
  refine hK _ _ ⟨by rw [listed_cell (ad := ⟨f.z + (1), 0, none⟩) (wr := false) loud33 (by simp [go_sem, hl])]; exact dst_read hO (by omega) (by omega) (by omega) _, ?_⟩
  clear hK K hl
  refine Way.step rfl (fun w₁ h₁ => ?_)
  replace hF := hF.rc (by ((try simp only [upd]); (repeat first | rw [if_neg (by omega)] | rw [if_pos (by omega)]); first | rfl | exact gh0 f f.m | exact gh1 f f.m | exact gh2 f f.m | exact gh3 f f.m | exact gh4 f f.m | exact ghi f f.m)) (by ((try simp only [upd]); (repeat first | rw [if_neg (by omega)] | rw [if_pos (by omega)]); first | rfl | exact gh0 f f.m | exact gh1 f f.m | exact gh2 f f.m | exact gh3 f f.m | exact gh4 f f.m | exact ghi f f.m)) h₁
  clear h₁
  refine goes_oper_k rfl rfl (by k_ne) (fun K hK => ?_)
  go_simp
  refine hK _ _ ⟨by rw [listed_nil (by simp [go_sem, min_ev, *])]; exact dst_none _ _, ?_⟩
  clear hK K
  refine Way.step rfl (fun w₁ h₁ => ?_)
  replace hF := hF.rc (by ((try simp only [upd]); (repeat first | rw [if_neg (by omega)] | rw [if_pos (by omega)]); first | rfl | exact gh0 f f.m | exact gh1 f f.m | exact gh2 f f.m | exact gh3 f f.m | exact gh4 f f.m | exact ghi f f.m)) (by ((try simp only [upd]); (repeat first | rw [if_neg (by omega)] | rw [if_pos (by omega)]); first | rfl | exact gh0 f f.m | exact gh1 f f.m | exact gh2 f f.m | exact gh3 f f.m | exact gh4 f f.m | exact ghi f f.m)) h₁
  clear h₁
  refine goes_oper_k rfl rfl (by k_ne) (fun K hK => ?_)
  go_simp
  refine hK _ _ ⟨by rw [listed_nil (by simp [go_sem, min_ev, *])]; exact dst_none _ _, ?_⟩
  clear hK K
  refine Way.ctl (ts f n) rfl (fun _ => stepG_region_end) ?_
  refine Way.ctl (ts f n) rfl (fun _ => stepG_cond (t := false) rfl) ?_
  simp only [if_true, if_false, Bool.false_eq_true, ↓reduceIte]
  refine Way.ctl (ts f n) rfl (fun _ => stepG_exit rfl) ?_
  refine Way.ctl (ts f n) rfl (fun _ => stepG_seq) ?_
  refine Way.ctl (ts f n) rfl (fun _ => stepG_region) ?_
  simp only [List.size_toArray, List.length_cons, List.length_nil, Nat.reduceAdd, Nat.zero_add, List.range, List.range.loop]
  refine way_enter (ts f n) rfl rfl (by k_ne) rfl Try.func44 (by kernel_rfl) rfl ?_
  rw [Go.Conc.enter_at _ Try.func44 rfl]
  walk_nrm
  simp only [Try.ntmps44, List.size_toArray, List.length_cons, List.length_nil, Nat.reduceAdd, Nat.reduceSub, Array.replicate_succ, Array.replicate_zero, List.push_toArray, List.append_toArray, List.nil_append, List.cons_append]
  have hL : LowOk f.plan n (f.z + 5 + 4 * f.m) := ⟨fun k h1 h2 => by simp only [FA.plan] at h1 ⊢; omega, by simp only [FA.plan]; omega, by simp only [FA.plan]; omega⟩
  refine gd (p := f.plan) hL (fun g w h => ?_) ⟨3, waitStartN (L := link) (P := Try.prog) (C := f.z + 2) (Wg := f.z + 4) (F := FH f) wgLib (fun w w' r h => FL.aside (gh2 f f.m) (gh4 f f.m) h r) _ ⟨hF.fl, hF.live⟩⟩
  obtain ⟨hs, g', hst, hG⟩ := h
  exact ⟨hs, g', hst, gd (p := f.plan) hL (fun g w x => ⟨_, ⟨_, rfl, rfl, rfl⟩, x⟩) hG⟩

theorem head_run (g : Goroutine) (w : World) (h : Head f c cs g w) : g.status = .running := by
  obtain ⟨a, _, T, rfl, _⟩ := h
  rfl

theorem head_goes (hn : n = f.J0 + f.m) (g : Goroutine) (w : World) (h : Head f c cs g w) : f.plan.GoTo n (f.plan.SW1 n (Anch f c cs) (Head f c cs)) g w := by
  obtain ⟨a, ha, h⟩ := h
  have hL : LowOk f.plan n (f.z + 5 + 4 * f.m) := ⟨fun k h1 h2 => by simp only [FA.plan] at h1 ⊢; omega, by simp only [FA.plan]; omega, by simp only [FA.plan]; omega⟩
  have := waitRound (L := link) (P := Try.prog) (C := f.z + 2) (Low := f.z + 5 + 4 * f.m) wgLib (fun w w' r h => FL.aside (gh2 f f.m) (gh4 f f.m) h r) g w h
  exact gd (p := f.plan) hL (fun g w => sw1' (p := f.plan) hL (fun g w x => ⟨a, ha, x⟩) (fun g w x => ⟨a, ha, x⟩)) this

/-- The starter's whole way. -/
theorem fa_starts (hO : f.Ok) (hroom : 8 * f.n ≤ 281474976710656) (hpn : f.part ≤ f.n) (hend : f.n ≤ f.fr f.m) {S X : FuncId → Bool} (hT : Tame Try.prog S X) (h34 : S 34 = true) :
    ∀ (r i : Nat) (g : Goroutine) (w : World), i + r = f.m → AtHead f i c cs g → FW f (6 + 4 * i) (gh f i) w → f.plan.Starts (Head f c cs) (f.J0 + f.m) r g w := by
  intro r
  induction r with
  | zero =>
    intro i g w hi hg hF
    obtain rfl : i = f.m := by omega
    exact round_end hO hend rfl hg hF
  | succ r ih =>
    intro i g w hi hg hF
    refine round_a hO hroom hpn (by omega) (by omega) hg hF (fun g w hA hF => ?_) hT h34
    have hb := round_b (n := f.J0 + i + 1) hO hroom hpn (by omega) rfl hA hF
    cases r with
    | zero =>
      have e : f.J0 + i + 1 = f.J0 + f.m := by omega
      rw [e] at hb
      exact Way.trans rc_refl hb fun g w ⟨h1, h2⟩ => ih (i + 1) g w (by omega) h1 h2
    | succ r' =>
      have e : f.J0 + i + 1 = f.J0 + f.m - (r' + 1) := by omega
      rw [e] at hb
      exact Way.trans rc_refl hb fun g w ⟨h1, h2⟩ => ih (i + 1) g w (by omega) h1 h2
end
end Go.Proofs.Ytpioacgknamemaa
