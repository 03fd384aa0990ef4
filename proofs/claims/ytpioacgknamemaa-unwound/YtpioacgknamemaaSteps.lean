/- A goroutine's way in company: small steps; a call whose contract was proved alone. -/
import Derived.Test.YtpioacgknamemaaJoin
import Derived.Test.YtpioacgknamemaaLink
import Derived.Conc.WgWords
set_option linter.unusedSectionVars false
namespace Go.Proofs.Ytpioacgknamemaa
open Go Go.RowKit Go.Conc Go.ConcN

section
variable {P : Program} {main : Bool} {R : World → World → Prop} {D : World → World → Array Event → Prop} {Stop : Goroutine → World → Prop} {g g' : Goroutine} {w : World}

/-- A step that looks at no world. -/
theorem Way.ctl (T : Terms R D) (hs : g.status = .running) (h : ∀ w, stepG P main g w = .go g' w #[]) (k : Way P main R D Stop g' w) : Way P main R D Stop g w :=
  .step hs fun w₁ h₁ => by rw [h]; exact ⟨T.idle _, k.rely T.trans h₁⟩

variable {b : Frame} {a : Act} {k : List Item} {cs : List Frame} {ops : Array Oper} {i : Nat} {rest : List Nat} {o : Oper}

/-- A call is entered. -/
theorem way_enter (T : Terms R D) {f : FuncId} {fn : Func} {c : Code} {args : Array Operand} {ats : Array TypeId} (ho : ops[i]? = some o) (hw : Region.wanted o (yielded ops a.tmps) = true) (hk : b.kind ≠ .early) (hop : o.op = .call { callee := .value (.func f), args, argTypes := ats })
    (hf : P.funcs[f]? = some fn) (hname : (fn.name == "runtime.NumGoroutine") = false) (hb : fn.body = some c) (h : Way P main R D Stop (G (Frame.enter P f (args.map a.eval) .normal) (b.at a (.inRegion ops (i :: rest) :: k) :: cs)) w) :
    Way P main R D Stop (G (b.at a (.inRegion ops (i :: rest) :: k)) cs) w := by
  have hb' : fn.body.isNone = false := by rw [hb]; rfl
  refine .ctl T rfl (fun w => ?_) h
  have e : listed P b.fn a o w = #[] := by unfold listed; rw [events_call_body hop hf hname hb']; exact seen_none P _
  rw [stepG_enter ho hw hk (run_call_body hop hf hname hb'), e]
end

section
variable {P : Program} {S X : FuncId → Bool} {κ : Nat → Kd} {main : Bool} {R : World → World → Prop} {D : World → World → Array Event → Prop}

theorem View.of_heap {u u' w : World} (h : View κ u w) (e : u'.heap = u.heap) : View κ u' w :=
  ⟨by rw [e]; exact h.size, fun r hr => h.new r (by rwa [e] at hr), fun r hr hk => by rw [e] at hr ⊢; exact h.same r hr hk, fun r hr hk => by rw [e] at hr ⊢; exact h.kind r hr hk, fun r hk => by rw [e]; exact h.void r hk, fun r hk => by rw [e]; exact h.froz r hk⟩

/-- A call whose contract was proved alone, in company. -/
theorem way_call (T : Terms R D) (refl : ∀ w, R w w) (hT : Tame P S X) {f : FuncId} (hf : S f = true) (hres : ∀ fn, P.funcs[f]? = some fn → slotRes fn = true) {u : World} (hV0 : View κ u u) {args : Array Value} {val : Value}
    (h : ∀ τ d, Calls P f args (tp u τ d) fun e w' => ∃ v, e = .returned v ∧ v = val ∧ w'.heap = u.heap)
    (hRV : ∀ v w w₁, v.heap.size = u.heap.size → View κ v w → R w w₁ → View κ v w₁) (hD : ∀ v w₁ u' w' es, v.heap.size = u.heap.size → u'.heap.size = u.heap.size → View κ v w₁ → Mv κ v w₁ u' w' → (∀ e ∈ es, EvOk κ u.heap.size e) → D w₁ w' es)
    {c : Frame} {cs : List Frame} {w : World} (hV : View κ u w) :
    Way P main R D (fun g' w' => g' = G (c.finish val) cs ∧ View κ u w') (G (Frame.enter P f args .normal) (c :: cs)) w := by
  obtain ⟨hr, hL⟩ := reach_call (R := fun v w' => v = val ∧ w'.heap = u.heap) hT hf hres hV0 (fun v u τ d x => x) h
  have hw := way_of_reach (κ := κ) (main := main) (R := R) (D := D) (cs := c :: cs) (N0 := u.heap.size) hT (.inl ⟨rfl, rfl⟩) TRet.only TRet.notLive (fun ĝ u' ht => by
    obtain ⟨_, _, _, _, fn, _, _, _, e⟩ := ht
    rw [e]) (fun u' w w₁ hz hv hr => hRV u' w w₁ hz hv hr) (fun v w₁ u' w' es h1 h2 h3 h4 h5 => hD v w₁ u' w' es h1 h2 h3 h4 h5) hr _ w (.inl (hL (c :: cs))) hV rfl
  refine hw.trans refl fun g' w' ⟨ĝ', u', hD', ht, hv, _⟩ => ?_
  obtain ⟨t1, t2, t3, t4, fn, t5, t6, t7, t8⟩ := ht
  rcases hD' with ⟨b, a, todo, d1, d2, d3, rfl, rfl⟩ | ⟨e1, _⟩
  · refine .ctl (g' := G (c.finish (resV fn a.tmps)) cs) T rfl (fun w => ?_) (.stop fun w₁ h₁ => ⟨by rw [show resV fn a.tmps = val from t7], hRV _ _ _ rfl (hv.of_heap t8.symm) h₁⟩)
    rw [stepG_leave d2 d3 t5 (by rw [results_slots t6]; rfl) (by rw [results_slots t6]; rfl)]
  · cases e1
end
end Go.Proofs.Ytpioacgknamemaa
set_option linter.unusedSectionVars false
set_option linter.unusedSimpArgs false
namespace Go.Proofs.Ytpioacgknamemaa
open Go Go.RowKit Go.Conc Go.ConcN Go.ConcR.Gen Go.Conc.Lib

theorem arr22 (T : Array Value) (h : T.size = 22) : ∃ v0 v1 v2 v3 v4 v5 v6 v7 v8 v9 v10 v11 v12 v13 v14 v15 v16 v17 v18 v19 v20 v21 : Value, T = #[v0, v1, v2, v3, v4, v5, v6, v7, v8, v9, v10, v11, v12, v13, v14, v15, v16, v17, v18, v19, v20, v21] := by
  obtain ⟨l⟩ := T
  simp only [List.size_toArray] at h
  rcases l with _ | ⟨v0, l⟩
  · simp at h
  rcases l with _ | ⟨v1, l⟩
  · simp at h
  rcases l with _ | ⟨v2, l⟩
  · simp at h
  rcases l with _ | ⟨v3, l⟩
  · simp at h
  rcases l with _ | ⟨v4, l⟩
  · simp at h
  rcases l with _ | ⟨v5, l⟩
  · simp at h
  rcases l with _ | ⟨v6, l⟩
  · simp at h
  rcases l with _ | ⟨v7, l⟩
  · simp at h
  rcases l with _ | ⟨v8, l⟩
  · simp at h
  rcases l with _ | ⟨v9, l⟩
  · simp at h
  rcases l with _ | ⟨v10, l⟩
  · simp at h
  rcases l with _ | ⟨v11, l⟩
  · simp at h
  rcases l with _ | ⟨v12, l⟩
  · simp at h
  rcases l with _ | ⟨v13, l⟩
  · simp at h
  rcases l with _ | ⟨v14, l⟩
  · simp at h
  rcases l with _ | ⟨v15, l⟩
  · simp at h
  rcases l with _ | ⟨v16, l⟩
  · simp at h
  rcases l with _ | ⟨v17, l⟩
  · simp at h
  rcases l with _ | ⟨v18, l⟩
  · simp at h
  rcases l with _ | ⟨v19, l⟩
  · simp at h
  rcases l with _ | ⟨v20, l⟩
  · simp at h
  rcases l with _ | ⟨v21, l⟩
  · simp at h
  rcases l with _ | ⟨x, l⟩
  · exact ⟨v0, v1, v2, v3, v4, v5, v6, v7, v8, v9, v10, v11, v12, v13, v14, v15, v16, v17, v18, v19, v20, v21, rfl⟩
  · simp at h

noncomputable def body43 : Code := Try.f43.body.getD .skip
noncomputable def L43 : Code := match body43 with | .seq _ (.block _ (.loop c)) => c | _ => .skip

section
variable {main : Bool} {R : World → World → Prop} {D : World → World → Array Event → Prop}

theorem loud43 : (Try.prog.funcs[(base 43).fn]?).any (·.norace) = false := by kernel_rfl

theorem listed_cell {P : Program} {fn : FuncId} {a : Act} {o : Oper} {w : World} {ad : Addr} {wr : Bool} (hq : (P.funcs[fn]?).any (·.norace) = false) (h : (execOp a.eval o).events P w #[] = #[⟨.cell ad, wr, false⟩]) : listed P fn a o w = #[⟨.cell ad, wr, false⟩] := by
  unfold listed
  rw [h, seen_eq hq (by simp)]

/-- A plain store of an int. -/
theorem stepG_store3 {b : Frame} {a : Act} {kk : List Item} {cs : List Frame} {w : World} {ops : Array Oper} {i : Nat} {rest : List Nat} {o : Oper} {x y : Operand} (ho : ops[i]? = some o) (hw : Region.wanted o (yielded ops a.tmps) = true) (hk : b.kind ≠ .early) (hop : o.op = .store 3 x y)
    {ad : Addr} {v : Int} {u : Value} (hx : a.eval x = .pointer (some ad)) (hy : a.eval y = .int .i64 v) (hc : w.cell? ad = some u) (hz : w.frozen? ad = false) (hq : (Try.prog.funcs[b.fn]?).any (·.norace) = false) :
    stepG Try.prog main (G (b.at a (.inRegion ops (i :: rest) :: kk)) cs) w = .go (G (b.at (a.put o.dst undef) (.inRegion ops rest :: kk)) cs) (w.setCell ad (.int .i64 v)) #[⟨.cell ad, true, false⟩] := by
  have hr : (execOp a.eval o).run Try.prog w = .ok .skip (w.setCell ad (.int .i64 v)) := by
    unfold execOp
    simp only [hop, hx, hy]
    simp [go_sem, stored, hc, hz]
  have he : (execOp a.eval o).events Try.prog w #[] = #[⟨.cell ad, true, false⟩] := by
    unfold execOp
    simp only [hop, hx, hy]
    simp [go_sem, storedEv, hc, hz]
  rw [stepG_none ho hw hk hr]
  unfold listed
  rw [he, seen_eq hq (by simp)]

set_option maxRecDepth 100000 in
set_option maxHeartbeats 4000000 in
theorem each_from (T : Terms R D) (refl : ∀ w, R w w) {S : Value} {la fa : Addr} {len cap cap' : Nat} {key pl : Nat → Int} {F : Nat → World → Prop} (hlen : len ≤ 9223372036854775807)
    (hFR : ∀ j w w₁, F j w → R w w₁ → F j w₁)
    (hrd : ∀ j w i, F j w → i < len → w.cell? (la.add i) = some (.int .u64 (key i)) ∧ D w w #[⟨.cell (la.add i), false, false⟩])
    (hfind : ∀ i j w c cs, i < len → F j w → Way Try.prog main R D (fun g' w' => g' = G (c.finish (.int .i64 (pl i))) cs ∧ F j w') (G (Frame.enter Try.prog 34 #[S, .int .u64 (key i)] .normal) (c :: cs)) w)
    (hst : ∀ w i, F i w → i < len → ∃ old, w.cell? (fa.add i) = some old ∧ w.frozen? (fa.add i) = false ∧ D w (w.setCell (fa.add i) (.int .i64 (pl i))) #[⟨.cell (fa.add i), true, false⟩] ∧ F (i + 1) (w.setCell (fa.add i) (.int .i64 (pl i))))
    {c : Frame} {cs : List Frame} : ∀ (m j : Nat), j + m = len → ∀ (TT : Array Value) (w : World), TT.size = 22 → TT[0]? = some S → TT[2]? = some (.slice (some fa) len cap') → TT[8]? = some (.slice (some la) len cap) → TT[9]? = some (.int .i64 len) → TT[10]? = some (.int .i64 j) → F j w →
      Way Try.prog main R D (fun g' w' => g' = G (c.finish (.tuple #[])) cs ∧ F len w') (G ((base 43).at ⟨TT, []⟩ [.code L43, .inLoop L43, .inBlock 0]) (c :: cs)) w := by
  intro m
  induction m with
  | zero =>
    intro j hj TT w hT t0 t2 t8 t9 t10 hF
    obtain rfl : j = len := by omega
    obtain ⟨v0, v1, v2, v3, v4, v5, v6, v7, v8, v9, v10, v11, v12, v13, v14, v15, v16, v17, v18, v19, v20, v21, rfl⟩ := arr22 TT hT
    simp only [List.getElem?_toArray, List.getElem?_cons_succ, List.getElem?_cons_zero, Option.some.injEq] at t0 t2 t8 t9 t10
    subst t0 t2 t8 t9 t10
    simp only [L43, body43, Try.f43, Option.getD_some]
    have hnl : ¬ ((j : Int) < (j : Int)) := by omega

    refine Way.ctl T rfl (fun _ => stepG_seq) ?_
    refine Way.ctl T rfl (fun _ => stepG_region) ?_
    simp only [List.size_toArray, List.length_cons, List.length_nil, Nat.reduceAdd, Nat.zero_add, List.range, List.range.loop]
    refine Way.step rfl (fun w₁ h₁ => ?_)
    replace hF := hFR _ _ _ hF h₁
    clear h₁
    refine goes_oper_k rfl rfl (by k_ne) (fun K hK => ?_)
    go_simp
    refine hK _ _ ⟨by rw [listed_nil (by simp [go_sem, *])]; exact T.idle _, ?_⟩
    clear hK K
    refine Way.ctl T rfl (fun _ => stepG_region_end) ?_
    refine Way.ctl T rfl (fun _ => stepG_seq) ?_
    refine Way.ctl T rfl (fun _ => stepG_cond (t := false) rfl) ?_
    simp only [if_true, if_false, Bool.false_eq_true, ↓reduceIte]
    refine Way.ctl T rfl (fun _ => stepG_exit rfl) ?_
    refine Way.ctl T rfl (fun _ => stepG_end) ?_
    refine Way.step rfl (fun w₁ h₁ => ?_)
    replace hF := hFR _ _ _ hF h₁
    clear h₁
    rw [stepG_leave rfl rfl Try.func43 (results_none rfl _ Try.prog w₁) (events_results_none rfl _ _)]
    exact ⟨T.idle _, .stop fun w₂ h₂ => ⟨rfl, hFR _ _ _ hF h₂⟩⟩
  | succ m ih =>
    intro j hj TT w hT t0 t2 t8 t9 t10 hF
    obtain ⟨v0, v1, v2, v3, v4, v5, v6, v7, v8, v9, v10, v11, v12, v13, v14, v15, v16, v17, v18, v19, v20, v21, rfl⟩ := arr22 TT hT
    simp only [List.getElem?_toArray, List.getElem?_cons_succ, List.getElem?_cons_zero, Option.some.injEq] at t0 t2 t8 t9 t10
    subst t0 t2 t8 t9 t10
    simp only [L43, body43, Try.f43, Option.getD_some]
    have hjn : j < len := by omega
    have hlt : (j : Int) < (len : Int) := by omega
    have hj0 : (0 : Int) ≤ (j : Int) := by omega
    refine Way.ctl T rfl (fun _ => stepG_seq) ?_
    refine Way.ctl T rfl (fun _ => stepG_region) ?_
    simp only [List.size_toArray, List.length_cons, List.length_nil, Nat.reduceAdd, Nat.zero_add, List.range, List.range.loop]
    refine Way.step rfl (fun w₁ h₁ => ?_)
    replace hF := hFR _ _ _ hF h₁
    clear h₁
    refine goes_oper_k rfl rfl (by k_ne) (fun K hK => ?_)
    go_simp
    refine hK _ _ ⟨by rw [listed_nil (by simp [go_sem, *])]; exact T.idle _, ?_⟩
    clear hK K
    refine Way.ctl T rfl (fun _ => stepG_region_end) ?_
    refine Way.ctl T rfl (fun _ => stepG_seq) ?_
    refine Way.ctl T rfl (fun _ => stepG_cond (t := true) rfl) ?_
    simp only [if_true, if_false, Bool.false_eq_true, ↓reduceIte]
    refine Way.ctl T rfl (fun _ => stepG_skip) ?_
    refine Way.ctl T rfl (fun _ => stepG_seq) ?_
    refine Way.ctl T rfl (fun _ => stepG_block) ?_
    refine Way.ctl T rfl (fun _ => stepG_seq) ?_
    refine Way.ctl T rfl (fun _ => stepG_region) ?_
    simp only [List.size_toArray, List.length_cons, List.length_nil, Nat.reduceAdd, Nat.zero_add, List.range, List.range.loop]
    refine Way.step rfl (fun w₁ h₁ => ?_)
    replace hF := hFR _ _ _ hF h₁
    clear h₁
    refine goes_oper_k rfl rfl (by k_ne) (fun K hK => ?_)
    go_simp
    refine hK _ _ ⟨by rw [listed_nil (by simp [go_sem, *])]; exact T.idle _, ?_⟩
    clear hK K
    refine Way.step rfl (fun w₁ h₁ => ?_)
    replace hF := hFR _ _ _ hF h₁
    clear h₁
    refine goes_oper_k rfl rfl (by k_ne) (fun K hK => ?_)
    go_simp
    refine hK _ _ ⟨by rw [listed_nil (by simp [go_sem, *])]; exact T.idle _, ?_⟩
    clear hK K
    refine Way.step rfl (fun w₁ h₁ => ?_)
    replace hF := hFR _ _ _ hF h₁
    clear h₁
    refine goes_oper_k rfl rfl (by k_ne) (fun K hK => ?_)
    have hel := (hrd j w₁ j hF hjn).1
    go_simp
    refine hK _ _ ⟨?_, ?_⟩
    · rw [listed_cell (ad := la.add j) (wr := false) loud43 (by simp [go_sem, hel])]
      exact (hrd j w₁ j hF hjn).2
    clear hK K hel
    refine Way.step rfl (fun w₁ h₁ => ?_)
    replace hF := hFR _ _ _ hF h₁
    clear h₁
    refine goes_oper_k rfl rfl (by k_ne) (fun K hK => ?_)
    go_simp
    refine hK _ _ ⟨by rw [listed_nil (by simp [go_sem, *])]; exact T.idle _, ?_⟩
    clear hK K
    refine Way.step rfl (fun w₁ h₁ => ?_)
    replace hF := hFR _ _ _ hF h₁
    clear h₁
    refine goes_oper_k rfl rfl (by k_ne) (fun K hK => ?_)
    go_simp
    refine hK _ _ ⟨by rw [listed_nil (by simp [go_sem, *])]; exact T.idle _, ?_⟩
    clear hK K
    refine Way.ctl T rfl (fun _ => stepG_region_end) ?_
    refine Way.ctl T rfl (fun _ => stepG_region) ?_
    simp only [List.size_toArray, List.length_cons, List.length_nil, Nat.reduceAdd, Nat.zero_add, List.range, List.range.loop]
    refine Way.step rfl (fun w₁ h₁ => ?_)
    replace hF := hFR _ _ _ hF h₁
    clear h₁
    refine goes_oper_k rfl rfl (by k_ne) (fun K hK => ?_)
    go_simp
    refine hK _ _ ⟨by rw [listed_nil (by simp [go_sem, *])]; exact T.idle _, ?_⟩
    clear hK K
    refine Way.step rfl (fun w₁ h₁ => ?_)
    replace hF := hFR _ _ _ hF h₁
    clear h₁
    refine goes_oper_k rfl rfl (by k_ne) (fun K hK => ?_)
    go_simp
    refine hK _ _ ⟨by rw [listed_nil (by simp [go_sem, *])]; exact T.idle _, ?_⟩
    clear hK K
    refine Way.step rfl (fun w₁ h₁ => ?_)
    replace hF := hFR _ _ _ hF h₁
    clear h₁
    refine goes_oper_k rfl rfl (by k_ne) (fun K hK => ?_)
    go_simp
    refine hK _ _ ⟨by rw [listed_nil (by simp [go_sem, *])]; exact T.idle _, ?_⟩
    clear hK K
    refine Way.step rfl (fun w₁ h₁ => ?_)
    replace hF := hFR _ _ _ hF h₁
    clear h₁
    refine goes_oper_k rfl rfl (by k_ne) (fun K hK => ?_)
    go_simp
    refine hK _ _ ⟨by rw [listed_nil (by simp [go_sem, *])]; exact T.idle _, ?_⟩
    clear hK K
    refine way_enter T rfl rfl (by k_ne) rfl Try.func34 (by rfl) rfl ?_
    walk_nrm
    refine (hfind j j _ _ _ hjn hF).trans refl ?_
    rintro g' w' ⟨rfl, hF⟩
    rw [Frame.finish_at]
    walk_nrm
    refine Way.step rfl (fun w₁ h₁ => ?_)
    replace hF := hFR _ _ _ hF h₁
    clear h₁
    refine goes_oper_k rfl rfl (by k_ne) (fun K hK => ?_)
    go_simp
    refine hK _ _ ⟨by rw [listed_nil (by simp [go_sem, *])]; exact T.idle _, ?_⟩
    clear hK K
    refine Way.step rfl (fun w₁ h₁ => ?_)
    replace hF := hFR _ _ _ hF h₁
    clear h₁
    obtain ⟨old, hc, hz, hd, hF'⟩ := hst _ j hF hjn
    rw [stepG_store3 rfl rfl (by k_ne) rfl rfl rfl hc hz loud43]
    simp only [goes_go]
    refine ⟨hd, ?_⟩
    replace hF := hF'
    clear hF' hd hc hz old
    walk_nrm
    have hi64 : IntKind.i64.wrap ((j : Int) + 1) = ((j + 1 : Nat) : Int) := by rw [IntKind.wrap_i64]; omega
    refine Way.ctl T rfl (fun _ => stepG_region_end) ?_
    refine Way.ctl T rfl (fun _ => stepG_inBlock) ?_
    refine Way.ctl T rfl (fun _ => stepG_region) ?_
    simp only [List.size_toArray, List.length_cons, List.length_nil, Nat.reduceAdd, Nat.zero_add, List.range, List.range.loop]
    refine Way.step rfl (fun w₁ h₁ => ?_)
    replace hF := hFR _ _ _ hF h₁
    clear h₁
    refine goes_oper_k rfl rfl (by k_ne) (fun K hK => ?_)
    go_simp
    refine hK _ _ ⟨by rw [listed_nil (by simp [go_sem, *])]; exact T.idle _, ?_⟩
    clear hK K
    refine Way.step rfl (fun w₁ h₁ => ?_)
    replace hF := hFR _ _ _ hF h₁
    clear h₁
    refine goes_oper_k rfl rfl (by k_ne) (fun K hK => ?_)
    go_simp
    refine hK _ _ ⟨by rw [listed_nil (by simp [go_sem, *])]; exact T.idle _, ?_⟩
    clear hK K
    refine Way.ctl T rfl (fun _ => stepG_region_end) ?_
    refine Way.ctl T rfl (fun _ => stepG_inLoop) ?_
    exact ih (j + 1) (by omega) _ _ (by simp) (by simp) (by simp) (by simp) (by simp) (by simp) hF

set_option maxRecDepth 100000 in
set_option maxHeartbeats 4000000 in
theorem each_way (T : Terms R D) (refl : ∀ w, R w w) {S : Value} {la fa : Addr} {len cap cap' : Nat} {key pl : Nat → Int} {F : Nat → World → Prop} (hlen : len ≤ 9223372036854775807)
    (hFR : ∀ j w w₁, F j w → R w w₁ → F j w₁)
    (hrd : ∀ j w i, F j w → i < len → w.cell? (la.add i) = some (.int .u64 (key i)) ∧ D w w #[⟨.cell (la.add i), false, false⟩])
    (hfind : ∀ i j w c cs, i < len → F j w → Way Try.prog main R D (fun g' w' => g' = G (c.finish (.int .i64 (pl i))) cs ∧ F j w') (G (Frame.enter Try.prog 34 #[S, .int .u64 (key i)] .normal) (c :: cs)) w)
    (hst : ∀ w i, F i w → i < len → ∃ old, w.cell? (fa.add i) = some old ∧ w.frozen? (fa.add i) = false ∧ D w (w.setCell (fa.add i) (.int .i64 (pl i))) #[⟨.cell (fa.add i), true, false⟩] ∧ F (i + 1) (w.setCell (fa.add i) (.int .i64 (pl i))))
    {c : Frame} {cs : List Frame} {w : World} (hF : F 0 w) :
    Way Try.prog main R D (fun g' w' => g' = G (c.finish (.tuple #[])) cs ∧ F len w') (G (Frame.enter Try.prog 43 #[S, .slice (some la) len cap, .slice (some fa) len cap'] .normal) (c :: cs)) w := by
  rw [Go.Conc.enter_at _ Try.func43 rfl]
  simp only [Try.f43, List.size_toArray, List.length_cons, List.length_nil, Nat.reduceAdd, Nat.reduceSub, Array.replicate_succ, Array.replicate_zero, List.push_toArray, List.append_toArray, List.nil_append, List.cons_append]
  refine Way.ctl T rfl (fun _ => stepG_seq) ?_
  refine Way.ctl T rfl (fun _ => stepG_region) ?_
  simp only [List.size_toArray, List.length_cons, List.length_nil, Nat.reduceAdd, Nat.zero_add, List.range, List.range.loop]
  refine Way.step rfl (fun w₁ h₁ => ?_)
  replace hF := hFR _ _ _ hF h₁
  clear h₁
  refine goes_oper_k rfl rfl (by k_ne) (fun K hK => ?_)
  go_simp
  refine hK _ _ ⟨by rw [listed_nil (by simp [go_sem, *])]; exact T.idle _, ?_⟩
  clear hK K
  refine Way.step rfl (fun w₁ h₁ => ?_)
  replace hF := hFR _ _ _ hF h₁
  clear h₁
  refine goes_oper_k rfl rfl (by k_ne) (fun K hK => ?_)
  go_simp
  refine hK _ _ ⟨by rw [listed_nil (by simp [go_sem, *])]; exact T.idle _, ?_⟩
  clear hK K
  refine Way.step rfl (fun w₁ h₁ => ?_)
  replace hF := hFR _ _ _ hF h₁
  clear h₁
  refine goes_oper_k rfl rfl (by k_ne) (fun K hK => ?_)
  go_simp
  refine hK _ _ ⟨by rw [listed_nil (by simp [go_sem, *])]; exact T.idle _, ?_⟩
  clear hK K
  refine Way.ctl T rfl (fun _ => stepG_region_end) ?_
  refine Way.ctl T rfl (fun _ => stepG_block) ?_
  refine Way.ctl T rfl (fun _ => stepG_loop) ?_
  have h := each_from (main := main) (c := c) (cs := cs) (cap := cap) (cap' := cap') (S := S) T refl hlen hFR hrd hfind hst len 0 (by omega)
  simp only [L43, body43, Try.f43, Option.getD_some] at h
  exact h _ _ (by simp) (by simp) (by simp) (by simp) (by simp) (by simp) hF
end
end Go.Proofs.Ytpioacgknamemaa
