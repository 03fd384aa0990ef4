/- FindAll's end: behind Wait. -/
import Derived.Test.YtpioacgknamemaaLoop
import Derived.Test.YtpioacgknamemaaSmall
set_option linter.unusedSectionVars false
set_option linter.unusedSimpArgs false
namespace Go.Proofs.Ytpioacgknamemaa
open Go Go.RowKit Go.Conc Go.ConcN Go.ConcN.Gen Go.Conc.Lib Go.ConcR.Gen
open Go.ConcR (KK wgBlock WgAt stA smA rd wr mk ofEvent_cell Payload Aside2 DC0)

def D1 (f : FA) (_ _ : World) (es : Array Event) : Prop := ∀ e ∈ es, EvI f.plan.ShP (f.z + 6 + 4 * f.m) e
theorem t1 (f : FA) : Terms R0 (D1 f) := ⟨R0.trans, fun _ e he => by simp at he⟩
theorem d1_read {f : FA} (hO : f.Ok) (w w' : World) : D1 f w w' #[⟨.cell ⟨f.z + 3, 0, none⟩, false, false⟩] := by
  intro e he
  rw [Array.mem_singleton] at he
  subst he
  refine ⟨fun x hx h => ?_, by simp, by simp, fun x hx => ?_⟩ <;> simp only [ofEvent_cell, MemAct.touch?, Option.some.injEq] at hx <;> subst hx
  · rcases h with h | ⟨a, e, ha⟩
    · obtain ⟨a, e, hz, _⟩ := hO.sh _ h
      cases e
      have hz' : f.z + 3 < f.z := hz
      omega
    · cases e
      simp only [FA.plan] at ha
      omega
  · show f.z + 3 < f.z + 6 + 4 * f.m
    omega
def FT (f : FA) (H : Array Obj) (w : World) : Prop := FH f w ∧ w.heap = H
theorem FT.r0 {f : FA} {H : Array Obj} {w w₁ : World} (h : FT f H w) (r : R0 w w₁) : FT f H w₁ := ⟨FL.r0 h.1 r, by obtain ⟨d, rfl⟩ := r; exact h.2⟩

set_option maxRecDepth 100000 in
set_option maxHeartbeats 4000000 in
theorem fa_tail {f : FA} (hO : f.Ok) {c : Frame} {cs : List Frame} {g : Goroutine} {w' : World} (h : Anch f c cs g w') :
    Way Try.prog true R0 (D1 f) (fun g w => g = G (c.finish (.slice (some ⟨f.z + 2, 0, none⟩) f.n f.n)) cs ∧ FT f w'.heap w) g w' := by
  obtain ⟨a, ⟨TT, rfl, hT, t5⟩, m, hG⟩ := h
  have hk := GoesF.keep (I := fun w => w.heap = w'.heap) (R' := R0) (D' := D1 f) (fun w w₁ r => by obtain ⟨d, rfl⟩ := r; exact RC.at w d) (fun w w₁ hI r => by obtain ⟨d, rfl⟩ := r; exact hI) (fun w w₁ es hI h => by obtain ⟨rfl, rfl⟩ := h; exact ⟨fun e he => by simp at he, hI⟩) (GoesF.of_goes hG) rfl
  refine Way.trans R0.refl ⟨_, hk⟩ fun g w ⟨⟨hg, hFH, _⟩, hH⟩ => ?_
  subst hg
  clear hk hG
  have hF : FT f w'.heap w := ⟨hFH, hH⟩
  clear hFH hH
  obtain ⟨v0, v1, v2, v3, v4, v5, v6, v7, v8, v9, v10, v11, v12, v13, v14, v15, v16, v17, v18, v19, v20, v21, v22, v23, v24, v25, v26, v27, v28, v29, v30, v31, v32, v33, v34, v35, rfl⟩ := arr36 TT hT
  simp only [List.getElem?_toArray, List.getElem?_cons_succ, List.getElem?_cons_zero, Option.some.injEq] at t5
  subst t5
  clear hT
  simp only [ops11, F33, E33, body33, Try.f33, Option.getD_some]
  walk_nrm
  refine Way.ctl (t1 f) rfl (fun _ => stepG_region_end) ?_
  refine Way.ctl (t1 f) rfl (fun _ => stepG_seq) ?_
  refine Way.ctl (t1 f) rfl (fun _ => stepG_region) ?_
  simp only [List.size_toArray, List.length_cons, List.length_nil, Nat.reduceAdd, Nat.zero_add, List.range, List.range.loop]
  refine Way.step rfl (fun w₁ h₁ => ?_)
  replace hF := hF.r0 h₁
  clear h₁
  refine goes_oper_k rfl rfl (by k_ne) (fun K hK => ?_)
  have hl := hF.1.cell (i := 3) (v := .slice (some ⟨f.z + 2, 0, none⟩) f.n f.n) (T := 22) (by omega) (gh3 f f.m)
  go_simp
  refine hK _ _ ⟨by rw [listed_cell (ad := ⟨f.z + 3, 0, none⟩) (wr := false) loud33 (by simp [go_sem, hl])]; exact d1_read hO _ _, ?_⟩
  clear hK K hl
  refine Way.step rfl (fun w₁ h₁ => ?_)
  replace hF := hF.r0 h₁
  clear h₁
  refine goes_oper_k rfl rfl (by k_ne) (fun K hK => ?_)
  go_simp
  refine hK _ _ ⟨by rw [listed_nil (by simp [go_sem, *])]; exact fun e he => by simp at he, ?_⟩
  clear hK K
  refine Way.ctl (t1 f) rfl (fun _ => stepG_region_end) ?_
  refine Way.ctl (t1 f) rfl (fun _ => stepG_ret') ?_
  refine Way.step rfl (fun w₁ h₁ => ?_)
  replace hF := hF.r0 h₁
  clear h₁
  rw [stepG_leave rfl rfl Try.func33 (results_tmp rfl _ Try.prog w₁) (events_results_tmp rfl _ _)]
  exact ⟨fun e he => by simp at he, .stop fun w₂ h₂ => ⟨rfl, hF.r0 h₂⟩⟩
end Go.Proofs.Ytpioacgknamemaa
