/- FindAll: what its starter knows of the blocks that it made; what its steps list. -/
import Derived.Test.YtpioacgknamemaaFa
set_option linter.unusedSectionVars false
namespace Go.Proofs.Ytpioacgknamemaa
open Go Go.RowKit Go.Conc Go.ConcN Go.ConcN.Gen Go.Conc.Lib Go.ConcR.Gen
open Go.ConcR (KK wgBlock WgAt stA smA rd wr mk ofEvent_cell Payload Aside2 DC0)

/-- len blocks have been made behind the first z; block z + i is 'g i', if that is told. -/
structure FL (f : FA) (len : Nat) (g : Nat → Option Obj) (w : World) : Prop where
  size : w.heap.size = f.z + len
  old : ∀ r, r < f.z → w.heap[r]? = f.w0.heap[r]?
  at' : ∀ i o, i < len → g i = some o → w.heap[f.z + i]? = some o
  tape : w.tape = f.w0.tape
  os : w.os = f.w0.os
  output : w.output = f.w0.output

section
variable {f : FA} {len i n : Nat} {g : Nat → Option Obj} {w w₁ : World}

theorem FL.cell {v : Value} {T : TypeId} (h : FL f len g w) (hi : i < len) (hg : g i = some (.cells #[v] T)) : w.cell? ⟨f.z + i, 0, none⟩ = some v := by simp [World.cell?, h.at' i _ hi hg]
theorem FL.thaw {v : Value} {T : TypeId} (h : FL f len g w) (hi : i < len) (hg : g i = some (.cells #[v] T)) : w.frozen? ⟨f.z + i, 0, none⟩ = false := by simp [World.frozen?, h.at' i _ hi hg]
theorem FL.at (h : FL f len g w) (d : Nat) : FL f len g (w.at d) := ⟨h.size, h.old, h.at', h.tape, h.os, h.output⟩
theorem FL.alloc (h : FL f len g w) (o : Obj) : FL f (len + 1) (upd g len (some o)) (w.alloc o) := by
  have hs := h.size
  refine ⟨by rw [World.alloc, Array.size_push]; omega, fun r hr => ?_, fun i o' hi hg => ?_, h.tape, h.os, h.output⟩
  · rw [World.alloc, Array.getElem?_push_lt (by omega), ← Array.getElem?_eq_getElem]; exact h.old r hr
  · by_cases e : i = len
    · subst e
      rw [upd_same] at hg
      rw [World.alloc, ← hs, Array.getElem?_push_size]
      exact hg
    · rw [upd_ne g _ e] at hg
      rw [World.alloc, Array.getElem?_push_lt (by omega), ← Array.getElem?_eq_getElem]
      exact h.at' i o' (by omega) hg
theorem FL.store {v v' : Value} {T : TypeId} (h : FL f len g w) (hi : i < len) (hg : g i = some (.cells #[v] T)) : FL f len (upd g i (some (.cells #[v'] T))) (w.setCell ⟨f.z + i, 0, none⟩ v') := by
  have hA := aside_setCell w ⟨f.z + i, 0, none⟩ v'
  have hb := h.at' i _ hi hg
  have e : (w.setCell ⟨f.z + i, 0, none⟩ v').heap[f.z + i]? = some (.cells #[v'] T) := by
    rw [setCell_eq_setRow w (f.z + i) 0 #[v] T (0, 0) _ hb, setRow_heap w (f.z + i) _ _ T _ hb]
    simp
  refine ⟨hA.size.trans h.size, fun r hr => (hA.block r (by simp; omega)).trans (h.old r hr), fun j o hj hgj => ?_, hA.tape.trans h.tape, hA.os.trans h.os, hA.output.trans h.output⟩
  by_cases ej : j = i
  · subst ej; rw [upd_same] at hgj; cases hgj; exact e
  · rw [upd_ne g _ ej] at hgj
    exact (hA.block _ (by simp; omega)).trans (h.at' j o hj hgj)
theorem FL.rc (h2 : g 2 = none) (h4 : g 4 = none) (h : FL f len g w) (r : RC 82 (f.z + 4) (f.z + 2) w w₁) : FL f len g w₁ := by
  refine ⟨r.aside.size.trans h.size, fun x hx => (r.aside.block x (by omega) (by omega)).trans (h.old x hx), fun i o hi hg => (r.aside.block _ ?_ ?_).trans (h.at' i o hi hg), r.aside.tape.trans h.tape, r.aside.os.trans h.os, r.aside.output.trans h.output⟩
  · intro e
    have : i = 2 := by omega
    subst this; rw [h2] at hg; cases hg
  · intro e
    have : i = 4 := by omega
    subst this; rw [h4] at hg; cases hg
theorem FL.weaken {g' : Nat → Option Obj} (h : FL f len g w) (hg : ∀ i, i < len → g' i = g i ∨ g' i = none) : FL f len g' w :=
  ⟨h.size, h.old, fun i o hi hgi => (hg i hi).elim (fun e => h.at' i o hi (e ▸ hgi)) (fun e => by rw [e] at hgi; cases hgi), h.tape, h.os, h.output⟩

/-! ### in company -/
theorem evS_cell (hO : f.Ok) (hi : i < 6 + 4 * f.m) (h2 : i ≠ 2) (h4 : i ≠ 4) {wr : Bool} (hw : wr = true → ∀ k, f.J0 ≤ k → k < n → f.z + 9 + 4 * (k - f.J0) ≤ f.z + i) : f.plan.EvS n ⟨.cell ⟨f.z + i, 0, none⟩, wr, false⟩ := by
  refine ⟨fun x hx => .inr ?_, by simp, by simp, by simp⟩
  simp only [ofEvent_cell, MemAct.touch?, Option.some.injEq] at hx
  subst hx
  refine ⟨fun h => ?_, show f.z + i < f.z + 6 + 4 * f.m by omega, fun k _ ⟨_, o, _, _, e⟩ => ?_, fun hwr k hk ⟨hJ, a, e, hl, _⟩ => ?_⟩
  · rcases h with h | ⟨a, e, ha⟩
    · obtain ⟨a, e, hz, _⟩ := hO.sh _ h
      cases e
      have hz' : f.z + i < f.z := hz
      omega
    · cases e
      simp only [FA.plan] at ha
      omega
  · have e1 := congrArg (fun l => match l with | Loc.cell a => a.block | _ => 0) e
    simp only [FA.plan] at e1
    omega
  · cases e
    have := hw (by simpa using hwr) k hJ hk
    simp only [FA.plan] at hl
    omega

theorem dst_none (n : Nat) (w : World) : f.plan.DSt n w w #[] := ⟨fun _ _ _ _ _ => rfl, rfl, rfl, by simp⟩
theorem dst_read (hO : f.Ok) (hi : i < 6 + 4 * f.m) (h2 : i ≠ 2) (h4 : i ≠ 4) (w : World) : f.plan.DSt n w w #[⟨.cell ⟨f.z + i, 0, none⟩, false, false⟩] :=
  ⟨fun _ _ _ _ _ => rfl, rfl, rfl, fun e he => by rw [Array.mem_singleton] at he; subst he; exact evS_cell hO hi h2 h4 (by simp)⟩
theorem dst_write (hO : f.Ok) (hi : i < 6 + 4 * f.m) (h5 : 5 ≤ i) (hw : ∀ k, f.J0 ≤ k → k < n → f.z + 9 + 4 * (k - f.J0) ≤ f.z + i) (w : World) (v : Value) : f.plan.DSt n w (w.setCell ⟨f.z + i, 0, none⟩ v) #[⟨.cell ⟨f.z + i, 0, none⟩, true, false⟩] := by
  have hA := aside_setCell w ⟨f.z + i, 0, none⟩ v
  refine ⟨fun k h1 h2 b hb => hA.block b ?_, hA.block _ ?_, hA.block _ ?_, fun e he => by rw [Array.mem_singleton] at he; subst he; exact evS_cell hO hi (by omega) (by omega) (fun _ => hw)⟩
  · have := hw k h1 h2
    simp only [FA.plan] at hb
    simp only
    omega
  · simp [FA.plan]; omega
  · simp [FA.plan]; omega
theorem dst_alloc (hs : w.heap.size = f.z + len) (h6 : 5 ≤ len) (hw : ∀ k, f.J0 ≤ k → k < n → f.z + 9 + 4 * (k - f.J0) ≤ f.z + len) (o : Obj) : f.plan.DSt n w (w.alloc o) #[] := by
  refine ⟨fun k h1 h2 b hb => ?_, ?_, ?_, by simp⟩
  · have := hw k h1 h2
    simp only [FA.plan] at hb
    rw [World.alloc, Array.getElem?_push_lt (by omega), ← Array.getElem?_eq_getElem]
  · simp only [FA.plan]
    rw [World.alloc, Array.getElem?_push_lt (by omega), ← Array.getElem?_eq_getElem]
  · simp only [FA.plan]
    rw [World.alloc, Array.getElem?_push_lt (by omega), ← Array.getElem?_eq_getElem]

/-! ### ahead of the phase: alone beside leavers -/
def R0 (w w₁ : World) : Prop := ∃ d, w₁ = w.at d
theorem R0.refl (w : World) : R0 w w := ⟨w.drawn, rfl⟩
theorem R0.trans (a b c : World) (h : R0 a b) (k : R0 b c) : R0 a c := by obtain ⟨_, rfl⟩ := h; obtain ⟨d, rfl⟩ := k; exact ⟨d, rfl⟩
def D0 (f : FA) (_ _ : World) (es : Array Event) : Prop := ∀ e ∈ es, EvI f.Sh (f.z + 6) e ∧ ∀ x, (MemAct.ofEvent e).touch? = some x → ¬ ShN (f.z + 4) x.loc
theorem FL.r0 (h : FL f len g w) (r : R0 w w₁) : FL f len g w₁ := by obtain ⟨d, rfl⟩ := r; exact h.at d
theorem t0 (f : FA) : Terms R0 (D0 f) := ⟨R0.trans, fun _ e he => by simp at he⟩
theorem d0_cell (hO : f.Ok) (hi : i < 6) (h4 : i ≠ 4) (w w' : World) (wr : Bool) : D0 f w w' #[⟨.cell ⟨f.z + i, 0, none⟩, wr, false⟩] := by
  intro e he
  rw [Array.mem_singleton] at he
  subst he
  refine ⟨⟨fun x hx h => ?_, by simp, by simp, fun x hx => ?_⟩, fun x hx h => ?_⟩ <;> simp only [ofEvent_cell, MemAct.touch?, Option.some.injEq] at hx <;> subst hx
  · obtain ⟨a, e, hz, _⟩ := hO.sh _ h
    cases e
    have hz' : f.z + i < f.z := hz
    omega
  · show f.z + i < f.z + 6
    omega
  · obtain ⟨a, e, ha⟩ := h
    cases e
    simp at ha
    omega
theorem d0_room (w w' : World) {es : Array Event} (h : ∀ e ∈ es, e.loc = .mark .noRoom) : D0 f w w' es := by
  intro e he
  obtain ⟨loc, wr, sy⟩ := e
  have := h _ he
  simp only at this
  subst this
  exact ⟨⟨fun x hx => by simp [MemAct.ofEvent, MemAct.touch?] at hx, by simp, by simp, fun x hx => by simp [MemAct.ofEvent, MemAct.touch?] at hx⟩, fun x hx => by simp [MemAct.ofEvent, MemAct.touch?] at hx⟩
end
end Go.Proofs.Ytpioacgknamemaa
