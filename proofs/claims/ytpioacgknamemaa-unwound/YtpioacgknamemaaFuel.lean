/- A goroutine's way in company to a stop, without a bound that is one for all: the fuel is a tree. -/
import Derived.Test.YtpioacgknamemaaLift
import Derived.Conc.Company
namespace Go.Proofs.Ytpioacgknamemaa
open Go Go.RowKit Go.Conc Go.ConcN

inductive Fuel where
  | leaf
  | node (f : World → Fuel)

/-- Less by one step. -/
inductive Fuel.Lt : Fuel → Fuel → Prop
  | mk (f : World → Fuel) (w : World) : Fuel.Lt (f w) (.node f)

theorem Fuel.wf : WellFounded Fuel.Lt := by
  refine ⟨fun F => ?_⟩
  induction F with
  | leaf => exact ⟨_, fun y h => by cases h⟩
  | node f ih => exact ⟨_, fun y h => by cases h; exact ih _⟩

def Fuel.ofNat : Nat → Fuel
  | 0 => .leaf
  | n + 1 => .node fun _ => Fuel.ofNat n
theorem Fuel.ofNat_lt (n : Nat) : Fuel.Lt (Fuel.ofNat n) (Fuel.ofNat (n + 1)) := by
  have := Fuel.Lt.mk (fun _ => Fuel.ofNat n) (default : World)
  exact this

def GoesF (P : Program) (main : Bool) (R : World → World → Prop) (D : World → World → Array Event → Prop) (Stop : Goroutine → World → Prop) : Fuel → Goroutine → World → Prop
  | .leaf, g, w => ∀ w₁, R w w₁ → Stop g w₁
  | .node f, g, w => (∀ w₁, R w w₁ → Stop g w₁) ∨ (g.status = .running ∧ ∀ w₁, R w w₁ → (stepG P main g w₁).goes fun g' w' es => D w₁ w' es ∧ GoesF P main R D Stop (f w₁) g' w')

section
variable {P : Program} {main : Bool} {R : World → World → Prop} {D : World → World → Array Event → Prop} {Stop : Goroutine → World → Prop}

theorem GoesF.rely (trans : ∀ a b c, R a b → R b c → R a c) {F : Fuel} {g : Goroutine} {w w₁ : World} (h : GoesF P main R D Stop F g w) (hr : R w w₁) : GoesF P main R D Stop F g w₁ := by
  cases F with
  | leaf => exact fun w₂ h₂ => h w₂ (trans _ _ _ hr h₂)
  | node f =>
    rcases h with h | ⟨hs, h⟩
    · exact .inl fun w₂ h₂ => h w₂ (trans _ _ _ hr h₂)
    · exact .inr ⟨hs, fun w₂ h₂ => h w₂ (trans _ _ _ hr h₂)⟩

theorem GoesF.of_goes : ∀ {n : Nat} {g : Goroutine} {w : World}, Goes P main R D Stop n g w → GoesF P main R D Stop (.ofNat n) g w
  | 0, _, _, h => h
  | n + 1, g, w, h => by
    rcases h with h | ⟨hs, h⟩
    · exact .inl h
    · refine .inr ⟨hs, fun w₁ h₁ => ?_⟩
      have := h w₁ h₁
      revert this
      cases stepG P main g w₁ <;> simp only [GStep.goes, imp_self]
      exact fun ⟨d, x⟩ => ⟨d, GoesF.of_goes x⟩

/-- It is at its stop, or takes a step. -/
theorem GoesF.cases (refl : ∀ w, R w w) {F : Fuel} {g : Goroutine} {w : World} (h : GoesF P main R D Stop F g w) : (∀ w₁, R w w₁ → Stop g w₁) ∨ (g.status = .running ∧ ∃ f, F = .node f ∧ ∃ g' w' es, stepG P main g w = .go g' w' es ∧ D w w' es ∧ GoesF P main R D Stop (f w) g' w') := by
  cases F with
  | leaf => exact .inl h
  | node f =>
    rcases h with h | ⟨hs, h⟩
    · exact .inl h
    · refine .inr ⟨hs, f, rfl, ?_⟩
      have := h w (refl w)
      revert this
      cases stepG P main g w <;> simp only [GStep.goes, false_implies]
      exact fun ⟨d, x⟩ => ⟨_, _, _, rfl, d, x⟩

theorem GoesF.running (refl : ∀ w, R w w) (hs : ∀ g w, Stop g w → g.status = .running) {F : Fuel} {g : Goroutine} {w : World} (h : GoesF P main R D Stop F g w) : g.status = .running := by
  rcases h.cases refl with h | ⟨h, _⟩
  · exact hs g w (h w (refl w))
  · exact h

def Way (P : Program) (main : Bool) (R : World → World → Prop) (D : World → World → Array Event → Prop) (Stop : Goroutine → World → Prop) (g : Goroutine) (w : World) : Prop := ∃ F, GoesF P main R D Stop F g w

theorem Way.of_goes {n : Nat} {g : Goroutine} {w : World} (h : Goes P main R D Stop n g w) : Way P main R D Stop g w := ⟨_, .of_goes h⟩
theorem Way.stop {g : Goroutine} {w : World} (h : ∀ w₁, R w w₁ → Stop g w₁) : Way P main R D Stop g w := ⟨.leaf, h⟩
theorem Way.step {g : Goroutine} {w : World} (hs : g.status = .running) (h : ∀ w₁, R w w₁ → (stepG P main g w₁).goes fun g' w' es => D w₁ w' es ∧ Way P main R D Stop g' w') : Way P main R D Stop g w := by
  classical
  have hx : ∀ w₁, R w w₁ → ∃ F, (stepG P main g w₁).goes fun g' w' es => D w₁ w' es ∧ GoesF P main R D Stop F g' w' := by
    intro w₁ h₁
    have := h w₁ h₁
    revert this
    cases stepG P main g w₁ <;> simp only [GStep.goes, false_implies]
    rintro ⟨d, F, x⟩
    exact ⟨F, d, x⟩
  refine ⟨.node fun w₁ => if h₁ : R w w₁ then (hx w₁ h₁).choose else .leaf, .inr ⟨hs, fun w₁ h₁ => ?_⟩⟩
  simp only [dif_pos h₁]
  exact (hx w₁ h₁).choose_spec
theorem Way.rely (trans : ∀ a b c, R a b → R b c → R a c) {g : Goroutine} {w w₁ : World} (h : Way P main R D Stop g w) (hr : R w w₁) : Way P main R D Stop g w₁ := let ⟨F, x⟩ := h; ⟨F, x.rely trans hr⟩

/-- On from the stop. -/
theorem Way.trans (refl : ∀ w, R w w) {Stop' : Goroutine → World → Prop} {g : Goroutine} {w : World} (h : Way P main R D Stop g w) (hk : ∀ g w, Stop g w → Way P main R D Stop' g w) : Way P main R D Stop' g w := by
  obtain ⟨F, h⟩ := h
  induction F generalizing g w with
  | leaf => exact hk g w (h w (refl w))
  | node f ih =>
    rcases h with h | ⟨hs, h⟩
    · exact hk g w (h w (refl w))
    · refine .step hs fun w₁ h₁ => ?_
      have := h w₁ h₁
      revert this
      cases stepG P main g w₁ <;> simp only [GStep.goes, imp_self]
      exact fun ⟨d, x⟩ => ⟨d, ih w₁ x⟩
end

/-! ### The measure of a crowd: one component goes down, the others stand -/
def Dec (M : Nat) (F' F : Nat → Fuel) : Prop := ∃ k, k < M ∧ Fuel.Lt (F' k) (F k) ∧ ∀ i, i ≠ k → F' i = F i

theorem Dec.wf (M : Nat) : WellFounded (Dec M) := by
  induction M with
  | zero => exact ⟨fun F => ⟨_, fun y h => by obtain ⟨k, hk, _⟩ := h; omega⟩⟩
  | succ M ih =>
    refine ⟨fun F => ?_⟩
    -- lexicographic: the last component, then the others
    generalize hx : F M = x
    induction x using Fuel.wf.induction generalizing F with
    | _ x ihx =>
      have key : ∀ F : Nat → Fuel, F M = x → Acc (Dec (M + 1)) F := by
        intro F
        induction F using ih.induction with
        | _ F ihF =>
          intro hF
          refine ⟨_, fun F' h => ?_⟩
          obtain ⟨k, hk, hlt, hsame⟩ := h
          by_cases e : k = M
          · subst e
            exact ihx (F' k) (by rw [← hF]; exact hlt) F' rfl
          · exact ihF F' ⟨k, by omega, hlt, hsame⟩ (by rw [hsame M (fun h => e h.symm)]; exact hF)
      exact key F hx

def Mu (M : Nat) (a b : Nat × (Nat → Fuel)) : Prop := a.1 < b.1 ∨ (a.1 = b.1 ∧ Dec M a.2 b.2)
theorem Mu.wf (M : Nat) : WellFounded (Mu M) := by
  refine ⟨fun ⟨n, F⟩ => ?_⟩
  induction n using Nat.strongRecOn generalizing F with
  | _ n ih =>
    induction F using (Dec.wf M).induction with
    | _ F ihF =>
      refine ⟨_, fun ⟨n', F'⟩ h => ?_⟩
      rcases h with h | ⟨h1, h2⟩
      · exact ih n' h F'
      · obtain rfl : n' = n := h1
        exact ihF F' h2
end Go.Proofs.Ytpioacgknamemaa
