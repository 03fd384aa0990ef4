/- A worker of FindAll, whole: as a phase asks for it. -/
import Derived.Test.YtpioacgknamemaaBorn
set_option linter.unusedSectionVars false
namespace Go.Proofs.Ytpioacgknamemaa
open Go Go.RowKit Go.Conc Go.ConcN Go.ConcN.Gen Go.Conc.Lib Go.ConcR.Gen
open Go.ConcR (KK wgBlock WgAt stA smA rd wr mk Payload Aside2 DC0)

section
variable {P : Program} {main : Bool} {R R' : World → World → Prop} {D D' : World → World → Array Event → Prop} {Stop : Goroutine → World → Prop} {I : World → Prop}
/-- Under a narrower rely, with what is kept. -/
theorem GoesF.keep (hR : ∀ w w₁, R' w w₁ → R w w₁) (hI : ∀ w w₁, I w → R' w w₁ → I w₁) (hD : ∀ w w' es, I w → D w w' es → D' w w' es ∧ I w') {F : Fuel} : ∀ {g : Goroutine} {w : World}, GoesF P main R D Stop F g w → I w → GoesF P main R' D' (fun g w => Stop g w ∧ I w) F g w := by
  induction F with
  | leaf => exact fun h i w₁ h₁ => ⟨h w₁ (hR _ _ h₁), hI _ _ i h₁⟩
  | node f ih =>
    rintro g w (h | ⟨hs, h⟩) i
    · exact .inl fun w₁ h₁ => ⟨h w₁ (hR _ _ h₁), hI _ _ i h₁⟩
    · refine .inr ⟨hs, fun w₁ h₁ => ?_⟩
      have := h w₁ (hR _ _ h₁)
      revert this
      cases stepG P main g w₁ <;> simp only [GStep.goes, imp_self]
      exact fun ⟨d, x⟩ => ⟨(hD _ _ _ (hI _ _ i h₁) d).1, ih w₁ x (hD _ _ _ (hI _ _ i h₁) d).2⟩
end

section
variable {p : Plan} {M k : Nat} {w w' : World} {es : Array Event}

theorem dwk_of (hF : p.Fits M) (hk : p.J0 ≤ k) (hM : k < M) (h : DWs p.Wg (fun _ => p.Own k) (fun _ => p.Rd k) p.C p.N (p.lo k + 1) w w' es) : p.DWk k w w' es := by
  obtain ⟨ha, hev⟩ := h
  have hne := hF.ne k hk hM
  refine ⟨ha.tape, ha.os, ha.output, ha.size, ha.block, fun hp => ?_, fun o ho => ha.cells o (fun e => ho ⟨by rw [e]; exact Nat.le_refl _, by rw [e]; exact hne⟩), fun e he => ⟨fun x hx => ((hev e he).1 0 "").2 x hx, (hev e he).2⟩⟩
  have := ha.pay
  simp only [Plan.Pay, hF.pty] at hp ⊢
  exact this hp

/-- From Add(-1)'s entry to the release. -/
theorem add_way (hP : p.P = Try.prog) (hty : p.ty = 82) (hF : p.Fits M) (hk : p.J0 ≤ k) (hM : k < M) {g : Goroutine} (hg : AtAdd p.Wg g) (hl : WgLive 82 p.Wg w) (hh : p.HasAll k w) : p.Works k g w := by
  obtain ⟨b₀, a₀, ops₀, i₀, rest₀, k₀, cs, qt, rfl, hq⟩ := hg
  have hne := hF.ne k hk hM
  have hA := @addNegN _ link Try.prog wgLib (fun _ => p.Own k) (fun _ => p.Rd k) p.Wg p.C p.N 0 (p.lo k + 1) (p.val (p.lo k)) _ _ _ _ _ _ _ _ hq w ⟨hl, hh _ (Nat.le_refl _) hne⟩
  unfold Plan.Works
  rw [hP]
  have hB := GoesF.keep (I := fun w => ∀ o, p.lo k ≤ o → o < p.hi k → o ≠ p.lo k → w.cell? ⟨p.C, o, none⟩ = some (p.val o)) (R' := p.RelW k) (D' := p.DWk k) (fun w w₁ h => by have := Plan.RelW.dummy hF hk hM h; rw [Plan.RelD, hty] at this; exact this)
    (fun w w₁ i h o h1 h2 h3 => (h.cell o h1 h2).trans (i o h1 h2 h3)) (fun w w' es i h => ⟨dwk_of hF hk hM h, fun o h1 h2 h3 => (h.1.cells o h3).trans (i o h1 h2 h3)⟩) (GoesF.of_goes hA) (fun o h1 h2 _ => hh o h1 h2)
  refine Way.mono (fun _ _ _ x => x) (fun g w ⟨h1, h2⟩ => ⟨by rw [hP, hty]; exact h1, fun o o1 o2 => ?_⟩) ⟨_, hB⟩
  by_cases e : o = p.lo k
  · rw [e]; exact h1.2.1
  · exact h2 o o1 o2 e
end
end Go.Proofs.Ytpioacgknamemaa
