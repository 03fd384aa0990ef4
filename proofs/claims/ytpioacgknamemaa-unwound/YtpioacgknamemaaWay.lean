/- A contract that was proved alone, in company: for a goroutine that only reads. -/
import Derived.Test.YtpioacgknamemaaFuel
namespace Go.Proofs.Ytpioacgknamemaa
open Go Go.RowKit Go.Conc Go.ConcN
section
variable {P : Program} {T : Goroutine → World → Prop} {S X : FuncId → Bool} {k0 k : List Item} {cs : List Frame} {κ : Nat → Kd}

theorem done_no_step (hE : AtEndOnly T) {ĝ g g1 : Goroutine} {u u1 : World} {es : Array Event} (hD : Done0 P k0 k [cc] cs ĝ g) (hs : stepG P true ĝ u = .go g1 u1 es) (hr : Reach P T g1 u1) : False := by
  rcases hD with ⟨b, a, todo, h1, h2, h3, rfl, _⟩ | ⟨e1, b, a, h1, h2, h3, rfl, _⟩
  · obtain ⟨fn, hfn⟩ := Option.isSome_iff_exists.1 h1
    cases hx : (Go.results fn a.tmps).run P u with
    | halt h u' =>
      have := stepG_backHalts (main := true) (todo := todo ++ k0) (c := cc) (cs := []) h3 hfn hx
      rw [hs] at this
      exact this
    | ok v u' =>
      have e := stepG_back (main := true) (todo := todo ++ k0) (c := cc) (cs := []) h2 h3 hfn hx
      rw [hs] at e
      simp only [GStep.go.injEq] at e
      rw [e.1, cc_finish] at hr
      exact not_reach_cc hE _ hr
  · subst e1
    have : EndsNow (stepG P true (G (b.at a [.code (.refuse "")]) [cc]) u) := by simp [G, Frame.at, stepG, stepG.exec, EndsNow]
    rw [hs] at this
    exact this

theorem reach_size (hT : Tame P S X) (hkk : (k0 = [] ∧ k = []) ∨ k0 = [.code (.refuse "")]) (hE : AtEndOnly T) {N0 : Nat} (hTs : ∀ ĝ u, T ĝ u → u.heap.size = N0) {ĝ : Goroutine} {u : World} (hR : Reach P T ĝ u) :
    ∀ g, (Live P S X k0 k [cc] cs ĝ g ∨ Done0 P k0 k [cc] cs ĝ g) → View κ u u → u.heap.size ≤ N0 := by
  induction hR with
  | here h => intro g _ _; rw [hTs _ _ h]; exact Nat.le_refl _
  | @step ĝ u g1 u1 es1 hnd hs hr ih =>
    intro g hL hV
    rcases hL with hL | hD
    · obtain ⟨ĝ2, g2, u2, es2, r1, r2, r3, _⟩ := (live_step hT (hV.tp u.tape u.tape 0 0) hkk hL (main := true)).resolve_right (hnd _ _)
      rw [hs] at r1
      cases r1
      exact Nat.le_trans r3.hs (ih u.tape 0 g2 r2 r3.self)
    · exact (done_no_step hE hD (hs u.tape 0) (hr u.tape 0)).elim

/-- ████ Alone it comes to its end and makes nothing: so it does in company, as long as the company keeps what it sees. ████ -/
theorem way_of_reach (hT : Tame P S X) (hkk : (k0 = [] ∧ k = []) ∨ k0 = [.code (.refuse "")]) (hE : AtEndOnly T) (hTF : ∀ ĝ g u, T ĝ u → Live P S X k0 k [cc] cs ĝ g → False) {N0 : Nat} (hTs : ∀ ĝ u, T ĝ u → u.heap.size = N0)
    {main : Bool} {R : World → World → Prop} {D : World → World → Array Event → Prop} (hRV : ∀ u w w₁, u.heap.size = N0 → View κ u w → R w w₁ → View κ u w₁)
    (hD : ∀ u w₁ u' w' es, u.heap.size = N0 → u'.heap.size = N0 → View κ u w₁ → Mv κ u w₁ u' w' → (∀ e ∈ es, EvOk κ N0 e) → D w₁ w' es) {ĝ : Goroutine} {u : World} (hR : Reach P T ĝ u) :
    ∀ g w, (Live P S X k0 k [cc] cs ĝ g ∨ Done0 P k0 k [cc] cs ĝ g) → View κ u w → u.heap.size = N0 →
      Way P main R D (fun g' w' => ∃ ĝ' u', Done0 P k0 k [cc] cs ĝ' g' ∧ T ĝ' u' ∧ View κ u' w' ∧ u'.heap.size = N0) g w := by
  induction hR with
  | @here ĝ u h =>
    intro g w hL hV hz
    rcases hL with hL | hDn
    · exact (hTF _ _ _ h hL).elim
    · exact .stop fun w₁ h₁ => ⟨ĝ, u, hDn, h, hRV _ _ _ hz hV h₁, hz⟩
  | @step ĝ u g1 u1 es1 hnd hs hr ih =>
    intro g w hL hV hz
    rcases hL with hL | hDn
    · refine .step (live_run hL) fun w₁ h₁ => ?_
      have hV1 := hRV _ _ _ hz hV h₁
      obtain ⟨ĝ2, g2, u2, es2, r1, r2, r3, r4⟩ := (live_step hT (hV1.tp w₁.tape w₁.tape w₁.drawn w₁.drawn) hkk hL (main := main)).resolve_right (hnd _ _)
      rw [hs] at r1
      cases r1
      have hz1 : (u1 w₁.tape w₁.drawn).heap.size = N0 := by
        have h1 := r3.hs
        have h2 := reach_size (κ := κ) hT hkk hE hTs (hr w₁.tape w₁.drawn) g2 r2 r3.self
        simp only [tp] at h1
        omega
      obtain ⟨w2, s1, s2, s3⟩ := r4 ⟨.inl (by rw [hz1]; exact hz.symm), fun _ _ => rfl⟩
      have e1 : tp w₁ w₁.tape w₁.drawn = w₁ := rfl
      rw [e1] at s1
      rw [s1]
      refine ⟨hD (tp u w₁.tape w₁.drawn) w₁ _ w2 _ hz hz1 (hV1.tp w₁.tape w₁.tape w₁.drawn w₁.drawn) s2 (fun e he => by have := s3 e he; rwa [hz1] at this), ih w₁.tape w₁.drawn g2 w2 r2 s2.view hz1⟩
    · exact (done_no_step hE hDn (hs w.tape 0) (hr w.tape 0)).elim
end
end Go.Proofs.Ytpioacgknamemaa
