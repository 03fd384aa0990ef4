/- A phase: what holds at every moment, whoever stands where; a step of a worker's, a step of the starter's, a go statement. -/
import Derived.Test.YtpioacgknamemaaPhase
import Derived.Conc.CrowdStepW
import Derived.Conc.CrowdStepC2
import Derived.Conc.CrowdRun
set_option linter.unusedSectionVars false
namespace Go.Proofs.Ytpioacgknamemaa
open Go Go.RowKit Go.Conc Go.ConcN
open Go.ConcR (KK wgBlock WgAt stA smA rd wr Payload Aside2 DC0 g_of_ofEvents)

section
variable (p : Plan) [Payload]

inductive WS (k : Nat) : Nat → Fuel → Nat → Goroutine → World → Prop
  | work {F : Fuel} {g : Goroutine} {w : World} : p.J0 ≤ k → GoesF p.P false (p.RelW k) (p.DWk k) (p.AtRel0 k) F g w → WS k 7 F 0 g w
  | k1 {F : Fuel} {g : Goroutine} {w : World} : p.J0 ≤ k → GoesF p.P false (p.RelD k) DC0 (AtK1 p.P p.ty p.Wg p.C p.N 0 (p.lo k + 1)) F g w → WS k 6 F 0 g w
  | d1 {F : Fuel} {g : Goroutine} {w : World} : p.J0 ≤ k → GoesF p.P false (p.RelD k) DC0 (AtD1 p.P p.ty p.Wg p.C p.N 0 (p.lo k + 1)) F g w → WS k 5 F 1 g w
  | d2 {F : Fuel} {g : Goroutine} {w : World} : p.J0 ≤ k → GoesF p.P false (p.RelD k) DC0 (AtD2 p.P p.ty p.Wg p.C p.N 0 (p.lo k + 1)) F g w → WS k 4 F 1 g w
  | d3 {F : Fuel} {g : Goroutine} {w : World} : p.J0 ≤ k → GoesF p.P false (p.RelD k) DC0 (AtD3 p.P p.ty p.Wg p.C p.N 0 (p.lo k + 1)) F g w → WS k 3 F 1 g w
  | d4 {F : Fuel} {g : Goroutine} {w : World} : p.J0 ≤ k → GoesF p.P false (p.RelD k) DC0 (AtD4 p.P p.ty p.Wg) F g w → WS k 2 F 1 g w
  | quit {q d : Nat} {g : Goroutine} {w : World} : QuitsD p.P q d g → WS k 1 (.ofNat q) d g w

/-- Worker k has said its release; behind it it touches only what is shared. -/
def Rel1 (t : Trace) (p0 k : Nat) : Prop := ∃ r, p0 ≤ r ∧ RelBy (stA p.Wg) t k r ∧ ∀ (i : Nat) (op : MemOp) (x : Touch), r < i → t[i]? = some op → op.g = k → op.act.touch? = some x → p.ShP x.loc

structure Ph (M : Nat) (tag : CTag) (D : Nat → WD) (F : Nat → Fuel) (gs : Array Goroutine) (w : World) (t : Trace) (p0 : Nat) (sv sm : Int) : Prop where
  zero : (D 0).stage = 1
  J0le : p.J0 ≤ gs.size
  Mle : gs.size ≤ M
  wk : ∀ k, 1 ≤ k → k < gs.size → ∃ g, gs[k]? = some g ∧ WS p k (D k).stage (F k) (Deaf t k) g w
  above : ∀ k, gs.size ≤ k → Deaf t k = 0
  ct : CT p.ShP p.Own p.Rd t (gs.size - 1)
  known : ∀ (i : Nat) (op : MemOp) (x : Touch), t[i]? = some op → op.act.touch? = some x → ¬ p.ShP x.loc → op.g < p.J0 → Knows t 0 i
  over : ∀ i g, t.g? i = some g → g ≠ 0 → g < p.J0 → t.counts i → ∃ k, t.g? k = some 0 ∧ HappensBefore t i k
  low : ∀ op ∈ t, ∀ x, op.act.touch? = some x → x.loc.low p.B
  norel : ∀ i, p0 ≤ i → t.act? i ≠ some (.mark (.release (stA p.Wg)))
  p0le : p0 ≤ t.size
  rel : ∀ k, p.J0 ≤ k → k < gs.size → (D k).stage ≤ 6 → Rel1 p t p0 k
  has : ∀ k, p.J0 ≤ k → k < gs.size → (D k).stage ≤ 6 → p.HasAll k w
  pay : p.Pay w
  wg : WgAt p.ty p.Wg w sv sm
  mode : ConcN.Mode gs.size D tag sv sm
end

section
variable {p : Plan} [Payload] {M : Nat}

theorem Plan.RelW.refl (k : Nat) (w : World) : p.RelW k w w := ⟨fun _ _ _ _ => rfl, id, id, fun _ _ _ => rfl⟩
theorem Plan.RelW.trans {k : Nat} {a b c : World} (h : p.RelW k a b) (h' : p.RelW k b c) : p.RelW k a c :=
  ⟨fun x h1 h2 h3 => (h'.low x h1 h2 h3).trans (h.low x h1 h2 h3), h'.live ∘ h.live, h'.pay ∘ h.pay, fun o h1 h2 => (h'.cell o h1 h2).trans (h.cell o h1 h2)⟩
theorem Plan.RelW.at (k : Nat) (w : World) (d : Nat) : p.RelW k w (w.at d) := ⟨fun _ _ _ _ => rfl, id, id, fun _ _ _ => rfl⟩
theorem Plan.RelW.dummy (hF : p.Fits M) {k : Nat} (hk : p.J0 ≤ k) (hM : k < M) {w w₁ : World} (h : p.RelW k w w₁) : p.RelD k w w₁ := by
  have hp := h.pay
  simp only [Plan.Pay, hF.pty] at hp
  exact ⟨fun b hb => absurd hb (Nat.not_lt_zero b), h.live, hp, h.cell _ (Nat.le_refl _) (hF.ne k hk hM)⟩
theorem Plan.RelW.of_blocks {k : Nat} {w w₁ : World} (h : ∀ b, b < p.Lw k → b ≠ p.Wg → w₁.heap[b]? = w.heap[b]?) (hl : WgLive p.ty p.Wg w → WgLive p.ty p.Wg w₁) (hc : w₁.heap[p.C]? = w.heap[p.C]?) : p.RelW k w w₁ :=
  ⟨fun b h1 h2 _ => h b h1 h2, hl, fun ⟨cs, h1, h2⟩ => ⟨cs, hc.trans h1, h2⟩, fun o _ _ => cell_of_block hc o⟩

theorem relW_trans (k : Nat) (a b c : World) (h : p.RelW k a b) (h' : p.RelW k b c) : p.RelW k a c := Plan.RelW.trans h h'
theorem relD_trans {i : Nat} (a b c : World) (h : p.RelD i a b) (k : p.RelD i b c) : p.RelD i a c := RW.trans h k
theorem relD_refl {i : Nat} (a : World) : p.RelD i a a := RW.refl a

theorem WS.rely (hF : p.Fits M) {k s d : Nat} {F : Fuel} {g : Goroutine} {w w₁ : World} (hM : k < M) (h : WS p k s F d g w) (hr : p.J0 ≤ k → p.RelW k w w₁) : WS p k s F d g w₁ := by
  cases h with
  | work hk h => exact .work hk (h.rely (relW_trans k) (hr hk))
  | k1 hk h => exact .k1 hk (h.rely relD_trans ((hr hk).dummy hF hk hM))
  | d1 hk h => exact .d1 hk (h.rely relD_trans ((hr hk).dummy hF hk hM))
  | d2 hk h => exact .d2 hk (h.rely relD_trans ((hr hk).dummy hF hk hM))
  | d3 hk h => exact .d3 hk (h.rely relD_trans ((hr hk).dummy hF hk hM))
  | d4 hk h => exact .d4 hk (h.rely relD_trans ((hr hk).dummy hF hk hM))
  | quit h => exact .quit h

theorem WS.status {k s d : Nat} {F : Fuel} {g : Goroutine} {w : World} (h : WS p k s F d g w) : g.status = .running ∨ (g.status = .finished ∧ s = 1) := by
  cases h with
  | work hk h => exact .inl (h.running (Plan.RelW.refl k) (fun _ _ x => x.1.1))
  | k1 hk h => exact .inl (h.running relD_refl (fun _ _ x => x.1))
  | d1 hk h => exact .inl (h.running relD_refl (fun _ _ x => x.1))
  | d2 hk h => exact .inl (h.running relD_refl (fun _ _ x => x.1))
  | d3 hk h => exact .inl (h.running relD_refl (fun _ _ x => x.1))
  | d4 hk h => exact .inl (h.running relD_refl (fun _ _ x => x.1))
  | quit h => exact h.status.imp id (fun x => ⟨x, rfl⟩)

theorem WS.woken {k s d : Nat} {F : Fuel} {g : Goroutine} {w : World} (h : WS p k s F d g w) (a a' : Goroutine) (w' : World) : Go.Conc.woken p.P a a' w' g = g := by
  unfold Go.Conc.woken
  split
  · exact again_running _ (h.status.imp id (fun x => x.1))
  · rfl

theorem apart_plan (hF : p.Fits M) : Apart p.ShP p.Own p.Rd := by
  refine ⟨?_, ?_, ?_, ?_⟩
  · rintro k k' l ⟨hk, o, h1, h2, rfl⟩ ⟨hk', o', h1', h2', e⟩
    cases e
    exact hF.disj k k' o hk hk' h1 h2 h1' h2'
  · rintro k k' l ⟨_, o, h1, h2, rfl⟩ ⟨_, a, e, _, hC, _⟩
    cases e
    exact hC rfl
  · rintro k l ⟨_, o, h1, h2, rfl⟩ (h | ⟨a, e, ha⟩)
    · exact hF.shC _ rfl h
    · cases e; exact hF.CWg ha
  · rintro k l ⟨_, a, rfl, _, _, hW, hS⟩ (h | ⟨a', e, ha⟩)
    · exact hS h
    · cases e; exact hW ha

theorem own_low (hF : p.Fits M) {k : Nat} {l : Loc} (h : p.Own k l) : l.low p.B := by
  obtain ⟨_, o, _, _, rfl⟩ := h
  exact hF.lowC
theorem rd_low (hF : p.Fits M) {k : Nat} (hM : k < M) {l : Loc} (h : p.Rd k l) : l.low p.B := by
  obtain ⟨hk, a, rfl, h1, _⟩ := h
  exact Nat.lt_of_lt_of_le h1 (hF.lowK k hk hM)
theorem sh_low (hF : p.Fits M) {l : Loc} (h : ShN p.Wg l) : l.low p.B := by
  obtain ⟨a, rfl, h1⟩ := h
  show a.block < p.B
  rw [h1]; exact hF.lowWg

variable {tag tag' : CTag} {D : Nat → WD} {F : Nat → Fuel} {gs : Array Goroutine} {w w' : World} {t : Trace} {p0 : Nat} {sv sm sv' sm' : Int}

theorem known_app {u : Trace} (h : ∀ (i : Nat) (op : MemOp) (x : Touch), t[i]? = some op → op.act.touch? = some x → ¬ p.ShP x.loc → op.g < p.J0 → Knows t 0 i) (hu : ∀ op ∈ u, ∀ x, op.act.touch? = some x → op.g < p.J0 → op.g = 0) :
    ∀ (i : Nat) (op : MemOp) (x : Touch), (t ++ u)[i]? = some op → op.act.touch? = some x → ¬ p.ShP x.loc → op.g < p.J0 → Knows (t ++ u) 0 i := by
  intro i op x hi hx hs hg
  rcases getElem?_append_cases hi with ⟨_, hi'⟩ | ⟨_, hiu⟩
  · exact (h i op x hi' hx hs hg).app u
  · have := knows_own hi
    rwa [hu op hiu x hx hg] at this

theorem over_app {u : Trace} (h : ∀ i g, t.g? i = some g → g ≠ 0 → g < p.J0 → t.counts i → ∃ k, t.g? k = some 0 ∧ HappensBefore t i k) (hu : ∀ op ∈ u, ∀ x, op.act.touch? = some x → op.g < p.J0 → op.g = 0) :
    ∀ i g, (t ++ u).g? i = some g → g ≠ 0 → g < p.J0 → (t ++ u).counts i → ∃ k, (t ++ u).g? k = some 0 ∧ HappensBefore (t ++ u) i k := by
  intro i g hg hne hJ hc
  obtain ⟨x, hx, hx2⟩ := hc
  obtain ⟨op, hop, hox⟩ := touch_of hx
  rcases getElem?_append_cases hop with ⟨hi, hop'⟩ | ⟨_, hopu⟩
  · obtain ⟨j, hj, hb⟩ := h i g (by simpa [Trace.g?, getElem?_append_old hi] using hg) hne hJ ((counts_old hi).1 ⟨x, hx, hx2⟩)
    have hjl : j < t.size := by
      unfold Trace.g? at hj
      obtain ⟨z, hz, _⟩ := Option.map_eq_some_iff.1 hj
      exact lt_size_of_getElem? hz
    exact ⟨j, by simpa [Trace.g?, getElem?_append_old hjl] using hj, hb_app u hb⟩
  · have hgo : op.g = g := by simpa [Trace.g?, hop] using hg
    exact absurd (hgo ▸ hu op hopu x hox (hgo ▸ hJ)) hne

theorem norel_app {u : Trace} (h : ∀ i, p0 ≤ i → t.act? i ≠ some (.mark (.release (stA p.Wg)))) (hu : ∀ op ∈ u, op.act ≠ .mark (.release (stA p.Wg))) : ∀ i, p0 ≤ i → (t ++ u).act? i ≠ some (.mark (.release (stA p.Wg))) := by
  intro i hi e
  obtain ⟨op, ho, hoe⟩ := Option.map_eq_some_iff.1 e
  rcases getElem?_append_cases ho with ⟨_, ho'⟩ | ⟨_, hou⟩
  · exact h i hi (by simp [Trace.act?, ho', hoe])
  · exact hu op hou hoe

theorem Rel1.app {t u : Trace} {p0 k : Nat} (h : Rel1 p t p0 k) (hr : ∀ r, RelBy (stA p.Wg) t k r → RelBy (stA p.Wg) (t ++ u) k r) (hu : ∀ op ∈ u, op.g = k → ∀ x, op.act.touch? = some x → p.ShP x.loc) : Rel1 p (t ++ u) p0 k := by
  obtain ⟨r, h0, h1, h2⟩ := h
  refine ⟨r, h0, hr r h1, fun i op x hi ho hg hx => ?_⟩
  rcases getElem?_append_cases ho with ⟨_, ho'⟩ | ⟨_, hou⟩
  · exact h2 i op x hi ho' hg hx
  · exact hu op hou hg x hx
theorem Rel1.other {t u : Trace} {p0 k g : Nat} (h : Rel1 p t p0 k) (hu : ∀ op ∈ u, op.g = g) (hg : g ≠ k) : Rel1 p (t ++ u) p0 k :=
  h.app (fun _ hr => hr.appOther hu hg) (fun op hop e => absurd (e.symm.trans (hu op hop)) (Ne.symm hg))

/-- A STEP OF WORKER k's. -/
theorem Ph.stepW (hF : p.Fits M) (h : Ph p M tag D F gs w t p0 sv sm) {k : Nat} (k1 : 1 ≤ k) (kn : k < gs.size) {g g' : Goroutine} {es : Array Event} {s' : Nat} {F' : Fuel}
    (hrw : ∀ k', p.J0 ≤ k' → k' < gs.size → k' ≠ k → p.RelW k' w w') (hs' : WS p k s' F' (deafBehind (Deaf t k) es) g' w')
    (hok : ∀ op ∈ MemOp.ofEvents k g.frame.fn g.frame.place es, OkW p.ShP p.Own p.Rd k op ∧ ∀ x, op.act.touch? = some x → x.loc.low p.B) (hnr : ∀ e ∈ es, e.loc ≠ .mark (.release (stA p.Wg)))
    (hq : k < p.J0 → ∀ op ∈ MemOp.ofEvents k g.frame.fn g.frame.place es, op.act.touch? = none)
    (hrel : p.J0 ≤ k → s' ≤ 6 → Rel1 p (t ++ MemOp.ofEvents k g.frame.fn g.frame.place es) p0 k) (hhas : p.J0 ≤ k → s' ≤ 6 → p.HasAll k w') (hpay : p.Pay w') (hwg : WgAt p.ty p.Wg w' sv' sm') (hmode : ConcN.Mode gs.size (upd D k ⟨s', 0, 0⟩) tag' sv' sm') :
    Ph p M tag' (upd D k ⟨s', 0, 0⟩) (upd F k F') ((gs.map (Go.Conc.woken p.P g g' w')).setIfInBounds k g') w' (t ++ MemOp.ofEvents k g.frame.fn g.frame.place es) p0 sv' sm' := by
  have hsz : ((gs.map (Go.Conc.woken p.P g g' w')).setIfInBounds k g').size = gs.size := by simp
  have hM := h.Mle
  have hgk : ∀ op ∈ MemOp.ofEvents k g.frame.fn g.frame.place es, op.g = k := g_of_ofEvents
  have hu : ∀ op ∈ MemOp.ofEvents k g.frame.fn g.frame.place es, ∀ x, op.act.touch? = some x → op.g < p.J0 → op.g = 0 := fun op hop x hx hg => by
    rw [hgk op hop] at hg
    rw [hq hg op hop] at hx; cases hx
  refine ⟨?_, by rw [hsz]; exact h.J0le, by rw [hsz]; exact hM, fun k' h1 h2 => ?_, fun k' hk' => ?_, ?_, known_app h.known hu, over_app h.over hu, low_app h.low (fun op hop => (hok op hop).2), norel_app h.norel (norel_of hnr), by simp; have := h.p0le; omega, fun k' h1 h2 hst => ?_, fun k' h1 h2 hst => ?_, hpay, hwg, by rw [hsz]; exact hmode⟩
  · rw [upd_ne D _ (by omega)]; exact h.zero
  · rw [hsz] at h2
    by_cases e : k' = k
    · subst e
      exact ⟨g', get_map_set_same _ _ _ h2, by rw [upd_same, upd_same, Deaf_own]; exact hs'⟩
    · obtain ⟨x, hx, hsx⟩ := h.wk k' h1 h2
      refine ⟨x, by rw [get_map_set _ _ _ _ (fun e' => e e'.symm), hx, Option.map_some, hsx.woken], ?_⟩
      rw [upd_ne D _ e, upd_ne F _ e, Deaf_other t (fun e' => e e'.symm) _ hgk]
      exact hsx.rely hF (by omega) (fun hJ => hrw k' hJ h2 e)
  · rw [hsz] at hk'
    rw [Deaf_other t (by omega) _ hgk]; exact h.above k' hk'
  · rw [hsz]
    exact h.ct.appW (apart_plan hF) k1 (by omega) (fun op hop => (hok op hop).1)
  · rw [hsz] at h2
    by_cases e : k' = k
    · subst e; rw [upd_same] at hst; exact hrel h1 hst
    · rw [upd_ne D _ e] at hst
      exact (h.rel k' h1 h2 hst).other hgk (fun e' => e e'.symm)
  · rw [hsz] at h2
    by_cases e : k' = k
    · subst e; rw [upd_same] at hst; exact hhas h1 hst
    · rw [upd_ne D _ e] at hst
      exact fun o a1 a2 => ((hrw k' h1 h2 e).cell o a1 a2).trans (h.has k' h1 h2 hst o a1 a2)

/-- A STEP OF THE STARTER's. -/
theorem Ph.step0 (hF : p.Fits M) (h : Ph p M tag D F gs w t p0 sv sm) {a a' : Goroutine} {es : Array Event}
    (hrw : ∀ k, p.J0 ≤ k → k < gs.size → p.RelW k w w') (hok : ∀ op ∈ MemOp.ofEvents 0 a.frame.fn a.frame.place es, Ok0 p.ShP p.Own p.Rd (gs.size - 1) op ∧ ∀ x, op.act.touch? = some x → x.loc.low p.B) (hnr : ∀ e ∈ es, e.loc ≠ .mark (.release (stA p.Wg)))
    (hpay : p.Pay w') (hwg : WgAt p.ty p.Wg w' sv' sm') (hmode : ConcN.Mode gs.size D tag' sv' sm') :
    Ph p M tag' D F ((gs.map (Go.Conc.woken p.P a a' w')).setIfInBounds 0 a') w' (t ++ MemOp.ofEvents 0 a.frame.fn a.frame.place es) p0 sv' sm' := by
  have hsz : ((gs.map (Go.Conc.woken p.P a a' w')).setIfInBounds 0 a').size = gs.size := by simp
  have hM := h.Mle
  have hg0 : ∀ op ∈ MemOp.ofEvents 0 a.frame.fn a.frame.place es, op.g = 0 := g_of_ofEvents
  have hu : ∀ op ∈ MemOp.ofEvents 0 a.frame.fn a.frame.place es, ∀ x, op.act.touch? = some x → op.g < p.J0 → op.g = 0 := fun op hop _ _ _ => hg0 op hop
  refine ⟨h.zero, by rw [hsz]; exact h.J0le, by rw [hsz]; exact hM, fun k' h1 h2 => ?_, fun k' hk' => ?_, ?_, known_app h.known hu, over_app h.over hu, low_app h.low (fun op hop => (hok op hop).2), norel_app h.norel (norel_of hnr), by simp; have := h.p0le; omega, fun k' h1 h2 hst => ?_, fun k' h1 h2 hst o a1 a2 => ?_, hpay, hwg, by rw [hsz]; exact hmode⟩
  · rw [hsz] at h2
    obtain ⟨x, hx, hsx⟩ := h.wk k' h1 h2
    refine ⟨x, by rw [get_map_set _ _ _ _ (by omega), hx, Option.map_some, hsx.woken], ?_⟩
    rw [Deaf_other t (by omega) _ hg0]
    exact hsx.rely hF (by omega) (fun hJ => hrw k' hJ h2)
  · rw [hsz] at hk'
    have := hF.pos
    have := h.J0le
    rw [Deaf_other t (by omega) _ hg0]; exact h.above k' hk'
  · rw [hsz]
    exact h.ct.app0 (apart_plan hF) (fun op hop => (hok op hop).1)
  · rw [hsz] at h2
    have := hF.pos
    exact (h.rel k' h1 h2 hst).other hg0 (by omega)
  · rw [hsz] at h2
    exact ((hrw k' h1 h2).cell o a1 a2).trans (h.has k' h1 h2 hst o a1 a2)
end
end Go.Proofs.Ytpioacgknamemaa
set_option linter.unusedSectionVars false
namespace Go.Proofs.Ytpioacgknamemaa
open Go Go.RowKit Go.Conc Go.ConcN
open Go.ConcR (KK wgBlock WgAt stA smA rd wr mk Payload Aside2 DC0 Bk g_of_ofEvents bk_of_mute ofEvent_loc_mark ofEvent_cell)

section
variable {p : Plan} [Payload] {M : Nat}
variable {tag tag' : CTag} {D : Nat → WD} {F : Nat → Fuel} {gs : Array Goroutine} {w w' : World} {t : Trace} {p0 : Nat} {sv sm sv' sm' : Int}

theorem okW_wide {k : Nat} {op : MemOp} (h : OkW (ShN p.Wg) p.Own p.Rd k op) : OkW p.ShP p.Own p.Rd k op :=
  ⟨h.1, fun x hx => (h.2 x hx).imp (fun ⟨a, b⟩ => ⟨.inr a, b⟩) id⟩

theorem okW_book (hF : p.Fits M) {k : Nat} {fn : FuncId} {pos : String} {es : Array Event} (h : ∀ e ∈ es, Bk p.Wg e) :
    ∀ op ∈ MemOp.ofEvents k fn pos es, OkW p.ShP p.Own p.Rd k op ∧ ∀ x, op.act.touch? = some x → x.loc.low p.B := by
  intro op hop
  refine ⟨okW_wide (okW_of_Bk h op hop), fun x hx => ?_⟩
  obtain ⟨e, he, rfl⟩ := Go.Conc.mem_ofEvents hop
  rcases h e he with h1 | h1 | ⟨a, wr, rfl, ha⟩
  · simp only [ofEvent_loc_mark h1] at hx; cases hx
  · simp only [ofEvent_loc_mark h1] at hx; cases hx
  · simp only [ofEvent_cell, MemAct.touch?, Option.some.injEq] at hx
    subst hx
    exact sh_low hF ⟨a, rfl, ha⟩

theorem sh_book {k g : Nat} {fn : FuncId} {pos : String} {es : Array Event} (h : ∀ e ∈ es, Bk p.Wg e) : ∀ op ∈ MemOp.ofEvents k fn pos es, op.g = g → ∀ x, op.act.touch? = some x → p.ShP x.loc := by
  intro op hop _ x hx
  obtain ⟨e, he, rfl⟩ := Go.Conc.mem_ofEvents hop
  rcases h e he with h1 | h1 | ⟨a, wr, rfl, ha⟩
  · simp only [ofEvent_loc_mark h1] at hx; cases hx
  · simp only [ofEvent_loc_mark h1] at hx; cases hx
  · simp only [ofEvent_cell, MemAct.touch?, Option.some.injEq] at hx
    subst hx
    exact .inr ⟨a, rfl, ha⟩

theorem okW_none' {k : Nat} {fn : FuncId} {pos : String} {es : Array Event} (h : ∀ e ∈ es, (MemAct.ofEvent e).touch? = none) :
    ∀ op ∈ MemOp.ofEvents k fn pos es, OkW p.ShP p.Own p.Rd k op ∧ ∀ x, op.act.touch? = some x → x.loc.low p.B := by
  intro op hop
  obtain ⟨e, he, rfl⟩ := Go.Conc.mem_ofEvents hop
  exact ⟨⟨rfl, fun x hx => by simp only [h e he] at hx; cases hx⟩, fun x hx => by simp only [h e he] at hx; cases hx⟩

theorem okW_work (hF : p.Fits M) {k : Nat} (hM : k < M) {fn : FuncId} {pos : String} {es : Array Event} (h : ∀ e ∈ es, p.EvK k e) :
    ∀ op ∈ MemOp.ofEvents k fn pos es, OkW p.ShP p.Own p.Rd k op ∧ ∀ x, op.act.touch? = some x → x.loc.low p.B := by
  intro op hop
  obtain ⟨e, he, rfl⟩ := Go.Conc.mem_ofEvents hop
  refine ⟨⟨rfl, fun x hx => ((h e he).1 x hx).imp (fun ⟨a, b⟩ => ⟨.inr a, b⟩) id⟩, fun x hx => ?_⟩
  rcases (h e he).1 x hx with ⟨h1, _⟩ | h1 | ⟨h1, _⟩
  · exact sh_low hF h1
  · exact own_low hF h1
  · exact rd_low hF hM h1

theorem Plan.DWk.relW (hF : p.Fits M) {k k' : Nat} (hk : p.J0 ≤ k) (hk' : p.J0 ≤ k') (hne : k' ≠ k) {es : Array Event} (h : p.DWk k w w' es) : p.RelW k' w w' :=
  ⟨fun b _ _ hb => h.block b hb, fun ⟨st, sm, hl⟩ => ⟨st, sm, hl.of_block (h.block p.Wg (Ne.symm hF.CWg))⟩, h.pay, fun o h1 h2 => h.cells o fun ⟨a1, a2⟩ => hne (hF.disj k' k o hk' hk h1 h2 a1 a2)⟩
theorem Plan.DWk.rc (hF : p.Fits M) {k : Nat} {es : Array Event} (h : p.DWk k w w' es) : RC p.ty p.Wg p.C w w' :=
  ⟨⟨h.tape, h.os, h.output, h.size, fun k a _ => h.block k a⟩, fun ⟨st, sm, hl⟩ => ⟨st, sm, hl.of_block (h.block p.Wg (Ne.symm hF.CWg))⟩⟩
theorem relW_wg (hF : p.Fits M) (k : Nat) (h : Aside p.Wg w w') (hl : WgLive p.ty p.Wg w') : p.RelW k w w' :=
  .of_blocks (fun b _ hb => h.block b hb) (fun _ => hl) (h.block p.C hF.CWg)

theorem pay_block (h : w'.heap[p.C]? = w.heap[p.C]?) (hp : p.Pay w) : p.Pay w' := let ⟨cs, a, b⟩ := hp; ⟨cs, h.trans a, b⟩
theorem has_block {k : Nat} (h : w'.heap[p.C]? = w.heap[p.C]?) (hp : p.HasAll k w) : p.HasAll k w' := fun o h1 h2 => (cell_of_block h o).trans (hp o h1 h2)

theorem Vc_lt {j : Nat} {D : Nat → WD} (hj : 0 < j) (h0 : (D 0).stage = 1) : Vc j D + 1 ≤ j := by
  have h1 := Vc_upd D (⟨5, 0, 0⟩ : WD) hj
  have h2 := Vc_le j (upd D 0 ⟨5, 0, 0⟩)
  have c0 : cnt (D 0) = 0 := by simp [cnt, h0]
  have c1 : cnt (⟨5, 0, 0⟩ : WD) = 1 := rfl
  omega
theorem pend_le (tag : CTag) : pend tag ≤ 1 := by cases tag <;> simp only [pend] <;> first | omega | (split <;> omega)

/-- What a step of worker k's leaves. -/
def StepsTo (p : Plan) [Payload] (M : Nat) (tag : CTag) (D : Nat → WD) (F : Nat → Fuel) (gs : Array Goroutine) (w : World) (t : Trace) (p0 : Nat) (k : Nat) (g : Goroutine) : Prop :=
  ∃ g' w' es s' F' sv' sm', stepG p.P false g w = .go g' w' es ∧ RC p.ty p.Wg p.C w w' ∧ ((s' < (D k).stage ∧ cnt ⟨s', 0, 0⟩ ≤ cnt (D k)) ∨ (s' = (D k).stage ∧ Fuel.Lt F' (F k))) ∧
    ∀ tag', (tag' = tag ∨ (tag = .blk ∧ tag' = .w3)) → (mayWake p.P g = true → g'.status = .running → tag' ≠ .blk) →
      Ph p M tag' (upd D k ⟨s', 0, 0⟩) (upd F k F') ((gs.map (Go.Conc.woken p.P g g' w')).setIfInBounds k g') w' (t ++ MemOp.ofEvents k g.frame.fn g.frame.place es) p0 sv' sm'

set_option maxHeartbeats 1600000 in
theorem worker_step (hF : p.Fits M) (h : Ph p M tag D F gs w t p0 sv sm) {k : Nat} (k1 : 1 ≤ k) (kn : k < gs.size) {g : Goroutine} (hg : gs[k]? = some g) (hrun : g.status = .running) : StepsTo p M tag D F gs w t p0 k g := by
  obtain ⟨g₁, hg₁, hs⟩ := h.wk k k1 kn
  obtain rfl : g = g₁ := by rw [hg] at hg₁; exact Option.some.inj hg₁
  have hkM : k < M := Nat.lt_of_lt_of_le kn h.Mle
  have hV := Vc_lt (by omega) h.zero (j := gs.size) (D := D)
  have hpe := pend_le tag
  have hMle := h.Mle
  have hfew := hF.few
  have hmode := h.mode
  have hwg := h.wg
  generalize hst : (D k).stage = s at hs
  generalize hfu : F k = m at hs
  generalize hde : Deaf t k = dd at hs
  -- the group's own bookkeeping
  have bookG : ∀ {g' : Goroutine} {w' : World} {es : Array Event} {s' : Nat} {F' : Fuel} {sv' sm' : Int}, p.J0 ≤ k → stepG p.P false g w = .go g' w' es → Aside p.Wg w w' → WgAt p.ty p.Wg w' sv' sm' → (∀ e ∈ es, Bk p.Wg e) →
      (∀ jx e, es[jx]? = some e → (MemAct.ofEvent e).touch? = none ∨ 0 < deafBehind dd (es.extract 0 jx)) → WS p k s' F' (deafBehind dd es) g' w' → s ≤ 6 →
      (∀ tag', (tag' = tag ∨ (tag = .blk ∧ tag' = .w3)) → (mayWake p.P g = true → g'.status = .running → tag' ≠ .blk) → ConcN.Mode gs.size (upd D k ⟨s', 0, 0⟩) tag' sv' sm') →
      ((s' < s ∧ cnt ⟨s', 0, 0⟩ ≤ cnt (D k)) ∨ (s' = s ∧ Fuel.Lt F' m)) → StepsTo p M tag D F gs w t p0 k g := by
    intro g' w' es s' F' sv' sm' hJ hgo hAs hwg' hbk hd hs' h6 hmode' hlt
    refine ⟨g', w', es, s', F', sv', sm', hgo, .of_wg hAs ⟨_, _, hwg'⟩, by rw [hst, hfu]; exact hlt, fun tag' ht hw => ?_⟩
    exact h.stepW hF k1 kn (fun k' _ _ _ => relW_wg hF k' hAs ⟨_, _, hwg'⟩) (by rw [hde]; exact hs') (okW_book hF hbk) (norel_of_Bk hbk) (fun hlt => absurd hlt (by omega))
      (fun _ _ => (h.rel k hJ kn (by omega)).app (fun r hr => hr.book hde _ _ hbk hd) (sh_book hbk)) (fun _ _ => has_block (hAs.block p.C hF.CWg) (h.has k hJ kn (by omega))) (pay_block (hAs.block p.C hF.CWg) h.pay) hwg' (hmode' tag' ht hw)
  have book : ∀ {g' : Goroutine} {w' : World} {es : Array Event} {s' : Nat} {F' : Fuel} {sv' sm' : Int}, p.J0 ≤ k → stepG p.P false g w = .go g' w' es → Aside p.Wg w w' → WgAt p.ty p.Wg w' sv' sm' → (∀ e ∈ es, Bk p.Wg e) →
      (∀ jx e, es[jx]? = some e → (MemAct.ofEvent e).touch? = none ∨ 0 < deafBehind dd (es.extract 0 jx)) → WS p k s' F' (deafBehind dd es) g' w' → s ≤ 6 →
      ConcN.Mode gs.size (upd D k ⟨s', 0, 0⟩) tag sv' sm' → ((s' < s ∧ cnt ⟨s', 0, 0⟩ ≤ cnt (D k)) ∨ (s' = s ∧ Fuel.Lt F' m)) → StepsTo p M tag D F gs w t p0 k g :=
    fun hJ hgo hAs hwg' hbk hd hs' h6 hmode' hlt => bookG hJ hgo hAs hwg' hbk hd hs' h6 (fun _ ht _ => hmode'.retag ht) hlt
  have idle : ∀ {g' : Goroutine} {f : World → Fuel}, p.J0 ≤ k → m = .node f → stepG p.P false g w = .go g' w #[] → WS p k s (f w) dd g' w → s ≤ 6 → StepsTo p M tag D F gs w t p0 k g := by
    intro g' f hJ hm hgo hs' h6
    exact book hJ hgo (.refl p.Wg w) hwg (by simp) (by simp) hs' h6 (by have := hmode.same (i := k) 0 0; rwa [hst] at this) (.inr ⟨rfl, by rw [hm]; exact .mk f w⟩)
  have df1 : ∀ e : Event, ∀ jx e', (#[e] : Array Event)[jx]? = some e' → (MemAct.ofEvent e').touch? = none ∨ 0 < deafBehind 1 ((#[e] : Array Event).extract 0 jx) := by
    intro e jx e' he
    match jx, he with
    | 0, _ => exact .inr (by simp [deafBehind])
    | jx + 1, he => simp at he
  cases hs with
  | work hJ hw =>
    rcases hw.cases (Plan.RelW.refl k) with hstop | ⟨_, f, rfl, g', w', es, hgo, hD, hg'⟩
    · obtain ⟨⟨_, _, g', hgo, m₂, hk⟩, hhas⟩ := hstop w (.refl k w)
      refine ⟨g', w, _, 6, .ofNat m₂, sv, sm, hgo, .refl w, .inl ⟨by omega, by simp [cnt, hst]⟩, fun tag' ht _ => ?_⟩
      have he : ∀ e ∈ #[mk (.releaseMerge (stA p.Wg))], (MemAct.ofEvent e).touch? = none := by intro e he; simp at he; subst he; rfl
      exact h.stepW hF k1 kn (fun k' _ _ _ => .refl k' w) (s' := 6) (F' := .ofNat m₂) (by rw [hde]; exact .k1 hJ (.of_goes hk)) (okW_none' he) (by intro e he; simp at he; subst he; simp [mk]) (fun hlt => absurd hlt (by omega))
        (fun _ _ => ⟨t.size, h.p0le, RelBy.new hde _ _, fun i op x hi ho _ hx => by
          rcases getElem?_append_cases ho with ⟨hlt, _⟩ | ⟨_, hou⟩
          · omega
          · obtain ⟨e, he', rfl⟩ := Go.Conc.mem_ofEvents hou
            rw [he e he'] at hx; cases hx⟩) (fun _ _ => hhas) h.pay hwg ((hmode.counted kn (by omega) (.inl rfl) _ _).retag ht)
    · refine ⟨g', w', es, 7, f w, sv, sm, hgo, hD.rc hF, .inr ⟨hst.symm, by rw [hfu]; exact .mk f w⟩, fun tag' ht _ => ?_⟩
      have hst' : deafBehind 0 es = 0 := deafBehind_idle (fun e he => ⟨(hD.ev e he).2.1, (hD.ev e he).2.2.1⟩) 0
      exact h.stepW hF k1 kn (fun k' hk' _ hne => hD.relW hF hJ hk' hne) (by rw [hde, hst']; exact .work hJ hg') (okW_work hF hkM hD.ev) (fun e he => (hD.ev e he).2.2.2) (fun hlt => absurd hlt (by omega)) (fun _ h6 => by omega) (fun _ h6 => by omega) (hD.pay h.pay)
        (hwg.of_block (hD.block p.Wg (Ne.symm hF.CWg))) (ConcN.Mode.retag (by have := hmode.same (i := k) 0 0; rwa [hst] at this) ht)
  | k1 hJ hw =>
    rcases hw.cases relD_refl with hstop | ⟨_, f, rfl, g', w', es, hgo, ⟨rfl, rfl⟩, hg'⟩
    · obtain ⟨_, g', hgo, m₂, hk⟩ := hstop w (relD_refl w)
      exact book hJ hgo (.refl p.Wg w) hwg bk_dis (by intro jx e he; exact .inl (by have := Array.mem_of_getElem? he; simp at this; subst this; rfl)) (WS.d1 hJ (.of_goes hk)) (by omega) (hmode.counted kn (by omega) (.inr rfl) _ _) (.inl ⟨by omega, by simp [cnt, hst]⟩)
    · exact idle hJ rfl hgo (.k1 hJ hg') (by omega)
  | d1 hJ hw =>
    rcases hw.cases relD_refl with hstop | ⟨_, f, rfl, g', w', es, hgo, ⟨rfl, rfl⟩, hg'⟩
    · obtain ⟨_, hall⟩ := hstop w (relD_refl w)
      have hc1 : cnt (D k) = 1 := by simp [cnt, hst]
      have hV1 : 1 ≤ Vc gs.size D := by have := le_sumTo (f := fun x => cnt (D x)) kn; simp only [Vc]; omega
      have df2 : ∀ jx e, (#[rd (stA p.Wg), wr (stA p.Wg)] : Array Event)[jx]? = some e → (MemAct.ofEvent e).touch? = none ∨ 0 < deafBehind 1 ((#[rd (stA p.Wg), wr (stA p.Wg)] : Array Event).extract 0 jx) := by
        intro jx e he
        match jx, he with
        | 0, _ => exact .inr (by simp [deafBehind])
        | 1, _ => exact .inr (by simp [deafBehind, rd])
        | jx + 2, he => simp at he
      have hq0 : cnt (⟨1, 0, 0⟩ : WD) = 0 := rfl
      have opq : OpenSt gs.size D → OpenSt gs.size (upd D k ⟨1, 0, 0⟩) := fun h a ha => by
        by_cases e : a = k
        · subst e; rw [upd_same]; simp
        · rw [upd_ne D _ e]; exact h a ha
      cases hmode with
      | opn h1 h2 h3 =>
        obtain ⟨v, hv⟩ : ∃ v, Vc gs.size D + pend tag = v + 1 := ⟨Vc gs.size D + pend tag - 1, by omega⟩
        rw [hv] at hwg
        have hw1 : WgAt p.ty p.Wg w (((v : Nat) + 1) * KK + ((0 : Nat) : Int)) 0 := by simpa using hwg
        obtain ⟨g', hgo, _, hq⟩ := hall v 0 (by omega) (by omega) hw1
        obtain ⟨q, hq⟩ := hq (by omega)
        have hv' : Vc gs.size (upd D k ⟨1, 0, 0⟩) + pend tag = v := by have := Vc_upd D (⟨1, 0, 0⟩ : WD) kn; omega
        refine book hJ hgo (aside_setCell w (stA p.Wg) _) (hwg.setSt _) bk_rw df2 (WS.quit hq) (by omega) ?_ (.inl ⟨by omega, by simp [cnt]⟩)
        have e : ((v : Nat) : Int) * KK + ((0 : Nat) : Int) = ((Vc gs.size (upd D k ⟨1, 0, 0⟩) + pend tag : Nat) : Int) * KK := by rw [hv']; simp
        rw [e]
        exact .opn h1 (opq h2) (fun vs ev => by have := h3 vs ev; omega)
      | reg h1 h2 h3 =>
        obtain ⟨v, hv⟩ : ∃ v, Vc gs.size D = v + 1 := ⟨Vc gs.size D - 1, by omega⟩
        rw [hv] at hwg
        have hw1 : WgAt p.ty p.Wg w (((v : Nat) + 1) * KK + ((1 : Nat) : Int)) 0 := by simpa using hwg
        obtain ⟨g', hgo, hl, hq⟩ := hall v 1 (by omega) (by omega) hw1
        by_cases hv0 : v = 0
        · subst hv0
          obtain ⟨m₂, hk⟩ := hl ⟨rfl, rfl⟩
          refine book hJ hgo (aside_setCell w (stA p.Wg) _) (hwg.setSt _) bk_rw df2 (WS.d2 hJ (.of_goes hk)) (by omega) ?_ (.inl ⟨by omega, by simp [cnt]⟩)
          have hoth : ∀ a, a < gs.size → a ≠ k → (D a).stage = 1 := fun a ha e => by
            have c0 := others_uncounted kn hv hc1 a ha e
            have := h2 a ha
            simp only [cnt] at c0
            split at c0 <;> omega
          have := ConcN.Mode.last (j := gs.size) (D := upd D k ⟨4, 0, 0⟩) (tag := tag) k h1 kn (by rw [upd_same]; simp) (fun a ha e => by rw [upd_ne D _ e]; exact hoth a ha e)
          rw [upd_same] at this
          simpa using this
        · obtain ⟨q, hq⟩ := hq (by omega)
          have hv' : Vc gs.size (upd D k ⟨1, 0, 0⟩) = v := by have := Vc_upd D (⟨1, 0, 0⟩ : WD) kn; omega
          refine book hJ hgo (aside_setCell w (stA p.Wg) _) (hwg.setSt _) bk_rw df2 (WS.quit hq) (by omega) ?_ (.inl ⟨by omega, by simp [cnt]⟩)
          have e : ((v : Nat) : Int) * KK + ((1 : Nat) : Int) = ((Vc gs.size (upd D k ⟨1, 0, 0⟩) : Nat) : Int) * KK + 1 := by rw [hv']; simp
          rw [e]
          exact .reg h1 (opq h2) (by omega)
      | last L _ h2 h3 h4 =>
        by_cases e : k = L
        · subst e; omega
        · have := h4 k kn e; omega
      | sema h2 => have := h2 k kn; omega
      | fin _ h2 => have := h2 k kn; omega
    · exact idle hJ rfl hgo (.d1 hJ hg') (by omega)
  | d2 hJ hw =>
    rcases hw.cases relD_refl with hstop | ⟨_, f, rfl, g', w', es, hgo, ⟨rfl, rfl⟩, hg'⟩
    · obtain ⟨_, hx⟩ := hstop w (relD_refl w)
      obtain ⟨hW3, hoth, rfl, rfl⟩ := hmode.isLast kn (by omega)
      simp only [hst] at hwg
      obtain ⟨g', hgo, m₂, hk⟩ := hx (by simpa using hwg)
      refine book hJ hgo (.refl p.Wg w) hwg bk_rd (df1 _) (WS.d3 hJ (.of_goes hk)) (by omega) ?_ (.inl ⟨by omega, by simp [cnt]⟩)
      have := ConcN.Mode.last (j := gs.size) (D := upd D k ⟨3, 0, 0⟩) (tag := tag) k hW3 kn (by rw [upd_same]; simp) (fun a ha e => by rw [upd_ne D _ e]; exact hoth a ha e)
      rw [upd_same] at this
      simpa using this
    · exact idle hJ rfl hgo (.d2 hJ hg') (by omega)
  | d3 hJ hw =>
    rcases hw.cases relD_refl with hstop | ⟨_, f, rfl, g', w', es, hgo, ⟨rfl, rfl⟩, hg'⟩
    · obtain ⟨_, hx⟩ := hstop w (relD_refl w)
      obtain ⟨hW3, hoth, rfl, rfl⟩ := hmode.isLast kn (by omega)
      simp only [hst] at hwg
      obtain ⟨g', hgo, m₂, hk⟩ := hx (by simpa using hwg)
      refine book hJ hgo (aside_setCell w (stA p.Wg) _) (hwg.setSt 0) (by intro e he; simp at he; subst he; exact bk_cell _ _ rfl) (df1 _) (WS.d4 hJ (.of_goes hk)) (by omega) ?_ (.inl ⟨by omega, by simp [cnt]⟩)
      have := ConcN.Mode.last (j := gs.size) (D := upd D k ⟨2, 0, 0⟩) (tag := tag) k hW3 kn (by rw [upd_same]; simp) (fun a ha e => by rw [upd_ne D _ e]; exact hoth a ha e)
      rw [upd_same] at this
      simpa using this
    · exact idle hJ rfl hgo (.d3 hJ hg') (by omega)
  | d4 hJ hw =>
    rcases hw.cases relD_refl with hstop | ⟨_, f, rfl, g', w', es, hgo, ⟨rfl, rfl⟩, hg'⟩
    · obtain ⟨_, hmw, hx⟩ := hstop w (relD_refl w)
      obtain ⟨hW3, hoth, rfl, rfl⟩ := hmode.isLast kn (by omega)
      simp only [hst] at hwg
      obtain ⟨g', hgo, q, hq⟩ := hx (by simpa using hwg)
      have hrun' : g'.status = .running := by
        cases q with
        | zero => exact absurd hq.2 (by decide)
        | succ q => exact hq.elim (fun x => absurd x.2 (by decide)) (fun x => x.1)
      have hdf : deafBehind 1 (semEvents (smA p.Wg)) = 1 := by simp [deafBehind, semEvents]
      refine bookG hJ hgo (aside_setCell w (smA p.Wg) _) (hwg.setSm 1) (es := semEvents (smA p.Wg)) bk_sem ?_ (by rw [hdf]; exact WS.quit hq) (by omega) ?_ (.inl ⟨by omega, by simp [cnt]⟩)
      · intro jx e he
        match jx, he with
        | 0, he => simp [semEvents] at he; subst he; exact .inl rfl
        | 1, _ => exact .inr (by simp [deafBehind, semEvents])
        | 2, _ => exact .inr (by simp [deafBehind, semEvents])
        | 3, he => simp [semEvents] at he; subst he; exact .inl rfl
        | jx + 4, he => simp [semEvents] at he
      · intro tag' ht hw
        have hnb := hw hmw hrun'
        have e3 : tag' = .w3 := by
          rcases ht with rfl | ⟨_, rfl⟩
          · cases tag' <;> first | rfl | exact hW3.elim | exact absurd rfl hnb
          · rfl
        subst e3
        simp only [if_true]
        exact .sema fun a ha => by
          by_cases e : a = k
          · subst e; rw [upd_same]
          · rw [upd_ne D _ e]; exact hoth a ha e
    · exact idle hJ rfl hgo (.d4 hJ hg') (by omega)
  | @quit q _ _ _ hq =>
    cases q with
    | zero => rw [hq.1] at hrun; cases hrun
    | succ q =>
      rcases hq with ⟨hf, _⟩ | ⟨_, g', es, hmute, hstep, hq⟩
      · rw [hf] at hrun; cases hrun
      · have hbk : ∀ e ∈ es, Bk p.Wg e := fun e he => bk_of_mute (hmute e he)
        have htn : ∀ e ∈ es, (MemAct.ofEvent e).touch? = none := fun e he => touch_mute (hmute e he)
        have hno : ∀ jx e, es[jx]? = some e → (MemAct.ofEvent e).touch? = none ∨ 0 < deafBehind dd (es.extract 0 jx) := fun jx e he => .inl (htn e (Array.mem_of_getElem? he))
        refine ⟨g', w, es, 1, .ofNat q, sv, sm, hstep w, .refl w, .inr ⟨hst.symm, by rw [hfu]; exact Fuel.ofNat_lt q⟩, fun tag' ht _ => ?_⟩
        exact h.stepW hF k1 kn (fun k' _ _ _ => .refl k' w) (by rw [hde]; exact .quit hq) (okW_none' htn) (norel_of_Bk hbk) (fun _ op hop => by obtain ⟨e, he, rfl⟩ := Go.Conc.mem_ofEvents hop; exact htn e he)
          (fun hJ _ => (h.rel k hJ kn (by omega)).app (fun r hr => hr.book hde _ _ hbk hno) (sh_book hbk)) (fun hJ _ => h.has k hJ kn (by omega)) h.pay hwg (ConcN.Mode.retag (by have := hmode.same (i := k) 0 0; rwa [hst] at this) ht)
end
end Go.Proofs.Ytpioacgknamemaa
set_option linter.unusedSectionVars false
namespace Go.Proofs.Ytpioacgknamemaa
open Go Go.RowKit Go.Conc Go.ConcN
open Go.ConcR (KK wgBlock WgAt stA smA rd wr mk Payload Aside2 DC0 Bk g_of_ofEvents bk_of_mute ofEvent_loc_mark ofEvent_cell again_blocked)

section
variable (p : Plan) [Payload] (M : Nat) (Anch Head : Goroutine → World → Prop)

/-- tag, how many goroutines there are, fuel, deafness. -/
inductive CS : CTag → Nat → Fuel → Nat → Goroutine → World → Prop
  | skd {r : Nat} {F : Fuel} {g : Goroutine} {w : World} : r < M → (GoesF p.P true (RC p.ty p.Wg p.C) (p.DSt (M - (r + 1)))) (p.SPd (M - (r + 1)) (p.Starts Head M r)) F g w → CS (.sp r 5) (M - (r + 1)) F 0 g w
  | sa1 {r : Nat} {F : Fuel} {g : Goroutine} {w : World} : r < M → (GoesF p.P true (RC p.ty p.Wg p.C) (p.DSt (M - (r + 1)))) (p.SPa (M - (r + 1)) (p.Starts Head M r)) F g w → CS (.sp r 4) (M - (r + 1)) F 1 g w
  | ske {r : Nat} {F : Fuel} {g : Goroutine} {w : World} : r < M → (GoesF p.P true (RC p.ty p.Wg p.C) (p.DSt (M - (r + 1)))) (p.SPe (M - (r + 1)) (p.Starts Head M r)) F g w → CS (.sp r 3) (M - (r + 1)) F 1 g w
  | sgo {r : Nat} {F : Fuel} {g : Goroutine} {w : World} : r < M → (GoesF p.P true (RC p.ty p.Wg p.C) (p.DSt (M - (r + 1)))) (p.SGo (M - (r + 1)) (p.Starts Head M r)) F g w → CS (.sp r 2) (M - (r + 1)) F 0 g w
  | kd {F : Fuel} {g : Goroutine} {w : World} : (GoesF p.P true (RC p.ty p.Wg p.C) (p.DSt M)) (p.SKd M Head) F g w → CS .kd M F 0 g w
  | anch {F : Fuel} {g : Goroutine} {w : World} : (GoesF p.P true (RC p.ty p.Wg p.C) (p.DSt M)) Head F g w → CS .anch M F 1 g w
  | w1 {F : Fuel} {g : Goroutine} {w : World} : (GoesF p.P true (RC p.ty p.Wg p.C) (p.DSt M)) (p.SW1 M Anch Head) F g w → CS .w1 M F 1 g w
  | w2 {vs : Nat} {F : Fuel} {g : Goroutine} {w : World} : (GoesF p.P true (RC p.ty p.Wg p.C) (p.DSt M)) (p.SW2 M Anch Head vs) F g w → CS (.w2 vs) M F 1 g w
  | w3 {F : Fuel} {g : Goroutine} {w : World} : (GoesF p.P true (RC p.ty p.Wg p.C) (p.DSt M)) (p.SW3 M Anch) F g w → CS .w3 M F 1 g w
  | blk {g : Goroutine} {w : World} : (∀ w₁, RC p.ty p.Wg p.C w w₁ → p.SW3 M Anch g w₁) → CS .blk M .leaf 1 { g with status := .blocked } w
  | w4 {F : Fuel} {g : Goroutine} {w : World} : (GoesF p.P true (RC p.ty p.Wg p.C) (p.DSt M)) (p.SW4 M Anch) F g w → CS .w4 M F 1 g w
  | ke {F : Fuel} {g : Goroutine} {w : World} : (GoesF p.P true (RC p.ty p.Wg p.C) (p.DSt M)) (p.SKe M Anch) F g w → CS .ke M F 1 g w
  | acq {F : Fuel} {g : Goroutine} {w : World} : (GoesF p.P true (RC p.ty p.Wg p.C) (p.DSt M)) (p.SAcq Anch) F g w → CS .acq M F 0 g w
end

section
variable {p : Plan} [Payload] {M : Nat} {Anch Head : Goroutine → World → Prop}
variable {tag tag' : CTag} {D : Nat → WD} {F : Nat → Fuel} {F0 : Fuel} {gs : Array Goroutine} {w w' : World} {t : Trace} {p0 n d : Nat} {sv sm sv' sm' : Int} {a : Goroutine}

theorem rc_trans (a b c : World) (h : RC p.ty p.Wg p.C a b) (k : RC p.ty p.Wg p.C b c) : RC p.ty p.Wg p.C a c := RC.trans h k
theorem rc_refl (a : World) : RC p.ty p.Wg p.C a a := RC.refl a

theorem CS.rely (h : CS p M Anch Head tag n F0 d a w) (hr : RC p.ty p.Wg p.C w w') : CS p M Anch Head tag n F0 d a w' := by
  cases h with
  | skd h1 h => exact .skd h1 (h.rely rc_trans hr)
  | sa1 h1 h => exact .sa1 h1 (h.rely rc_trans hr)
  | ske h1 h => exact .ske h1 (h.rely rc_trans hr)
  | sgo h1 h => exact .sgo h1 (h.rely rc_trans hr)
  | kd h => exact .kd (h.rely rc_trans hr)
  | anch h => exact .anch (h.rely rc_trans hr)
  | w1 h => exact .w1 (h.rely rc_trans hr)
  | w2 h => exact .w2 (h.rely rc_trans hr)
  | w3 h => exact .w3 (h.rely rc_trans hr)
  | blk h => exact .blk fun w₁ h₁ => h w₁ (hr.trans h₁)
  | w4 h => exact .w4 (h.rely rc_trans hr)
  | ke h => exact .ke (h.rely rc_trans hr)
  | acq h => exact .acq (h.rely rc_trans hr)

theorem CS.status (hAr : ∀ g w, Head g w → g.status = .running) (h : CS p M Anch Head tag n F0 d a w) : (a.status = .running ∧ tag ≠ .blk) ∨ (a.status = .blocked ∧ tag = .blk) := by
  cases h with
  | skd _ h => exact .inl ⟨h.running rc_refl (fun _ _ x => x.1), by simp⟩
  | sa1 _ h => exact .inl ⟨h.running rc_refl (fun _ _ x => x.1), by simp⟩
  | ske _ h => exact .inl ⟨h.running rc_refl (fun _ _ x => x.1), by simp⟩
  | sgo _ h => exact .inl ⟨h.running rc_refl (fun _ _ x => x.1), by simp⟩
  | kd h => exact .inl ⟨h.running rc_refl (fun _ _ x => x.1), by simp⟩
  | anch h => exact .inl ⟨h.running rc_refl hAr, by simp⟩
  | w1 h => exact .inl ⟨h.running rc_refl (fun _ _ x => x.1), by simp⟩
  | w2 h => exact .inl ⟨h.running rc_refl (fun _ _ x => x.1), by simp⟩
  | w3 h => exact .inl ⟨h.running rc_refl (fun _ _ x => x.1), by simp⟩
  | blk h => exact .inr ⟨rfl, rfl⟩
  | w4 h => exact .inl ⟨h.running rc_refl (fun _ _ x => x.1), by simp⟩
  | ke h => exact .inl ⟨h.running rc_refl (fun _ _ x => x.1), by simp⟩
  | acq h => exact .inl ⟨h.running rc_refl (fun _ _ x => x.1), by simp⟩

theorem CS.wokenBy (hAr : ∀ g w, Head g w → g.status = .running) (h : CS p M Anch Head tag n F0 d a w) (hr : RC p.ty p.Wg p.C w w') (g g' : Goroutine) :
    ∃ tag' F0', CS p M Anch Head tag' n F0' d (Go.Conc.woken p.P g g' w' a) w' ∧ (tag' = tag ∨ (tag = .blk ∧ tag' = .w3)) ∧ (mayWake p.P g = true → g'.status = .running → tag' ≠ .blk) := by
  have h' := h.rely hr
  unfold Go.Conc.woken
  split
  · rcases h'.status hAr with ⟨hs, hne⟩ | ⟨_, rfl⟩
    · exact ⟨tag, F0, by rw [again_running _ (.inl hs)]; exact h', .inl rfl, fun _ _ => hne⟩
    · cases h' with
      | blk hb =>
        rename_i g0
        have h3 := hb w' (.refl w')
        exact ⟨.w3, .leaf, by rw [again_blocked h3.1 h3.2.1]; exact .w3 (show GoesF _ _ _ _ _ .leaf _ _ from hb), .inr ⟨rfl, rfl⟩, fun _ _ => by simp⟩
  · rename_i hc
    exact ⟨tag, F0, h', .inl rfl, fun h1 h2 => absurd (by simp [h1, h2]) hc⟩

/-- A draw. -/
theorem Ph.at (hF : p.Fits M) (h : Ph p M tag D F gs w t p0 sv sm) (d : Nat) : Ph p M tag D F gs (w.at d) t p0 sv sm :=
  ⟨h.zero, h.J0le, h.Mle, fun k h1 h2 => let ⟨g, a, b⟩ := h.wk k h1 h2; ⟨g, a, b.rely hF (Nat.lt_of_lt_of_le h2 h.Mle) (fun _ => .at k w d)⟩, h.above, h.ct, h.known, h.over, h.low, h.norel, h.p0le, h.rel, h.has, h.pay, h.wg, h.mode⟩

/-- A go statement. -/
theorem Ph.spawn (hF : p.Fits M) (h : Ph p M tag D F gs w t p0 sv sm) (h0 : 0 < gs.size) (hM : gs.size < M) {a' child : Goroutine} {x y : MemOp} {Fc : Fuel} (hx : x.g = 0 ∧ x.act = .go gs.size) (hy : y.g = gs.size ∧ y.act = .start) (hd : Deaf t 0 = 0)
    (hc : GoesF p.P false (p.RelW gs.size) (p.DWk gs.size) (p.AtRel0 gs.size) Fc child w) (hmode : ConcN.Mode (gs.size + 1) (upd D gs.size ⟨7, 0, 0⟩) tag' sv sm) :
    Ph p M tag' (upd D gs.size ⟨7, 0, 0⟩) (upd F gs.size Fc) ((gs.setIfInBounds 0 a').push child) w (t ++ #[x, y]) p0 sv sm := by
  have hm : ∀ op ∈ #[x, y], op = x ∨ op = y := by intro op hop; simpa using hop
  have hst : ∀ op ∈ #[x, y], op.act ≠ .mark .disable ∧ op.act ≠ .mark .enable := by
    intro op hop
    rcases hm op hop with rfl | rfl
    · rw [hx.2]; exact ⟨by simp, by simp⟩
    · rw [hy.2]; exact ⟨by simp, by simp⟩
  have hnt : ∀ op ∈ #[x, y], op.act.touch? = none := by
    intro op hop
    rcases hm op hop with rfl | rfl
    · rw [hx.2]; rfl
    · rw [hy.2]; rfl
  have hsz : ((gs.setIfInBounds 0 a').push child).size = gs.size + 1 := by simp
  have hu : ∀ op ∈ #[x, y], ∀ z, op.act.touch? = some z → op.g < p.J0 → op.g = 0 := fun op hop z hz => by rw [hnt op hop] at hz; cases hz
  have hDf : ∀ k, Deaf (t ++ #[x, y]) k = Deaf t k := fun k => Deaf_still t k _ hst
  have e1 : gs.size - 1 + 1 = gs.size := by omega
  refine ⟨?_, by rw [hsz]; have := h.J0le; omega, by rw [hsz]; omega, fun k h1 h2 => ?_, fun k hk => ?_, ?_, known_app h.known hu, over_app h.over hu, low_app h.low (fun op hop z hz => by rw [hnt op hop] at hz; cases hz), norel_app h.norel (fun op hop => ?_), by simp; have := h.p0le; omega, fun k h1 h2 hs => ?_, fun k h1 h2 hs => ?_, h.pay, h.wg, by rw [hsz]; exact hmode⟩
  · rw [upd_ne D _ (by omega)]; exact h.zero
  · rw [hsz] at h2
    rw [hDf]
    rcases Nat.lt_or_ge k gs.size with hlt | hge
    · obtain ⟨g, hg, hsg⟩ := h.wk k h1 hlt
      refine ⟨g, ?_, by rw [upd_ne D _ (by omega), upd_ne F _ (by omega)]; exact hsg⟩
      rw [Array.getElem?_push_lt (by simp; omega), ← Array.getElem?_eq_getElem, Array.getElem?_setIfInBounds_ne (by omega)]
      exact hg
    · obtain rfl : k = gs.size := by omega
      refine ⟨child, ?_, by rw [upd_same, upd_same, h.above _ (Nat.le_refl _)]; exact .work h.J0le hc⟩
      have : gs.size = (gs.setIfInBounds 0 a').size := by simp
      conv => lhs; rw [this]
      rw [Array.getElem?_push_size]
  · rw [hsz] at hk
    rw [hDf]; exact h.above k (by omega)
  · rw [hsz]
    have := h.ct.fork (apart_plan hF) (x := x) (y := y) (by rw [e1]; exact hx) (by rw [e1]; exact hy) hd
    rw [e1] at this
    exact this
  · rcases hm op hop with rfl | rfl
    · rw [hx.2]; simp
    · rw [hy.2]; simp
  · rw [hsz] at h2
    rcases Nat.lt_or_ge k gs.size with hlt | hge
    · rw [upd_ne D _ (by omega)] at hs
      refine (h.rel k h1 hlt hs).app (fun r hr => hr.appNot fun op hop => ?_) (fun op hop _ z hz => by rw [hnt op hop] at hz; cases hz)
      have := hF.pos
      rcases hm op hop with rfl | rfl
      · rw [hx.1]; omega
      · rw [hy.1]; omega
    · obtain rfl : k = gs.size := by omega
      rw [upd_same] at hs
      simp at hs
  · rw [hsz] at h2
    rcases Nat.lt_or_ge k gs.size with hlt | hge
    · rw [upd_ne D _ (by omega)] at hs
      exact h.has k h1 hlt hs
    · obtain rfl : k = gs.size := by omega
      rw [upd_same] at hs
      simp at hs

/-- The end: all have left, and the starter has said 'acquire': back to the frame between two phases. -/
theorem Ph.idle (h : Ph p M tag D F gs w t p0 sv sm) (hq : AllQuit gs.size D) {q : Nat} (hqa : t.act? q = some (.mark (.acquire (stA p.Wg)))) (hg : t.g? q = some 0) (hh : t.heard q) (hr : ∀ k, p.J0 ≤ k → k < gs.size → ∀ r, RelBy (stA p.Wg) t k r → r < q) (hd : Deaf t 0 = 0) (h0 : 0 < gs.size) :
    ∃ qs, Idle p.P p.ShP p.B gs qs t := by
  classical
  have key : ∀ i k, p.J0 ≤ k → k < gs.size → t.g? i = some k → (∃ r, p0 ≤ r ∧ RelBy (stA p.Wg) t k r ∧ i ≤ r) → HappensBefore t i q := by
    intro i k hJ hk hgi ⟨r, hr0, hrb, hle⟩
    have hrq := hr k hJ hk r hrb
    have edge : HappensBefore t r q := .single (.inr ⟨.marked hrq (.inr hrb.act) hqa (fun k h1 _ => h.norel k (by omega)), hrb.heard, hh⟩)
    rcases Nat.lt_or_ge i r with hlt | hge
    · exact .trans (.single (.inl ⟨hlt, k, hgi, hrb.g⟩)) edge
    · obtain rfl : i = r := by omega
      exact edge
  obtain ⟨zq, hzq, hzg⟩ : ∃ z, t[q]? = some z ∧ z.g = 0 := by
    unfold Trace.g? at hg
    obtain ⟨z, h1, h2⟩ := Option.map_eq_some_iff.1 hg
    exact ⟨z, h1, h2⟩
  have hfree : ∀ l, ¬ p.ShP l → Perm t 0 l := by
    intro l hl i x hx hxl
    obtain ⟨op, hop, hox⟩ := touch_of hx
    rcases Nat.lt_or_ge op.g p.J0 with hlt | hge
    · exact h.known i op x hop hox (by rw [hxl]; exact hl) hlt
    · have hk : op.g < gs.size := by have := h.ct.gs i op hop; omega
      obtain ⟨r, hr0, hrb, haf⟩ := h.rel op.g hge hk (by rw [hq op.g hk]; omega)
      have hle : i ≤ r := Nat.le_of_not_lt fun hlt => hl (hxl ▸ haf i op x hlt hop rfl hox)
      exact ⟨q, zq, hzq, hzg, .inr (key i op.g hge hk (by simp [Trace.g?, hop]) ⟨r, hr0, hrb, hle⟩)⟩
  have hquit : ∀ k, ∃ m, 0 < k → k < gs.size → ∃ g, gs[k]? = some g ∧ QuitsD p.P m (Deaf t k) g := by
    intro k
    by_cases hk : 0 < k ∧ k < gs.size
    · obtain ⟨g, hgk, hs⟩ := h.wk k hk.1 hk.2
      rw [hq k hk.2] at hs
      generalize hF : F k = Fk at hs
      generalize hD : Deaf t k = dk at hs
      cases hs with
      | quit hQ => exact ⟨_, fun _ _ => ⟨g, hgk, hQ⟩⟩
    · exact ⟨0, fun h1 h2 => absurd ⟨h1, h2⟩ hk⟩
  refine ⟨fun k => (hquit k).choose, ⟨fun k g hk hgk => ?_, h.above⟩, ⟨h.ct.quiet, fun _ _ _ _ hf => hf.elim, fun _ _ _ _ hf => hf.elim, fun l hs _ => hfree l hs, fun l hs _ => .of (hfree l hs), h.ct.nr, h.ct.gs⟩, ?_, hd, h.low⟩
  · obtain ⟨g', hg', hQ⟩ := (hquit k).choose_spec hk (Array.getElem?_eq_some_iff.1 hgk).1
    rw [hgk] at hg'
    cases hg'
    exact hQ
  · intro i g hgi hne hc
    rcases Nat.lt_or_ge g p.J0 with hlt | hge
    · exact h.over i g hgi hne hlt hc
    · obtain ⟨op, hop, rfl⟩ := Option.map_eq_some_iff.1 hgi
      have hk : op.g < gs.size := by have := h.ct.gs i op hop; omega
      obtain ⟨r, hr0, hrb, haf⟩ := h.rel op.g hge hk (by rw [hq op.g hk]; omega)
      have hle : i ≤ r := Nat.le_of_not_lt fun hlt => hrb.after i hlt hgi hc
      exact ⟨q, hg, key i op.g hge hk hgi ⟨r, hr0, hrb, hle⟩⟩
end
end Go.Proofs.Ytpioacgknamemaa
set_option linter.unusedSectionVars false
namespace Go.Proofs.Ytpioacgknamemaa
open Go Go.RowKit Go.Conc Go.ConcN
open Go.ConcR (KK wgBlock WgAt stA smA rd wr mk Payload Aside2 DC0 Bk g_of_ofEvents bk_of_mute ofEvent_loc_mark ofEvent_cell)

def flag : CTag → Nat
  | .w3 => 1
  | _ => 0
def Less (M v : Nat) (tag' : CTag) (F' : Fuel) (tag : CTag) (F : Fuel) : Prop := phi M v tag' < phi M v tag ∨ (phi M v tag' = phi M v tag ∧ (flag tag' < flag tag ∨ (flag tag' = flag tag ∧ Fuel.Lt F' F)))

section
variable (p : Plan) [Payload] (M : Nat) (Anch Head : Goroutine → World → Prop) (tag : CTag) (D : Nat → WD) (F : Nat → Fuel) (F0 : Fuel) (gs : Array Goroutine) (w : World) (t : Trace) (p0 : Nat) (sv sm : Int) (a : Goroutine)
def Goes0 : Prop := ∃ a' w' es tag' F0' sv' sm', stepG p.P true a w = .go a' w' es ∧ CS p M Anch Head tag' gs.size F0' (deafBehind (Deaf t 0) es) a' w' ∧
  Ph p M tag' D F ((gs.map (Go.Conc.woken p.P a a' w')).setIfInBounds 0 a') w' (t ++ MemOp.ofEvents 0 a.frame.fn a.frame.place es) p0 sv' sm' ∧ Less M (Vc gs.size D) tag' F0' tag F0
def Spawns0 : Prop := ∃ a' child tag' F0' Fc, stepG p.P true a w = .spawn a' child w #[] ∧ Deaf t 0 = 0 ∧ CS p M Anch Head tag' (gs.size + 1) F0' 0 a' w ∧
  (∀ x y : MemOp, x.g = 0 ∧ x.act = .go gs.size → y.g = gs.size ∧ y.act = .start → Ph p M tag' (upd D gs.size ⟨7, 0, 0⟩) (upd F gs.size Fc) ((gs.setIfInBounds 0 a').push child) w (t ++ #[x, y]) p0 sv sm) ∧
  phi M (Vc (gs.size + 1) (upd D gs.size ⟨7, 0, 0⟩)) tag' + 7 < phi M (Vc gs.size D) tag
def Ends0 : Prop := ∃ a', stepG p.P true a w = .go a' w #[mk (.acquire (stA p.Wg))] ∧ Anch a' w ∧ Deaf t 0 = 0 ∧ AllQuit gs.size D ∧ gs.size = M ∧ sv = 0 ∧ sm = 0
end

section
variable {p : Plan} [Payload] {M : Nat} {Anch Head : Goroutine → World → Prop}
variable {tag tag' : CTag} {D : Nat → WD} {F : Nat → Fuel} {F0 F0' : Fuel} {gs : Array Goroutine} {w w' : World} {t : Trace} {p0 n d : Nat} {sv sm sv' sm' : Int} {a a' : Goroutine} {es : Array Event}

theorem ok0_book (hF : p.Fits M) {j : Nat} {fn : FuncId} {pos : String} (h : ∀ e ∈ es, Bk p.Wg e) :
    ∀ op ∈ MemOp.ofEvents 0 fn pos es, Ok0 p.ShP p.Own p.Rd j op ∧ ∀ x, op.act.touch? = some x → x.loc.low p.B := by
  intro op hop
  obtain ⟨e, he, rfl⟩ := Go.Conc.mem_ofEvents hop
  rcases h e he with h1 | h1 | ⟨a, wr, rfl, ha⟩
  · exact ⟨⟨rfl, fun x hx => by simp only [ofEvent_loc_mark h1] at hx; cases hx⟩, fun x hx => by simp only [ofEvent_loc_mark h1] at hx; cases hx⟩
  · exact ⟨⟨rfl, fun x hx => by simp only [ofEvent_loc_mark h1] at hx; cases hx⟩, fun x hx => by simp only [ofEvent_loc_mark h1] at hx; cases hx⟩
  · refine ⟨⟨rfl, fun x hx => ?_⟩, fun x hx => ?_⟩ <;> simp only [ofEvent_cell, MemAct.touch?, Option.some.injEq] at hx <;> subst hx
    · exact .inl ⟨.inr ⟨a, rfl, ha⟩, by simp⟩
    · exact sh_low hF ⟨a, rfl, ha⟩

theorem ok0_idle (hF : p.Fits M) (h0 : 0 < gs.size) {fn : FuncId} {pos : String} (h : ∀ e ∈ es, p.EvS gs.size e) :
    ∀ op ∈ MemOp.ofEvents 0 fn pos es, Ok0 p.ShP p.Own p.Rd (gs.size - 1) op ∧ ∀ x, op.act.touch? = some x → x.loc.low p.B := by
  intro op hop
  obtain ⟨e, he, rfl⟩ := Go.Conc.mem_ofEvents hop
  refine ⟨⟨rfl, fun x hx => ?_⟩, fun x hx => ?_⟩
  · rcases (h e he).1 x hx with ⟨h1, h2⟩ | ⟨h1, _, h2, h3⟩
    · exact .inl ⟨.inr h1, h2⟩
    · exact .inr ⟨h1, fun k _ hk => h2 k (by omega), fun hw k _ hk => h3 hw k (by omega)⟩
  · rcases (h e he).1 x hx with ⟨h1, _⟩ | ⟨_, h1, _⟩
    · exact sh_low hF h1
    · exact h1

/-- A step of its own. -/
theorem idle0 (hF : p.Fits M) (h0 : 0 < gs.size) (h : Ph p M tag D F gs w t p0 sv sm) (hgo : stepG p.P true a w = .go a' w' es) (hD : p.DSt gs.size w w' es) (hcs : CS p M Anch Head tag gs.size F0' (Deaf t 0) a' w') (hlt : Fuel.Lt F0' F0) : Goes0 p M Anch Head tag D F F0 gs w t p0 a := by
  have hdf : deafBehind (Deaf t 0) es = Deaf t 0 := deafBehind_idle (fun e he => ⟨(hD.ev e he).2.1, (hD.ev e he).2.2.1⟩) _
  exact ⟨a', w', es, tag, F0', sv, sm, hgo, by rw [hdf]; exact hcs, h.step0 hF (fun k hk hkn => .of_blocks (fun b hb _ => hD.low k hk hkn b hb) (fun ⟨st, sm, hl⟩ => ⟨st, sm, hl.of_block hD.wg⟩) hD.pay) (ok0_idle hF h0 hD.ev) (fun e he => (hD.ev e he).2.2.2) (pay_block hD.pay h.pay) (h.wg.of_block hD.wg) h.mode, .inr ⟨rfl, .inr ⟨rfl, hlt⟩⟩⟩

/-- The library's bookkeeping. -/
theorem book0 (hF : p.Fits M) (h : Ph p M tag D F gs w t p0 sv sm) (hgo : stepG p.P true a w = .go a' w' es) (hAs : Aside p.Wg w w') (hwg' : WgAt p.ty p.Wg w' sv' sm') (hbk : ∀ e ∈ es, Bk p.Wg e) (hcs : CS p M Anch Head tag' gs.size F0' (deafBehind (Deaf t 0) es) a' w')
    (hmode : ConcN.Mode gs.size D tag' sv' sm') (hlt : Less M (Vc gs.size D) tag' F0' tag F0) : Goes0 p M Anch Head tag D F F0 gs w t p0 a :=
  ⟨a', w', es, tag', F0', sv', sm', hgo, hcs, h.step0 hF (fun k _ _ => relW_wg hF k hAs ⟨_, _, hwg'⟩) (ok0_book hF hbk) (norel_of_Bk hbk) (pay_block (hAs.block p.C hF.CWg) h.pay) hwg' hmode, hlt⟩

theorem w1_step (hF : p.Fits M) (h0 : 0 < gs.size) (h : Ph p M .w1 D F gs w t p0 sv sm) (hn : M = gs.size) (hd : Deaf t 0 = 1) (hcs : GoesF p.P true (RC p.ty p.Wg p.C) (p.DSt M) (p.SW1 M Anch Head) F0 a w) : Goes0 p M Anch Head .w1 D F F0 gs w t p0 a := by
  have hV := Vc_lt h0 h.zero (D := D)
  have hfew := hF.few
  rcases hcs.cases rc_refl with hstop | ⟨_, f, rfl, a', w', es, hgo, hD, hg'⟩
  · obtain ⟨_, hall⟩ := hstop w (.refl w)
    obtain ⟨ho, rfl, rfl, _⟩ := h.mode.open_inv trivial
    obtain ⟨a', hgo, hz, hne⟩ := hall (Vc gs.size D) (by omega) (by simpa [pend] using h.wg)
    by_cases hv : Vc gs.size D = 0
    · obtain ⟨F', hk⟩ := hz hv
      refine book0 hF h hgo (.refl p.Wg w) h.wg bk_rd (tag' := .ke) (F0' := F') (by rw [hd, ← hn]; exact .ke hk) ?_ (.inl (by simp only [phi]; omega))
      have e : ((Vc gs.size D + pend .w1 : Nat) : Int) * KK = 0 := by rw [hv]; simp [pend]
      rw [e]
      exact .fin trivial (allQuit_of ho hv)
    · obtain ⟨F', hk⟩ := hne hv
      exact book0 hF h hgo (.refl p.Wg w) h.wg bk_rd (tag' := .w2 (Vc gs.size D)) (F0' := F') (by rw [hd, ← hn]; exact .w2 (by rw [hn]; rw [hn] at hk; exact hk)) (h.mode.reopen trivial trivial rfl (fun vs e => by cases e; omega)) (.inl (by simp only [phi]; omega))
  · exact idle0 hF h0 h hgo (hn ▸ hD) (by rw [hd, ← hn]; exact .w1 hg') (.mk f w)

set_option maxHeartbeats 1600000 in
theorem starter_step (hF : p.Fits M) (hAn : ∀ g w, Head g w → p.GoTo M (p.SW1 M Anch Head) g w) (h0 : 0 < gs.size) (h : Ph p M tag D F gs w t p0 sv sm) (hcs : CS p M Anch Head tag gs.size F0 (Deaf t 0) a w) (hrun : a.status = .running) :
    Goes0 p M Anch Head tag D F F0 gs w t p0 a ∨ Spawns0 p M Anch Head tag D F gs w t p0 sv sm a ∨ Ends0 p M Anch D gs w t sv sm a := by
  have hV := Vc_lt h0 h.zero (D := D)
  have hfew := hF.few
  have hMle := h.Mle
  generalize hn : gs.size = n at hcs
  generalize hd : Deaf t 0 = d at hcs
  cases hcs with
  | skd hr hw =>
    rename_i r
    rcases hw.cases rc_refl with hstop | ⟨_, f, rfl, a', w', es, hgo, hD, hg'⟩
    · obtain ⟨_, a', hgo, F', hk⟩ := hstop w (.refl w)
      exact .inl (book0 hF h hgo (.refl p.Wg w) h.wg bk_dis (tag' := .sp r 4) (F0' := F') (by rw [hd, hn]; exact .sa1 hr hk) (h.mode.reopen trivial trivial rfl (by simp)) (.inl (by simp only [phi]; omega)))
    · exact .inl (idle0 hF h0 h hgo (hn ▸ hD) (by rw [hd, hn]; exact .skd hr hg') (.mk f w))
  | sa1 hr hw =>
    rename_i r
    rcases hw.cases rc_refl with hstop | ⟨_, f, rfl, a', w', es, hgo, hD, hg'⟩
    · obtain ⟨_, hall⟩ := hstop w (.refl w)
      obtain ⟨ho, rfl, rfl, _⟩ := h.mode.open_inv trivial
      obtain ⟨a', hgo, F', hk⟩ := hall (Vc gs.size D) (by omega) (by simpa [pend] using h.wg)
      refine .inl (book0 hF h hgo (aside_setCell w (stA p.Wg) _) (h.wg.setSt _) bk_rw (tag' := .sp r 3) (F0' := F') (by rw [hd, hn]; rw [hn] at hk; exact .ske hr hk) ?_ (.inl (by simp only [phi]; omega)))
      have e : (((Vc gs.size D : Nat) : Int) + 1) * KK = ((Vc gs.size D + pend (.sp r 3) : Nat) : Int) * KK := by simp [pend]
      rw [e]
      exact .opn trivial ho (by simp)
    · exact .inl (idle0 hF h0 h hgo (hn ▸ hD) (by rw [hd, hn]; exact .sa1 hr hg') (.mk f w))
  | ske hr hw =>
    rename_i r
    rcases hw.cases rc_refl with hstop | ⟨_, f, rfl, a', w', es, hgo, hD, hg'⟩
    · obtain ⟨_, a', hgo, F', hk⟩ := hstop w (.refl w)
      exact .inl (book0 hF h hgo (.refl p.Wg w) h.wg bk_en (tag' := .sp r 2) (F0' := F') (by rw [hd, hn]; exact .sgo hr hk) (h.mode.reopen trivial trivial rfl (by simp)) (.inl (by simp only [phi]; omega)))
    · exact .inl (idle0 hF h0 h hgo (hn ▸ hD) (by rw [hd, hn]; exact .ske hr hg') (.mk f w))
  | sgo hr hw =>
    rename_i r
    rcases hw.cases rc_refl with hstop | ⟨_, f, rfl, a', w', es, hgo, hD, hg'⟩
    · obtain ⟨_, a', child, hsp, _, hwk0, hnext⟩ := hstop w (.refl w)
      obtain ⟨Fc, hwk⟩ := hwk0 h.pay ⟨_, _, h.wg⟩
      obtain ⟨ho, rfl, rfl, _⟩ := h.mode.open_inv trivial
      rw [← hn] at hwk
      have eV : Vc (gs.size + 1) (upd D gs.size ⟨7, 0, 0⟩) = Vc gs.size D + 1 := by
        simp only [Vc, sumTo, upd_same]
        rw [sumTo_upd_out D _ cnt (Nat.le_refl _)]; rfl
      have ho' : OpenSt (gs.size + 1) (upd D gs.size ⟨7, 0, 0⟩) := fun i hi => by
        by_cases e : i = gs.size
        · subst e; rw [upd_same]; simp
        · rw [upd_ne D _ e]; exact ho i (by omega)
      have est : ∀ tag', pend tag' = 0 → ((Vc gs.size D + pend (.sp r 2) : Nat) : Int) * KK = ((Vc (gs.size + 1) (upd D gs.size ⟨7, 0, 0⟩) + pend tag' : Nat) : Int) * KK := fun tag' hp => by rw [eV, hp]; simp [pend]
      cases r with
      | zero =>
        obtain ⟨F', hk⟩ := hnext
        refine .inr (.inl ⟨a', child, .kd, F', Fc, hsp, hd, by rw [show gs.size + 1 = M by omega]; exact .kd hk, fun x y hx hy => h.spawn hF h0 (by omega) hx hy hd hwk ?_, by rw [eV]; simp only [phi]; omega⟩)
        rw [est .kd rfl]
        exact .opn trivial ho' (by simp)
      | succ r' =>
        obtain ⟨F', hk⟩ := hnext
        refine .inr (.inl ⟨a', child, .sp r' 5, F', Fc, hsp, hd, by rw [show gs.size + 1 = M - (r' + 1) by omega]; exact .skd (by omega) hk, fun x y hx hy => h.spawn hF h0 (by omega) hx hy hd hwk ?_, by rw [eV]; simp only [phi]; omega⟩)
        rw [est (.sp r' 5) rfl]
        exact .opn trivial ho' (by simp)
    · exact .inl (idle0 hF h0 h hgo (hn ▸ hD) (by rw [hd, hn]; exact .sgo hr hg') (.mk f w))
  | kd hw =>
    rcases hw.cases rc_refl with hstop | ⟨_, f, rfl, a', w', es, hgo, hD, hg'⟩
    · obtain ⟨_, a', hgo, F', hk⟩ := hstop w (.refl w)
      exact .inl (book0 hF h hgo (.refl p.Wg w) h.wg bk_dis (tag' := .anch) (F0' := F') (by rw [hd, hn]; exact .anch hk) (h.mode.reopen trivial trivial rfl (by simp)) (.inl (by simp only [phi]; omega)))
    · exact .inl (idle0 hF h0 h hgo (hn ▸ hD) (by rw [hd, hn]; exact .kd hg') (.mk f w))
  | anch hw =>
    rcases hw.cases rc_refl with hstop | ⟨_, f, rfl, a', w', es, hgo, hD, hg'⟩
    · obtain ⟨F', hk⟩ := hAn a w (hstop w (.refl w))
      have h' : Ph p M .w1 D F gs w t p0 sv sm := { h with mode := h.mode.reopen trivial trivial rfl (by simp) }
      obtain ⟨a', w', es, tag', F0', sv', sm', x1, x2, x3, x4⟩ := w1_step hF h0 h' hn.symm hd hk
      refine .inl ⟨a', w', es, tag', F0', sv', sm', x1, x2, x3, .inl ?_⟩
      rcases x4 with x4 | ⟨x4, _⟩ <;> simp only [phi] at x4 ⊢ <;> omega
    · exact .inl (idle0 hF h0 h hgo (hn ▸ hD) (by rw [hd, hn]; exact .anch hg') (.mk f w))
  | w1 hw => exact .inl (w1_step hF h0 h hn.symm hd hw)
  | w2 hw =>
    rename_i vs
    rcases hw.cases rc_refl with hstop | ⟨_, f, rfl, a', w', es, hgo, hD, hg'⟩
    · obtain ⟨_, hall⟩ := hstop w (.refl w)
      obtain ⟨ho, rfl, rfl, hw2⟩ := h.mode.open_inv trivial
      obtain ⟨hle, h1⟩ := hw2 vs rfl
      obtain ⟨hhit, hmiss⟩ := hall (Vc gs.size D) (by omega) (by simpa [pend] using h.wg)
      by_cases e : Vc gs.size D = vs
      · obtain ⟨a', hgo, F', hk⟩ := hhit e
        exact .inl (book0 hF h hgo (aside_setCell w (stA p.Wg) _) (h.wg.setSt _) bk_rw (tag' := .w3) (F0' := F') (by rw [hd, hn]; exact .w3 (by rw [hn] at hk; exact hk)) (.reg trivial ho (by omega)) (.inl (by simp only [phi]; omega)))
      · obtain ⟨a', hgo, F', hk⟩ := hmiss e
        exact .inl (book0 hF h hgo (.refl p.Wg w) h.wg bk_rd (tag' := .anch) (F0' := F') (by rw [hd, hn]; exact .anch hk) (h.mode.reopen trivial trivial rfl (by simp)) (.inl (by simp only [phi]; omega)))
    · exact .inl (idle0 hF h0 h hgo (hn ▸ hD) (by rw [hd, hn]; exact .w2 hg') (.mk f w))
  | w3 hw =>
    rcases hw.cases rc_refl with hstop | ⟨_, f, rfl, a', w', es, hgo, hD, hg'⟩
    · obtain ⟨_, hoff, hblk, htake⟩ := hstop w (.refl w)
      have hm := h.mode
      have hwg := h.wg
      cases hm with
      | opn h1 _ _ => exact h1.elim
      | reg h1 h2 h3 => exact .inl (book0 hF h (hblk ⟨_, hwg⟩) (.refl p.Wg w) hwg (by simp) (tag' := .blk) (F0' := .leaf) (by rw [hd, hn]; exact .blk hstop) (.reg trivial h2 h3) (.inr ⟨rfl, .inl (by simp [flag])⟩))
      | last L h1 h2 h3 h4 => exact .inl (book0 hF h (hblk ⟨_, hwg⟩) (.refl p.Wg w) hwg (by simp) (tag' := .blk) (F0' := .leaf) (by rw [hd, hn]; exact .blk hstop) (.last L trivial h2 h3 h4) (.inr ⟨rfl, .inl (by simp [flag])⟩))
      | sema h2 =>
        obtain ⟨a', hgo, F', hk⟩ := htake hwg
        have hdf : deafBehind 1 (semEvents (smA p.Wg)) = 1 := by simp [deafBehind, semEvents]
        exact .inl (book0 hF h hgo (aside_setCell w (smA p.Wg) _) (hwg.setSm 0) bk_sem (tag' := .w4) (F0' := F') (by rw [hd, hn, hdf]; exact .w4 hk) (.fin trivial h2) (.inl (by simp only [phi]; omega)))
      | fin h1 _ => exact h1.elim
    · exact .inl (idle0 hF h0 h hgo (hn ▸ hD) (by rw [hd, hn]; exact .w3 hg') (.mk f w))
  | blk hw => simp at hrun
  | w4 hw =>
    rcases hw.cases rc_refl with hstop | ⟨_, f, rfl, a', w', es, hgo, hD, hg'⟩
    · obtain ⟨_, hx⟩ := hstop w (.refl w)
      obtain ⟨hq, rfl, rfl⟩ := h.mode.fin_inv trivial
      obtain ⟨a', hgo, F', hk⟩ := hx h.wg
      exact .inl (book0 hF h hgo (.refl p.Wg w) h.wg bk_rd (tag' := .ke) (F0' := F') (by rw [hd, hn]; exact .ke hk) (.fin trivial hq) (.inl (by simp only [phi]; omega)))
    · exact .inl (idle0 hF h0 h hgo (hn ▸ hD) (by rw [hd, hn]; exact .w4 hg') (.mk f w))
  | ke hw =>
    rcases hw.cases rc_refl with hstop | ⟨_, f, rfl, a', w', es, hgo, hD, hg'⟩
    · obtain ⟨_, a', hgo, F', hk⟩ := hstop w (.refl w)
      obtain ⟨hq, rfl, rfl⟩ := h.mode.fin_inv trivial
      exact .inl (book0 hF h hgo (.refl p.Wg w) h.wg bk_en (tag' := .acq) (F0' := F') (by rw [hd, hn]; exact .acq hk) (.fin trivial hq) (.inl (by simp only [phi]; omega)))
    · exact .inl (idle0 hF h0 h hgo (hn ▸ hD) (by rw [hd, hn]; exact .ke hg') (.mk f w))
  | acq hw =>
    rcases hw.cases rc_refl with hstop | ⟨_, f, rfl, a', w', es, hgo, hD, hg'⟩
    · obtain ⟨_, a', hgo, hk⟩ := hstop w (.refl w)
      obtain ⟨hq, rfl, rfl⟩ := h.mode.fin_inv trivial
      exact .inr (.inr ⟨a', hgo, hk, hd, hq, hn, rfl, rfl⟩)
    · exact .inl (idle0 hF h0 h hgo (hn ▸ hD) (by rw [hd, hn]; exact .acq hg') (.mk f w))
end
end Go.Proofs.Ytpioacgknamemaa
set_option linter.unusedSectionVars false
namespace Go.Proofs.Ytpioacgknamemaa
open Go Go.RowKit Go.Conc Go.ConcN
open Go.ConcR (KK wgBlock WgAt stA smA rd wr mk Payload Aside2 DC0 Bk g_of_ofEvents ofEvent_mk)

abbrev Mea := Nat × (Nat → Fuel) × Nat × Fuel
def MeaLt (M : Nat) : Mea → Mea → Prop := Prod.Lex (· < ·) (Prod.Lex (Dec M) (Prod.Lex (· < ·) Fuel.Lt))
theorem MeaLt.wf (M : Nat) : WellFounded (MeaLt M) :=
  (Prod.lex ⟨_, Nat.lt_wfRel.wf⟩ (Prod.lex ⟨_, Dec.wf M⟩ (Prod.lex ⟨_, Nat.lt_wfRel.wf⟩ ⟨_, Fuel.wf⟩))).wf

section
variable {p : Plan} [Payload] {M : Nat} {Anch Head : Goroutine → World → Prop}

theorem WS.run_of {k s d : Nat} {F : Fuel} {g : Goroutine} {w : World} (h : WS p k s F d g w) (hs : s ≠ 1) : g.status = .running := by
  rcases h.status with h | ⟨_, h⟩
  · exact h
  · exact absurd h hs

theorem some_runs (hAr : ∀ g w, Head g w → g.status = .running) {tag : CTag} {D : Nat → WD} {F : Nat → Fuel} {F0 : Fuel} {gs : Array Goroutine} {w : World} {t : Trace} {p0 d : Nat} {sv sm : Int} {a : Goroutine} (ha : gs[0]? = some a)
    (hcs : CS p M Anch Head tag gs.size F0 d a w) (h : Ph p M tag D F gs w t p0 sv sm) : ∃ (i : Nat) (g : Goroutine), gs[i]? = some g ∧ g.status = .running := by
  rcases hcs.status hAr with ⟨hs, _⟩ | ⟨_, rfl⟩
  · exact ⟨0, a, ha, hs⟩
  · have key : ∀ i, i < gs.size → (D i).stage ≠ 1 → ∃ (i : Nat) (g : Goroutine), gs[i]? = some g ∧ g.status = .running := by
      intro i hi hne
      have h1 : 1 ≤ i := by
        rcases Nat.eq_zero_or_pos i with rfl | hp
        · exact absurd h.zero hne
        · exact hp
      obtain ⟨g, hg, hs⟩ := h.wk i h1 hi
      exact ⟨i, g, hg, hs.run_of hne⟩
    have hm := h.mode
    cases hm with
    | opn h1 _ _ => exact h1.elim
    | reg _ _ h3 =>
      obtain ⟨i, hi, h5⟩ := exists_counted h3
      exact key i hi (by omega)
    | last L _ h2 h3 _ => exact key L h2 (by omega)
    | fin h1 _ => exact h1.elim

theorem phase_run (hF : p.Fits M) (hAr : ∀ g w, Head g w → g.status = .running) (hAn : ∀ g w, Head g w → p.GoTo M (p.SW1 M Anch Head) g w) :
    ∀ (μ : Mea) (gs : Array Goroutine) (w : World) (sl : Option (Nat × Nat)) (t : Trace) (D : Nat → WD) (tag : CTag) (F : Nat → Fuel) (F0 : Fuel) (a : Goroutine) (sv sm : Int) (p0 : Nat),
      μ = (phi M (Vc gs.size D) tag + Ssum gs.size D, F, flag tag, F0) → gs[0]? = some a → CS p M Anch Head tag gs.size F0 (Deaf t 0) a w → Ph p M tag D F gs w t p0 sv sm →
      ∃ N gs' w' sl' t' a' q, runNT p.P N (crowd gs w sl) t = (.next (crowd gs' w' sl'), t') ∧ gs'[0]? = some a' ∧ gs'.size = M ∧ Idle p.P p.ShP p.B gs' q t' ∧ Anch a' w' ∧ p.Pay w' ∧ (∀ k, p.J0 ≤ k → k < M → p.HasAll k w') ∧ WgAt p.ty p.Wg w' 0 0 := by
  intro μ
  induction μ using (MeaLt.wf M).induction with
  | _ μ ih =>
    intro gs w sl t D tag F F0 a sv sm p0 hμ ha hcs h
    have h0 : 0 < gs.size := (Array.getElem?_eq_some_iff.1 ha).1
    have haw : ∀ g ∈ gs, awake g := by
      intro g hg
      obtain ⟨i, hi⟩ := Array.mem_iff_getElem?.1 hg
      rcases Nat.eq_zero_or_pos i with rfl | hp
      · rw [ha] at hi; cases hi
        rcases hcs.status hAr with ⟨hs, _⟩ | ⟨hs, _⟩ <;> intro tm <;> rw [hs] <;> simp
      · obtain ⟨g', hg', hs⟩ := h.wk i hp (Array.getElem?_eq_some_iff.1 hi).1
        rw [hi] at hg'; cases hg'
        intro tm
        rcases hs.status with h | ⟨h, _⟩ <;> rw [h] <;> simp
    obtain ⟨i, g, dr, sl', hg, hrun, hstep⟩ := crowd_pick (P := p.P) (w := w) (sl := sl) haw (some_runs hAr ha hcs h)
    have hcs' := hcs.rely (RC.at w dr)
    have h' := h.at hF dr
    have on : ∀ {m1 : Machine} {ops : Trace}, runT p.P (crowd gs (w.at dr) sl') i = (.next m1, ops) → (∃ N gs' w' sl'' t' a' q, runNT p.P N m1 (t ++ ops) = (.next (crowd gs' w' sl''), t') ∧ gs'[0]? = some a' ∧ gs'.size = M ∧ Idle p.P p.ShP p.B gs' q t' ∧ Anch a' w' ∧ p.Pay w' ∧ (∀ k, p.J0 ≤ k → k < M → p.HasAll k w') ∧ WgAt p.ty p.Wg w' 0 0) →
        ∃ N gs' w' sl' t' a' q, runNT p.P N (crowd gs w sl) t = (.next (crowd gs' w' sl'), t') ∧ gs'[0]? = some a' ∧ gs'.size = M ∧ Idle p.P p.ShP p.B gs' q t' ∧ Anch a' w' ∧ p.Pay w' ∧ (∀ k, p.J0 ≤ k → k < M → p.HasAll k w') ∧ WgAt p.ty p.Wg w' 0 0 := by
      rintro m1 ops hr ⟨N, gs', w', sl'', t', a', q, x1, x2⟩
      exact ⟨N + 1, gs', w', sl'', t', a', q, by simp only [runNT, hstep, hr]; exact x1, x2⟩
    rcases Nat.eq_zero_or_pos i with rfl | hpos
    · obtain rfl : g = a := by rw [ha] at hg; exact (Option.some.inj hg).symm
      rcases starter_step hF hAn h0 h' hcs' hrun with ⟨a', w', es, tag', F0', sv', sm', x1, x2, x3, x4⟩ | ⟨a', child, tag', F0', Fc, x1, x2, x3, x4, x5⟩ | ⟨a', x1, x2, x3, x4, x5, rfl, rfl⟩
      · have hsz : ((gs.map (Go.Conc.woken p.P g a' w')).setIfInBounds 0 a').size = gs.size := by simp
        refine on (runT_crowd_go (P := p.P) (sl := sl') (i := 0) ha (by simpa using x1)) (ih _ ?_ _ w' sl' _ D tag' F F0' a' sv' sm' p0 rfl (by simp [h0]) ?_ x3)
        · rw [hμ, hsz]
          rcases x4 with x4 | ⟨x4, x5 | ⟨x5, x6⟩⟩
          · exact .left _ _ (by omega)
          · rw [x4]; exact .right _ (.right _ (.left _ _ x5))
          · rw [x4, x5]; exact .right _ (.right _ (.right _ x6))
        · rw [hsz, Deaf_own]; exact x2
      · have hrT := runT_crowd_spawn (P := p.P) (sl := sl') (i := 0) ha (by simpa using x1)
        have hsz : ((gs.setIfInBounds 0 a').push child).size = gs.size + 1 := by simp
        have hP := x4 { g := 0, fn := g.frame.fn, pos := g.frame.place, act := .go gs.size } { g := gs.size, fn := child.frame.fn, pos := g.frame.place, act := .start } ⟨rfl, rfl⟩ ⟨rfl, rfl⟩
        refine on hrT (ih _ ?_ _ (w.at dr) sl' _ _ tag' _ F0' a' sv sm p0 rfl ?_ ?_ hP)
        · rw [hμ, hsz]
          refine .left _ _ ?_
          have eS : Ssum (gs.size + 1) (upd D gs.size ⟨7, 0, 0⟩) = Ssum gs.size D + 7 := by
            simp only [Ssum, sumTo, upd_same]
            rw [sumTo_upd_out D _ WD.stage (Nat.le_refl _)]
          omega
        · rw [Array.getElem?_push_lt (by simp; omega), ← Array.getElem?_eq_getElem]
          simp [h0]
        · rw [hsz]
          have : Deaf (t ++ #[({ g := 0, fn := g.frame.fn, pos := g.frame.place, act := .go gs.size } : MemOp), { g := gs.size, fn := child.frame.fn, pos := g.frame.place, act := .start }]) 0 = 0 := by
            rw [Deaf_still]
            · exact x2
            · intro op hop
              simp only [List.mem_toArray, List.mem_cons, List.not_mem_nil, or_false] at hop
              rcases hop with rfl | rfl <;> exact ⟨by simp, by simp⟩
          have e2 : (t ++ ((MemOp.ofEvents 0 g.frame.fn g.frame.place #[]).push { g := 0, fn := g.frame.fn, pos := g.frame.place, act := .go gs.size } |>.push { g := gs.size, fn := child.frame.fn, pos := g.frame.place, act := .start })) = t ++ #[({ g := 0, fn := g.frame.fn, pos := g.frame.place, act := .go gs.size } : MemOp), { g := gs.size, fn := child.frame.fn, pos := g.frame.place, act := .start }] := rfl
          rw [e2, this]
          exact x3
      · have hsz : ((gs.map (Go.Conc.woken p.P g a' (w.at dr))).setIfInBounds 0 a').size = gs.size := by simp
        have hno : ∀ e ∈ #[mk (.acquire (stA p.Wg))], (MemAct.ofEvent e).touch? = none := by intro e he; simp at he; subst he; rfl
        have hP := h'.step0 hF (a' := a') (w' := w.at dr) (a := g) (es := #[mk (.acquire (stA p.Wg))]) (tag' := .ret) (sv' := 0) (sm' := 0) (fun k _ _ => .refl k _) (fun op hop => by
          obtain ⟨e, he, rfl⟩ := Go.Conc.mem_ofEvents hop
          exact ⟨⟨rfl, fun x hx => by simp only [hno e he] at hx; cases hx⟩, fun x hx => by simp only [hno e he] at hx; cases hx⟩) (by intro e he; simp at he; subst he; simp [mk]) h'.pay h'.wg (.fin trivial x4)
        have e1 : MemOp.ofEvents 0 g.frame.fn g.frame.place #[mk (.acquire (stA p.Wg))] = #[{ g := 0, fn := g.frame.fn, pos := g.frame.place, act := .mark (.acquire (stA p.Wg)) }] := by rw [ofEvents_eq]; simp [ofEvent_mk]
        have hy : (t ++ #[({ g := 0, fn := g.frame.fn, pos := g.frame.place, act := .mark (.acquire (stA p.Wg)) } : MemOp)])[t.size]? = some { g := 0, fn := g.frame.fn, pos := g.frame.place, act := .mark (.acquire (stA p.Wg)) } := by simp
        obtain ⟨q, hI⟩ := hP.idle (by rw [hsz]; exact x4) (q := t.size) (by rw [e1, act?_of hy]) (by rw [e1]; simp [Trace.g?]) (by rw [e1]; exact ⟨0, by simp [Trace.g?], by rw [deaf_old (Nat.le_refl _)]; exact x3⟩)
          (fun k hk hkn r hr => by
            rw [hsz] at hkn
            have hlt := lt_of_act? hr.act
            rw [e1] at hlt
            simp at hlt
            refine Nat.lt_of_le_of_ne (by omega) fun e => ?_
            have := hr.act
            rw [e1, e, act?_of hy] at this
            cases this)
          (by rw [Deaf_own]; simp [deafBehind, mk]; exact x3) (by rw [hsz]; exact h0)
        refine on (runT_crowd_go (P := p.P) (sl := sl') (i := 0) ha (by simpa using x1)) ⟨0, _, _, sl', _, a', q, rfl, by simp [h0], by rw [hsz]; exact x5, hI, x2, h'.pay, fun k h1 h2 => h'.has k h1 (by omega) (by rw [x4 k (by omega)]; omega), h'.wg⟩
    · have hi : i < gs.size := (Array.getElem?_eq_some_iff.1 hg).1
      obtain ⟨g', w', es, s', F', sv', sm', x1, x2, x3, x4⟩ := worker_step hF h' hpos hi hg hrun
      obtain ⟨tag', F0', y1, y2, y3⟩ := hcs'.wokenBy hAr x2 g g'
      have hP := x4 tag' y2 y3
      have hsz : ((gs.map (Go.Conc.woken p.P g g' w')).setIfInBounds i g').size = gs.size := by simp
      have hi0 : (i == 0) = false := by simp; omega
      refine on (runT_crowd_go (P := p.P) (sl := sl') (i := i) hg (by rw [hi0]; exact x1)) (ih _ ?_ _ w' sl' _ _ tag' _ F0' (Go.Conc.woken p.P g g' w' a) sv' sm' p0 rfl (by rw [get_map_set _ _ _ _ (by omega), ha]; rfl) ?_ hP)
      · rw [hμ, hsz, phi_retag M _ y2]
        have e1 := sumTo_upd D (⟨s', 0, 0⟩ : WD) cnt hi
        have e2 := sumTo_upd D (⟨s', 0, 0⟩ : WD) WD.stage hi
        simp only [Vc, Ssum] at *
        rcases x3 with ⟨z1, z2⟩ | ⟨z1, z2⟩
        · refine .left _ _ ?_
          have := phi_mono M (v' := sumTo gs.size fun a => cnt (upd D i ⟨s', 0, 0⟩ a)) (v := sumTo gs.size fun a => cnt (D a)) (by omega) tag
          omega
        · have ec : cnt (⟨s', 0, 0⟩ : WD) = cnt (D i) := by simp only [cnt, z1]
          have ev : (sumTo gs.size fun a => cnt (upd D i ⟨s', 0, 0⟩ a)) = sumTo gs.size fun a => cnt (D a) := by omega
          have es' : (sumTo gs.size fun a => (upd D i ⟨s', 0, 0⟩ a).stage) = sumTo gs.size fun a => (D a).stage := by omega
          rw [ev, es']
          exact .right _ (.left _ _ ⟨i, Nat.lt_of_lt_of_le hi h.Mle, by rw [upd_same]; exact z2, fun j hj => upd_ne F _ hj⟩)
      · rw [hsz, Deaf_other t (by omega) _ g_of_ofEvents]
        exact y1
end
end Go.Proofs.Ytpioacgknamemaa
