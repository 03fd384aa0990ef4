/- Into a phase and out of it: goroutine 0's own way beside leavers; the phase begun from that frame. -/
import Derived.Test.YtpioacgknamemaaCrew
set_option linter.unusedSectionVars false
namespace Go.Proofs.Ytpioacgknamemaa
open Go Go.RowKit Go.Conc Go.ConcN
open Go.ConcR (KK wgBlock WgAt stA smA rd wr mk Payload Aside2 DC0)

section
variable {P : Program} {main : Bool} {R : World → World → Prop} {D D' : World → World → Array Event → Prop} {Stop Stop' : Goroutine → World → Prop}
theorem GoesF.mono (hD : ∀ w w' es, D w w' es → D' w w' es) (hS : ∀ g w, Stop g w → Stop' g w) {F : Fuel} : ∀ {g : Goroutine} {w : World}, GoesF P main R D Stop F g w → GoesF P main R D' Stop' F g w := by
  induction F with
  | leaf => exact fun h w₁ h₁ => hS _ _ (h w₁ h₁)
  | node f ih =>
    rintro g w (h | ⟨hs, h⟩)
    · exact .inl fun w₁ h₁ => hS _ _ (h w₁ h₁)
    · refine .inr ⟨hs, fun w₁ h₁ => ?_⟩
      have := h w₁ h₁
      revert this
      cases stepG P main g w₁ <;> simp only [GStep.goes, imp_self]
      exact fun ⟨d, x⟩ => ⟨hD _ _ _ d, ih w₁ x⟩
theorem Way.mono (hD : ∀ w w' es, D w w' es → D' w w' es) (hS : ∀ g w, Stop g w → Stop' g w) {g : Goroutine} {w : World} (h : Way P main R D Stop g w) : Way P main R D' Stop' g w := let ⟨F, x⟩ := h; ⟨F, x.mono hD hS⟩
end

section
variable {P : Program} {Sh NT : Loc → Prop} {B : Nat} {R : World → World → Prop} {D : World → World → Array Event → Prop} {Stop : Goroutine → World → Prop}

/-- Goroutine 0's own way, step by step, beside leavers. -/
theorem way_idle (refl : ∀ w, R w w) (trans : ∀ a b c, R a b → R b c → R a c) (hat : ∀ w d, R w (w.at d)) (hD : ∀ w w' es, D w w' es → ∀ e ∈ es, EvI Sh B e ∧ ∀ x, (MemAct.ofEvent e).touch? = some x → NT x.loc) {F : Fuel} :
    ∀ (g : Goroutine) (gs : Array Goroutine) (w : World) (sl : Option (Nat × Nat)) (t : Trace) (q : Nat → Nat), GoesF P true R D Stop F g w → gs[0]? = some g → Idle P Sh B gs q t → (∀ op ∈ t, ∀ x, op.act.touch? = some x → NT x.loc) →
      ∃ N gs' g' w' sl' t' q', runNT P N (crowd gs w sl) t = (.next (crowd gs' w' sl'), t') ∧ gs'.size = gs.size ∧ gs'[0]? = some g' ∧ Idle P Sh B gs' q' t' ∧ (∀ op ∈ t', ∀ x, op.act.touch? = some x → NT x.loc) ∧ Stop g' w' := by
  induction F with
  | leaf => exact fun g gs w sl t q h h0 hI hN => ⟨0, gs, g, w, sl, t, q, rfl, rfl, h0, hI, hN, h w (refl w)⟩
  | node f ih =>
    intro g gs w sl t q h h0 hI hN
    rcases h with h | ⟨hr, h⟩
    · exact ⟨0, gs, g, w, sl, t, q, rfl, rfl, h0, hI, hN, h w (refl w)⟩
    generalize hm : sumTo gs.size q = m
    induction m using Nat.strongRecOn generalizing gs w sl t q with
    | _ m im =>
      have haw : ∀ x ∈ gs, awake x := by
        intro x hx
        obtain ⟨i, hi, rfl⟩ := Array.mem_iff_getElem.1 hx
        rcases Nat.eq_zero_or_pos i with rfl | hpos
        · have : gs[0] = g := by simpa [Array.getElem?_eq_getElem hi] using h0
          rw [this]; exact awake_of (.inl hr)
        · exact awake_of ((hI.leave.old i _ hpos (Array.getElem?_eq_getElem hi)).status.elim .inl fun x => .inr (.inr x))
      obtain ⟨i, gi, d, sl', hi, hgr, hst⟩ := crowd_pick (P := P) (w := w) (sl := sl) haw ⟨0, g, h0, hr⟩
      rcases Nat.eq_zero_or_pos i with rfl | hpos
      · obtain rfl : gi = g := by rw [h0] at hi; exact (Option.some.inj hi).symm
        obtain ⟨g', w', es, hgo, hd, hg'⟩ : ∃ g' w' es, stepG P true gi (w.at d) = .go g' w' es ∧ D (w.at d) w' es ∧ GoesF P true R D Stop (f (w.at d)) g' w' := by
          have := h (w.at d) (hat w d)
          revert this
          cases stepG P true gi (w.at d) <;> simp only [GStep.goes, false_implies]
          exact fun ⟨x, y⟩ => ⟨_, _, _, rfl, x, y⟩
        have hrunT := runT_crowd_go (P := P) (sl := sl') (i := 0) h0 (show stepG P (0 == 0) gi (w.at d) = _ from hgo)
        obtain ⟨hI2, h02, hsz2⟩ := hI.own (w' := w') (g' := g') (es := es) h0 (fun e he => (hD _ _ _ hd e he).1)
        have hN2 : ∀ op ∈ t ++ MemOp.ofEvents 0 gi.frame.fn gi.frame.place es, ∀ x, op.act.touch? = some x → NT x.loc := fun op hop => (Array.mem_append.1 hop).elim (hN op) fun h => by
          obtain ⟨e, he, rfl⟩ := Go.Conc.mem_ofEvents h
          exact (hD _ _ _ hd e he).2
        obtain ⟨N, gs', g'', w'', sl'', t', q', a1, a2, a3⟩ := ih (w.at d) g' _ w' sl' _ q hg' h02 hI2 hN2
        exact ⟨N + 1, gs', g'', w'', sl'', t', q', by simp only [runNT, hst, hrunT]; exact a1, a2.trans hsz2, a3⟩
      · obtain ⟨gs', ops, q', b1, b2, b3, b4, b5, b6⟩ := hI.slip (w := w.at d) (sl := sl') h0 (fun a b w => woken_running hr) hpos hi hgr
        have hN2 : ∀ op ∈ t ++ ops, ∀ x, op.act.touch? = some x → NT x.loc := fun op hop => (Array.mem_append.1 hop).elim (hN op) fun h x hx => by rw [b6 op h] at hx; cases hx
        obtain ⟨N, gs'', g', w', sl'', t', q'', a1, a2, a3⟩ := im (sumTo gs'.size q') (by rw [b3, ← hm]; exact b5) gs' (w.at d) sl' (t ++ ops) q' b2 b4 hN2 (fun w₁ h₁ => h w₁ (trans _ _ _ (hat w d) h₁)) rfl
        exact ⟨N + 1, gs'', g', w', sl'', t', q'', by simp only [runNT, hst, b1]; exact a1, a2.trans b3, a3⟩
end

section
variable {p : Plan} [Payload] {M : Nat} {Anch Head : Goroutine → World → Prop}

/-- A phase, begun from the frame between two phases. -/
theorem phase_from (hF : p.Fits M) (hAr : ∀ g w, Head g w → g.status = .running) (hAn : ∀ g w, Head g w → p.GoTo M (p.SW1 M Anch Head) g w) {gs : Array Goroutine} {w : World} {sl : Option (Nat × Nat)} {t : Trace} {q : Nat → Nat} {g : Goroutine} {B : Nat}
    (h0 : gs[0]? = some g) (hJ : p.J0 = gs.size) (hM : p.J0 ≤ M) (hI : Idle p.P p.Sh B gs q t) (hB : B ≤ p.B) (hN : ∀ op ∈ t, ∀ x, op.act.touch? = some x → ¬ ShN p.Wg x.loc) (hpay : p.Pay w) (hwg : WgAt p.ty p.Wg w 0 0) (hS : p.Starts Head M (M - p.J0) g w) :
    ∃ N gs' w' sl' t' a' q, runNT p.P N (crowd gs w sl) t = (.next (crowd gs' w' sl'), t') ∧ gs'[0]? = some a' ∧ gs'.size = M ∧ Idle p.P p.ShP p.B gs' q t' ∧ Anch a' w' ∧ p.Pay w' ∧ (∀ k, p.J0 ≤ k → k < M → p.HasAll k w') ∧ WgAt p.ty p.Wg w' 0 0 := by
  have hpos := hF.pos
  have hV0 : ∀ n, Vc n (fun _ => (⟨1, 0, 0⟩ : WD)) = 0 := fun n => by
    induction n with
    | zero => rfl
    | succ n ih => simp only [Vc, sumTo] at ih ⊢; rw [ih]; rfl
  have hmode : ∀ tag, isOpen tag → pend tag = 0 → (∀ vs, tag ≠ .w2 vs) → ConcN.Mode gs.size (fun _ => (⟨1, 0, 0⟩ : WD)) tag 0 0 := fun tag h1 h2 h3 => by
    have := ConcN.Mode.opn (j := gs.size) (D := fun _ => (⟨1, 0, 0⟩ : WD)) h1 (fun i _ => .inr (.inr (.inr rfl))) (fun vs e => absurd e (h3 vs))
    simpa [hV0, h2] using this
  have hPh : ∀ tag, isOpen tag → pend tag = 0 → (∀ vs, tag ≠ .w2 vs) → Ph p M tag (fun _ => ⟨1, 0, 0⟩) (fun k => .ofNat (q k)) gs w t t.size 0 0 := fun tag h1 h2 h3 => by
    refine ⟨rfl, Nat.le_of_eq hJ, by rw [← hJ]; exact hM, fun k k1 kn => ?_, hI.leave.above, ⟨?_, fun k k1 kn l hl => ?_, fun k k1 kn l hl => ?_, fun l hs _ => ?_, fun l hs _ => ?_, hI.ct.nr, hI.ct.gs⟩, fun i op x hi hx hs _ => ?_, fun i g' hg hne _ hc => hI.over i g' hg hne hc, fun op hop x hx => Loc.low_mono hB (hI.low op hop x hx), fun i hi => ?_, Nat.le_refl _, fun k h1 h2 => ?_, fun k h1 h2 => ?_, hpay, hwg, hmode tag h1 h2 h3⟩
    · exact ⟨gs[k], Array.getElem?_eq_getElem kn, .quit (hI.leave.old k _ k1 (Array.getElem?_eq_getElem kn))⟩
    · rintro i op x hi hx (hs | hs)
      · exact hI.ct.quiet i op x hi hx hs
      · exact absurd hs (hN op (Array.mem_of_getElem? hi) x hx)
    · have := hl.1; omega
    · have := hl.1; omega
    · exact hI.ct.free l (fun h => hs (.inl h)) (fun _ _ _ => ⟨fun h => h, fun h => h⟩)
    · exact hI.ct.mine l (fun h => hs (.inl h)) (fun _ _ _ h => h)
    · exact hI.ct.free x.loc (fun h => hs (.inl h)) (fun _ _ _ => ⟨fun h => h, fun h => h⟩) i x (by rw [touchAt_of hi]; exact hx) rfl
    · simp [Trace.act?, Array.getElem?_eq_none hi]
    · omega
    · omega
  have hd : Deaf t 0 = 0 := hI.hears
  cases hr : M - p.J0 with
  | zero =>
    rw [hr] at hS
    obtain ⟨F, hk⟩ := hS
    refine phase_run hF hAr hAn _ gs w sl t _ .kd _ F g 0 0 t.size rfl h0 ?_ (hPh .kd trivial rfl (by simp))
    rw [hd, show gs.size = M by omega]
    exact .kd hk
  | succ r =>
    rw [hr] at hS
    obtain ⟨F, hk⟩ := hS
    refine phase_run hF hAr hAn _ gs w sl t _ (.sp r 5) _ F g 0 0 t.size rfl h0 ?_ (hPh (.sp r 5) trivial rfl (by simp))
    rw [hd, show gs.size = M - (r + 1) by omega]
    exact .skd (by omega) hk
end
end Go.Proofs.Ytpioacgknamemaa
