/- The frame between two calls that start goroutines: goroutine 0, and others that only leave; what is held of the trace. -/
import Derived.Test.YtpioacgknamemaaReach
import Derived.Conc.CrowdTrace
import Derived.Conc.Beside
namespace Go.Proofs.Ytpioacgknamemaa
open Go Go.RowKit Go.Conc Go.ConcN

def Nob : Nat → Loc → Prop := fun _ _ => False

structure Idle (P : Program) (Sh : Loc → Prop) (B : Nat) (gs : Array Goroutine) (q : Nat → Nat) (t : Trace) : Prop where
  leave : Leavers P t gs q
  ct : CT Sh Nob Nob t (gs.size - 1)
  over : t.HandedOver
  hears : Deaf t 0 = 0
  low : ∀ op ∈ t, ∀ x, op.act.touch? = some x → x.loc.low B

theorem apart_nob {Sh : Loc → Prop} : Apart Sh Nob Nob := ⟨fun _ _ _ h => h.elim, fun _ _ _ h => h.elim, fun _ _ h => h.elim, fun _ _ h => h.elim⟩

/-- What goroutine 0 may list between the calls. -/
def EvI (Sh : Loc → Prop) (B : Nat) (e : Event) : Prop := (∀ x, (MemAct.ofEvent e).touch? = some x → ¬ Sh x.loc) ∧ e.loc ≠ .mark .disable ∧ e.loc ≠ .mark .enable ∧ ∀ x, (MemAct.ofEvent e).touch? = some x → x.loc.low B

theorem Idle.mono {P : Program} {Sh : Loc → Prop} {B B' : Nat} {gs : Array Goroutine} {q : Nat → Nat} {t : Trace} (h : Idle P Sh B gs q t) (hB : B ≤ B') : Idle P Sh B' gs q t :=
  ⟨h.leave, h.ct, h.over, h.hears, fun op hop x hx => Loc.low_mono hB (h.low op hop x hx)⟩

section
variable {P : Program} {Sh : Loc → Prop} {B : Nat} {gs : Array Goroutine} {q : Nat → Nat} {t : Trace} {w w' : World}

theorem ofEvents_g {g : Nat} {fn : FuncId} {pos : String} {es : Array Event} : ∀ op ∈ MemOp.ofEvents g fn pos es, op.g = g := fun op hop => by obtain ⟨e, _, rfl⟩ := Go.Conc.mem_ofEvents hop; rfl

theorem low_app {u : Trace} (h : ∀ op ∈ t, ∀ x, op.act.touch? = some x → x.loc.low B) (hu : ∀ op ∈ u, ∀ x, op.act.touch? = some x → x.loc.low B) : ∀ op ∈ t ++ u, ∀ x, op.act.touch? = some x → x.loc.low B := fun op hop => (Array.mem_append.1 hop).elim (h op) (hu op)

/-- Goroutine 0 takes a step. -/
theorem Idle.own {g g' : Goroutine} {es : Array Event} (h : Idle P Sh B gs q t) (h0 : gs[0]? = some g) (hes : ∀ e ∈ es, EvI Sh B e) :
    Idle P Sh B ((gs.map (woken P g g' w')).setIfInBounds 0 g') q (t ++ MemOp.ofEvents 0 g.frame.fn g.frame.place es) ∧ ((gs.map (woken P g g' w')).setIfInBounds 0 g')[0]? = some g' ∧ ((gs.map (woken P g g' w')).setIfInBounds 0 g').size = gs.size := by
  have hlt : 0 < gs.size := (Array.getElem?_eq_some_iff.1 h0).1
  have hsz : ((gs.map (woken P g g' w')).setIfInBounds 0 g').size = gs.size := by simp
  refine ⟨⟨⟨fun j x hj hx => ?_, fun j hj => ?_⟩, ?_, ?_, ?_, ?_⟩, by simp [hlt], hsz⟩
  · have hne : 0 ≠ j := by omega
    rw [Array.getElem?_setIfInBounds_ne hne, Array.getElem?_map] at hx
    obtain ⟨y, hy, rfl⟩ := Option.map_eq_some_iff.1 hx
    have hq := h.leave.old j y hj hy
    rw [woken_quitsD hq, Deaf_other t (by omega) _ ofEvents_g]
    exact hq
  · rw [Deaf_other t (g' := 0) (by rw [hsz] at hj; omega) _ ofEvents_g]
    exact h.leave.above j (by rwa [hsz] at hj)
  · rw [hsz]
    refine h.ct.app0 apart_nob fun op hop => ⟨ofEvents_g op hop, fun x hx => .inr ?_⟩
    obtain ⟨e, he, rfl⟩ := Go.Conc.mem_ofEvents hop
    exact ⟨(hes e he).1 x hx, fun _ _ _ h => h, fun _ _ _ _ h => h⟩
  · exact handedOver_app h.over fun op hop => .inl (ofEvents_g op hop)
  · rw [Deaf_own, deafBehind_still (fun e he => ⟨(hes e he).2.1, (hes e he).2.2.1⟩)]
    exact h.hears
  · exact low_app h.low fun op hop => by obtain ⟨e, he, rfl⟩ := Go.Conc.mem_ofEvents hop; exact (hes e he).2.2.2

/-- A leaver takes a step. -/
theorem Idle.slip {i : Nat} {g gi : Goroutine} {sl : Option (Nat × Nat)} (h : Idle P Sh B gs q t) (h0 : gs[0]? = some g) (hw : ∀ a b w, woken P a b w g = g) (hi0 : 0 < i) (hi : gs[i]? = some gi) (hr : gi.status = .running) :
    ∃ gs' ops q', runT P (crowd gs w sl) i = (.next (crowd gs' w sl), ops) ∧ gs'[0]? = some g ∧ gs'.size = gs.size ∧ Idle P Sh B gs' q' (t ++ ops) ∧ sumTo gs.size q' < sumTo gs.size q ∧ ∀ op ∈ ops, op.act.touch? = none := by
  have hq := h.leave.old i gi hi0 hi
  have hi0' : (i == 0) = false := by simp; omega
  have hlt : i < gs.size := (Array.getElem?_eq_some_iff.1 hi).1
  cases hqi : q i with
  | zero => rw [hqi] at hq; rw [hq.1] at hr; cases hr
  | succ k =>
    rw [hqi] at hq
    rcases hq with ⟨hf, _⟩ | ⟨_, g', es, hm, hstp, hq'⟩
    · rw [hf] at hr; cases hr
    have hrunT := runT_crowd_go (P := P) (sl := sl) (i := i) hi (by rw [hi0']; exact hstp w)
    have hsz : ((gs.map (woken P gi g' w)).setIfInBounds i g').size = gs.size := by simp
    have hsum : sumTo gs.size (upd q i k) + (k + 1) = sumTo gs.size q + k := by
      have := sumTo_upd q k id hlt
      simpa [hqi] using this
    have htouch : ∀ op ∈ MemOp.ofEvents i gi.frame.fn gi.frame.place es, op.act.touch? = none := fun op hop => by obtain ⟨e, he, rfl⟩ := Go.Conc.mem_ofEvents hop; exact touch_mute (hm e he)
    refine ⟨_, _, upd q i k, hrunT, ?_, hsz, ⟨⟨fun j x hj hx => ?_, fun j hj => ?_⟩, ?_, ?_, ?_, ?_⟩, by omega, htouch⟩
    · have hne : i ≠ 0 := by omega
      rw [Array.getElem?_setIfInBounds_ne hne, Array.getElem?_map, h0]
      simp [hw]
    · by_cases hji : i = j
      · subst hji
        rw [Array.getElem?_setIfInBounds_self_of_lt (by simpa using hlt)] at hx
        obtain rfl := Option.some.inj hx
        rw [upd_same, Deaf_own]
        exact hq'
      · rw [Array.getElem?_setIfInBounds_ne hji, Array.getElem?_map] at hx
        obtain ⟨y, hy, rfl⟩ := Option.map_eq_some_iff.1 hx
        have hqj := h.leave.old j y hj hy
        rw [woken_quitsD hqj, upd_ne q k (Ne.symm hji), Deaf_other t hji _ ofEvents_g]
        exact hqj
    · rw [Deaf_other t (g' := i) (by rw [hsz] at hj; omega) _ ofEvents_g]
      exact h.leave.above j (by rwa [hsz] at hj)
    · rw [hsz]
      exact h.ct.appW apart_nob hi0 (by omega) fun op hop => ⟨ofEvents_g op hop, fun x hx => by rw [htouch op hop] at hx; cases hx⟩
    · exact handedOver_app h.over fun op hop => .inr (htouch op hop)
    · rw [Deaf_other t (g' := i) (by omega) _ ofEvents_g]; exact h.hears
    · exact low_app h.low fun op hop x hx => by rw [htouch op hop] at hx; cases hx

theorem evI_of {κ : Nat → Kd} {n B' : Nat} {e : Event} (hSh : ∀ l, Sh l → ∃ a, l = .cell a ∧ κ a.block = .void) (h : EvOk κ n e) (hB : n ≤ B') : EvI Sh B' e := by
  obtain ⟨loc, wr, sy⟩ := e
  cases loc with
  | cell a =>
    obtain ⟨h1, h2, _⟩ := h
    refine ⟨fun x hx hs => ?_, by simp, by simp, ?_⟩
    · simp only [ofEvent_cell0, MemAct.touch?, Option.some.injEq] at hx
      subst hx
      obtain ⟨a', e, hk⟩ := hSh _ hs
      cases e
      exact h2 hk
    · intro x hx
      simp only [ofEvent_cell0, MemAct.touch?, Option.some.injEq] at hx
      subst hx
      exact Nat.lt_of_lt_of_le h1 hB
  | obj r =>
    obtain ⟨h1, _, h3, h4⟩ := h
    simp only at h3 h4
    subst h3 h4
    refine ⟨fun x hx hs => ?_, by simp, by simp, ?_⟩
    · simp only [MemAct.ofEvent, MemAct.touch?, Option.some.injEq] at hx
      subst hx
      obtain ⟨a', e, hk⟩ := hSh _ hs
      cases e
    · intro x hx
      simp only [MemAct.ofEvent, MemAct.touch?, Option.some.injEq] at hx
      subst hx
      exact Nat.lt_of_lt_of_le h1 hB
  | mark m =>
    cases m with
    | extern f => exact ⟨fun x hx => by simp [MemAct.ofEvent, MemAct.touch?] at hx, by simp, by simp, fun x hx => by simp [MemAct.ofEvent, MemAct.touch?] at hx⟩
    | noRoom => exact ⟨fun x hx => by simp [MemAct.ofEvent, MemAct.touch?] at hx, by simp, by simp, fun x hx => by simp [MemAct.ofEvent, MemAct.touch?] at hx⟩
    | _ => exact h.elim
  | _ => exact h.elim

theorem not_reach_cc {T : Goroutine → World → Prop} (hE : AtEndOnly T) (u : World) : ¬ Reach P T (G cc []) u := by
  intro h
  cases h with
  | here h => have := (hE _ _ h).1; simp [G] at this
  | step g' u' es _ hs _ =>
    have h1 := cc_ends (P := P) [] (tp u u.tape u.drawn)
    rw [hs] at h1
    exact h1

theorem live_run {S X : FuncId → Bool} {k0 k : List Item} {c0 cs : List Frame} {ĝ g : Goroutine} (h : Live P S X k0 k c0 cs ĝ g) : g.status = .running := by
  rcases h with h | ⟨_, _, b, a, _, _, _, _, rfl⟩
  · cases h <;> rfl
  · rfl

/-- What a walk leaves of the great world. -/
structure Left (κ : Nat → Kd) (w w' : World) : Prop where
  tape : w'.tape = w.tape
  os : w'.os = w.os
  output : w'.output = w.output
  size : w.heap.size ≤ w'.heap.size
  keep : ∀ r, r < w.heap.size → κ r ≠ .same → w'.heap[r]? = w.heap[r]?
theorem Left.trans {κ : Nat → Kd} {a b c : World} (h : Left κ a b) (k : Left κ b c) : Left κ a c :=
  ⟨k.tape.trans h.tape, k.os.trans h.os, k.output.trans h.output, Nat.le_trans h.size k.size, fun r hr hk => (k.keep r (Nat.lt_of_lt_of_le hr h.size) hk).trans (h.keep r hr hk)⟩

/-- ████ A piece that comes to its end alone comes to its end beside leavers. ████ -/
theorem walk_reach {T : Goroutine → World → Prop} {S X : FuncId → Bool} {k0 k : List Item} {cs : List Frame} (hT : Tame P S X) (hkk : (k0 = [] ∧ k = []) ∨ k0 = [.code (.refuse "")]) {κ : Nat → Kd}
    (hSh : ∀ l, Sh l → ∃ a, l = .cell a ∧ κ a.block = .void) (hE : AtEndOnly T) (hTF : ∀ ĝ g u, T ĝ u → Live P S X k0 k [cc] cs ĝ g → False) {ĝ : Goroutine} {u : World} (hR : Reach P T ĝ u) :
    ∀ (g : Goroutine) (gs : Array Goroutine) (w : World) (sl : Option (Nat × Nat)) (t : Trace) (q : Nat → Nat) (B : Nat), (Live P S X k0 k [cc] cs ĝ g ∨ Done0 P k0 k [cc] cs ĝ g) → View κ u w → u.heap.size = w.heap.size → gs[0]? = some g → Idle P Sh B gs q t →
      ∃ N gs' g' w' sl' t' q' B' ĝ' u', runNT P N (crowd gs w sl) t = (.next (crowd gs' w' sl'), t') ∧ gs'.size = gs.size ∧ gs'[0]? = some g' ∧ Done0 P k0 k [cc] cs ĝ' g' ∧ T ĝ' u' ∧ View κ u' w' ∧ u'.heap.size = w'.heap.size ∧ Idle P Sh B' gs' q' t' ∧ B ≤ B' ∧ Left κ w w' ∧ B' ≤ max B w'.heap.size := by
  induction hR with
  | here h =>
    intro g gs w sl t q B hL hV hz h0 hI
    rcases hL with hL | hD
    · exact (hTF _ _ _ h hL).elim
    · exact ⟨0, gs, g, w, sl, t, q, B, _, _, rfl, rfl, h0, hD, h, hV, hz, hI, Nat.le_refl _, ⟨rfl, rfl, rfl, Nat.le_refl _, fun _ _ _ => rfl⟩, Nat.le_max_left _ _⟩
  | @step ĝ u g1 u1 es1 hnd hs hr ih =>
    intro g gs w sl t q B hL hV hz h0 hI
    rcases hL with hL | hD
    · have hrun := live_run hL
      generalize hm : sumTo gs.size q = m
      induction m using Nat.strongRecOn generalizing gs w sl t q B with
      | _ m im =>
        have haw : ∀ x ∈ gs, awake x := by
          intro x hx
          obtain ⟨i, hi, rfl⟩ := Array.mem_iff_getElem.1 hx
          rcases Nat.eq_zero_or_pos i with rfl | hpos
          · have : gs[0] = g := by simpa [Array.getElem?_eq_getElem hi] using h0
            rw [this]; exact awake_of (.inl hrun)
          · exact awake_of ((hI.leave.old i _ hpos (Array.getElem?_eq_getElem hi)).status.elim .inl fun x => .inr (.inr x))
        obtain ⟨i, gi, d, sl', hi, hgr, hst⟩ := crowd_pick (P := P) (w := w) (sl := sl) haw ⟨0, g, h0, hrun⟩
        rcases Nat.eq_zero_or_pos i with rfl | hpos
        · obtain rfl : gi = g := by rw [h0] at hi; exact (Option.some.inj hi).symm
          have hV1 : View κ (tp u w.tape d) (w.at d) := hV.tp w.tape w.tape d d
          obtain ⟨ĝ2, g2, u2, es2, r1, r2, r3, r4⟩ := (live_step hT hV1 hkk hL (main := true)).resolve_right (hnd _ _)
          rw [hs] at r1
          cases r1
          obtain ⟨w2, s1, s2, s3⟩ := r4 ⟨.inr hz, fun _ _ => rfl⟩
          have hB := hI.mono (Nat.le_max_left B (u1 w.tape d).heap.size)
          have hrunT := runT_crowd_go (P := P) (sl := sl') (i := 0) h0 (show stepG P (0 == 0) gi (w.at d) = _ from s1)
          obtain ⟨hI2, h02, hsz2⟩ := hB.own (w' := w2) (g' := g2) h0 (fun e he => evI_of hSh (s3 e he) (Nat.le_max_right _ _))
          have hz2 : (u1 w.tape d).heap.size = w2.heap.size := by have h1 := s2.size; have h2 := r3.hs; simp only [tp, World.at] at h1 h2; omega
          obtain ⟨N, gs', g', w', sl'', t', q', B', ĝ', u', a1, a2, a3, a4, a5, a6, a7, a8, a9, a10, a11⟩ := ih w.tape d g2 _ w2 sl' _ q _ r2 s2.view hz2 h02 hI2
          refine ⟨N + 1, gs', g', w', sl'', t', q', B', ĝ', u', by simp only [runNT, hst, hrunT]; exact a1, a2.trans hsz2, a3, a4, a5, a6, a7, a8, Nat.le_trans (Nat.le_max_left _ _) a9, Left.trans ⟨s2.tape, s2.os, s2.output, ?_, fun r hr hk => s2.keep r hr (.inl hk)⟩ a10, ?_⟩
          · have h1 := s2.size
            simp only [World.at] at h1
            omega
          · have h1 := a10.size
            omega
        · obtain ⟨gs', ops, q', b1, b2, b3, b4, b5, b6⟩ := hI.slip (w := w.at d) (sl := sl') h0 (fun a b w => woken_running hrun) hpos hi hgr
          obtain ⟨N, gs'', g', w', sl'', t', q'', B', ĝ', u', a1, a2, a3, a4, a5, a6, a7, a8, a9, a10, a11⟩ := im (sumTo gs'.size q') (by rw [b3, ← hm]; exact b5) gs' (w.at d) sl' (t ++ ops) q' B ⟨hV.size, hV.new, hV.same, hV.kind, hV.void, hV.froz⟩ hz b2 b4 rfl
          exact ⟨N + 1, gs'', g', w', sl'', t', q'', B', ĝ', u', by simp only [runNT, hst, b1]; exact a1, a2.trans b3, a3, a4, a5, a6, a7, a8, a9, Left.trans (b := w.at d) ⟨rfl, rfl, rfl, Nat.le_refl _, fun _ _ _ => rfl⟩ a10, a11⟩
    · exfalso
      rcases hD with ⟨b, a, todo, h1, h2, h3, rfl, _⟩ | ⟨e1, b, a, h1, h2, h3, rfl, _⟩
      · obtain ⟨fn, hfn⟩ := Option.isSome_iff_exists.1 h1
        cases hx : (Go.results fn a.tmps).run P (tp u w.tape 0) with
        | halt h u' =>
          have := stepG_backHalts (main := true) (todo := todo ++ k0) (c := cc) (cs := []) h3 hfn hx
          rw [hs] at this
          exact this
        | ok v u' =>
          have e := stepG_back (main := true) (todo := todo ++ k0) (c := cc) (cs := []) h2 h3 hfn hx
          rw [hs] at e
          simp only [GStep.go.injEq] at e
          have hr' := hr w.tape 0
          rw [e.1, cc_finish] at hr'
          exact not_reach_cc hE _ hr'
      · subst e1
        have : EndsNow (stepG P true (G (b.at a [.code (.refuse "")]) [cc]) (tp u w.tape 0)) := by simp [G, Frame.at, stepG, stepG.exec, EndsNow]
        rw [hs] at this
        exact this
end
end Go.Proofs.Ytpioacgknamemaa
