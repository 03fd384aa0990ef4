/- From 'alone, on every tape, it comes to its end' to 'whatever is drawn at each step, it comes to its end' (Reach). -/
import Derived.Test.YtpioacgknamemaaTwin
import Derived.Conc.Fork
namespace Go.Proofs.Ytpioacgknamemaa
open Go Go.RowKit Go.Conc

def tp (u : World) (τ : Nat → Question → Nat) (d : Nat) : World := { u with tape := τ, drawn := d }
theorem View.tp {κ : Nat → Kd} {u w : World} (h : View κ u w) (τ τ' : Nat → Question → Nat) (d d' : Nat) : View κ (tp u τ d) (tp w τ' d') := ⟨h.size, h.new, h.same, h.kind, h.void, h.froz⟩
theorem tp_of {u w : World} {τ : Nat → Question → Nat} {d : Nat} (h1 : w.heap = u.heap) (h2 : w.tape = τ) (h3 : w.drawn = d) (h4 : w.os = u.os) (h5 : w.output = u.output) : w = tp u τ d := by
  cases w; cases u; simp_all [tp]

/-- A caller that ends at once, whatever comes back. -/
def cc : Frame := { fn := 0, tmps := #[], todo := [.code (.refuse "")], defers := [{ target := .nil, args := #[] }], mode := .run, kind := .normal }

section
variable (P : Program) (S X : FuncId → Bool) (k0 k : List Item) (c0 cs : List Frame)
def Live (ĝ g : Goroutine) : Prop := Twin P S X k0 k c0 cs ĝ g ∨ (k0 = [] ∧ k = [] ∧ ∃ b a, (P.funcs[Frame.fn b]?).isSome = true ∧ b.kind = .normal ∧ Act.defers a = [] ∧ ĝ = G (b.at a []) c0 ∧ g = G (b.at a []) cs)
def Done0 (ĝ g : Goroutine) : Prop := (∃ b a todo, (P.funcs[Frame.fn b]?).isSome = true ∧ b.kind = .normal ∧ Act.defers a = [] ∧ ĝ = G { b.at a (todo ++ k0) with mode := .returning } c0 ∧ g = G { b.at a (todo ++ k) with mode := .returning } cs) ∨
  (k0 = [.code (.refuse "")] ∧ ∃ b a, (P.funcs[Frame.fn b]?).isSome = true ∧ b.kind = .normal ∧ Act.defers a = [] ∧ ĝ = G (b.at a k0) c0 ∧ g = G (b.at a k) cs)
end

section
variable {P : Program} {S X : FuncId → Bool} {k0 k : List Item} {c0 cs : List Frame}

theorem live_step (hT : Tame P S X) {main : Bool} {κ : Nat → Kd} {u w : World} (hV : View κ u w) (hkk : (k0 = [] ∧ k = []) ∨ k0 = [.code (.refuse "")]) {ĝ g : Goroutine} (h : Live P S X k0 k c0 cs ĝ g) :
    Mir P main κ ĝ g u w (fun a b => Live P S X k0 k c0 cs a b ∨ Done0 P k0 k c0 cs a b) ∨ Doomed P c0 (stepG P true ĝ u) := by
  rcases h with h | ⟨e1, e2, b, a, h1, h2, h3, rfl, rfl⟩
  · have hk : ∀ id, exitTo id k0 = none := by
      intro id
      rcases hkk with ⟨rfl, _⟩ | rfl <;> rfl
    rcases twin_step hT hV hk h (main := main) with h | h
    · refine .inl (h.mono fun a b hab => ?_)
      rcases hab with h | h
      · exact .inl (.inl h)
      · cases h with
        | norm b a h1 h2 h3 =>
          rcases hkk with ⟨rfl, rfl⟩ | e
          · exact .inl (.inr ⟨rfl, rfl, b, a, h1, h2, h3, rfl, rfl⟩)
          · exact .inr (.inr ⟨e, b, a, h1, h2, h3, rfl, rfl⟩)
        | ret b a todo h1 h2 h3 => exact .inr (.inl ⟨b, a, todo, h1, h2, h3, rfl, rfl⟩)
    · exact .inr h
  · subst e1 e2
    exact .inl (.still hV stepG_end stepG_end (.inr (.inl ⟨b, a, [], h1, h2, h3, rfl, rfl⟩)))

theorem Twin.self {ĝ g : Goroutine} (h : Twin P S X k0 k c0 cs ĝ g) : Twin P S X k0 k0 c0 c0 ĝ ĝ := by
  cases h with
  | base b a y ys h1 h2 h3 h4 h5 => exact .base b a y ys h1 h2 h3 h4 h5
  | inner b a todo xs B A ops i rest ys h1 h2 h3 h4 h5 h6 h7 h8 h9 h10 => exact .inner b a todo xs B A ops i rest ys h1 h2 h3 h4 h5 h6 h7 h8 h9 h10
  | leaves b a todo xs B A ops i rest ys h1 h2 h4 h5 h6 h7 h8 h9 h10 => exact .leaves b a todo xs B A ops i rest ys h1 h2 h4 h5 h6 h7 h8 h9 h10
theorem Twin.same {ĝ g : Goroutine} (h : Twin P S X k0 k0 c0 c0 ĝ g) : g = ĝ := by cases h <;> rfl
theorem Live.self {ĝ g : Goroutine} (h : Live P S X k0 k c0 cs ĝ g) : Live P S X k0 k0 c0 c0 ĝ ĝ := by
  rcases h with h | ⟨e1, e2, b, a, h1, h2, h3, rfl, rfl⟩
  · exact .inl h.self
  · exact .inr ⟨e1, e1, b, a, h1, h2, h3, rfl, rfl⟩
theorem Live.same {ĝ g : Goroutine} (h : Live P S X k0 k0 c0 c0 ĝ g) : g = ĝ := by
  rcases h with h | ⟨e1, e2, b, a, h1, h2, h3, rfl, rfl⟩
  · exact h.same
  · rfl
theorem Done0.same {ĝ g : Goroutine} (h : Done0 P k0 k0 c0 c0 ĝ g) : g = ĝ := by
  rcases h with ⟨b, a, todo, h1, h2, h3, rfl, rfl⟩ | ⟨e1, b, a, h1, h2, h3, rfl, rfl⟩ <;> rfl

theorem heap_same {κ : Nat → Kd} {u u' w' : World} (hV : View κ u u) (hV' : View κ u' w') (hs : w'.heap.size = u'.heap.size) (hk : ∀ r, r < u.heap.size → κ r ≠ .same → w'.heap[r]? = u.heap[r]?) : w'.heap = u'.heap := by
  apply Array.ext_getElem?
  intro r
  rcases Nat.lt_or_ge r u'.heap.size with hr | hr
  · cases hkr : κ r with
    | same => exact hV'.same r hr hkr
    | void =>
      have hlt : r < u.heap.size := by
        rcases Nat.lt_or_ge r u.heap.size with h | h
        · exact h
        · rw [hV.new r h] at hkr; cases hkr
      rw [hk r hlt (by rw [hkr]; simp), hV.void r hkr, hV'.void r hkr]
    | froz =>
      have hlt : r < u.heap.size := by
        rcases Nat.lt_or_ge r u.heap.size with h | h
        · exact h
        · rw [hV.new r h] at hkr; cases hkr
      obtain ⟨c, T, fz, e1, e2⟩ := hV'.froz r hkr
      obtain ⟨c', T', fz', e3, _⟩ := hV.froz r hkr
      rw [hk r hlt (by rw [hkr]; simp), e3] at e2 ⊢
      simp only [Option.some.injEq, Obj.cells.injEq] at e2
      obtain ⟨rfl, rfl, _⟩ := e2
      exact e1.symm
  · simp [hr, hs]

/-- The same step on another tape that answers alike. -/
theorem step_shift (hT : Tame P S X) {κ : Nat → Kd} {u : World} (hV : View κ u u) (hkk : k0 = [] ∨ k0 = [.code (.refuse "")]) {ĝ : Goroutine} (h : Live P S X k0 k0 c0 c0 ĝ ĝ) {τ : Nat → Question → Nat} {d : Nat} {ĝ' : Goroutine} {u' : World} {es : Array Event}
    (hs : stepG P true ĝ (tp u τ d) = .go ĝ' u' es) (hd : ¬ Doomed P c0 (stepG P true ĝ (tp u τ d))) :
    (Live P S X k0 k0 c0 c0 ĝ' ĝ' ∨ Done0 P k0 k0 c0 c0 ĝ' ĝ') ∧ View κ u' u' ∧ d ≤ u'.drawn ∧ u'.tape = τ ∧
      ∀ τ' d', (∀ i, i < u'.drawn - d → τ' (d' + i) = τ (d + i)) → stepG P true ĝ (tp u τ' d') = .go ĝ' (tp u' τ' (d' + (u'.drawn - d))) es := by
  have hkk' : (k0 = [] ∧ k0 = []) ∨ k0 = [.code (.refuse "")] := hkk.imp (fun h => ⟨h, h⟩) id
  have hL : ∀ τ' d', Mir P true κ ĝ ĝ (tp u τ d) (tp u τ' d') (fun a b => Live P S X k0 k0 c0 c0 a b ∨ Done0 P k0 k0 c0 c0 a b) := fun τ' d' => (live_step hT (hV.tp τ τ' d d') hkk' h).resolve_right hd
  have get : ∀ τ' d', (Live P S X k0 k0 c0 c0 ĝ' ĝ' ∨ Done0 P k0 k0 c0 c0 ĝ' ĝ') ∧ Grew κ (tp u τ d) u' ∧ (Cnd (tp u τ d) (tp u τ' d') u' → ∃ w', stepG P true ĝ (tp u τ' d') = .go ĝ' w' es ∧ Mv κ (tp u τ d) (tp u τ' d') u' w') := by
    intro τ' d'
    obtain ⟨ĝ1, g1, u1, es1, r1, r2, r3, r4⟩ := hL τ' d'
    rw [hs] at r1
    cases r1
    have e : g1 = ĝ' := r2.elim Live.same Done0.same
    subst e
    exact ⟨r2, r3, fun hc => let ⟨w', a1, a2, _⟩ := r4 hc; ⟨w', a1, a2⟩⟩
  obtain ⟨hN, hG, _⟩ := get τ d
  refine ⟨hN, hG.self, hG.hd, hG.tape, fun τ' d' hm => ?_⟩
  obtain ⟨w', a1, a2⟩ := (get τ' d').2.2 ⟨.inr rfl, fun i hi => hm i hi⟩
  rw [a1]
  congr 1
  have hsz : w'.heap.size = u'.heap.size := by have h1 := a2.size; have h2 := hG.hs; simp only [tp] at h1 h2; omega
  refine tp_of (heap_same hV a2.view hsz fun r hr hk => a2.keep r hr (.inl hk)) a2.tape a2.drawn ?_ ?_
  · rw [a2.os, hG.os]; rfl
  · rw [a2.output, hG.output]; rfl
end

/-- Whatever is drawn at each step: it comes to T. -/
inductive Reach (P : Program) (T : Goroutine → World → Prop) : Goroutine → World → Prop
  | here {g : Goroutine} {u : World} : T g u → Reach P T g u
  | step {g : Goroutine} {u : World} (g' : (Nat → Question → Nat) → Nat → Goroutine) (u' : (Nat → Question → Nat) → Nat → World) (es : (Nat → Question → Nat) → Nat → Array Event) : (∀ τ d, ¬ Doomed P [cc] (stepG P true g (tp u τ d))) → (∀ τ d, stepG P true g (tp u τ d) = .go (g' τ d) (u' τ d) (es τ d)) → (∀ τ d, Reach P T (g' τ d) (u' τ d)) → Reach P T g u

/-- Alone, on every tape: it comes to T. -/
def Gets (P : Program) (T : Goroutine → World → Prop) (g : Goroutine) (u : World) : Prop := ∀ τ d, ∃ n g' u', runN P n (solo g (tp u τ d)) = .next (solo g' u') ∧ T g' u'

section
variable {P : Program}

theorem solo_go {fr fr' : Frame} {cs cs' : List Frame} {w w' : World} {es : Array Event} (h : stepG P true (G fr cs) w = .go (G fr' cs') w' es) : step P (solo (G fr cs) w) = .next (solo (G fr' cs') w') :=
  step_lone_go (by show (stepG P true (G fr cs) w).bare = _; rw [h]; rfl)
theorem solo_ends {fr : Frame} {cs : List Frame} {w w' : World} {o : Outcome} {es : Array Event} (h : stepG P true (G fr cs) w = .ended o w' es) : step P (solo (G fr cs) w) = .ended o w' :=
  step_lone_ended (by show (stepG P true (G fr cs) w).bare = _; rw [h]; rfl)

theorem solo_inj {g g' : Goroutine} {u u' : World} (h : solo g u = solo g' u') : g = g' ∧ u = u' := by
  simp only [solo, Machine.mk.injEq, Array.mk.injEq, List.cons.injEq, and_true] at h
  exact ⟨h.2, h.1⟩

/-- Goroutines that can never come to T. -/
def Never (P : Program) (T : Goroutine → World → Prop) (g : Goroutine) (u : World) : Prop := ∀ n g' u', runN P n (solo g u) = .next (solo g' u') → ¬ T g' u'

variable {T : Goroutine → World → Prop}

theorem Never.ends {fr : Frame} {cs : List Frame} {u : World} (h0 : ¬ T (G fr cs) u) (h : EndsNow (stepG P true (G fr cs) u)) : Never P T (G fr cs) u := by
  intro n g' u' hr ht
  obtain ⟨o, w, es, e⟩ := h.out
  cases n with
  | zero =>
    simp only [runN, Stepped.next.injEq] at hr
    obtain ⟨rfl, rfl⟩ := solo_inj hr
    exact h0 ht
  | succ n => simp [runN, solo_ends e] at hr
theorem Never.goes {fr fr' : Frame} {cs cs' : List Frame} {u u' : World} {es : Array Event} (h0 : ¬ T (G fr cs) u) (h : stepG P true (G fr cs) u = .go (G fr' cs') u' es) (hn : Never P T (G fr' cs') u') : Never P T (G fr cs) u := by
  intro n g' u'' hr ht
  cases n with
  | zero =>
    simp only [runN, Stepped.next.injEq] at hr
    obtain ⟨rfl, rfl⟩ := solo_inj hr
    exact h0 ht
  | succ n =>
    simp only [runN, solo_go h] at hr
    exact hn n g' u'' hr ht

theorem cc_finish (v : Value) : cc.finish v = cc := rfl
theorem cc_ends (cs : List Frame) (u : World) : EndsNow (stepG P true (G cc cs) u) := by simp [G, cc, stepG, stepG.exec, EndsNow]
theorem cc_raised (ch : List PanicEntry) (cs : List Frame) (u : World) : EndsNow (stepG P true (G (cc.raise ch) cs) u) := by
  simp [G, cc, Frame.raise, stepG, unwind, callDeferred, EndsNow]

theorem panicky_never {u : World} (hT1 : ∀ g u, T g u → g.callers = [cc] ∧ ∀ ch, g.frame.mode ≠ .panicking ch) : ∀ (xs : List Frame) (fr : Frame) (ch : List PanicEntry), fr.mode = .panicking ch → fr.defers = [] → (P.funcs[fr.fn]?).isSome = true →
    (∀ x ∈ xs, x.defers = [] ∧ (P.funcs[x.fn]?).isSome = true) → Never P T (G fr (xs ++ [cc])) u
  | [], fr, ch, hm, hd, hf, _ => by
    obtain ⟨fn, hfn⟩ := Option.isSome_iff_exists.1 hf
    refine Never.goes (fr' := cc.raise ch) (cs' := []) (u' := u) (es := #[]) (fun ht => (hT1 _ _ ht).2 ch hm) ?_ (Never.ends (fun ht => by have := (hT1 _ _ ht).1; simp [G] at this) (cc_raised ch [] u))
    simp [G, stepG, unwind, Frame.catches, hm, hd, hfn]
  | x :: xs, fr, ch, hm, hd, hf, hx => by
    obtain ⟨fn, hfn⟩ := Option.isSome_iff_exists.1 hf
    refine Never.goes (fr' := x.raise ch) (cs' := xs ++ [cc]) (u' := u) (es := #[]) (fun ht => (hT1 _ _ ht).2 ch hm) ?_
      (panicky_never hT1 xs (x.raise ch) (match x.mode with | .panicking c => ch ++ c | _ => ch) (by unfold Frame.raise; split <;> simp [*]) (by unfold Frame.raise; split <;> exact (hx x (by simp)).1) (by unfold Frame.raise; split <;> exact (hx x (by simp)).2) fun y hy => hx y (by simp [hy]))
    simp [G, stepG, unwind, Frame.catches, hm, hd, hfn]

/-- Where T may hold: above the base's caller, not in a panic. -/
def AtEndOnly (T : Goroutine → World → Prop) : Prop := ∀ g u, T g u → g.callers = [cc] ∧ ∀ ch, g.frame.mode ≠ .panicking ch

theorem AtEndOnly.form (h : AtEndOnly T) : ∀ g u, T g u → g.callers = [cc] ∧ ∀ ch, g.frame.mode ≠ .panicking ch := h

/-- From the piece's end T is met now or never. -/
theorem fin_now {k0 : List Item} (hE : AtEndOnly T) {g : Goroutine} {u : World} (hf : Done0 P k0 k0 [cc] [cc] g g) (hT : ¬ T g u) : Never P T g u := by
  rcases hf with ⟨b, a, todo, h1, h2, h3, rfl, _⟩ | ⟨e1, b, a, h1, h2, h3, rfl, _⟩
  · obtain ⟨fn, hfn⟩ := Option.isSome_iff_exists.1 h1
    cases hr : (Go.results fn a.tmps).run P u with
    | halt h u' => exact Never.ends hT (stepG_backHalts h3 hfn hr)
    | ok v u' => exact Never.goes hT (stepG_back h2 h3 hfn hr) (Never.ends (fun ht => by have := (hE.form _ _ ht).1; simp [G] at this) (cc_ends [] u'))
  · subst e1
    exact Never.ends hT (by simp [G, Frame.at, stepG, stepG.exec, EndsNow])

theorem doomed_never {u : World} (hT1 : ∀ g u, T g u → g.callers = [cc] ∧ ∀ ch, g.frame.mode ≠ .panicking ch) {fr : Frame} {cs : List Frame} (h0 : ¬ T (G fr cs) u) (hd : Doomed P [cc] (stepG P true (G fr cs) u)) : Never P T (G fr cs) u := by
  rcases hd with ⟨o, w, es, e⟩ | ⟨g, u', es, e, fr', xs, ch, rfl, h1, h2, h3, h4⟩
  · exact Never.ends h0 (by rw [e]; trivial)
  · exact Never.goes h0 e (panicky_never hT1 xs fr' ch h1 h2 h3 h4)

/-- A tape out of the pieces that single steps have drawn. -/
theorem splice (τs : Nat → Nat → Question → Nat) (ds cs : Nat → Nat) : ∃ (τ : Nat → Question → Nat) (D : Nat → Nat), D 0 = 0 ∧ (∀ j, D (j + 1) = D j + cs j) ∧ ∀ j i, i < cs j → τ (D j + i) = τs j (ds j + i) := by
  let D : Nat → Nat := fun j => Nat.rec 0 (fun j x => x + cs j) j
  have hD : ∀ j, D (j + 1) = D j + cs j := fun _ => rfl
  have mono : ∀ a b, D a ≤ D (a + b) := by
    intro a b
    induction b with
    | zero => exact Nat.le_refl _
    | succ b ih => rw [← Nat.add_assoc, hD]; omega
  have uniq : ∀ j i j' i', i < cs j → i' < cs j' → D j + i = D j' + i' → j = j' ∧ i = i' := by
    intro j i j' i' hi hi' e
    rcases Nat.lt_trichotomy j j' with h | h | h
    · have := mono (j + 1) (j' - (j + 1))
      rw [hD, show j + 1 + (j' - (j + 1)) = j' from by omega] at this
      omega
    · subst h; exact ⟨rfl, by omega⟩
    · have := mono (j' + 1) (j - (j' + 1))
      rw [hD, show j' + 1 + (j - (j' + 1)) = j from by omega] at this
      omega
  classical
  refine ⟨fun n => if h : ∃ p : Nat × Nat, p.2 < cs p.1 ∧ n = D p.1 + p.2 then τs h.choose.1 (ds h.choose.1 + h.choose.2) else fun _ => 0, D, rfl, hD, fun j i hi => ?_⟩
  have hx : ∃ p : Nat × Nat, p.2 < cs p.1 ∧ D j + i = D p.1 + p.2 := ⟨(j, i), hi, rfl⟩
  obtain ⟨h1, h2⟩ := hx.choose_spec
  obtain ⟨e1, e2⟩ := uniq _ _ _ _ hi h1 h2
  show (if h : ∃ p : Nat × Nat, p.2 < cs p.1 ∧ D j + i = D p.1 + p.2 then τs h.choose.1 (ds h.choose.1 + h.choose.2) else fun _ => 0) = _
  rw [dif_pos hx, ← e1, ← e2]

theorem live_form {S X : FuncId → Bool} {k0 : List Item} {g : Goroutine} (h : Live P S X k0 k0 [cc] [cc] g g) : ∃ fr cs, g = G fr cs := by
  rcases h with h | ⟨_, _, b, a, _, _, _, e, _⟩
  · cases h <;> exact ⟨_, _, rfl⟩
  · exact ⟨_, _, e⟩
theorem both_form {S X : FuncId → Bool} {k0 : List Item} {g : Goroutine} (h : Live P S X k0 k0 [cc] [cc] g g ∨ Done0 P k0 k0 [cc] [cc] g g) : ∃ fr cs, g = G fr cs := by
  rcases h with h | h
  · exact live_form h
  · rcases h with ⟨b, a, todo, _, _, _, e, _⟩ | ⟨_, b, a, _, _, _, e, _⟩ <;> exact ⟨_, _, e⟩

theorem runs_shift {S X : FuncId → Bool} {k0 : List Item} (hT : Tame P S X) (hkk : k0 = [] ∨ k0 = [.code (.refuse "")]) (hE : AtEndOnly T) (hTt : ∀ g u τ d, T g (tp u τ d) → T g u) {κ : Nat → Kd} :
    ∀ (n : Nat) (g : Goroutine) (u : World) (τa τb : Nat → Question → Nat) (da db : Nat) (g2 : Goroutine) (u2 : World), (Live P S X k0 k0 [cc] [cc] g g ∨ Done0 P k0 k0 [cc] [cc] g g) → View κ u u → (∀ i, τb (db + i) = τa (da + i)) →
      runN P n (solo g (tp u τa da)) = .next (solo g2 u2) → T g2 u2 → ∃ m g3 u3, runN P m (solo g (tp u τb db)) = .next (solo g3 u3) ∧ T g3 u3 := by
  have tt : ∀ g u τ d, T g u → T g (tp u τ d) := fun g u τ d h => hTt g (tp u τ d) u.tape u.drawn h
  intro n
  induction n with
  | zero =>
    intro g u τa τb da db g2 u2 _ _ _ hr ht
    simp only [runN, Stepped.next.injEq] at hr
    obtain ⟨rfl, rfl⟩ := solo_inj hr
    exact ⟨0, g, _, rfl, tt _ _ _ _ (hTt _ _ _ _ ht)⟩
  | succ n ih =>
    intro g u τa τb da db g2 u2 hL hV hm hr ht
    by_cases hnow : T g u
    · exact ⟨0, g, _, rfl, tt _ _ _ _ hnow⟩
    have hn' : ¬ T g (tp u τa da) := fun h => hnow (hTt _ _ _ _ h)
    rcases hL with hL | hF
    · obtain ⟨fr, cs, rfl⟩ := live_form hL
      have nd : ¬ Doomed P [cc] (stepG P true (G fr cs) (tp u τa da)) := fun hd => doomed_never hE.form hn' hd (n + 1) g2 u2 hr ht
      have hkk' : (k0 = [] ∧ k0 = []) ∨ k0 = [.code (.refuse "")] := hkk.imp (fun h => ⟨h, h⟩) id
      obtain ⟨g1, _, u1, es, hs, _⟩ := (live_step hT (hV.tp τa τa da da) hkk' hL (main := true)).resolve_right nd
      obtain ⟨hN, hV', hd, htape, hshift⟩ := step_shift hT hV hkk hL hs nd
      obtain ⟨fr', cs', rfl⟩ := both_form hN
      simp only [runN, solo_go hs] at hr
      have hu1 : tp u1 τa u1.drawn = u1 := by cases u1; simp only [tp] at htape ⊢; simp_all
      have hb := hshift τb db (fun i _ => hm i)
      rw [← hu1] at hr
      obtain ⟨m, g3, u3, r1, r2⟩ := ih (G fr' cs') u1 τa τb u1.drawn (db + (u1.drawn - da)) g2 u2 hN hV' (fun i => by rw [Nat.add_assoc, hm]; congr 1; omega) hr ht
      exact ⟨m + 1, g3, u3, by simp only [runN, solo_go hb]; exact r1, r2⟩
    · exact absurd ht (fin_now hE hF hn' (n + 1) g2 u2 hr)

theorem reach_of {S X : FuncId → Bool} {k0 : List Item} (hT : Tame P S X) (hkk : k0 = [] ∨ k0 = [.code (.refuse "")]) (hE : AtEndOnly T) (hTt : ∀ g u τ d, T g (tp u τ d) → T g u) {κ : Nat → Kd} {g : Goroutine} {u : World}
    (hL : Live P S X k0 k0 [cc] [cc] g g) (hV : View κ u u) (hG : Gets P T g u) : Reach P T g u := by
  have hGform : ∀ {g : Goroutine}, Live P S X k0 k0 [cc] [cc] g g → ∃ fr cs, g = G fr cs := by
    intro g h
    rcases h with h | ⟨_, _, b, a, _, _, _, e, _⟩
    · cases h <;> exact ⟨_, _, rfl⟩
    · exact ⟨_, _, e⟩
  -- what holds along the chain
  let Q : Goroutine × World → Prop := fun p => Live P S X k0 k0 [cc] [cc] p.1 p.1 ∧ View κ p.2 p.2 ∧ Gets P T p.1 p.2 ∧ ¬ Reach P T p.1 p.2
  have next : ∀ p, Q p → ∃ p' : Goroutine × World, ∃ (τ : Nat → Question → Nat) (d : Nat) (es : Array Event), Q p' ∧ d ≤ p'.2.drawn ∧ ∀ τ' d', (∀ i, i < p'.2.drawn - d → τ' (d' + i) = τ (d + i)) → stepG P true p.1 (tp p.2 τ' d') = .go p'.1 (tp p'.2 τ' (d' + (p'.2.drawn - d))) es := by
    rintro ⟨g, u⟩ ⟨hL, hV, hG, hR⟩
    have hnT : ¬ T g u := fun h => hR (.here h)
    have hnT' : ∀ τ d, ¬ T g (tp u τ d) := fun τ d h => hnT (hTt g u τ d h)
    obtain ⟨fr, cs, rfl⟩ := hGform hL
    have nd : ∀ τ d, ¬ Doomed P [cc] (stepG P true (G fr cs) (tp u τ d)) := fun τ d hd => by
      obtain ⟨n, g', u', h1, h2⟩ := hG τ d
      exact doomed_never hE.form (hnT' τ d) hd n g' u' h1 h2
    have hkk' : (k0 = [] ∧ k0 = []) ∨ k0 = [.code (.refuse "")] := hkk.imp (fun h => ⟨h, h⟩) id
    have all : ∀ τ d, ∃ g' u' es, stepG P true (G fr cs) (tp u τ d) = .go g' u' es := fun τ d => by
      obtain ⟨a, _, c, e, h, _⟩ := (live_step hT (hV.tp τ τ d d) hkk' hL (main := true)).resolve_right (nd τ d)
      exact ⟨a, c, e, h⟩
    -- some draw leads to a place that does not reach
    have : ∃ τ d, ∀ g' u' es, stepG P true (G fr cs) (tp u τ d) = .go g' u' es → ¬ Reach P T g' u' := by
      classical
      refine Classical.byContradiction fun hno => hR ?_
      have hno' : ∀ τ d, ∃ g' u' es, stepG P true (G fr cs) (tp u τ d) = .go g' u' es ∧ Reach P T g' u' := fun τ d => Classical.byContradiction fun h => hno ⟨τ, d, fun g' u' es h1 h2 => h ⟨g', u', es, h1, h2⟩⟩
      exact .step (fun τ d => (hno' τ d).choose) (fun τ d => (hno' τ d).choose_spec.choose) (fun τ d => (hno' τ d).choose_spec.choose_spec.choose) nd (fun τ d => (hno' τ d).choose_spec.choose_spec.choose_spec.1) (fun τ d => (hno' τ d).choose_spec.choose_spec.choose_spec.2)
    obtain ⟨τ, d, hbad⟩ := this
    obtain ⟨g', u', es, hs⟩ := all τ d
    obtain ⟨hN, hV', hd, htape, hshift⟩ := step_shift hT hV hkk hL hs (nd τ d)
    have hR' := hbad g' u' es hs
    have hG'form : ∃ fr' cs', g' = G fr' cs' := by
      rcases hN with h | h
      · exact hGform h
      · rcases h with ⟨b, a, todo, _, _, _, e, _⟩ | ⟨_, b, a, _, _, _, e, _⟩ <;> exact ⟨_, _, e⟩
    have hG' : Gets P T g' u' := by
      intro τ' d'
      let τ'' : Nat → Question → Nat := fun i => if i < u'.drawn then τ i else τ' (i - u'.drawn + d')
      obtain ⟨n, g2, u2, h1, h2⟩ := hG τ'' d
      have hstep := hshift τ'' d (fun i hi => by show (if d + i < u'.drawn then τ (d + i) else _) = _; rw [if_pos (by omega)])
      rw [show d + (u'.drawn - d) = u'.drawn from by omega] at hstep
      obtain ⟨fr', cs', rfl⟩ := hG'form
      cases n with
      | zero =>
        simp only [runN, Stepped.next.injEq] at h1
        obtain ⟨rfl, rfl⟩ := solo_inj h1
        exact absurd h2 (hnT' _ _)
      | succ n =>
        simp only [runN, solo_go hstep] at h1
        exact runs_shift hT hkk hE hTt n (G fr' cs') u' τ'' τ' u'.drawn d' g2 u2 hN hV' (fun i => by show _ = (if u'.drawn + i < u'.drawn then _ else τ' (u'.drawn + i - u'.drawn + d')); rw [if_neg (by omega)]; congr 1; omega) h1 h2
    rcases hN with hL' | hF
    · exact ⟨(g', u'), τ, d, es, ⟨hL', hV', hG', hR'⟩, hd, hshift⟩
    · -- at the end T is met now or never
      exfalso
      obtain ⟨n, g2, u2, h1, h2⟩ := hG' u'.tape u'.drawn
      have hu : tp u' u'.tape u'.drawn = u' := rfl
      rw [hu] at h1
      have hnT2 : ¬ T g' u' := fun h => hR' (.here h)
      exact fin_now hE hF hnT2 n g2 u2 h1 h2
  refine Classical.byContradiction fun hR => ?_
  have nx : ∀ p : { p // Q p }, ∃ p' : { p // Q p }, ∃ (τ : Nat → Question → Nat) (d : Nat) (es : Array Event), d ≤ p'.1.2.drawn ∧ ∀ τ' d', (∀ i, i < p'.1.2.drawn - d → τ' (d' + i) = τ (d + i)) → stepG P true p.1.1 (tp p.1.2 τ' d') = .go p'.1.1 (tp p'.1.2 τ' (d' + (p'.1.2.drawn - d))) es := fun p => by
    obtain ⟨p', τ, d, es, h1, h2, h3⟩ := next p.1 p.2
    exact ⟨⟨p', h1⟩, τ, d, es, h2, h3⟩
  let sq : Nat → { p // Q p } := fun n => Nat.rec ⟨(g, u), hL, hV, hG, hR⟩ (fun _ p => (nx p).choose) n
  have hsq : ∀ n, sq (n + 1) = (nx (sq n)).choose := fun _ => rfl
  let τs : Nat → Nat → Question → Nat := fun n => (nx (sq n)).choose_spec.choose
  let ds : Nat → Nat := fun n => (nx (sq n)).choose_spec.choose_spec.choose
  have hst : ∀ n, ∃ es, ∀ τ' d', (∀ i, i < (sq (n + 1)).1.2.drawn - ds n → τ' (d' + i) = τs n (ds n + i)) → stepG P true (sq n).1.1 (tp (sq n).1.2 τ' d') = .go (sq (n + 1)).1.1 (tp (sq (n + 1)).1.2 τ' (d' + ((sq (n + 1)).1.2.drawn - ds n))) es := fun n =>
    ⟨_, (nx (sq n)).choose_spec.choose_spec.choose_spec.choose_spec.2⟩
  obtain ⟨τ, D, hD0, hD, hτ⟩ := splice τs ds (fun n => (sq (n + 1)).1.2.drawn - ds n)
  have hrun : ∀ n, runN P n (solo g (tp u τ 0)) = .next (solo (sq n).1.1 (tp (sq n).1.2 τ (D n))) := by
    intro n
    induction n with
    | zero => rw [hD0]; rfl
    | succ n ih =>
      obtain ⟨es, he⟩ := hst n
      have hs := he τ (D n) (fun i hi => hτ n i hi)
      rw [← hD n] at hs
      obtain ⟨fr, cs, e⟩ := hGform (sq n).2.1
      obtain ⟨fr', cs', e'⟩ := hGform (sq (n + 1)).2.1
      rw [e, e'] at hs
      rw [runN_add, ih, e, e']
      simp only [runN, solo_go hs]
  obtain ⟨n, g', u', h1, h2⟩ := hG τ 0
  rw [hrun n] at h1
  simp only [Stepped.next.injEq] at h1
  obtain ⟨rfl, rfl⟩ := solo_inj h1
  exact (sq n).2.2.2.2 (.here (hTt _ _ _ _ h2))
end
end Go.Proofs.Ytpioacgknamemaa
