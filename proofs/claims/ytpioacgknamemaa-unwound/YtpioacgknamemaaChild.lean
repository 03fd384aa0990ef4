/- FindAll's literal, in company: its reads come in any order, the call is last. -/
import Derived.Test.YtpioacgknamemaaSteps
import Derived.Conc.CompanyDraw
set_option linter.unusedSectionVars false
set_option linter.unusedSimpArgs false
namespace Go.Proofs.Ytpioacgknamemaa
open Go Go.RowKit Go.Conc Go.ConcN Go.ConcR.Gen Go.Conc.Lib

def sel (b : Nat → Bool) (V : Nat → Value) (i : Nat) : Value := if b i then V i else undef
def bools (b : Nat → Bool) : Array Bool := #[b 0, b 1, b 2, b 3, b 4, b 5, b 6, b 7, b 8, b 9]
def act42 (c0 c1 c2 c3 c4 : Value) (V : Nat → Value) (b : Nat → Bool) : Act := ⟨#[c0, c1, c2, c3, c4, sel b V 0, sel b V 1, sel b V 2, sel b V 3, sel b V 4, sel b V 5, sel b V 6, sel b V 7, sel b V 8, sel b V 9], []⟩
noncomputable def ops42 : Array Oper := match Try.f42.body with | some (.region _ o _) => o | _ => #[]

theorem bools_set (b : Nat → Bool) {i : Nat} (hi : i < 10) : (bools b).setIfInBounds i true = bools (upd b i true) := by
  have : i = 0 ∨ i = 1 ∨ i = 2 ∨ i = 3 ∨ i = 4 ∨ i = 5 ∨ i = 6 ∨ i = 7 ∨ i = 8 ∨ i = 9 := by omega
  rcases this with rfl | rfl | rfl | rfl | rfl | rfl | rfl | rfl | rfl | rfl <;> simp [bools, upd]

def left (b : Nat → Bool) : Nat := (if b 0 then 0 else 1) + (if b 1 then 0 else 1) + (if b 2 then 0 else 1) + (if b 3 then 0 else 1) + (if b 4 then 0 else 1) + (if b 5 then 0 else 1) + (if b 6 then 0 else 1) + (if b 7 then 0 else 1) + (if b 8 then 0 else 1) + (if b 9 then 0 else 1)
theorem left_upd {b : Nat → Bool} {i : Nat} (hi : i < 10) (h : b i = false) : left (upd b i true) + 1 = left b := by
  have : i = 0 ∨ i = 1 ∨ i = 2 ∨ i = 3 ∨ i = 4 ∨ i = 5 ∨ i = 6 ∨ i = 7 ∨ i = 8 ∨ i = 9 := by omega
  rcases this with rfl | rfl | rfl | rfl | rfl | rfl | rfl | rfl | rfl | rfl <;> simp [left, upd, h] <;> omega

def deps : Nat → List Nat
  | 4 => [1, 2, 3]
  | 8 => [5, 6, 7]
  | 9 => [0, 4, 8]
  | _ => []

theorem ready42 (b : Nat → Bool) (i : Nat) : i ∈ Region.ready .any ops42 (bools b) ↔ i < 10 ∧ b i = false ∧ ∀ j ∈ deps i, b j = true := by
  rw [mem_ready]
  by_cases hi : i < 10
  · have : i = 0 ∨ i = 1 ∨ i = 2 ∨ i = 3 ∨ i = 4 ∨ i = 5 ∨ i = 6 ∨ i = 7 ∨ i = 8 ∨ i = 9 := by omega
    rcases this with rfl | rfl | rfl | rfl | rfl | rfl | rfl | rfl | rfl | rfl <;> simp [bools, deps, ops42, Try.f42, Region.binds]
  · simp [ops42, Try.f42, hi]

theorem ready_some (b : Nat → Bool) (h9 : b 9 = false) : Region.ready .any ops42 (bools b) ≠ [] := by
  intro e
  have key : ∀ i, i < 10 → b i = false → (∀ j ∈ deps i, b j = true) → False := fun i h1 h2 h3 => by
    have := (ready42 b i).2 ⟨h1, h2, h3⟩
    rw [e] at this; cases this
  have k0 : ∀ i, i < 10 → deps i = [] → b i = true := fun i h1 h2 => by
    cases h : b i with
    | true => rfl
    | false => exact (key i h1 h (by rw [h2]; simp)).elim
  have h0 := k0 0 (by omega) rfl
  have h1 := k0 1 (by omega) rfl
  have h2 := k0 2 (by omega) rfl
  have h3 := k0 3 (by omega) rfl
  have h5 := k0 5 (by omega) rfl
  have h6 := k0 6 (by omega) rfl
  have h7 := k0 7 (by omega) rfl
  have h4 : b 4 = true := by
    cases h : b 4 with
    | true => rfl
    | false => exact (key 4 (by omega) h (by simp [deps, h1, h2, h3])).elim
  have h8 : b 8 = true := by
    cases h : b 8 with
    | true => rfl
    | false => exact (key 8 (by omega) h (by simp [deps, h5, h6, h7])).elim
  exact key 9 (by omega) h9 (by simp [deps, h0, h4, h8])

theorem events_part {P : Program} {w : World} {es : Array Event} {t : TypeId} {a : Addr} {n cap fr to : Nat} (h : P.underlying t = some (.slice (P.elem t))) (h1 : fr < to) (h2 : to ≤ cap) :
    (Instr.sliceAt t (.slice (some a) n cap) (some (.int .i64 fr)) (some (.int .i64 to)) none).events P w es = es := by
  have c3 : fr ≤ to := by omega
  simp [h2, c3, Instr.sliceAt, Instr.slice, Instr.sliceBounds, Instr.sliceBound, asIntOf, run_underlying h]

/-- What the literal reads. -/
structure Reads (R : World → World → Prop) (D : World → World → Array Event → Prop) (F : World → Prop) (S : Value) (lb fb : Addr) (n cap n' fr to : Nat) (A : Nat → Addr) : Prop where
  rely : ∀ w w₁, F w → R w w₁ → F w₁
  s : ∀ w, F w → w.cell? (A 0) = some S
  l : ∀ w, F w → w.cell? (A 1) = some (.slice (some lb) n cap)
  fr : ∀ w, F w → w.cell? (A 2) = some (.int .i64 fr)
  to : ∀ w, F w → w.cell? (A 3) = some (.int .i64 to)
  f : ∀ w, F w → w.cell? (A 4) = some (.slice (some fb) n n')
  d : ∀ w i, F w → i < 5 → D w w #[⟨.cell (A i), false, false⟩]

section
variable {main : Bool} {R : World → World → Prop} {D : World → World → Array Event → Prop} {F : World → Prop} {S : Value} {lb fb : Addr} {n cap n' fr to : Nat} {A : Nat → Addr} {Stop : Goroutine → World → Prop} {bf : Frame} {k : List Item} {cs : List Frame}

abbrev cap42 (A : Nat → Addr) (V : Nat → Value) (b : Nat → Bool) : Act := act42 (.pointer (some (A 0))) (.pointer (some (A 1))) (.pointer (some (A 2))) (.pointer (some (A 3))) (.pointer (some (A 4))) V b

set_option maxRecDepth 100000 in
set_option maxHeartbeats 4000000 in
theorem lit0 {V : Nat → Value} (hr : Reads R D F S lb fb n cap n' fr to A) (hV : V 0 = S) (hk : bf.kind ≠ .early) (hq : (Try.prog.funcs[bf.fn]?).any (·.norace) = false) {b : Nat → Bool} {rest : List Nat} {w : World} (hF : F w)
    (h : ∀ w, F w → Way Try.prog main R D Stop (G (bf.at (cap42 A V (upd b 0 true)) (.inRegion ops42 rest :: k)) cs) w) :
    Way Try.prog main R D Stop (G (bf.at (cap42 A V b) (.inRegion ops42 (0 :: rest) :: k)) cs) w := by
  refine Way.step rfl (fun w₁ h₁ => ?_)
  replace hF := hr.rely _ _ hF h₁
  clear h₁
  have hh := h _ hF
  simp only [cap42, ops42, Try.f42, act42] at hh ⊢
  refine goes_oper_k rfl rfl hk (fun K hK => ?_)
  have f0 := hr.s _ hF
  go_simp
  refine hK _ _ ⟨?_, ?_⟩
  · rw [listed_cell (ad := A 0) (wr := false) hq (by simp [go_sem, f0])]
    exact hr.d _ 0 hF (by omega)
  clear hK K
  simpa [sel, upd, hV] using hh

set_option maxRecDepth 100000 in
set_option maxHeartbeats 4000000 in
theorem lit1 {V : Nat → Value} (hr : Reads R D F S lb fb n cap n' fr to A) (hV : V 1 = .slice (some lb) n cap) (hk : bf.kind ≠ .early) (hq : (Try.prog.funcs[bf.fn]?).any (·.norace) = false) {b : Nat → Bool} {rest : List Nat} {w : World} (hF : F w)
    (h : ∀ w, F w → Way Try.prog main R D Stop (G (bf.at (cap42 A V (upd b 1 true)) (.inRegion ops42 rest :: k)) cs) w) :
    Way Try.prog main R D Stop (G (bf.at (cap42 A V b) (.inRegion ops42 (1 :: rest) :: k)) cs) w := by
  refine Way.step rfl (fun w₁ h₁ => ?_)
  replace hF := hr.rely _ _ hF h₁
  clear h₁
  have hh := h _ hF
  simp only [cap42, ops42, Try.f42, act42] at hh ⊢
  refine goes_oper_k rfl rfl hk (fun K hK => ?_)
  have f0 := hr.l _ hF
  go_simp
  refine hK _ _ ⟨?_, ?_⟩
  · rw [listed_cell (ad := A 1) (wr := false) hq (by simp [go_sem, f0])]
    exact hr.d _ 1 hF (by omega)
  clear hK K
  simpa [sel, upd, hV] using hh

set_option maxRecDepth 100000 in
set_option maxHeartbeats 4000000 in
theorem lit2 {V : Nat → Value} (hr : Reads R D F S lb fb n cap n' fr to A) (hV : V 2 = .int .i64 fr) (hk : bf.kind ≠ .early) (hq : (Try.prog.funcs[bf.fn]?).any (·.norace) = false) {b : Nat → Bool} {rest : List Nat} {w : World} (hF : F w)
    (h : ∀ w, F w → Way Try.prog main R D Stop (G (bf.at (cap42 A V (upd b 2 true)) (.inRegion ops42 rest :: k)) cs) w) :
    Way Try.prog main R D Stop (G (bf.at (cap42 A V b) (.inRegion ops42 (2 :: rest) :: k)) cs) w := by
  refine Way.step rfl (fun w₁ h₁ => ?_)
  replace hF := hr.rely _ _ hF h₁
  clear h₁
  have hh := h _ hF
  simp only [cap42, ops42, Try.f42, act42] at hh ⊢
  refine goes_oper_k rfl rfl hk (fun K hK => ?_)
  have f0 := hr.fr _ hF
  go_simp
  refine hK _ _ ⟨?_, ?_⟩
  · rw [listed_cell (ad := A 2) (wr := false) hq (by simp [go_sem, f0])]
    exact hr.d _ 2 hF (by omega)
  clear hK K
  simpa [sel, upd, hV] using hh

set_option maxRecDepth 100000 in
set_option maxHeartbeats 4000000 in
theorem lit3 {V : Nat → Value} (hr : Reads R D F S lb fb n cap n' fr to A) (hV : V 3 = .int .i64 to) (hk : bf.kind ≠ .early) (hq : (Try.prog.funcs[bf.fn]?).any (·.norace) = false) {b : Nat → Bool} {rest : List Nat} {w : World} (hF : F w)
    (h : ∀ w, F w → Way Try.prog main R D Stop (G (bf.at (cap42 A V (upd b 3 true)) (.inRegion ops42 rest :: k)) cs) w) :
    Way Try.prog main R D Stop (G (bf.at (cap42 A V b) (.inRegion ops42 (3 :: rest) :: k)) cs) w := by
  refine Way.step rfl (fun w₁ h₁ => ?_)
  replace hF := hr.rely _ _ hF h₁
  clear h₁
  have hh := h _ hF
  simp only [cap42, ops42, Try.f42, act42] at hh ⊢
  refine goes_oper_k rfl rfl hk (fun K hK => ?_)
  have f0 := hr.to _ hF
  go_simp
  refine hK _ _ ⟨?_, ?_⟩
  · rw [listed_cell (ad := A 3) (wr := false) hq (by simp [go_sem, f0])]
    exact hr.d _ 3 hF (by omega)
  clear hK K
  simpa [sel, upd, hV] using hh

set_option maxRecDepth 100000 in
set_option maxHeartbeats 4000000 in
theorem lit5 {V : Nat → Value} (hr : Reads R D F S lb fb n cap n' fr to A) (hV : V 5 = .slice (some fb) n n') (hk : bf.kind ≠ .early) (hq : (Try.prog.funcs[bf.fn]?).any (·.norace) = false) {b : Nat → Bool} {rest : List Nat} {w : World} (hF : F w)
    (h : ∀ w, F w → Way Try.prog main R D Stop (G (bf.at (cap42 A V (upd b 5 true)) (.inRegion ops42 rest :: k)) cs) w) :
    Way Try.prog main R D Stop (G (bf.at (cap42 A V b) (.inRegion ops42 (5 :: rest) :: k)) cs) w := by
  refine Way.step rfl (fun w₁ h₁ => ?_)
  replace hF := hr.rely _ _ hF h₁
  clear h₁
  have hh := h _ hF
  simp only [cap42, ops42, Try.f42, act42] at hh ⊢
  refine goes_oper_k rfl rfl hk (fun K hK => ?_)
  have f0 := hr.f _ hF
  go_simp
  refine hK _ _ ⟨?_, ?_⟩
  · rw [listed_cell (ad := A 4) (wr := false) hq (by simp [go_sem, f0])]
    exact hr.d _ 4 hF (by omega)
  clear hK K
  simpa [sel, upd, hV] using hh

set_option maxRecDepth 100000 in
set_option maxHeartbeats 4000000 in
theorem lit6 {V : Nat → Value} (hr : Reads R D F S lb fb n cap n' fr to A) (hV : V 6 = .int .i64 fr) (hk : bf.kind ≠ .early) (hq : (Try.prog.funcs[bf.fn]?).any (·.norace) = false) {b : Nat → Bool} {rest : List Nat} {w : World} (hF : F w)
    (h : ∀ w, F w → Way Try.prog main R D Stop (G (bf.at (cap42 A V (upd b 6 true)) (.inRegion ops42 rest :: k)) cs) w) :
    Way Try.prog main R D Stop (G (bf.at (cap42 A V b) (.inRegion ops42 (6 :: rest) :: k)) cs) w := by
  refine Way.step rfl (fun w₁ h₁ => ?_)
  replace hF := hr.rely _ _ hF h₁
  clear h₁
  have hh := h _ hF
  simp only [cap42, ops42, Try.f42, act42] at hh ⊢
  refine goes_oper_k rfl rfl hk (fun K hK => ?_)
  have f0 := hr.fr _ hF
  go_simp
  refine hK _ _ ⟨?_, ?_⟩
  · rw [listed_cell (ad := A 2) (wr := false) hq (by simp [go_sem, f0])]
    exact hr.d _ 2 hF (by omega)
  clear hK K
  simpa [sel, upd, hV] using hh

set_option maxRecDepth 100000 in
set_option maxHeartbeats 4000000 in
theorem lit7 {V : Nat → Value} (hr : Reads R D F S lb fb n cap n' fr to A) (hV : V 7 = .int .i64 to) (hk : bf.kind ≠ .early) (hq : (Try.prog.funcs[bf.fn]?).any (·.norace) = false) {b : Nat → Bool} {rest : List Nat} {w : World} (hF : F w)
    (h : ∀ w, F w → Way Try.prog main R D Stop (G (bf.at (cap42 A V (upd b 7 true)) (.inRegion ops42 rest :: k)) cs) w) :
    Way Try.prog main R D Stop (G (bf.at (cap42 A V b) (.inRegion ops42 (7 :: rest) :: k)) cs) w := by
  refine Way.step rfl (fun w₁ h₁ => ?_)
  replace hF := hr.rely _ _ hF h₁
  clear h₁
  have hh := h _ hF
  simp only [cap42, ops42, Try.f42, act42] at hh ⊢
  refine goes_oper_k rfl rfl hk (fun K hK => ?_)
  have f0 := hr.to _ hF
  go_simp
  refine hK _ _ ⟨?_, ?_⟩
  · rw [listed_cell (ad := A 3) (wr := false) hq (by simp [go_sem, f0])]
    exact hr.d _ 3 hF (by omega)
  clear hK K
  simpa [sel, upd, hV] using hh

set_option maxRecDepth 100000 in
set_option maxHeartbeats 4000000 in
theorem lit4 {V : Nat → Value} (T : Terms R D) (hr : Reads R D F S lb fb n cap n' fr to A) (v1 : V 1 = .slice (some lb) n cap) (v2 : V 2 = .int .i64 fr) (v3 : V 3 = .int .i64 to) (hV : V 4 = .slice (some (lb.add fr)) (to - fr) (cap - fr)) (h1 : fr < to) (h2 : to ≤ cap) (hk : bf.kind ≠ .early) (_hq : (Try.prog.funcs[bf.fn]?).any (·.norace) = false) {b : Nat → Bool} (d1 : b 1 = true) (d2 : b 2 = true) (d3 : b 3 = true) {rest : List Nat} {w : World} (hF : F w)
    (h : ∀ w, F w → Way Try.prog main R D Stop (G (bf.at (cap42 A V (upd b 4 true)) (.inRegion ops42 rest :: k)) cs) w) :
    Way Try.prog main R D Stop (G (bf.at (cap42 A V b) (.inRegion ops42 (4 :: rest) :: k)) cs) w := by
  refine Way.step rfl (fun w₁ h₁ => ?_)
  replace hF := hr.rely _ _ hF h₁
  clear h₁
  have hh := h _ hF
  have e1 : sel b V 1 = _ := (by unfold sel; rw [d1]; rfl : sel b V 1 = V 1).trans v1
  have e2 : sel b V 2 = _ := (by unfold sel; rw [d2]; rfl : sel b V 2 = V 2).trans v2
  have e3 : sel b V 3 = _ := (by unfold sel; rw [d3]; rfl : sel b V 3 = V 3).trans v3
  simp only [cap42, ops42, Try.f42, act42, e1, e2, e3] at hh ⊢
  refine goes_oper_k rfl rfl hk (fun K hK => ?_)
  have c1 : to ≤ cap := by omega
  have c2 : ¬ cap = fr := by omega
  have c3 : fr ≤ to := by omega
  go_simp
  refine hK _ _ ⟨?_, ?_⟩
  · rw [listed_nil (by simp [go_sem, events_part (P := Try.prog) (t := 23) (by kernel_rfl) h1 c1])]
    exact T.idle _
  clear hK K
  simpa [sel, upd, hV, d1, d2, d3, v1, v2, v3] using hh

set_option maxRecDepth 100000 in
set_option maxHeartbeats 4000000 in
theorem lit8 {V : Nat → Value} (T : Terms R D) (hr : Reads R D F S lb fb n cap n' fr to A) (v1 : V 5 = .slice (some fb) n n') (v2 : V 6 = .int .i64 fr) (v3 : V 7 = .int .i64 to) (hV : V 8 = .slice (some (fb.add fr)) (to - fr) (n' - fr)) (h1 : fr < to) (h2 : to ≤ n') (hk : bf.kind ≠ .early) (_hq : (Try.prog.funcs[bf.fn]?).any (·.norace) = false) {b : Nat → Bool} (d1 : b 5 = true) (d2 : b 6 = true) (d3 : b 7 = true) {rest : List Nat} {w : World} (hF : F w)
    (h : ∀ w, F w → Way Try.prog main R D Stop (G (bf.at (cap42 A V (upd b 8 true)) (.inRegion ops42 rest :: k)) cs) w) :
    Way Try.prog main R D Stop (G (bf.at (cap42 A V b) (.inRegion ops42 (8 :: rest) :: k)) cs) w := by
  refine Way.step rfl (fun w₁ h₁ => ?_)
  replace hF := hr.rely _ _ hF h₁
  clear h₁
  have hh := h _ hF
  have e1 : sel b V 5 = _ := (by unfold sel; rw [d1]; rfl : sel b V 5 = V 5).trans v1
  have e2 : sel b V 6 = _ := (by unfold sel; rw [d2]; rfl : sel b V 6 = V 6).trans v2
  have e3 : sel b V 7 = _ := (by unfold sel; rw [d3]; rfl : sel b V 7 = V 7).trans v3
  simp only [cap42, ops42, Try.f42, act42, e1, e2, e3] at hh ⊢
  refine goes_oper_k rfl rfl hk (fun K hK => ?_)
  have c1 : to ≤ n' := by omega
  have c2 : ¬ n' = fr := by omega
  have c3 : fr ≤ to := by omega
  go_simp
  refine hK _ _ ⟨?_, ?_⟩
  · rw [listed_nil (by simp [go_sem, events_part (P := Try.prog) (t := 22) (by kernel_rfl) h1 c1])]
    exact T.idle _
  clear hK K
  simpa [sel, upd, hV, d1, d2, d3, v1, v2, v3] using hh


/-- The values that the literal comes to. -/
def vals42 (S : Value) (lb fb : Addr) (n cap n' fr to : Nat) : Nat → Value
  | 0 => S
  | 1 => .slice (some lb) n cap
  | 2 => .int .i64 fr
  | 3 => .int .i64 to
  | 4 => .slice (some (lb.add fr)) (to - fr) (cap - fr)
  | 5 => .slice (some fb) n n'
  | 6 => .int .i64 fr
  | 7 => .int .i64 to
  | 8 => .slice (some (fb.add fr)) (to - fr) (n' - fr)
  | _ => undef

def but9 : Nat → Bool := fun i => i != 9

theorem lit_any (T : Terms R D) (hr : Reads R D F S lb fb n cap n' fr to A) (h1 : fr < to) (h2 : to ≤ cap) (h3 : to ≤ n') (hk : bf.kind ≠ .early) (hq : (Try.prog.funcs[bf.fn]?).any (·.norace) = false)
    (h : ∀ w, F w → Way Try.prog main R D Stop (G (bf.at (cap42 A (vals42 S lb fb n cap n' fr to) but9) (.inRegion ops42 [9] :: k)) cs) w) :
    ∀ (fuel t : Nat) (b : Nat → Bool) (w : World), left b ≤ fuel → b 9 = false → (b 4 = true → b 1 = true ∧ b 2 = true ∧ b 3 = true) → (b 8 = true → b 5 = true ∧ b 6 = true ∧ b 7 = true) → F w →
      Way Try.prog main R D Stop (G (bf.at (cap42 A (vals42 S lb fb n cap n' fr to) b) (.inRegion ops42 (Region.linearise.go .any ops42 fuel t (bools b) []) :: k)) cs) w := by
  intro fuel
  induction fuel with
  | zero =>
    intro t b w hl h9
    simp [left, h9] at hl
  | succ fuel ih =>
    intro t b w hl h9 c4 c8 hF
    have hne := ready_some b h9
    have hlen : 0 < (Region.ready .any ops42 (bools b)).length := List.length_pos_iff.2 hne
    have hlt : t % (Region.ready .any ops42 (bools b)).length < (Region.ready .any ops42 (bools b)).length := Nat.mod_lt _ hlen
    have e : Region.linearise.go .any ops42 (fuel + 1) t (bools b) [] = (Region.ready .any ops42 (bools b))[t % (Region.ready .any ops42 (bools b)).length] :: Region.linearise.go .any ops42 fuel (t / (Region.ready .any ops42 (bools b)).length) ((bools b).setIfInBounds (Region.ready .any ops42 (bools b))[t % (Region.ready .any ops42 (bools b)).length] true) [] := by
      conv => lhs; unfold Region.linearise.go
      show (match (Region.ready .any ops42 (bools b))[t % (Region.ready .any ops42 (bools b)).length]? with | some i => _ | none => _) = _
      rw [List.getElem?_eq_getElem hlt]
      simp only
      rw [linearise_go_acc]
      rfl
    rw [e]
    have hm := List.getElem_mem hlt
    generalize (Region.ready .any ops42 (bools b))[t % (Region.ready .any ops42 (bools b)).length] = i at hm
    generalize t / (Region.ready .any ops42 (bools b)).length = t'
    obtain ⟨hi, hbi, hd⟩ := (ready42 b i).1 hm
    rw [bools_set b hi]
    have hl' : left (upd b i true) ≤ fuel := by have := left_upd hi hbi; omega
    have hcase : i = 0 ∨ i = 1 ∨ i = 2 ∨ i = 3 ∨ i = 4 ∨ i = 5 ∨ i = 6 ∨ i = 7 ∨ i = 8 ∨ i = 9 := by omega
    rcases hcase with rfl | rfl | rfl | rfl | rfl | rfl | rfl | rfl | rfl | rfl
    · exact lit0 hr rfl hk hq hF fun w hF => ih t' _ w hl' (by simp [upd, h9]) (by simpa [upd] using c4) (by simpa [upd] using c8) hF
    · exact lit1 hr rfl hk hq hF fun w hF => ih t' _ w hl' (by simp [upd, h9]) (by simpa [upd] using fun x => (c4 x).2) (by simpa [upd] using c8) hF
    · exact lit2 hr rfl hk hq hF fun w hF => ih t' _ w hl' (by simp [upd, h9]) (by simpa [upd] using fun x => ⟨(c4 x).1, (c4 x).2.2⟩) (by simpa [upd] using c8) hF
    · exact lit3 hr rfl hk hq hF fun w hF => ih t' _ w hl' (by simp [upd, h9]) (by simpa [upd] using fun x => ⟨(c4 x).1, (c4 x).2.1⟩) (by simpa [upd] using c8) hF
    · have d := hd
      simp only [deps, List.mem_cons, List.not_mem_nil, or_false, forall_eq_or_imp, forall_eq] at d
      exact lit4 T hr rfl rfl rfl rfl h1 h2 hk hq d.1 d.2.1 d.2.2 hF fun w hF => ih t' _ w hl' (by simp [upd, h9]) (by simp [upd, d.1, d.2.1, d.2.2]) (by simpa [upd] using c8) hF
    · exact lit5 hr rfl hk hq hF fun w hF => ih t' _ w hl' (by simp [upd, h9]) (by simpa [upd] using c4) (by simpa [upd] using fun x => (c8 x).2) hF
    · exact lit6 hr rfl hk hq hF fun w hF => ih t' _ w hl' (by simp [upd, h9]) (by simpa [upd] using c4) (by simpa [upd] using fun x => ⟨(c8 x).1, (c8 x).2.2⟩) hF
    · exact lit7 hr rfl hk hq hF fun w hF => ih t' _ w hl' (by simp [upd, h9]) (by simpa [upd] using c4) (by simpa [upd] using fun x => ⟨(c8 x).1, (c8 x).2.1⟩) hF
    · have d := hd
      simp only [deps, List.mem_cons, List.not_mem_nil, or_false, forall_eq_or_imp, forall_eq] at d
      exact lit8 T hr rfl rfl rfl rfl h1 h3 hk hq d.1 d.2.1 d.2.2 hF fun w hF => ih t' _ w hl' (by simp [upd, h9]) (by simpa [upd] using c4) (by simp [upd, d.1, d.2.1, d.2.2]) hF
    · have d := hd
      simp only [deps, List.mem_cons, List.not_mem_nil, or_false, forall_eq_or_imp, forall_eq] at d
      obtain ⟨x1, x2, x3⟩ := c4 d.2.1
      obtain ⟨x5, x6, x7⟩ := c8 d.2.2
      have er : Region.ready .any ops42 (bools (upd b 9 true)) = [] := by
        apply List.eq_nil_iff_forall_not_mem.2
        intro i hi
        obtain ⟨g1, g2, _⟩ := (ready42 _ i).1 hi
        have hcase : i = 0 ∨ i = 1 ∨ i = 2 ∨ i = 3 ∨ i = 4 ∨ i = 5 ∨ i = 6 ∨ i = 7 ∨ i = 8 ∨ i = 9 := by omega
        rcases hcase with rfl | rfl | rfl | rfl | rfl | rfl | rfl | rfl | rfl | rfl <;> simp_all [upd]
      have eg : Region.linearise.go .any ops42 fuel t' (bools (upd b 9 true)) [] = [] := by
        cases fuel with
        | zero => rfl
        | succ f =>
          unfold Region.linearise.go
          show (match (Region.ready .any ops42 (bools (upd b 9 true)))[t' % (Region.ready .any ops42 (bools (upd b 9 true))).length]? with | some i => _ | none => _) = _
          rw [er]
          rfl
      rw [eg]
      have ea : cap42 A (vals42 S lb fb n cap n' fr to) b = cap42 A (vals42 S lb fb n cap n' fr to) but9 := by
        simp [cap42, act42, sel, but9, d.1, x1, x2, x3, d.2.1, x5, x6, x7, d.2.2, h9]
      rw [ea]
      exact h w hF
end
end Go.Proofs.Ytpioacgknamemaa
