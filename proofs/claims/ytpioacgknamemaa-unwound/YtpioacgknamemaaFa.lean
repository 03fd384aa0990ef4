/- FindAll: its phase's plan; what a worker of it knows; a worker's whole way. -/
import Derived.Test.YtpioacgknamemaaWorks
set_option linter.unusedSectionVars false
set_option linter.unusedSimpArgs false
namespace Go.Proofs.Ytpioacgknamemaa
open Go Go.RowKit Go.Conc Go.ConcN Go.ConcN.Gen Go.Conc.Lib Go.ConcR.Gen
open Go.ConcR (KK wgBlock WgAt stA smA rd wr mk ofEvent_cell Payload Aside2 DC0)

/-- A call of FindAll: z blocks are there at its entry; n keys, m workers, each with 'part' keys at most. -/
structure FA where
  Sh : Loc → Prop
  z : Nat
  n : Nat
  cap : Nat
  part : Nat
  J0 : Nat
  m : Nat
  lb : Addr
  S : Value
  key : Nat → Int
  pl : Nat → Int
  w0 : World
  u : World
  κ : Nat → Kd

namespace FA
variable (f : FA)
def fr (i : Nat) : Nat := i * f.part
def to (i : Nat) : Nat := min (i * f.part + f.part) f.n
noncomputable def plan : Plan where
  P := Try.prog
  ty := 82
  Wg := f.z + 4
  C := f.z + 2
  N := f.n
  ety := 3
  Sh := f.Sh
  B := f.z + 6 + 4 * f.m
  J0 := f.J0
  Lw := fun k => f.z + 9 + 4 * (k - f.J0)
  lo := fun k => f.fr (k - f.J0)
  hi := fun k => f.to (k - f.J0)
  val := fun o => .int .i64 (f.pl o)

structure Ok : Prop where
  pos : 1 ≤ f.J0
  few : f.J0 + f.m < 2147483648
  n1 : 1 ≤ f.n
  part1 : 1 ≤ f.part
  m1 : ∀ i, i < f.m → f.fr i < f.n
  ncap : f.n ≤ f.cap
  capmax : f.cap ≤ 9223372036854775807
  sh : ∀ l, f.Sh l → ∃ a, l = .cell a ∧ a.block < f.z ∧ f.κ a.block = .void
  usz : f.u.heap.size = f.z
  vw : ∀ w : World, (∀ r, r < f.z → w.heap[r]? = f.w0.heap[r]?) → f.z ≤ w.heap.size → View f.κ f.u w
  kz : ∀ r, r < f.z → f.κ r ≠ .same
  lbz : f.lb.block < f.z
  lbk : f.κ f.lb.block ≠ .void
  keys : ∀ i, i < f.n → f.w0.cell? (f.lb.add i) = some (.int .u64 (f.key i))
  find : ∀ i, i < f.n → ∀ τ d, Calls Try.prog 34 #[f.S, .int .u64 (f.key i)] (tp f.u τ d) fun e w' => ∃ v, e = .returned v ∧ v = .int .i64 (f.pl i) ∧ w'.heap = f.u.heap

/-- What worker i knows, j of its cells being filled. -/
structure WK (i j : Nat) (w : World) : Prop where
  old : ∀ r, r < f.z → w.heap[r]? = f.w0.heap[r]?
  s : w.cell? ⟨f.z, 0, none⟩ = some f.S
  l : w.cell? ⟨f.z + 1, 0, none⟩ = some (.slice (some f.lb) f.n f.cap)
  fd : w.cell? ⟨f.z + 3, 0, none⟩ = some (.slice (some ⟨f.z + 2, 0, none⟩) f.n f.n)
  fr : w.cell? ⟨f.z + 5 + 4 * i, 0, none⟩ = some (.int .i64 (f.fr i : Nat))
  to : w.cell? ⟨f.z + 6 + 4 * i, 0, none⟩ = some (.int .i64 (f.to i : Nat))
  gb : w.cell? ⟨f.z + 7 + 4 * i, 0, none⟩ = some (ptr (f.z + 4))
  gf : w.cell? ⟨f.z + 8 + 4 * i, 0, none⟩ = some (.func (.func 42) #[] #[ptr f.z, ptr (f.z + 1), ptr (f.z + 5 + 4 * i), ptr (f.z + 6 + 4 * i), ptr (f.z + 3)])
  live : WgLive 82 (f.z + 4) w
  pay : f.plan.Pay w
  fill : ∀ o, f.fr i ≤ o → o < f.fr i + j → w.cell? ⟨f.z + 2, o, none⟩ = some (.int .i64 (f.pl o))
end FA

section
variable {f : FA} {i j : Nat} {w w₁ : World}

theorem FA.Ok.fits (h : f.Ok) : f.plan.Fits (f.J0 + f.m) := by
  have hp := h.part1
  refine ⟨by simp [FA.plan], by simp [FA.plan]; omega, by simp [FA.plan]; omega, fun k h1 h2 => ?_, fun k h1 h2 => ?_, rfl, fun a ha hs => ?_, fun k k' o hk hk' h1 h2 h3 h4 => ?_, h.few, h.pos⟩
  · simp only [FA.plan] at h1 ⊢; omega
  · simp only [FA.plan] at h1 ⊢
    have := h.m1 (k - f.J0) (by omega)
    simp only [FA.fr, FA.to] at this ⊢
    omega
  · obtain ⟨a', e, hz, _⟩ := h.sh _ hs
    cases e
    simp only [FA.plan] at ha
    omega
  · simp only [FA.plan, FA.fr, FA.to] at hk hk' h1 h2 h3 h4
    have key : ∀ x y, x < y → x * f.part + f.part ≤ y * f.part := fun x y hxy => by
      have := Nat.mul_le_mul_right f.part (Nat.succ_le_of_lt hxy)
      rw [Nat.succ_mul] at this
      exact this
    rcases Nat.lt_trichotomy (k - f.J0) (k' - f.J0) with hlt | heq | hgt
    · have := key _ _ hlt; omega
    · omega
    · have := key _ _ hgt; omega

theorem cell_keep {w w₁ : World} {a : Addr} {v : Value} (h : w.cell? a = some v) (e : w₁.heap[a.block]? = w.heap[a.block]?) : w₁.cell? a = some v := (World.cell?_of_block e).trans h

theorem FA.WK.keep (h : f.WK i j w) (hb : ∀ b, b < f.z + 9 + 4 * i → b ≠ f.z + 4 → b ≠ f.z + 2 → w₁.heap[b]? = w.heap[b]?) (hl : WgLive 82 (f.z + 4) w₁) (hp : f.plan.Pay w₁) (hc : ∀ o, f.fr i ≤ o → o < f.fr i + j → w₁.cell? ⟨f.z + 2, o, none⟩ = w.cell? ⟨f.z + 2, o, none⟩) : f.WK i j w₁ :=
  ⟨fun r hr => (hb r (by omega) (by omega) (by omega)).trans (h.old r hr), cell_keep h.s (hb _ (by simp; omega) (by simp) (by simp)), cell_keep h.l (hb _ (by simp; omega) (by simp) (by simp)), cell_keep h.fd (hb _ (by simp; omega) (by simp) (by simp)),
    cell_keep h.fr (hb _ (by show f.z + 5 + 4 * i < _; omega) (by show f.z + 5 + 4 * i ≠ _; omega) (by show f.z + 5 + 4 * i ≠ _; omega)), cell_keep h.to (hb _ (by show f.z + 6 + 4 * i < _; omega) (by show f.z + 6 + 4 * i ≠ _; omega) (by show f.z + 6 + 4 * i ≠ _; omega)), cell_keep h.gb (hb _ (by show f.z + 7 + 4 * i < _; omega) (by show f.z + 7 + 4 * i ≠ _; omega) (by show f.z + 7 + 4 * i ≠ _; omega)), cell_keep h.gf (hb _ (by show f.z + 8 + 4 * i < _; omega) (by show f.z + 8 + 4 * i ≠ _; omega) (by show f.z + 8 + 4 * i ≠ _; omega)), hl, hp, fun o h1 h2 => (hc o h1 h2).trans (h.fill o h1 h2)⟩

theorem FA.WK.rely (h : f.WK i j w) (hj : f.fr i + j ≤ f.to i) (r : f.plan.RelW (f.J0 + i) w w₁) : f.WK i j w₁ := by
  have e : f.J0 + i - f.J0 = i := by omega
  refine h.keep (fun b h1 h2 h3 => r.low b (by simp only [FA.plan, e]; omega) h2 h3) (r.live h.live) (r.pay h.pay) (fun o h1 h2 => r.cell o ?_ ?_)
  · simp only [FA.plan, e]; exact h1
  · simp only [FA.plan, e]; omega

theorem FA.WK.view (hO : f.Ok) (h : f.WK i j w) : View f.κ f.u w := by
  refine hO.vw w h.old ?_
  have := h.s
  unfold World.cell? at this
  cases hx : w.heap[f.z]? with
  | none => simp [hx] at this
  | some o => have := (Array.getElem?_eq_some_iff.1 hx).1; omega

/-- A read of one of the blocks below. -/
theorem dwk_read (hO : f.Ok) {a : Addr} (hb : a.block < f.z + 9 + 4 * i) (h4 : a.block ≠ f.z + 4) (h2 : a.block ≠ f.z + 2) (hs : a.block < f.z → f.κ a.block ≠ .void) (w : World) : f.plan.DWk (f.J0 + i) w w #[⟨.cell a, false, false⟩] := by
  have e : f.J0 + i - f.J0 = i := by omega
  refine ⟨rfl, rfl, rfl, rfl, fun _ _ => rfl, id, fun _ _ => rfl, fun ev hev => ?_⟩
  rw [Array.mem_singleton] at hev
  subst hev
  refine ⟨fun x hx => .inr (.inr ?_), by simp, by simp, by simp⟩
  simp only [ofEvent_cell, MemAct.touch?, Option.some.injEq] at hx
  subst hx
  refine ⟨⟨by simp [FA.plan], a, rfl, by simp only [FA.plan, e]; exact hb, h2, h4, fun h => ?_⟩, rfl⟩
  obtain ⟨a', e', hz, hv⟩ := hO.sh _ h
  cases e'
  exact hs hz hv

theorem FA.terms (f : FA) (k : Nat) : Terms (f.plan.RelW k) (f.plan.DWk k) := ⟨relW_trans k, fun _ => ⟨rfl, rfl, rfl, rfl, fun _ _ => rfl, id, fun _ _ => rfl, by simp⟩⟩
theorem FA.draws (f : FA) (k : Nat) (w : World) : f.plan.DWk k w { w with drawn := w.drawn + 1 } #[] := ⟨rfl, rfl, rfl, rfl, fun _ _ => rfl, id, fun _ _ => rfl, by simp⟩

theorem add_add (b o fr i : Nat) : (Addr.add (Addr.add ⟨b, o, none⟩ fr) i) = ⟨b, o + fr + i, none⟩ := by
  unfold Addr.add
  split <;> split <;> simp_all

theorem add_assoc' (a : Addr) (m n : Nat) : Addr.add (Addr.add a m) n = Addr.add a (m + n) := by
  unfold Addr.add
  split <;> split <;> split <;> simp_all <;> omega

/-- A store into its own part. -/
theorem FA.WK.store (h : f.WK i j w) (hj : j < f.to i - f.fr i) : ∃ old, w.cell? ⟨f.z + 2, f.fr i + j, none⟩ = some old ∧ w.frozen? ⟨f.z + 2, f.fr i + j, none⟩ = false ∧
    f.plan.DWk (f.J0 + i) w (w.setCell ⟨f.z + 2, f.fr i + j, none⟩ (.int .i64 (f.pl (f.fr i + j)))) #[⟨.cell ⟨f.z + 2, f.fr i + j, none⟩, true, false⟩] ∧ f.WK i (j + 1) (w.setCell ⟨f.z + 2, f.fr i + j, none⟩ (.int .i64 (f.pl (f.fr i + j)))) := by
  have e : f.J0 + i - f.J0 = i := by omega
  have hA := aside_setCell w ⟨f.z + 2, f.fr i + j, none⟩ (.int .i64 (f.pl (f.fr i + j)))
  obtain ⟨cs, h1, h2⟩ := h.pay
  have h1' : w.heap[f.z + 2]? = some (.cells cs 3) := h1
  have h2' : cs.size = f.n := h2
  have hto : f.to i ≤ f.n := by simp only [FA.to]; omega
  have hb : (w.setCell ⟨f.z + 2, f.fr i + j, none⟩ (.int .i64 (f.pl (f.fr i + j)))).heap[f.z + 2]? = some (.cells (cs.setIfInBounds (f.fr i + j) (.int .i64 (f.pl (f.fr i + j)))) 3) := by
    rw [setCell_eq_setRow w (f.z + 2) (f.fr i + j) cs 3 (0, 0) _ h1', setRow_heap w (f.z + 2) _ _ 3 _ h1']
  have hp : f.plan.Pay (w.setCell ⟨f.z + 2, f.fr i + j, none⟩ (.int .i64 (f.pl (f.fr i + j)))) := ⟨_, hb, by rw [Array.size_setIfInBounds]; exact h2'⟩
  have hc : ∀ o, o ≠ f.fr i + j → (w.setCell ⟨f.z + 2, f.fr i + j, none⟩ (.int .i64 (f.pl (f.fr i + j)))).cell? ⟨f.z + 2, o, none⟩ = w.cell? ⟨f.z + 2, o, none⟩ := fun o ho => by
    simp only [World.cell?, hb, h1']
    simp [Array.getElem?_setIfInBounds_ne (Ne.symm ho)]
  have hlive : WgLive 82 (f.z + 4) (w.setCell ⟨f.z + 2, f.fr i + j, none⟩ (.int .i64 (f.pl (f.fr i + j)))) := let ⟨st, sm, x⟩ := h.live; ⟨st, sm, x.of_block (hA.block _ (by simp))⟩
  refine ⟨cs[f.fr i + j]'(by omega), by simp [World.cell?, h1'], by simp [World.frozen?, h1'], ⟨hA.tape, hA.os, hA.output, hA.size, fun b hb' => hA.block b hb', fun _ => hp, fun o ho => hc o (fun e' => ho ?_), fun ev hev => ?_⟩, ?_⟩
  · simp only [FA.plan, e, e']; omega
  · rw [Array.mem_singleton] at hev
    subst hev
    refine ⟨fun x hx => .inr (.inl ?_), by simp, by simp, by simp⟩
    simp only [ofEvent_cell, MemAct.touch?, Option.some.injEq] at hx
    subst hx
    exact ⟨by simp [FA.plan], f.fr i + j, by simp only [FA.plan, e]; omega, by simp only [FA.plan, e]; omega, rfl⟩
  · have hk := h.keep (w₁ := w.setCell ⟨f.z + 2, f.fr i + j, none⟩ (.int .i64 (f.pl (f.fr i + j)))) (fun b _ _ h3 => hA.block b h3) hlive hp (fun o o1 o2 => hc o (by omega))
    refine { hk with fill := fun o o1 o2 => ?_ }
    by_cases eo : o = f.fr i + j
    · subst eo
      have hlt : f.fr i + j < cs.size := by omega
      simp only [World.cell?, hb]
      simp [hlt]
    · exact hk.fill o o1 (by omega)

set_option maxRecDepth 100000 in
/-- A worker's whole way. -/
theorem FA.works (hO : f.Ok) {S X : FuncId → Bool} (hT : Tame Try.prog S X) (h34 : S 34 = true) (hi : i < f.m) (h : f.WK i 0 w) : f.plan.Works (f.J0 + i) (born Try.prog (call60 (f.z + 7 + 4 * i) (f.z + 8 + 4 * i))) w := by
  have e : f.J0 + i - f.J0 = i := by omega
  have hlt := hO.m1 i hi
  have hp := hO.part1
  have h1 : f.fr i < f.to i := by simp only [FA.fr, FA.to] at hlt ⊢; omega
  have hto : f.to i ≤ f.n := by simp only [FA.to]; omega
  have hnc := hO.ncap
  have hcm := hO.capmax
  have hw := work_way (R := f.plan.RelW (f.J0 + i)) (D := f.plan.DWk (f.J0 + i)) (S := f.S) (lb := f.lb) (fb := ⟨f.z + 2, 0, none⟩) (n := f.n) (cap := f.cap) (n' := f.n) (fr := f.fr i) (to := f.to i) (gb := f.z + 7 + 4 * i) (gf := f.z + 8 + 4 * i) (Wg := f.z + 4)
    (A := fun x => if x = 0 then ⟨f.z, 0, none⟩ else if x = 1 then ⟨f.z + 1, 0, none⟩ else if x = 2 then ⟨f.z + 5 + 4 * i, 0, none⟩ else if x = 3 then ⟨f.z + 6 + 4 * i, 0, none⟩ else ⟨f.z + 3, 0, none⟩)
    (key := fun x => f.key (f.fr i + x)) (pl := fun x => f.pl (f.fr i + x)) (F := fun j w => f.WK i j w ∧ j ≤ f.to i - f.fr i) (f.terms _) (Plan.RelW.refl _) (f.draws _) h1 (by omega) hto (by omega)
    (fun j w w₁ hF r => ⟨hF.1.rely (by omega) r, hF.2⟩) (fun w hF => ⟨hF.1.keep (fun _ _ _ _ => rfl) hF.1.live hF.1.pay (fun _ _ _ => rfl), hF.2⟩)
    ⟨fun w w₁ hF r => ⟨hF.1.rely (by omega) r, hF.2⟩, fun w hF => hF.1.s, fun w hF => hF.1.l, fun w hF => hF.1.fr, fun w hF => hF.1.to, fun w hF => hF.1.fd, fun w x hF hx => ?_⟩
    (fun j w hF => hF.1.gb) (fun w hF => hF.1.gf) (fun j w x hF hx => ?_) (fun x j w c cs hx hF => ?_) (fun w x hF hx => ?_) ⟨h, by omega⟩
  · refine hw.trans (Plan.RelW.refl _) fun g w' ⟨hA, hF, _⟩ => add_way (p := f.plan) rfl rfl hO.fits (by simp [FA.plan]) (by simp [FA.plan]; omega) hA hF.live fun o h1 h2 => ?_
    simp only [FA.plan, e] at h1 h2 ⊢
    exact hF.fill o h1 (by omega)
  · have hx' : x = 0 ∨ x = 1 ∨ x = 2 ∨ x = 3 ∨ x = 4 := by omega
    rcases hx' with rfl | rfl | rfl | rfl | rfl <;> simp only [if_true, if_false, Nat.reduceEqDiff] <;> exact dwk_read hO (by simp; try omega) (by simp; try omega) (by simp; try omega) (by simp; try omega) w
  · rw [add_assoc']
    refine ⟨(World.cell?_of_block (hF.1.old _ (by rw [add_block]; exact hO.lbz))).trans (hO.keys (f.fr i + x) (by omega)), dwk_read hO (by rw [add_block]; have := hO.lbz; omega) (by rw [add_block]; have := hO.lbz; omega) (by rw [add_block]; have := hO.lbz; omega) (fun _ => by rw [add_block]; exact hO.lbk) w⟩
  · have hv := hF.1.view hO
    have hc := way_call (main := false) (R := f.plan.RelW (f.J0 + i)) (D := fun w w' es => f.plan.DWk (f.J0 + i) w w' es ∧ w'.heap = w.heap) (κ := f.κ) (c := c) (cs := cs) ⟨(f.terms _).trans, fun w => ⟨(f.terms _).idle w, rfl⟩⟩ (Plan.RelW.refl _) hT h34
      (fun fn hfn => by rw [Try.func34] at hfn; cases hfn; simp [slotRes, Try.f34]) hv.self (hO.find (f.fr i + x) (by omega)) (fun v w w₁ hz hV r => ?_) (fun v w₁ u' w' es hz hz' hV hM hev => ?_) hv
    · obtain ⟨F, hG⟩ := hc
      have := GoesF.keep (I := fun w => f.WK i j w ∧ j ≤ f.to i - f.fr i) (R' := f.plan.RelW (f.J0 + i)) (D' := f.plan.DWk (f.J0 + i)) (fun _ _ h => h) (fun w w₁ hI r => ⟨hI.1.rely (by omega) r, hI.2⟩)
        (fun w w' es hI h => ⟨h.1, hI.1.keep (fun b _ _ _ => by rw [h.2]) (let ⟨st, sm, x⟩ := hI.1.live; ⟨st, sm, x.of_block (by rw [h.2])⟩) (h.1.pay hI.1.pay) (fun o _ _ => by simp only [World.cell?, h.2]), hI.2⟩) hG hF
      exact Way.mono (fun _ _ _ h => h) (fun g w ⟨⟨h1, _⟩, h2⟩ => ⟨h1, h2⟩) ⟨F, this⟩
    · have hb : ∀ r, r < f.z → w₁.heap[r]? = w.heap[r]? := fun r hr => by
        refine Plan.RelW.low ‹_› r (by simp only [FA.plan]; omega) (by simp only [FA.plan]; omega) (by simp only [FA.plan]; omega)
      have hsz : v.heap.size = f.z := hz.trans hO.usz
      refine ⟨?_, hV.new, fun r h1 h2 => absurd h2 (hO.kz r (by omega)), fun r h1 h2 => absurd h2 (hO.kz r (by omega)), hV.void, fun r h1 => ?_⟩
      · rw [hsz]
        rcases Nat.eq_zero_or_pos f.z with h0 | h0
        · omega
        · have h1 : f.z - 1 < w.heap.size := by have := hV.size; omega
          have h2 := hb (f.z - 1) (by omega)
          rw [Array.getElem?_eq_getElem h1] at h2
          have := (Array.getElem?_eq_some_iff.1 h2).1
          omega
      · obtain ⟨c, T, fz, e1, e2⟩ := hV.froz r h1
        have hr : r < v.heap.size := (Array.getElem?_eq_some_iff.1 e1).1
        exact ⟨c, T, fz, e1, (hb r (by omega)).trans e2⟩
    · have hsz : v.heap.size = f.z := hz.trans hO.usz
      have hsz' : u'.heap.size = f.z := hz'.trans hO.usz
      have hws : w'.heap.size = w₁.heap.size := by have := hM.size; omega
      have hbl : ∀ b : Nat, w'.heap[b]? = w₁.heap[b]? := fun b => by
        rcases Nat.lt_or_ge b w₁.heap.size with hlt | hge
        · refine hM.keep b hlt ?_
          rcases Nat.lt_or_ge b f.z with h1 | h1
          · exact .inl (hO.kz b h1)
          · exact .inr (by omega)
        · rw [Array.getElem?_eq_none hge, Array.getElem?_eq_none (by omega)]
      have hheap : w'.heap = w₁.heap := Array.ext_getElem? hbl
      refine ⟨⟨hM.tape, hM.os, hM.output, hws, fun b _ => hbl b, fun ⟨cs, h1, h2⟩ => ⟨cs, (hbl _).trans h1, h2⟩, fun o _ => by simp only [World.cell?, hbl], fun e he => ?_⟩, hheap⟩
      have hE := hev e he
      rw [hO.usz] at hE
      obtain ⟨loc, wr, sy⟩ := e
      cases loc with
      | cell a =>
        obtain ⟨g1, g2, g3⟩ := hE
        refine ⟨fun x hx => .inr (.inr ?_), by simp, by simp, by simp⟩
        simp only [ofEvent_cell0, MemAct.touch?, Option.some.injEq] at hx
        subst hx
        refine ⟨⟨by simp [FA.plan], a, rfl, by simp only [FA.plan]; omega, by simp only [FA.plan]; omega, by simp only [FA.plan]; omega, fun h => ?_⟩, ?_⟩
        · obtain ⟨a', e', _, hv'⟩ := hO.sh _ h
          cases e'
          exact g2 hv'
        · cases hwr : wr with
          | false => rfl
          | true => exact absurd (g3 hwr) (hO.kz _ g1)
      | obj r =>
        obtain ⟨g1, g2, _⟩ := hE
        exact absurd g2 (hO.kz _ g1)
      | mark m =>
        cases m with
        | extern q => exact ⟨fun x hx => by simp [MemAct.ofEvent, MemAct.touch?] at hx, by simp, by simp, by simp⟩
        | noRoom => exact ⟨fun x hx => by simp [MemAct.ofEvent, MemAct.touch?] at hx, by simp, by simp, by simp⟩
        | _ => exact hE.elim
      | _ => exact hE.elim
  · obtain ⟨old, g1, g2, g3, g4⟩ := hF.1.store hx
    rw [add_add, Nat.zero_add]
    exact ⟨old, g1, g2, g3, g4, by omega⟩
end
end Go.Proofs.Ytpioacgknamemaa
