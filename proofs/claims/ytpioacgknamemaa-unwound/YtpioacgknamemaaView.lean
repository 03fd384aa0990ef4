/- A small world (u) seen within a great one (w): what runs well in the small one, where some blocks are void and some may not be written, runs alike in the great one, and touches nothing that is void. Of no program. -/
import Derived.Conc.Events
import Derived.WalkKit
import Derived.WalkSpells
import Derived.WalkLawsBesides
namespace Go.Proofs.Ytpioacgknamemaa
open Go Go.RowKit

inductive Kd where
  | same | void | froz
  deriving DecidableEq

structure View (κ : Nat → Kd) (u w : World) : Prop where
  size : u.heap.size ≤ w.heap.size
  new : ∀ r, u.heap.size ≤ r → κ r = .same
  same : ∀ r, r < u.heap.size → κ r = .same → w.heap[r]? = u.heap[r]?
  kind : ∀ r, r < u.heap.size → κ r = .same → (∃ c T fz, u.heap[r]? = some (.cells c T fz)) ∨ (∃ a l, u.heap[r]? = some (.number a l))
  void : ∀ r, κ r = .void → u.heap[r]? = some (.view ⟨r, 0, none⟩ 0)
  froz : ∀ r, κ r = .froz → ∃ c T fz, u.heap[r]? = some (.cells c T (0, c.size)) ∧ w.heap[r]? = some (.cells c T fz)

/-- What an entry of the trace may be. -/
def EvOk (κ : Nat → Kd) (n : Nat) (e : Event) : Prop :=
  match e.loc with
  | .cell a => a.block < n ∧ κ a.block ≠ .void ∧ (e.write = true → κ a.block = .same)
  | .obj r => r < n ∧ κ r = .same ∧ e.write = false ∧ e.sync = false
  | .mark (.extern _) => True
  | .mark .noRoom => True
  | _ => False

def Mild : Halt → Prop
  | .panic _ => True
  | .stuck _ => True
  | .unsupported (.initOrder _) => False
  | .unsupported _ => True
  | _ => False

structure Went (P : Program) {α : Type} (κ : Nat → Kd) (s : Sem α) (u w : World) (a : α) (u' : World) : Prop where
  hs : u.heap.size ≤ u'.heap.size
  hd : u.drawn ≤ u'.drawn
  tape : u'.tape = u.tape
  os : u'.os = u.os
  output : u'.output = u.output
  self : View κ u' u'
  vw : (u'.heap.size = u.heap.size ∨ u.heap.size = w.heap.size) → (∀ i, i < u'.drawn - u.drawn → w.tape (w.drawn + i) = u.tape (u.drawn + i)) →
    ∃ w', s.run P w = .ok a w' ∧ View κ u' w' ∧ w'.heap.size = w.heap.size + (u'.heap.size - u.heap.size) ∧ w'.tape = w.tape ∧ w'.drawn = w.drawn + (u'.drawn - u.drawn) ∧
      w'.os = w.os ∧ w'.output = w.output ∧ (∀ r, r < w.heap.size → (κ r ≠ .same ∨ u.heap.size ≤ r) → w'.heap[r]? = w.heap[r]?) ∧
      ∀ es, ∃ ne, s.events P u es = es ++ ne ∧ s.events P w es = es ++ ne ∧ ∀ e ∈ ne, EvOk κ u'.heap.size e

structure Lcl (P : Program) {α : Type} (s : Sem α) : Prop where
  out : ∀ (κ : Nat → Kd) (u w : World), View κ u w →
    (∀ a u', s.run P u = .ok a u' → Went P κ s u w a u') ∧ (∀ h u', s.run P u = .halt h u' → Mild h)

section
variable {P : Program} {α β : Type}

theorem EvOk.mono {κ : Nat → Kd} {n m : Nat} {e : Event} (h : EvOk κ n e) (hn : n ≤ m) : EvOk κ m e := by
  unfold EvOk at *
  split at h <;> simp_all <;> omega

theorem View.self {κ : Nat → Kd} {u w : World} (h : View κ u w) : View κ u u :=
  ⟨Nat.le_refl _, h.new, fun _ _ _ => rfl, h.kind, h.void, fun r hr => by obtain ⟨c, T, fz, h1, _⟩ := h.froz r hr; exact ⟨c, T, _, h1, h1⟩⟩

theorem Lcl.pure (a : α) : Lcl P (Sem.pure a) := by
  refine ⟨fun κ u w hV => ?_⟩
  refine ⟨fun b u' h => ?_, fun h u' hh => by simp [Sem.run] at hh⟩
  simp only [Sem.run, Result.ok.injEq] at h
  obtain ⟨rfl, rfl⟩ := h
  exact ⟨Nat.le_refl _, Nat.le_refl _, rfl, rfl, rfl, hV.self, fun _ _ => ⟨w, rfl, hV, by omega, rfl, by omega, rfl, rfl, fun _ _ _ => rfl, fun es => ⟨#[], by simp [Sem.events, Sem.runT, -Sem.runT_eq], by simp [Sem.events, Sem.runT, -Sem.runT_eq], by simp⟩⟩⟩

theorem Lcl.halt {h : Halt} (hm : Mild h) : Lcl P (Sem.halt h : Sem α) := by
  refine ⟨fun κ u w hV => ?_⟩
  refine ⟨fun b u' h => by simp [Sem.run] at h, fun h' u' hh => ?_⟩
  simp only [Sem.run, Result.halt.injEq] at hh
  exact hh.1 ▸ hm

theorem Lcl.bind {s : Sem α} {f : α → Sem β} (h : Lcl P s) (hf : ∀ a, Lcl P (f a)) : Lcl P (s >>= f) := by
  refine ⟨fun κ u w hV => ?_⟩
  obtain ⟨h1, h2⟩ := h.out κ u w hV
  cases hr : s.run P u with
  | halt x u₁ =>
    refine ⟨fun b u' hb => ?_, fun h u' hb => ?_⟩
    · simp [hr] at hb
    · simp [hr] at hb
      exact hb.1 ▸ h2 x u₁ hr
  | ok a u₁ =>
    have W := h1 a u₁ hr
    have e : (s >>= f).run P u = (f a).run P u₁ := by simp [hr]
    refine ⟨fun b u' hb => ?_, fun h u' hb => ?_⟩
    · rw [e] at hb
      have W₂ := ((hf a).out κ u₁ u₁ W.self).1 b u' hb
      refine ⟨Nat.le_trans W.hs W₂.hs, Nat.le_trans W.hd W₂.hd, W₂.tape.trans W.tape, W₂.os.trans W.os, W₂.output.trans W.output, W₂.self, fun hsz htp => ?_⟩
      have hd1 := W.hd
      have hd2 := W₂.hd
      have hs1 := W.hs
      have hs2 := W₂.hs
      obtain ⟨w₁, r₁, v₁, z₁, t₁, d₁, o₁, p₁, k₁, ev₁⟩ := W.vw (hsz.imp (fun h => by omega) id) (fun i hi => htp i (by omega))
      have W₃ := ((hf a).out κ u₁ w₁ v₁).1 b u' hb
      obtain ⟨w₂, r₂, v₂, z₂, t₂, d₂, o₂, p₂, k₂, ev₂⟩ := W₃.vw (hsz.imp (fun h => by omega) (fun h => by omega)) (fun i hi => by
        have := htp (u₁.drawn - u.drawn + i) (by omega)
        rw [t₁, d₁, W.tape]
        rw [show w.drawn + (u₁.drawn - u.drawn) + i = w.drawn + (u₁.drawn - u.drawn + i) from by omega, this]
        congr 1
        omega)
      refine ⟨w₂, by simp [r₁, r₂], v₂, by omega, t₂.trans t₁, by omega, o₂.trans o₁, p₂.trans p₁, fun r hr hk => ?_, fun es => ?_⟩
      · refine (k₂ r (by omega) ?_).trans (k₁ r hr hk)
        rcases hk with hk | hk
        · exact .inl hk
        · rcases hsz with h | h
          · right; omega
          · omega
      · obtain ⟨ne₁, e1, e2, e3⟩ := ev₁ es
        obtain ⟨ne₂, g1, g2, g3⟩ := ev₂ (es ++ ne₁)
        refine ⟨ne₁ ++ ne₂, ?_, ?_, fun x hx => ?_⟩
        · rw [Sem.events_bind, hr]
          simp only [Result.evThen_ok, e1, g1, Array.append_assoc]
        · rw [Sem.events_bind, r₁]
          simp only [Result.evThen_ok, e2, g2, Array.append_assoc]
        · rcases Array.mem_append.1 hx with hx | hx
          · exact (e3 x hx).mono hs2
          · exact g3 x hx
    · rw [e] at hb
      exact ((hf a).out κ u₁ u₁ W.self).2 h u' hb

/-- Whatever never comes to an end that is well. -/
theorem Lcl.dies {s : Sem α} (h : ∀ u a u', s.run P u ≠ .ok a u') (hm : ∀ u x u', s.run P u = .halt x u' → Mild x) : Lcl P s :=
  ⟨fun _ u _ _ => ⟨fun a u' e => absurd e (h u a u'), fun x u' e => hm u x u' e⟩⟩

theorem cell_of_heap {u w : World} {a : Addr} (h : w.heap[a.block]? = u.heap[a.block]?) : w.cell? a = u.cell? a := by simp [World.cell?, h]

theorem View.cell {κ : Nat → Kd} {u w : World} (h : View κ u w) {a : Addr} {v : Value} (hc : u.cell? a = some v) : w.cell? a = some v ∧ a.block < u.heap.size ∧ κ a.block ≠ .void := by
  have hlt : a.block < u.heap.size := by
    rcases Nat.lt_or_ge a.block u.heap.size with h | h
    · exact h
    · simp [World.cell?, h] at hc
  refine ⟨?_, hlt, fun hk => ?_⟩
  · cases hk : κ a.block with
    | same => rw [cell_of_heap (h.same _ hlt hk)]; exact hc
    | void => simp [World.cell?, h.void _ hk] at hc
    | froz =>
      obtain ⟨c, T, fz, e1, e2⟩ := h.froz _ hk
      simp only [World.cell?, e1] at hc
      simp only [World.cell?, e2]
      exact hc
  · simp [World.cell?, h.void _ hk] at hc

theorem seen_self {u : World} {r : Nat} (h : u.heap[r]? = some (.view ⟨r, 0, none⟩ 0)) (T : TypeId) (k : Addr) (b : Bool) : ∃ s, u.seen P ⟨r, 0, none⟩ T k b = .error s := by
  unfold World.seen
  simp only [bind, Except.bind, Option.isSome_none, Bool.or_false, h]
  repeat' split
  all_goals first | exact ⟨_, rfl⟩ | simp_all

theorem View.look {κ : Nat → Kd} {u w : World} (h : View κ u w) (r : Nat) : u.heap[r]? = none ∨ (∃ c T fz, u.heap[r]? = some (.cells c T fz)) ∨ (∃ a l, u.heap[r]? = some (.number a l)) ∨ u.heap[r]? = some (.view ⟨r, 0, none⟩ 0) := by
  rcases Nat.lt_or_ge r u.heap.size with hl | hl
  · cases hk : κ r with
    | same => exact (h.kind r hl hk).elim (fun x => .inr (.inl x)) (fun x => .inr (.inr (.inl x)))
    | void => exact .inr (.inr (.inr (h.void r hk)))
    | froz => obtain ⟨c, T, fz, e, _⟩ := h.froz r hk; exact .inr (.inl ⟨c, T, _, e⟩)
  · left; simp [hl]

theorem View.farLoad {κ : Nat → Kd} {u w : World} (h : View κ u w) (a : Addr) (b : Bool) : ∃ x, u.farLoad P a b = .error x ∧ Mild x := by
  unfold World.farLoad World.noCell
  rcases h.look a.block with e | ⟨c, T, fz, e⟩ | ⟨x, l, e⟩ | e <;> simp only [e]
  · exact ⟨_, rfl, trivial⟩
  · exact ⟨_, rfl, trivial⟩
  · exact ⟨_, rfl, trivial⟩
  · obtain ⟨s, hs⟩ := seen_self (P := P) e 0 a b
    simp only [World.viewLoad, hs]
    exact ⟨_, rfl, trivial⟩

theorem View.farStore {κ : Nat → Kd} {u w : World} (h : View κ u w) (a : Addr) (v : Value) (b : Bool) : ∃ x, u.farStore P a v b = .error x ∧ Mild x := by
  unfold World.farStore World.noCell
  rcases h.look a.block with e | ⟨c, T, fz, e⟩ | ⟨x, l, e⟩ | e <;> simp only [e]
  · exact ⟨_, rfl, trivial⟩
  · exact ⟨_, rfl, trivial⟩
  · exact ⟨_, rfl, trivial⟩
  · obtain ⟨s, hs⟩ := seen_self (P := P) e 0 a b
    have hx : ∃ s, u.viewStore P ⟨a.block, 0, none⟩ 0 a v b = .error s := by
      simp only [World.viewStore, hs, bind, Except.bind]
      repeat' split
      all_goals first | exact ⟨_, rfl⟩ | simp_all
    obtain ⟨y, hy⟩ := hx
    simp only [hy]
    exact ⟨_, rfl, trivial⟩

theorem Lcl.load (m : Mode) (a : Addr) {k : Value → Sem α} (hk : ∀ v, Lcl P (k v)) : Lcl P (Sem.load m a k) := by
  have h1 : Lcl P (Sem.load m a Sem.pure) := by
    refine ⟨fun κ u w hV => ?_⟩
    cases hc : u.cell? a with
    | none =>
      obtain ⟨s, hs, hm⟩ := hV.farLoad (P := P) a (m == .atomic)
      refine ⟨fun b u' h => ?_, fun h u' hh => ?_⟩
      · simp [Sem.run, hc, hs] at h
      · simp [Sem.run, hc, hs] at hh
        exact hh.1 ▸ hm
    | some v =>
      obtain ⟨hw, hlt, hnv⟩ := hV.cell hc
      refine ⟨fun b u' h => ?_, fun h u' hh => by simp [Sem.run, hc] at hh⟩
      simp [Sem.run, hc] at h
      obtain ⟨rfl, rfl⟩ := h
      refine ⟨Nat.le_refl _, Nat.le_refl _, rfl, rfl, rfl, hV.self, fun _ _ => ⟨w, by simp [Sem.run, hw], hV, by omega, rfl, by omega, rfl, rfl, fun _ _ _ => rfl, fun es => ⟨#[⟨.cell a, false, m == .atomic⟩], by simp [Sem.events, Sem.runT, hc, -Sem.runT_eq], by simp [Sem.events, Sem.runT, hw, -Sem.runT_eq], ?_⟩⟩⟩
      intro e he
      simp at he
      subst he
      exact ⟨hlt, hnv, by simp⟩
  have := h1.bind hk
  exact this

theorem frozen_of_heap {u w : World} {a : Addr} (h : w.heap[a.block]? = u.heap[a.block]?) : w.frozen? a = u.frozen? a := by simp [World.frozen?, h]

theorem View.set {κ : Nat → Kd} {u w : World} (h : View κ u w) {a : Addr} (v : Value) (hk : κ a.block = .same) : View κ (u.setCell a v) (w.setCell a v) := by
  have z : ∀ (x : World), (x.setCell a v).heap.size = x.heap.size := fun x => by simp [World.setCell]
  have o : ∀ (x : World) r, r ≠ a.block → (x.setCell a v).heap[r]? = x.heap[r]? := fun x r hr => Below.heap_setCell _ _ _ _ hr
  have g : ∀ (x : World), (x.setCell a v).heap[a.block]? = (x.heap[a.block]?).map fun
      | .cells c elem frozen => .cells (if a.spot.isSome then c else c.setIfInBounds a.off v) elem frozen
      | o => o := fun x => by
    simp only [World.setCell, Array.getElem?_modify, if_true]
    congr 1
  refine ⟨by rw [z, z]; exact h.size, fun r hr => h.new r (by rwa [z] at hr), fun r hr hs => ?_, fun r hr hs => ?_, fun r hr => ?_, fun r hr => ?_⟩
  · rw [z] at hr
    by_cases e : r = a.block
    · subst e; rw [g, g, h.same _ hr hs]
    · rw [o _ _ e, o _ _ e]; exact h.same r hr hs
  · rw [z] at hr
    by_cases e : r = a.block
    · subst e
      rcases h.kind _ hr hs with ⟨c, T, fz, e⟩ | ⟨x, l, e⟩
      · rw [g, e]; exact .inl ⟨_, _, _, rfl⟩
      · rw [g, e]; exact .inr ⟨_, _, rfl⟩
    · rw [o _ _ e]; exact h.kind r hr hs
  · have e : r ≠ a.block := fun e => by rw [e, hk] at hr; cases hr
    rw [o _ _ e]; exact h.void r hr
  · have e : r ≠ a.block := fun e => by rw [e, hk] at hr; cases hr
    rw [o _ _ e, o _ _ e]; exact h.froz r hr

theorem Lcl.store (m : Mode) (a : Addr) (v : Value) {k : Sem α} (hk : Lcl P k) : Lcl P (Sem.store m a v k) := by
  have h1 : Lcl P (Sem.store m a v (Sem.pure ())) := by
    refine ⟨fun κ u w hV => ?_⟩
    have bad : (∃ s, Sem.run P (Sem.store m a v (Sem.pure ())) u = .halt s u ∧ Mild s) → (∀ b u', Sem.run P (Sem.store m a v (Sem.pure ())) u = .ok b u' → Went P κ (Sem.store m a v (Sem.pure ())) u w b u') ∧ (∀ h u', Sem.run P (Sem.store m a v (Sem.pure ())) u = .halt h u' → Mild h) := by
      rintro ⟨s, hs, hm⟩
      refine ⟨fun b u' h => (by rw [hs] at h; cases h), fun h u' hh => ?_⟩
      rw [hs] at hh
      simp at hh
      exact hh.1 ▸ hm
    by_cases hag : (∃ c, v = .agg c) ∨ (∃ c, v = .tuple c)
    · rcases hag with ⟨c, hc⟩ | ⟨c, hc⟩
      · subst hc; exact bad ⟨_, rfl, trivial⟩
      · subst hc; exact bad ⟨_, rfl, trivial⟩
    have run : ∀ x : World, Sem.run P (Sem.store m a v (Sem.pure ())) x = match x.cell? a with
        | some _ => if x.frozen? a then .halt (.unsupported (.unsafePointer "a write to bytes that a string shares")) x else .ok () (x.setCell a v)
        | none => match x.farStore P a v (m == .atomic) with
          | .ok (x, _) => .ok () x
          | .error h => .halt h x := by
      intro x
      cases v <;> first | rfl | exact absurd (.inl ⟨_, rfl⟩) hag | exact absurd (.inr ⟨_, rfl⟩) hag
    have evs : ∀ (x : World) (es : Array Event), x.cell? a ≠ none → x.frozen? a = false → Sem.events P (Sem.store m a v (Sem.pure ())) x es = es.push ⟨.cell a, true, m == .atomic⟩ := by
      intro x es h1 h2
      cases hx : x.cell? a with
      | none => exact absurd hx h1
      | some y => cases v <;> first | exact absurd (.inl ⟨_, rfl⟩) hag | exact absurd (.inr ⟨_, rfl⟩) hag | simp [Sem.events, Sem.runT, hx, h2, -Sem.runT_eq]
    cases hc : u.cell? a with
    | none =>
      obtain ⟨s, hs, hm⟩ := hV.farStore (P := P) a v (m == .atomic)
      exact bad ⟨s, by rw [run, hc]; simp [hs], hm⟩
    | some y =>
      obtain ⟨hw, hlt, hnv⟩ := hV.cell hc
      cases hf : u.frozen? a with
      | true =>
        refine ⟨fun b u' h => ?_, fun h u' hh => ?_⟩
        · rw [run, hc] at h; simp [hf] at h
        · rw [run, hc] at hh; simp [hf] at hh
          exact hh.1 ▸ trivial
      | false =>
        have hk : κ a.block = .same := by
          cases hk : κ a.block with
          | same => rfl
          | void => exact absurd hk hnv
          | froz =>
            obtain ⟨c, T, fz, e1, _⟩ := hV.froz _ hk
            have : a.off < c.size := by
              simp only [World.cell?, e1] at hc
              split at hc
              · cases hc
              · exact (Array.getElem?_eq_some_iff.1 hc).1
            simp [World.frozen?, e1, this] at hf
        have hfw : w.frozen? a = false := by rw [frozen_of_heap (hV.same _ hlt hk)]; exact hf
        refine ⟨fun b u' h => ?_, fun h u' hh => by rw [run, hc] at hh; simp [hf] at hh⟩
        rw [run, hc] at h
        simp [hf] at h
        subst h
        have hS := hV.set v hk
        refine ⟨by simp [World.setCell], Nat.le_refl _, rfl, rfl, rfl, hS.self, fun _ _ => ⟨w.setCell a v, by rw [run, hw]; simp [hfw], hS, by simp [World.setCell], rfl, by simp [World.setCell], rfl, rfl, fun r hr hk' => ?_, fun es => ⟨#[⟨.cell a, true, m == .atomic⟩], by rw [evs u es (by simp [hc]) hf]; simp, by rw [evs w es (by simp [hw]) hfw]; simp, ?_⟩⟩⟩
        · refine Below.heap_setCell _ _ _ _ (fun e => ?_)
          subst e
          rcases hk' with h | h
          · exact h hk
          · omega
        · intro e he
          simp at he
          subst he
          exact ⟨by simpa [World.setCell] using hlt, hnv, fun _ => hk⟩
  exact h1.bind (fun _ => hk)

theorem Lcl.newObj (o : Obj) (ho : (∃ c T fz, o = .cells c T fz) ∨ (∃ a l, o = .number a l)) {k : Nat → Sem α} (hk : ∀ r, Lcl P (k r)) : Lcl P (Sem.new o k) := by
  have h1 : Lcl P (Sem.new o Sem.pure) := by
    refine ⟨fun κ u w hV => ?_⟩
    refine ⟨fun b u' h => ?_, fun h u' hh => by simp [Sem.run] at hh⟩
    simp [Sem.run] at h
    obtain ⟨rfl, rfl⟩ := h
    have hnew : ∀ (x : World), u.heap.size = x.heap.size → View κ u x → View κ { u with heap := u.heap.push o } { x with heap := x.heap.push o } := by
      intro x hx hV
      have old : ∀ (y : World) r, r < y.heap.size → (y.heap.push o)[r]? = y.heap[r]? := fun y r hr => by rw [Array.getElem?_push]; simp [show r ≠ y.heap.size from by omega]
      have low : ∀ r, κ r ≠ .same → r < u.heap.size := fun r hr => by
        rcases Nat.lt_or_ge r u.heap.size with h | h
        · exact h
        · exact absurd (hV.new r h) hr
      refine ⟨by simp; omega, fun r hr => hV.new r (by simp at hr; omega), fun r hr hs => ?_, fun r hr hs => ?_, fun r hr => ?_, fun r hr => ?_⟩
      · simp at hr
        show (x.heap.push o)[r]? = (u.heap.push o)[r]?
        by_cases e : r = u.heap.size
        · subst e; rw [Array.getElem?_push, Array.getElem?_push]; simp [hx]
        · rw [old u r (by omega), old x r (by omega)]; exact hV.same r (by omega) hs
      · simp at hr
        show (∃ c T fz, (u.heap.push o)[r]? = _) ∨ ∃ a l, (u.heap.push o)[r]? = _
        by_cases e : r = u.heap.size
        · subst e
          rcases ho with ⟨c, T, fz, e⟩ | ⟨a, l, e⟩
          · exact .inl ⟨c, T, fz, by simp [e]⟩
          · exact .inr ⟨a, l, by simp [e]⟩
        · rw [old u r (by omega)]; exact hV.kind r (by omega) hs
      · show (u.heap.push o)[r]? = _
        rw [old u r (low r (by rw [hr]; simp))]; exact hV.void r hr
      · have hlt := low r (by rw [hr]; simp)
        show ∃ c' T' fz', (u.heap.push o)[r]? = _ ∧ (x.heap.push o)[r]? = _
        rw [old u r hlt, old x r (by omega)]; exact hV.froz r hr
    refine ⟨by simp, Nat.le_refl _, rfl, rfl, rfl, hnew u rfl hV.self, fun hz _ => ?_⟩
    have hz' : u.heap.size = w.heap.size := by simpa using hz
    refine ⟨_, by simp only [Sem.run, hz'], hnew w hz' hV, by simp, rfl, by simp, rfl, rfl, fun r hr _ => by rw [Array.getElem?_push]; simp [show r ≠ w.heap.size from by omega], fun es => ⟨#[], by simp [Sem.events, Sem.runT, -Sem.runT_eq], by simp [Sem.events, Sem.runT, -Sem.runT_eq], by simp⟩⟩
  exact h1.bind hk

theorem Lcl.new (c : Array Value) (T : TypeId) (fz : Nat × Nat) {k : Nat → Sem α} (hk : ∀ r, Lcl P (k r)) : Lcl P (Sem.new (.cells c T fz) k) := Lcl.newObj _ (.inl ⟨c, T, fz, rfl⟩) hk

theorem Lcl.choose (q : Question) {k : Nat → Sem α} (hk : ∀ n, Lcl P (k n)) : Lcl P (Sem.choose q k) := by
  have h1 : Lcl P (Sem.choose q Sem.pure) := by
    refine ⟨fun κ u w hV => ?_⟩
    cases hf : q.forced with
    | true =>
      refine ⟨fun b u' h => ?_, fun h u' hh => by simp [Sem.run, hf] at hh⟩
      simp [Sem.run, hf] at h
      obtain ⟨rfl, rfl⟩ := h
      exact ⟨Nat.le_refl _, Nat.le_refl _, rfl, rfl, rfl, hV.self, fun _ _ => ⟨w, by simp [Sem.run, hf], hV, by omega, rfl, by omega, rfl, rfl, fun _ _ _ => rfl, fun es => ⟨#[], by simp [Sem.events, Sem.runT, hf, -Sem.runT_eq], by simp [Sem.events, Sem.runT, hf, -Sem.runT_eq], by simp⟩⟩⟩
    | false =>
      refine ⟨fun b u' h => ?_, fun h u' hh => by simp [Sem.run, hf] at hh⟩
      simp [Sem.run, hf] at h
      obtain ⟨rfl, rfl⟩ := h
      refine ⟨Nat.le_refl _, Nat.le_succ _, rfl, rfl, rfl, ⟨Nat.le_refl _, hV.new, fun _ _ _ => rfl, hV.kind, hV.void, hV.self.froz⟩, fun _ ht => ?_⟩
      have := ht 0 (by simp)
      simp at this
      exact ⟨{ w with drawn := w.drawn + 1 }, by simp [Sem.run, hf, this], ⟨hV.size, hV.new, hV.same, hV.kind, hV.void, hV.froz⟩, by simp, rfl, by simp, rfl, rfl, fun _ _ _ => rfl, fun es => ⟨#[], by simp [Sem.events, Sem.runT, hf, -Sem.runT_eq], by simp [Sem.events, Sem.runT, hf, -Sem.runT_eq], by simp⟩⟩
  exact h1.bind hk

theorem Lcl.program {k : Program → Sem α} (hk : Lcl P (k P)) : Lcl P (Sem.program k) := by
  refine ⟨fun κ u w hV => ?_⟩
  obtain ⟨h1, h2⟩ := hk.out κ u w hV
  refine ⟨fun a u' h => ?_, h2⟩
  obtain ⟨a1, a2, a3, a4, a5, a6, a7⟩ := h1 a u' h
  exact ⟨a1, a2, a3, a4, a5, a6, a7⟩

theorem Lcl.mark (m : Mark) (hm : (∃ f, m = .extern f) ∨ m = .noRoom) {k : Sem α} (hk : Lcl P k) : Lcl P (Sem.mark m k) := by
  have h1 : Lcl P (Sem.mark m (Sem.pure ())) := by
    refine ⟨fun κ u w hV => ?_⟩
    refine ⟨fun b u' h => ?_, fun h u' hh => by simp [Sem.run] at hh⟩
    simp [Sem.run] at h
    subst h
    refine ⟨Nat.le_refl _, Nat.le_refl _, rfl, rfl, rfl, hV.self, fun _ _ => ⟨w, rfl, hV, by omega, rfl, by omega, rfl, rfl, fun _ _ _ => rfl, fun es => ⟨#[⟨.mark m, false, true⟩], by simp [Sem.events, Sem.runT, -Sem.runT_eq], by simp [Sem.events, Sem.runT, -Sem.runT_eq], ?_⟩⟩⟩
    intro e he
    simp at he
    subst he
    rcases hm with ⟨f, rfl⟩ | rfl <;> trivial
  exact h1.bind (fun _ => hk)

/-- In a small world where block r is void (or not there) this never ends well. -/
def DiesAt (P : Program) (r : Nat) (s : Sem α) : Prop := ∀ κ u w, View κ u w → (κ r = .void ∨ u.heap.size ≤ r) → (∀ a u', s.run P u ≠ .ok a u') ∧ ∀ h u', s.run P u = .halt h u' → Mild h
def Dies (P : Program) (s : Sem α) : Prop := ∀ κ u w, View κ u w → (∀ a u', s.run P u ≠ .ok a u') ∧ ∀ h u', s.run P u = .halt h u' → Mild h

theorem Dies.lcl {s : Sem α} (h : Dies P s) : Lcl P s := ⟨fun κ u w hV => ⟨fun a u' e => absurd e ((h κ u w hV).1 a u'), (h κ u w hV).2⟩⟩
theorem Dies.at {s : Sem α} (h : Dies P s) (r : Nat) : DiesAt P r s := fun κ u w hV _ => h κ u w hV
theorem Dies.halt {h : Halt} (hm : Mild h) : Dies P (Sem.halt h : Sem α) := fun _ _ _ _ => ⟨by simp [Sem.run], fun x u' e => by simp [Sem.run] at e; exact e.1 ▸ hm⟩
theorem Dies.bind {s : Sem α} {f : α → Sem β} (h : Lcl P s) (hf : ∀ a, Dies P (f a)) : Dies P (s >>= f) := by
  intro κ u w hV
  cases hr : s.run P u with
  | halt x u₁ => exact ⟨by simp [hr], fun y u' e => by simp [hr] at e; exact e.1 ▸ (h.out κ u w hV).2 x u₁ hr⟩
  | ok a u₁ =>
    have := hf a κ u₁ u₁ ((h.out κ u w hV).1 a u₁ hr).self
    exact ⟨fun b u' e => this.1 b u' (by simpa [hr] using e), fun y u' e => this.2 y u' (by simpa [hr] using e)⟩
theorem Dies.first {s : Sem α} {f : α → Sem β} (h : Dies P s) : Dies P (s >>= f) := by
  intro κ u w hV
  cases hr : s.run P u with
  | halt x u₁ => exact ⟨by simp [hr], fun y u' e => by simp [hr] at e; exact e.1 ▸ (h κ u w hV).2 x u₁ hr⟩
  | ok a u₁ => exact absurd hr ((h κ u w hV).1 a u₁)
theorem DiesAt.first {r : Nat} {s : Sem α} {f : α → Sem β} (h : DiesAt P r s) : DiesAt P r (s >>= f) := by
  intro κ u w hV hk
  cases hr : s.run P u with
  | halt x u₁ => exact ⟨by simp [hr], fun y u' e => by simp [hr] at e; exact e.1 ▸ (h κ u w hV hk).2 x u₁ hr⟩
  | ok a u₁ => exact absurd hr ((h κ u w hV hk).1 a u₁)

theorem View.shape {κ : Nat → Kd} {u w : World} (h : View κ u w) {r : Nat} (hr : r < u.heap.size) (hk : κ r ≠ .void) : w.shape? r = u.shape? r := by
  cases hk' : κ r with
  | same => simp only [World.shape?, h.same r hr hk']
  | void => exact absurd hk' hk
  | froz => obtain ⟨c, T, fz, e1, e2⟩ := h.froz r hk'; simp only [World.shape?, e1, e2]

/-- A look at a block's make, where without cells nothing ends well. -/
theorem Lcl.shape (r : Nat) {k : Option (TypeId × Nat) → Sem α} (hk : ∀ x, Lcl P (k (some x))) (hn : Dies P (k none)) : Lcl P (Sem.shape r k) := by
  refine ⟨fun κ u w hV => ?_⟩
  cases hs : u.shape? r with
  | none =>
    have := hn κ u w hV
    refine ⟨fun a u' e => absurd (by simpa [Sem.run, hs] using e) (this.1 a u'), fun x u' e => this.2 x u' (by simpa [Sem.run, hs] using e)⟩
  | some x =>
    have hlt : r < u.heap.size := by
      rcases Nat.lt_or_ge r u.heap.size with h | h
      · exact h
      · simp [World.shape?, h] at hs
    have hw : w.shape? r = some x := by
      rw [hV.shape hlt (fun e => by simp [World.shape?, hV.void r e] at hs)]; exact hs
    obtain ⟨h1, h2⟩ := (hk x).out κ u w hV
    refine ⟨fun a u' e => ?_, fun y u' e => h2 y u' (by simpa [Sem.run, hs] using e)⟩
    obtain ⟨a1, a2, a3, a4, a5, a6, a7⟩ := h1 a u' (by simpa [Sem.run, hs] using e)
    refine ⟨a1, a2, a3, a4, a5, a6, fun b1 b2 => ?_⟩
    obtain ⟨w', c1, c2, c3, c4, c5, c6, c7, c8, c9⟩ := a7 b1 b2
    refine ⟨w', by simpa [Sem.run, hw] using c1, c2, c3, c4, c5, c6, c7, c8, fun es => ?_⟩
    obtain ⟨ne, d1, d2, d3⟩ := c9 es
    exact ⟨ne, by simpa [Sem.events, Sem.runT, hs, -Sem.runT_eq] using d1, by simpa [Sem.events, Sem.runT, hw, -Sem.runT_eq] using d2, d3⟩
end
end Go.Proofs.Ytpioacgknamemaa
