/- One goroutine's own steps in a small world (alone) and in a great one (in company): step for step alike, as long as its code passes the check. -/
import Derived.Test.YtpioacgknamemaaViewOps
import Derived.Conc.Own5
import Derived.Conc.CompanyDraw
namespace Go.Proofs.Ytpioacgknamemaa
open Go Go.RowKit Go.Conc

theorem seen_sub (P : Program) (fn : FuncId) (es : Array Event) (e : Event) (h : e ∈ seen P fn es) : e ∈ es := by
  have key : ∀ (l : List Event) (x : Bool × Array Event) (f : Bool × Array Event → Event → Bool × Array Event), (∀ x y, (f x y).2 = x.2 ∨ (f x y).2 = x.2.push y) → e ∈ (l.foldl f x).2 → e ∈ x.2 ∨ e ∈ l := by
    intro l
    induction l with
    | nil => intro x f _ h; exact .inl h
    | cons y l ih =>
      intro x f hf h
      rw [List.foldl_cons] at h
      rcases ih _ f hf h with h | h
      · rcases hf x y with hy | hy
        · rw [hy] at h; exact .inl h
        · rw [hy] at h
          rcases Array.mem_push.1 h with h | h
          · exact .inl h
          · exact .inr (by simp [h])
      · exact .inr (by simp [h])
  dsimp only [seen] at h
  rw [← Array.foldl_toList] at h
  rcases key es.toList _ _ (fun x y => by
    split
    · exact .inl rfl
    · dsimp only
      split
      · exact .inl rfl
      · exact .inr rfl) h with h | h
  · simp at h
  · exact Array.mem_toList_iff.1 h

/-- What a step leaves of the small world by itself. -/
structure Grew (κ : Nat → Kd) (u u' : World) : Prop where
  hs : u.heap.size ≤ u'.heap.size
  hd : u.drawn ≤ u'.drawn
  tape : u'.tape = u.tape
  os : u'.os = u.os
  output : u'.output = u.output
  self : View κ u' u'

/-- What a step asks of the great one. -/
def Cnd (u w u' : World) : Prop := (u'.heap.size = u.heap.size ∨ u.heap.size = w.heap.size) ∧ ∀ i, i < u'.drawn - u.drawn → w.tape (w.drawn + i) = u.tape (u.drawn + i)

structure Mv (κ : Nat → Kd) (u w u' w' : World) : Prop where
  view : View κ u' w'
  size : w'.heap.size = w.heap.size + (u'.heap.size - u.heap.size)
  tape : w'.tape = w.tape
  drawn : w'.drawn = w.drawn + (u'.drawn - u.drawn)
  os : w'.os = w.os
  output : w'.output = w.output
  keep : ∀ r, r < w.heap.size → (κ r ≠ .same ∨ u.heap.size ≤ r) → w'.heap[r]? = w.heap[r]?

theorem Grew.refl {κ : Nat → Kd} {u w : World} (h : View κ u w) : Grew κ u u := ⟨Nat.le_refl _, Nat.le_refl _, rfl, rfl, rfl, h.self⟩
theorem Mv.refl {κ : Nat → Kd} {u w : World} (h : View κ u w) : Mv κ u w u w := ⟨h, by omega, rfl, by omega, rfl, rfl, fun _ _ _ => rfl⟩

section
variable (P : Program) (S X : FuncId → Bool)

def okItem : Item → Bool
  | .code c => okCode P S X c
  | .inBlock _ => true
  | .inLoop c => okCode P S X c
  | .inRegion ops _ => ops.all fun o => okOp P S X o.op
  | _ => false

/-- A frame that waits for a call. -/
def Susp (x : Frame) : Prop := ∃ b a ops i rest ys, x = Frame.at b a (.inRegion ops (i :: rest) :: ys) ∧ b.kind = .normal ∧ a.defers = [] ∧ (ops.all fun o => okOp P S X o.op) = true ∧ ys.all (okItem P S X) = true ∧ S b.fn = true

variable (k0 k : List Item) (c0 cs : List Frame)

inductive Twin : Goroutine → Goroutine → Prop
  | base (b : Frame) (a : Act) (y : Item) (ys : List Item) : (P.funcs[b.fn]?).isSome = true → b.kind = .normal → a.defers = [] → okItem P S X y = true → ys.all (okItem P S X) = true → Twin (G (b.at a (y :: ys ++ k0)) c0) (G (b.at a (y :: ys ++ k)) cs)
  | inner (b : Frame) (a : Act) (todo : List Item) (xs : List Frame) (B : Frame) (A : Act) (ops : Array Oper) (i : Nat) (rest : List Nat) (ys : List Item) :
      b.kind = .normal → a.defers = [] → todo.all (okItem P S X) = true → S b.fn = true → (∀ x ∈ xs, Susp P S X x) → (P.funcs[B.fn]?).isSome = true → B.kind = .normal → A.defers = [] → (ops.all fun o => okOp P S X o.op) = true → ys.all (okItem P S X) = true →
      Twin (G (b.at a todo) (xs ++ B.at A (.inRegion ops (i :: rest) :: ys ++ k0) :: c0)) (G (b.at a todo) (xs ++ B.at A (.inRegion ops (i :: rest) :: ys ++ k) :: cs))
  | leaves (b : Frame) (a : Act) (todo : List Item) (xs : List Frame) (B : Frame) (A : Act) (ops : Array Oper) (i : Nat) (rest : List Nat) (ys : List Item) :
      b.kind = .normal → a.defers = [] → S b.fn = true → (∀ x ∈ xs, Susp P S X x) → (P.funcs[B.fn]?).isSome = true → B.kind = .normal → A.defers = [] → (ops.all fun o => okOp P S X o.op) = true → ys.all (okItem P S X) = true →
      Twin (G { b.at a todo with mode := .returning } (xs ++ B.at A (.inRegion ops (i :: rest) :: ys ++ k0) :: c0)) (G { b.at a todo with mode := .returning } (xs ++ B.at A (.inRegion ops (i :: rest) :: ys ++ k) :: cs))

/-- The piece has come to its end (in the one way or the other). -/
inductive Stops : Goroutine → Goroutine → Prop
  | norm (b : Frame) (a : Act) : (P.funcs[b.fn]?).isSome = true → b.kind = .normal → a.defers = [] → Stops (G (b.at a k0) c0) (G (b.at a k) cs)
  | ret (b : Frame) (a : Act) (todo : List Item) : (P.funcs[b.fn]?).isSome = true → b.kind = .normal → a.defers = [] → Stops (G { b.at a (todo ++ k0) with mode := .returning } c0) (G { b.at a (todo ++ k) with mode := .returning } cs)

/-- It panics: frames without deferred calls, down to the base's callers. -/
def Panicky (g : Goroutine) : Prop := ∃ fr xs ch, g = G fr (xs ++ c0) ∧ fr.mode = .panicking ch ∧ fr.defers = [] ∧ (P.funcs[fr.fn]?).isSome = true ∧ ∀ x ∈ xs, x.defers = [] ∧ (P.funcs[x.fn]?).isSome = true

def Doomed (s : GStep) : Prop := (∃ o w es, s = .ended o w es) ∨ (∃ g w es, s = .go g w es ∧ Panicky P c0 g)

/-- What is asked of the functions that may be entered. -/
structure Tame : Prop where
  body : ∀ f, S f = true → ∃ fn c, P.funcs[f]? = some fn ∧ fn.body = some c ∧ okCode P S X c = true ∧ (fn.name == "runtime.NumGoroutine") = false
  quick : ∀ f, X f = true → Quick P f
end

section
variable {P : Program} {S X : FuncId → Bool}

theorem Tame.bodied (hT : Tame P S X) (f : FuncId) (h : S f = true) : Bodied P f := by
  obtain ⟨fn, c, h1, h2, _, h4⟩ := hT.body f h
  exact ⟨fn, h1, h4, by rw [h2]; rfl⟩

theorem exitTo_ok {id : Nat} : ∀ {ys k' : List Item}, exitTo id ys = some k' → ys.all (okItem P S X) = true → k'.all (okItem P S X) = true
  | [], _, h, _ => by simp [exitTo] at h
  | y :: ys, k', h, ho => by
    simp only [List.all_cons, Bool.and_eq_true] at ho
    cases y with
    | inBlock j =>
      simp only [exitTo] at h
      split at h
      · cases h; exact ho.2
      · exact exitTo_ok h ho.2
    | _ => exact exitTo_ok (by simpa only [exitTo] using h) ho.2
theorem exitTo_app {id : Nat} (kk : List Item) : ∀ {ys k' : List Item}, exitTo id ys = some k' → exitTo id (ys ++ kk) = some (k' ++ kk)
  | [], _, h => by simp [exitTo] at h
  | y :: ys, k', h => by
    cases y with
    | inBlock j =>
      simp only [exitTo, List.cons_append] at h ⊢
      split at h
      · cases h; simp [*]
      · rename_i hj; simp only [hj]; exact exitTo_app kk h
    | _ => simp only [exitTo, List.cons_append] at h ⊢; exact exitTo_app kk h
theorem exitTo_none {id : Nat} {kk : List Item} (hk : exitTo id kk = none) : ∀ {ys : List Item}, exitTo id ys = none → exitTo id (ys ++ kk) = none
  | [], _ => hk
  | y :: ys, h => by
    cases y with
    | inBlock j =>
      simp only [exitTo, List.cons_append] at h ⊢
      split at h
      · cases h
      · rename_i hj; simp only [hj]; exact exitTo_none hk h
    | _ => simp only [exitTo, List.cons_append] at h ⊢; exact exitTo_none hk h

/-- A step of the small one, and what it is in the great one. -/
def Mir (P : Program) (main : Bool) (κ : Nat → Kd) (ĝ g : Goroutine) (u w : World) (N : Goroutine → Goroutine → Prop) : Prop :=
  ∃ ĝ' g' u' es, stepG P true ĝ u = .go ĝ' u' es ∧ N ĝ' g' ∧ Grew κ u u' ∧ (Cnd u w u' → ∃ w', stepG P main g w = .go g' w' es ∧ Mv κ u w u' w' ∧ ∀ e ∈ es, EvOk κ u'.heap.size e)

theorem Mir.mono {main : Bool} {κ : Nat → Kd} {ĝ g : Goroutine} {u w : World} {N N' : Goroutine → Goroutine → Prop} (h : Mir P main κ ĝ g u w N) (hN : ∀ a b, N a b → N' a b) : Mir P main κ ĝ g u w N' := by
  obtain ⟨a, b, c, d, h1, h2, h3, h4⟩ := h
  exact ⟨a, b, c, d, h1, hN _ _ h2, h3, h4⟩

/-- A step that looks at no world. -/
theorem Mir.still {main : Bool} {κ : Nat → Kd} {ĝ g ĝ' g' : Goroutine} {u w : World} {N : Goroutine → Goroutine → Prop} (hV : View κ u w) (h1 : stepG P true ĝ u = .go ĝ' u) (h2 : stepG P main g w = .go g' w) (hN : N ĝ' g') : Mir P main κ ĝ g u w N :=
  ⟨ĝ', g', u, #[], h1, hN, Grew.refl hV, fun _ => ⟨w, h2, Mv.refl hV, by simp⟩⟩

/-- Where the top frame is behind one step. -/
inductive Top (P : Program) (S X : FuncId → Bool) (b : Frame) (a : Act) (y : Item) (ys : List Item) (kk0 kk1 : List Item) (C0 C1 : List Frame) : Goroutine → Goroutine → Prop
  | stays (a' : Act) (zs : List Item) : a'.defers = [] → zs.all (okItem P S X) = true → Top P S X b a y ys kk0 kk1 C0 C1 (G (b.at a' (zs ++ kk0)) C0) (G (b.at a' (zs ++ kk1)) C1)
  | rets (zs : List Item) : Top P S X b a y ys kk0 kk1 C0 C1 (G { b.at a (zs ++ kk0) with mode := .returning } C0) (G { b.at a (zs ++ kk1) with mode := .returning } C1)
  | enters (f : FuncId) (args : Array Value) (ops : Array Oper) (i : Nat) (rest : List Nat) : S f = true → y = .inRegion ops (i :: rest) → Top P S X b a y ys kk0 kk1 C0 C1 (G (Frame.enter P f args .normal) (b.at a (y :: ys ++ kk0) :: C0)) (G (Frame.enter P f args .normal) (b.at a (y :: ys ++ kk1) :: C1))

theorem put_defers (a : Act) (d : Option Tmp) (v : Value) : (a.put d v).defers = a.defers := by cases d <;> rfl

theorem Went.mv {κ : Nat → Kd} {s : Sem Next} {u w u' : World} {n : Next} (h : Went P κ s u w n u') : Grew κ u u' ∧ (Cnd u w u' → ∃ w', s.run P w = .ok n w' ∧ Mv κ u w u' w' ∧ s.events P w #[] = s.events P u #[] ∧ ∀ e ∈ s.events P u #[], EvOk κ u'.heap.size e) := by
  refine ⟨⟨h.hs, h.hd, h.tape, h.os, h.output, h.self⟩, fun hc => ?_⟩
  obtain ⟨w', c1, c2, c3, c4, c5, c6, c7, c8, c9⟩ := h.vw hc.1 hc.2
  obtain ⟨ne, d1, d2, d3⟩ := c9 #[]
  exact ⟨w', c1, ⟨c2, c3, c4, c5, c6, c7, c8⟩, by rw [d1, d2], by rw [d1]; simpa using d3⟩

def EndsNow (s : GStep) : Prop := match s with | .ended _ _ _ => True | _ => False
theorem EndsNow.out {s : GStep} (h : EndsNow s) : ∃ o w es, s = .ended o w es := by cases s <;> first | exact ⟨_, _, _, rfl⟩ | exact h.elim

theorem cons_ok {y : Item} {ys : List Item} (h : okItem P S X y = true) (hs : ys.all (okItem P S X) = true) : (y :: ys).all (okItem P S X) = true := by rw [List.all_cons, h, hs]; rfl

theorem stepG_noOper {main : Bool} {b : Frame} {a : Act} {ops : Array Oper} {i : Nat} {rest : List Nat} {k : List Item} {cs : List Frame} {w : World} (ho : ops[i]? = none) :
    stepG P main (G (b.at a (.inRegion ops (i :: rest) :: k)) cs) w = .go (G (b.at a (.inRegion ops rest :: k)) cs) w := by
  have hfin : (b.at a (.inRegion ops (i :: rest) :: k)).finish undef = b.at a (.inRegion ops rest :: k) := by rw [Frame.finish_at, ho]; rfl
  rw [← hfin]
  simp [G, stepG, stepG.exec, Frame.at, ho]

theorem stepG_halts {main : Bool} {b : Frame} {a : Act} {ops : Array Oper} {i : Nat} {rest : List Nat} {o : Oper} {k : List Item} {cs : List Frame} {w w' : World} {h : Halt} (ho : ops[i]? = some o) (hw : Region.wanted o (yielded ops a.tmps) = true)
    (hr : (execOp a.eval o).run P w = .halt h w') (hm : Mild h) : (∃ x w' es, stepG P main (G (b.at a (.inRegion ops (i :: rest) :: k)) cs) w = .ended x w' es) ∨
      (∃ ch u' es, stepG P main (G (b.at a (.inRegion ops (i :: rest) :: k)) cs) w = .go (G { b.at a (.inRegion ops (i :: rest) :: k) with mode := .panicking ch } cs) u' es) := by
  rw [stepG_oper ho hw]
  cases h with
  | panic v =>
    right
    refine ⟨[{ v, recovered := false }], w', ?_, ?_⟩
    rotate_left
    · simp only [stepG.apply, Sem.runT_eq, hr, GStep.after, Frame.raise, G]
      rfl
  | stuck m =>
    left
    refine ⟨.stuck m ((b.at a (.inRegion ops (i :: rest) :: k)).pos P), w', ?_, ?_⟩
    rotate_left
    · simp only [stepG.apply, Sem.runT_eq, hr, GStep.after]
      rfl
  | unsupported x =>
    left
    cases x with
    | initOrder g => exact hm.elim
    | _ =>
      refine EndsNow.out ?_
      simp only [stepG.apply, Sem.runT_eq, hr, GStep.after]
      trivial
  | _ => exact hm.elim

theorem top_step (hT : Tame P S X) {main : Bool} {κ : Nat → Kd} {u w : World} (hV : View κ u w) {b : Frame} {a : Act} {y : Item} {ys kk0 kk1 : List Item} {C0 C1 : List Frame}
    (hb : b.kind = .normal) (ha : a.defers = []) (hy : okItem P S X y = true) (hys : ys.all (okItem P S X) = true) (hk : ∀ id, exitTo id kk0 = none) :
    Mir P main κ (G (b.at a (y :: ys ++ kk0)) C0) (G (b.at a (y :: ys ++ kk1)) C1) u w (Top P S X b a y ys kk0 kk1 C0 C1) ∨
    (∃ o w' es, stepG P true (G (b.at a (y :: ys ++ kk0)) C0) u = .ended o w' es) ∨ (∃ ch u' es, stepG P true (G (b.at a (y :: ys ++ kk0)) C0) u = .go (G { b.at a (y :: ys ++ kk0) with mode := .panicking ch } C0) u' es) := by
  have st : ∀ (zs : List Item), zs.all (okItem P S X) = true → Top P S X b a y ys kk0 kk1 C0 C1 (G (b.at a (zs ++ kk0)) C0) (G (b.at a (zs ++ kk1)) C1) := fun zs hz => .stays a zs ha hz
  simp only [List.cons_append]
  cases y with
  | inBlock id => exact .inl (.still hV stepG_inBlock stepG_inBlock (st ys hys))
  | inLoop c => exact .inl (.still hV stepG_inLoop stepG_inLoop (st (.code c :: .inLoop c :: ys) (cons_ok hy (cons_ok hy hys))))
  | code c =>
    have hc : okCode P S X c = true := hy
    cases c with
    | skip => exact .inl (.still hV stepG_skip stepG_skip (st ys hys))
    | seq x z =>
      simp only [okCode, Bool.and_eq_true] at hc
      exact .inl (.still hV stepG_seq stepG_seq (st (.code x :: .code z :: ys) (cons_ok (y := .code x) hc.1 (cons_ok (y := .code z) hc.2 hys))))
    | cond c x z =>
      simp only [okCode, Bool.and_eq_true] at hc
      by_cases hb' : ∃ t, a.eval c = .bool t
      · obtain ⟨t, ht⟩ := hb'
        exact .inl (.still hV (stepG_cond ht) (stepG_cond ht) (st (.code (if t then x else z) :: ys) (cons_ok (y := .code (if t then x else z)) (by cases t <;> simp [okItem, hc.1, hc.2]) hys)))
      · refine .inr (.inl ?_)
        have he := Frame.eval_at b a (.code (.cond c x z) :: (ys ++ kk0)) c
        simp only [Frame.at] at he
        cases hv : a.eval c with
        | bool t => exact absurd ⟨t, hv⟩ hb'
        | _ => exact EndsNow.out (by simp only [G, stepG, stepG.exec, Frame.at, he, hv]; trivial)
    | block id c => exact .inl (.still hV stepG_block stepG_block (st (.code c :: .inBlock id :: ys) (cons_ok (y := .code c) hc (cons_ok (y := .inBlock id) rfl hys))))
    | loop c => exact .inl (.still hV stepG_loop stepG_loop (st (.code c :: .inLoop c :: ys) (cons_ok (y := .code c) hc (cons_ok (y := .inLoop c) hc hys))))
    | exit id =>
      cases he : exitTo id ys with
      | some k' => exact .inl (.still hV (stepG_exit (exitTo_app kk0 he)) (stepG_exit (exitTo_app kk1 he)) (st k' (exitTo_ok he hys)))
      | none =>
        refine .inr (.inl (EndsNow.out ?_))
        simp only [G, stepG, stepG.exec, Frame.at, exitTo_none (hk id) he, Option.elim]
        trivial
    | ret => exact .inl (.still hV stepG_ret' stepG_ret' (.rets (.code .ret :: ys)))
    | region id ops draw =>
      cases draw with
      | false => exact .inl (.still hV stepG_region stepG_region (st (.inRegion ops (List.range ops.size) :: ys) (cons_ok (y := .inRegion ops _) hc hys)))
      | true =>
        refine .inl ⟨_, _, { u with drawn := u.drawn + 1 }, #[], stepG_region_draw, st (.inRegion ops (Region.schedule (P.follows .mixedOrders) ops (u.tape u.drawn (.order b.fn id))) :: ys) (cons_ok (y := .inRegion ops _) hc hys),
          ⟨Nat.le_refl _, Nat.le_succ _, rfl, rfl, rfl, ⟨Nat.le_refl _, hV.new, fun _ _ _ => rfl, hV.kind, hV.void, hV.self.froz⟩⟩, fun hc => ?_⟩
        have h0 : w.tape w.drawn = u.tape u.drawn := by have := hc.2 0 (by simp); simpa using this
        refine ⟨{ w with drawn := w.drawn + 1 }, by rw [stepG_region_draw, h0]; rfl, ⟨⟨hV.size, hV.new, hV.same, hV.kind, hV.void, hV.froz⟩, by simp, rfl, by simp, rfl, rfl, fun _ _ _ => rfl⟩, by simp⟩
    | _ => simp [okCode] at hc
  | inRegion ops todo =>
    cases todo with
    | nil => exact .inl (.still hV stepG_region_end stepG_region_end (st ys hys))
    | cons i rest =>
      have hops : (ops.all fun o => okOp P S X o.op) = true := hy
      have hrest : ((Item.inRegion ops rest) :: ys).all (okItem P S X) = true := cons_ok (y := .inRegion ops rest) hops hys
      have hke : b.kind ≠ .early := by rw [hb]; simp
      cases ho : ops[i]? with
      | none => exact .inl (.still hV (stepG_noOper ho) (stepG_noOper ho) (st (.inRegion ops rest :: ys) hrest))
      | some o =>
        cases hw : Region.wanted o (yielded ops a.tmps) with
        | false => exact .inl (.still hV (stepG_unwanted ho hw) (stepG_unwanted ho hw) (.stays _ (.inRegion ops rest :: ys) (by rw [put_defers]; exact ha) hrest))
        | true =>
          have hok : okOp P S X o.op = true := by
            have := Array.all_eq_true'.1 hops o (Array.mem_of_getElem? ho)
            simpa using this
          have hO := okOp_sound (hT.bodied) hT.quick o a hok
          cases hr : (execOp a.eval o).run P u with
          | halt h u' => exact .inr (stepG_halts ho hw hr ((hO.lcl.out κ u w hV).2 h u' hr))
          | ok n u' =>
            obtain ⟨hg, hm⟩ := ((hO.lcl.out κ u w hV).1 n u' hr).mv
            have hev : ∀ e ∈ listed P b.fn a o u, e ∈ (execOp a.eval o).events P u #[] := fun e he => seen_sub P b.fn _ e he
            have hp := hO.plain u n u' hr
            cases n with
            | value v =>
              refine .inl ⟨_, _, u', _, stepG_value ho hw hke hr, .stays (a.put o.dst v) (.inRegion ops rest :: ys) (by rw [put_defers]; exact ha) hrest, hg, fun hc => ?_⟩
              obtain ⟨w', r1, r2, r3, r4⟩ := hm hc
              exact ⟨w', by rw [stepG_value ho hw hke r1]; unfold listed; rw [r3]; rfl, r2, fun e he => r4 e (hev e he)⟩
            | skip =>
              refine .inl ⟨_, _, u', _, stepG_none ho hw hke hr, .stays (a.put o.dst undef) (.inRegion ops rest :: ys) (by rw [put_defers]; exact ha) hrest, hg, fun hc => ?_⟩
              obtain ⟨w', r1, r2, r3, r4⟩ := hm hc
              exact ⟨w', by rw [stepG_none ho hw hke r1]; unfold listed; rw [r3]; rfl, r2, fun e he => r4 e (hev e he)⟩
            | enter f args =>
              refine .inl ⟨_, _, u', _, stepG_enter ho hw hke hr, .enters f args ops i rest hp rfl, hg, fun hc => ?_⟩
              obtain ⟨w', r1, r2, r3, r4⟩ := hm hc
              exact ⟨w', by rw [stepG_enter ho hw hke r1]; unfold listed; rw [r3]; rfl, r2, fun e he => r4 e (hev e he)⟩
            | _ => exact hp.elim
  | _ => simp [okItem] at hy
end
end Go.Proofs.Ytpioacgknamemaa
namespace Go.Proofs.Ytpioacgknamemaa
open Go Go.RowKit Go.Conc
section
variable {P : Program} {S X : FuncId → Bool}

theorem Lcl.results (fn : Func) (tmps : Array Value) : Lcl P (Go.results fn tmps) := by
  unfold Go.results
  refine Lcl.bind (Lcl.mapM (fun r => ?_) _) fun _ => Lcl.purep _
  cases r with
  | tmp t => exact Lcl.purep _
  | cell a t => exact (Lcl.asAddr _).bind fun _ => Lcl.loadVar _ _

theorem stepG_back {main : Bool} {b : Frame} {a : Act} {todo : List Item} {c : Frame} {cs : List Frame} {w w' : World} {fn : Func} {v : Value} (hn : b.kind = .normal) (hd : a.defers = []) (hf : P.funcs[b.fn]? = some fn)
    (hr : (Go.results fn a.tmps).run P w = .ok v w') :
    stepG P main (G { b.at a todo with mode := .returning } (c :: cs)) w = .go (G (c.finish v) cs) w' (seen P b.fn ((Go.results fn a.tmps).events P w #[])) := by
  simp [G, stepG, unwind, doReturn, Frame.at, hn, hd, hf, hr, GStep.after]

theorem stepG_backHalts {main : Bool} {b : Frame} {a : Act} {todo : List Item} {c : Frame} {cs : List Frame} {w w' : World} {fn : Func} {h : Halt} (hd : a.defers = []) (hf : P.funcs[b.fn]? = some fn)
    (hr : (Go.results fn a.tmps).run P w = .halt h w') : EndsNow (stepG P main (G { b.at a todo with mode := .returning } (c :: cs)) w) := by
  cases h <;> simp [G, stepG, unwind, Frame.at, hd, hf, hr, GStep.after, EndsNow]

theorem enter_at {f : FuncId} {args : Array Value} {fn : Func} {c : Code} (h1 : P.funcs[f]? = some fn) (h2 : fn.body = some c) :
    Frame.enter P f args .normal = (Frame.enter P f args .normal).at ⟨(Frame.enter P f args .normal).tmps, []⟩ [.code c] := by
  simp [Frame.enter, Frame.at, h1, h2]

theorem susp_finish {x : Frame} (hx : Susp P S X x) (v : Value) : ∃ b a todo, x.finish v = Frame.at b a todo ∧ b.kind = .normal ∧ a.defers = [] ∧ todo.all (okItem P S X) = true ∧ S b.fn = true := by
  obtain ⟨b, a, ops, i, rest, ys, rfl, h1, h2, h3, h4, h5⟩ := hx
  exact ⟨b, _, _, Frame.finish_at b a ops i rest ys v, h1, by rw [put_defers]; exact h2, cons_ok (y := .inRegion ops rest) h3 h4, h5⟩

variable {k0 k : List Item} {c0 cs : List Frame}

theorem twin_step (hT : Tame P S X) {main : Bool} {κ : Nat → Kd} {u w : World} (hV : View κ u w) (hk : ∀ id, exitTo id k0 = none) {ĝ g : Goroutine} (h : Twin P S X k0 k c0 cs ĝ g) :
    Mir P main κ ĝ g u w (fun a b => Twin P S X k0 k c0 cs a b ∨ Stops P k0 k c0 cs a b) ∨ Doomed P c0 (stepG P true ĝ u) := by
  cases h with
  | base b a y ys hf hb ha hy hys =>
    rcases top_step hT hV hb ha hy hys hk (main := main) (kk1 := k) (C0 := c0) (C1 := cs) with h | h | ⟨ch, u', es, h⟩
    · refine .inl (h.mono fun g1 g2 hg => ?_)
      cases hg with
      | stays a' zs h1 h2 =>
        cases zs with
        | nil => exact .inr (.norm b a' hf hb h1)
        | cons z zs =>
          simp only [List.all_cons, Bool.and_eq_true] at h2
          exact .inl (.base b a' z zs hf hb h1 h2.1 h2.2)
      | rets vs => exact .inr (.ret b a vs hf hb ha)
      | enters f args ops i rest hS e =>
        obtain ⟨fn, c, h1, h2, h3, _⟩ := hT.body f hS
        subst e
        rw [enter_at h1 h2]
        exact .inl (.inner _ _ [.code c] [] b a ops i rest ys rfl rfl (cons_ok (y := .code c) h3 rfl) hS (by simp) hf hb ha hy hys)
    · exact .inr (.inl h)
    · exact .inr (.inr ⟨_, u', es, h, _, [], ch, rfl, rfl, ha, hf, by simp⟩)
  | inner b a todo xs B A ops i rest ys hb ha htodo hS hxs hBf hB hA hops hys =>
    obtain ⟨fn, c, hf1, hf2, _, _⟩ := hT.body b.fn hS
    cases todo with
    | nil => exact .inl (.still hV stepG_end stepG_end (.inl (.leaves b a [] xs B A ops i rest ys hb ha hS hxs hBf hB hA hops hys)))
    | cons y zs =>
      simp only [List.all_cons, Bool.and_eq_true] at htodo
      have hts := top_step hT hV hb ha htodo.1 htodo.2 (kk0 := []) (fun _ => rfl) (main := main) (kk1 := []) (C0 := xs ++ B.at A (.inRegion ops (i :: rest) :: ys ++ k0) :: c0) (C1 := xs ++ B.at A (.inRegion ops (i :: rest) :: ys ++ k) :: cs)
      simp only [List.append_nil] at hts
      rcases hts with h | h | ⟨ch, u', es, h⟩
      · refine .inl (h.mono fun g1 g2 hg => .inl ?_)
        cases hg with
        | stays a' vs h1 h2 =>
          simp only [List.append_nil]
          exact .inner b a' vs xs B A ops i rest ys hb h1 h2 hS hxs hBf hB hA hops hys
        | rets vs =>
          simp only [List.append_nil]
          exact .leaves b a vs xs B A ops i rest ys hb ha hS hxs hBf hB hA hops hys
        | enters f args ops' i' rest' hS' e =>
          obtain ⟨fn', c', h1, h2, h3, _⟩ := hT.body f hS'
          subst e
          rw [enter_at h1 h2]
          simp only [List.append_nil]
          refine .inner _ _ [.code c'] (b.at a (.inRegion ops' (i' :: rest') :: zs) :: xs) B A ops i rest ys rfl rfl (cons_ok (y := .code c') h3 rfl) hS' (fun x hx => ?_) hBf hB hA hops hys
          rcases List.mem_cons.1 hx with rfl | hx
          · exact ⟨b, a, ops', i', rest', zs, rfl, hb, ha, htodo.1, htodo.2, hS⟩
          · exact hxs x hx
      · exact .inr (.inl h)
      · refine .inr (.inr ⟨_, u', es, h, { b.at a (y :: zs) with mode := .panicking ch }, xs ++ [B.at A (.inRegion ops (i :: rest) :: ys ++ k0)], ch, by simp, rfl, ha, by rw [show ({ b.at a (y :: zs) with mode := .panicking ch } : Frame).fn = b.fn from rfl, hf1]; rfl, fun x hx => ?_⟩)
        rcases List.mem_append.1 hx with hx | hx
        · obtain ⟨b', a', o', i', r', y', rfl, _, h2, _, _, h5⟩ := hxs x hx
          obtain ⟨fn', c', h1, _⟩ := hT.body b'.fn h5
          exact ⟨h2, by rw [show (Frame.at b' a' (.inRegion o' (i' :: r') :: y')).fn = b'.fn from rfl, h1]; rfl⟩
        · simp at hx
          subst hx
          exact ⟨hA, hBf⟩
  | leaves b a todo xs B A ops i rest ys hb ha hS hxs hBf hB hA hops hys =>
    obtain ⟨fn, c, hf1, hf2, _, _⟩ := hT.body b.fn hS
    have hL := (Lcl.results (P := P) fn a.tmps).out κ u w hV
    have key : ∀ (x0 x1 : Frame) (cs0 cs1 : List Frame) (N : Goroutine → Goroutine → Prop), (∀ v, N (G (x0.finish v) cs0) (G (x1.finish v) cs1)) →
        Mir P main κ (G { b.at a todo with mode := .returning } (x0 :: cs0)) (G { b.at a todo with mode := .returning } (x1 :: cs1)) u w N ∨ Doomed P c0 (stepG P true (G { b.at a todo with mode := .returning } (x0 :: cs0)) u) := by
      intro x0 x1 cs0 cs1 N hN
      cases hr : (Go.results fn a.tmps).run P u with
      | halt h u' => exact .inr (.inl (EndsNow.out (stepG_backHalts ha hf1 hr)))
      | ok v u' =>
        have W := hL.1 v u' hr
        refine .inl ⟨_, _, u', _, stepG_back hb ha hf1 hr, hN v, ⟨W.hs, W.hd, W.tape, W.os, W.output, W.self⟩, fun hc => ?_⟩
        obtain ⟨w', c1, c2, c3, c4, c5, c6, c7, c8, c9⟩ := W.vw hc.1 hc.2
        obtain ⟨ne, d1, d2, d3⟩ := c9 #[]
        refine ⟨w', by rw [stepG_back hb ha hf1 c1, d1, d2], ⟨c2, c3, c4, c5, c6, c7, c8⟩, fun e he => ?_⟩
        have := seen_sub P b.fn _ e he
        rw [d1] at this
        exact d3 e (by simpa using this)
    cases xs with
    | nil =>
      refine key _ _ _ _ _ fun v => .inl ?_
      simp only [List.cons_append, Frame.finish_at]
      exact .base B _ (.inRegion ops rest) ys hBf hB (by rw [put_defers]; exact hA) hops hys
    | cons x xs =>
      refine key _ _ _ _ _ fun v => .inl ?_
      obtain ⟨b', a', todo', e, h1, h2, h3, h4⟩ := susp_finish (hxs x (by simp)) v
      rw [e]
      exact .inner b' a' todo' xs B A ops i rest ys h1 h2 h3 h4 (fun z hz => hxs z (by simp [hz])) hBf hB hA hops hys
end
end Go.Proofs.Ytpioacgknamemaa
