/- Contracts that were proved alone, beside leavers: a call, a piece of code, a walk step by step. -/
import Derived.Test.YtpioacgknamemaaIdle
namespace Go.Proofs.Ytpioacgknamemaa
open Go Go.RowKit Go.Conc Go.ConcN

section
variable {P : Program} {Sh : Loc → Prop}

/-- Results that lie in slots. -/
def slotRes (fn : Func) : Bool := fn.results.all fun | .tmp _ => true | _ => false
def oneV (vs : Array Value) : Value := if h : vs.size = 1 then vs[0] else .tuple vs
def slotV (tmps : Array Value) : ResultVar → Value
  | .tmp t => tmps.getD t undef
  | .cell _ _ => undef
def resV (fn : Func) (tmps : Array Value) : Value := oneV (fn.results.toList.map (slotV tmps)).toArray

theorem results_slots {fn : Func} (h : slotRes fn = true) (tmps : Array Value) : results fn tmps = Sem.pure (resV fn tmps) := by
  unfold results resV
  have key : ∀ (f : ResultVar → Sem Value) (g : ResultVar → Value), (∀ t, f (.tmp t) = Sem.pure (g (.tmp t))) → ∀ l : List ResultVar, (∀ r ∈ l, ∃ t, r = .tmp t) → l.mapM f = Sem.pure (l.map g) := by
    intro f g hfg l
    induction l with
    | nil => intro _; rfl
    | cons r l ih =>
      intro hl
      obtain ⟨t, rfl⟩ := hl r (by simp)
      rw [List.mapM_cons, ih (fun r hr => hl r (by simp [hr])), hfg]
      rfl
  have hl : ∀ r ∈ fn.results.toList, ∃ t, r = .tmp t := by
    intro r hr
    have := Array.all_eq_true'.1 h r (Array.mem_toList_iff.1 hr)
    cases r with
    | tmp t => exact ⟨t, rfl⟩
    | cell a t => simp at this
  rw [Array.mapM_eq_mapM_toList, key _ (slotV tmps) (fun _ => rfl) _ hl]
  rfl

/-- The call has come to its return, with a value that meets R. -/
def TRet (P : Program) (R : Value → World → Prop) (ĝ : Goroutine) (u : World) : Prop :=
  ĝ.callers = [cc] ∧ ĝ.frame.mode = .returning ∧ ĝ.frame.defers = [] ∧ ĝ.frame.kind = .normal ∧ ∃ fn, P.funcs[ĝ.frame.fn]? = some fn ∧ slotRes fn = true ∧ R (resV fn ĝ.frame.tmps) u

theorem TRet.only {R : Value → World → Prop} : AtEndOnly (TRet P R) := fun _ _ h => ⟨h.1, fun _ e => by rw [h.2.1] at e; cases e⟩

theorem TRet.notLive {R : Value → World → Prop} {S X : FuncId → Bool} {k0 k : List Item} {cs : List Frame} (ĝ g : Goroutine) (u : World) (h : TRet P R ĝ u) (hL : Live P S X k0 k [cc] cs ĝ g) : False := by
  obtain ⟨h1, h2, _⟩ := h
  rcases hL with h | ⟨_, _, b, a, _, _, _, rfl, _⟩
  · cases h with
    | base => cases h2
    | inner => cases h2
    | leaves b a todo xs B A ops i rest ys =>
      have := congrArg List.length h1
      simp [G] at this
  · cases h2

theorem reach_call {S X : FuncId → Bool} (hT : Tame P S X) {f : FuncId} (hf : S f = true) (hres : ∀ fn, P.funcs[f]? = some fn → slotRes fn = true) {κ : Nat → Kd} {u : World} (hV : View κ u u) {args : Array Value} {R : Value → World → Prop} (hR : ∀ v u τ d, R v (tp u τ d) → R v u)
    (h : ∀ τ d, Calls P f args (tp u τ d) fun e w' => ∃ v, e = .returned v ∧ R v w') : Reach P (TRet P R) (G (Frame.enter P f args .normal) [cc]) u ∧ ∀ cs, Live P S X [] [] [cc] cs (G (Frame.enter P f args .normal) [cc]) (G (Frame.enter P f args .normal) cs) := by
  obtain ⟨fn, c, h1, h2, h3, _⟩ := hT.body f hf
  have hL : ∀ cs, Live P S X [] [] [cc] cs (G (Frame.enter P f args .normal) [cc]) (G (Frame.enter P f args .normal) cs) := by
    intro cs
    rw [enter_at h1 h2]
    have := Twin.base (P := P) (S := S) (X := X) (k0 := []) (k := []) (c0 := [cc]) (cs := cs) (Frame.enter P f args .normal) ⟨(Frame.enter P f args .normal).tmps, []⟩ (.code c) [] (by show (P.funcs[f]?).isSome = true; rw [h1]; rfl) rfl rfl h3 rfl
    exact .inl this
  refine ⟨reach_of hT (.inl rfl) TRet.only (fun g u τ d => ?_) (hL [cc]) hV fun τ d => ?_, hL⟩
  · rintro ⟨a1, a2, a3, a4, fn', a5, a6, a7⟩
    exact ⟨a1, a2, a3, a4, fn', a5, a6, hR _ _ _ _ a7⟩
  · obtain ⟨e, w', fr, ⟨v, rfl, hv⟩, ⟨n, hn⟩, hfn, hm, hd, hk, fn', hf', hr⟩ := h τ d [cc]
    refine ⟨n, G fr [cc], w', hn, rfl, hm, hd, hk, fn', hf', hres fn' (by rw [← hfn]; exact hf'), ?_⟩
    rw [results_slots (hres fn' (by rw [← hfn]; exact hf'))] at hr
    simp only [Sem.run, Result.ok.injEq] at hr
    show R (resV fn' fr.tmps) w'
    rw [hr.1]
    exact hv

/-- From here the run ends, and all is well: in whatever great world that the small one is seen in, beside whatever leavers. W: the world at the law's entry. -/
def EndsOk (P : Program) (Post : Value → World → Prop) (W : World) (Sh : Loc → Prop) (κ : Nat → Kd) (M : Nat) (g : Goroutine) (u : World) : Prop :=
  ∀ (gs : Array Goroutine) (w : World) (sl : Option (Nat × Nat)) (t : Trace) (q : Nat → Nat), gs[0]? = some g → gs.size ≤ M → View κ u w → u.heap.size = w.heap.size → Idle P Sh w.heap.size gs q t → Left κ W w →
    ∃ N last o w' t', runNT P (N + 1) (crowd gs w sl) t = (.ended o w', t') ∧ runN P N (crowd gs w sl) = .next last ∧ step P last = .ended o w' ∧ Conc.Good P Post last o w' t'

variable {Post : Value → World → Prop} {W : World} {κ : Nat → Kd} {M : Nat}

/-- Two runs, one behind the other. -/
theorem run_join {m m1 : Machine} {t t1 : Trace} {N : Nat} (h : runNT P N m t = (.next m1, t1)) (k : ∃ N last o w' t', runNT P (N + 1) m1 t1 = (.ended o w', t') ∧ runN P N m1 = .next last ∧ step P last = .ended o w' ∧ Conc.Good P Post last o w' t') :
    ∃ N last o w' t', runNT P (N + 1) m t = (.ended o w', t') ∧ runN P N m = .next last ∧ step P last = .ended o w' ∧ Conc.Good P Post last o w' t' := by
  obtain ⟨M, last, o, w', t', h1, h2, h3, h4⟩ := k
  refine ⟨N + M, last, o, w', t', ?_, ?_, h3, h4⟩
  · rw [Nat.add_assoc, runNT_add, h]; exact h1
  · rw [runN_add, ← runNT_fst P _ _ t, h]; exact h2

theorem ends_reach {T : Goroutine → World → Prop} {S X : FuncId → Bool} {k0 k : List Item} {cs : List Frame} (hT : Tame P S X) (hkk : (k0 = [] ∧ k = []) ∨ k0 = [.code (.refuse "")])
    (hSh : ∀ l, Sh l → ∃ a, l = .cell a ∧ κ a.block = .void) (hE : AtEndOnly T) (hTF : ∀ ĝ g u, T ĝ u → Live P S X k0 k [cc] cs ĝ g → False) {ĝ g : Goroutine} {u : World} (hR : Reach P T ĝ u) (hL : Live P S X k0 k [cc] cs ĝ g)
    (hK : ∀ ĝ' g' u', Done0 P k0 k [cc] cs ĝ' g' → T ĝ' u' → EndsOk P Post W Sh κ M g' u') : EndsOk P Post W Sh κ M g u := by
  intro gs w sl t q h0 hgm hV hz hI hl
  obtain ⟨N, gs', g', w', sl', t', q', B', ĝ', u', a1, a2, a3, a4, a5, a6, a7, a8, a9, a10, a11⟩ := walk_reach hT hkk hSh hE hTF hR g gs w sl t q _ (.inl hL) hV hz h0 hI
  exact run_join a1 (hK ĝ' g' u' a4 a5 gs' w' sl' t' q' a3 (by omega) a6 a7 (a8.mono (by have := a10.size; omega)) (hl.trans a10))

/-- A step that looks at no world. -/
theorem ends_pure {g g' : Goroutine} {u : World} (hr : g.status = .running) (hs : ∀ w, stepG P true g w = .go g' w) (h : EndsOk P Post W Sh κ M g' u) : EndsOk P Post W Sh κ M g u := by
  intro gs w sl t q h0 hgm hV hz hI hl
  generalize hm : sumTo gs.size q = m
  induction m using Nat.strongRecOn generalizing gs w sl t q with
  | _ m im =>
    have haw : ∀ x ∈ gs, awake x := by
      intro x hx
      obtain ⟨i, hi, rfl⟩ := Array.mem_iff_getElem.1 hx
      rcases Nat.eq_zero_or_pos i with rfl | hpos
      · have : gs[0] = g := by simpa [Array.getElem?_eq_getElem hi] using h0
        rw [this]; exact awake_of (.inl hr)
      · exact awake_of ((hI.leave.old i _ hpos (Array.getElem?_eq_getElem hi)).status.elim .inl fun x => .inr (.inr x))
    obtain ⟨i, gi, d, sl', hi, hgr, hst⟩ := crowd_pick (P := P) (w := w) (sl := sl) haw ⟨0, g, h0, hr⟩
    rcases Nat.eq_zero_or_pos i with rfl | hpos
    · obtain rfl : gi = g := by rw [h0] at hi; exact (Option.some.inj hi).symm
      have hrunT := runT_crowd_go (P := P) (sl := sl') (i := 0) h0 (show stepG P (0 == 0) gi (w.at d) = _ from hs (w.at d))
      obtain ⟨hI2, h02, hsz2⟩ := hI.own (w' := w.at d) (g' := g') (es := #[]) h0 (by simp)
      refine run_join (N := 1) (by simp only [runNT, hst, hrunT]) (h _ (w.at d) sl' _ q h02 (by omega) ⟨hV.size, hV.new, hV.same, hV.kind, hV.void, hV.froz⟩ hz hI2 (hl.trans ⟨rfl, rfl, rfl, Nat.le_refl _, fun _ _ _ => rfl⟩))
    · obtain ⟨gs', ops, q', b1, b2, b3, b4, b5, b6⟩ := hI.slip (w := w.at d) (sl := sl') h0 (fun a b w => woken_running hr) hpos hi hgr
      exact run_join (N := 1) (by simp only [runNT, hst, b1]) (im (sumTo gs'.size q') (by rw [b3, ← hm]; exact b5) gs' (w.at d) sl' (t ++ ops) q' b2 (by omega) ⟨hV.size, hV.new, hV.same, hV.kind, hV.void, hV.froz⟩ hz b4 (hl.trans ⟨rfl, rfl, rfl, Nat.le_refl _, fun _ _ _ => rfl⟩) rfl)

/-- A call by its contract. -/
theorem ends_call {S X : FuncId → Bool} (hT : Tame P S X) (hSh : ∀ l, Sh l → ∃ a, l = .cell a ∧ κ a.block = .void) {f : FuncId} (hf : S f = true) (hres : ∀ fn, P.funcs[f]? = some fn → slotRes fn = true) {u : World} (hV : View κ u u) {args : Array Value} {R : Value → World → Prop}
    (hR : ∀ v u τ d, R v (tp u τ d) → R v u) (h : ∀ τ d, Calls P f args (tp u τ d) fun e w' => ∃ v, e = .returned v ∧ R v w') {c : Frame} {cs : List Frame} (hK : ∀ v u', R v u' → EndsOk P Post W Sh κ M (G (c.finish v) cs) u') :
    EndsOk P Post W Sh κ M (G (Frame.enter P f args .normal) (c :: cs)) u := by
  obtain ⟨hr, hL⟩ := reach_call hT hf hres hV hR h
  refine ends_reach hT (.inl ⟨rfl, rfl⟩) hSh TRet.only TRet.notLive hr (hL (c :: cs)) fun ĝ' g' u' hD hT' => ?_
  obtain ⟨t1, t2, t3, t4, fn, t5, t6, t7⟩ := hT'
  rcases hD with ⟨b, a, todo, d1, d2, d3, rfl, rfl⟩ | ⟨e1, _⟩
  · refine ends_pure (g' := G (c.finish (resV fn a.tmps)) cs) rfl (fun w => ?_) (hK _ u' t7)
    rw [stepG_leave d2 d3 t5 (by rw [results_slots t6]; rfl) (by rw [results_slots t6]; rfl)]
  · cases e1

theorem EndsOk.blind {g : Goroutine} {u : World} {τ : Nat → Question → Nat} {d : Nat} (h : EndsOk P Post W Sh κ M g (tp u τ d)) : EndsOk P Post W Sh κ M g u :=
  fun gs w sl t q h0 hgm hV hz hI hl => h gs w sl t q h0 hgm ⟨hV.size, hV.new, hV.same, hV.kind, hV.void, hV.froz⟩ hz hI hl

/-- What is asked behind a piece of code. -/
def QE (P : Program) (Post : Value → World → Prop) (W : World) (Sh : Loc → Prop) (κ : Nat → Kd) (M : Nat) (b : Frame) (k : List Item) (cs : List Frame) : Exit → Act → World → Prop
  | .normal, a, u => EndsOk P Post W Sh κ M (G (b.at a k) cs) u
  | .ret, a, u => ∀ todo, EndsOk P Post W Sh κ M (G { b.at a todo with mode := .returning } cs) u
  | _, _, _ => False

def TCode (Q : Exit → Act → World → Prop) (b : Frame) (ĝ : Goroutine) (u : World) : Prop :=
  (∃ a', Q .normal a' u ∧ ĝ = G (b.at a' [.code (.refuse "")]) [cc]) ∨ (∃ a' todo, Q .ret a' u ∧ ĝ = G { b.at a' todo with mode := .returning } [cc])

/-- ████ A piece of code that starts no goroutine: walked as ever. ████ -/
theorem ends_code {S X : FuncId → Bool} (hT : Tame P S X) (hSh : ∀ l, Sh l → ∃ a, l = .cell a ∧ κ a.block = .void) {b : Frame} {a : Act} {c : Code} {k : List Item} {cs : List Frame} {u : World} (hV : View κ u u)
    (hb : (P.funcs[b.fn]?).isSome = true) (hk : b.kind = .normal) (ha : a.defers = []) (hc : okCode P S X c = true) (h : ∀ τ d, c.wp P (QE P Post W Sh κ M b k cs) a (tp u τ d)) :
    EndsOk P Post W Sh κ M (G (b.at a (.code c :: k)) cs) u := by
  have hL : ∀ k' cs', Live P S X [.code (.refuse "")] k' [cc] cs' (G (b.at a (.code c :: [.code (.refuse "")])) [cc]) (G (b.at a (.code c :: k')) cs') := fun k' cs' =>
    .inl (Twin.base b a (.code c) [] hb hk ha hc rfl)
  have hE : AtEndOnly (TCode (QE P Post W Sh κ M b k cs) b) := by
    rintro g u (⟨a', _, rfl⟩ | ⟨a', todo, _, rfl⟩)
    · exact ⟨rfl, fun ch e => by cases e⟩
    · exact ⟨rfl, fun ch e => by cases e⟩
  have hR : Reach P (TCode (QE P Post W Sh κ M b k cs) b) (G (b.at a (.code c :: [.code (.refuse "")])) [cc]) u := by
    refine reach_of hT (.inr rfl) hE (fun g u τ d hx => ?_) (hL _ _) hV fun τ d => ?_
    · rcases hx with ⟨a', q, e⟩ | ⟨a', todo, q, e⟩
      · exact .inl ⟨a', EndsOk.blind q, e⟩
      · exact .inr ⟨a', todo, fun t => EndsOk.blind (q t), e⟩
    · obtain ⟨e, a', w', q, r⟩ := h τ d b [.code (.refuse "")] [cc]
      cases e with
      | normal => obtain ⟨n, hn⟩ := r; exact ⟨n, _, w', hn, .inl ⟨a', q, rfl⟩⟩
      | ret => obtain ⟨todo, n, hn⟩ := r; exact ⟨n, _, w', hn, .inr ⟨a', todo, q, rfl⟩⟩
      | _ => exact q.elim
  refine ends_reach hT (.inr rfl) hSh hE (fun ĝ g u ht hl => ?_) hR (hL k cs) fun ĝ' g' u' hD ht => ?_
  · have h1 := (hE _ _ ht).1
    rcases hl with hl | ⟨e, _⟩
    · cases hl with
      | base b' a' y ys =>
        rcases ht with ⟨a2, _, e⟩ | ⟨a2, todo, _, e⟩
        · have := congrArg (fun g : Goroutine => g.frame.todo.length) e
          simp [G, Frame.at] at this
        · have := congrArg (fun g : Goroutine => g.frame.mode) e
          simp [G, Frame.at] at this
      | inner => have := congrArg List.length h1; simp [G] at this
      | leaves => have := congrArg List.length h1; simp [G] at this
    · cases e
  · rcases hD with ⟨b', a', todo, d1, d2, d3, rfl, rfl⟩ | ⟨e1, b', a', d1, d2, d3, rfl, rfl⟩
    · rcases ht with ⟨a2, _, e⟩ | ⟨a2, todo2, q, e⟩
      · have := congrArg (fun g : Goroutine => g.frame.mode) e
        simp [G, Frame.at] at this
      · have e' := congrArg Goroutine.frame e
        simp only [G, Frame.at, Frame.mk.injEq] at e'
        have hq := q (todo ++ k)
        have : ({ b'.at a' (todo ++ k) with mode := .returning } : Frame) = { b.at a2 (todo ++ k) with mode := .returning } := by
          simp only [Frame.at, Frame.mk.injEq, and_true, true_and]
          exact ⟨e'.1, e'.2.1, e'.2.2.2.1, e'.2.2.2.2.2.1⟩
        rw [this]
        exact hq
    · rcases ht with ⟨a2, q, e⟩ | ⟨a2, todo2, _, e⟩
      · have e' := congrArg Goroutine.frame e
        simp only [G, Frame.at, Frame.mk.injEq] at e'
        have : b'.at a' k = b.at a2 k := by
          simp only [Frame.at, Frame.mk.injEq, and_true, true_and]
          exact ⟨e'.1, e'.2.1, e'.2.2.2.1, e'.2.2.2.2.2.1⟩
        rw [this]
        exact q
      · have := congrArg (fun g : Goroutine => g.frame.mode) e
        simp [G, Frame.at] at this

/-- The law's own return. -/
theorem ends_done {b : Frame} {a : Act} {todo : List Item} {fn : Func} {u : World} (hk : b.kind = .normal) (ha : a.defers = []) (hf : P.funcs[b.fn]? = some fn) (hi : P.inits.idxOf? b.fn = none) (hs : slotRes fn = true)
    (hP : ∀ w, View κ u w → u.heap.size = w.heap.size → Left κ W w → Post (resV fn a.tmps) w) : EndsOk P Post W Sh κ M (G { b.at a todo with mode := .returning } []) u := by
  intro gs w sl t q h0 hgm hV hz hI hl
  have hend : ∀ w, stepG P true (G { b.at a todo with mode := .returning } []) w = .ended (.done (resV fn a.tmps)) w #[] := fun w => by
    simp [G, stepG, unwind, doReturn, Frame.at, hk, ha, hf, results_slots hs, Sem.runT, -Sem.runT_eq, hi, GStep.after, seen]
  generalize hg : G { b.at a todo with mode := .returning } [] = g at h0 hend
  have hr : g.status = .running := by rw [← hg]; rfl
  generalize hm : sumTo gs.size q = m
  induction m using Nat.strongRecOn generalizing gs w sl t q with
  | _ m im =>
    have haw : ∀ x ∈ gs, awake x := by
      intro x hx
      obtain ⟨i, hi, rfl⟩ := Array.mem_iff_getElem.1 hx
      rcases Nat.eq_zero_or_pos i with rfl | hpos
      · have : gs[0] = g := by simpa [Array.getElem?_eq_getElem hi] using h0
        rw [this]; exact awake_of (.inl hr)
      · exact awake_of ((hI.leave.old i _ hpos (Array.getElem?_eq_getElem hi)).status.elim .inl fun x => .inr (.inr x))
    obtain ⟨i, gi, d, sl', hi, hgr, hst⟩ := crowd_pick (P := P) (w := w) (sl := sl) haw ⟨0, g, h0, hr⟩
    rcases Nat.eq_zero_or_pos i with rfl | hpos
    · obtain rfl : gi = g := by rw [h0] at hi; exact (Option.some.inj hi).symm
      have hrunT := runT_many_ended (P := P) (sl := sl') (i := 0) h0 (show stepG P (0 == 0) gi (w.at d) = _ from hend (w.at d))
      have hstep := hst.trans hrunT
      have hops : MemOp.ofEvents 0 gi.frame.fn gi.frame.place #[] = #[] := rfl
      refine ⟨0, crowd gs w sl, .done (resV fn a.tmps), w.at d, t, by simp only [runNT, hstep, hops]; simp, rfl, by rw [step, hstep], resV fn a.tmps, rfl, hP _ ⟨hV.size, hV.new, hV.same, hV.kind, hV.void, hV.froz⟩ hz (hl.trans ⟨rfl, rfl, rfl, Nat.le_refl _, fun _ _ _ => rfl⟩), hI.ct.nr, hI.over, ⟨fun x hx => ?_, rfl⟩, fun j x hx hj => ?_⟩
      · obtain ⟨j, hj⟩ := List.mem_iff_getElem?.1 hx
        rw [List.getElem?_drop] at hj
        exact ⟨_, (hI.leave.old (1 + j) x (by omega) (by simpa [crowd] using hj)).leaves⟩
      · exact ⟨q j, (hI.leave.old j x (by omega) hx).hears _⟩
    · obtain ⟨gs', ops, q', b1, b2, b3, b4, b5, b6⟩ := hI.slip (w := w.at d) (sl := sl') h0 (fun a b w => woken_running hr) hpos hi hgr
      exact run_join (N := 1) (by simp only [runNT, hst, b1]) (im (sumTo gs'.size q') (by rw [b3, ← hm]; exact b5) gs' (w.at d) sl' (t ++ ops) q' (by omega) ⟨hV.size, hV.new, hV.same, hV.kind, hV.void, hV.froz⟩ hz b4 (hl.trans ⟨rfl, rfl, rfl, Nat.le_refl _, fun _ _ _ => rfl⟩) b2 rfl)
end
end Go.Proofs.Ytpioacgknamemaa
