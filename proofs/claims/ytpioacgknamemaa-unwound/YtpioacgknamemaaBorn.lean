/- A worker from its birth to its release: WaitGroup.Go's literal, FindAll's literal, findEach, the deferred literal, Done. -/
import Derived.Test.YtpioacgknamemaaChild
import Derived.Test.YtpioacgknamemaaWgQ
set_option linter.unusedSectionVars false
set_option linter.unusedSimpArgs false
namespace Go.Proofs.Ytpioacgknamemaa
open Go Go.RowKit Go.Conc Go.ConcN Go.ConcR.Gen Go.Conc.Lib
open Go.ConcR (KK wgBlock WgAt stA smA rd wr mk Payload Aside2 DC0)

noncomputable def bot : Frame := { (default : Frame) with fn := Try.prog.funcs.size, defers := [], mode := .panicking [goexitEntry] }
abbrev ptr (b : Nat) : Value := .pointer (some ⟨b, 0, none⟩)
def call60 (gb gf : Nat) : Deferred := { target := .fn (.func 60) #[ptr gb, ptr gf], args := #[] }
def call61 (gb : Nat) : Deferred := { target := .fn (.func 61) #[ptr gb], args := #[] }
noncomputable def body60 : Code := Try.f60.body.getD .skip
noncomputable def body61 : Code := Try.f61.body.getD .skip
noncomputable def body42 : Code := Try.f42.body.getD .skip

theorem born60 (gb gf : Nat) (w : World) : stepG Try.prog false (born Try.prog (call60 gb gf)) w = .go (G ((baseD 60).at ⟨#[ptr gb, ptr gf, undef, undef, undef], []⟩ [.code body60]) [bot]) w #[] := by
  simp [born, call60, stepG, unwind, callDeferred, invoke, callFunc, Try.func60, Try.f60, seen, GStep.after, G, Frame.enter, Frame.at, baseD, bot, body60]

section
variable {main : Bool} {b : Frame} {a : Act} {k : List Item} {cs : List Frame} {w : World} {ops : Array Oper} {i : Nat} {rest : List Nat} {o : Oper}

theorem step_defer61 {x : Operand} {gb : Nat} {ats : Array TypeId} (ho : ops[i]? = some o) (hw : Region.wanted o (yielded ops a.tmps) = true) (hk : b.kind ≠ .early) (hop : o.op = .defer { callee := .value x, args := #[], argTypes := ats }) (hx : a.eval x = .func (.func 61) #[] #[ptr gb]) (hd : o.dst = none) :
    stepG Try.prog main (G (b.at a (.inRegion ops (i :: rest) :: k)) cs) w = .go (G (b.at ⟨a.tmps, call61 gb :: a.defers⟩ (.inRegion ops rest :: k)) cs) w #[] := by
  have hr : (execOp a.eval o).run Try.prog w = .ok (.defer (call61 gb)) w := by
    unfold execOp
    simp [hop, resolve, Deferred.ofValue, hx, call61]
  have he : (execOp a.eval o).events Try.prog w #[] = #[] := by
    unfold execOp
    simp [hop, resolve, Deferred.ofValue, hx]
  have hfin : (b.at ⟨a.tmps, call61 gb :: a.defers⟩ (.inRegion ops (i :: rest) :: k)).finish undef = b.at ⟨a.tmps, call61 gb :: a.defers⟩ (.inRegion ops rest :: k) := by rw [Frame.finish_at, ho]; simp [hd, Act.put]
  have hk' : (b.kind == CallKind.early) = false := by simpa using hk
  rw [stepG_oper ho hw, ← hfin]
  simp [stepG.apply, hr, he, G, Frame.at, hk', GStep.after, seen_none]

theorem step_call42 {x : Operand} {cap : Array Value} {ats : Array TypeId} (ho : ops[i]? = some o) (hw : Region.wanted o (yielded ops a.tmps) = true) (hk : b.kind ≠ .early) (hop : o.op = .call { callee := .value x, args := #[], argTypes := ats }) (hx : a.eval x = .func (.func 42) #[] cap) :
    stepG Try.prog main (G (b.at a (.inRegion ops (i :: rest) :: k)) cs) w = .go (G (Frame.enter Try.prog 42 cap .normal) (b.at a (.inRegion ops (i :: rest) :: k) :: cs)) w #[] := by
  have hr : (execOp a.eval o).run Try.prog w = .ok (.enter 42 cap) w := by
    unfold execOp
    simp [hop, resolve, Deferred.ofValue, hx, invoke, callFunc, Try.func42, Try.f42]
  have he : (execOp a.eval o).events Try.prog w #[] = #[] := by
    unfold execOp
    simp [hop, resolve, Deferred.ofValue, hx, invoke, callFunc, Try.func42, Try.f42]
  have e : listed Try.prog b.fn a o w = #[] := by unfold listed; rw [he]; exact seen_none _ _
  rw [stepG_enter ho hw hk hr, e]

theorem step_unwind61 {gb : Nat} {todo : List Item} (hd : a.defers = [call61 gb]) :
    stepG Try.prog main (G { b.at a todo with mode := .returning } cs) w = .go (G ((baseD 61).at ⟨#[ptr gb, undef, undef, undef, undef, undef, undef, undef], []⟩ [.code body61]) ({ b.at ⟨a.tmps, []⟩ todo with mode := .returning } :: cs)) w #[] := by
  simp [G, stepG, unwind, callDeferred, Frame.at, hd, call61, invoke, callFunc, Try.func61, Try.f61, GStep.after, seen_none, Frame.enter, baseD, body61]

theorem step_recover {c : Frame} {t : Tmp} {ats : Array TypeId} (ho : ops[i]? = some o) (hw : Region.wanted o (yielded ops a.tmps) = true) (hop : o.op = .call { callee := .builtin .recover, args := #[], argTypes := ats }) (hdst : o.dst = some t) (hc : c.mode = .returning) :
    stepG Try.prog main (G ((baseD 61).at a (.inRegion ops (i :: rest) :: k)) (c :: cs)) w = .go (G ((baseD 61).at (a.put (some t) .nilIface) (.inRegion ops rest :: k)) (c :: cs)) w #[] := by
  have hr : (execOp a.eval o).run Try.prog w = .ok .recover w := by
    unfold execOp
    simp [hop, resolve]
    rfl
  have he : (execOp a.eval o).events Try.prog w #[] = #[] := by
    unfold execOp
    simp [hop, resolve]
    rfl
  have hfin : ((baseD 61).at a (.inRegion ops (i :: rest) :: k)).finish .nilIface = (baseD 61).at (a.put (some t) .nilIface) (.inRegion ops rest :: k) := by rw [Frame.finish_at, ho]; simp [hdst]
  rw [stepG_oper ho hw, ← hfin]
  simp [stepG.apply, hr, he, G, Frame.at, baseD, GStep.after, seen_none, tryRecover, hc]

theorem ev_neq (w : World) (es : Array Event) : (binOp .neq 20 .nilIface .nilIface).events Try.prog w es = es := by
  have h : Try.prog.underlying 20 = some (.interface #[]) := by kernel_rfl
  have e : (Op.equal 20 .nilIface .nilIface).events Try.prog w es = es := by
    unfold Op.equal
    rw [show Op.maxDepth = (Op.maxDepth - 1) + 1 from by rfl]
    simp [Op.equalIn, run_underlying h]
  simp only [binOp, Sem.events_bind, e]
  cases (Op.equal 20 .nilIface .nilIface).run Try.prog w <;> simp
theorem seen_quiet {P : Program} {fn : FuncId} {ad : Addr} {wr : Bool} (hq : (P.funcs[fn]?).any (·.norace) = true) : seen P fn #[⟨.cell ad, wr, false⟩] = #[] := by
  simp [seen, hq]
theorem listed_quiet {P : Program} {fn : FuncId} {a : Act} {o : Oper} {w : World} {ad : Addr} {wr : Bool} (hq : (P.funcs[fn]?).any (·.norace) = true) (h : (execOp a.eval o).events P w #[] = #[⟨.cell ad, wr, false⟩]) : listed P fn a o w = #[] := by
  unfold listed
  rw [h, seen_quiet hq]
end

/-- At the entry of Add(-1); behind it there is only the way out. -/
def AtAdd (Wg : Nat) (g : Goroutine) : Prop :=
  ∃ (b₀ : Frame) (a₀ : Act) (ops₀ : Array Oper) (i₀ : Nat) (rest₀ : List Nat) (k₀ : List Item) (cs : List Frame) (qt : Nat),
    g = G ((base 59).at ⟨#[.pointer (some ⟨Wg, 0, none⟩), .int .i64 (-1), undef, undef, undef, undef, undef, undef, undef, undef, undef, undef, undef, undef, undef, undef, undef, undef, undef, undef, undef, undef, undef, undef, undef, undef, undef, undef, undef, undef, undef, undef, undef, undef, undef, undef, undef, undef, undef, undef, undef, undef, undef, undef, undef, undef, undef, undef, undef, undef, undef, undef, undef, undef, undef, undef, undef, undef, undef, undef, undef, undef, undef, undef, undef, undef, undef, undef, undef, undef, undef, undef, undef, undef, undef, undef, undef, undef, undef, undef, undef, undef, undef, undef, undef, undef, undef, undef, undef, undef, undef, undef, undef, undef, undef, undef, undef, undef, undef, undef, undef, undef, undef, undef, undef, undef, undef, undef, undef, undef, undef, undef, undef, undef, undef, undef, undef], []⟩ [.code (body_add link)]) (b₀.at a₀ (.inRegion ops₀ (i₀ :: rest₀) :: k₀) :: cs) ∧
    QuitsD Try.prog qt 0 (G (b₀.at (a₀.put ((ops₀[i₀]?).bind (·.dst)) (.tuple #[])) (.inRegion ops₀ rest₀ :: k₀)) cs)

section
variable {R : World → World → Prop} {D : World → World → Array Event → Prop}

set_option maxRecDepth 100000 in
set_option maxHeartbeats 4000000 in
theorem work_way (T : Terms R D) (refl : ∀ w, R w w) (hdr : ∀ w : World, D w { w with drawn := w.drawn + 1 } #[]) {S : Value} {lb fb : Addr} {n cap n' fr to gb gf Wg : Nat} {A : Nat → Addr} {key pl : Nat → Int} {F : Nat → World → Prop} (h1 : fr < to) (h2 : to ≤ cap) (h3 : to ≤ n') (hlen : to - fr ≤ 9223372036854775807)
    (hFR : ∀ j w w₁, F j w → R w w₁ → F j w₁) (hdF : ∀ w : World, F 0 w → F 0 { w with drawn := w.drawn + 1 })
    (hr : Reads R D (F 0) S lb fb n cap n' fr to A)
    (hgb : ∀ j w, F j w → w.cell? ⟨gb, 0, none⟩ = some (ptr Wg)) (hgf : ∀ w, F 0 w → w.cell? ⟨gf, 0, none⟩ = some (.func (.func 42) #[] #[.pointer (some (A 0)), .pointer (some (A 1)), .pointer (some (A 2)), .pointer (some (A 3)), .pointer (some (A 4))]))
    (hrd : ∀ j w i, F j w → i < to - fr → w.cell? ((lb.add fr).add i) = some (.int .u64 (key i)) ∧ D w w #[⟨.cell ((lb.add fr).add i), false, false⟩])
    (hfind : ∀ i j w c cs, i < to - fr → F j w → Way Try.prog false R D (fun g' w' => g' = G (c.finish (.int .i64 (pl i))) cs ∧ F j w') (G (Frame.enter Try.prog 34 #[S, .int .u64 (key i)] .normal) (c :: cs)) w)
    (hst : ∀ w i, F i w → i < to - fr → ∃ old, w.cell? ((fb.add fr).add i) = some old ∧ w.frozen? ((fb.add fr).add i) = false ∧ D w (w.setCell ((fb.add fr).add i) (.int .i64 (pl i))) #[⟨.cell ((fb.add fr).add i), true, false⟩] ∧ F (i + 1) (w.setCell ((fb.add fr).add i) (.int .i64 (pl i))))
    {w : World} (hF : F 0 w) : Way Try.prog false R D (fun g w => AtAdd Wg g ∧ F (to - fr) w) (born Try.prog (call60 gb gf)) w := by
  refine Way.ctl T rfl (born60 gb gf) ?_
  simp only [body60, Try.f60, Option.getD_some]
  refine Way.ctl T rfl (fun _ => stepG_seq) ?_
  refine Way.ctl T rfl (fun _ => stepG_region) ?_
  simp only [List.size_toArray, List.length_cons, List.length_nil, Nat.reduceAdd, Nat.zero_add, List.range, List.range.loop]
  refine Way.step rfl (fun w₁ h₁ => ?_)
  replace hF := hFR _ _ _ hF h₁
  clear h₁
  refine goes_oper_k rfl rfl (by k_ne) (fun K hK => ?_)
  go_simp
  refine hK _ _ ⟨by rw [listed_nil (by simp [go_sem, *])]; exact T.idle _, ?_⟩
  clear hK K
  refine Way.ctl T rfl (fun _ => step_defer61 rfl rfl (by k_ne) rfl rfl rfl) ?_
  refine Way.ctl T rfl (fun _ => stepG_region_end) ?_
  refine Way.ctl T rfl (fun _ => stepG_region) ?_
  simp only [List.size_toArray, List.length_cons, List.length_nil, Nat.reduceAdd, Nat.zero_add, List.range, List.range.loop]
  refine Way.step rfl (fun w₁ h₁ => ?_)
  replace hF := hFR _ _ _ hF h₁
  clear h₁
  refine goes_oper_k rfl rfl (by k_ne) (fun K hK => ?_)
  have f0 := hgf _ hF
  go_simp
  refine hK _ _ ⟨by rw [listed_quiet (ad := ⟨gf, 0, none⟩) (wr := false) (by kernel_rfl) (by simp [go_sem, f0])]; exact T.idle _, ?_⟩
  clear hK K f0
  refine Way.ctl T rfl (fun _ => step_call42 rfl rfl (by k_ne) rfl rfl) ?_
  rw [Go.Conc.enter_at _ Try.func42 rfl]
  simp only [Try.ntmps42, List.size_toArray, List.length_cons, List.length_nil, Nat.reduceAdd, Nat.reduceSub, Array.replicate_succ, Array.replicate_zero, List.push_toArray, List.append_toArray, List.nil_append, List.cons_append]
  refine Way.step rfl (fun w₁ h₁ => ?_)
  replace hF := hFR _ _ _ hF h₁
  clear h₁
  rw [stepG_region_draw]
  refine ⟨hdr _, ?_⟩
  rw [show ∀ t, Region.schedule (Try.prog.follows .mixedOrders) _ t = Region.linearise .any _ t from fun t => by rw [show Try.prog.follows .mixedOrders = true by kernel_rfl]; rfl]
  refine lit_any (F := F 0) T hr h1 h2 h3 (by k_ne) (by kernel_rfl) ?_ 10 _ (fun _ => false) _ (by decide) rfl (by simp) (by simp) (hdF _ hF)
  clear hF
  intro w hF
  simp only [cap42, act42, sel, but9, vals42]
  refine way_enter T rfl rfl (by k_ne) rfl Try.func43 (by kernel_rfl) rfl ?_
  walk_nrm
  refine (each_way (F := F) T refl hlen hFR hrd hfind hst hF).trans refl ?_
  rintro g' w' ⟨rfl, hF⟩
  rw [Frame.finish_at]
  walk_nrm
  refine Way.ctl T rfl (fun _ => stepG_region_end) ?_
  refine Way.ctl T rfl (fun _ => stepG_end) ?_
  refine Way.ctl T rfl (fun w => by rw [stepG_leave rfl rfl Try.func42 (results_none rfl _ Try.prog w) (events_results_none rfl _ _), Frame.finish_at]) ?_
  walk_nrm
  refine Way.ctl T rfl (fun _ => stepG_region_end) ?_
  refine Way.ctl T rfl (fun _ => stepG_end) ?_
  refine Way.ctl T rfl (fun _ => step_unwind61 rfl) ?_
  simp only [body61, Try.f61, Option.getD_some]
  refine Way.ctl T rfl (fun _ => stepG_seq) ?_
  refine Way.ctl T rfl (fun _ => stepG_seq) ?_
  refine Way.ctl T rfl (fun _ => stepG_region) ?_
  simp only [List.size_toArray, List.length_cons, List.length_nil, Nat.reduceAdd, Nat.zero_add, List.range, List.range.loop]
  refine Way.ctl T rfl (fun _ => step_recover rfl rfl rfl rfl rfl) ?_
  walk_nrm
  refine Way.step rfl (fun w₁ h₁ => ?_)
  replace hF := hFR _ _ _ hF h₁
  clear h₁
  refine goes_oper_k rfl rfl (by k_ne) (fun K hK => ?_)
  go_simp
  refine hK _ _ ⟨by rw [listed_nil (by simp [go_sem, *])]; exact T.idle _, ?_⟩
  clear hK K
  refine Way.ctl T rfl (fun _ => stepG_region_end) ?_
  refine Way.ctl T rfl (fun _ => stepG_seq) ?_
  refine Way.ctl T rfl (fun _ => stepG_region) ?_
  simp only [List.size_toArray, List.length_cons, List.length_nil, Nat.reduceAdd, Nat.zero_add, List.range, List.range.loop]
  refine Way.step rfl (fun w₁ h₁ => ?_)
  replace hF := hFR _ _ _ hF h₁
  clear h₁
  refine goes_oper_k rfl rfl (by k_ne) (fun K hK => ?_)
  go_simp
  refine hK _ _ ⟨by rw [listed_nil (by simp [go_sem, *])]; exact T.idle _, ?_⟩
  clear hK K
  refine Way.step rfl (fun w₁ h₁ => ?_)
  replace hF := hFR _ _ _ hF h₁
  clear h₁
  refine goes_oper_k rfl rfl (by k_ne) (fun K hK => ?_)
  go_simp
  refine hK _ _ ⟨by rw [listed_nil (by simp [go_sem, *, ev_neq])]; exact T.idle _, ?_⟩
  clear hK K
  refine Way.ctl T rfl (fun _ => stepG_region_end) ?_
  refine Way.ctl T rfl (fun _ => stepG_cond (t := false) rfl) ?_
  simp only [if_true, if_false, Bool.false_eq_true, ↓reduceIte]
  refine Way.ctl T rfl (fun _ => stepG_skip) ?_
  refine Way.ctl T rfl (fun _ => stepG_region) ?_
  simp only [List.size_toArray, List.length_cons, List.length_nil, Nat.reduceAdd, Nat.zero_add, List.range, List.range.loop]
  refine Way.step rfl (fun w₁ h₁ => ?_)
  replace hF := hFR _ _ _ hF h₁
  clear h₁
  refine goes_oper_k rfl rfl (by k_ne) (fun K hK => ?_)
  have f0 := hgb _ _ hF
  go_simp
  refine hK _ _ ⟨by rw [listed_quiet (ad := ⟨gb, 0, none⟩) (wr := false) (by kernel_rfl) (by simp [go_sem, f0])]; exact T.idle _, ?_⟩
  clear hK K f0
  refine way_enter T rfl rfl (by k_ne) rfl Try.func62 (by kernel_rfl) rfl ?_
  rw [Go.Conc.enter_at _ Try.func62 rfl]
  walk_nrm
  simp only [Try.ntmps62, List.size_toArray, List.length_cons, List.length_nil, Nat.reduceAdd, Nat.reduceSub, Array.replicate_succ, Array.replicate_zero, List.push_toArray, List.append_toArray, List.nil_append, List.cons_append]
  refine Way.ctl T rfl (fun _ => stepG_region) ?_
  simp only [List.size_toArray, List.length_cons, List.length_nil, Nat.reduceAdd, Nat.zero_add, List.range, List.range.loop]
  refine Way.step rfl (fun w₁ h₁ => ?_)
  replace hF := hFR _ _ _ hF h₁
  clear h₁
  refine goes_oper_k rfl rfl (by k_ne) (fun K hK => ?_)
  go_simp
  refine hK _ _ ⟨by rw [listed_nil (by simp [go_sem, *])]; exact T.idle _, ?_⟩
  clear hK K
  refine way_enter T rfl rfl (by k_ne) rfl Try.func59 (by kernel_rfl) rfl ?_
  rw [Go.Conc.enter_at _ Try.func59 rfl]
  walk_nrm
  simp only [Try.ntmps59, List.size_toArray, List.length_cons, List.length_nil, Nat.reduceAdd, Nat.reduceSub, Array.replicate_succ, Array.replicate_zero, List.push_toArray, List.append_toArray, List.nil_append, List.cons_append]
  refine .stop fun w₁ h₁ => ⟨⟨_, _, _, _, _, _, _, 8, rfl, ?_⟩, hFR _ _ _ hF h₁⟩
  walk_nrm
  q_c stepG_region_end
  q_c stepG_end
  q_leave0 Try.func62
  q_c stepG_region_end
  q_c stepG_end
  refine QuitsD.leaveD rfl rfl Try.func61 rfl rfl ?_
  refine QuitsD.ctl (g' := G bot []) rfl (fun w => ?_) ?_
  · simp [G, stepG, unwind, doReturn, results, Frame.at, baseD, bot, Try.func60, Try.f60, seen, GStep.after, goexitEntry]
  refine QuitsD.ctl (g' := { G bot [] with status := .finished }) rfl (fun w => ?_) ⟨rfl, rfl⟩
  simp [G, stepG, unwind, bot, goexitEntry, Frame.catches]
  rfl
end
end Go.Proofs.Ytpioacgknamemaa
