/- A call of where beside leavers. -/
import Derived.Test.YtpioacgknamemaaPlaces
set_option linter.unusedSectionVars false
namespace Go.Proofs.Ytpioacgknamemaa
open Go Go.RowKit Go.Conc Go.ConcN

theorem Try.info36 : (Try.prog.info? 36).map (fun i => (i.zero, i.size, i.bytes)) = some (some (.int .u64 0), 1, 8) := by kernel_rfl
theorem keyV_len (ks : List Nat) : (keyV ks).length = ks.length := by simp [keyV]
theorem keyV_one {ks : List Nat} : ∀ u ∈ keyV ks, u.oneCell' = true := fun u hu => by obtain ⟨x, _, rfl⟩ := List.mem_map.1 hu; rfl
def plus2 (ks : List Nat) : List Nat := ks ++ [1, 9223372036854775808]
theorem plus2_len (ks : List Nat) : (plus2 ks).length = ks.length + 2 := by simp [plus2]
theorem keyV_plus2 (ks : List Nat) : keyV ks ++ [.int .u64 1, .int .u64 9223372036854775808] = keyV (plus2 ks) := by simp [keyV, plus2]

/-- The keys that are handed in. -/
structure KeysAt (w : World) (ao : Option Addr) (ks : List Nat) : Prop where
  src : SrcOk w ao 1 ks.length (keyV ks)
  lt : ∀ x ∈ ks, x < 18446744073709551616

theorem KeysAt.keep {w w' : World} {ao : Option Addr} {ks : List Nat} (h : KeysAt w ao ks) (hb : ∀ a, ao = some a → 0 < ks.length → w'.heap[a.block]? = w.heap[a.block]?) : KeysAt w' ao ks := by
  refine ⟨⟨h.src.1, h.src.2.1, fun a ha j x hx => ?_, h.src.2.2.2⟩, h.lt⟩
  have hj : 0 < ks.length := by
    have := (List.getElem?_eq_some_iff.1 hx).1
    rw [keyV_len] at this
    omega
  have hc := h.src.2.2.1 a ha j x hx
  rw [World.cell?_of_block (w := w)]
  · exact hc
  · have e : (a.add j).block = a.block := by unfold Addr.add; split <;> rfl
    rw [e]
    exact hb a ha hj

theorem plus2_lt {ks : List Nat} (h : ∀ x ∈ ks, x < 18446744073709551616) : ∀ x ∈ plus2 ks, x < 18446744073709551616 := fun x hx => by
  simp only [plus2, List.mem_append, List.mem_cons, List.not_mem_nil, or_false] at hx
  rcases hx with hx | rfl | rfl
  · exact h x hx
  · decide
  · decide

/-- Where the loop of where stands. -/
structure LpW (ws wr : World) (g : Nat) (tkv rwv : Value) (tk : List Int) (rs : List (Value × List Int)) (m : Nat) (ks : List Nat) (k : Nat) (out : Value) : Prop where
  frm : Frm (fun b => b = g) ws wr
  pool : PoolX wr g tkv rwv tk rs (cnt (m + k))
  own : wr.ownsRow 0 3 1 out k ((ks.take k).map fun x => .int .i64 (whr tk (rs.map (·.2)) x))
  new : ∀ b, out.ownBlock = some b → ws.heap.size ≤ b

theorem LpW.asked {ws wr : World} {g : Nat} {tkv rwv : Value} {tk : List Int} {rs : List (Value × List Int)} {m : Nat} {ks : List Nat} {k : Nat} {out : Value} (h : LpW ws wr g tkv rwv tk rs m ks k out) :
    (ask wr g (more (cnt (m + k)) 1)).ownsRow 0 3 1 out k ((ks.take k).map fun x => .int .i64 (whr tk (rs.map (·.2)) x)) :=
  (ask_frm wr g _).owns h.own (fun b hb e => owns_ne h.own h.pool.blk (by decide) (e ▸ hb))

theorem LpW.frm' {ws wr : World} {g : Nat} {tkv rwv : Value} {tk : List Int} {rs : List (Value × List Int)} {m : Nat} {ks : List Nat} {k : Nat} {out : Value} (h : LpW ws wr g tkv rwv tk rs m ks k out) (a : Int) :
    Frm (fun b => b = g) ws (ask wr g a) := h.frm.setCell (p := ⟨g, 2, none⟩) (.inl rfl) _

theorem LpW.step {ws wr w1 : World} {g : Nat} {tkv rwv : Value} {tk : List Int} {rs : List (Value × List Int)} {m : Nat} {ks : List Nat} {k : Nat} {out out' : Value} {o : Obj} {x : Nat} (h : LpW ws wr g tkv rwv tk rs m ks k out) (hx : ks[k]? = some x) {a0 : Int} (h0 : PoolX ws g tkv rwv tk rs a0)
    (hA : App ((ask wr g (more (cnt (m + k)) 1)).alloc o) w1 3 1 out out' k 1 ((ks.take k).map fun x => .int .i64 (whr tk (rs.map (·.2)) x)) [.int .i64 (whr tk (rs.map (·.2)) x)]) : LpW ws w1 g tkv rwv tk rs m ks (k + 1) out' := by
  have hz := h.frm.size
  have hgl : g < ws.heap.size := lt_of_block h0.blk
  have hp := h.pool.ask (more (cnt (m + k)) 1)
  have e : more (cnt (m + k)) 1 = cnt (m + (k + 1)) := more_cnt (m + k) 1
  have hF : Frm (fun b => some b = out.ownBlock) (ask wr g (more (cnt (m + k)) 1)) w1 := (((Frm.refl (fun b => some b = out.ownBlock) _).alloc o)).grown hA.grown (fun b hb => .inl hb.symm)
  have hg : out.ownBlock ≠ some g := fun e => by have := h.new g e; omega
  have hlt : ∀ b, b < ws.heap.size → ¬ (some b = out.ownBlock) := fun b hb e => by have := h.new b e.symm; omega
  rw [e] at hp
  refine ⟨?_, hp.frm (by rw [← e]; exact hF) (hlt g hgl) (fun b hb => hlt b (owns_lt h0.tk hb)) (fun b hb => hlt b (owns_lt h0.rw' hb)) (fun i v row b hi hb => hlt b (owns_lt (h0.rows i v row hi) hb)), ?_, fun b hb => ?_⟩
  · exact (h.frm' _).trans hF (fun _ s => s) (fun b hb e => absurd e (hlt b hb))
  · have := hA.own
    rw [List.take_add_one, hx]
    simpa using this
  · rcases hA.new b hb with q | q
    · exact h.new b q
    · simp [ask] at q
      omega

noncomputable def body12 : Code := Try.f12.body.getD .skip
noncomputable def R12 : Code := match body12 with | .seq _ (.seq _ (.seq _ (.seq _ (.seq _ (.seq _ r))))) => r | _ => .skip

set_option maxRecDepth 100000 in
set_option maxHeartbeats 4000000 in
/-- Behind Places: each key by itself. -/
theorem where_rest {cd : Code} (hcd : cd = R12) {Q : Exit → Act → World → Prop} (ws : World) {g lb kc ll lc z ac m : Nat} {tkv rwv : Value} {tk : List Int} {rs : List (Value × List Int)} {ks : List Nat} {st : List Int}
    (h0 : PoolX ws g tkv rwv tk rs (cnt m)) (hG : GoodRows tk (rs.map (·.2))) (hks : ∀ x ∈ ks, x < 18446744073709551616) (hlen : ks.length * 8 ≤ 140737488355328) (hst : st.length < 1000) (hin : ∀ x ∈ ks, whr tk (rs.map (·.2)) x ∈ st)
    (hk : ws.ownsRow 0 36 1 (.slice (some ⟨lb, 0, none⟩) ks.length kc) ks.length (keyV ks)) (hl : ws.ownsRow 0 3 1 (.slice (some ⟨ll, 0, none⟩) st.length lc) st.length (st.map (Value.int .i64))) (ha : ws.ownsRow 0 3 1 (.slice (some ⟨z, 0, none⟩) ks.length ac) ks.length (ks.map fun x => .int .i64 (whr tk (rs.map (·.2)) x)))
    {x1 x2 x3 x4 x5 x9 x10 x11 x12 x13 x14 x15 x16 x17 x18 x19 x20 x21 x22 x23 x24 x25 x26 x27 x28 x29 x30 x31 x32 x33 x34 x35 x36 x37 x38 x39 x40 x41 x42 x43 x44 x45 x46 x47 x48 x49 x50 x51 x52 x53 x54 x55 x56 x57 x58 : Value}
    (hQ : ∀ out w' T', LpW ws w' g tkv rwv tk rs m ks ks.length out → T'.getD 4 undef = out → T'.getD 5 undef = .bool true → Q .ret ⟨T', []⟩ w') :
    cd.wp Try.prog Q ⟨#[.pointer (some ⟨g, 0, none⟩), x1, x2, x3, x4, x5, .slice (some ⟨lb, 0, none⟩) ks.length kc, .slice (some ⟨ll, 0, none⟩) st.length lc, .slice (some ⟨z, 0, none⟩) ks.length ac, x9, x10, x11, x12, x13, x14, x15, x16, x17, x18, x19, x20, x21, x22, x23, x24, x25, x26, x27, x28, x29, x30, x31, x32, x33, x34, x35, x36, x37, x38, x39, x40, x41, x42, x43, x44, x45, x46, x47, x48, x49, x50, x51, x52, x53, x54, x55, x56, x57, x58], []⟩ ws := by
  have hgl : g < ws.heap.size := lt_of_block h0.blk
  have hlb : lb ≠ g := fun e => owns_ne hk h0.blk (by decide) (by rw [e]; rfl)
  have hll : ll ≠ g := fun e => owns_ne hl h0.blk (by decide) (by rw [e]; rfl)
  have hzz : z ≠ g := fun e => owns_ne ha h0.blk (by decide) (by rw [e]; rfl)
  have hst0 : LpW ws ws g tkv rwv tk rs m ks 0 (.slice none 0 0) := ⟨Frm.refl _ _, h0, by simpa using World.ownsRow_nil _ _ _ _, fun b hb => by simp [Value.ownBlock] at hb⟩
  subst hcd
  simp only [R12, body12, Try.f12, Option.getD_some]
  go_wp2
  go_loopw [9, 10] (fun out i wr => ∃ k : Nat, k ≤ ks.length ∧ i = .int .i64 k ∧ Hid (LpW ws wr g tkv rwv tk rs m ks k out)) (fun _ i _ => ks.length - (intOf i).toNat)
  case atStart => exact ⟨0, Nat.zero_le _, rfl, hst0⟩
  case round =>
    obtain ⟨k, hkk, rfl, H⟩ := hrel
    by_cases hlt : k < ks.length
    · obtain ⟨x, hx⟩ : ∃ x, ks[k]? = some x := ⟨ks[k], List.getElem?_eq_getElem hlt⟩
      have hxm : x ∈ ks := List.mem_of_getElem? hx
      have hx64 := hks x hxm
      have hP := H.out.pool
      have hA := H.out.asked
      have hF1 := H.out.frm
      have hF2 := H.out.frm' (more (cnt (m + k)) 1)
      have hc1 : wr.cell? ⟨lb, k, none⟩ = some (.int .u64 x) := by
        rw [(hF1.owns hk (fun b hb e => hlb (by simp [Value.ownBlock] at hb; omega))).cellAt k (by omega)]
        simp [keyV, hx]
      have hc2 : (ask wr g (more (cnt (m + k)) 1)).cell? ⟨z, k, none⟩ = some (.int .i64 (whr tk (rs.map (·.2)) x)) := by
        rw [(hF2.owns ha (fun b hb e => hzz (by simp [Value.ownBlock] at hb; omega))).cellAt k (by omega)]
        simp [hx]
      obtain ⟨ao', c', e', hRd, -⟩ := owns_rd (hF2.owns hl (fun b hb e => hll (by simp [Value.ownBlock] at hb; omega)))
      cases e'
      have HI : Hid (decide (whr tk (rs.map (·.2)) x ∈ st) = true) := by
        show decide _ = true
        simp [hin x hxm]
      have ha1 := add0 lb k
      have ha2 := add0 z k
      obtain ⟨ao2, cap2, rfl⟩ := owns_shape hA
      have HX : Hid (ks[k]? = some x) := hx
      clear hin hF1 hF2 hx hk hl ha hst0
      go_wp2_with (first
        | (go_at_call 20; refine (place_any _ g tkv rwv tk rs _ hP hG x hx64).mono ?_; rintro e w1 ⟨rfl, hw1⟩; obtain rfl := hw1.symm)
        | (go_at_call 21; refine (in_any _ lc st _ _ hRd hst).mono ?_; rintro e w2 ⟨rfl, hw2⟩; obtain rfl := hw2.symm; rw [HI.out])
        | (at_builtin; refine wpList_app _ rfl (.tmp 54) (.tmp 56) 22 rfl 3 (.int .i64 0) 1 8 Try.underlying22 Try.info3 rfl (by decide) (.slice ao2 k cap2) k _ rfl (by exact hA.alloc _) _ 1 1 [.int .i64 (whr tk (rs.map (·.2)) x)] rfl (by exact src_list _ _ [_] (by simp [Value.oneCell'])) (by simp) (by simp only [maxLen]; omega) (by omega) ?_; intro v1 w1 hApp))
      go_roundw
      case rel => exact ⟨k + 1, by omega, by go_num, H.out.step HX.out h0 hApp⟩
      case measure => simp [intOf]; omega
    · have hke : k = ks.length := by omega
      subst hke
      clear hin hk hl ha hst0
      go_wp2
      exact hQ _ _ _ H.out rfl rfl
end Go.Proofs.Ytpioacgknamemaa
set_option linter.unusedSectionVars false
namespace Go.Proofs.Ytpioacgknamemaa
open Go Go.RowKit Go.Conc Go.ConcN

theorem res12 (t : Array Value) : resV Try.f12 t = .tuple #[t.getD 4 undef, t.getD 5 undef] := by
  simp [resV, oneV, slotV]
theorem some12 : (Try.prog.funcs[(base 12).fn]?).isSome = true := by show (Try.prog.funcs[(12 : Nat)]?).isSome = true; rw [Try.func12]; rfl
theorem NewList.tp {w w' : World} {τ : Nat → Question → Nat} {d : Nat} {l : Value} {xs : List Int} (h : NewList (tp w τ d) w' l xs) : w'.ownsRow 0 3 1 l xs.length (xs.map (Value.int .i64)) ∧ Hp NoB w w' ∧ ∀ k, l.ownBlock = some k → w.heap.size ≤ k := ⟨h.1, h.2.1.hp, h.2.2⟩
theorem KeysAt.tp {w : World} {ao : Option Addr} {ks : List Nat} (h : KeysAt w ao ks) (τ : Nat → Question → Nat) (d : Nat) : KeysAt (tp w τ d) ao ks := ⟨h.src, h.lt⟩

section
variable {Post : Value → World → Prop} {W : World} {Sh : Loc → Prop} {κ : Nat → Kd} {N : Nat} {u : World} {c : Frame} {cs : List Frame}

set_option maxRecDepth 100000 in
set_option maxHeartbeats 2000000 in
theorem ends_where (hSh : ∀ l, Sh l → ∃ a, l = .cell a ∧ κ a.block = .void) {g : Nat} {tkv rwv v : Value} {tk row : List Int} {rs : List (Value × List Int)} {m : Nat} (h : PoolX u g tkv rwv tk (rs ++ [(v, row)]) (cnt m)) (hG : GoodRows tk ((rs ++ [(v, row)]).map (·.2)))
    (hl : rs.length ≤ 1000) (hr1 : 1 ≤ row.length) (hr2 : row.length < 1000) (hin : ∀ x, x < 18446744073709551616 → whr tk ((rs ++ [(v, row)]).map (·.2)) x ∈ row)
    {ao : Option Addr} {kc : Nat} {ks : List Nat} (hKs : KeysAt u ao ks) (hc : ao = none → kc = 0) (hlen : (ks.length + 2) * 8 ≤ 140737488355328) (hN : N + 8 < 2147483648)
    (hK : ∀ (Sh' : Loc → Prop) (κ' : Nat → Kd) (u' : World) (out : Value), (∀ l, Sh' l → ∃ a, l = .cell a ∧ κ' a.block = .void) → Hp (fun k => k = g) u u' → (∀ r, r < u.heap.size → κ' r = κ r) → PoolX u' g tkv rwv tk (rs ++ [(v, row)]) (cnt (m + 2 * (ks.length + 2))) → (∀ b, out.ownBlock = some b → u.heap.size ≤ b) →
      u'.ownsRow 0 3 1 out (ks.length + 2) ((plus2 ks).map fun x => .int .i64 (whr tk ((rs ++ [(v, row)]).map (·.2)) x)) →
      EndsOk Try.prog Post W Sh' κ' (N + 8) (G (c.finish (.tuple #[out, .bool true])) cs) u') :
    EndsOk Try.prog Post W Sh κ N (G (Frame.enter Try.prog 12 #[.pointer (some ⟨g, 0, none⟩), .slice ao ks.length kc] .normal) (c :: cs)) u := by
  rw [Go.Conc.enter_at _ Try.func12 rfl]
  simp only [Try.f12, List.size_toArray, List.length_cons, List.length_nil, Nat.reduceAdd, Nat.reduceSub, Array.replicate_succ, Array.replicate_zero, List.push_toArray, List.append_toArray, List.nil_append, List.cons_append]
  refine ends_seq ?_
  refine ends_view fun hV => ends_code tame hSh hV some12 rfl rfl (by kernel_rfl) fun τ d => ?_
  go_wp2
  refine EndsOk.at (u := u) ?_ rfl
  clear hV τ d
  refine ends_seq ?_
  refine ends_view fun hV => ends_code tame hSh hV some12 rfl rfl (by kernel_rfl) fun τ d => ?_
  go_wp2
  refine EndsOk.at (u := u) ?_ rfl
  clear hV τ d
  refine ends_seq ?_
  refine ends_view fun hV => ends_code tame hSh hV some12 rfl rfl (by kernel_rfl) fun τ d => ?_
  have hK1 := hKs.tp τ d
  go_wp2_with (at_builtin; refine wpList_app _ rfl (.tmp 13) (.tmp 14) 23 rfl 36 (.int .u64 0) 1 8 Try.underlying23 Try.info36 rfl (by decide) (.slice none 0 0) 0 [] rfl (World.ownsRow_nil _ _ _ _) ao ks.length kc (keyV ks) rfl hK1.src hc (by simp only [maxLen]; omega) (by omega) ?_; intro v1 w1 hA1)
  clear hK1
  have hF1 : Hp NoB u w1 := ((Frm.refl NoB _).grown hA1.grown (fun k hk => by simp [Value.ownBlock] at hk)).hp
  have ho1 : w1.ownsRow 0 36 1 v1 ks.length (keyV ks) := by simpa using hA1.own
  have hn1 : ∀ b, v1.ownBlock = some b → u.heap.size ≤ b := fun b hb => by
    rcases hA1.new b hb with q | q
    · simp [Value.ownBlock] at q
    · exact q
  clear hA1 hV τ d
  refine ends_seq ?_
  refine ends_view fun hV => ends_code tame hSh hV some12 rfl rfl (by kernel_rfl) fun τ d => ?_
  obtain ⟨ao1, cp1, rfl⟩ := owns_shape ho1
  go_wp2_with (at_builtin; refine wpList_app _ rfl (.tmp 16) (.tmp 17) 23 rfl 36 (.int .u64 0) 1 8 Try.underlying23 Try.info36 rfl (by decide) (.slice ao1 ks.length cp1) ks.length (keyV ks) rfl (by exact World.ownsRow.alloc (w := tp w1 τ d) ho1 _) _ 2 2 [.int .u64 1, .int .u64 9223372036854775808] rfl (by exact src_list _ _ [_, _] (by simp [Value.oneCell'])) (by simp) (by simp only [maxLen]; omega) (by omega) ?_; intro v2 w2 hA2)
  have E2 : Hid ((plus2 ks).length = ks.length + 2) := plus2_len ks
  have hl1 : 1 ≤ (plus2 ks).length := by have := E2.out; omega
  have hl8 : 8 * (plus2 ks).length ≤ 281474976710656 := by have := E2.out; omega
  have hl9 : (plus2 ks).length * 8 ≤ 140737488355328 := by have := E2.out; omega
  have hF2 : Hp NoB u w2 := by
    have q : Hp (fun b => some b = (Value.slice ao1 ks.length cp1).ownBlock) w1 w2 := (((Frm.refl (fun b => some b = (Value.slice ao1 ks.length cp1).ownBlock) (tp w1 τ d)).alloc _).grown hA2.grown (fun b hb => .inl hb.symm)).hp
    exact hF1.trans q (fun _ s => s) (fun b hb e => by have := hn1 b e.symm; omega)
  have ho2 : w2.ownsRow 0 36 1 v2 (plus2 ks).length (keyV (plus2 ks)) := by
    have := hA2.own
    rw [keyV_plus2] at this
    rw [E2.out]
    exact this
  have hn2 : ∀ b, v2.ownBlock = some b → u.heap.size ≤ b := fun b hb => by
    rcases hA2.new b hb with q | q
    · exact hn1 b q
    · have := hF1.size'
      simp [tp] at q
      omega
  clear hA2 hV ho1 hn1
  have hP2 := h.hp hF2 (fun s => s) (fun _ _ s => s) (fun _ _ s => s) (fun _ _ _ _ _ _ s => s)
  obtain ⟨lb, cp2, rfl⟩ : ∃ lb cp2, v2 = .slice (some ⟨lb, 0, none⟩) (plus2 ks).length cp2 := by
    rcases ho2.2 with ⟨_, q⟩ | ⟨lb, cp, cur, e, _⟩
    · omega
    · exact ⟨lb, cp, e⟩
  refine ends_seq ?_
  refine ends_view fun hV => ends_code tame hSh hV some12 rfl rfl (by kernel_rfl) fun τ d => ?_
  go_wp2_with (go_at_call 10; refine (pool_standing _ g tkv rwv tk rs v row (cnt m) (hP2.tp τ d) hl hr1 (by omega)).mono ?_; rintro e w3 ⟨l, rfl, hN3⟩)
  obtain ⟨ho3, hF3, hn3⟩ := hN3.tp
  clear hN3 hV
  obtain ⟨ll, cp3, rfl⟩ : ∃ ll cp3, l = .slice (some ⟨ll, 0, none⟩) (srt row).length cp3 := by
    have := srt_length row
    rcases ho3.2 with ⟨_, q⟩ | ⟨lb, cp, cur, e, _⟩
    · omega
    · exact ⟨lb, cp, e⟩
  have hP3 := hP2.hp hF3 (fun s => s) (fun _ _ s => s) (fun _ _ s => s) (fun _ _ _ _ _ _ s => s)
  have hk3 := hF3.owns ho2 (fun _ _ s => s)
  have hF03 : Hp NoB u w3 := hF2.trans hF3 (fun _ s => s) (fun _ _ s => s)
  refine ends_seq ?_
  refine ends_reg rfl ?_
  simp only [List.size_toArray, List.length_cons, List.length_nil, Nat.reduceAdd, Nat.zero_add, List.range, List.range.loop]
  refine ends_op rfl rfl (fun w => by simp [go_sem]; rfl) (fun w => by simp [go_sem]) ?_
  walk_nrm
  refine ends_op rfl rfl (fun w => by simp [go_sem]; rfl) (fun w => by simp [go_sem]) ?_
  walk_nrm
  refine ends_into rfl rfl (by k_ne) rfl Try.func19 (by kernel_rfl) rfl ?_
  walk_nrm
  refine ends_places hSh hP3 hG (plus2_lt hKs.lt) hk3 hl1 hl8 hN fun Sh' κ' u' z hSh' hF4 hkk hP4 hz4 ho4 => ?_
  rw [finish_at rfl]
  walk_nrm
  refine ends_op rfl rfl (fun w => by simp [go_sem]; rfl) (fun w => by simp [go_sem]) ?_
  walk_nrm
  refine ends_regEnd ?_
  have hgne : ∀ {t : TypeId} {v : Value} {n : Nat} {xs : List Value}, t ≠ 56 → w3.ownsRow 0 t 1 v n xs → ∀ k, v.ownBlock = some k → ¬ (k = g) := fun ht ho k hk e => owns_ne ho hP3.blk (Ne.symm ht) (e ▸ hk)
  have hk4 := hF4.owns hk3 (hgne (by decide) hk3)
  have hl4 := hF4.owns ho3 (hgne (by decide) ho3)
  refine ends_view fun hV => ends_code tame hSh' hV some12 rfl rfl (by kernel_rfl) fun τ d => ?_
  refine where_rest (by simp only [R12, body12, Try.f12, Option.getD_some]) (tp u' τ d) (hP4.tp τ d) hG (plus2_lt hKs.lt) hl9 (by rw [srt_length]; exact hr2) (fun x hx => mem_srt.2 (hin x (plus2_lt hKs.lt x hx))) hk4 hl4 ho4 ?_
  intro out w5 T' hL t4 t5 todo
  refine ends_leave rfl rfl Try.func12 (by kernel_rfl) ?_
  rw [res12]
  simp only [t4, t5]
  have hF5 : Hp (fun k => k = g) u' w5 := hL.frm.hp
  have hz3 := hF03.size'
  have hz4' := hF4.size'
  refine hK Sh' κ' w5 out hSh' ((hF03.trans hF4 (fun _ s => s.elim) (fun _ _ s => s)).trans hF5 (fun _ s => s) (fun _ _ s => s)) (fun r hr => hkk r (by omega)) ?_ (fun b hb => ?_) ?_
  · have := hL.pool
    rw [E2.out] at this
    rw [show m + 2 * (ks.length + 2) = m + (ks.length + 2) + (ks.length + 2) by omega]
    exact this
  · have : u'.heap.size ≤ b := hL.new b hb
    omega
  · have := hL.own
    rw [List.take_length] at this
    rw [← E2.out]
    exact this
end
end Go.Proofs.Ytpioacgknamemaa
