/- Grown, whole, beside leavers. -/
import Derived.Test.YtpioacgknamemaaGrown
import Derived.Test.YtpioacgknamemaaStart
set_option linter.unusedSectionVars false
namespace Go.Proofs.Ytpioacgknamemaa
open Go Go.RowKit Go.Conc Go.ConcN

/-- The k-th piece of a code, and what stands behind k pieces. -/
def tailC : Nat → Code → Code
  | 0, c => c
  | k + 1, .seq _ r => tailC k r
  | _ + 1, c => c
def headC : Code → Code
  | .seq a _ => a
  | c => c
noncomputable def K60 : Code := headC (tailC 0 body6)
noncomputable def K61 : Code := headC (tailC 1 body6)
noncomputable def K62 : Code := headC (tailC 2 body6)
noncomputable def K63 : Code := headC (tailC 3 body6)
noncomputable def K64 : Code := headC (tailC 4 body6)
noncomputable def K65 : Code := headC (tailC 5 body6)
noncomputable def K66 : Code := headC (tailC 6 body6)
noncomputable def K67 : Code := headC (tailC 7 body6)
noncomputable def K68 : Code := headC (tailC 8 body6)
noncomputable def Z6 : Code := tailC 9 body6
theorem cut6 : Try.f6.body = some (.seq K60 (.seq K61 (.seq K62 (.seq K63 (.seq K64 (.seq K65 (.seq K66 (.seq K67 (.seq K68 Z6))))))))) := by kernel_rfl
theorem qe_normal {P : Program} {Post : Value → World → Prop} {W : World} {Sh : Loc → Prop} {κ : Nat → Kd} {M : Nat} {b : Frame} {k : List Item} {cs : List Frame} {a : Act} {u : World} (h : EndsOk P Post W Sh κ M (G (b.at a k) cs) u) : QE P Post W Sh κ M b k cs .normal a u := h
theorem res6 (t : Array Value) : resV Try.f6 t = t.getD 6 undef := by
  simp [resV, oneV, slotV]
theorem some6 : (Try.prog.funcs[(base 6).fn]?).isSome = true := by show (Try.prog.funcs[(6 : Nat)]?).isSome = true; rw [Try.func6]; rfl
theorem owns_tp {w : World} {base : Nat} {e : TypeId} {size : Nat} {v : Value} {n : Nat} {xs : List Value} (ho : w.ownsRow base e size v n xs) (τ : Nat → Question → Nat) (d : Nat) : (tp w τ d).ownsRow base e size v n xs := ho
theorem KeysAt.lt_of {w : World} {ao : Option Addr} {ks : List Nat} (h : KeysAt w ao ks) : ∀ a, ao = some a → 0 < ks.length → a.block < w.heap.size := fun a ha hpos => by
  have := h.src.2.2.1 a ha 0 (.int .u64 (Int.ofNat ks[0])) (by simp [keyV, hpos])
  have := World.block_lt_of_cell? _ _ this
  rwa [show (a.add 0).block = a.block by unfold Addr.add; split <;> rfl] at this
theorem KeysAt.hp {S : Nat → Prop} {w w' : World} {ao : Option Addr} {ks : List Nat} (h : KeysAt w ao ks) (hF : Hp S w w') (hn : ∀ k, k < w.heap.size → ¬ S k) : KeysAt w' ao ks :=
  h.keep fun a ha hpos => hF.block _ (h.lt_of a ha hpos) (hn _ (h.lt_of a ha hpos))
theorem AllNew.tp {w : World} {τ : Nat → Question → Nat} {d g : Nat} {tkv rwv : Value} {rs : List (Value × List Int)} (h : AllNew (tp w τ d).heap.size g tkv rwv rs) : AllNew w.heap.size g tkv rwv rs := h

section
variable {Post : Value → World → Prop} {W : World} {Sh : Loc → Prop} {κ : Nat → Kd} {N : Nat} {u : World}

set_option maxRecDepth 100000 in
set_option maxHeartbeats 4000000 in
theorem ends_grown (hSh : ∀ l, Sh l → ∃ a, l = .cell a ∧ κ a.block = .void) {n more' : Int} (hn1 : -9223372036854775808 ≤ n) (hn2 : n ≤ 9223372036854775807) (hm1 : -9223372036854775808 ≤ more') (hm2 : more' ≤ 9223372036854775807)
    {ao : Option Addr} {kc : Nat} {ks : List Nat} (hKs : KeysAt u ao ks) (hc : ao = none → kc = 0) (hlen : (ks.length + 2) * 8 ≤ 140737488355328) (hN : N + 8 + 8 < 2147483648)
    (hK : ∀ (Sh' : Loc → Prop) (κ' : Nat → Kd) (u' : World) (T' : Array Value) (todo : List Item), Hp NoB u u' → (∀ r, r < u.heap.size → κ' r = κ r) → T'.getD 6 undef = .bool true →
      EndsOk Try.prog Post W Sh' κ' (N + 8 + 8) (G { (base 6).at ⟨T', []⟩ todo with mode := .returning } []) u') :
    EndsOk Try.prog Post W Sh κ N (G (Frame.enter Try.prog 6 #[.int .i64 n, .int .i64 more', .slice ao ks.length kc] .normal) []) u := by
  obtain ⟨a, HA⟩ : ∃ a : Nat, Hid (1 + pickF n 40 = (a : Int)) := ⟨(1 + pickF n 40).toNat, by show _ = _; have := pickF_nonneg n 40 (by decide); omega⟩
  have ha1 : 1 ≤ a := by have := HA.out; have := pickF_nonneg n 40 (by decide); omega
  have ha2 : a ≤ 40 := by have := HA.out; have := pickF_lt n 40 (by decide); omega
  obtain ⟨mm, HM⟩ : ∃ a : Nat, Hid (pickF more' 25 = (a : Int)) := ⟨(pickF more' 25).toNat, by show _ = _; have := pickF_nonneg more' 25 (by decide); omega⟩
  have hmm : mm ≤ 24 := by have := HM.out; have := pickF_lt more' 25 (by decide); omega
  have HB : Hid ((a : Int) + mm = ((a + mm : Nat) : Int)) := by show _ = _; omega
  have q0 := pickF_nonneg n 40 (by decide)
  have q1 := pickF_lt n 40 (by decide)
  rw [Go.Conc.enter_at _ Try.func6 cut6]
  simp only [Try.f6, List.size_toArray, List.length_cons, List.length_nil, Nat.reduceAdd, Nat.reduceSub, Array.replicate_succ, Array.replicate_zero, List.push_toArray, List.append_toArray, List.nil_append, List.cons_append]
  refine ends_seq ?_
  refine ends_view fun hV => ends_code tame hSh hV some6 rfl rfl (by kernel_rfl) fun τ d => ?_
  simp only [K60, headC, tailC, body6, Try.f6, Option.getD_some]
  go_wp2
  refine qe_normal (EndsOk.at (u := u) ?_ rfl)
  clear hV τ d
  refine ends_seq ?_
  refine ends_view fun hV => ends_code tame hSh hV some6 rfl rfl (by kernel_rfl) fun τ d => ?_
  simp only [K61, headC, tailC, body6, Try.f6, Option.getD_some]
  go_wp2_with (go_at_call 8; refine (pick_any n 40 _ hn1 hn2 (by decide) (by decide)).mono ?_; rintro e w' ⟨rfl, hw⟩; obtain rfl := hw.symm)
  rw [HA.out]
  refine qe_normal (EndsOk.at (u := u) ?_ rfl)
  clear hV τ d
  refine ends_seq ?_
  refine ends_view fun hV => ends_code tame hSh hV some6 rfl rfl (by kernel_rfl) fun τ d => ?_
  simp only [K62, headC, tailC, body6, Try.f6, Option.getD_some]
  go_wp2_with (go_at_call 8; refine (pick_any more' 25 _ hm1 hm2 (by decide) (by decide)).mono ?_; rintro e w' ⟨rfl, hw⟩; obtain rfl := hw.symm; rw [HM.out])
  refine qe_normal (EndsOk.at (u := u) ?_ rfl)
  clear hV τ d
  refine ends_seq ?_
  refine ends_view fun hV => ends_code tame hSh hV some6 rfl rfl (by kernel_rfl) fun τ d => ?_
  simp only [K63, headC, tailC, body6, Try.f6, Option.getD_some]
  go_wp2_with (go_at_call 7; refine (begun_ok _ a ha1 (by omega)).mono ?_; rintro e w1 ⟨gp, rwp, vp, rfl, hP1, hA1, hF1⟩)
  refine qe_normal ?_
  replace hF1 := hF1.hp
  replace hA1 := hA1.tp
  clear hV τ d
  refine ends_seq ?_
  refine ends_view fun hV => ends_code tame hSh hV some6 rfl rfl (by kernel_rfl) fun τ d => ?_
  simp only [K64, headC, tailC, body6, Try.f6, Option.getD_some]
  go_wp2_with (go_at_call 7; rw [HB.out]; refine (begun_ok _ (a + mm) (by omega) (by omega)).mono ?_; rintro e w2 ⟨gq, rwq, vq, rfl, hP2, hA2, hF2⟩)
  refine qe_normal ?_
  replace hF2 := hF2.hp
  replace hA2 := hA2.tp
  clear hV τ d
  refine ends_seq ?_
  refine ends_view fun hV => ends_code tame hSh hV some6 rfl rfl (by kernel_rfl) fun τ d => ?_
  simp only [K65, headC, tailC, body6, Try.f6, Option.getD_some]
  go_wp2
  refine qe_normal (EndsOk.at (u := w2) ?_ rfl)
  clear hV τ d
  have hz0 := hF1.size'
  have hz1 := hF2.size'
  have hq1 := hA2.g
  have hgp := hA1.g
  have hP1' := hP1.hp hF2 (fun s => s) (fun _ _ s => s) (fun _ _ s => s) (fun _ _ _ _ _ _ s => s)
  have hgpl : gp < w1.heap.size := lt_of_block hP1.blk
  have hgql : gq < w2.heap.size := lt_of_block hP2.blk
  have hrpl : ∀ b, rwp.ownBlock = some b → b < w1.heap.size := fun b hb => owns_lt hP1.rw' hb
  have hvpl : ∀ b, vp.ownBlock = some b → b < w1.heap.size := fun b hb => owns_lt (hP1.rows 0 vp _ rfl) hb
  have hrp0 := hA1.rw'
  have hvp0 : ∀ b, vp.ownBlock = some b → u.heap.size ≤ b := fun b hb => hA1.rows 0 vp _ b rfl hb
  have hF02 : Hp NoB u w2 := hF1.trans hF2 (fun _ s => s) (fun _ _ s => s)
  refine ends_seq ?_
  refine ends_view fun hV => ends_code tame hSh hV some6 rfl rfl (by kernel_rfl) fun τ d => ?_
  refine grown_loop1 (by kernel_rfl) (tp w2 τ d) (S := fun b => rwp.ownBlock = some b ∨ vp.ownBlock = some b ∨ w2.heap.size ≤ b) (a := a) (mm := mm) ⟨hP1'.tp τ d, Frm.refl _ _, fun b hb => .inr (.inl hb)⟩ ha1 (by omega) (fun b hb => .inr (.inr hb)) (fun b hb => .inl hb) ?_
  intro x6 x11 x12 x13 x40 x41 x42 x43 x44 x45 x46 x47 x48 x49 x50 x51 x52 x53 x54 x55 x56 x57 x58 vp' w3 hL
  refine qe_normal ?_
  have hP3 := hL.pool
  have hF3 := hL.frm.hp
  have hv3 := hL.v
  clear hL hV τ d hP1 hP1'
  have hF03 : Hp NoB u w3 := hF02.trans hF3 (fun _ s => s) (fun b hb s => by
    rcases s with s | s | s
    · have := hrp0 b s; omega
    · have := hvp0 b s; omega
    · omega)
  have hz3 := hF3.size'
  have hnq : ∀ b, w1.heap.size ≤ b → b < w2.heap.size → ¬ (rwp.ownBlock = some b ∨ vp.ownBlock = some b ∨ w2.heap.size ≤ b) := fun b h1 h2 s => by
    rcases s with s | s | s
    · have := hrpl b s; omega
    · have := hvpl b s; omega
    · omega
  have hQ3 := hP2.hp hF3 (hnq _ hq1 hgql) (fun k hk => by simp [Value.ownBlock] at hk) (fun k hk => hnq k (hA2.rw' k hk) (owns_lt hP2.rw' hk)) (fun i v row k hi hk => hnq k (hA2.rows i v row k hi hk) (owns_lt (hP2.rows i v row hi) hk))
  have hqr : ∀ k, rwq.ownBlock = some k → k ≠ gp := fun k hk => by have := hA2.rw' k hk; omega
  have hqv : ∀ (i : Nat) v row k, [(vq, upto (a + mm))][i]? = some (v, row) → v.ownBlock = some k → k ≠ gp := fun i v row k hi hk => by have := hA2.rows i v row k hi hk; omega
  have hK3 := hKs.hp hF03 (fun _ _ s => s)
  have hG := good_upto (n := a + mm) (by omega) (by omega)
  have hin : ∀ x, x < 18446744073709551616 → whr [] [upto (a + mm)] x ∈ upto (a + mm) := fun x _ => by
    rw [whr_upto]
    exact mem_upto (jmp_lt x (a + mm) 0 0 (by omega))
  clear hP2 hF2 hF1 hF02
  refine ends_seq ?_
  simp only [K67, headC, tailC, body6, Try.f6, Option.getD_some]
  refine ends_reg rfl ?_
  simp only [List.size_toArray, List.length_cons, List.length_nil, Nat.reduceAdd, Nat.zero_add, List.range, List.range.loop]
  refine ends_op rfl rfl (fun w => by simp [go_sem]; rfl) (fun w => by simp [go_sem]) ?_
  walk_nrm
  refine ends_op rfl rfl (fun w => by simp [go_sem]; rfl) (fun w => by simp [go_sem]) ?_
  walk_nrm
  refine ends_into rfl rfl (by k_ne) rfl Try.func12 (by kernel_rfl) rfl ?_
  walk_nrm
  refine ends_where (m := 0) (rs := []) (row := upto (a + mm)) hSh (by rw [cnt_zero]; exact hP3) hG (by simp) (by rw [upto_length]; omega) (by rw [upto_length]; omega) hin hK3 hc hlen (by omega) fun Sh4 κ4 u4 x hSh4 hF4 hk4 hP4 hx4 ho4 => ?_
  rw [finish_at rfl]
  walk_nrm
  refine ends_op rfl rfl (fun w => by simp [go_sem]; rfl) (fun w => by simp [go_sem]) ?_
  walk_nrm
  refine ends_op rfl rfl (fun w => by simp [go_sem]; rfl) (fun w => by simp [go_sem]) ?_
  walk_nrm
  refine ends_op rfl rfl (fun w => by simp [go_sem]; rfl) (fun w => by simp [go_sem]) ?_
  walk_nrm
  refine ends_op rfl rfl (fun w => by simp [go_sem]; rfl) (fun w => by simp [go_sem]) ?_
  walk_nrm
  refine ends_op rfl rfl (fun w => by simp [go_sem]; rfl) (fun w => by simp [go_sem]) ?_
  walk_nrm
  refine ends_regEnd ?_
  have hz4 := hF4.size'
  have hQ4 := hQ3.hp hF4 (by omega) (fun k hk => by simp [Value.ownBlock] at hk) hqr hqv
  have hF04 : Hp NoB u u4 := hF03.trans hF4 (fun _ s => s) (fun b hb e => by omega)
  have hK4 := hKs.hp hF04 (fun _ _ s => s)
  refine ends_seq ?_
  simp only [K68, headC, tailC, body6, Try.f6, Option.getD_some]
  refine ends_reg rfl ?_
  simp only [List.size_toArray, List.length_cons, List.length_nil, Nat.reduceAdd, Nat.zero_add, List.range, List.range.loop]
  refine ends_op rfl rfl (fun w => by simp [go_sem]; rfl) (fun w => by simp [go_sem]) ?_
  walk_nrm
  refine ends_op rfl rfl (fun w => by simp [go_sem]; rfl) (fun w => by simp [go_sem]) ?_
  walk_nrm
  refine ends_into rfl rfl (by k_ne) rfl Try.func12 (by kernel_rfl) rfl ?_
  walk_nrm
  refine ends_where (m := 0) (rs := []) (row := upto (a + mm)) hSh4 (by rw [cnt_zero]; exact hQ4) hG (by simp) (by rw [upto_length]; omega) (by rw [upto_length]; omega) hin hK4 hc hlen (by omega) fun Sh5 κ5 u5 y hSh5 hF5 hk5 hP5 hy5 ho5 => ?_
  rw [finish_at rfl]
  walk_nrm
  refine ends_op rfl rfl (fun w => by simp [go_sem]; rfl) (fun w => by simp [go_sem]) ?_
  walk_nrm
  refine ends_op rfl rfl (fun w => by simp [go_sem]; rfl) (fun w => by simp [go_sem]) ?_
  walk_nrm
  refine ends_op rfl rfl (fun w => by simp [go_sem]; rfl) (fun w => by simp [go_sem]) ?_
  walk_nrm
  refine ends_op rfl rfl (fun w => by simp [go_sem]; rfl) (fun w => by simp [go_sem]) ?_
  walk_nrm
  refine ends_op rfl rfl (fun w => by simp [go_sem]; rfl) (fun w => by simp [go_sem]) ?_
  walk_nrm
  refine ends_regEnd ?_
  have hvq : ∀ b, vp'.ownBlock = some b → b ≠ gq := fun b hb e => by
    subst e
    exact hnq b hq1 hgql (hv3 b hb)
  have hz5 := hF5.size'
  have hP5' := hP4.hp hF5 (by omega) (fun k hk => by simp [Value.ownBlock] at hk) (fun k hk => by have := hrpl k hk; omega) (fun i v row k hi hk => by
    cases i with
    | zero =>
      simp only [List.nil_append, List.getElem?_cons_zero, Option.some.injEq, Prod.mk.injEq] at hi
      obtain ⟨rfl, rfl⟩ := hi
      exact hvq k hk
    | succ i => simp at hi)
  have hF05 : Hp NoB u u5 := hF04.trans hF5 (fun _ s => s) (fun b hb e => by omega)
  have hK5 := hKs.hp hF05 (fun _ _ s => s)
  have hwu : ∀ x, whr [] ((([] : List (Value × List Int)) ++ [(vp', upto (a + mm))]).map (fun x => x.2)) x = (jmp x (a + mm) 0 0 : Nat) := fun x => whr_upto (a + mm) x
  have hwu2 : ∀ x, whr [] ((([] : List (Value × List Int)) ++ [(vq, upto (a + mm))]).map (fun x => x.2)) x = (jmp x (a + mm) 0 0 : Nat) := fun x => whr_upto (a + mm) x
  simp only [hwu] at ho4
  simp only [hwu2] at ho5
  have ho4' := hF5.owns ho4 (fun k hk e => by have := hx4 k hk; omega)
  obtain ⟨bx, cx, rfl⟩ : ∃ bx cx, x = .slice (some ⟨bx, 0, none⟩) (ks.length + 2) cx := by
    rcases ho4.2 with ⟨_, q⟩ | ⟨lb, cp, cur, e, _⟩
    · omega
    · exact ⟨lb, cp, e⟩
  obtain ⟨by', cy, rfl⟩ : ∃ bx cx, y = .slice (some ⟨bx, 0, none⟩) (ks.length + 2) cx := by
    rcases ho5.2 with ⟨_, q⟩ | ⟨lb, cp, cur, e, _⟩
    · omega
    · exact ⟨lb, cp, e⟩
  refine ends_view fun hV => ends_code tame hSh5 hV some6 rfl rfl (by kernel_rfl) fun τ d => ?_
  refine grown_rest (by kernel_rfl) (tp u5 τ d) ⟨_, hP5'.tp τ d⟩ ha1 (by omega) hlen (hK5.tp τ d) (owns_tp ho4' τ d) (owns_tp ho5 τ d) ?_
  intro w6 T' hF6 hT todo
  refine hK Sh5 κ5 w6 T' todo (hF05.trans hF6.hp (fun _ s => s) (fun _ _ s => s)) (fun r hr => ?_) hT
  rw [hk5 r (by have := hF04.size'; omega), hk4 r (by have := hF03.size'; omega)]
end
end Go.Proofs.Ytpioacgknamemaa
