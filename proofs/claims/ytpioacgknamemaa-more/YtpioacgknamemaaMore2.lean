/- More, whole, beside leavers. -/
import Derived.Test.YtpioacgknamemaaMore
import Derived.Test.YtpioacgknamemaaLaw
set_option linter.unusedSectionVars false
namespace Go.Proofs.Ytpioacgknamemaa
open Go Go.RowKit Go.Conc Go.ConcN

theorem res4 (t : Array Value) : resV Try.f4 t = t.getD 6 undef := by
  simp [resV, oneV, slotV]
theorem some4 : (Try.prog.funcs[(base 4).fn]?).isSome = true := by show (Try.prog.funcs[(4 : Nat)]?).isSome = true; rw [Try.func4]; rfl

section
variable {Post : Value → World → Prop} {W : World} {Sh : Loc → Prop} {κ : Nat → Kd} {N : Nat} {u : World}

set_option maxRecDepth 100000 in
set_option maxHeartbeats 2000000 in
theorem ends_more (hSh : ∀ l, Sh l → ∃ a, l = .cell a ∧ κ a.block = .void) {n : Int} (hn1 : -9223372036854775808 ≤ n) (hn2 : n ≤ 9223372036854775807) {am : Option Addr} {mc : Nat} {mv : List Int} (hM : IntsAt u am mv) (hml : mv.length ≤ 9223372036854775807)
    {ao : Option Addr} {kc : Nat} {ks : List Nat} (hKs : KeysAt u ao ks) (hc : ao = none → kc = 0) (hlen : (ks.length + 2) * 8 ≤ 140737488355328) (hN : N + 8 + 8 < 2147483648)
    (hK : ∀ (Sh' : Loc → Prop) (κ' : Nat → Kd) (u' : World) (T' : Array Value) (todo : List Item), Hp NoB u u' → (∀ r, r < u.heap.size → κ' r = κ r) → T'.getD 6 undef = .bool true →
      EndsOk Try.prog Post W Sh' κ' (N + 8 + 8) (G { (base 4).at ⟨T', []⟩ todo with mode := .returning } []) u') :
    EndsOk Try.prog Post W Sh κ N (G (Frame.enter Try.prog 4 #[.int .i64 n, .slice am mv.length mc, .slice ao ks.length kc] .normal) []) u := by
  obtain ⟨a, HA⟩ : ∃ a : Nat, Hid (1 + pickF n 64 = (a : Int)) := ⟨(1 + pickF n 64).toNat, by show _ = _; have := pickF_nonneg n 64 (by decide); omega⟩
  have q0 := pickF_nonneg n 64 (by decide)
  have q1 := pickF_lt n 64 (by decide)
  have ha1 : 1 ≤ a := by have := HA.out; omega
  have ha2 : a ≤ 64 := by have := HA.out; omega
  rw [Go.Conc.enter_at _ Try.func4 cut4]
  simp only [Try.f4, List.size_toArray, List.length_cons, List.length_nil, Nat.reduceAdd, Nat.reduceSub, Array.replicate_succ, Array.replicate_zero, List.push_toArray, List.append_toArray, List.nil_append, List.cons_append]
  refine ends_seq ?_
  refine ends_view fun hV => ends_code tame hSh hV some4 rfl rfl (by kernel_rfl) fun τ d => ?_
  simp only [K40, headC, tailC, body4, Try.f4, Option.getD_some]
  go_wp2
  refine qe_normal (EndsOk.at (u := u) ?_ rfl)
  clear hV τ d
  refine ends_seq ?_
  refine ends_view fun hV => ends_code tame hSh hV some4 rfl rfl (by kernel_rfl) fun τ d => ?_
  simp only [K41, headC, tailC, body4, Try.f4, Option.getD_some]
  go_wp2_with (first | (go_at_call 8; refine (pick_any n 64 _ hn1 hn2 (by decide) (by decide)).mono ?_; rintro e w' ⟨rfl, hw⟩; obtain rfl := hw.symm) | (go_at_call 7; rw [HA.out]; refine (begun_any _ a ha1 ha2).mono ?_; rintro e w1 ⟨g, rfl, hF1, hP1⟩))
  refine qe_normal ?_
  replace hF1 := hF1.hp
  have hP1' : PoolS w1 g (Newer u) [] [upto a] 0 := hP1
  have hF01 : Hp (Newer u) u w1 := hF1.ofNo
  clear hP1 hF1
  clear hV τ d
  refine ends_seq ?_
  refine ends_view fun hV => ends_code tame hSh hV some4 rfl rfl (by kernel_rfl) fun τ d => ?_
  simp only [K42, headC, tailC, body4, Try.f4, Option.getD_some]
  go_wp2
  refine qe_normal (EndsOk.at (u := w1) ?_ rfl)
  clear hV τ d
  have hM1 := hM.newer hF01
  have hz1 := hF01.size'
  refine ends_seq ?_
  refine ends_view fun hV => ends_code tame hSh hV some4 rfl rfl (by kernel_rfl) fun τ d => ?_
  simp only [K43, headC, tailC, body4, Try.f4, Option.getD_some]
  go_wp2_with (go_at_call 9; refine (moved_any (Newer u) _ g [] [upto a] 0 (hP1'.tp τ d) (St.base a ha1 ha2) am mc mv (hM1.tp τ d) hml (fun a' ha hpos s => absurd s (Nat.not_le.2 (hM.lt_of a' ha hpos)))).mono ?_; rintro e w2 ⟨rfl, hL⟩)
  refine qe_normal ?_
  have hF12 := hL.frm.hp
  obtain ⟨O2, tk, rows, hP2, hS, hO2⟩ := hL.ex
  replace hO2 : ∀ k, O2 k → Newer u k := fun k hk => (hO2 k hk).elim id (fun q => Nat.le_trans hz1 q)
  have hF02 : Hp (Newer u) u w2 := hF01.thenN hF12 (fun _ s => s)
  clear hL hP1' hF12 hM1
  clear hV τ d
  have hP2' := hP2.tight
  have hO3 : ∀ k, O2 k ∧ k < w2.heap.size → Newer u k := fun k hk => hO2 k hk.1
  generalize hOO : (fun k => O2 k ∧ k < w2.heap.size) = O3 at hP2'
  have hlt3 : ∀ k, O3 k → k < w2.heap.size ∧ Newer u k := fun k hk => by rw [← hOO] at hk; exact ⟨hk.2, hO3 k hk⟩
  clear hOO hO3 hP2 hO2
  refine ends_seq ?_
  refine ends_view fun hV => ends_code tame hSh hV some4 rfl rfl (by kernel_rfl) fun τ d => ?_
  simp only [K44, headC, tailC, body4, Try.f4, Option.getD_some]
  go_wp2_with (go_at_call 14; refine (askedS (hP2'.tp τ d)).mono ?_; rintro e w' ⟨rfl, hw⟩; obtain rfl := hw.symm)
  refine qe_normal (EndsOk.at (u := w2) ?_ rfl)
  clear hV τ d
  refine ends_seq ?_
  simp only [K45, headC, tailC, body4, Try.f4, Option.getD_some]
  refine ends_reg rfl ?_
  simp only [List.size_toArray, List.length_cons, List.length_nil, Nat.reduceAdd, Nat.zero_add, List.range, List.range.loop]
  refine ends_op rfl rfl (fun w => by simp [go_sem]; rfl) (fun w => by simp [go_sem]) ?_
  walk_nrm
  refine ends_op rfl rfl (fun w => by simp [go_sem]; rfl) (fun w => by simp [go_sem]) ?_
  walk_nrm
  refine ends_into rfl rfl (by k_ne) rfl Try.func12 (by kernel_rfl) rfl ?_
  walk_nrm
  refine ends_whereS hSh (m := 0) (by rw [cnt_zero]; exact hP2') hS (hKs.newer hF02) hc hlen (by omega) fun Sh4 κ4 u4 ba ca hSh4 hF4 hk4 hP4 hb1 hb2 ho4 => ?_
  rw [finish_at rfl]
  walk_nrm
  refine ends_op rfl rfl (fun w => by simp [go_sem]; rfl) (fun w => by simp [go_sem]) ?_
  walk_nrm
  refine ends_op rfl rfl (fun w => by simp [go_sem]; rfl) (fun w => by simp [go_sem]) ?_
  walk_nrm
  refine ends_op rfl rfl (fun w => by simp [go_sem]; rfl) (fun w => by simp [go_sem]) ?_
  walk_nrm
  refine ends_op rfl rfl (fun w => by simp [go_sem]; rfl) (fun w => by simp [go_sem]) ?_
  walk_nrm
  refine ends_op rfl rfl (fun w => by simp [go_sem]; rfl) (fun w => by simp [go_sem]) ?_
  walk_nrm
  refine ends_regEnd ?_
  obtain ⟨p, e, tk', rows', hG, he⟩ := give_ex hS
  have hS' := hG.st hS
  have hF04 : Hp (Newer u) u u4 := hF02.thenN hF4 (fun i s => by rw [s]; exact (hlt3 g hP2'.og).2)
  have hz4 := hF4.size'
  refine ends_seq ?_
  refine ends_view fun hV => ends_code tame hSh4 hV some4 rfl rfl (by kernel_rfl) fun τ d => ?_
  simp only [K46, headC, tailC, body4, Try.f4, Option.getD_some]
  go_wp2_with (go_at_call 11; refine (give_any (hP4.tp τ d) hG).mono ?_; rintro e' w5 ⟨rfl, hF5, hP5⟩)
  refine qe_normal ?_
  replace hF5 := hF5.hp
  have hP5' : PoolS w5 g (fun k => O3 k ∨ u4.heap.size ≤ k) tk' rows' (cnt (0 + 2 * (ks.length + 2))) := hP5
  clear hP5
  clear hV τ d
  have hF05 : Hp (Newer u) u w5 := hF04.thenN hF5 (fun i s => (hlt3 i s).2)
  have hz5 := hF5.size'
  have hz04 := hF04.size'
  have hz05 := hF05.size'
  have ho5 := hF5.owns ho4 (fun k hk s => by
    have e : ba = k := by simpa [Value.ownBlock] using hk
    have := (hlt3 k s).1
    omega)
  refine ends_seq ?_
  simp only [K47, headC, tailC, body4, Try.f4, Option.getD_some]
  refine ends_reg rfl ?_
  simp only [List.size_toArray, List.length_cons, List.length_nil, Nat.reduceAdd, Nat.zero_add, List.range, List.range.loop]
  refine ends_op rfl rfl (fun w => by simp [go_sem]; rfl) (fun w => by simp [go_sem]) ?_
  walk_nrm
  refine ends_op rfl rfl (fun w => by simp [go_sem]; rfl) (fun w => by simp [go_sem]) ?_
  walk_nrm
  refine ends_into rfl rfl (by k_ne) rfl Try.func12 (by kernel_rfl) rfl ?_
  walk_nrm
  refine ends_whereS hSh4 hP5' hS' (hKs.newer hF05) hc hlen (by omega) fun Sh6 κ6 u6 bb cb hSh6 hF6 hk6 hP6 hc1 hc2 ho6 => ?_
  rw [finish_at rfl]
  walk_nrm
  refine ends_op rfl rfl (fun w => by simp [go_sem]; rfl) (fun w => by simp [go_sem]) ?_
  walk_nrm
  refine ends_op rfl rfl (fun w => by simp [go_sem]; rfl) (fun w => by simp [go_sem]) ?_
  walk_nrm
  refine ends_op rfl rfl (fun w => by simp [go_sem]; rfl) (fun w => by simp [go_sem]) ?_
  walk_nrm
  refine ends_op rfl rfl (fun w => by simp [go_sem]; rfl) (fun w => by simp [go_sem]) ?_
  walk_nrm
  refine ends_op rfl rfl (fun w => by simp [go_sem]; rfl) (fun w => by simp [go_sem]) ?_
  walk_nrm
  refine ends_regEnd ?_
  have hF06 : Hp (Newer u) u u6 := hF05.thenN hF6 (fun i s => by rw [s]; exact (hlt3 g hP2'.og).2)
  have hgl := (hlt3 g hP2'.og).1
  have ho5' := hF6.owns ho5 (fun k hk s => by
    have e : ba = k := by simpa [Value.ownBlock] using hk
    omega)
  have hcn : cnt (0 + 2 * (ks.length + 2) + 2 * (ks.length + 2)) = 4 * ((ks.length + 2 : Nat) : Int) := by
    rw [cnt_small (by omega)]
    omega
  rw [hcn] at hP6
  refine ends_view fun hV => ends_code tame hSh6 hV some4 rfl rfl (by kernel_rfl) fun τ d => ?_
  refine more_rest rfl (tp u6 τ d) (L := ks.length + 2) (A := plA tk rows ks) (B := plA tk' rows' ks) (hP6.tp τ d) hlen he (fun k hk => plA_cell ho5' k hk) (fun k hk => plA_cell ho6 k hk) (fun k _ hne => hG.more _ hne) ?_
  intro w7 T' hF7 hT todo
  refine hK Sh6 κ6 w7 T' todo ((hF06.thenN hF7.hp (fun _ s => s.elim)).toNo) (fun r hr => ?_) hT
  rw [hk6 r (by omega), hk4 r (by have := hF02.size'; omega)]
end
end Go.Proofs.Ytpioacgknamemaa
