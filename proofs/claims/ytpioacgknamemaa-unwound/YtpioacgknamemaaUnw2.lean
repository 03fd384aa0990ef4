/- Unwound, whole, beside leavers. -/
import Derived.Test.YtpioacgknamemaaUnw
set_option linter.unusedSectionVars false
namespace Go.Proofs.Ytpioacgknamemaa
open Go Go.RowKit Go.Conc Go.ConcN

theorem res5 (t : Array Value) : resV Try.f5 t = t.getD 8 undef := by
  simp [resV, oneV, slotV]
theorem some5 : (Try.prog.funcs[(base 5).fn]?).isSome = true := by show (Try.prog.funcs[(5 : Nat)]?).isSome = true; rw [Try.func5]; rfl
theorem srt_cell {w : World} {row : List Int} {b c : Nat} (ho : w.ownsRow 0 3 1 (.slice (some ⟨b, 0, none⟩) row.length c) row.length ((srt row).map (Value.int .i64))) (k : Nat) (hk : k < row.length) : w.cell? ⟨b, k, none⟩ = some (.int .i64 ((srt row).getD k 0)) := by
  rw [ho.cellAt k (by omega), List.getElem?_map, List.getD_eq_getElem?_getD, List.getElem?_eq_getElem (by rw [srt_length]; exact hk)]
  rfl

section
variable {Post : Value → World → Prop} {W : World} {Sh : Loc → Prop} {κ : Nat → Kd} {N : Nat} {u : World}

set_option maxRecDepth 100000 in
set_option maxHeartbeats 2000000 in
theorem ends_unw (hSh : ∀ l, Sh l → ∃ a, l = .cell a ∧ κ a.block = .void) {n : Int} (hn1 : -9223372036854775808 ≤ n) (hn2 : n ≤ 9223372036854775807) {am : Option Addr} {mc : Nat} {mv : List Int} (hM : IntsAt u am mv) (hml : mv.length ≤ 9223372036854775807) {tao : Option Addr} {tc : Nat} {tz : List Int} (hT : IntsAt u tao tz) (htl : (tz.length + 2) * 8 ≤ 140737488355328)
    {ao : Option Addr} {kc : Nat} {ks : List Nat} (hKs : KeysAt u ao ks) (hc : ao = none → kc = 0) (hlen : (ks.length + 2) * 8 ≤ 140737488355328) (hN : N + 8 + 8 < 2147483648)
    (hK : ∀ (Sh' : Loc → Prop) (κ' : Nat → Kd) (u' : World) (T' : Array Value) (todo : List Item), Hp NoB u u' → (∀ r, r < u.heap.size → κ' r = κ r) → T'.getD 8 undef = .bool true →
      EndsOk Try.prog Post W Sh' κ' (N + 8 + 8) (G { (base 5).at ⟨T', []⟩ todo with mode := .returning } []) u') :
    EndsOk Try.prog Post W Sh κ N (G (Frame.enter Try.prog 5 #[.int .i64 n, .slice am mv.length mc, .slice tao tz.length tc, .slice ao ks.length kc] .normal) []) u := by
  obtain ⟨a, HA⟩ : ∃ a : Nat, Hid (2 + pickF n 63 = (a : Int)) := ⟨(2 + pickF n 63).toNat, by show _ = _; have := pickF_nonneg n 63 (by decide); omega⟩
  have q0 := pickF_nonneg n 63 (by decide)
  have q1 := pickF_lt n 63 (by decide)
  have ha1 : 1 ≤ a := by have := HA.out; omega
  have ha2 : a ≤ 64 := by have := HA.out; omega
  rw [Go.Conc.enter_at _ Try.func5 cut5]
  simp only [Try.f5, List.size_toArray, List.length_cons, List.length_nil, Nat.reduceAdd, Nat.reduceSub, Array.replicate_succ, Array.replicate_zero, List.push_toArray, List.append_toArray, List.nil_append, List.cons_append]
  refine ends_seq ?_
  refine ends_view fun hV => ends_code tame hSh hV some5 rfl rfl (by kernel_rfl) fun τ d => ?_
  simp only [K50, headC, tailC, body5, Try.f5, Option.getD_some]
  go_wp2
  refine qe_normal (EndsOk.at (u := u) ?_ rfl)
  clear hV τ d
  refine ends_seq ?_
  refine ends_view fun hV => ends_code tame hSh hV some5 rfl rfl (by kernel_rfl) fun τ d => ?_
  simp only [K51, headC, tailC, body5, Try.f5, Option.getD_some]
  go_wp2_with (first | (go_at_call 8; refine (pick_any n 63 _ hn1 hn2 (by decide) (by decide)).mono ?_; rintro e w' ⟨rfl, hw⟩; obtain rfl := hw.symm) | (go_at_call 7; rw [HA.out]; refine (begun_any _ a ha1 ha2).mono ?_; rintro e w1 ⟨g, rfl, hF1, hP1⟩))
  refine qe_normal ?_
  replace hF1 := hF1.hp
  have hP1' : PoolS w1 g (Newer u) [] [upto a] 0 := hP1
  have hF01 : Hp (Newer u) u w1 := hF1.ofNo
  clear hP1 hF1
  clear hV τ d
  refine ends_seq ?_
  refine ends_view fun hV => ends_code tame hSh hV some5 rfl rfl (by kernel_rfl) fun τ d => ?_
  simp only [K52, headC, tailC, body5, Try.f5, Option.getD_some]
  go_wp2
  refine qe_normal (EndsOk.at (u := w1) ?_ rfl)
  clear hV τ d
  have hM1 := hM.newer hF01
  have hz1 := hF01.size'
  refine ends_seq ?_
  refine ends_view fun hV => ends_code tame hSh hV some5 rfl rfl (by kernel_rfl) fun τ d => ?_
  simp only [K53, headC, tailC, body5, Try.f5, Option.getD_some]
  go_wp2_with (go_at_call 9; refine (moved_any (Newer u) _ g [] [upto a] 0 (hP1'.tp τ d) (St.base a ha1 ha2) am mc mv (hM1.tp τ d) hml (fun a' ha hpos s => absurd s (Nat.not_le.2 (hM.lt_of a' ha hpos)))).mono ?_; rintro e w2 ⟨rfl, hL⟩)
  refine qe_normal ?_
  have hF12 := hL.frm.hp
  obtain ⟨O2, tk, rows, hP2, hS, hO2⟩ := hL.ex
  replace hO2 : ∀ k, O2 k → Newer u k := fun k hk => (hO2 k hk).elim id (fun q => Nat.le_trans hz1 q)
  have hF02 : Hp (Newer u) u w2 := hF01.thenN hF12 (fun _ s => s)
  clear hL hP1' hF12 hM1
  clear hV τ d
  have hP2' := hP2.tight
  have hO3 : ∀ k, O2 k ∧ k < w2.heap.size → Newer u k := fun k hk => hO2 k hk.1
  generalize hOO : (fun k => O2 k ∧ k < w2.heap.size) = O3 at hP2'
  have hlt3 : ∀ k, O3 k → k < w2.heap.size ∧ Newer u k := fun k hk => by rw [← hOO] at hk; exact ⟨hk.2, hO3 k hk⟩
  clear hOO hO3 hP2 hO2
  have hgn := hlt3 g hP2'.og
  obtain ⟨front, row, rfl⟩ := hS.split
  have hll := hS.lens
  have hsl := srt_length row
  refine ends_seq ?_
  refine ends_view fun hV => ends_code tame hSh hV some5 rfl rfl (by kernel_rfl) fun τ d => ?_
  simp only [K54, headC, tailC, body5, Try.f5, Option.getD_some]
  go_wp2_with (go_at_call 10; refine (stand_any (hP2'.tp τ d) hS).mono ?_; rintro e w3 ⟨l, rfl, hN3⟩; obtain ⟨l0, cx, rfl⟩ := owns_shape hN3.1; rw [hsl])
  refine qe_normal ?_
  obtain ⟨ho3, hF3, hn3⟩ := hN3.tp
  clear hN3
  clear hV τ d
  rw [hsl] at ho3 hn3
  obtain ⟨bx, rfl⟩ : ∃ lb, l0 = some ⟨lb, 0, none⟩ := by
    rcases ho3.2 with ⟨_, q⟩ | ⟨lb, cp, cur, e, _⟩
    · omega
    · cases e; exact ⟨lb, rfl⟩
  have hF03 : Hp (Newer u) u w3 := hF02.thenN hF3 (fun _ s => s.elim)
  have hP3 := hP2'.hp hF3 (fun _ _ s => s)
  have hz3 := hF3.size'
  have hbx1 : w2.heap.size ≤ bx := hn3 bx rfl
  have hbx2 : bx < w3.heap.size := owns_lt ho3 rfl
  have hr0 : ¬ (row.length : Int) = 0 := by omega
  have hr0' : ((row.length : Int) == 0) = false := beq_eq_false_iff_ne.2 hr0
  refine ends_seq ?_
  simp only [K55, headC, tailC, body5, Try.f5, Option.getD_some]
  refine ends_reg rfl ?_
  simp only [List.size_toArray, List.length_cons, List.length_nil, Nat.reduceAdd, Nat.zero_add, List.range, List.range.loop]
  refine ends_op rfl rfl (fun w => by simp [go_sem]; rfl) (fun w => by simp [go_sem]) ?_
  walk_nrm
  refine ends_op rfl rfl (fun w => by simp [go_sem]; rfl) (fun w => by simp [go_sem]) ?_
  walk_nrm
  refine ends_into rfl rfl (by k_ne) rfl Try.func12 (by kernel_rfl) rfl ?_
  walk_nrm
  refine ends_whereS hSh (m := 0) (by rw [cnt_zero]; exact hP3) hS (hKs.newer hF03) hc hlen (by omega) fun Sh4 κ4 u4 ba ca hSh4 hF4 hk4 hP4 ha3 ha4 ho4 => ?_
  rw [finish_at rfl]
  walk_nrm
  refine ends_op rfl rfl (fun w => by simp [go_sem]; rfl) (fun w => by simp [go_sem]) ?_
  walk_nrm
  refine ends_op rfl rfl (fun w => by simp [go_sem]; rfl) (fun w => by simp [go_sem]) ?_
  walk_nrm
  refine ends_op rfl rfl (fun w => by simp [go_sem]; rfl) (fun w => by simp [go_sem]) ?_
  walk_nrm
  refine ends_op rfl rfl (fun w => by simp [go_sem]; rfl) (fun w => by simp [go_sem]) ?_
  walk_nrm
  refine ends_op rfl rfl (fun w => by simp [go_sem]; rfl) (fun w => by simp [go_sem]) ?_
  walk_nrm
  refine ends_regEnd ?_
  have hF04 : Hp (Newer u) u u4 := hF03.thenN hF4 (fun i s => by rw [s]; exact hgn.2)
  have hz4 := hF4.size'
  have hx4 := hF4.owns ho3 (fun k hk s => by
    have e : bx = k := by simpa [Value.ownBlock] using hk
    omega)
  refine ends_seq ?_
  refine ends_view fun hV => ends_code tame hSh4 hV some5 rfl rfl (by kernel_rfl) fun τ d => ?_
  simp only [K56, headC, tailC, body5, Try.f5, Option.getD_some]
  go_wp2
  refine qe_normal (EndsOk.at (u := u4) ?_ rfl)
  clear hV τ d
  refine ends_seq ?_
  refine ends_view fun hV => ends_code tame hSh4 hV some5 rfl rfl (by kernel_rfl) fun τ d => ?_
  simp only [K57, headC, tailC, body5, Try.f5, Option.getD_some]
  go_wp2
  refine qe_normal (EndsOk.at (u := u4) ?_ rfl)
  clear hV τ d
  have hT4 := hT.newer hF04
  have hz04 := hF04.size'
  refine ends_seq ?_
  refine ends_view fun hV => ends_code tame hSh4 hV some5 rfl rfl (by kernel_rfl) fun τ d => ?_
  refine unw_loop1 rfl (tp u4 τ d) (O := O3) (tk0 := tk) (rows0 := front ++ [row]) ⟨Frm.refl _ _, ⟨O3, tk, front ++ [row], hP4.tp τ d, hS, .nil, fun k hk => .inl hk, fun k hk => by have := (hlt3 k hk).1; show k < u4.heap.size; omega, fun b hb => by simp [Value.ownBlock] at hb⟩, World.ownsRow_nil _ _ _ _, fun b hb => by simp [Value.ownBlock] at hb⟩ (hT4.tp τ d) htl (fun a' ha hpos s => absurd (hlt3 _ s).2 (Nat.not_le.2 (hT.lt_of a' ha hpos))) ?_
  intro _ _ _ _ _ _ _ _ _ _ _ _ _ _ _ _ _ _ _ _ _ _ _ _ _ _ _ _ _ _ _ _ _ _ _ _ _ _ _ _ _ _ _ ps out w5 hL5 hpl
  refine qe_normal ?_
  have hF5 := hL5.frm.hp
  obtain ⟨O5, tk5, rows5, hP5, hS5, hC5, hO5, hOl5, hno5⟩ := hL5.ex
  have hown5 := hL5.own
  replace hO5 : ∀ k, O5 k → O3 k ∨ u4.heap.size ≤ k := hO5
  clear hL5 hV τ d
  obtain ⟨oa, oc, rfl⟩ := owns_shape hown5
  have hz5 := hF5.size'
  have hF05 : Hp (Newer u) u w5 := hF04.thenN hF5 (fun i s => (hlt3 i s).2)
  have hx5 := hF5.owns hx4 (fun k hk s => by
    have e : bx = k := by simpa [Value.ownBlock] using hk
    have := (hlt3 k s).1
    omega)
  have ho5 := hF5.owns ho4 (fun k hk s => by
    have e : ba = k := by simpa [Value.ownBlock] using hk
    have := (hlt3 k s).1
    omega)
  refine ends_seq ?_
  refine ends_view fun hV => ends_code tame hSh4 hV some5 rfl rfl (by kernel_rfl) fun τ d => ?_
  refine unw_loop2 rfl (tp w5 τ d) (O := O5) (tk0 := tk) (rows0 := front ++ [row]) (ps := ps) ⟨Frm.refl _ _, O5, tk5, rows5, hP5.tp τ d, hC5, fun k hk => .inl hk⟩ (owns_tp hown5 τ d) hno5 (by omega) ?_
  intro _ _ _ _ _ _ _ _ _ _ _ _ _ _ _ _ _ _ _ _ _ _ _ _ _ _ w6 hL6
  refine qe_normal ?_
  have hF6 := hL6.frm.hp
  obtain ⟨O6, tk6, rows6, hP6, hC6, hO6⟩ := hL6.ex
  obtain ⟨rfl, rfl⟩ := hC6.none
  replace hO6 : ∀ k, O6 k → O5 k ∨ w5.heap.size ≤ k := hO6
  clear hL6 hV τ d hC5 hC6 hP5 hown5
  have hz6 := hF6.size'
  have hF06 : Hp (Newer u) u w6 := hF05.thenN hF6 (fun i s => (hO5 i s).elim (fun q => (hlt3 i q).2) (fun q => Nat.le_trans hz04 q))
  have hnx : ∀ k, w2.heap.size ≤ k → k < u4.heap.size → ¬ O5 k := fun k h1 h2 s => by
    rcases hO5 k s with q | q
    · have := (hlt3 k q).1
      omega
    · omega
  have hx6 := hF6.owns hx5 (fun k hk s => by
    have e : bx = k := by simpa [Value.ownBlock] using hk
    exact hnx k (by omega) (by omega) s)
  have ho6 := hF6.owns ho5 (fun k hk s => by
    have e : ba = k := by simpa [Value.ownBlock] using hk
    exact hnx k (by omega) (by omega) s)
  refine ends_seq ?_
  refine ends_view fun hV => ends_code tame hSh4 hV some5 rfl rfl (by kernel_rfl) fun τ d => ?_
  simp only [K510, headC, tailC, body5, Try.f5, Option.getD_some]
  go_wp2_with (go_at_call 10; refine (stand_any (hP6.tp τ d) hS).mono ?_; rintro e w7 ⟨l, rfl, hN7⟩; obtain ⟨l1, cz, rfl⟩ := owns_shape hN7.1; rw [hsl])
  refine qe_normal ?_
  obtain ⟨hy7, hF7, hn7⟩ := hN7.tp
  clear hN7
  clear hV τ d
  rw [hsl] at hy7 hn7
  obtain ⟨bz, rfl⟩ : ∃ lb, l1 = some ⟨lb, 0, none⟩ := by
    rcases hy7.2 with ⟨_, q⟩ | ⟨lb, cp, cur, e, _⟩
    · omega
    · cases e; exact ⟨lb, rfl⟩
  have hF07 : Hp (Newer u) u w7 := hF06.thenN hF7 (fun _ s => s.elim)
  have hP7 := hP6.hp hF7 (fun _ _ s => s)
  have hz7 := hF7.size'
  have hbz1 : w6.heap.size ≤ bz := hn7 bz rfl
  have hx7 := hF7.owns hx6 (fun _ _ s => s)
  have ho7 := hF7.owns ho6 (fun _ _ s => s)
  refine ends_seq ?_
  simp only [K511, headC, tailC, body5, Try.f5, Option.getD_some]
  refine ends_reg rfl ?_
  simp only [List.size_toArray, List.length_cons, List.length_nil, Nat.reduceAdd, Nat.zero_add, List.range, List.range.loop]
  refine ends_op rfl rfl (fun w => by simp [go_sem]; rfl) (fun w => by simp [go_sem]) ?_
  walk_nrm
  refine ends_op rfl rfl (fun w => by simp [go_sem]; rfl) (fun w => by simp [go_sem]) ?_
  walk_nrm
  refine ends_into rfl rfl (by k_ne) rfl Try.func12 (by kernel_rfl) rfl ?_
  walk_nrm
  refine ends_whereS hSh4 hP7 hS (hKs.newer hF07) hc hlen (by omega) fun Sh8 κ8 u8 bb cb hSh8 hF8 hk8 hP8 hb3 hb4 ho8 => ?_
  rw [finish_at rfl]
  walk_nrm
  refine ends_op rfl rfl (fun w => by simp [go_sem]; rfl) (fun w => by simp [go_sem]) ?_
  walk_nrm
  refine ends_op rfl rfl (fun w => by simp [go_sem]; rfl) (fun w => by simp [go_sem]) ?_
  walk_nrm
  refine ends_op rfl rfl (fun w => by simp [go_sem]; rfl) (fun w => by simp [go_sem]) ?_
  walk_nrm
  refine ends_op rfl rfl (fun w => by simp [go_sem]; rfl) (fun w => by simp [go_sem]) ?_
  walk_nrm
  refine ends_op rfl rfl (fun w => by simp [go_sem]; rfl) (fun w => by simp [go_sem]) ?_
  walk_nrm
  refine ends_regEnd ?_
  have hF08 : Hp (Newer u) u u8 := hF07.thenN hF8 (fun i s => by rw [s]; exact hgn.2)
  have hx8 := hF8.owns hx7 (fun k hk s => by
    have e : bx = k := by simpa [Value.ownBlock] using hk
    omega)
  have hy8 := hF8.owns hy7 (fun k hk s => by
    have e : bz = k := by simpa [Value.ownBlock] using hk
    omega)
  have ha8 := hF8.owns ho7 (fun k hk s => by
    have e : ba = k := by simpa [Value.ownBlock] using hk
    omega)
  refine ends_view fun hV => ends_code tame hSh8 hV some5 rfl rfl (by kernel_rfl) fun τ d => ?_
  refine unw_rest rfl (tp u8 τ d) (R := row.length) (L := ks.length + 2) (X := fun k => (srt row).getD k 0) (A := plA _ _ ks) hll.2.2.1 hlen (fun k hk => srt_cell hx8 k hk) (fun k hk => srt_cell hy8 k hk) (fun k hk => plA_cell ha8 k hk) (fun k hk => plA_cell ho8 k hk) ?_
  intro w9 T' hF9 hT' todo
  refine hK Sh8 κ8 w9 T' todo ((hF08.thenN hF9.hp (fun _ s => s.elim)).toNo) (fun r hr => ?_) hT'
  rw [hk8 r (by omega), hk4 r (by have := hF03.size'; omega)]
end
end Go.Proofs.Ytpioacgknamemaa
