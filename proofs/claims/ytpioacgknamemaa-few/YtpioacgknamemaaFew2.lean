/- Few, whole, beside leavers. -/
import Derived.Test.YtpioacgknamemaaFew
import Derived.Test.YtpioacgknamemaaLaw
set_option linter.unusedSectionVars false
namespace Go.Proofs.Ytpioacgknamemaa
open Go Go.RowKit Go.Conc Go.ConcN

theorem res3 (t : Array Value) : resV Try.f3 t = t.getD 8 undef := by
  simp [resV, oneV, slotV]
theorem some3 : (Try.prog.funcs[(base 3).fn]?).isSome = true := by show (Try.prog.funcs[(3 : Nat)]?).isSome = true; rw [Try.func3]; rfl

/-- Where one stands, two stand behind Give. -/
theorem give_one {tk : List Int} {front : List (List Int)} {row : List Int} (hs : St tk (front ++ [row])) (h1 : row.length = 1) : ∃ p tk' front' row', Giv tk (front ++ [row]) p 0 tk' (front' ++ [row']) ∧ row'.length = 2 := by
  rcases List.eq_nil_or_concat tk with rfl | ⟨t, q, rfl⟩
  · obtain ⟨n, hn1, h64, e⟩ := hs.none
    obtain ⟨rfl, e2⟩ := List.append_inj' (s₂ := []) e rfl
    simp only [List.cons.injEq, and_true] at e2
    subst e2
    rw [upto_length] at h1
    subst h1
    exact ⟨_, _, [], upto 2, .grow 1 (by omega) (by omega), upto_length 2⟩
  · rw [List.concat_eq_append] at hs ⊢
    obtain ⟨_, f, r, rfl, hp, rfl, h2⟩ := hs.pop
    have := wo_len hp
    exact ⟨q, t, f, r, .pop t _ _ q hs, by omega⟩

section
variable {Post : Value → World → Prop} {W : World} {Sh : Loc → Prop} {κ κ0 : Nat → Kd} {N : Nat} {u0 u : World}

set_option maxRecDepth 100000 in
set_option maxHeartbeats 2000000 in
theorem few_tail (hSh : ∀ l, Sh l → ∃ a, l = .cell a ∧ κ a.block = .void) {wh : Int} (hw1 : -9223372036854775808 ≤ wh) (hw2 : wh ≤ 9223372036854775807) (hF : Hp (Newer u0) u0 u) (hκ : ∀ r, r < u0.heap.size → κ r = κ0 r)
    {O : Nat → Prop} {g : Nat} {tk : List Int} {front : List (List Int)} {row : List Int} (hP : PoolS u g O tk (front ++ [row]) 0) (hO : ∀ k, O k → k < u.heap.size ∧ Newer u0 k) (hS : St tk (front ++ [row])) (h2 : 2 ≤ row.length)
    {lb lc : Nat} (hl : u.ownsRow 0 3 1 (.slice (some ⟨lb, 0, none⟩) row.length lc) row.length ((srt row).map (Value.int .i64)))
    {ao : Option Addr} {kc : Nat} {ks : List Nat} (hKs : KeysAt u0 ao ks) (hc : ao = none → kc = 0) (hlen : (ks.length + 2) * 8 ≤ 140737488355328) (hN : N + 8 + 8 + 8 < 2147483648) {x0 x1 x4 x5 x6 x7 x8 x10 x12 x13 x14 x15 x16 x17 x18 x19 x20 x21 x22 x23 x24 x25 x26 x27 x28 x29 x30 x31 x32 x33 x34 x35 x36 x37 x38 x39 x40 x41 x42 x43 x44 x45 x46 x47 x48 x49 x50 x51 x52 x53 x54 x55 x56 x57 x58 x59 x60 x61 x62 x63 x64 x65 x66 x67 x68 x69 x70 x71 x72 x73 x74 x75 x76 x77 x78 x79 x80 x81 x82 x83 x84 x85 x86 x87 x88 x89 x90 x91 x92 x93 x94 x95 x96 x97 x98 x99 x100 x101 x102 x103 x104 x105 x106 x107 x108 x109 x110 x111 x112 x113 x114 x115 x116 x117 x118 x119 x120 x121 x122 x123 x124 x125 x126 x127 x128 x129 x130 x131 x132 x133 x134 x135 x136 x137 x138 x139 x140 x141 x142 x143 x144 x145 x146 x147 x148 x149 x150 x151 x152 x153 x154 x155 x156 x157 : Value}
    (hK : ∀ (Sh' : Loc → Prop) (κ' : Nat → Kd) (u' : World) (T' : Array Value) (todo : List Item), Hp NoB u0 u' → (∀ r, r < u0.heap.size → κ' r = κ0 r) → T'.getD 8 undef = .bool true →
      EndsOk Try.prog Post W Sh' κ' (N + 8 + 8 + 8) (G { (base 3).at ⟨T', []⟩ todo with mode := .returning } []) u') :
    EndsOk Try.prog Post W Sh κ N (G ((base 3).at ⟨#[x0, x1, .int .i64 wh, .slice ao ks.length kc, x4, x5, x6, x7, x8, .pointer (some ⟨g, 0, none⟩), x10, .slice (some ⟨lb, 0, none⟩) row.length lc, x12, x13, x14, x15, x16, x17, x18, x19, x20, x21, x22, x23, x24, x25, x26, x27, x28, x29, x30, x31, x32, x33, x34, x35, x36, x37, x38, x39, x40, x41, x42, x43, x44, x45, x46, x47, x48, x49, x50, x51, x52, x53, x54, x55, x56, x57, x58, x59, x60, x61, x62, x63, x64, x65, x66, x67, x68, x69, x70, x71, x72, x73, x74, x75, x76, x77, x78, x79, x80, x81, x82, x83, x84, x85, x86, x87, x88, x89, x90, x91, x92, x93, x94, x95, x96, x97, x98, x99, x100, x101, x102, x103, x104, x105, x106, x107, x108, x109, x110, x111, x112, x113, x114, x115, x116, x117, x118, x119, x120, x121, x122, x123, x124, x125, x126, x127, x128, x129, x130, x131, x132, x133, x134, x135, x136, x137, x138, x139, x140, x141, x142, x143, x144, x145, x146, x147, x148, x149, x150, x151, x152, x153, x154, x155, x156, x157], []⟩ [.code (.seq K37 (.seq K38 (.seq K39 (.seq K310 (.seq K311 (.seq K312 (Z3)))))))]) []) u := by
  have hll := hS.lens
  obtain ⟨j, HJ⟩ : ∃ j : Nat, Hid (pickF wh row.length = (j : Int)) := ⟨(pickF wh row.length).toNat, by show _ = _; have := pickF_nonneg wh row.length (by omega); omega⟩
  have hj : j < row.length := by have := HJ.out; have := pickF_lt wh row.length (by omega); omega
  have hj0 : (0 : Int) ≤ (j : Int) := by omega
  have hj1 : (j : Int) < (row.length : Int) := by omega
  obtain ⟨p, hpj, hpm⟩ := srt_at hj
  have hcl : u.cell? ⟨lb, j, none⟩ = some (.int .i64 p) := by rw [hl.cellAt j (by omega), List.getElem?_map, hpj]; rfl
  have hadd := add0 lb j
  obtain ⟨tk', rows', hT⟩ := take_ex hS hpm h2
  have hS' := hT.st hS
  have hG := hT.back hS
  have hgn := hO g hP.og
  generalize hrows : front ++ [row] = rows at hP hS hT hG
  refine ends_seq ?_
  refine ends_view fun hV => ends_code tame hSh hV some3 rfl rfl (by kernel_rfl) fun τ d => ?_
  simp only [K37, headC, tailC, body3, Try.f3, Option.getD_some]
  have hcl' : (tp u τ d).cell? ⟨lb, j, none⟩ = some (.int .i64 p) := hcl
  go_wp2_with (go_at_call 8; refine (pick_any wh row.length _ hw1 hw2 (by omega) (by omega)).mono ?_; rintro e w' ⟨rfl, hw⟩; obtain rfl := hw.symm; rw [HJ.out])
  refine qe_normal (EndsOk.at (u := u) ?_ rfl)
  clear hcl'
  clear hV τ d
  refine ends_seq ?_
  simp only [K38, headC, tailC, body3, Try.f3, Option.getD_some]
  refine ends_reg rfl ?_
  simp only [List.size_toArray, List.length_cons, List.length_nil, Nat.reduceAdd, Nat.zero_add, List.range, List.range.loop]
  refine ends_op rfl rfl (fun w => by simp [go_sem]; rfl) (fun w => by simp [go_sem]) ?_
  walk_nrm
  refine ends_op rfl rfl (fun w => by simp [go_sem]; rfl) (fun w => by simp [go_sem]) ?_
  walk_nrm
  refine ends_into rfl rfl (by k_ne) rfl Try.func12 (by kernel_rfl) rfl ?_
  walk_nrm
  refine ends_whereS hSh (m := 0) (by rw [cnt_zero]; exact hP) hS (hKs.newer hF) hc hlen (by omega) fun Sh1 κ1 u1 ba ca hSh1 hF1 hk1 hP1 ha1 ha2 ho1 => ?_
  rw [finish_at rfl]
  walk_nrm
  refine ends_op rfl rfl (fun w => by simp [go_sem]; rfl) (fun w => by simp [go_sem]) ?_
  walk_nrm
  refine ends_op rfl rfl (fun w => by simp [go_sem]; rfl) (fun w => by simp [go_sem]) ?_
  walk_nrm
  refine ends_op rfl rfl (fun w => by simp [go_sem]; rfl) (fun w => by simp [go_sem]) ?_
  walk_nrm
  refine ends_op rfl rfl (fun w => by simp [go_sem]; rfl) (fun w => by simp [go_sem]) ?_
  walk_nrm
  refine ends_op rfl rfl (fun w => by simp [go_sem]; rfl) (fun w => by simp [go_sem]) ?_
  walk_nrm
  refine ends_regEnd ?_
  have hF01 : Hp (Newer u0) u0 u1 := hF.thenN hF1 (fun i s => by rw [s]; exact hgn.2)
  have hz0 := hF.size'
  have hz1 := hF1.size'
  refine ends_seq ?_
  refine ends_view fun hV => ends_code tame hSh1 hV some3 rfl rfl (by kernel_rfl) fun τ d => ?_
  simp only [K39, headC, tailC, body3, Try.f3, Option.getD_some]
  go_wp2_with (go_at_call 13; refine (take_any (hP1.tp τ d) hS hT).mono ?_; rintro e' w2 ⟨rfl, hF2, hP2⟩)
  refine qe_normal ?_
  replace hF2 := hF2.hp
  have hP2' : PoolS w2 g (fun k => (O k ∨ u1.heap.size ≤ k) ∧ k < w2.heap.size) tk' rows' (cnt (0 + 2 * (ks.length + 2))) := hP2.tight
  clear hP2
  clear hV τ d
  have hz2 := hF2.size'
  have hO2 : ∀ k, (O k ∨ u1.heap.size ≤ k) ∧ k < w2.heap.size → (O k ∨ u1.heap.size ≤ k) ∧ k < w2.heap.size ∧ Newer u0 k := fun k hk => ⟨hk.1, hk.2, hk.1.elim (fun q => (hO k q).2) (fun q => by show u0.heap.size ≤ k; omega)⟩
  generalize hOO : (fun k => (O k ∨ u1.heap.size ≤ k) ∧ k < w2.heap.size) = O2 at hP2'
  replace hO2 : ∀ k, O2 k → (O k ∨ u1.heap.size ≤ k) ∧ k < w2.heap.size ∧ Newer u0 k := fun k hk => by rw [← hOO] at hk; exact hO2 k hk
  clear hOO
  have hF02 : Hp (Newer u0) u0 w2 := hF01.thenN hF2 (fun i s => (hO i s).2)
  have ho2 := hF2.owns ho1 (fun k hk s => by
    have e : ba = k := by simpa [Value.ownBlock] using hk
    have := (hO k s).1
    omega)
  refine ends_seq ?_
  simp only [K310, headC, tailC, body3, Try.f3, Option.getD_some]
  refine ends_reg rfl ?_
  simp only [List.size_toArray, List.length_cons, List.length_nil, Nat.reduceAdd, Nat.zero_add, List.range, List.range.loop]
  refine ends_op rfl rfl (fun w => by simp [go_sem]; rfl) (fun w => by simp [go_sem]) ?_
  walk_nrm
  refine ends_op rfl rfl (fun w => by simp [go_sem]; rfl) (fun w => by simp [go_sem]) ?_
  walk_nrm
  refine ends_into rfl rfl (by k_ne) rfl Try.func12 (by kernel_rfl) rfl ?_
  walk_nrm
  refine ends_whereS hSh1 hP2' hS' (hKs.newer hF02) hc hlen (by omega) fun Sh3 κ3 u3 bb cb hSh3 hF3 hk3 hP3 hb1 hb2 hq3 => ?_
  rw [finish_at rfl]
  walk_nrm
  refine ends_op rfl rfl (fun w => by simp [go_sem]; rfl) (fun w => by simp [go_sem]) ?_
  walk_nrm
  refine ends_op rfl rfl (fun w => by simp [go_sem]; rfl) (fun w => by simp [go_sem]) ?_
  walk_nrm
  refine ends_op rfl rfl (fun w => by simp [go_sem]; rfl) (fun w => by simp [go_sem]) ?_
  walk_nrm
  refine ends_op rfl rfl (fun w => by simp [go_sem]; rfl) (fun w => by simp [go_sem]) ?_
  walk_nrm
  refine ends_op rfl rfl (fun w => by simp [go_sem]; rfl) (fun w => by simp [go_sem]) ?_
  walk_nrm
  refine ends_regEnd ?_
  have hF03 : Hp (Newer u0) u0 u3 := hF02.thenN hF3 (fun i s => by rw [s]; exact hgn.2)
  have hz3 := hF3.size'
  have ho3 := hF3.owns ho2 (fun k hk s => by
    have e : ba = k := by simpa [Value.ownBlock] using hk
    omega)
  refine ends_seq ?_
  refine ends_view fun hV => ends_code tame hSh3 hV some3 rfl rfl (by kernel_rfl) fun τ d => ?_
  simp only [K311, headC, tailC, body3, Try.f3, Option.getD_some]
  go_wp2_with (go_at_call 11; refine (give_any (hP3.tp τ d) hG).mono ?_; rintro e' w4 ⟨rfl, hF4, hP4⟩)
  refine qe_normal ?_
  replace hF4 := hF4.hp
  have hP4' : PoolS w4 g (fun k => O2 k ∨ u3.heap.size ≤ k) tk rows (cnt (0 + 2 * (ks.length + 2) + 2 * (ks.length + 2))) := hP4
  clear hP4
  clear hV τ d
  have hz4 := hF4.size'
  have hF04 : Hp (Newer u0) u0 w4 := hF03.thenN hF4 (fun i s => (hO2 i s).2.2)
  have ho4 := hF4.owns ho3 (fun k hk s => by
    have e : ba = k := by simpa [Value.ownBlock] using hk
    rcases (hO2 k s).1 with q | q
    · have := (hO k q).1
      omega
    · omega)
  have hq4 := hF4.owns hq3 (fun k hk s => by
    have e : bb = k := by simpa [Value.ownBlock] using hk
    have := (hO2 k s).2.1
    omega)
  refine ends_seq ?_
  simp only [K312, headC, tailC, body3, Try.f3, Option.getD_some]
  refine ends_reg rfl ?_
  simp only [List.size_toArray, List.length_cons, List.length_nil, Nat.reduceAdd, Nat.zero_add, List.range, List.range.loop]
  refine ends_op rfl rfl (fun w => by simp [go_sem]; rfl) (fun w => by simp [go_sem]) ?_
  walk_nrm
  refine ends_op rfl rfl (fun w => by simp [go_sem]; rfl) (fun w => by simp [go_sem]) ?_
  walk_nrm
  refine ends_into rfl rfl (by k_ne) rfl Try.func12 (by kernel_rfl) rfl ?_
  walk_nrm
  refine ends_whereS hSh3 hP4' hS (hKs.newer hF04) hc hlen (by omega) fun Sh5 κ5 u5 bc cc hSh5 hF5 hk5 hP5 hd1 hd2 hr5 => ?_
  rw [finish_at rfl]
  walk_nrm
  refine ends_op rfl rfl (fun w => by simp [go_sem]; rfl) (fun w => by simp [go_sem]) ?_
  walk_nrm
  refine ends_op rfl rfl (fun w => by simp [go_sem]; rfl) (fun w => by simp [go_sem]) ?_
  walk_nrm
  refine ends_op rfl rfl (fun w => by simp [go_sem]; rfl) (fun w => by simp [go_sem]) ?_
  walk_nrm
  refine ends_op rfl rfl (fun w => by simp [go_sem]; rfl) (fun w => by simp [go_sem]) ?_
  walk_nrm
  refine ends_op rfl rfl (fun w => by simp [go_sem]; rfl) (fun w => by simp [go_sem]) ?_
  walk_nrm
  refine ends_regEnd ?_
  have hF05 : Hp (Newer u0) u0 u5 := hF04.thenN hF5 (fun i s => by rw [s]; exact hgn.2)
  have ho5 := hF5.owns ho4 (fun k hk s => by
    have e : ba = k := by simpa [Value.ownBlock] using hk
    omega)
  have hq5 := hF5.owns hq4 (fun k hk s => by
    have e : bb = k := by simpa [Value.ownBlock] using hk
    omega)
  refine ends_view fun hV => ends_code tame hSh5 hV some3 rfl rfl (by kernel_rfl) fun τ d => ?_
  refine few_rest rfl (tp u5 τ d) (L := ks.length + 2) (A := plA tk rows ks) (B := plA tk' rows' ks) (C := plA tk rows ks) (p := p) hlen (fun k hk => plA_cell ho5 k hk) (fun k hk => plA_cell hq5 k hk) (fun k hk => plA_cell hr5 k hk) (fun k _ => (hT.few hS _).1) (fun k _ => (hT.few hS _).2) (fun _ _ => rfl) ?_
  intro w7 T' hF7 hT' todo
  refine hK Sh5 κ5 w7 T' todo ((hF05.thenN hF7.hp (fun _ s => s.elim)).toNo) (fun r hr => ?_) hT'
  rw [hk5 r (by omega), hk3 r (by omega), hk1 r (by omega), hκ r hr]

set_option maxRecDepth 100000 in
set_option maxHeartbeats 2000000 in
theorem ends_few (hSh : ∀ l, Sh l → ∃ a, l = .cell a ∧ κ a.block = .void) {n wh : Int} (hn1 : -9223372036854775808 ≤ n) (hn2 : n ≤ 9223372036854775807) (hw1 : -9223372036854775808 ≤ wh) (hw2 : wh ≤ 9223372036854775807) {am : Option Addr} {mc : Nat} {mv : List Int} (hM : IntsAt u am mv) (hml : mv.length ≤ 9223372036854775807)
    {ao : Option Addr} {kc : Nat} {ks : List Nat} (hKs : KeysAt u ao ks) (hc : ao = none → kc = 0) (hlen : (ks.length + 2) * 8 ≤ 140737488355328) (hN : N + 8 + 8 + 8 < 2147483648)
    (hK : ∀ (Sh' : Loc → Prop) (κ' : Nat → Kd) (u' : World) (T' : Array Value) (todo : List Item), Hp NoB u u' → (∀ r, r < u.heap.size → κ' r = κ r) → T'.getD 8 undef = .bool true →
      EndsOk Try.prog Post W Sh' κ' (N + 8 + 8 + 8) (G { (base 3).at ⟨T', []⟩ todo with mode := .returning } []) u') :
    EndsOk Try.prog Post W Sh κ N (G (Frame.enter Try.prog 3 #[.int .i64 n, .slice am mv.length mc, .int .i64 wh, .slice ao ks.length kc] .normal) []) u := by
  obtain ⟨a, HA⟩ : ∃ a : Nat, Hid (2 + pickF n 63 = (a : Int)) := ⟨(2 + pickF n 63).toNat, by show _ = _; have := pickF_nonneg n 63 (by decide); omega⟩
  have q0 := pickF_nonneg n 63 (by decide)
  have q1 := pickF_lt n 63 (by decide)
  have ha1 : 1 ≤ a := by have := HA.out; omega
  have ha2 : a ≤ 64 := by have := HA.out; omega
  rw [Go.Conc.enter_at _ Try.func3 cut3]
  simp only [Try.f3, List.size_toArray, List.length_cons, List.length_nil, Nat.reduceAdd, Nat.reduceSub, Array.replicate_succ, Array.replicate_zero, List.push_toArray, List.append_toArray, List.nil_append, List.cons_append]
  refine ends_seq ?_
  refine ends_view fun hV => ends_code tame hSh hV some3 rfl rfl (by kernel_rfl) fun τ d => ?_
  simp only [K30, headC, tailC, body3, Try.f3, Option.getD_some]
  go_wp2
  refine qe_normal (EndsOk.at (u := u) ?_ rfl)
  clear hV τ d
  refine ends_seq ?_
  refine ends_view fun hV => ends_code tame hSh hV some3 rfl rfl (by kernel_rfl) fun τ d => ?_
  simp only [K31, headC, tailC, body3, Try.f3, Option.getD_some]
  go_wp2_with (first | (go_at_call 8; refine (pick_any n 63 _ hn1 hn2 (by decide) (by decide)).mono ?_; rintro e w' ⟨rfl, hw⟩; obtain rfl := hw.symm) | (go_at_call 7; rw [HA.out]; refine (begun_any _ a ha1 ha2).mono ?_; rintro e w1 ⟨g, rfl, hF1, hP1⟩))
  refine qe_normal ?_
  replace hF1 := hF1.hp
  have hP1' : PoolS w1 g (Newer u) [] [upto a] 0 := hP1
  have hF01 : Hp (Newer u) u w1 := hF1.ofNo
  clear hP1 hF1
  clear hV τ d
  refine ends_seq ?_
  refine ends_view fun hV => ends_code tame hSh hV some3 rfl rfl (by kernel_rfl) fun τ d => ?_
  simp only [K32, headC, tailC, body3, Try.f3, Option.getD_some]
  go_wp2
  refine qe_normal (EndsOk.at (u := w1) ?_ rfl)
  clear hV τ d
  have hM1 := hM.newer hF01
  have hz1 := hF01.size'
  refine ends_seq ?_
  refine ends_view fun hV => ends_code tame hSh hV some3 rfl rfl (by kernel_rfl) fun τ d => ?_
  simp only [K33, headC, tailC, body3, Try.f3, Option.getD_some]
  go_wp2_with (go_at_call 9; refine (moved_any (Newer u) _ g [] [upto a] 0 (hP1'.tp τ d) (St.base a ha1 ha2) am mc mv (hM1.tp τ d) hml (fun a' ha hpos s => absurd s (Nat.not_le.2 (hM.lt_of a' ha hpos)))).mono ?_; rintro e w2 ⟨rfl, hL⟩)
  refine qe_normal ?_
  have hF12 := hL.frm.hp
  obtain ⟨O2, tk, rows, hP2, hS, hO2⟩ := hL.ex
  replace hO2 : ∀ k, O2 k → Newer u k := fun k hk => (hO2 k hk).elim id (fun q => Nat.le_trans hz1 q)
  have hF02 : Hp (Newer u) u w2 := hF01.thenN hF12 (fun _ s => s)
  clear hL hP1' hF12 hM1
  clear hV τ d
  obtain ⟨front, row, rfl⟩ := hS.split
  have hll := hS.lens
  have hsl := srt_length row
  refine ends_seq ?_
  refine ends_view fun hV => ends_code tame hSh hV some3 rfl rfl (by kernel_rfl) fun τ d => ?_
  simp only [K34, headC, tailC, body3, Try.f3, Option.getD_some]
  go_wp2_with (go_at_call 10; refine (stand_any (hP2.tp τ d) hS).mono ?_; rintro e w3 ⟨l, rfl, hN3⟩; obtain ⟨l0, lc, rfl⟩ := owns_shape hN3.1; rw [hsl])
  refine qe_normal ?_
  obtain ⟨ho3, hF3, hn3⟩ := hN3.tp
  clear hN3
  clear hV τ d
  rw [hsl] at ho3 hn3
  obtain ⟨lb, rfl⟩ : ∃ lb, l0 = some ⟨lb, 0, none⟩ := by
    rcases ho3.2 with ⟨_, q⟩ | ⟨lb, cp, cur, e, _⟩
    · omega
    · cases e; exact ⟨lb, rfl⟩
  have hF03 : Hp (Newer u) u w3 := hF02.thenN hF3 (fun _ s => s.elim)
  have hP3 := hP2.hp hF3 (fun _ _ s => s)
  have hz3 := hF3.size'
  have hr0 : ¬ (row.length : Int) = 0 := by omega
  have hr0' : ((row.length : Int) == 0) = false := beq_eq_false_iff_ne.2 hr0
  refine ends_seq ?_
  refine ends_view fun hV => ends_code tame hSh hV some3 rfl rfl (by kernel_rfl) fun τ d => ?_
  simp only [K35, headC, tailC, body3, Try.f3, Option.getD_some]
  go_wp2
  refine qe_normal (EndsOk.at (u := w3) ?_ rfl)
  clear hV τ d
  by_cases h1 : row.length = 1
  · obtain ⟨p1, tk', front', row', hG, hl2⟩ := give_one hS h1
    have hS' := hG.st hS
    have hsl' := srt_length row'
    have hi1 : (row.length : Int) = 1 := by omega
    have hi2 : (row'.length : Int) = 2 := by omega
    have HL2 : Hid (row'.length = 2) := hl2
    clear hl2 h1
    refine ends_seq ?_
    refine ends_view fun hV => ends_code tame hSh hV some3 rfl rfl (by kernel_rfl) fun τ d => ?_
    simp only [K36, headC, tailC, body3, Try.f3, Option.getD_some]
    go_wp2_with (first
      | (go_at_call 11; refine (give_any (hP3.tp τ d) hG).mono ?_; rintro e' w4 ⟨rfl, hF4, hP4⟩)
      | (go_at_call 10; refine (stand_any hP4 hS').mono ?_; rintro e w5 ⟨l, rfl, hN5⟩; obtain ⟨l1, lc1, rfl⟩ := owns_shape hN5.1; rw [hsl']))
    refine qe_normal ?_
    replace hF4 := hF4.hp
    have hP4' : PoolS w4 g (fun k => O2 k ∨ w3.heap.size ≤ k) tk' (front' ++ [row']) 0 := hP4
    obtain ⟨ho5, hF5, hn5⟩ := hN5
    rw [hsl'] at ho5 hn5
    clear hP4 hV τ d
    have hl2 := HL2.out
    obtain ⟨lb1, rfl⟩ : ∃ lb, l1 = some ⟨lb, 0, none⟩ := by
      rcases ho5.2 with ⟨_, q⟩ | ⟨lb, cp, cur, e, _⟩
      · omega
      · cases e; exact ⟨lb, rfl⟩
    have hF5' : Hp NoB w4 w5 := ⟨hF5.os, rfl, hF5.output, hF5.size, hF5.block⟩
    have hF04 : Hp (Newer u) u w4 := hF03.thenN hF4 (fun i s => hO2 i s)
    have hF05 : Hp (Newer u) u w5 := hF04.thenN hF5' (fun _ s => s.elim)
    have hP5 := (hP4'.hp hF5' (fun _ _ s => s)).tight
    have hz03 := hF03.size'
    exact few_tail hSh hw1 hw2 hF05 (fun _ _ => rfl) hP5 (fun k hk => ⟨hk.2, hk.1.elim (hO2 k) (fun q => by show u.heap.size ≤ k; omega)⟩) hS' (by have := HL2.out; omega) ho5 hKs hc hlen hN hK
  · have hi1 : ¬ (row.length : Int) = 1 := by omega
    have hi1' : ((row.length : Int) == 1) = false := beq_eq_false_iff_ne.2 hi1
    refine ends_seq ?_
    refine ends_view fun hV => ends_code tame hSh hV some3 rfl rfl (by kernel_rfl) fun τ d => ?_
    simp only [K36, headC, tailC, body3, Try.f3, Option.getD_some]
    go_wp2
    refine qe_normal (EndsOk.at (u := w3) ?_ rfl)
    clear hV τ d
    have hP3' := hP3.tight
    exact few_tail hSh hw1 hw2 hF03 (fun _ _ => rfl) hP3' (fun k hk => ⟨hk.2, hO2 k hk.1⟩) hS (by omega) ho3 hKs hc hlen hN hK
end
end Go.Proofs.Ytpioacgknamemaa
