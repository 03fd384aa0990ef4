/- One step of the script. -/
import Derived.Test.YtinadpanpnenjaaPairs
import Derived.Deep.RegionHeld3
namespace Go.Proofs.Ytinadpanpnenjaa
open Go.RowKit

theorem pick_nat (c n : Int) (i : Nat) (w : World) (h1 : -9223372036854775808 ≤ c) (h2 : c ≤ 9223372036854775807) (h3 : 1 ≤ n) (h4 : n ≤ 9223372036854775807) (hi : Hid (pickF c n = i)) :
    Calls Try.prog 8 #[.int .i64 c, .int .i64 n] w fun e w' => e = .returned (.int .i64 (i : Int)) ∧ w' = w := by
  rw [← hi.out]
  exact pick_any c n w h1 h2 h3 h4

theorem pairs_at {w : World} {ao : Option Addr} {cap : Nat} {ps : List Pr} (ho : w.ownsRow 0 44 2 (.slice ao ps.length cap) ps.length (ps.flatMap Pr.val)) {i : Nat} {p : Pr} (hi : ps[i]? = some p) :
    ∃ gl, ao = some ⟨gl, 0, none⟩ ∧ w.cell? ⟨gl, i * 2, none⟩ = some (.pointer (some ⟨p.gx, 0, none⟩)) ∧ w.cell? ⟨gl, i * 2 + 1, none⟩ = some (.pointer (some ⟨p.gy, 0, none⟩)) := by
  have hil : i < ps.length := (List.getElem?_eq_some_iff.1 hi).1
  have hv : ∀ (l : List Pr) (j : Nat) (q : Pr), l[j]? = some q → (l.flatMap Pr.val)[j * 2]? = some (.pointer (some ⟨q.gx, 0, none⟩)) ∧ (l.flatMap Pr.val)[j * 2 + 1]? = some (.pointer (some ⟨q.gy, 0, none⟩)) := by
    intro l
    induction l with
    | nil => intro j q h; simp at h
    | cons a l ih =>
      intro j q h
      cases j with
      | zero => simp at h; subst h; simp [Pr.val]
      | succ j =>
        have := ih j q (by simpa using h)
        have e : (j + 1) * 2 = j * 2 + 2 := by omega
        rw [e]
        simpa [Pr.val] using this
  rcases ho.2 with ⟨_, h⟩ | ⟨gl, cap', cur, h, _⟩
  · omega
  · simp only [Value.slice.injEq] at h
    obtain ⟨rfl, -, rfl⟩ := h
    obtain ⟨h1, h2⟩ := hv ps i p hi
    exact ⟨gl, rfl, by rw [ho.cellAt _ (by omega), h1], by rw [ho.cellAt _ (by omega), h2]⟩

theorem two_drew {w : World} (o1 o2 : Obj) : Frm NoB w ((w.alloc o1).alloc o2).drew := (((Frm.refl _ w).alloc o1).alloc o2).drew

set_option maxHeartbeats 1000000 in
theorem step_take (own : Nat → Nat) (w0 w : World) (g : Nat) (vl vns vkn : Value) (ps : List Pr) (es : List (Value × Int)) (h : LInv own w0 w g vl vns vkn ps es) (hps : 0 < ps.length) (hpl : ps.length ≤ 1000000000000000) (J : Nat) (hJ : ∀ p ∈ ps, p.jl.length ≤ J)
    (hb : J ≤ 140737488355000) (a : Int) (ha : -9223372036854775808 ≤ a ∧ a ≤ 9223372036854775807) (E : Int) (hE : -9223372036854775808 ≤ E ∧ E ≤ 9223372036854775807) (vB vK vL vS vJ : Value) :
    Calls Try.prog 5 #[.pointer (some ⟨g, 0, none⟩), .agg #[.int .i64 3, .int .i64 E, .int .i64 a, vB, vK, vL, vS, vJ]] w fun r w' => r = .returned (.bool true) ∧ MovePost w0 w' g ps es J := by
  obtain ⟨i, hi0⟩ : ∃ i : Nat, pickF E ps.length = i := ⟨(pickF E ps.length).toNat, by have := pickF_nonneg E ps.length (by omega); omega⟩
  have hlt : i < ps.length := by have := pickF_lt E ps.length (by omega); omega
  obtain ⟨p, hp⟩ : ∃ p, ps[i]? = some p := ⟨_, List.getElem?_eq_getElem hlt⟩
  have HI : Hid (pickF E ps.length = i) := hi0
  have hL := h.ownL
  have c0 := cell_of_row w g 0 _ _ _ h.wb.blk
  obtain ⟨ao, cap, rfl⟩ := owns_shape hL
  obtain ⟨gl, rfl, cx, cy⟩ := pairs_at hL hp
  have hgl : g < w.heap.size := h.gt
  have hll : gl < w.heap.size := owns_lt hL rfl
  obtain ⟨e1, e2⟩ := hE
  have hz0 : (0 : Int) ≤ (i : Int) := by omega
  have hz1 : (i : Int) < (ps.length : Int) := by omega
  clear hi0 hL
  go_enter Try.func5, Try.ntmps5
  go_wp2
  go_region_held3 (fun w' => w'.cell? ⟨g, 0, none⟩ = some (.slice (some ⟨gl, 0, none⟩) ps.length cap) ∧ w'.cell? ⟨w.heap.size, 1, none⟩ = some (.int .i64 E) ∧ w'.cell? ⟨gl, i * 2, none⟩ = some (.pointer (some ⟨p.gx, 0, none⟩)) ∧ w'.cell? ⟨gl, i * 2 + 1, none⟩ = some (.pointer (some ⟨p.gy, 0, none⟩))) (go_keep) (first | (go_at_call 8; refine (pick_nat E ps.length i _ e1 e2 (by omega) (by omega) HI).mono ?_; rintro r w' ⟨rfl, rfl⟩))
  all_goals go_wp2_with fail
  all_goals clear c0 cx cy
  all_goals
    refine (moves_take own w0 _ g _ vns vkn ps es (h.no (two_drew _ _)) i p hp J hJ hb a ha _ _ _ _ _ _).mono ?_
    rintro r w3 ⟨rfl, hM⟩
    go_wp2
    go_ret
    exact ⟨rfl, hM⟩

set_option maxHeartbeats 1000000 in
theorem step_give (own : Nat → Nat) (w0 w : World) (g : Nat) (vl vns vkn : Value) (ps : List Pr) (es : List (Value × Int)) (h : LInv own w0 w g vl vns vkn ps es) (hps : 0 < ps.length) (hpl : ps.length ≤ 1000000000000000) (J : Nat) (hJ : ∀ p ∈ ps, p.jl.length ≤ J)
    (hb : J ≤ 140737488355000) (E : Int) (hE : -9223372036854775808 ≤ E ∧ E ≤ 9223372036854775807) (vA vB vK vL vS vJ : Value) :
    Calls Try.prog 5 #[.pointer (some ⟨g, 0, none⟩), .agg #[.int .i64 4, .int .i64 E, vA, vB, vK, vL, vS, vJ]] w fun r w' => r = .returned (.bool true) ∧ MovePost w0 w' g ps es J := by
  obtain ⟨i, hi0⟩ : ∃ i : Nat, pickF E ps.length = i := ⟨(pickF E ps.length).toNat, by have := pickF_nonneg E ps.length (by omega); omega⟩
  have hlt : i < ps.length := by have := pickF_lt E ps.length (by omega); omega
  obtain ⟨p, hp⟩ : ∃ p, ps[i]? = some p := ⟨_, List.getElem?_eq_getElem hlt⟩
  have HI : Hid (pickF E ps.length = i) := hi0
  have hL := h.ownL
  have c0 := cell_of_row w g 0 _ _ _ h.wb.blk
  obtain ⟨ao, cap, rfl⟩ := owns_shape hL
  obtain ⟨gl, rfl, cx, cy⟩ := pairs_at hL hp
  have hgl : g < w.heap.size := h.gt
  have hll : gl < w.heap.size := owns_lt hL rfl
  obtain ⟨e1, e2⟩ := hE
  have hz0 : (0 : Int) ≤ (i : Int) := by omega
  have hz1 : (i : Int) < (ps.length : Int) := by omega
  clear hi0 hL
  go_enter Try.func5, Try.ntmps5
  go_wp2
  go_region_held3 (fun w' => w'.cell? ⟨g, 0, none⟩ = some (.slice (some ⟨gl, 0, none⟩) ps.length cap) ∧ w'.cell? ⟨w.heap.size, 1, none⟩ = some (.int .i64 E) ∧ w'.cell? ⟨gl, i * 2, none⟩ = some (.pointer (some ⟨p.gx, 0, none⟩)) ∧ w'.cell? ⟨gl, i * 2 + 1, none⟩ = some (.pointer (some ⟨p.gy, 0, none⟩))) (go_keep) (first | (go_at_call 8; refine (pick_nat E ps.length i _ e1 e2 (by omega) (by omega) HI).mono ?_; rintro r w' ⟨rfl, rfl⟩))
  all_goals go_wp2_with fail
  all_goals clear c0 cx cy
  all_goals
    refine (moves_give own w0 _ g _ vns vkn ps es (h.no (two_drew _ _)) i p hp J hJ hb _ _ _ _ _ _ _).mono ?_
    rintro r w3 ⟨rfl, hM⟩
    go_wp2
    go_ret
    exact ⟨rfl, hM⟩

set_option maxHeartbeats 1000000 in
theorem step_standing (own : Nat → Nat) (w0 w : World) (g : Nat) (vl vns vkn : Value) (ps : List Pr) (es : List (Value × Int)) (h : LInv own w0 w g vl vns vkn ps es) (hps : 0 < ps.length) (hpl : ps.length ≤ 1000000000000000) (hb : (es.length + 4) * 24 ≤ 140737488355328) (E : Int) (hE : -9223372036854775808 ≤ E ∧ E ≤ 9223372036854775807) (vA vB vK vL vS vJ : Value) :
    Calls Try.prog 5 #[.pointer (some ⟨g, 0, none⟩), .agg #[.int .i64 5, .int .i64 E, vA, vB, vK, vL, vS, vJ]] w fun r w' => r = .returned (.bool true) ∧ ListPost w0 w' g ps es := by
  obtain ⟨i, hi0⟩ : ∃ i : Nat, pickF E ps.length = i := ⟨(pickF E ps.length).toNat, by have := pickF_nonneg E ps.length (by omega); omega⟩
  have hlt : i < ps.length := by have := pickF_lt E ps.length (by omega); omega
  obtain ⟨p, hp⟩ : ∃ p, ps[i]? = some p := ⟨_, List.getElem?_eq_getElem hlt⟩
  have HI : Hid (pickF E ps.length = i) := hi0
  have hL := h.ownL
  have c0 := cell_of_row w g 0 _ _ _ h.wb.blk
  obtain ⟨ao, cap, rfl⟩ := owns_shape hL
  obtain ⟨gl, rfl, cx, cy⟩ := pairs_at hL hp
  have hgl : g < w.heap.size := h.gt
  have hll : gl < w.heap.size := owns_lt hL rfl
  obtain ⟨e1, e2⟩ := hE
  have hz0 : (0 : Int) ≤ (i : Int) := by omega
  have hz1 : (i : Int) < (ps.length : Int) := by omega
  clear hi0 hL
  go_enter Try.func5, Try.ntmps5
  go_wp2
  go_region_held3 (fun w' => w'.cell? ⟨g, 0, none⟩ = some (.slice (some ⟨gl, 0, none⟩) ps.length cap) ∧ w'.cell? ⟨w.heap.size, 1, none⟩ = some (.int .i64 E) ∧ w'.cell? ⟨gl, i * 2, none⟩ = some (.pointer (some ⟨p.gx, 0, none⟩)) ∧ w'.cell? ⟨gl, i * 2 + 1, none⟩ = some (.pointer (some ⟨p.gy, 0, none⟩))) (go_keep) (first | (go_at_call 8; refine (pick_nat E ps.length i _ e1 e2 (by omega) (by omega) HI).mono ?_; rintro r w' ⟨rfl, rfl⟩))
  all_goals go_wp2_with fail
  all_goals clear c0 cx cy
  all_goals
    refine (moves_standing own w0 _ g _ vns vkn ps es (h.no (two_drew _ _)) i p hp hb _ _ _ _ _ _ _).mono ?_
    rintro r w3 ⟨rfl, hM⟩
    go_wp2
    go_ret
    exact ⟨rfl, hM⟩

set_option maxHeartbeats 400000 in
theorem step_jump (w0 w : World) (g : Nat) (ps : List Pr) (es : List (Value × Int)) (h : St w0 w g ps es) (a k : Int) (h0 : 0 ≤ k) (h1 : k < 18446744073709551616) (vE vB vL vS vJ : Value) :
    Calls Try.prog 5 #[.pointer (some ⟨g, 0, none⟩), .agg #[.int .i64 1, vE, .int .i64 a, vB, .int .u64 k, vL, vS, vJ]] w fun r w' => r = .returned (.bool true) ∧ St w0 w' g ps es := by
  go_enter Try.func5, Try.ntmps5
  go_wp2_with fail
  refine (begins_jump _ g _ _ _ _ _ a k h0 h1).mono ?_
  rintro r w3 ⟨rfl, hf⟩
  go_wp2
  go_ret
  exact ⟨rfl, h.no (((Frm.refl _ w).alloc _).then hf)⟩

set_option maxHeartbeats 400000 in
theorem step_new (w0 w : World) (g : Nat) (ps : List Pr) (es : List (Value × Int)) (h : St w0 w g ps es) (J : Nat) (h6 : 6 ≤ J) (hJ : ∀ p ∈ ps, p.jl.length ≤ J) (hb : (ps.length + 1) * 16 ≤ 140737488355328)
    (a : Int) (vE vB vK vL vS vJ : Value) :
    Calls Try.prog 5 #[.pointer (some ⟨g, 0, none⟩), .agg #[.int .i64 2, vE, .int .i64 a, vB, vK, vL, vS, vJ]] w fun r w' => r = .returned (.bool true) ∧ BegPost w0 w' g ps es J a := by
  go_enter Try.func5, Try.ntmps5
  go_wp2_with fail
  refine (begins_new w0 _ g ps es (h.no ((Frm.refl _ w).alloc _)) J h6 hJ hb a _ _ _ _ _ _).mono ?_
  rintro r w3 ⟨rfl, hB⟩
  go_wp2
  go_ret
  exact ⟨rfl, hB⟩
end Go.Proofs.Ytinadpanpnenjaa
