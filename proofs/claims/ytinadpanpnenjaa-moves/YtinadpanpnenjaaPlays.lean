/- The whole script. -/
import Derived.Test.YtinadpanpnenjaaStep
namespace Go.Proofs.Ytinadpanpnenjaa
open Go.RowKit

/-- A step of the script as it lies in memory. -/
structure StepAt (w : World) (b o : Nat) (kind E a B k : Int) (vL vS vJ : Value) : Prop where
  c0 : w.cell? ⟨b, o, none⟩ = some (.int .i64 kind)
  c1 : w.cell? ⟨b, o + 1, none⟩ = some (.int .i64 E)
  c2 : w.cell? ⟨b, o + 2, none⟩ = some (.int .i64 a)
  c3 : w.cell? ⟨b, o + 3, none⟩ = some (.int .i64 B)
  c4 : w.cell? ⟨b, o + 4, none⟩ = some (.int .u64 k)
  c5 : w.cell? ⟨b, o + 5, none⟩ = some vL
  c6 : w.cell? ⟨b, o + 6, none⟩ = some vS
  c7 : w.cell? ⟨b, o + 7, none⟩ = some vJ
  rE : -9223372036854775808 ≤ E ∧ E ≤ 9223372036854775807
  ra : -9223372036854775808 ≤ a ∧ a ≤ 9223372036854775807
  rk : 0 ≤ k ∧ k < 18446744073709551616

def StepsAt (w : World) (ao : Option Addr) (L : Nat) : Prop :=
  ∀ i, i < L → ∃ b off kind E a B k vL vS vJ, ao = some ⟨b, off, none⟩ ∧ StepAt w b (off + i * 8) kind E a B k vL vS vJ

theorem StepAt.lt {w : World} {b o : Nat} {kind E a B k : Int} {vL vS vJ : Value} (h : StepAt w b o kind E a B k vL vS vJ) : b < w.heap.size := World.block_lt_of_cell? w _ h.c0

theorem StepAt.below {w0 w : World} {b o : Nat} {kind E a B k : Int} {vL vS vJ : Value} (h : StepAt w0 b o kind E a B k vL vS vJ) (hb : Below w0.heap.size w0 w) : StepAt w b o kind E a B k vL vS vJ :=
  ⟨(hb.cell h.lt).trans h.c0, (hb.cell h.lt).trans h.c1, (hb.cell h.lt).trans h.c2, (hb.cell h.lt).trans h.c3, (hb.cell h.lt).trans h.c4, (hb.cell h.lt).trans h.c5, (hb.cell h.lt).trans h.c6, (hb.cell h.lt).trans h.c7, h.rE, h.ra, h.rk⟩

/-- How far the script has been played. -/
def Far (w0 w : World) (g : Nat) (c : Nat) : Prop :=
  ∃ ps es, St w0 w g ps es ∧ 0 < ps.length ∧ es.length + 4 * ps.length ≤ 4 * c + 4 ∧ ∀ p ∈ ps, p.jl.length ≤ 6 * c + 6

theorem Far.no {w0 w w' : World} {g c : Nat} (h : Far w0 w g c) (hf : Frm NoB w w') : Far w0 w' g c := by
  obtain ⟨ps, es, h, r⟩ := h
  exact ⟨ps, es, h.no hf, r⟩

theorem Far.more {w0 w : World} {g c : Nat} (h : Far w0 w g c) : Far w0 w g (c + 1) := by
  obtain ⟨ps, es, h, h0, h1, h2⟩ := h
  exact ⟨ps, es, h, h0, by omega, fun p hp => by have := h2 p hp; omega⟩

theorem Far.below {w0 w : World} {g c : Nat} (h : Far w0 w g c) : Below w0.heap.size w0 w := by
  obtain ⟨ps, es, ⟨_, _, _, _, h⟩, r⟩ := h
  exact h.old

theorem step_far (w0 w : World) (g c : Nat) (h : Far w0 w g c) (hc : (c + 1) * 104 ≤ 140737488351232) (kind E a k : Int) (vB vL vS vJ : Value) (hk : 1 ≤ kind ∧ kind ≤ 5) (hE : -9223372036854775808 ≤ E ∧ E ≤ 9223372036854775807)
    (ha : -9223372036854775808 ≤ a ∧ a ≤ 9223372036854775807) (h0 : 0 ≤ k ∧ k < 18446744073709551616) :
    Calls Try.prog 5 #[.pointer (some ⟨g, 0, none⟩), .agg #[.int .i64 kind, .int .i64 E, .int .i64 a, vB, .int .u64 k, vL, vS, vJ]] w fun r w' => r = .returned (.bool true) ∧ Far w0 w' g (c + 1) := by
  have hfar := h
  obtain ⟨ps, es, hst, hp0, hle, hjl⟩ := h
  have hcases : kind = 1 ∨ kind = 2 ∨ kind = 3 ∨ kind = 4 ∨ kind = 5 := by omega
  have hst' := hst
  obtain ⟨own, vl, vns, vkn, hI⟩ := hst'
  rcases hcases with rfl | rfl | rfl | rfl | rfl
  · refine (step_jump w0 w g ps es hst a k h0.1 h0.2 _ _ _ _ _).mono ?_
    rintro r w' ⟨rfl, hs⟩
    exact ⟨rfl, ps, es, hs, hp0, by omega, fun p hp => by have := hjl p hp; omega⟩
  · refine (step_new w0 w g ps es hst (6 * c + 6) (by omega) hjl (by omega) a _ _ _ _ _ _).mono ?_
    rintro r w' ⟨rfl, ps', hs, hl, hj⟩
    refine ⟨rfl, ps', es, hs, ?_, ?_, fun p hp => by have := hj p hp; omega⟩
    · split at hl <;> omega
    · split at hl <;> omega
  · refine (step_take own w0 w g vl vns vkn ps es hI hp0 (by omega) (6 * c + 6) hjl (by omega) a ha E hE _ _ _ _ _).mono ?_
    rintro r w' ⟨rfl, ps', hs, hl, hj⟩
    exact ⟨rfl, ps', es, hs, by omega, by omega, fun p hp => by have := hj p hp; omega⟩
  · refine (step_give own w0 w g vl vns vkn ps es hI hp0 (by omega) (6 * c + 6) hjl (by omega) E hE _ _ _ _ _ _).mono ?_
    rintro r w' ⟨rfl, ps', hs, hl, hj⟩
    exact ⟨rfl, ps', es, hs, by omega, by omega, fun p hp => by have := hj p hp; omega⟩
  · refine (step_standing own w0 w g vl vns vkn ps es hI hp0 (by omega) (by omega) E hE _ _ _ _ _ _).mono ?_
    rintro r w' ⟨rfl, new, hs, hl⟩
    exact ⟨rfl, ps, es ++ new, hs, hp0, by simp; omega, fun p hp => by have := hjl p hp; omega⟩

theorem kept_far (w0 w : World) (g c : Nat) (h : Far w0 w g c) : Calls Try.prog 6 #[.pointer (some ⟨g, 1, none⟩)] w fun r w' => r = .returned (.bool true) ∧ Far w0 w' g c := by
  have hfar := h
  obtain ⟨ps, es, ⟨own, vl, vns, vkn, hI⟩, -⟩ := h
  refine (kept_any w g vl vns vkn es hI.wb hI.full).mono ?_
  rintro r w' ⟨rfl, hf⟩
  exact ⟨rfl, hfar.no hf⟩

def kindB (kind : Int) (k : Nat) : Bool := decide (1 ≤ kind ∧ kind ≤ k)
theorem kindB_succ_yes (kind : Int) (k : Nat) (h : kind = k + 1) : kindB kind (k + 1) = true := by unfold kindB; rw [decide_eq_true_eq]; omega
theorem kindB_succ_no (kind : Int) (k : Nat) (h : kind ≠ k + 1) : kindB kind (k + 1) = kindB kind k := by unfold kindB; rw [decide_eq_decide]; omega

theorem kinds_at {w wr : World} {gk : Nat} (hk : w.heap[gk]? = some (.cells #[.int .i64 1, .int .i64 2, .int .i64 3, .int .i64 4, .int .i64 5] 3 (0, 0))) (hb : Below w.heap.size w wr) (m : Nat) (hm : m < 5) : wr.cell? ⟨gk, m, none⟩ = some (.int .i64 ((m : Int) + 1)) := by
  have h1 : wr.heap[gk]? = some (.cells #[.int .i64 1, .int .i64 2, .int .i64 3, .int .i64 4, .int .i64 5] 3 (0, 0)) := (hb.block gk (lt_of_block hk)).trans hk
  rw [cell_of_row wr gk m _ _ _ h1]
  match m, hm with
  | 0, _ => rfl
  | 1, _ => rfl
  | 2, _ => rfl
  | 3, _ => rfl
  | 4, _ => rfl

/-- How many of the N pools have told at the end what stands. -/
def Ends (w0 w : World) (g L N j : Nat) : Prop := ∃ ps es, St w0 w g ps es ∧ ps.length = N ∧ j ≤ N ∧ es.length + 4 * N ≤ 4 * L + 4 + 4 * j

theorem Ends.shape {w0 w : World} {g L N j : Nat} (h : Ends w0 w g L N j) : ∃ ao cap, w.cell? ⟨g, 0, none⟩ = some (.slice ao N cap) := by
  obtain ⟨ps, es, ⟨own, vl, vns, vkn, hI⟩, rfl, -⟩ := h
  have hoL := hI.ownL
  obtain ⟨ao, cap, rfl⟩ := owns_shape hoL
  exact ⟨ao, cap, by rw [cell_of_row _ _ 0 _ _ _ hI.wb.blk]; rfl⟩

theorem ends_step (w0 w : World) (g L N j : Nat) (h : Ends w0 w g L N j) (hj : j < N) (hN : N ≤ 2000000000000) (hL : L * 104 ≤ 140737488351232) (E : Int) (hE : -9223372036854775808 ≤ E ∧ E ≤ 9223372036854775807) (vA vB vK vL vS vJ : Value) :
    Calls Try.prog 5 #[.pointer (some ⟨g, 0, none⟩), .agg #[.int .i64 5, .int .i64 E, vA, vB, vK, vL, vS, vJ]] w fun r w' => r = .returned (.bool true) ∧ Ends w0 w' g L N (j + 1) := by
  obtain ⟨ps, es, ⟨own, vl, vns, vkn, hI⟩, rfl, hjn, hle⟩ := h
  refine (step_standing own w0 w g vl vns vkn ps es hI (by omega) (by omega) (by omega) E hE _ _ _ _ _ _).mono ?_
  rintro r w' ⟨rfl, new, hs, hl⟩
  exact ⟨rfl, ps, es ++ new, hs, rfl, by omega, by simp; omega⟩

theorem ends_kept (w0 w : World) (g L N j : Nat) (h : Ends w0 w g L N j) : Calls Try.prog 6 #[.pointer (some ⟨g, 1, none⟩)] w fun r w' => r = .returned (.bool true) ∧ Below w0.heap.size w0 w' := by
  obtain ⟨ps, es, ⟨own, vl, vns, vkn, hI⟩, -⟩ := h
  refine (kept_any w g vl vns vkn es hI.wb hI.full).mono ?_
  rintro r w' ⟨rfl, hf⟩
  exact ⟨rfl, (hI.no hf).old⟩

set_option maxHeartbeats 4000000 in
theorem plays_any (w : World) (ao : Option Addr) (L cap gk : Nat) (hS : StepsAt w ao L) (hk : w.heap[gk]? = some (.cells #[.int .i64 1, .int .i64 2, .int .i64 3, .int .i64 4, .int .i64 5] 3 (0, 0))) (hL : L * 104 ≤ 140737488351232) :
    Calls Try.prog 4 #[.slice ao L cap, .slice (some ⟨gk, 0, none⟩) 5 5] w fun r w' => r = .returned (.bool true) ∧ Below w.heap.size w w' := by
  have HK : Hid (w.heap[gk]? = some (.cells #[.int .i64 1, .int .i64 2, .int .i64 3, .int .i64 4, .int .i64 5] 3 (0, 0))) := hk
  have HS : Hid (StepsAt w ao L) := hS
  have hst : St w (w.alloc (.cells #[.slice none 0 0, .slice none 0 0, .slice none 0 0, .slice none 0 0, .slice none 0 0] 33)) w.heap.size [] [] := by
    refine ⟨fun k => if k < w.heap.size then 0 else 1, .slice none 0 0, .slice none 0 0, .slice none 0 0, ⟨heap_alloc_new w _, World.ownsRow_nil _ _ _ _, World.ownsRow_nil _ _ _ _⟩, by simp, World.ownsRow_nil _ _ _ _, by simp, by simp, ?_, ?_, ?_, by simp, by simp, fun k hk => if_pos hk, (Below.refl _ w).alloc (Nat.le_refl _) _⟩
    all_goals (intro k hk; simp [Value.ownBlock] at hk)
  clear hS hk
  go_enter Try.func4, Try.ntmps4
  go_wp2_with fail
  refine (step_new w _ w.heap.size [] [] hst 6 (by omega) (by simp) (by simp) 4 _ _ _ _ _ _).mono ?_
  rintro r w1 ⟨rfl, ps, hs, hl, hj⟩
  have hl1 : ps.length = 1 := by simpa [sizeB] using hl
  clear hl
  have hfar : Far w w1 w.heap.size 0 := ⟨ps, [], hs, by omega, by simp; omega, fun p hp => by have := hj p hp; omega⟩
  obtain ⟨own, vl, vns, vkn, hI⟩ := hs
  have c0 : w1.cell? ⟨w.heap.size, 0, none⟩ = some vl := by rw [cell_of_row _ _ 0 _ _ _ hI.wb.blk]; rfl
  have hoL := hI.ownL
  rw [hl1] at hoL
  obtain ⟨aoL, capL, rfl⟩ := owns_shape hoL
  clear hI hoL hj hst
  go_wp2_with fail
  clear c0
  go_loopw [6, 7] (fun ok i wr => ok = .bool true ∧ ∃ c : Nat, c ≤ L ∧ i = .int .i64 c ∧ Far w wr w.heap.size c) (fun _ i _ => L - (intOf i).toNat)
  case atStart => exact ⟨rfl, 0, Nat.zero_le _, rfl, hfar⟩
  case round =>
    obtain ⟨rfl, c, hc, rfl, hf⟩ := hrel
    clear hfar
    by_cases hlt : c < L
    · obtain ⟨b, off, kind, E, a, B, k, vL, vS, vJ, rfl, hA0⟩ := HS.out c hlt
      have hA := hA0.below hf.below
      have d0 := hA.c0
      clear hA0
      go_wp2
      go_loopw [8, 9] (fun inn j wq => ∃ m : Nat, m ≤ 5 ∧ j = .int .i64 m ∧ inn = .bool (kindB kind m) ∧ ∃ q, wq = wr.drewN q) (fun _ j _ => 5 - (intOf j).toNat)
      case atStart => exact ⟨0, Nat.zero_le _, rfl, by simp [kindB]; omega, 0, rfl⟩
      case round =>
        obtain ⟨m, hm, rfl, rfl, q, rfl⟩ := hrel
        by_cases hm5 : m < 5
        · have dk := kinds_at HK.out hf.below m hm5
          cases hkb : kindB kind m with
          | true =>
            have HB : Hid (kindB kind (m + 1) = true) := by
              have := of_decide_eq_true hkb
              unfold Hid kindB
              rw [decide_eq_true_eq]
              omega
            go_wp2
            go_quiet (fail)
            go_wp2
            go_roundw
            case rel => exact ⟨m + 1, by omega, by go_num, by rw [HB.out], _, rfl⟩
            case measure => simp [intOf]; omega
          | false =>
            by_cases hkm : kind = m + 1
            · have HB : Hid (kindB kind (m + 1) = true) := kindB_succ_yes kind m hkm
              have hb1 : (kind == (m : Int) + 1) = true := by rw [beq_iff_eq]; exact hkm
              clear hkm
              go_wp2
              go_quiet (fail)
              go_wp2
              go_roundw
              case rel => exact ⟨m + 1, by omega, by go_num, by rw [HB.out], _, rfl⟩
              case measure => simp [intOf]; omega
            · have HB : Hid (kindB kind (m + 1) = false) := (kindB_succ_no kind m hkm).trans hkb
              have hb1 : (kind == (m : Int) + 1) = false := by rw [beq_eq_false_iff_ne]; exact hkm
              clear hkm
              go_wp2
              go_quiet (fail)
              go_wp2
              go_roundw
              case rel => exact ⟨m + 1, by omega, by go_num, by rw [HB.out], _, rfl⟩
              case measure => simp [intOf]; omega
        · have hme : m = 5 := by omega
          subst hme
          have hfq : Far w (wr.drewN q) w.heap.size c := hf.no ((Frm.refl _ _).drewN q)
          cases hkb : kindB kind 5 with
          | false =>
            go_wp2_with fail
            go_roundw
            case rel => exact ⟨rfl, c + 1, by omega, by go_num, hfq.more⟩
            case measure => simp [intOf]; omega
          | true =>
            have hk5 : 1 ≤ kind ∧ kind ≤ 5 := of_decide_eq_true hkb
            obtain ⟨-, d1, d2, d3, d4, d5, d6, d7, rE, ra, rk⟩ := hA
            go_wp2_with fail
            refine (step_far w _ w.heap.size c hfq (by omega) kind E a k _ _ _ _ hk5 rE ra rk).mono ?_
            rintro r w3 ⟨rfl, hf3⟩
            clear d0 d1 d2 d3 d4 d5 d6 d7
            obtain ⟨v0, hv0⟩ : ∃ v0, w3.cell? ⟨w.heap.size, 0, none⟩ = some v0 := by
              obtain ⟨ps, es, ⟨own, vl, vns, vkn, hI⟩, -⟩ := hf3
              exact ⟨vl, by rw [cell_of_row _ _ 0 _ _ _ hI.wb.blk]; rfl⟩
            go_wp2_with fail
            refine (kept_far w _ w.heap.size (c + 1) hf3).mono ?_
            rintro r w4 ⟨rfl, hf4⟩
            go_wp2_with fail
            go_roundw
            case rel => exact ⟨rfl, c + 1, by omega, by go_num, hf4⟩
            case measure => simp [intOf]; omega
    · have hcl : c = L := by omega
      subst hcl
      obtain ⟨N, hN⟩ : ∃ N, Ends w wr w.heap.size c N 0 ∧ N ≤ c + 1 := by
        obtain ⟨ps, es, hs, h0, h1, -⟩ := hf
        exact ⟨ps.length, ⟨ps, es, hs, rfl, Nat.zero_le _, by omega⟩, by omega⟩
      obtain ⟨hE0, hNc⟩ := hN
      clear hf HS
      go_wp2_with fail
      go_loopw [6, 11] (fun ok i wq => ok = .bool true ∧ ∃ j : Nat, i = .int .i64 j ∧ Ends w wq w.heap.size c N j) (fun _ i _ => N - (intOf i).toNat)
      case atStart => exact ⟨rfl, 0, rfl, hE0⟩
      case round =>
        obtain ⟨rfl, j, rfl, hEj⟩ := hrel
        obtain ⟨aoE, capE, cE⟩ := hEj.shape
        have hjN : j ≤ N := by obtain ⟨_, _, _, _, h, _⟩ := hEj; exact h
        by_cases hj : j < N
        · go_wp2_with fail
          refine (ends_step w _ w.heap.size c N j hEj hj (by omega) hL j (by omega) _ _ _ _ _ _).mono ?_
          rintro r w3 ⟨rfl, hE3⟩
          go_wp2_with fail
          go_roundw
          case rel => exact ⟨rfl, j + 1, by go_num, hE3⟩
          case measure => simp [intOf]; omega
        · go_wp2_with fail
          refine (ends_kept w _ w.heap.size c N j hEj).mono ?_
          rintro r w4 ⟨rfl, hB⟩
          go_wp2
          go_ret
          exact ⟨rfl, hB⟩
end Go.Proofs.Ytinadpanpnenjaa
