/- The small functions that reckon with numbers alone: what each of them answers; no memory is written. -/
import Derived.Test.YtinadpanpnenjaaProg
import Derived.Test.YtinadpanpnenjaaNum
import Derived.WalkKit
import Derived.WalkSpells
import Derived.WalkLawsBesides
namespace Go.Proofs.Ytinadpanpnenjaa
open Go.RowKit

theorem ret_int {k : IntKind} {a b : Int} (h : a = b) : Ending.returned (.int k a) = .returned (.int k b) := by rw [h]
theorem ret_int2 {k l : IntKind} {a b c d : Int} (h : a = c) (h' : b = d) : Ending.returned (.tuple #[.int k a, .int l b]) = .returned (.tuple #[.int k c, .int l d]) := by rw [h, h']
theorem ret_bool {a b : Bool} (h : a = b) : Ending.returned (.bool a) = .returned (.bool b) := by rw [h]

def pickF (c n : Int) : Int := (if c < 0 then -(c + 1) else c) % n

theorem pickF_nonneg (c n : Int) (h : 1 ≤ n) : 0 ≤ pickF c n := Int.emod_nonneg _ (by omega)
theorem pickF_lt (c n : Int) (h : 1 ≤ n) : pickF c n < n := Int.emod_lt_of_pos _ (by omega)

set_option maxHeartbeats 400000 in
theorem num_any (a : Int) (w : World) :
    Calls Try.prog 16 #[.int .i64 a] w fun e w' => e = .returned (.int .i64 a) ∧ w' = w := by
  go_enter Try.func16, Try.ntmps16
  go_wp2
  go_ret
  exact ⟨rfl, rfl⟩

set_option maxHeartbeats 400000 in
theorem pick_any (c n : Int) (w : World) (h1 : -9223372036854775808 ≤ c) (h2 : c ≤ 9223372036854775807) (h3 : 1 ≤ n) (h4 : n ≤ 9223372036854775807) :
    Calls Try.prog 8 #[.int .i64 c, .int .i64 n] w fun e w' => e = .returned (.int .i64 (pickF c n)) ∧ w' = w := by
  by_cases hc : c < 0
  · go_enter Try.func8, Try.ntmps8
    go_wp2
    go_ret
    refine ⟨ret_int ?_, rfl⟩
    unfold pickF
    rw [if_pos hc, ← Int.tmod_eq_emod_of_nonneg (by omega), Int.neg_tmod]
  · go_enter Try.func8, Try.ntmps8
    go_wp2
    go_ret
    refine ⟨ret_int ?_, rfl⟩
    unfold pickF
    rw [if_neg (by omega)]

def sizeB (n : Int) : Bool := decide (1 ≤ n ∧ n ≤ 64)

set_option maxHeartbeats 400000 in
theorem isSize_any (n : Int) (w : World) :
    Calls Try.prog 42 #[.int .i64 n] w fun e w' => e = .returned (.bool (sizeB n)) ∧ w' = w := by
  by_cases hc : 1 ≤ n
  · go_enter Try.func42, Try.ntmps42
    go_wp2
    go_ret
    exact ⟨ret_bool (by simp [sizeB, hc]), rfl⟩
  · go_enter Try.func42, Try.ntmps42
    go_wp2
    go_ret
    exact ⟨ret_bool (by simp [sizeB]; omega), rfl⟩

set_option maxHeartbeats 400000 in
theorem half_any (x m : Nat) (w : World) (hx : x < 18446744073709551616) (hm : m ≤ 64) :
    Calls Try.prog 57 #[.int .u64 x, .int .i64 m] w fun e w' => e = .returned (.int .u64 (hv x m : Nat)) ∧ w' = w := by
  go_enter Try.func57, Try.ntmps57
  go_wp2
  go_loop [0, 5] (fun y i => ∃ k : Nat, k ≤ m ∧ i = .int .i64 k ∧ y = .int .u64 (hv x k : Nat)) (fun _ i => m - (intOf i).toNat)
  case atStart => exact ⟨0, Nat.zero_le _, rfl, by rw [hv_zero]⟩
  case round =>
    obtain ⟨k, hk, rfl, rfl⟩ := hrel
    have hb := hv_le x k
    have HS : Hid (hv x (k + 1) = hv x k / 2) := hv_succ x k
    by_cases hlt : k < m
    · go_wp2
      go_round
      case rel => exact ⟨k + 1, by omega, by go_num, by rw [HS.out]; rfl⟩
      case measure => simp [intOf]; omega
    · have hkm : k = m := by omega
      subst hkm
      go_wp2
      go_ret
      exact ⟨rfl, rfl⟩

set_option maxHeartbeats 400000 in
theorem jumpP_any (x n : Nat) (w : World) (hx : x < 18446744073709551616) (hn : n ≤ 64) :
    Calls Try.prog 43 #[.int .u64 x, .int .i64 n] w fun e w' => e = .returned (.int .i64 (jmp x n 0 0 : Nat)) ∧ w' = w := by
  go_enter Try.func43, Try.ntmps43
  go_wp2
  go_loop [0, 5, 6] (fun y b j => ∃ k c i : Nat, k < 18446744073709551616 ∧ c ≤ 64 ∧ i ≤ 139586437120 ∧ y = .int .u64 k ∧ b = .int .u64 c ∧ j = .int .u64 i ∧ Hid (jmp x n 0 0 = jmp k n c i)) (fun _ _ j => n - (intOf j).toNat)
  case atStart => exact ⟨x, 0, 0, hx, by omega, by omega, rfl, rfl, rfl, rfl⟩
  case round =>
    obtain ⟨k, c, i, hk, hc, hi, rfl, rfl, rfl, H⟩ := hrel
    by_cases hlt : i < n
    · have hd := nk_lt k
      have hj := nj_gt k i
      have hj2 := nj_le k i
      have h33 := hv33 (nk k) hd
      have e1 := nk_wrap k
      have e2 := hv33_div (nk k)
      have HJ : Hid (jmp k n c i = jmp (nk k) n i (nj k i)) := jmp_step k n c i hlt
      go_wp2
      go_round
      case rel => exact ⟨nk k, i, nj k i, hd, by omega, by omega, rfl, rfl, by rw [nj_div], H.out.trans HJ.out⟩
      case measure => rw [nj_div]; exact meas hj hlt
    · have HE : Hid (jmp k n c i = c) := jmp_end k n c i hlt
      go_wp2
      go_ret
      exact ⟨ret_int (by rw [H.out, HE.out]), rfl⟩

set_option maxHeartbeats 400000 in
theorem jumpR_any (x n : Nat) (w : World) (hx : x < 18446744073709551616) (hn : n ≤ 64) :
    Calls Try.prog 44 #[.int .u64 x, .int .i64 n] w fun e w' => e = .returned (.int .i64 (jmp x n 0 0 : Nat)) ∧ w' = w := by
  go_enter Try.func44, Try.ntmps44
  go_wp2
  go_loop [0, 5, 6] (fun y b j => ∃ k c i : Nat, k < 18446744073709551616 ∧ c ≤ 64 ∧ i ≤ 139586437120 ∧ y = .int .u64 k ∧ b = .int .i64 c ∧ j = .int .i64 i ∧ Hid (jmp x n 0 0 = jmp k n c i)) (fun _ _ j => n - (intOf j).toNat)
  case atStart => exact ⟨x, 0, 0, hx, by omega, by omega, rfl, rfl, rfl, rfl⟩
  case round =>
    obtain ⟨k, c, i, hk, hc, hi, rfl, rfl, rfl, H⟩ := hrel
    by_cases hlt : i < n
    · have hd := nk_lt k
      have hj := nj_gt k i
      have hj2 := nj_le k i
      have h33 := hv33 (nk k) hd
      have e1 := nk_wrap k
      have HJ : Hid (jmp k n c i = jmp (nk k) n i (nj k i)) := jmp_step k n c i hlt
      go_wp2_with (go_at_call 57; refine (half_any (nk k) 33 _ hd (by omega)).mono ?_; rintro e w' ⟨rfl, rfl⟩)
      go_round
      case rel => exact ⟨nk k, i, nj k i, hd, by omega, by omega, rfl, rfl, by rw [nj_div, wrap64_nat _ (by omega)], H.out.trans HJ.out⟩
      case measure => rw [nj_div, wrap64_nat _ (by omega)]; exact meas hj hlt
    · have HE : Hid (jmp k n c i = c) := jmp_end k n c i hlt
      go_wp2
      go_ret
      exact ⟨ret_int (by rw [H.out, HE.out]), rfl⟩

theorem jumpP_int (x n : Int) (w : World) (h0 : 0 ≤ x) (hx : x < 18446744073709551616) (hn0 : 0 ≤ n) (hn : n ≤ 64) :
    Calls Try.prog 43 #[.int .u64 x, .int .i64 n] w fun e w' => e = .returned (.int .i64 (jmp x.toNat n.toNat 0 0 : Nat)) ∧ w' = w := by
  obtain ⟨x, rfl⟩ := Int.eq_ofNat_of_zero_le h0
  obtain ⟨n, rfl⟩ := Int.eq_ofNat_of_zero_le hn0
  exact jumpP_any x n w (by omega) (by omega)

theorem jumpR_int (x n : Int) (w : World) (h0 : 0 ≤ x) (hx : x < 18446744073709551616) (hn0 : 0 ≤ n) (hn : n ≤ 64) :
    Calls Try.prog 44 #[.int .u64 x, .int .i64 n] w fun e w' => e = .returned (.int .i64 (jmp x.toNat n.toNat 0 0 : Nat)) ∧ w' = w := by
  obtain ⟨x, rfl⟩ := Int.eq_ofNat_of_zero_le h0
  obtain ⟨n, rfl⟩ := Int.eq_ofNat_of_zero_le hn0
  exact jumpR_any x n w (by omega) (by omega)

def jumpF (x n : Int) : Int := if sizeB n then (jmp x.toNat n.toNat 0 0 : Nat) else 0
def sizeE (n : Int) : Int := if sizeB n then 0 else 1

set_option maxHeartbeats 400000 in
theorem jumpP_calls (x n : Int) (w : World) (h0 : 0 ≤ x) (hx : x < 18446744073709551616) :
    Calls Try.prog 14 #[.int .u64 x, .int .i64 n] w fun e w' => e = .returned (.tuple #[.int .i64 (jumpF x n), .int .i64 (sizeE n)]) ∧ w' = w := by
  cases hs : sizeB n
  · have hF : Hid (jumpF x n = 0) := by simp [Hid, jumpF, hs]
    have hE : Hid (sizeE n = 1) := by simp [Hid, sizeE, hs]
    go_enter Try.func14, Try.ntmps14
    go_wp2_with (go_at_call 42; refine (isSize_any _ _).mono ?_; rintro e w' ⟨rfl, rfl⟩)
    go_ret2
    exact ⟨ret_int2 (hF.out).symm (hE.out).symm, rfl⟩
  · have hn : 1 ≤ n ∧ n ≤ 64 := of_decide_eq_true hs
    have hF : Hid (jumpF x n = (jmp x.toNat n.toNat 0 0 : Nat)) := by simp [Hid, jumpF, hs]
    have hE : Hid (sizeE n = 0) := by simp [Hid, sizeE, hs]
    obtain ⟨hn1, hn2⟩ := hn
    go_enter Try.func14, Try.ntmps14
    go_wp2_with (first | (go_at_call 42; refine (isSize_any _ _).mono ?_; rintro e w' ⟨rfl, rfl⟩) | (go_at_call 43; refine (jumpP_int x n _ h0 hx (by omega) hn2).mono ?_; rintro e w' ⟨rfl, rfl⟩))
    go_ret2
    exact ⟨ret_int2 (hF.out).symm (hE.out).symm, rfl⟩

set_option maxHeartbeats 400000 in
theorem jumpR_calls (x n : Int) (w : World) (h0 : 0 ≤ x) (hx : x < 18446744073709551616) :
    Calls Try.prog 15 #[.int .u64 x, .int .i64 n] w fun e w' => e = .returned (.tuple #[.int .i64 (jumpF x n), .int .i64 (sizeE n)]) ∧ w' = w := by
  cases hs : sizeB n
  · have hn : ¬ (1 ≤ n ∧ n ≤ 64) := of_decide_eq_false hs
    have hF : Hid (jumpF x n = 0) := by simp [Hid, jumpF, hs]
    have hE : Hid (sizeE n = 1) := by simp [Hid, sizeE, hs]
    by_cases hl : n < 1
    · go_enter Try.func15, Try.ntmps15
      go_wp2
      go_ret2
      exact ⟨ret_int2 (hF.out).symm (hE.out).symm, rfl⟩
    · have hl2 : 64 < n := by omega
      clear hn
      go_enter Try.func15, Try.ntmps15
      go_wp2
      go_ret2
      exact ⟨ret_int2 (hF.out).symm (hE.out).symm, rfl⟩
  · have hn : 1 ≤ n ∧ n ≤ 64 := of_decide_eq_true hs
    have hF : Hid (jumpF x n = (jmp x.toNat n.toNat 0 0 : Nat)) := by simp [Hid, jumpF, hs]
    have hE : Hid (sizeE n = 0) := by simp [Hid, sizeE, hs]
    obtain ⟨hn1, hn2⟩ := hn
    clear hs
    go_enter Try.func15, Try.ntmps15
    go_wp2_with (go_at_call 44; refine (jumpR_int x n _ h0 hx (by omega) hn2).mono ?_; rintro e w' ⟨rfl, rfl⟩)
    go_ret2
    exact ⟨ret_int2 (hF.out).symm (hE.out).symm, rfl⟩
end Go.Proofs.Ytinadpanpnenjaa
