/- Where a number stands in a list of numbers: porterref.index, slices.Index, slices.Contains. -/
import Derived.Test.YtinadpanpnenjaaLeaf
import Derived.Test.YtinadpanpnenjaaMem
namespace Go.Proofs.Ytinadpanpnenjaa
open Go.RowKit

set_option maxHeartbeats 400000 in
theorem index_any (xs : List Int) (ao : Option Addr) (cap : Nat) (n : Int) (w : World) (hr : Rd w .i64 ao xs) (hl : xs.length ≤ 1000000) :
    Calls Try.prog 60 #[.slice ao xs.length cap, .int .i64 n] w fun e w' => e = .returned (.int .i64 (idx n xs 0)) ∧ w' = w := by
  go_enter Try.func60, Try.ntmps60
  go_wp2
  go_loop [5] (fun i => ∃ k : Nat, k ≤ xs.length ∧ i = .int .i64 k ∧ Hid (idx n xs 0 = idx n (xs.drop k) k)) (fun i => xs.length - (intOf i).toNat)
  case atStart => exact ⟨0, Nat.zero_le _, rfl, rfl⟩
  case round =>
    obtain ⟨k, hk, rfl, H⟩ := hrel
    by_cases hlt : k < xs.length
    · obtain ⟨x, hx⟩ : ∃ x, xs[k]? = some x := ⟨_, List.getElem?_eq_getElem hlt⟩
      obtain ⟨g, rfl, hc⟩ := hr k x hx
      have HD : Hid (xs.drop k = x :: xs.drop (k + 1)) := drop_at xs k x hx
      clear hr hx
      by_cases hxn : x = n
      · subst hxn
        go_wp2
        go_ret
        exact ⟨ret_int (by rw [H.out, HD.out, idx_hit]), rfl⟩
      · have hb : (x == n) = false := by simp [hxn]
        go_wp2
        go_round
        case rel => exact ⟨k + 1, by omega, by go_num, by rw [Hid, H.out, HD.out, idx_miss n x _ _ hxn]⟩
        case measure => simp [intOf]; omega
    · have HN : Hid (xs.drop k = []) := List.drop_eq_nil_of_le (by omega)
      have hke : k = xs.length := by omega
      clear hr
      go_wp2
      go_ret
      exact ⟨ret_int (by rw [H.out, HN.out, idx_nil]), rfl⟩

set_option maxHeartbeats 400000 in
theorem Index_any (xs : List Int) (ao : Option Addr) (cap : Nat) (n : Int) (w : World) (hr : Rd w .i64 ao xs) (hl : xs.length ≤ 1000000) :
    Calls Try.prog 64 #[.slice ao xs.length cap, .int .i64 n] w fun e w' => e = .returned (.int .i64 (idx n xs 0)) ∧ w' = w := by
  go_enter Try.func64, Try.ntmps64
  go_wp2
  go_loop [8] (fun i => ∃ k : Nat, k ≤ xs.length ∧ i = .int .i64 k ∧ Hid (idx n xs 0 = idx n (xs.drop k) k)) (fun i => xs.length - (intOf i).toNat)
  case atStart => exact ⟨0, Nat.zero_le _, rfl, rfl⟩
  case round =>
    obtain ⟨k, hk, rfl, H⟩ := hrel
    by_cases hlt : k < xs.length
    · obtain ⟨x, hx⟩ : ∃ x, xs[k]? = some x := ⟨_, List.getElem?_eq_getElem hlt⟩
      obtain ⟨g, rfl, hc⟩ := hr k x hx
      have HD : Hid (xs.drop k = x :: xs.drop (k + 1)) := drop_at xs k x hx
      clear hr hx
      by_cases hxn : x = n
      · subst hxn
        go_wp2
        go_ret
        exact ⟨ret_int (by rw [H.out, HD.out, idx_hit]), rfl⟩
      · have hb : (n == x) = false := by simp [Ne.symm hxn]
        go_wp2
        go_round
        case rel => exact ⟨k + 1, by omega, by go_num, by rw [Hid, H.out, HD.out, idx_miss n x _ _ hxn]⟩
        case measure => simp [intOf]; omega
    · have HN : Hid (xs.drop k = []) := List.drop_eq_nil_of_le (by omega)
      have hke : k = xs.length := by omega
      clear hr
      go_wp2
      go_ret
      exact ⟨ret_int (by rw [H.out, HN.out, idx_nil]), rfl⟩

set_option maxHeartbeats 400000 in
theorem Contains_any (xs : List Int) (ao : Option Addr) (cap : Nat) (n : Int) (w : World) (hr : Rd w .i64 ao xs) (hl : xs.length ≤ 1000000) :
    Calls Try.prog 63 #[.slice ao xs.length cap, .int .i64 n] w fun e w' => e = .returned (.bool (decide (0 ≤ idx n xs 0))) ∧ w' = w := by
  go_enter Try.func63, Try.ntmps63
  go_wp2_with (go_at_call 64; refine (Index_any xs ao cap n _ hr hl).mono ?_; rintro e w' ⟨rfl, rfl⟩)
  go_ret
  exact ⟨rfl, rfl⟩
end Go.Proofs.Ytinadpanpnenjaa
