/- Plain facts on numbers: Jump as the document has it, in whole numbers; halving. -/
import Derived.WalkKit
namespace Go.Proofs.Ytpioacgknamemaa
open Go.RowKit

def hv (x m : Nat) : Nat := x / 2 ^ m
theorem hv_zero (x : Nat) : hv x 0 = x := by simp [hv]
theorem hv_succ (x k : Nat) : hv x (k + 1) = hv x k / 2 := by rw [hv, hv, Nat.pow_succ, Nat.div_div_eq_div_mul]
theorem hv_le (x k : Nat) : hv x k ≤ x := Nat.div_le_self _ _

def nk (k : Nat) : Nat := (k * 2862933555777941757 + 1) % 18446744073709551616
def nj (k j : Nat) : Nat := (j + 1) * 2147483648 / (hv (nk k) 33 + 1)

/-- Jump as the document has it, in whole numbers: the key k, the places' number n, the last place b, the next j. -/
def jmp (k n b j : Nat) : Nat := if _h : j < n ∧ j < nj k j then jmp (nk k) n j (nj k j) else b
  termination_by n - j
  decreasing_by omega

theorem nk_lt (k : Nat) : nk k < 18446744073709551616 := Nat.mod_lt _ (by omega)
theorem hv33 (k : Nat) (h : k < 18446744073709551616) : hv k 33 < 2147483648 := by
  have e : hv k 33 = k / 8589934592 := by unfold hv; simp
  omega
theorem nj_gt (k j : Nat) : j < nj k j := by
  unfold nj
  have h := hv33 (nk k) (nk_lt k)
  have : j + 1 ≤ (j + 1) * 2147483648 / (hv (nk k) 33 + 1) := by
    rw [Nat.le_div_iff_mul_le (by omega)]
    exact Nat.mul_le_mul_left _ (by omega)
  omega
theorem nj_le (k j : Nat) : nj k j ≤ (j + 1) * 2147483648 := by
  unfold nj
  exact Nat.div_le_self _ _
theorem jmp_step (k n b j : Nat) (h : j < n) : jmp k n b j = jmp (nk k) n j (nj k j) := by
  rw [jmp, dif_pos ⟨h, nj_gt k j⟩]
theorem jmp_end (k n b j : Nat) (h : ¬ j < n) : jmp k n b j = b := by
  rw [jmp, dif_neg (fun x => h x.1)]
theorem jmp_lt (k n b j : Nat) (hb : b < n) : jmp k n b j < n := by
  by_cases h : j < n
  · rw [jmp_step k n b j h]
    exact jmp_lt (nk k) n j (nj k j) h
  · rw [jmp_end k n b j h]; exact hb
  termination_by n - j
  decreasing_by have := nj_gt k j; omega

theorem nk_wrap (k : Nat) : IntKind.u64.wrap (IntKind.u64.wrap ((k : Int) * 2862933555777941757) + 1) = (nk k : Nat) := by
  rw [IntKind.wrap_u64, IntKind.wrap_u64, nk]
  omega
theorem hv33_div (k : Nat) : (k : Int) / 8589934592 = (hv k 33 : Nat) := by
  have h : hv k 33 = k / 8589934592 := by unfold hv; simp
  rw [h]
  omega
theorem nj_tdiv (k j : Nat) : (((j : Int) + 1) * 2147483648).tdiv ((hv (nk k) 33 : Nat) + 1) = (nj k j : Nat) := by
  have h : (((j : Int) + 1) * 2147483648) = (((j + 1) * 2147483648 : Nat) : Int) := by omega
  have h' : ((hv (nk k) 33 : Nat) : Int) + 1 = ((hv (nk k) 33 + 1 : Nat) : Int) := by omega
  rw [h, h', Int.tdiv_eq_ediv_of_nonneg (Int.natCast_nonneg _), ← Int.natCast_ediv]
  rfl
theorem nj_div (k j : Nat) : (((j : Int) + 1) * 2147483648) / ((hv (nk k) 33 : Nat) + 1) = (nj k j : Nat) := by
  rw [← nj_tdiv, Int.tdiv_eq_ediv_of_nonneg (by omega)]
theorem meas {k l : IntKind} {n a b : Nat} (h : b < a) (h' : b < n) : n - (intOf (.int k (a : Int))).toNat < n - (intOf (.int l (b : Int))).toNat := by
  simp only [intOf, Int.toNat_natCast]; omega
theorem wrap64_nat (a : Nat) (h : a ≤ 9223372036854775807) : wrap64 (a : Int) = a := by
  unfold wrap64
  omega

end Go.Proofs.Ytpioacgknamemaa
