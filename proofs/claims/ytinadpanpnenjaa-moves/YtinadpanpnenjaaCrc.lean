/- The document's sum of bytes, in whole numbers; four bytes of a number; a record. -/
import Derived.WalkKit
import Derived.Test.YtinadpanpnenjaaNum
namespace Go.Proofs.Ytinadpanpnenjaa
open Go.RowKit

theorem i64_xor_nat (a b : Nat) (ha : a < 9223372036854775808) (hb : b < 9223372036854775808) : bits .xor .i64 (a : Int) (b : Int) = ((a ^^^ b : Nat) : Int) := by
  have hab : a ^^^ b < 2 ^ 63 := Nat.xor_lt_two_pow (by omega) (by omega)
  show IntKind.i64.wrap ((BitVec.ofInt 64 (a : Int) ^^^ BitVec.ofInt 64 (b : Int)).toNat : Int) = _
  rw [BitVec.toNat_xor, BitVec.ofInt_natCast, BitVec.ofInt_natCast, BitVec.toNat_ofNat, BitVec.toNat_ofNat, Nat.mod_eq_of_lt (by omega), Nat.mod_eq_of_lt (by omega)]
  rw [IntKind.wrap_i64]
  omega

def crcBit (s : Nat) : Nat := if s % 2 = 1 then (s / 2) ^^^ 2197175160 else s / 2
def crcN (s : Nat) : Nat → Nat
  | 0 => s
  | k + 1 => crcBit (crcN s k)
def crcTo (bs : List Int) : Nat → Nat
  | 0 => 4294967295
  | k + 1 => crcN (crcTo bs k ^^^ (bs.getD k 0).toNat) 8
def sumF (bs : List Int) : Int := 4294967295 - (crcTo bs bs.length : Nat)

theorem crcBit_lt (s : Nat) (h : s < 4294967296) : crcBit s < 4294967296 := by
  unfold crcBit
  split
  · exact Nat.xor_lt_two_pow (n := 32) (by omega) (by omega)
  · omega
theorem crcN_lt (s k : Nat) (h : s < 4294967296) : crcN s k < 4294967296 := by
  induction k with
  | zero => exact h
  | succ k ih => exact crcBit_lt _ ih
theorem crcTo_lt (bs : List Int) (hb : ∀ x ∈ bs, 0 ≤ x ∧ x < 256) (k : Nat) : crcTo bs k < 4294967296 := by
  induction k with
  | zero => simp [crcTo]
  | succ k ih =>
    refine crcN_lt _ _ (Nat.xor_lt_two_pow (n := 32) (by omega) ?_)
    rw [List.getD_eq_getElem?_getD]
    cases hk : bs[k]? with
    | none => simp
    | some x => have := hb x (List.mem_of_getElem? hk); simp; omega
theorem sumF_range (bs : List Int) (hb : ∀ x ∈ bs, 0 ≤ x ∧ x < 256) : 0 ≤ sumF bs ∧ sumF bs < 4294967296 := by
  have := crcTo_lt bs hb bs.length
  unfold sumF
  omega

def fourF (n : Int) : List Int := [n % 256, n / 256 % 256, n / 65536 % 256, n / 16777216]
theorem fourF_range (n : Int) (h0 : 0 ≤ n) (h1 : n < 4294967296) : ∀ x ∈ fourF n, 0 ≤ x ∧ x < 256 := by
  intro x hx
  simp [fourF] at hx
  omega
def valF (a b c d : Int) : Int := a + 256 * (b + 256 * (c + 256 * d))
theorem valF_four (n : Int) : valF (n % 256) (n / 256 % 256) (n / 65536 % 256) (n / 16777216) = n := by
  unfold valF
  omega
def lastF (last kind num : Int) : Int := sumF (fourF last ++ [kind, num])
def recF (last kind num : Int) : List Int := [kind, num] ++ fourF (lastF last kind num)
theorem lastF_range (last kind num : Int) (h0 : 0 ≤ last ∧ last < 4294967296) (h1 : 0 ≤ kind ∧ kind < 256) (h2 : 0 ≤ num ∧ num < 256) : 0 ≤ lastF last kind num ∧ lastF last kind num < 4294967296 := by
  refine sumF_range _ (fun x hx => ?_)
  rw [List.mem_append] at hx
  rcases hx with hx | hx
  · exact fourF_range last h0.1 h0.2 x hx
  · simp at hx; omega
theorem recF_range (last kind num : Int) (h0 : 0 ≤ last ∧ last < 4294967296) (h1 : 0 ≤ kind ∧ kind < 256) (h2 : 0 ≤ num ∧ num < 256) : ∀ x ∈ recF last kind num, 0 ≤ x ∧ x < 256 := by
  intro x hx
  unfold recF at hx
  rw [List.mem_append] at hx
  have hl := lastF_range last kind num h0 h1 h2
  rcases hx with hx | hx
  · simp at hx; omega
  · exact fourF_range _ hl.1 hl.2 x hx
end Go.Proofs.Ytinadpanpnenjaa
