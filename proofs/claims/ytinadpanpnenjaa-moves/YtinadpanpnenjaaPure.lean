/- What a pool is, without memory: which places stand, Take, Give, Standing. -/
import Derived.Test.YtinadpanpnenjaaMem
namespace Go.Proofs.Ytinadpanpnenjaa
open Go.RowKit

def standB (n : Int) (tk : List Int) (p : Int) : Bool := decide (0 ≤ p) && (decide (p < n) && decide (idx p tk 0 < 0))

def takeE (n : Int) (tk : List Int) (p : Int) : Int := if standB n tk p then (if n - tk.length = 1 then 3 else 0) else 2
def takeN (n : Int) (tk : List Int) (p : Int) : Int := if standB n tk p ∧ n - tk.length ≠ 1 ∧ tk = [] ∧ p = n - 1 then n - 1 else n
def takeT (n : Int) (tk : List Int) (p : Int) : List Int := if standB n tk p ∧ n - tk.length ≠ 1 ∧ ¬ (tk = [] ∧ p = n - 1) then tk ++ [p] else tk

def nextP (n : Int) (tk : List Int) : Int := if tk = [] then (if n = 64 then -1 else n) else tk.getLastD 0
def giveA (n : Int) (tk : List Int) : Int := if tk = [] then (if n = 64 then 0 else n) else tk.getLastD 0
def giveE (n : Int) (tk : List Int) : Int := if tk = [] then (if n = 64 then 4 else 0) else 0
def giveN (n : Int) (tk : List Int) : Int := if tk = [] then (if n = 64 then n else n + 1) else n
def giveT (tk : List Int) : List Int := tk.dropLast

/-- What stands among the first k. -/
def standTo (n : Int) (tk : List Int) : Nat → List Int
  | 0 => []
  | k + 1 => standTo n tk k ++ (if standB n tk k then [(k : Int)] else [])

/-- A pool as it may be. -/
structure Ok (n : Int) (tk : List Int) : Prop where
  lo : 1 ≤ n
  hi : n ≤ 64
  len : (tk.length : Int) < n
  pos : ∀ x ∈ tk, 0 ≤ x ∧ x < 64

theorem stand_range {n : Int} {tk : List Int} {p : Int} (h : standB n tk p = true) : 0 ≤ p ∧ p < n := by
  simp [standB] at h
  omega

theorem Ok.new {n : Int} (h1 : 1 ≤ n) (h2 : n ≤ 64) : Ok n [] := ⟨h1, h2, by simp; omega, by simp⟩

theorem Ok.take {n : Int} {tk : List Int} (h : Ok n tk) (p : Int) : Ok (takeN n tk p) (takeT n tk p) := by
  obtain ⟨h1, h2, h3, h4⟩ := h
  unfold takeN takeT
  by_cases hs : standB n tk p = true
  · have hr := stand_range hs
    by_cases ho : n - tk.length = 1
    · simp only [hs, ho, ne_eq, not_true_eq_false, false_and, and_false, ite_false]
      exact ⟨h1, h2, h3, h4⟩
    · by_cases hc : tk = [] ∧ p = n - 1
      · obtain ⟨rfl, rfl⟩ := hc
        simp only [hs, ho, ne_eq, not_false_eq_true, and_self, ite_true, not_true_eq_false, and_false, ite_false]
        simp at ho
        exact ⟨by omega, by omega, by simp; omega, by simp⟩
      · have hc' : ¬ (standB n tk p = true ∧ n - tk.length ≠ 1 ∧ tk = [] ∧ p = n - 1) := fun q => hc q.2.2
        rw [if_neg hc', if_pos ⟨hs, ho, hc⟩]
        refine ⟨h1, h2, by simp; omega, ?_⟩
        intro x hx
        rw [List.mem_append] at hx
        rcases hx with hx | hx
        · exact h4 x hx
        · simp at hx; omega
  · simp only [Bool.not_eq_true] at hs
    simp only [hs, Bool.false_eq_true, false_and, ite_false]
    exact ⟨h1, h2, h3, h4⟩

theorem Ok.give {n : Int} {tk : List Int} (h : Ok n tk) : Ok (giveN n tk) (giveT tk) := by
  obtain ⟨h1, h2, h3, h4⟩ := h
  unfold giveN giveT
  by_cases ht : tk = []
  · subst ht
    by_cases h6 : n = 64
    · simp only [h6, ite_true]; exact ⟨by omega, by omega, by simp, by simp⟩
    · simp only [h6, ite_true, ite_false]; exact ⟨by omega, by omega, by simp; omega, by simp⟩
  · rw [if_neg ht]
    exact ⟨h1, h2, by simp; omega, fun x hx => h4 x (List.dropLast_subset _ hx)⟩

theorem standTo_len (n : Int) (tk : List Int) (k : Nat) : (standTo n tk k).length ≤ k := by
  induction k with
  | zero => simp [standTo]
  | succ k ih =>
    simp only [standTo, List.length_append]
    split <;> simp <;> omega

theorem standTo_yes {n : Int} {tk : List Int} {k : Nat} (h : standB n tk k = true) : standTo n tk (k + 1) = standTo n tk k ++ [(k : Int)] := by simp [standTo, h]
theorem standTo_no {n : Int} {tk : List Int} {k : Nat} (h : standB n tk k = false) : standTo n tk (k + 1) = standTo n tk k := by simp [standTo, h]

end Go.Proofs.Ytinadpanpnenjaa
