/- The law's beginning: goroutine 0 alone, each block of numbers seen; and what is left in the end. -/
import Derived.Test.YtpioacgknamemaaPlaces
import Derived.Conc.CrowdRun
namespace Go.Proofs.Ytpioacgknamemaa
open Go Go.RowKit Go.Conc Go.ConcN

def plainB : Obj → Bool
  | .cells _ _ _ => true
  | .number _ _ => true
  | _ => false
def kst (W : World) (r : Nat) : Kd := match W.heap[r]? with
  | some o => if plainB o then .same else .void
  | none => .same
def ust (W : World) : World := { W with heap := Array.ofFn (n := W.heap.size) fun r => if plainB W.heap[r.1] then W.heap[r.1] else .view ⟨r.1, 0, none⟩ 0 }

section
variable {W : World}
theorem ust_size : (ust W).heap.size = W.heap.size := by simp [ust]
theorem ust_get {r : Nat} (h : r < W.heap.size) : (ust W).heap[r]? = some (if plainB W.heap[r] then W.heap[r] else .view ⟨r, 0, none⟩ 0) := by simp [ust, h]
theorem kst_get {r : Nat} (h : r < W.heap.size) : kst W r = if plainB W.heap[r] then .same else .void := by simp [kst, h]
theorem view_start : View (kst W) (ust W) W := by
  refine ⟨by rw [ust_size]; exact Nat.le_refl _, fun r hr => ?_, fun r hr hk => ?_, fun r hr hk => ?_, fun r hr => ?_, fun r hr => ?_⟩
  · rw [ust_size] at hr
    simp [kst, hr]
  · rw [ust_size] at hr
    rw [kst_get hr] at hk
    rw [ust_get hr]
    by_cases hp : plainB W.heap[r] = true
    · rw [if_pos hp, Array.getElem?_eq_getElem hr]
    · rw [if_neg hp] at hk; cases hk
  · rw [ust_size] at hr
    rw [kst_get hr] at hk
    rw [ust_get hr]
    by_cases hp : plainB W.heap[r] = true
    · rw [if_pos hp]
      cases ho : W.heap[r] with
      | cells c T fz => exact .inl ⟨c, T, fz, rfl⟩
      | number a l => exact .inr ⟨a, l, rfl⟩
      | _ => rw [ho] at hp; cases hp
    · rw [if_neg hp] at hk; cases hk
  · by_cases hl : r < W.heap.size
    · rw [kst_get hl] at hr
      rw [ust_get hl]
      by_cases hp : plainB W.heap[r] = true
      · rw [if_pos hp] at hr; cases hr
      · rw [if_neg hp]
    · have : kst W r = .same := by simp [kst, Nat.le_of_not_lt hl]
      rw [this] at hr; cases hr
  · by_cases hl : r < W.heap.size
    · rw [kst_get hl] at hr
      split at hr <;> cases hr
    · have : kst W r = .same := by simp [kst, Nat.le_of_not_lt hl]
      rw [this] at hr; cases hr

theorem cell_ust {a : Addr} {v : Value} (h : W.cell? a = some v) : (ust W).cell? a = some v := by
  have hlt := World.block_lt_of_cell? W a h
  unfold World.cell? at h ⊢
  rw [ust_get hlt]
  rw [Array.getElem?_eq_getElem hlt] at h
  cases ho : W.heap[a.block] with
  | cells c T fz => rw [ho] at h; simpa [plainB] using h
  | _ => rw [ho] at h; cases h

variable {P : Program} {Post : Value → World → Prop}
theorem ends_start {g : Goroutine} {M : Nat} (hM : 1 ≤ M) (h : EndsOk P Post W (fun _ => False) (kst W) M g (ust W)) :
    ∃ N last o w' t', runNT P (N + 1) (solo g W) #[] = (.ended o w', t') ∧ runN P N (solo g W) = .next last ∧ step P last = .ended o w' ∧ Conc.Good P Post last o w' t' := by
  rw [solo_eq_crowd]
  refine h #[g] W none #[] (fun _ => 0) rfl (by simpa using hM) view_start ust_size ⟨⟨fun i x hi hx => ?_, fun j _ => rfl⟩, CT.lone (by simp) (by simp), ?_, rfl, by simp⟩ ⟨rfl, rfl, rfl, Nat.le_refl _, fun _ _ _ => rfl⟩
  · have := (Array.getElem?_eq_some_iff.1 hx).1
    simp at this
    omega
  · intro i g hi
    simp [Trace.g?] at hi

theorem below_end {κ : Nat → Kd} {u w : World} (hV : View κ u w) (hl : Left κ W w) (hk : ∀ r, r < W.heap.size → κ r = kst W r) (hH : Hp NoB (ust W) u) : Below W.heap.size W w := by
  refine ⟨hl.os, hl.tape, hl.output, hl.size, fun r hr => ?_⟩
  by_cases hs : κ r = .same
  · have h1 := hH.size'
    rw [ust_size] at h1
    rw [hV.same r (by omega) hs]
    have h2 : u.heap[r]? = (ust W).heap[r]? := hH.block r (by rw [ust_size]; exact hr) (fun s => s)
    exact h2.trans (view_start.same r (by rw [ust_size]; exact hr) (by rw [← hk r hr]; exact hs)).symm
  · exact hl.keep r hr hs
end
end Go.Proofs.Ytpioacgknamemaa
