/- Small worlds: one in which all is frozen; one behind a phase. -/
import Derived.Test.YtpioacgknamemaaFl
set_option linter.unusedSectionVars false
namespace Go.Proofs.Ytpioacgknamemaa
open Go Go.RowKit Go.Conc Go.ConcN

/-- All that is seen is frozen. -/
def fzObj (κ : Nat → Kd) (u : World) (r : Nat) : Obj := match u.heap[r]? with
  | some (.cells c T _) => if κ r = .void then .view ⟨r, 0, none⟩ 0 else .cells c T (0, c.size)
  | _ => .view ⟨r, 0, none⟩ 0
def kfz (κ : Nat → Kd) (u : World) (r : Nat) : Kd := if r < u.heap.size then (match u.heap[r]? with
  | some (.cells _ _ _) => if κ r = .void then .void else .froz
  | _ => .void) else .same
def ufz (κ : Nat → Kd) (u : World) : World := { u with heap := Array.ofFn (n := u.heap.size) fun r => fzObj κ u r.1 }

section
variable {κ : Nat → Kd} {u w w' : World}
theorem ufz_size : (ufz κ u).heap.size = u.heap.size := by simp [ufz]
theorem ufz_get {r : Nat} (h : r < u.heap.size) : (ufz κ u).heap[r]? = some (fzObj κ u r) := by simp [ufz, h]
theorem kfz_lt {r : Nat} (h : r < u.heap.size) : kfz κ u r ≠ .same := by
  unfold kfz
  rw [if_pos h]
  split
  · split <;> simp
  · simp
theorem kfz_ge {r : Nat} (h : u.heap.size ≤ r) : kfz κ u r = .same := by
  unfold kfz
  rw [if_neg (by omega)]

theorem view_fz (hV : View κ u w) (hb : ∀ r, r < u.heap.size → w'.heap[r]? = w.heap[r]?) (hs : u.heap.size ≤ w'.heap.size) : View (kfz κ u) (ufz κ u) w' := by
  refine ⟨by rw [ufz_size]; exact hs, fun r hr => kfz_ge (by rwa [ufz_size] at hr), fun r hr hk => absurd hk (kfz_lt (by rwa [ufz_size] at hr)), fun r hr hk => absurd hk (kfz_lt (by rwa [ufz_size] at hr)), fun r hk => ?_, fun r hk => ?_⟩
  · have hr : r < u.heap.size := by
      refine Nat.lt_of_not_le fun h => ?_
      rw [kfz_ge h] at hk; cases hk
    rw [ufz_get hr]
    unfold kfz at hk
    rw [if_pos hr] at hk
    unfold fzObj
    split at hk
    · rename_i c T fz hc
      split at hk
      · rename_i hv
        simp [hv]
      · cases hk
    · rfl
  · have hr : r < u.heap.size := by
      refine Nat.lt_of_not_le fun h => ?_
      rw [kfz_ge h] at hk; cases hk
    rw [ufz_get hr]
    unfold kfz at hk
    rw [if_pos hr] at hk
    split at hk
    · rename_i c T fz hc
      split at hk
      · cases hk
      · rename_i hv
        have e : fzObj κ u r = .cells c T (0, c.size) := by
          unfold fzObj
          rw [hc]
          simp [hv]
        rw [e, hb r hr]
        cases hx : κ r with
        | same => exact ⟨c, T, fz, rfl, (hV.same r hr hx).trans hc⟩
        | void => exact absurd hx hv
        | froz =>
          obtain ⟨c', T', fz', e1, e2⟩ := hV.froz r hx
          rw [hc] at e1
          cases e1
          exact ⟨c, T, fz', rfl, e2⟩
    · cases hk

/-- What is seen and not void lies alike in the great world. -/
theorem View.cell_eq (hV : View κ u w) {a : Addr} (hb : a.block < u.heap.size) (hk : κ a.block ≠ .void) : w.cell? a = u.cell? a := by
  cases hx : κ a.block with
  | same => exact World.cell?_of_block (hV.same _ hb hx)
  | void => exact absurd hx hk
  | froz =>
    obtain ⟨c, T, fz, e1, e2⟩ := hV.froz _ hx
    unfold World.cell?
    rw [e1, e2]
end

/-! ### behind a phase -/
/-- Of the blocks that it made, block C alone is seen. -/
def kaft (κ : Nat → Kd) (z len C : Nat) (r : Nat) : Kd := if r < z then κ r else if r = C then .same else if r < z + len then .void else .same
def uaft (u : World) (len C : Nat) (o : Obj) : World := { u with heap := u.heap ++ Array.ofFn (n := len) fun i => if u.heap.size + i.1 = C then o else .view ⟨u.heap.size + i.1, 0, none⟩ 0 }

section
variable {κ : Nat → Kd} {u w : World} {len C : Nat} {cs : Array Value} {T : TypeId}
theorem uaft_size {o : Obj} : (uaft u len C o).heap.size = u.heap.size + len := by simp [uaft]
theorem uaft_old {o : Obj} {r : Nat} (h : r < u.heap.size) : (uaft u len C o).heap[r]? = u.heap[r]? := by
  simp only [uaft]
  rw [Array.getElem?_append_left h]
theorem uaft_new {o : Obj} {i : Nat} (h : i < len) : (uaft u len C o).heap[u.heap.size + i]? = some (if u.heap.size + i = C then o else .view ⟨u.heap.size + i, 0, none⟩ 0) := by
  simp only [uaft]
  rw [Array.getElem?_append_right (by omega)]
  simp [h]

theorem view_aft (hV : View κ u u) (hfz : ∀ r, κ r = .froz → w.heap[r]? = u.heap[r]? ∨ ∃ c T fz, u.heap[r]? = some (.cells c T (0, c.size)) ∧ w.heap[r]? = some (.cells c T fz)) (hC : u.heap.size ≤ C) (hCl : C < u.heap.size + len) (hs : w.heap.size = u.heap.size + len)
    (hold : ∀ r, r < u.heap.size → κ r = .same → w.heap[r]? = u.heap[r]?) (hc : w.heap[C]? = some (.cells cs T)) : View (kaft κ u.heap.size len C) (uaft u len C (.cells cs T)) w := by
  obtain ⟨j, rfl⟩ : ∃ j, C = u.heap.size + j := ⟨C - u.heap.size, by omega⟩
  refine ⟨by rw [uaft_size, hs]; exact Nat.le_refl _, fun r hr => ?_, fun r hr hk => ?_, fun r hr hk => ?_, fun r hk => ?_, fun r hk => ?_⟩
  · rw [uaft_size] at hr
    unfold kaft
    rw [if_neg (by omega)]
    split
    · rfl
    · rw [if_neg (by omega)]
  · unfold kaft at hk
    by_cases h1 : r < u.heap.size
    · rw [if_pos h1] at hk
      rw [uaft_old h1]; exact hold r h1 hk
    · rw [if_neg h1] at hk
      by_cases h2 : r = u.heap.size + j
      · subst h2
        rw [uaft_new (by omega), if_pos rfl]; exact hc
      · rw [if_neg h2] at hk
        rw [uaft_size] at hr
        rw [if_pos hr] at hk; cases hk
  · unfold kaft at hk
    by_cases h1 : r < u.heap.size
    · rw [if_pos h1] at hk
      rw [uaft_old h1]; exact hV.kind r h1 hk
    · rw [if_neg h1] at hk
      by_cases h2 : r = u.heap.size + j
      · subst h2
        rw [uaft_new (by omega), if_pos rfl]; exact .inl ⟨_, _, _, rfl⟩
      · rw [if_neg h2] at hk
        rw [uaft_size] at hr
        rw [if_pos hr] at hk; cases hk
  · unfold kaft at hk
    by_cases h1 : r < u.heap.size
    · rw [if_pos h1] at hk
      rw [uaft_old h1]; exact hV.void r hk
    · rw [if_neg h1] at hk
      by_cases h2 : r = u.heap.size + j
      · rw [if_pos h2] at hk; cases hk
      · rw [if_neg h2] at hk
        by_cases h3 : r < u.heap.size + len
        · obtain ⟨i, rfl⟩ : ∃ i, r = u.heap.size + i := ⟨r - u.heap.size, by omega⟩
          rw [uaft_new (by omega), if_neg h2]
        · rw [if_neg h3] at hk; cases hk
  · unfold kaft at hk
    by_cases h1 : r < u.heap.size
    · rw [if_pos h1] at hk
      rw [uaft_old h1]
      obtain ⟨c, T', fz, e1, e2⟩ := hV.froz r hk
      rcases hfz r hk with h | ⟨c', T'', fz', g1, g2⟩
      · exact ⟨c, T', _, e1, h.trans e1⟩
      · exact ⟨c', T'', fz', g1, g2⟩
    · rw [if_neg h1] at hk
      split at hk
      · cases hk
      · split at hk <;> cases hk
end
end Go.Proofs.Ytpioacgknamemaa
