/- Contains, Stands, without, alone. -/
import Derived.Test.YtpioacgknamemaaState
import Derived.Deep.RegionHeld3
namespace Go.Proofs.Ytpioacgknamemaa
open Go Go.RowKit

theorem rdd_drew {w : World} {k : IntKind} {ao : Option Addr} {xs : List Int} : Rdd w.drew k ao xs ↔ Rdd w k ao xs := Iff.rfl
theorem rdd_drewN {w : World} {k : IntKind} {ao : Option Addr} {xs : List Int} {q : Nat} : Rdd (w.drewN q) k ao xs ↔ Rdd w k ao xs := Iff.rfl
theorem rdd_far {w : World} {k : IntKind} {gr gn i : Nat} {v : Value} {xs : List Int} (h : gr ≠ gn) : Rdd (w.setCell ⟨gn, i, none⟩ v) k (some ⟨gr, 0, none⟩) xs ↔ Rdd w k (some ⟨gr, 0, none⟩) xs := by
  have hb : (w.setCell ⟨gn, i, none⟩ v).heap[gr]? = w.heap[gr]? := Below.heap_setCell _ _ _ _ (by simpa using h)
  constructor <;> intro hx j x hj <;> obtain ⟨g, e, hc⟩ := hx j x hj <;> cases e
  · exact ⟨gr, rfl, by rw [World.cell?_of_block (w := w) hb] at hc; exact hc⟩
  · exact ⟨gr, rfl, by rw [World.cell?_of_block (w := w) hb]; exact hc⟩
theorem idx_dec (n : Int) (xs : List Int) : decide (0 ≤ idx n xs 0) = decide (n ∈ xs) := by
  have h := idx_neg n xs 0
  by_cases hm : n ∈ xs
  · have : 0 ≤ idx n xs 0 := by by_cases q : idx n xs 0 < 0; · exact absurd hm (h.1 q)
                                · omega
    simp [hm, this]
  · have : ¬ 0 ≤ idx n xs 0 := by have := h.2 hm; omega
    simp [hm, this]

set_option maxHeartbeats 400000 in
theorem contains_any (ao : Option Addr) (cap : Nat) (xs : List Int) (n : Int) (w : World) (hr : Rdd w .i64 ao xs) (hl : xs.length ≤ 1000) :
    Calls Try.prog 47 #[.slice ao xs.length cap, .int .i64 n] w fun e w' => e = .returned (.bool (decide (n ∈ xs))) ∧ w' = w := by
  have HD : Hid (decide (0 ≤ idx n xs 0) = decide (n ∈ xs)) := idx_dec n xs
  go_enter Try.func47, Try.ntmps47
  go_wp2_with (go_at_call 45; refine (index_any ao cap xs n _ hr hl).mono ?_; rintro e w' ⟨rfl, rfl⟩)
  go_ret
  exact ⟨ret_bool HD.out, rfl⟩

set_option maxHeartbeats 400000 in
theorem stands_any (w : World) (g : Nat) (tkv rwv : Value) (tk : List Int) (rs : List (Value × List Int)) (v : Value) (row : List Int) (asked : Int) (h : PoolX w g tkv rwv tk (rs ++ [(v, row)]) asked) (hl : rs.length ≤ 1000) (h2 : row.length ≤ 1000) (p : Int) :
    Calls Try.prog 35 #[.pointer (some ⟨g, 0, none⟩), .int .i64 p] w fun e w' => e = .returned (.bool (decide (p ∈ row))) ∧ ∃ q, w' = w.drewN q := by
  have ho := h.rows rs.length v row (by simp)
  obtain ⟨ao, cv, rfl, hrd, _⟩ := owns_rd ho
  go_enter Try.func35, Try.ntmps35
  go_wp2_with (first
    | (go_at_call 29; refine (standing_any _ g tkv rwv tk rs _ row asked h hl).mono ?_; rintro e w1 ⟨rfl, q, rfl⟩)
    | (go_at_call 47; refine (contains_any ao cv row p _ (rdd_drewN.2 hrd) h2).mono ?_; rintro e w2 ⟨rfl, hw⟩; obtain rfl := hw.symm))
  go_ret
  exact ⟨rfl, q, rfl⟩

theorem getLast_at {row : List Int} (h : 1 ≤ row.length) : row[row.length - 1]? = some (row.getLastD 0) := by
  rw [List.getLastD_eq_getLast?, List.getLast?_eq_getElem?]
  rw [List.getElem?_eq_getElem (by omega)]
  rfl

set_option maxRecDepth 100000 in
set_option maxHeartbeats 1000000 in
theorem without_any (w : World) (v : Value) (row : List Int) (p : Int) (ho : w.ownsRow 0 3 1 v row.length (row.map (Value.int .i64))) (h2 : 2 ≤ row.length) (h64 : row.length ≤ 64) (hp : p ∈ row) :
    Calls Try.prog 36 #[v, .int .i64 p] w fun e w' => ∃ l, e = .returned l ∧ NewList w w' l (wo row p) := by
  obtain ⟨gr, cap, rfl⟩ : ∃ g cap, v = .slice (some ⟨g, 0, none⟩) row.length cap := by
    rcases ho.2 with ⟨rfl, hn⟩ | ⟨g, cap, cur, rfl, _⟩
    · omega
    · exact ⟨g, cap, rfl⟩
  have hir := idx_lt p row 0
  obtain ⟨i, hi⟩ : ∃ i : Nat, idx p row 0 = i := ⟨(idx p row 0).toNat, by have : ¬ idx p row 0 < 0 := fun q => (idx_neg p row 0).1 q hp; omega⟩
  have hil : i < row.length := by omega
  have HI : Hid (idx p row 0 = i) := hi
  clear hi hir
  go_enter Try.func36, Try.ntmps36
  go_wp2_with (go_at_call 28; refine (clone_any _ _ row ho (by omega) (by omega)).mono ?_; rintro e w1 ⟨l, rfl, hN⟩)
  obtain ⟨ho1, hF1, hn1⟩ := hN
  have ho' := hF1.owns ho (fun _ _ s => s)
  obtain ⟨gn, cn, rfl⟩ : ∃ g cap, l = .slice (some ⟨g, 0, none⟩) row.length cap := by
    rcases ho1.2 with ⟨rfl, hn⟩ | ⟨g, cap, cur, rfl, _⟩
    · omega
    · exact ⟨g, cap, rfl⟩
  have hgl : gr < w.heap.size := owns_lt ho rfl
  have hgn := hn1 gn rfl
  obtain ⟨m, hm⟩ : ∃ m, row.length = m + 1 := ⟨row.length - 1, by omega⟩
  obtain ⟨z, hz⟩ : ∃ z, z = row.getLastD 0 := ⟨_, rfl⟩
  obtain ⟨x, hx⟩ : ∃ x, row[i]? = some x := ⟨_, List.getElem?_eq_getElem hil⟩
  have cl : w1.cell? ⟨gr, m, none⟩ = some (.int .i64 z) := by
    have q := getLast_at (row := row) (by omega)
    rw [show row.length - 1 = m by omega] at q
    rw [ho'.cellAt m (by omega), List.getElem?_map, q, hz]; rfl
  have cn' : w1.cell? ⟨gn, i, none⟩ = some (.int .i64 x) := by
    rw [ho1.cellAt i (by omega), List.getElem?_map, hx]; rfl
  have fz := ho1.frozenAt i
  obtain ⟨_, _, e, hrd, -⟩ := owns_rd ho'
  cases e
  have e1 : (row.length : Int) - 1 = (m : Int) := by omega
  have hcn : m ≤ cn := by
    obtain ⟨_, _, e, _, _, hle, _⟩ := owns_rd ho1
    cases e
    omega
  have m0 : (0 : Int) ≤ (m : Int) := by omega
  have m1 : (m : Int) < (row.length : Int) := by omega
  have i0 : (0 : Int) ≤ (i : Int) := by omega
  have i1 : (i : Int) < (row.length : Int) := by omega
  have a1 := add0 gr m
  have a2 := add0 gn i
  rw [e1]
  have HM : Hid (row.length = m + 1) := hm
  have HZ : Hid (z = row.getLastD 0) := hz
  have HX : Hid (row[i]? = some x) := hx
  clear hm e1 hz hx
  have hne : gr ≠ gn := by omega
  have hne' : gn ≠ gr := by omega
  go_region_held3 (fun w' => Rdd w' .i64 (some ⟨gr, 0, none⟩) row ∧ w'.cell? ⟨gr, m, none⟩ = some (.int .i64 z)) (simp [*, rdd_drew, rdd_far, World.cell?_setCell_far]) (first | (go_at_call 45; refine (index_any _ cap row p _ (by assumption) (by omega)).mono ?_; rintro e w' ⟨rfl, rfl⟩; rw [HI.out]))
  all_goals
    go_wp2
    go_ret
    have hst := (ho1.stored i (.int .i64 z)).1
    have ew : ((row.map (Value.int .i64)).set i (.int .i64 z)) = (wo row p).map (Value.int .i64) ++ [.int .i64 ((row.set i z).getD m 0)] := by
      have hM := HM.out
      have hl : (row.set i z).length = m + 1 := by simp [hM]
      unfold wo
      rw [← List.map_set, HI.out, Int.toNat_natCast, ← HZ.out, hM, Nat.add_sub_cancel, ← List.map_singleton, ← List.map_append]
      congr 1
      have : [(row.set i z).getD m 0] = (row.set i z).drop m := by
        rw [List.getD_eq_getElem?_getD, List.getElem?_eq_getElem (by omega), Option.getD_some, List.drop_eq_getElem_cons (by omega), List.drop_of_length_le (by omega)]
      rw [this, List.take_append_drop]
    rw [ew] at hst
    have hwl : ((wo row p).map (Value.int .i64)).length = m := by have := wo_len hp; have := HM.out; simp; omega
    have ht := owns_take hst
    rw [hwl] at ht
    have hwl' : (wo row p).length = m := by simpa using hwl
    refine ⟨_, rfl, ?_, ?_, fun k hk => hn1 k hk⟩
    · rw [hwl']; exact ht
    · exact ((hF1.setCell (.inr hgn) _).drewN _)
end Go.Proofs.Ytpioacgknamemaa
