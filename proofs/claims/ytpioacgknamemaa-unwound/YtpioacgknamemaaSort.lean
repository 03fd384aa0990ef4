/- What stands, in order: Sort by the library's contract; Standing, alone. -/
import Derived.Test.YtpioacgknamemaaStand
import Derived.Shelf.Sort.Plain
namespace Go.Proofs
open Go.Shelf
def Try.lays189_ren : Go.Shelf.Ren := ⟨fun | 189 => 30 | 125 => 39 | 257 => 38 | 128 => 57 | 129 => 58 | 294 => 48 | 295 => 49 | 296 => 50 | 297 => 51 | 298 => 52 | 299 => 53 | 216 => 54 | 300 => 55 | 301 => 56 | 328 => 72 | 329 => 73 | 330 => 74 | 331 => 75 | 332 => 76 | 215 => 77 | 343 => 86 | n => n, fun | 28 => 22 | 3 => 3 | 46 => 75 | 0 => 0 | 51 => 80 | 53 => 36 | 4 => 4 | 183 => 88 | 182 => 87 | 131 => 93 | 5 => 5 | 9 => 9 | 218 => 106 | 222 => 109 | 228 => 117 | 229 => 118 | n => n, fun | n => n⟩
theorem Try.lays189 : Go.Proofs.Lays.n189 Try.prog Try.lays189_ren := {
  mixed := by kernel_rfl
  f125 := Try.func39.trans (congrArg some (by kernel_rfl))
  f128 := Try.func57.trans (congrArg some (by kernel_rfl))
  f129 := Try.func58.trans (congrArg some (by kernel_rfl))
  f189 := Try.func30.trans (congrArg some (by kernel_rfl))
  f215 := Try.func77.trans (congrArg some (by kernel_rfl))
  f216 := Try.func54.trans (congrArg some (by kernel_rfl))
  f257 := Try.func38.trans (congrArg some (by kernel_rfl))
  f294 := Try.func48.trans (congrArg some (by kernel_rfl))
  f295 := Try.func49.trans (congrArg some (by kernel_rfl))
  f296 := Try.func50.trans (congrArg some (by kernel_rfl))
  f297 := Try.func51.trans (congrArg some (by kernel_rfl))
  f298 := Try.func52.trans (congrArg some (by kernel_rfl))
  f299 := Try.func53.trans (congrArg some (by kernel_rfl))
  f300 := Try.func55.trans (congrArg some (by kernel_rfl))
  f301 := Try.func56.trans (congrArg some (by kernel_rfl))
  f328 := Try.func72.trans (congrArg some (by kernel_rfl))
  f329 := Try.func73.trans (congrArg some (by kernel_rfl))
  f330 := Try.func74.trans (congrArg some (by kernel_rfl))
  f331 := Try.func75.trans (congrArg some (by kernel_rfl))
  f332 := Try.func76.trans (congrArg some (by kernel_rfl))
  f343 := Try.func86.trans (congrArg some (by kernel_rfl))
  t0 := Try.underlying0
  a0 := Try.isAgg0
  z0 := Try.sizeOf0
  v0 := Try.zeroValue0
  t3 := Try.underlying3
  a3 := Try.isAgg3
  z3 := Try.sizeOf3
  v3 := Try.zeroValue3
  t4 := Try.underlying4
  a4 := Try.isAgg4
  z4 := Try.sizeOf4
  v4 := Try.zeroValue4
  t5 := Try.underlying5
  a5 := Try.isAgg5
  z5 := Try.sizeOf5
  v5 := Try.zeroValue5
  t9 := Try.underlying9
  a9 := Try.isAgg9
  z9 := Try.sizeOf9
  v9 := Try.zeroValue9
  t28 := Try.underlying22
  a28 := Try.isAgg22
  z28 := Try.sizeOf22
  v28 := Try.zeroValue22
  t46 := Try.underlying75
  a46 := Try.isAgg75
  z46 := Try.sizeOf75
  v46 := Try.zeroValue75
  t51 := Try.underlying80
  a51 := Try.isAgg80
  z51 := Try.sizeOf80
  v51 := Try.zeroValue80
  t53 := Try.underlying36
  a53 := Try.isAgg36
  z53 := Try.sizeOf36
  v53 := Try.zeroValue36
  t131 := Try.underlying93
  a131 := Try.isAgg93
  z131 := Try.sizeOf93
  v131 := Try.zeroValue93
  t182 := Try.underlying87
  a182 := Try.isAgg87
  z182 := Try.sizeOf87
  v182 := Try.zeroValue87
  t183 := Try.underlying88
  a183 := Try.isAgg88
  z183 := Try.sizeOf88
  v183 := Try.zeroValue88
  t218 := Try.underlying106
  a218 := Try.isAgg106
  z218 := Try.sizeOf106
  v218 := Try.zeroValue106
  t222 := Try.underlying109
  a222 := Try.isAgg109
  z222 := Try.sizeOf109
  v222 := Try.zeroValue109
  t228 := Try.underlying117
  a228 := Try.isAgg117
  z228 := Try.sizeOf117
  v228 := Try.zeroValue117
  t229 := Try.underlying118
  a229 := Try.isAgg118
  z229 := Try.sizeOf118
  v229 := Try.zeroValue118 }
end Go.Proofs
namespace Go.Proofs.Ytpioacgknamemaa
open Go.RowKit

/-- In order. -/
def srt (xs : List Int) : List Int := xs.mergeSort fun x y => decide (x ≤ y)
theorem srt_length (xs : List Int) : (srt xs).length = xs.length := List.length_mergeSort xs
theorem mem_srt {xs : List Int} {x : Int} : x ∈ srt xs ↔ x ∈ xs := List.mem_mergeSort

theorem put_heap {w : World} {g : Nat} {cur : Array Value} {t : TypeId} {fr : Nat × Nat} (h : w.heap[g]? = some (.cells cur t fr)) (d : Array Int) :
    (Sort.putRow (Value.int .i64) w g 0 d).heap[g]? = some (.cells (Sort.putCells (Value.int .i64) 0 d cur) t fr) := by
  simp [Sort.putRow, Sort.mapBlock, Array.getElem?_modify, h, Sort.onCells]
theorem put_other {w : World} {g k : Nat} (h : k ≠ g) (d : Array Int) : (Sort.putRow (Value.int .i64) w g 0 d).heap[k]? = w.heap[k]? := by
  simp [Sort.putRow, Sort.mapBlock, Array.getElem?_modify, Ne.symm h]

theorem NewList.frm {w wd w1 : World} {l : Value} {xs : List Int} (h : NewList w wd l xs) (hf : Frm NoB wd w1) : NewList w w1 l xs :=
  ⟨hf.owns h.1 (fun _ _ s => s), h.2.1.then hf, h.2.2⟩

set_option maxHeartbeats 1000000 in
theorem sort_new (w wd : World) (l : Value) (xs : List Int) (h : NewList w wd l xs) (h1 : 1 ≤ xs.length) (h2 : xs.length ≤ 1000) :
    Calls Try.prog 30 #[l] wd fun e w' => e = .returned (.tuple #[]) ∧ NewList w w' l (srt xs) := by
  obtain ⟨ho, hF, hn⟩ := h
  rcases ho.2 with ⟨rfl, hl⟩ | ⟨g, cap, cur, rfl, hb, hgg, hnc, hcm, hcs, htake⟩
  · omega
  · have hgl : g < wd.heap.size := lt_of_block hgg
    have hH : Sort.Holds (Value.int .i64) wd g 0 xs.toArray := fun j hj => by
      have hj' : j < xs.length := by simpa using hj
      refine ⟨?_, by rw [Nat.zero_add]; exact ho.frozenAt j⟩
      rw [Nat.zero_add, ho.cellAt j (by omega), List.getElem?_map, List.getElem?_eq_getElem hj', getElem!_pos xs.toArray j hj]
      simp
    refine (Any.slices_Sort_int Try.lays189 g 0 cap xs wd hH hgl (by omega)).mono ?_
    rintro e w' ⟨rfl, n, os, rfl⟩
    refine ⟨rfl, ?_⟩
    have hs : (xs.mergeSort fun x y => decide (x ≤ y)) = srt xs := rfl
    rw [hs]
    have hsl := srt_length xs
    have hp := put_heap (w := Sort.ahead wd n) hgg (srt xs).toArray
    have hz : (Sort.putRow (Value.int .i64) (Sort.ahead wd n) g 0 (srt xs).toArray).heap.size = wd.heap.size := Sort.size_putRow _ _ _ _ _
    have hg' : (Sort.grow (Sort.putRow (Value.int .i64) (Sort.ahead wd n) g 0 (srt xs).toArray) os).heap[g]? = some (.cells (Sort.putCells (Value.int .i64) 0 (srt xs).toArray cur) 3) :=
      (Sort.heap_grow_old _ os (by rw [hz]; exact hgl)).trans hp
    refine ⟨?_, ?_, hn⟩
    · rw [hsl]
      refine ⟨by simp [hsl], .inr ⟨g, cap, _, rfl, hb, hg', hnc, hcm, by simpa [Sort.putCells] using hcs, ?_⟩⟩
      apply List.ext_getElem?
      intro i
      rw [Nat.mul_one, List.getElem?_take]
      by_cases hi : i < xs.length
      · have hic : i < cur.size := by omega
        have his : i < (srt xs).length := by omega
        rw [if_pos hi]
        simp [Sort.putCells, hic, his]
      · rw [if_neg hi, List.getElem?_map, List.getElem?_eq_none (by omega)]
        rfl
    · have hFg : Frm (fun k => k = g) wd (Sort.grow (Sort.putRow (Value.int .i64) (Sort.ahead wd n) g 0 (srt xs).toArray) os) := by
        refine ⟨rfl, rfl, rfl, ?_, fun k hk hne => ?_⟩
        · simp [Sort.grow, Sort.ahead]
        · exact (Sort.heap_grow_old _ os (by rw [hz]; exact hk)).trans (put_other hne _)
      exact hF.trans hFg (fun _ s => s) (fun i hi e => by
        have := hn g rfl
        omega)

theorem NewList.drewN {w : World} {q : Nat} {w' : World} {l : Value} {xs : List Int} (h : NewList (w.drewN q) w' l xs) : NewList w w' l xs :=
  ⟨h.1, ⟨h.2.1.os, h.2.1.tape, h.2.1.output, h.2.1.size, h.2.1.block⟩, h.2.2⟩

set_option maxHeartbeats 1000000 in
theorem set_standing (w : World) (g : Nat) (tkv rwv : Value) (tk : List Int) (rs : List (Value × List Int)) (v : Value) (row : List Int) (asked : Int) (h : PoolX w g tkv rwv tk (rs ++ [(v, row)]) asked) (hl : rs.length ≤ 1000) (h1 : 1 ≤ row.length) (h2 : row.length ≤ 1000) :
    Calls Try.prog 17 #[.pointer (some ⟨g, 0, none⟩)] w fun e w' => ∃ l, e = .returned l ∧ NewList w w' l (srt row) := by
  have ho := h.rows rs.length v row (by simp)
  go_enter Try.func17, Try.ntmps17
  go_wp2_with (first
    | (go_at_call 29; refine (standing_any _ g tkv rwv tk rs v row asked h hl).mono ?_; rintro e w1 ⟨rfl, q, rfl⟩)
    | (go_at_call 28; refine (clone_any _ v row (owns_drewN ho q) h1 h2).mono ?_; rintro e w2 ⟨l, rfl, hN⟩)
    | (go_at_call 30; refine (sort_new _ _ l row hN h1 h2).mono ?_; rintro e w3 ⟨rfl, hN3⟩))
  go_ret
  exact ⟨l, rfl, hN3.drewN⟩

set_option maxHeartbeats 1000000 in
theorem pool_standing (w : World) (g : Nat) (tkv rwv : Value) (tk : List Int) (rs : List (Value × List Int)) (v : Value) (row : List Int) (asked : Int) (h : PoolX w g tkv rwv tk (rs ++ [(v, row)]) asked) (hl : rs.length ≤ 1000) (h1 : 1 ≤ row.length) (h2 : row.length ≤ 1000) :
    Calls Try.prog 10 #[.pointer (some ⟨g, 0, none⟩)] w fun e w' => ∃ l, e = .returned l ∧ NewList w w' l (srt row) := by
  go_enter Try.func10, Try.ntmps10
  go_wp2_with (go_at_call 17; refine (set_standing _ g tkv rwv tk rs v row asked h hl h1 h2).mono ?_; rintro e w1 ⟨l, rfl, hN⟩)
  go_ret
  exact ⟨l, rfl, hN⟩
end Go.Proofs.Ytpioacgknamemaa
