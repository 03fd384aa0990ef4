/- A new pool, alone. -/
import Derived.Test.YtpioacgknamemaaFind
namespace Go.Proofs.Ytpioacgknamemaa
open Go.RowKit

theorem Try.info3 : (Try.prog.info? 3).map (fun i => (i.zero, i.size, i.bytes)) = some (some (.int .i64 0), 1, 8) := by kernel_rfl

theorem make_ints (w : World) (x : Int) (c : Nat) (hx : x = c) (hc : c ≤ 1000) :
    Sem.run Try.prog (Instr.makeSlice 22 (.int .i64 x) (.int .i64 x)) w = .ok (.slice (some ⟨w.heap.size, 0, none⟩) c c) (w.alloc (.cells (madeCells #[.int .i64 0] c) 3)) := by
  subst hx
  obtain ⟨i0, hi, hz0, hz1, hz2⟩ := info_parts Try.info3
  have := run_make (P := Try.prog) w 22 3 i0 (.int .i64 0) Try.underlying22 hi hz0 .i64 .i64 c c (by omega) (by omega) (by rw [hz2]; omega) (by omega)
  rw [hz1] at this
  simp only [Int.toNat_natCast, Nat.mul_one] at this
  exact this

/-- The numbers from 0 on. -/
def upto (n : Nat) : List Int := (List.range n).map Int.ofNat
theorem upto_length (n : Nat) : (upto n).length = n := by simp [upto]

def fillTo (n k : Nat) : List Value := ((upto k).map (Value.int .i64)) ++ List.replicate (n - k) (Value.int .i64 0)
theorem fill_set {n k : Nat} (h : k < n) : (fillTo n k).set k (.int .i64 (k : Int)) = fillTo n (k + 1) := by
  unfold fillTo
  have e : n - k = (n - (k + 1)) + 1 := by omega
  rw [e, List.replicate_succ, List.set_append, if_neg (by simp [upto])]
  simp [upto, List.range_succ]
theorem made_eq (n : Nat) : (madeCells #[Value.int .i64 0] n).toList = List.replicate n (Value.int .i64 0) := by
  apply List.ext_getElem?
  intro i
  by_cases h : i < n
  · simp [madeCells, h, Nat.mod_one]
  · simp [madeCells, h]

/-- What places.New leaves. -/
structure NewSet (w w' : World) (n : Nat) (rwv v : Value) : Prop where
  frm : Frm NoB w w'
  rw' : w'.ownsRow 0 22 1 rwv 1 [v]
  row : w'.ownsRow 0 3 1 v n ((upto n).map (Value.int .i64))
  new : ∀ k, rwv.ownBlock = some k → w.heap.size ≤ k
  new' : ∀ k, v.ownBlock = some k → w.heap.size ≤ k

set_option maxRecDepth 100000 in
set_option maxHeartbeats 1000000 in
theorem places_new (w : World) (n : Nat) (hn : n ≤ 64) :
    Calls Try.prog 26 #[.int .i64 n] w fun e w' => ∃ rwv v, e = .returned (.agg #[.slice none 0 0, rwv]) ∧ NewSet w w' n rwv v := by
  have hm : ∀ w : World, Sem.run Try.prog (Instr.makeSlice 22 (.int .i64 (n : Int)) (.int .i64 (n : Int))) w = .ok (.slice (some ⟨w.heap.size, 0, none⟩) n n) (w.alloc (.cells (madeCells #[.int .i64 0] n) 3)) := fun w => make_ints w n n rfl (by omega)
  have hown : (((w.alloc (.cells #[.slice none 0 0, .slice none 0 0] 46)).alloc (.cells (madeCells #[.int .i64 0] n) 3))).ownsRow 0 3 1 (.slice (some ⟨w.heap.size + 1, 0, none⟩) n n) n (fillTo n 0) := by
    refine ⟨by simp [fillTo, upto], .inr ⟨w.heap.size + 1, n, madeCells #[.int .i64 0] n, rfl, Nat.zero_le _, ?_, Nat.le_refl _, by simp only [maxLen]; omega, by simp [size_madeCells], ?_⟩⟩
    · have := heap_alloc_new (w.alloc (.cells #[.slice none 0 0, .slice none 0 0] 46)) (.cells (madeCells #[.int .i64 0] n) 3)
      simpa using this
    · rw [made_eq]
      simp [fillTo, upto]
  go_enter Try.func26, Try.ntmps26
  go_wp2
  go_loopw [9] (fun i wr => ∃ k : Nat, k ≤ n ∧ i = .int .i64 k ∧ wr.ownsRow 0 3 1 (.slice (some ⟨w.heap.size + 1, 0, none⟩) n n) n (fillTo n k) ∧ wr.heap[w.heap.size]? = some (.cells #[.slice none 0 0, .slice none 0 0] 46) ∧ Frm NoB w wr) (fun i _ => n - (intOf i).toNat)
  case atStart => exact ⟨0, by omega, rfl, hown, (Below.heap_alloc _ _ _ (by simp)).trans (heap_alloc_new w _), ((Frm.refl _ _).alloc _).alloc _⟩
  case round =>
    obtain ⟨k, hk, rfl, ho, hb, hfr⟩ := hrel
    by_cases hlt : k < n
    · have hcl : ∃ x, wr.cell? ⟨w.heap.size + 1, k, none⟩ = some x := by
        rw [ho.cellAt k (by omega)]
        exact ⟨_, List.getElem?_eq_getElem (by simp [fillTo, upto]; omega)⟩
      obtain ⟨x, hcl⟩ := hcl
      have hfz := ho.frozenAt k
      have hst := ho.stored k (.int .i64 (k : Int))
      rw [fill_set hlt] at hst
      go_wp2
      go_roundw
      case rel => exact ⟨k + 1, by omega, by go_num, hst.1, (Below.heap_setCell _ _ _ _ (by simp)).trans hb, hfr.setCell (.inr (by simp)) _⟩
      case measure => simp [intOf]; omega
    · have hke : k = n := by omega
      subst hke
      have hb2 : (wr.alloc (.cells #[.slice (some ⟨w.heap.size + 1, 0, none⟩) k k] 22)).heap[w.heap.size]? = some (.cells #[.slice none 0 0, .slice none 0 0] 46) := (Below.heap_alloc _ _ _ (lt_of_block hb)).trans hb
      have hb0 : (wr.alloc (.cells #[.slice (some ⟨w.heap.size + 1, 0, none⟩) k k] 22)).cell? ⟨w.heap.size, 0, none⟩ = some (.slice none 0 0) := (cell_of_row _ w.heap.size 0 _ _ _ hb2).trans rfl
      have hb1 : (wr.alloc (.cells #[.slice (some ⟨w.heap.size + 1, 0, none⟩) k k] 22)).cell? ⟨w.heap.size, 1, none⟩ = some (.slice none 0 0) := (cell_of_row _ w.heap.size 1 _ _ _ hb2).trans rfl
      have hf0 := frozen_of_row (wr.alloc (.cells #[.slice (some ⟨w.heap.size + 1, 0, none⟩) k k] 22)) w.heap.size 0 _ _ hb2
      have hf1 := frozen_of_row (wr.alloc (.cells #[.slice (some ⟨w.heap.size + 1, 0, none⟩) k k] 22)) w.heap.size 1 _ _ hb2
      clear hm hown
      go_wp2
      generalize hr : (Value.slice (some ⟨w.heap.size + 1, 0, none⟩) k k) = v at *
      have hzl : w.heap.size < wr.heap.size := lt_of_block hb
      have F3 : Frm (fun b => b = w.heap.size) wr (((wr.alloc (.cells #[v] 22)).setCell ⟨w.heap.size, 0, none⟩ (.slice none 0 0)).setCell ⟨w.heap.size, 1, none⟩ (.slice (some ⟨wr.heap.size, 0, none⟩) 1 1)) :=
        (((Frm.refl (fun b => b = w.heap.size) wr).alloc _).setCell (p := ⟨w.heap.size, 0, none⟩) (.inl rfl) _).setCell (p := ⟨w.heap.size, 1, none⟩) (.inl rfl) _
      have hz1 := heap_setCell_same (wr.alloc (.cells #[v] 22)) w.heap.size 0 _ _ (.slice none 0 0) hb2
      have hz2 := heap_setCell_same ((wr.alloc (.cells #[v] 22)).setCell ⟨w.heap.size, 0, none⟩ (.slice none 0 0)) w.heap.size 1 _ _ (.slice (some ⟨wr.heap.size, 0, none⟩) 1 1) hz1
      have c0 := cell_of_row _ w.heap.size 0 _ _ _ hz2
      have c1 := cell_of_row _ w.heap.size 1 _ _ _ hz2
      simp at c0 c1
      refine bodyPost_ret (v := .agg #[.slice none 0 0, .slice (some ⟨wr.heap.size, 0, none⟩) 1 1]) (by simp [results, Try.results26, go_sem, c0, c1]) rfl ⟨_, v, rfl, ?_⟩
      refine ⟨((hfr.alloc _).setCell (.inr (by simp)) _).setCell (.inr (by simp)) _, ⟨by simp, .inr ⟨wr.heap.size, 1, #[v], rfl, Nat.zero_le _, ?_, by omega, by simp [maxLen], by simp, by simp⟩⟩, ?_, fun b hb => ?_, fun b hb => ?_⟩
      · have h3 : (wr.alloc (.cells #[v] 22)).heap[wr.heap.size]? = some (.cells #[v] 22) := heap_alloc_new wr _
        rw [Below.heap_setCell _ _ _ _ (by simp; omega), Below.heap_setCell _ _ _ _ (by simp; omega)]
        exact h3
      · have h4 := F3.owns ho (fun b hb e => by rw [← hr] at hb; simp [Value.ownBlock] at hb; omega)
        simpa [fillTo] using h4
      · simp [Value.ownBlock] at hb
        omega
      · rw [← hr] at hb
        simp [Value.ownBlock] at hb
        omega

set_option maxHeartbeats 400000 in
theorem recent_new (w : World) : Calls Try.prog 27 #[.int .i64 6] w fun e w' => e = .returned (.agg #[.int .i64 6, .slice none 0 0]) ∧ Frm NoB w w' := by
  go_enter Try.func27, Try.ntmps27
  go_wp2
  exact bodyPost_ret (v := .agg #[.int .i64 6, .slice none 0 0]) (by simp [results, Try.results27, go_sem]) rfl ⟨rfl, (Frm.refl _ _).alloc _⟩

/-- A pool in memory: what was taken, the rows (each with its slice), how many keys were asked for. -/
structure PoolX (w : World) (g : Nat) (tkv rwv : Value) (tk : List Int) (rs : List (Value × List Int)) (asked : Int) : Prop where
  blk : w.heap[g]? = some (.cells #[tkv, rwv, .int .u64 asked, .int .i64 6, .slice none 0 0, .int .i64 0] 56)
  tk : w.ownsRow 0 3 1 tkv tk.length (tk.map (Value.int .i64))
  rw' : w.ownsRow 0 22 1 rwv rs.length (rs.map (·.1))
  rows : ∀ (i : Nat) (v : Value) (row : List Int), rs[i]? = some (v, row) → w.ownsRow 0 3 1 v row.length (row.map (Value.int .i64))
  sep : ∀ (i j : Nat) (v v' : Value) (row row' : List Int) (b : Nat), rs[i]? = some (v, row) → rs[j]? = some (v', row') → v.ownBlock = some b → v'.ownBlock = some b → i = j
  sept : ∀ (i : Nat) (v : Value) (row : List Int) (b : Nat), rs[i]? = some (v, row) → v.ownBlock = some b → tkv.ownBlock ≠ some b

/-- All of it is new. -/
structure AllNew (z : Nat) (g : Nat) (tkv rwv : Value) (rs : List (Value × List Int)) : Prop where
  g : z ≤ g
  tk : ∀ b, tkv.ownBlock = some b → z ≤ b
  rw' : ∀ b, rwv.ownBlock = some b → z ≤ b
  rows : ∀ (i : Nat) (v : Value) (row : List Int) (b : Nat), rs[i]? = some (v, row) → v.ownBlock = some b → z ≤ b

theorem PoolX.setR {w : World} {g : Nat} {tkv rwv : Value} {tk : List Int} {rs : List (Value × List Int)} {asked : Int} (h : PoolX w g tkv rwv tk rs asked) (hr : rs ≠ []) : SetR w g tk (rs.map (·.2)) := by
  refine ⟨?_, ?_⟩
  · obtain ⟨ao, cap, rfl, hrd, _⟩ := owns_rd h.tk
    exact ⟨ao, cap, (cell_of_row w g 0 _ _ _ h.blk).trans rfl, hrd⟩
  · rcases h.rw'.2 with ⟨rfl, hn⟩ | ⟨rb, cap, cur, rfl, _, hgg, hnc, hcm, hcs, htake⟩
    · exact absurd (List.eq_nil_of_length_eq_zero hn) hr
    · refine ⟨rb, cap, by rw [List.length_map]; exact (cell_of_row w g 1 _ _ _ h.blk).trans rfl, fun i row hi => ?_⟩
      rw [List.getElem?_map] at hi
      obtain ⟨⟨v, row'⟩, hv, e⟩ := Option.map_eq_some_iff.1 hi
      simp only at e
      subst e
      obtain ⟨ao, c, rfl, hrd, _⟩ := owns_rd (h.rows i v row' hv)
      have hlt : i < rs.length := (List.getElem?_eq_some_iff.1 hv).1
      have := h.rw'.cellAt i (by simpa using hlt)
      rw [List.getElem?_map, hv] at this
      exact ⟨ao, c, this, hrd⟩

set_option maxHeartbeats 800000 in
theorem new_ok (w : World) (n : Nat) (h1 : 1 ≤ n) (hn : n ≤ 64) :
    Calls Try.prog 16 #[.int .i64 n] w fun e w' => ∃ g rwv v, e = .returned (.tuple #[.pointer (some ⟨g, 0, none⟩), .int .i64 0]) ∧ PoolX w' g (.slice none 0 0) rwv [] [(v, upto n)] 0 ∧ AllNew w.heap.size g (.slice none 0 0) rwv [(v, upto n)] ∧ Frm NoB w w' := by
  have hs : sizeB n = true := by simp [sizeB]; omega
  go_enter Try.func16, Try.ntmps16
  go_wp2_with (first | (go_at_call 24; refine (isSize_any _ _).mono ?_; rintro e w' ⟨rfl, rfl⟩; rw [hs]) | (go_at_call 26; refine (places_new _ n hn).mono ?_; rintro e w1 ⟨rwv, v, rfl, hS⟩) | (go_at_call 27; refine (recent_new _).mono ?_; rintro e w2 ⟨rfl, hF⟩))
  go_ret2
  have F : Frm NoB w1 (w2.alloc (.cells #[.slice none 0 0, rwv, .int .u64 0, .int .i64 6, .slice none 0 0, .int .i64 0] 56)) := hF.alloc _
  have hz1 := hS.frm.size
  have hz2 := hF.size
  refine ⟨w2.heap.size, rwv, v, rfl, ⟨heap_alloc_new w2 _, World.ownsRow_nil _ _ _ _, F.owns hS.rw' (fun _ _ s => s), fun i v' row hi => ?_, fun i j v1 v2 r1 r2 b hi hj _ _ => ?_, fun i v' row b _ _ h => by simp [Value.ownBlock] at h⟩, ⟨by omega, fun b h => by simp [Value.ownBlock] at h, hS.new, fun i v' row b hi hb => ?_⟩, (hS.frm.then hF).alloc _⟩
  · cases i with
    | zero =>
      simp only [List.getElem?_cons_zero, Option.some.injEq, Prod.mk.injEq] at hi
      obtain ⟨rfl, rfl⟩ := hi
      rw [upto_length]
      exact F.owns hS.row (fun _ _ s => s)
    | succ i => simp at hi
  · have : i < 1 := by have := (List.getElem?_eq_some_iff.1 hi).1; simpa using this
    have : j < 1 := by have := (List.getElem?_eq_some_iff.1 hj).1; simpa using this
    omega
  · cases i with
    | zero =>
      simp only [List.getElem?_cons_zero, Option.some.injEq, Prod.mk.injEq] at hi
      obtain ⟨rfl, rfl⟩ := hi
      exact hS.new' b hb
    | succ i => simp at hi

set_option maxHeartbeats 400000 in
theorem begun_ok (w : World) (n : Nat) (h1 : 1 ≤ n) (hn : n ≤ 64) :
    Calls Try.prog 7 #[.int .i64 n] w fun e w' => ∃ g rwv v, e = .returned (.pointer (some ⟨g, 0, none⟩)) ∧ PoolX w' g (.slice none 0 0) rwv [] [(v, upto n)] 0 ∧ AllNew w.heap.size g (.slice none 0 0) rwv [(v, upto n)] ∧ Frm NoB w w' := by
  go_enter Try.func7, Try.ntmps7
  go_wp2_with (go_at_call 16; refine (new_ok _ n h1 hn).mono ?_; rintro e w1 ⟨g, rwv, v, rfl, hP, hA, hF⟩)
  go_ret
  exact ⟨g, rwv, v, rfl, hP, hA, hF⟩
end Go.Proofs.Ytpioacgknamemaa
