/- What stands, alone: standing, Clone. -/
import Derived.Test.YtpioacgknamemaaNew
import Derived.Deep.QuietTactic
import Derived.BigQuiet
import Derived.Lib.SliceRun
namespace Go.Proofs.Ytpioacgknamemaa
open Go.RowKit

/-- A list that a call has made: its numbers; where it lies. -/
def NewList (w w' : World) (l : Value) (xs : List Int) : Prop :=
  w'.ownsRow 0 3 1 l xs.length (xs.map (Value.int .i64)) ∧ Frm NoB w w' ∧ ∀ k, l.ownBlock = some k → w.heap.size ≤ k

set_option maxRecDepth 100000 in
set_option maxHeartbeats 1000000 in
theorem standing_any (w : World) (g : Nat) (tkv rwv : Value) (tk : List Int) (rs : List (Value × List Int)) (v : Value) (row : List Int) (asked : Int) (h : PoolX w g tkv rwv tk (rs ++ [(v, row)]) asked) (hl : rs.length ≤ 1000) :
    Calls Try.prog 29 #[.pointer (some ⟨g, 0, none⟩)] w fun e w' => e = .returned v ∧ ∃ q, w' = w.drewN q := by
  have c1 : w.cell? ⟨g, 1, none⟩ = some rwv := (cell_of_row w g 1 _ _ _ h.blk).trans rfl
  have hlen := h.rw'
  rcases hlen.2 with ⟨rfl, hn⟩ | ⟨rb, cap, cur, rfl, hbb, hgg, hnc, hcm, hcs, htake⟩
  · simp at hn
  · have hcell := h.rw'.cellAt rs.length (by simp)
    have hc : w.cell? ⟨rb, rs.length, none⟩ = some v := by
      simpa [List.getElem?_append_right] using hcell
    have ha := add0 rb rs.length
    have e1 : IntKind.i64.wrap ((((rs ++ [(v, row)]).length : Nat) : Int) - 1) = (rs.length : Int) := by rw [IntKind.wrap_i64]; simp; omega
    have e2 : ((rs ++ [(v, row)]).length : Nat) = rs.length + 1 := by simp
    rw [e2] at c1
    clear hcell hlen hgg hnc hcm hcs htake
    obtain ⟨ao, c, rfl, _⟩ := owns_rd (h.rows rs.length v row (by simp))
    clear h
    go_enter Try.func29, Try.ntmps29
    go_wp2
    go_quiet (fail)
    go_wp2
    go_ret
    exact ⟨rfl, _, rfl⟩

set_option maxRecDepth 100000 in
set_option maxHeartbeats 1000000 in
theorem clone_any (w : World) (v : Value) (row : List Int) (ho : w.ownsRow 0 3 1 v row.length (row.map (Value.int .i64))) (h1 : 1 ≤ row.length) (h2 : row.length ≤ 1000) :
    Calls Try.prog 28 #[v] w fun e w' => ∃ l, e = .returned l ∧ NewList w w' l row := by
  obtain ⟨g, cap, rfl⟩ : ∃ g cap, v = .slice (some ⟨g, 0, none⟩) row.length cap := by
    rcases ho.2 with ⟨rfl, hn⟩ | ⟨g, cap, cur, rfl, _⟩
    · omega
    · exact ⟨g, cap, rfl⟩
  have hsrc : SrcOk (w.alloc (.cells #[] 3)) (some ⟨g, 0, none⟩) 1 row.length (row.map (Value.int .i64)) := by
    refine ⟨by simp, fun h => by simp at h, fun a ha j u hu => ?_, fun u hu => by obtain ⟨x, _, rfl⟩ := List.mem_map.1 hu; rfl⟩
    simp only [Option.some.injEq] at ha
    subst ha
    have hj : j < row.length := by have := (List.getElem?_eq_some_iff.1 hu).1; simpa using this
    rw [add0]
    have := ho.cellAt j (by omega)
    rw [hu] at this
    exact (World.cell?_alloc_lt w _ _ (World.block_lt_of_cell? w _ this)).trans this
  have hnil : (w.alloc (.cells #[] 3)).ownsRow 0 3 1 (.slice (some ⟨w.heap.size, 0, none⟩) 0 0) 0 [] := ⟨by simp, .inr ⟨w.heap.size, 0, #[], rfl, Nat.zero_le _, heap_alloc_new w _, by omega, by simp [maxLen], by simp, by simp⟩⟩
  have q22 : ∀ (w : World) (a : Option Addr) (n c n' c' : Nat), (binOp .eql 22 (.slice a n c) (.slice none n' c')).run Try.prog w = .ok (.bool a.isNone) w := fun w a n c n' c' => Lib.run_eql_slice_nil w _ _ a n c n' c' Try.underlying22
  go_enter Try.func28, Try.ntmps28
  go_wp2_with (at_builtin; refine wpList_app _ rfl (.tmp 5) (.tmp 6) 22 rfl 3 (.int .i64 0) 1 8 Try.underlying22 Try.info3 rfl (by decide) (.slice (some ⟨w.heap.size, 0, none⟩) 0 0) 0 [] rfl (by exact hnil) (some ⟨g, 0, none⟩) row.length cap (row.map (Value.int .i64)) rfl (by exact hsrc) (by simp) (by simp only [maxLen]; omega) (by omega) ?_; intro v1 w1 hA)
  go_ret
  have hF : Frm NoB w w1 := ((Frm.refl NoB w).alloc _).grown hA.grown (fun k hk => .inr (by simp [Value.ownBlock] at hk; omega))
  refine ⟨v1, rfl, by simpa using hA.own, hF, fun k hk => ?_⟩
  rcases hA.new k hk with h | h
  · simp [Value.ownBlock] at h; omega
  · simp at h; omega
end Go.Proofs.Ytpioacgknamemaa
