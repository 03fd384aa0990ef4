/- The law's World: a pool more. -/
import Derived.Test.YtinadpanpnenjaaKept
namespace Go.Proofs.Ytinadpanpnenjaa
open Go.RowKit

theorem Try.info44 : (Try.prog.info? 44).map (fun i => (i.zero, i.size, i.bytes)) = some (some (.agg #[.pointer none, .pointer none]), 2, 16) := by kernel_rfl

theorem src_pair (w : World) (t : TypeId) (a b : Value) (ha : a.oneCell' = true) (hb : b.oneCell' = true) : SrcOk (w.alloc (.cells #[a, b] t)) (some ⟨w.heap.size, 0, none⟩) 2 1 [a, b] := by
  refine ⟨by simp, fun h => by simp at h, ?_, by simp [ha, hb]⟩
  intro ad had j u hu
  simp at had
  subst had
  have hadd : (⟨w.heap.size, 0, none⟩ : Addr).add j = ⟨w.heap.size, j, none⟩ := by unfold Addr.add; split <;> simp_all
  rw [hadd, cell_of_row _ w.heap.size j #[a, b] t (0, 0) (heap_alloc_new w _)]
  simpa using hu

set_option maxHeartbeats 400000 in
theorem joined_none (w : World) (g : Nat) (e : Int) :
    Calls Try.prog 19 #[.pointer (some ⟨g, 0, none⟩), .pointer none, .int .i64 e, .pointer none, .int .i64 e] w fun r w' => r = .returned (.bool true) ∧ w' = w := by
  go_enter Try.func19, Try.ntmps19
  go_wp2_with (go_at_call 16; refine (num_any _ _).mono ?_; rintro r w' ⟨rfl, rfl⟩)
  go_ret
  exact ⟨rfl, rfl⟩

/-- What 'joined' leaves where a pool came. -/
def JoinPost (w w' : World) (g : Nat) (vl vns vkn : Value) (n : Nat) (xs : List Value) (a b : Value) : Prop :=
  ∃ vl', w'.heap[g]? = some (.cells #[vl', .slice none 0 0, .slice none 0 0, vns, vkn] 33 (0, 0)) ∧ w'.ownsRow 0 44 2 vl' (n + 1) (xs ++ [a, b]) ∧ Frm (fun k => k = g ∨ vl.ownBlock = some k) w w' ∧
    ∀ k, vl'.ownBlock = some k → vl.ownBlock = some k ∨ w.heap.size ≤ k

theorem joined_end {w w1 : World} {g n : Nat} {vl vns vkn v1 a b : Value} {xs : List Value} {o : Obj} (hb : w.heap[g]? = some (.cells #[vl, .slice none 0 0, .slice none 0 0, vns, vkn] 33 (0, 0))) (hg : vl.ownBlock ≠ some g)
    (hA : App (w.alloc o) w1 44 2 vl v1 n 1 xs [a, b]) : JoinPost w (w1.setCell ⟨g, 0, none⟩ v1) g vl vns vkn n xs a b := by
  have b1 : w1.heap[g]? = _ := hA.keep ((Below.heap_alloc w o g (lt_of_block hb)).trans hb) hg
  refine ⟨v1, heap_setCell_same w1 g 0 _ _ v1 b1, ?_, ?_, ?_⟩
  · refine ownsRow_setCell_other hA.own (a := ⟨g, 0, none⟩) (owns_ne hA.own b1 (by decide)) v1
  · exact Frm.setCell (p := ⟨g, 0, none⟩) (((Frm.refl _ w).alloc o).grown hA.grown (fun k hk => .inl (.inr hk))) (.inl (.inl rfl)) v1
  · exact fun k hk => (hA.new k hk).imp id (fun z => by simp at z; omega)

set_option maxHeartbeats 1000000 in
theorem joined_some (w : World) (g gx gy : Nat) (e : Int) (vl vns vkn : Value) (n : Nat) (xs : List Value) (hb : w.heap[g]? = some (.cells #[vl, .slice none 0 0, .slice none 0 0, vns, vkn] 33 (0, 0)))
    (hL : w.ownsRow 0 44 2 vl n xs) (hn : (n + 1) * 16 ≤ 140737488355328) :
    Calls Try.prog 19 #[.pointer (some ⟨g, 0, none⟩), .pointer (some ⟨gx, 0, none⟩), .int .i64 e, .pointer (some ⟨gy, 0, none⟩), .int .i64 e] w fun r w' => r = .returned (.bool true) ∧
      JoinPost w w' g vl vns vkn n xs (.pointer (some ⟨gx, 0, none⟩)) (.pointer (some ⟨gy, 0, none⟩)) := by
  have c0 : w.cell? ⟨g, 0, none⟩ = some vl := by rw [cell_of_row w g 0 _ _ _ hb]; rfl
  have HB : Hid (w.heap[g]? = some (.cells #[vl, .slice none 0 0, .slice none 0 0, vns, vkn] 33 (0, 0))) := hb
  have HG : Hid (vl.ownBlock ≠ some g) := owns_ne hL hb (by decide)
  obtain ⟨ao, cap, rfl⟩ := owns_shape hL
  clear hb
  go_enter Try.func19, Try.ntmps19
  go_wp2_with (first | (go_at_call 16; refine (num_any _ _).mono ?_; rintro r w' ⟨rfl, hw⟩; obtain rfl := hw.symm) | (at_builtin; refine wpList_app _ rfl (.tmp 28) (.tmp 32) 27 rfl 44 (.agg #[.pointer none, .pointer none]) 2 16 Try.underlying27 Try.info44 rfl (by decide) (.slice ao n cap) n xs rfl (by exact hL.alloc _) _ 1 1 [.pointer (some ⟨gx, 0, none⟩), .pointer (some ⟨gy, 0, none⟩)] rfl (by exact src_pair _ _ _ _ rfl rfl) (by simp) (by simp only [maxLen]; omega) (by omega) ?_; intro v1 w1 hA; obtain ⟨ao1, cap1, rfl⟩ := owns_shape hA.own; have hb1 := hA.keep ((Below.heap_alloc _ _ g (lt_of_block HB.out)).trans HB.out) HG.out; have c0' := cell_of_row w1 g 0 _ _ _ hb1; have f0' := frozen_of_row w1 g 0 _ _ hb1))
  go_ret
  exact ⟨rfl, joined_end HB.out HG.out hA⟩

set_option maxHeartbeats 1000000 in
theorem begins_jump (w : World) (g : Nat) (vE vB vL vS vJ : Value) (a k : Int) (h0 : 0 ≤ k) (h1 : k < 18446744073709551616) :
    Calls Try.prog 7 #[.pointer (some ⟨g, 0, none⟩), .agg #[.int .i64 1, vE, .int .i64 a, vB, .int .u64 k, vL, vS, vJ]] w fun r w' => r = .returned (.bool true) ∧ Frm NoB w w' := by
  go_enter Try.func7, Try.ntmps7
  go_wp2_with (first | (go_at_call 14; refine (jumpP_calls k a _ h0 h1).mono ?_; rintro r w' ⟨rfl, rfl⟩) | (go_at_call 15; refine (jumpR_calls k a _ h0 h1).mono ?_; rintro r w' ⟨rfl, rfl⟩) | (go_at_call 16; refine (num_any _ _).mono ?_; rintro r w' ⟨rfl, rfl⟩))
  go_ret
  exact ⟨rfl, (Frm.refl _ _).alloc _⟩

end Go.Proofs.Ytinadpanpnenjaa
