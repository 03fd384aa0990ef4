/- The steps that move a pool: Take and Give, of the program and of the document. -/
import Derived.Test.YtinadpanpnenjaaMoves
namespace Go.Proofs.Ytinadpanpnenjaa
open Go.RowKit

theorem PairOk.gne {w : World} {p : Pr} (h : PairOk w p) : p.gx ≠ p.gy := by
  intro e
  have h1 := h.x.blk
  rw [e, h.y.blk] at h1
  simp at h1

theorem block_ne {w : World} {e e' : TypeId} {n n' : Nat} {xs xs' : List Value} {v v' : Value} (h : w.ownsRow 0 e 1 v n xs) (h' : w.ownsRow 0 e' 1 v' n' xs') (hne : e ≠ e') (k : Nat) (hk : v.ownBlock = some k) : v'.ownBlock ≠ some k := by
  obtain ⟨cur, hc⟩ := owns_type h hk
  exact owns_ne h' hc hne

/-- While the program's pool moves, the document's stays. -/
theorem PairOk.y1 {w w1 : World} {p : Pr} (h : PairOk w p) (hf : Frm (fun k => k = p.gx ∨ p.vx.ownBlock = some k) w w1) : YP w1 p.gy p.n p.tk p.vt mid0 p.jl p.vj p.last := by
  refine h.y.frm hf ?_ ?_ ?_
  · intro hs
    rcases hs with hs | hs
    · exact h.gne hs.symm
    · exact owns_ne h.x.own h.y.blk (by decide) hs
  · intro k hk hs
    rcases hs with hs | hs
    · exact owns_ne h.y.ownT h.x.blk (by decide) (by rw [hk, hs])
    · exact h.ap k hs hk
  · intro k hk hs
    rcases hs with hs | hs
    · exact owns_ne h.y.ownJ h.x.blk (by decide) (by rw [hk, hs])
    · exact block_ne h.x.own h.y.ownJ (by decide) k hs hk

theorem PairOk.move {w w1 w2 : World} {p : Pr} {n' last' : Int} {tk' jl' : List Int} (h : PairOk w p) (hX : XPost w w1 p.gx p.vx n' tk') (hY : YPost w1 w2 p.gy p.vt p.vj n' tk' mid0 jl' last') (hok : Ok n' tk') :
    ∃ p', PairOk w2 p' ∧ Frm p.mine w w2 ∧ p'.gx = p.gx ∧ p'.gy = p.gy ∧ (∀ k, p'.mine k → p.mine k ∨ w.heap.size ≤ k) ∧ p'.jl = jl' := by
  obtain ⟨vx', hx, hfx, hnx⟩ := hX
  obtain ⟨vt', vj', hy, hfy, hnt, hnj⟩ := hY
  have s1 := hfx.size
  have ltx := lt_of_block h.x.blk
  have lty := lt_of_block h.y.blk
  refine ⟨⟨p.gx, vx', p.gy, vt', vj', n', tk', jl', last'⟩, ⟨hx.frm hfy ?_ ?_, hy, hok, ?_⟩, hfx.trans hfy (fun _ s => .inl s) (fun _ _ s => .inr s), rfl, rfl, ?_, rfl⟩
  · intro hs
    rcases hs with hs | hs | hs
    · exact h.gne hs
    · exact owns_ne h.y.ownT h.x.blk (by decide) hs
    · exact owns_ne h.y.ownJ h.x.blk (by decide) hs
  · intro k hk hs
    rcases hnx k hk with z | z
    · rcases hs with hs | hs | hs
      · exact owns_ne h.x.own h.y.blk (by decide) (by rw [z, hs])
      · exact h.ap k z hs
      · exact block_ne h.x.own h.y.ownJ (by decide) k z hs
    · rcases hs with hs | hs | hs
      · omega
      · have := owns_lt h.y.ownT hs; omega
      · have := owns_lt h.y.ownJ hs; omega
  · intro k hk hs
    rcases hnt k hs with z | z
    · rcases hnx k hk with y | y
      · exact h.ap k y z
      · have := owns_lt h.y.ownT z; omega
    · have := owns_lt hx.own hk; omega
  · intro k hk
    rcases hk with (hk | hk) | (hk | hk | hk)
    · exact .inl (.inl (.inl hk))
    · exact (hnx k hk).imp (fun z => .inl (.inr z)) id
    · exact .inl (.inr (.inl hk))
    · rcases hnt k hk with z | z
      · exact .inl (.inr (.inr (.inl z)))
      · exact .inr (by omega)
    · rcases hnj k hk with z | z
      · exact .inl (.inr (.inr (.inr z)))
      · exact .inr (by omega)

def MovePost (w0 w' : World) (g : Nat) (ps : List Pr) (es : List (Value × Int)) (J : Nat) : Prop :=
  ∃ ps', St w0 w' g ps' es ∧ ps'.length = ps.length ∧ ∀ p ∈ ps', p.jl.length ≤ J + 6

theorem LInv.moved {own : Nat → Nat} {w0 w w1 w2 : World} {g : Nat} {vl vns vkn : Value} {ps : List Pr} {es : List (Value × Int)} (h : LInv own w0 w g vl vns vkn ps es) {i : Nat} {p : Pr} (hi : ps[i]? = some p) {n' last' : Int} {tk' jl' : List Int}
    (hX : XPost w w1 p.gx p.vx n' tk') (hY : YPost w1 w2 p.gy p.vt p.vj n' tk' mid0 jl' last') (hok : Ok n' tk') (J : Nat) (hJ : ∀ p ∈ ps, p.jl.length ≤ J) (hj : jl'.length ≤ J + 6) : MovePost w0 w2 g ps es J := by
  obtain ⟨p', hp', hf, hgx, hgy, hm, hjl⟩ := (h.pair i p hi).move hX hY hok
  refine ⟨ps.set i p', ⟨_, _, _, _, h.upd hi hf hp' hgx hgy hm⟩, by simp, fun q hq => ?_⟩
  rcases List.mem_or_eq_of_mem_set hq with hq | rfl
  · have := hJ q hq; omega
  · rw [hjl]; exact hj

theorem takeJ_len (n : Int) (tk : List Int) (p : Int) (jl : List Int) (last : Int) : (takeJ n tk p jl last).length ≤ jl.length + 6 := by
  unfold takeJ
  split
  · simp [recF_len]
  · omega
theorem giveJ_len (n : Int) (tk : List Int) (jl : List Int) (last : Int) : (giveJ n tk jl last).length ≤ jl.length + 6 := by
  unfold giveJ
  split
  · simp [recF_len]
  · omega

theorem two_cells {w : World} (o1 o2 : Obj) : Frm NoB w ((w.alloc o1).alloc o2) := ((Frm.refl _ w).alloc o1).alloc o2

set_option maxHeartbeats 1000000 in
theorem moves_take (own : Nat → Nat) (w0 w : World) (g : Nat) (vl vns vkn : Value) (ps : List Pr) (es : List (Value × Int)) (h : LInv own w0 w g vl vns vkn ps es) (i : Nat) (p : Pr) (hi : ps[i]? = some p) (J : Nat) (hJ : ∀ p ∈ ps, p.jl.length ≤ J)
    (hb : J ≤ 140737488355000) (a : Int) (ha : -9223372036854775808 ≤ a ∧ a ≤ 9223372036854775807) (vE vB vK vL vS vJ : Value) :
    Calls Try.prog 9 #[.pointer (some ⟨g, 0, none⟩), .agg #[.pointer (some ⟨p.gx, 0, none⟩), .pointer (some ⟨p.gy, 0, none⟩)], .agg #[.int .i64 3, vE, .int .i64 a, vB, vK, vL, vS, vJ]] w fun r w' => r = .returned (.bool true) ∧ MovePost w0 w' g ps es J := by
  have hp := h.pair i p hi
  have hlx := lt_of_block hp.x.blk
  have f0 : Frm NoB w ((w.alloc (.cells #[.pointer (some ⟨p.gx, 0, none⟩), .pointer (some ⟨p.gy, 0, none⟩)] 44)).alloc (.cells #[.int .i64 3, vE, .int .i64 a, vB, vK, vL, vS, vJ] 39)) := two_cells _ _
  have ha1 : ((w.alloc (.cells #[.pointer (some ⟨p.gx, 0, none⟩), .pointer (some ⟨p.gy, 0, none⟩)] 44)).alloc (.cells #[.int .i64 3, vE, .int .i64 a, vB, vK, vL, vS, vJ] 39)).heap[w.heap.size]? = some (.cells #[.pointer (some ⟨p.gx, 0, none⟩), .pointer (some ⟨p.gy, 0, none⟩)] 44 (0, 0)) := heap_alloc2_old w _ _
  have ha2 : ((w.alloc (.cells #[.pointer (some ⟨p.gx, 0, none⟩), .pointer (some ⟨p.gy, 0, none⟩)] 44)).alloc (.cells #[.int .i64 3, vE, .int .i64 a, vB, vK, vL, vS, vJ] 39)).heap[w.heap.size + 1]? = some (.cells #[.int .i64 3, vE, .int .i64 a, vB, vK, vL, vS, vJ] 39 (0, 0)) := heap_alloc2_new w _ _
  have hpa := hp.frm f0 (fun _ _ s => s)
  have hva : Hid (∀ k, w.heap.size ≤ k → ¬ (k = p.gx ∨ p.vx.ownBlock = some k)) := by
    intro k hk hs
    rcases hs with hs | hs
    · omega
    · have := owns_lt hp.x.own hs; omega
  have hjp : p.jl.length ≤ J := hJ p (List.mem_of_getElem? hi)
  go_enter Try.func9, Try.ntmps9
  go_wp2_with fail
  refine (poolTake_any _ p.gx p.n a p.tk p.vx hpa.x hp.ok ha).mono ?_
  rintro r w1 ⟨rfl, hX⟩
  have hX' := hX
  obtain ⟨vx', hx1, hfx, hnx⟩ := hX'
  have c41 := cell_of_row w1 w.heap.size 1 _ _ _ (hfx.keep ha1 (hva.out _ (Nat.le_refl _)))
  have c52 := cell_of_row w1 (w.heap.size + 1) 2 _ _ _ (hfx.keep ha2 (hva.out _ (Nat.le_succ _)))
  have hY1 := hpa.y1 hfx
  clear hx1 hfx hnx ha1 ha2
  go_wp2_with fail
  refine (refTake_any _ p.gy p.n p.tk p.vt mid0 p.jl p.vj p.last a hY1 hp.ok ha (by omega)).mono ?_
  rintro r w2 ⟨rfl, hY⟩
  go_wp2_with (go_at_call 16; refine (num_any _ _).mono ?_; rintro r w' ⟨rfl, rfl⟩)
  go_ret
  exact ⟨rfl, (h.no f0).moved hi hX hY (hp.ok.take a) J hJ (Nat.le_trans (takeJ_len _ _ _ _ _) (by omega))⟩

set_option maxHeartbeats 1000000 in
theorem moves_give (own : Nat → Nat) (w0 w : World) (g : Nat) (vl vns vkn : Value) (ps : List Pr) (es : List (Value × Int)) (h : LInv own w0 w g vl vns vkn ps es) (i : Nat) (p : Pr) (hi : ps[i]? = some p) (J : Nat) (hJ : ∀ p ∈ ps, p.jl.length ≤ J)
    (hb : J ≤ 140737488355000) (vA vE vB vK vL vS vJ : Value) :
    Calls Try.prog 9 #[.pointer (some ⟨g, 0, none⟩), .agg #[.pointer (some ⟨p.gx, 0, none⟩), .pointer (some ⟨p.gy, 0, none⟩)], .agg #[.int .i64 4, vE, vA, vB, vK, vL, vS, vJ]] w fun r w' => r = .returned (.bool true) ∧ MovePost w0 w' g ps es J := by
  have hp := h.pair i p hi
  have hlx := lt_of_block hp.x.blk
  have f0 : Frm NoB w ((w.alloc (.cells #[.pointer (some ⟨p.gx, 0, none⟩), .pointer (some ⟨p.gy, 0, none⟩)] 44)).alloc (.cells #[.int .i64 4, vE, vA, vB, vK, vL, vS, vJ] 39)) := two_cells _ _
  have ha1 : ((w.alloc (.cells #[.pointer (some ⟨p.gx, 0, none⟩), .pointer (some ⟨p.gy, 0, none⟩)] 44)).alloc (.cells #[.int .i64 4, vE, vA, vB, vK, vL, vS, vJ] 39)).heap[w.heap.size]? = some (.cells #[.pointer (some ⟨p.gx, 0, none⟩), .pointer (some ⟨p.gy, 0, none⟩)] 44 (0, 0)) := heap_alloc2_old w _ _
  have ha2 : ((w.alloc (.cells #[.pointer (some ⟨p.gx, 0, none⟩), .pointer (some ⟨p.gy, 0, none⟩)] 44)).alloc (.cells #[.int .i64 4, vE, vA, vB, vK, vL, vS, vJ] 39)).heap[w.heap.size + 1]? = some (.cells #[.int .i64 4, vE, vA, vB, vK, vL, vS, vJ] 39 (0, 0)) := heap_alloc2_new w _ _
  have hpa := hp.frm f0 (fun _ _ s => s)
  have hva : Hid (∀ k, w.heap.size ≤ k → ¬ (k = p.gx ∨ p.vx.ownBlock = some k)) := by
    intro k hk hs
    rcases hs with hs | hs
    · omega
    · have := owns_lt hp.x.own hs; omega
  have hjp : p.jl.length ≤ J := hJ p (List.mem_of_getElem? hi)
  go_enter Try.func9, Try.ntmps9
  go_wp2_with fail
  refine (poolGive_any _ p.gx p.n p.tk p.vx hpa.x hp.ok).mono ?_
  rintro r w1 ⟨rfl, hX⟩
  have hX' := hX
  obtain ⟨vx', hx1, hfx, hnx⟩ := hX'
  have c41 := cell_of_row w1 w.heap.size 1 _ _ _ (hfx.keep ha1 (hva.out _ (Nat.le_refl _)))
  have hY1 := hpa.y1 hfx
  clear hx1 hfx hnx ha1 ha2
  go_wp2_with fail
  refine (refGive_any _ p.gy p.n p.tk p.vt mid0 p.jl p.vj p.last hY1 hp.ok (by omega)).mono ?_
  rintro r w2 ⟨rfl, hY⟩
  go_wp2_with (go_at_call 16; refine (num_any _ _).mono ?_; rintro r w' ⟨rfl, rfl⟩)
  go_ret
  exact ⟨rfl, (h.no f0).moved hi hX hY hp.ok.give J hJ (Nat.le_trans (giveJ_len _ _ _ _) (by omega))⟩

def ListPost (w0 w' : World) (g : Nat) (ps : List Pr) (es : List (Value × Int)) : Prop :=
  ∃ new, St w0 w' g ps (es ++ new) ∧ new.length = 4

set_option maxHeartbeats 1000000 in
theorem moves_standing (own : Nat → Nat) (w0 w : World) (g : Nat) (vl vns vkn : Value) (ps : List Pr) (es : List (Value × Int)) (h : LInv own w0 w g vl vns vkn ps es) (i : Nat) (p : Pr) (hi : ps[i]? = some p) (hb : (es.length + 4) * 24 ≤ 140737488355328) (vA vE vB vK vL vS vJ : Value) :
    Calls Try.prog 9 #[.pointer (some ⟨g, 0, none⟩), .agg #[.pointer (some ⟨p.gx, 0, none⟩), .pointer (some ⟨p.gy, 0, none⟩)], .agg #[.int .i64 5, vE, vA, vB, vK, vL, vS, vJ]] w fun r w' => r = .returned (.bool true) ∧ ListPost w0 w' g ps es := by
  have hp := h.pair i p hi
  have hlx := lt_of_block hp.x.blk
  have f0 : Frm NoB w ((w.alloc (.cells #[.pointer (some ⟨p.gx, 0, none⟩), .pointer (some ⟨p.gy, 0, none⟩)] 44)).alloc (.cells #[.int .i64 5, vE, vA, vB, vK, vL, vS, vJ] 39)) := two_cells _ _
  have ha1 : ((w.alloc (.cells #[.pointer (some ⟨p.gx, 0, none⟩), .pointer (some ⟨p.gy, 0, none⟩)] 44)).alloc (.cells #[.int .i64 5, vE, vA, vB, vK, vL, vS, vJ] 39)).heap[w.heap.size]? = some (.cells #[.pointer (some ⟨p.gx, 0, none⟩), .pointer (some ⟨p.gy, 0, none⟩)] 44 (0, 0)) := heap_alloc2_old w _ _
  have ha2 : ((w.alloc (.cells #[.pointer (some ⟨p.gx, 0, none⟩), .pointer (some ⟨p.gy, 0, none⟩)] 44)).alloc (.cells #[.int .i64 5, vE, vA, vB, vK, vL, vS, vJ] 39)).heap[w.heap.size + 1]? = some (.cells #[.int .i64 5, vE, vA, vB, vK, vL, vS, vJ] 39 (0, 0)) := heap_alloc2_new w _ _
  have hpa := hp.frm f0 (fun _ _ s => s)
  have hva : Hid (∀ k, w.heap.size ≤ k → ¬ (k = p.gx ∨ p.vx.ownBlock = some k)) := by
    intro k hk hs
    rcases hs with hs | hs
    · omega
    · have := owns_lt hp.x.own hs; omega
  have hsl := standTo_len p.n p.tk p.n.toNat
  have hn64 := hp.ok.hi
  go_enter Try.func9, Try.ntmps9
  go_wp2_with fail
  refine (poolStanding_any _ p.gx p.n p.tk p.vx hpa.x hp.ok).mono ?_
  rintro r w1 ⟨l1, rfl, o1, f1, q1⟩
  have c41 := cell_of_row w1 w.heap.size 1 _ _ _ (f1.keep ha1 (fun s => s))
  have hY1 := hpa.y.no f1
  obtain ⟨ao1, cap1, rfl⟩ := owns_shape o1
  clear ha1 ha2
  go_wp2_with fail
  refine (refStanding_any _ p.gy p.n p.tk p.vt mid0 p.jl p.vj p.last hY1 hp.ok).mono ?_
  rintro r w2 ⟨l2, rfl, o2, f2, q2⟩
  obtain ⟨ao2, cap2, rfl⟩ := owns_shape o2
  have o1' := f2.owns o1 (fun _ _ s => s)
  go_wp2_with fail
  refine (same_any _ ao1 ao2 cap1 cap2 _ (owns_slice_rd o1' rfl) (owns_slice_rd o2 rfl) (by omega)).mono ?_
  rintro r w3 ⟨rfl, f3⟩
  have o1'' := f3.owns o1' (fun _ _ s => s)
  have f13 := f2.then f3
  have hwa : w.heap.size ≤ ((w.alloc (.cells #[.pointer (some ⟨p.gx, 0, none⟩), .pointer (some ⟨p.gy, 0, none⟩)] 44)).alloc (.cells #[.int .i64 5, vE, vA, vB, vK, vL, vS, vJ] 39)).heap.size := f0.size
  have f03 := f0.then (f1.then f13)
  have hI := h.no f03
  have hq : ∀ k, (Value.slice ao1 (standTo p.n p.tk p.n.toNat).length cap1).ownBlock = some k → w.heap.size ≤ k := fun k hk => Nat.le_trans hwa (q1 k hk)
  have hdk : ∀ k, (Value.slice ao1 (standTo p.n p.tk p.n.toNat).length cap1).ownBlock = some k → vkn.ownBlock ≠ some k := by
    intro k hk hs
    have := hq k hk
    have := owns_lt h.wb.ownK hs
    omega
  have c0 := cell_of_row w3 g 0 _ _ _ hI.wb.blk
  have HQ := show Hid _ from hq
  have HD := show Hid _ from hdk
  clear hq hdk q1 q2
  go_wp2_with fail
  refine (numbers_any _ g vl vns vkn es _ _ hI.wb o1'' HD.out (by omega) hb).mono ?_
  rintro r w4 ⟨rfl, hNP⟩
  go_wp2
  go_ret
  refine ⟨rfl, ?_⟩
  obtain ⟨own', vns', vkn', new, hfin, hlen⟩ := h.list f03 HQ.out hNP
  exact ⟨new, ⟨own', vl, vns', vkn', hfin⟩, hlen⟩
end Go.Proofs.Ytinadpanpnenjaa
