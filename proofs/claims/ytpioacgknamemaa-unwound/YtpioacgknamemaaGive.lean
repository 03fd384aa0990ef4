/- A place is given, alone: none was taken. -/
import Derived.Test.YtpioacgknamemaaStand
import Derived.Deep.RegionLaw
namespace Go.Proofs.Ytpioacgknamemaa
open Go.RowKit

/-- What a pool's Give leaves where none was taken. -/
structure Gave (w w' : World) (g : Nat) (rwv v : Value) (row : List Int) (asked : Int) (v' : Value) : Prop where
  pool : PoolX w' g (.slice none 0 0) rwv [] [(v', row ++ [(row.length : Int)])] asked
  frm : Frm (fun k => rwv.ownBlock = some k ∨ v.ownBlock = some k) w w'
  new : ∀ k, v'.ownBlock = some k → v.ownBlock = some k ∨ w.heap.size ≤ k

/-- An append in a region that draws its order. -/
theorem step_app {P : Program} (w : World) {ops : Array Oper} {o : Oper} {a : Act} {K : Act → World → Prop} {Q : Exit → Act → World → Prop} {E : Prop} (hgd : o.guard = none) (s x : Operand) (t : TypeId)
    (ho : o.op = .call { callee := .builtin .append, args := #[s, x], argTypes := #[t, t] })
    (e : TypeId) (z : Value) (size bytes : Nat) (ht : P.underlying t = some (.slice e)) (hinfo : (P.info? e).map (fun i => (i.zero, i.size, i.bytes)) = some (some z, size, bytes))
    (hzs : z.cells.size = size) (hsz : 0 < size)
    (v : Value) (n : Nat) (xs : List Value) (hs : a.eval s = v) (hown : w.ownsRow 0 e size v n xs)
    (ao : Option Addr) (m c : Nat) (news : List Value) (hx : a.eval x = .slice ao m c) (hsrc : SrcOk w ao size m news) (hc : ao = none → c = 0)
    (h63 : n + m ≤ maxLen) (hbytes : (n + m) * bytes ≤ 140737488355328)
    (h : ∀ v' w', App w w' e size v v' n m xs news → K (a.put o.dst v') w') :
    if Region.wanted o (yielded ops a.tmps) = true then Oper.wp P o a w K Q else E := by
  have hw : Region.wanted o (yielded ops a.tmps) = true := by simp [Region.wanted, hgd]
  rw [if_pos hw]
  obtain ⟨i, hi, hz, hsize, hby⟩ := info_parts hinfo
  obtain ⟨v', w', hr, hA⟩ := run_app (P := P) w t o.type e i z size bytes ht hi hz hsize hby hzs hsz v n xs hown ao m c news hsrc hc h63 hbytes
  unfold Oper.wp execOp
  simp only [ho, resolve, invoke, builtin, Sem.run_bind, Sem.run_pure, Result.andThen_ok, List.map_toArray, List.map_cons, List.map_nil, hs, hx, hr]
  exact h v' w' hA

/-- What lies behind the store. -/
theorem gave_ok {w wd w1 : World} {g rb cap : Nat} {v v1 : Value} {row : List Int} {asked : Int} {cur : Array Value} (h : PoolX w g (.slice none 0 0) (.slice (some ⟨rb, 0, none⟩) 1 cap) [] [(v, row)] asked) (hd : Frm NoB w wd) {o : Obj}
    (hA : App (wd.alloc o) w1 3 1 v v1 row.length 1 (row.map (Value.int .i64)) [.int .i64 row.length]) (hnr : v.ownBlock ≠ some rb) (hng : v.ownBlock ≠ some g) (hrg : rb ≠ g) (hgg : w.heap[rb]? = some (.cells cur 22)) :
    Gave w (w1.setCell ⟨rb, 0, none⟩ v1) g (.slice (some ⟨rb, 0, none⟩) 1 cap) v row asked v1 := by
  have hF : Frm (fun k => (Value.slice (some ⟨rb, 0, none⟩) 1 cap).ownBlock = some k ∨ v.ownBlock = some k) w w1 := ((hd.alloc o).ofNo (S := fun k => (Value.slice (some ⟨rb, 0, none⟩) 1 cap).ownBlock = some k ∨ v.ownBlock = some k)).grown hA.grown (fun k hk => .inl (.inr hk))
  have hF2 := hF.setCell (p := ⟨rb, 0, none⟩) (.inl (.inl rfl)) v1
  have hgl : g < w.heap.size := lt_of_block h.blk
  have hrl : rb < w.heap.size := lt_of_block hgg
  have hn1 : ∀ k, v1.ownBlock = some k → v.ownBlock = some k ∨ w.heap.size ≤ k := fun k hk => by
    rcases hA.new k hk with q | q
    · exact .inl q
    · have := hd.size
      simp at q
      exact .inr (by omega)
  have hv1 : v1.ownBlock ≠ some rb := fun e => by
    rcases hn1 rb e with q | q
    · exact hnr q
    · omega
  have hrw : w1.ownsRow 0 22 1 (.slice (some ⟨rb, 0, none⟩) 1 cap) 1 [v] := by
    have h' := h.rw'
    rcases h'.2 with ⟨hn, _⟩ | ⟨rb', cap', cur', e, hb, hgg', rest⟩
    · simp at hn
    · cases e
      rw [hgg] at hgg'
      cases hgg'
      exact ⟨rfl, .inr ⟨rb, cap, cur, rfl, hb, hA.keep ((Below.heap_alloc _ _ _ (by have := hd.size; omega)).trans (hd.keep hgg (fun s => s))) hnr, rest⟩⟩
  have hst := hrw.stored 0 v1
  refine ⟨⟨?_, World.ownsRow_nil _ _ _ _, ?_, fun i v' r hi => ?_, fun i j a b r1 r2 k hi hj _ _ => ?_, fun i a r k _ _ hk => by simp [Value.ownBlock] at hk⟩, hF2, hn1⟩
  · refine hF2.keep h.blk ?_
    rintro (q | q)
    · simp [Value.ownBlock] at q; exact hrg q
    · exact hng q
  · simpa using hst.1
  · cases i with
    | zero =>
      simp only [List.getElem?_cons_zero, Option.some.injEq, Prod.mk.injEq] at hi
      obtain ⟨rfl, rfl⟩ := hi
      have := ((Frm.refl (fun k => k = rb) w1).setCell (p := ⟨rb, 0, none⟩) (.inl rfl) v1).owns hA.own (fun k hk e => hv1 (e ▸ hk))
      simpa using this
    | succ i => simp at hi
  · have : i < 1 := by have := (List.getElem?_eq_some_iff.1 hi).1; simpa using this
    have : j < 1 := by have := (List.getElem?_eq_some_iff.1 hj).1; simpa using this
    omega

set_option maxRecDepth 100000 in
set_option maxHeartbeats 2000000 in
theorem give_new (w : World) (g : Nat) (rwv v : Value) (row : List Int) (asked : Int) (h : PoolX w g (.slice none 0 0) rwv [] [(v, row)] asked) (h1 : 1 ≤ row.length) (h64 : row.length < 64) :
    Calls Try.prog 18 #[.pointer (some ⟨g, 0, none⟩)] w fun e w' => ∃ v', e = .returned (.tuple #[.int .i64 row.length, .int .i64 0]) ∧ Gave w w' g rwv v row asked v' := by
  have c0 : w.cell? ⟨g, 0, none⟩ = some (.slice none 0 0) := (cell_of_row w g 0 _ _ _ h.blk).trans rfl
  have c1 : w.cell? ⟨g, 1, none⟩ = some rwv := (cell_of_row w g 1 _ _ _ h.blk).trans rfl
  have hS := h.setR (by simp)
  have hv := h.rows 0 v row rfl
  have hrw := h.rw'
  have hgl : g < w.heap.size := lt_of_block h.blk
  obtain ⟨rb, cap, cur, rfl, hbb, hgg, hnc, hcm, hcs, htake⟩ : ∃ rb cap cur, rwv = .slice (some ⟨rb, 0, none⟩) 1 cap ∧ _ := by
    rcases hrw.2 with ⟨_, hn⟩ | ⟨rb, cap, cur, e, h⟩
    · simp at hn
    · exact ⟨rb, cap, cur, e, h⟩
  have hc : w.cell? ⟨rb, 0, none⟩ = some v := by simpa using hrw.cellAt 0 (by simp)
  have hrl : rb < w.heap.size := lt_of_block hgg
  have hrg : rb ≠ g := fun e => owns_ne hrw h.blk (by decide) (by rw [e]; rfl)
  obtain ⟨ao, cv, rfl, hrd, hcv, hle, hmx, hao⟩ := owns_rd hv
  have hvr : ∀ b, (Value.slice ao row.length cv).ownBlock = some b → b ≠ rb ∧ b ≠ g := fun b hb => ⟨fun e => owns_ne hv hgg (by decide) (by rw [hb, e]), fun e => owns_ne hv h.blk (by decide) (by rw [hb, e])⟩
  have hnr : (Value.slice ao row.length cv).ownBlock ≠ some rb := fun hb => (hvr rb hb).1 rfl
  have hng : (Value.slice ao row.length cv).ownBlock ≠ some g := fun hb => (hvr g hb).2 rfl
  have hblk := h.blk
  go_enter Try.func18, Try.ntmps18
  go_wp2_with (go_at_call 31; refine (size_any g [] row [] _ hS).mono ?_; rintro e w' ⟨rfl, rfl⟩)
  go_region_law
    ((refine step_app _ (by rfl) _ _ _ (by rfl) 3 (.int .i64 0) 1 8 Try.underlying22 Try.info3 rfl (by decide) (.slice ao row.length cv) row.length (row.map (Value.int .i64)) (by rfl) (by exact hv.alloc _) _ 1 1 [.int .i64 row.length] (by rfl) (by exact src_list _ _ [_] (by simp [Value.oneCell'])) (by simp) (by simp only [maxLen]; omega) (by omega) ?_; intro v1 w1 hA; obtain ⟨ao1, cp1, rfl⟩ := owns_shape hA.own; have hk1 := hA.keep (k := rb) (o := .cells cur 22) ((Below.heap_alloc _ _ _ hrl).trans hgg) hnr; have hf1 := frozen_of_row _ rb 0 _ _ hk1; have hx1 := cell_of_row _ rb 0 _ _ _ hk1; have hx2 := (cell_of_row _ rb 0 _ _ _ hgg).symm.trans hc; rw [hx2] at hx1; clear hx2; have hy1 : w1.cell? ⟨g, 1, none⟩ = some (.slice (some ⟨rb, 0, none⟩) 1 cap) := (cell_of_row _ g 1 _ _ _ (hA.keep ((Below.heap_alloc _ _ _ hgl).trans hblk) hng)).trans rfl))
  all_goals
    go_wp2
    go_ret2
    exact ⟨_, rfl, gave_ok h (Frm.drew (Frm.refl _ _)) hA hnr hng hrg hgg⟩
end Go.Proofs.Ytpioacgknamemaa
