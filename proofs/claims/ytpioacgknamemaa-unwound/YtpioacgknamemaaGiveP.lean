/- The last place goes; places are given, alone. -/
import Derived.Test.YtpioacgknamemaaTakeP
namespace Go.Proofs.Ytpioacgknamemaa
open Go Go.RowKit

section
variable {O : Nat → Prop} {w w1 : World} {g rb cap : Nat} {tkv rwv v v' : Value} {tk row row' : List Int} {rs : List (Value × List Int)} {asked : Int}

theorem PoolX.rows1 (h : PoolX w g tkv rwv tk [(v, row)] asked) : ∃ rb cap cur, rwv = .slice (some ⟨rb, 0, none⟩) 1 cap ∧ w.heap[rb]? = some (.cells cur 22) ∧ w.cell? ⟨rb, 0, none⟩ = some v ∧ rb ≠ g ∧ v.ownBlock ≠ some rb := by
  have hrw := h.rw'
  rcases hrw.2 with ⟨_, hn⟩ | ⟨rb, cap, cur, rfl, hbb, hgg, _⟩
  · simp at hn
  · exact ⟨rb, cap, cur, rfl, hgg, by simpa using hrw.cellAt 0 (by simp), fun e => h.grw (by rw [e]; rfl), fun e => h.rowrw (i := 0) rfl e rfl⟩

/-- The one row has turned. -/
theorem PoolX.setRow0 (h : PoolX w g tkv (.slice (some ⟨rb, 0, none⟩) 1 cap) tk [(v, row)] asked) (hF : Frm (fun k => v.ownBlock = some k) w w1) (ho : w1.ownsRow 0 3 1 v' row'.length (row'.map (Value.int .i64))) (hn : ∀ k, v'.ownBlock = some k → v.ownBlock = some k ∨ w.heap.size ≤ k) :
    PoolX (w1.setCell ⟨rb, 0, none⟩ v') g tkv (.slice (some ⟨rb, 0, none⟩) 1 cap) tk [(v', row')] asked := by
  have hrb : rb < w.heap.size := owns_lt h.rw' rfl
  have hF2 : Frm (fun k => k = rb) w1 (w1.setCell ⟨rb, 0, none⟩ v') := (Frm.refl (fun k => k = rb) w1).setCell (p := ⟨rb, 0, none⟩) (.inl rfl) _
  have hrg : rb ≠ g := fun e => h.grw (by rw [e]; rfl)
  have hvr : v.ownBlock ≠ some rb := fun e => h.rowrw (i := 0) rfl e rfl
  have hrw1 := hF.owns h.rw' (fun k hk e => h.rowrw (i := 0) rfl e hk)
  refine ⟨hF2.keep (hF.keep h.blk (h.grow (i := 0) rfl)) (fun e => hrg e.symm), hF2.owns (hF.owns h.tk (fun k hk e => h.sept 0 v row k rfl e hk)) (fun k hk e => h.tkrw hk (by rw [e]; rfl)), ?_, fun i a r hi => ?_, fun i j a b r1 r2 k hi hj _ _ => ?_, fun i a r k hi hk e => ?_⟩
  · have := (hrw1.stored 0 v').1
    simpa using this
  · cases i with
    | zero =>
      simp only [List.getElem?_cons_zero, Option.some.injEq, Prod.mk.injEq] at hi
      obtain ⟨rfl, rfl⟩ := hi
      refine hF2.owns ho (fun k hk e => ?_)
      subst e
      rcases hn k hk with q | q
      · exact hvr q
      · omega
    | succ i => simp at hi
  · have : i < 1 := by have := (List.getElem?_eq_some_iff.1 hi).1; simpa using this
    have : j < 1 := by have := (List.getElem?_eq_some_iff.1 hj).1; simpa using this
    omega
  · cases i with
    | zero =>
      simp only [List.getElem?_cons_zero, Option.some.injEq, Prod.mk.injEq] at hi
      obtain ⟨rfl, rfl⟩ := hi
      rcases hn k hk with q | q
      · exact h.sept 0 v row k rfl q e
      · have := owns_lt h.tk e
        omega
    | succ i => simp at hi

theorem took_row0 (h : PoolX w g tkv (.slice (some ⟨rb, 0, none⟩) 1 cap) tk [(v, row)] asked) (hO : Own O g tkv (.slice (some ⟨rb, 0, none⟩) 1 cap) [(v, row)]) (hF : Frm (fun k => v.ownBlock = some k) w w1) (ho : w1.ownsRow 0 3 1 v' row'.length (row'.map (Value.int .i64))) (hn : ∀ k, v'.ownBlock = some k → v.ownBlock = some k ∨ w.heap.size ≤ k) :
    Took O w (w1.setCell ⟨rb, 0, none⟩ v') g tk [row'] asked := by
  refine ⟨⟨tkv, _, [(v', row')], rfl, h.setRow0 hF ho hn, ⟨.inl hO.g, fun k hk => .inl (hO.tk k hk), fun k hk => .inl (hO.rw' k hk), fun i a r k hi hk => ?_⟩⟩, ?_⟩
  · cases i with
    | zero =>
      simp only [List.getElem?_cons_zero, Option.some.injEq, Prod.mk.injEq] at hi
      obtain ⟨rfl, rfl⟩ := hi
      exact (hn k hk).imp (hO.rows 0 v row k rfl) id
    | succ i => simp at hi
  · exact (hF.mono (fun k _ s => hO.rows 0 v row k rfl s)).setCell (p := ⟨rb, 0, none⟩) (.inl (hO.rw' rb rfl)) _

theorem upto_take (n : Nat) : (upto (n + 1)).map (Value.int .i64) = (upto n).map (Value.int .i64) ++ [.int .i64 (n : Int)] := by simp [upto, List.range_succ]

set_option maxRecDepth 100000 in
set_option maxHeartbeats 2000000 in
theorem take_shrink (O : Nat → Prop) (w : World) (g : Nat) (tkv rwv v : Value) (n : Nat) (asked : Int) (h : PoolX w g tkv rwv [] [(v, upto (n + 1))] asked) (hO : Own O g tkv rwv [(v, upto (n + 1))]) (h1 : 1 ≤ n) (h64 : n + 1 ≤ 64) :
    Calls Try.prog 22 #[.pointer (some ⟨g, 0, none⟩), .int .i64 n] w fun e w' => e = .returned (.int .i64 0) ∧ Took O w w' g [] [upto n] asked := by
  have hul := upto_length (n + 1)
  have HD : Hid (decide ((n : Int) ∈ upto (n + 1)) = true) := by show decide _ = true; simp [upto_mem]; omega
  obtain ⟨rb, cap, cur, rfl, hgg, hcr, hrg, hvr⟩ := h.rows1
  have c0 : w.cell? ⟨g, 0, none⟩ = some tkv := (cell_of_row w g 0 _ _ _ h.blk).trans rfl
  have c1 : w.cell? ⟨g, 1, none⟩ = some (.slice (some ⟨rb, 0, none⟩) 1 cap) := (cell_of_row w g 1 _ _ _ h.blk).trans rfl
  have hv := h.rows 0 v _ rfl
  rw [hul] at hv
  obtain ⟨vb, cv, rfl⟩ : ∃ vb cv, v = .slice (some ⟨vb, 0, none⟩) (n + 1) cv := by
    rcases hv.2 with ⟨rfl, hn⟩ | ⟨g, cap, cur, rfl, _⟩
    · omega
    · exact ⟨g, cap, rfl⟩
  have hcv : n ≤ cv := by
    rcases hv.2 with ⟨e, hn⟩ | ⟨_, _, _, e, _, _, hnc, _⟩
    · simp at hn
    · cases e; omega
  obtain ⟨at', ct, rfl, -⟩ := owns_rd h.tk
  have fr := frozen_of_row w rb 0 _ _ hgg
  go_enter Try.func22, Try.ntmps22
  go_wp2_with (first
      | (go_at_call 29; refine (standing_any _ g _ _ [] [] _ (upto (n + 1)) asked h (by simp)).mono ?_; rintro e w1 ⟨rfl, q, hw1⟩; obtain rfl := hw1.symm)
      | (go_at_call 35; refine (stands_any _ g _ _ [] [] _ (upto (n + 1)) asked (h.drewN q) (by simp) (by omega) n).mono ?_; rintro e w2 ⟨rfl, q2, hw2⟩; obtain rfl := hw2.symm; rw [HD.out]))
  go_region_held3 (fun w' => w'.cell? ⟨g, 1, none⟩ = some (.slice (some ⟨rb, 0, none⟩) 1 cap)) (go_keep) (fail)
  all_goals
    go_wp2
    go_ret
    refine ⟨rfl, took_row0 (w1 := _) h hO ?_ ?_ (fun k hk => .inl hk)⟩
    · exact (Frm.refl _ _).drewN _
    · rw [upto_length]
      rw [upto_take] at hv
      have := owns_take hv
      simp only [List.length_map, upto_length] at this
      exact this

/-- What was taken last is given back: memory. -/
theorem took_pop {tb ct wb cw : Nat} {tk0 : List Int} {p : Int} {rs0 : List (Value × List Int)} (h : PoolX w g (.slice (some ⟨tb, 0, none⟩) (tk0.length + 1) ct) (.slice (some ⟨wb, 0, none⟩) (rs0.length + 1) cw) (tk0 ++ [p]) (rs0 ++ [(v, row)]) asked)
    (hO : Own O g (.slice (some ⟨tb, 0, none⟩) (tk0.length + 1) ct) (.slice (some ⟨wb, 0, none⟩) (rs0.length + 1) cw) (rs0 ++ [(v, row)])) :
    Took O w ((w.setCell ⟨g, 0, none⟩ (.slice (some ⟨tb, 0, none⟩) tk0.length ct)).setCell ⟨g, 1, none⟩ (.slice (some ⟨wb, 0, none⟩) rs0.length cw)) g tk0 (rs0.map (·.2)) asked := by
  have ht := h.tk
  simp only [List.length_append, List.length_cons, List.length_nil, Nat.zero_add, List.map_append, List.map_cons, List.map_nil] at ht
  have ht' := owns_take ht
  rw [List.length_map] at ht'
  have hP := h.putTk (Frm.refl _ w) ht' (fun k hk => .inl hk)
  have hw := hP.rw'
  simp only [List.length_append, List.length_cons, List.length_nil, Nat.zero_add, List.map_append, List.map_cons, List.map_nil] at hw
  have hw' := owns_take hw
  rw [List.length_map] at hw'
  have old : ∀ {i : Nat} {x : Value × List Int}, rs0[i]? = some x → (rs0 ++ [(v, row)])[i]? = some x := fun {i x} hi => by
    rw [List.getElem?_append_left (List.getElem?_eq_some_iff.1 hi).1]; exact hi
  have hP2 := hP.putRw (Frm.refl NoB _) (fun s => s) (fun _ _ s => s) hw' (fun i v row hi => hP.rows i v row (old hi)) (fun i v row hi => hP.grow (old hi)) hP.grw (fun i j v v' r r' b hi hj => hP.sep i j v v' r r' b (old hi) (old hj)) (fun i v r b hi => hP.sept i v r b (old hi))
  refine ⟨⟨_, _, rs0, rfl, hP2, ⟨.inl hO.g, fun k hk => .inl (hO.tk k hk), fun k hk => .inl (hO.rw' k hk), fun i v r k hi hk => .inl (hO.rows i v r k (old hi) hk)⟩⟩, ?_⟩
  exact ((Frm.refl O w).setCell (p := ⟨g, 0, none⟩) (.inl hO.g) _).setCell (p := ⟨g, 1, none⟩) (.inl hO.g) _

set_option maxRecDepth 100000 in
set_option maxHeartbeats 2000000 in
theorem give_pop (O : Nat → Prop) (w : World) (g : Nat) (tkv rwv v : Value) (tk0 row : List Int) (p : Int) (rs0 : List (Value × List Int)) (asked : Int) (h : PoolX w g tkv rwv (tk0 ++ [p]) (rs0 ++ [(v, row)]) asked) (hO : Own O g tkv rwv (rs0 ++ [(v, row)])) (hl : rs0.length = tk0.length + 1) (h1 : tk0.length ≤ 1000) :
    Calls Try.prog 18 #[.pointer (some ⟨g, 0, none⟩)] w fun e w' => e = .returned (.tuple #[.int .i64 p, .int .i64 0]) ∧ Took O w w' g tk0 (rs0.map (·.2)) asked := by
  have e1 : (tk0 ++ [p]).length = tk0.length + 1 := by simp
  have e2 : (rs0 ++ [(v, row)]).length = rs0.length + 1 := by simp
  have ht := h.tk
  rw [e1] at ht
  have hw := h.rw'
  rw [e2] at hw
  obtain ⟨tb, ct, rfl⟩ : ∃ g cap, tkv = .slice (some ⟨g, 0, none⟩) (tk0.length + 1) cap := by
    rcases ht.2 with ⟨rfl, hn⟩ | ⟨g, cap, cur, rfl, _⟩
    · omega
    · exact ⟨g, cap, rfl⟩
  obtain ⟨wb, cw, rfl⟩ : ∃ g cap, rwv = .slice (some ⟨g, 0, none⟩) (rs0.length + 1) cap := by
    rcases hw.2 with ⟨rfl, hn⟩ | ⟨g, cap, cur, rfl, _⟩
    · omega
    · exact ⟨g, cap, rfl⟩
  have hct : tk0.length ≤ ct := by
    rcases ht.2 with ⟨e, hn⟩ | ⟨_, _, _, e, _, _, hnc, _⟩
    · cases e
    · cases e; omega
  have hcw : tk0.length + 1 ≤ cw := by
    rcases hw.2 with ⟨e, hn⟩ | ⟨_, _, _, e, _, _, hnc, _⟩
    · cases e
    · cases e; omega
  have HT := show Hid _ from took_pop h hO
  have c0 : w.cell? ⟨g, 0, none⟩ = some (.slice (some ⟨tb, 0, none⟩) (tk0.length + 1) ct) := (cell_of_row w g 0 _ _ _ h.blk).trans rfl
  have c1 : w.cell? ⟨g, 1, none⟩ = some (.slice (some ⟨wb, 0, none⟩) (rs0.length + 1) cw) := (cell_of_row w g 1 _ _ _ h.blk).trans rfl
  have f0 := frozen_of_row w g 0 _ _ h.blk
  have f1 := frozen_of_row w g 1 _ _ h.blk
  have cp : w.cell? ⟨tb, tk0.length, none⟩ = some (.int .i64 p) := by
    have := ht.cellAt tk0.length (by omega)
    simpa [List.getElem?_append_right] using this
  have htg : tb ≠ g := fun e => h.gtk (by rw [e]; rfl)
  have ha := add0 tb tk0.length
  rw [hl] at HT c1
  clear ht hw h hO e1 e2
  go_enter Try.func18, Try.ntmps18
  go_wp2
  go_ret2
  exact ⟨rfl, HT.out⟩

set_option maxHeartbeats 1000000 in
theorem give_full (w : World) (g : Nat) (tkv rwv v : Value) (row : List Int) (asked : Int) (h : PoolX w g tkv rwv [] [(v, row)] asked) (h64 : row.length = 64) :
    Calls Try.prog 18 #[.pointer (some ⟨g, 0, none⟩)] w fun e w' => e = .returned (.tuple #[.int .i64 0, .int .i64 4]) ∧ w' = w := by
  obtain ⟨at', ct, rfl, -⟩ := owns_rd h.tk
  have c0 : w.cell? ⟨g, 0, none⟩ = some (.slice at' 0 ct) := (cell_of_row w g 0 _ _ _ h.blk).trans rfl
  have hS := h.setR (by simp)
  have HL : Hid ((row.length : Int) = 64) := by show _ = _; omega
  clear h
  go_enter Try.func18, Try.ntmps18
  go_wp2_with (go_at_call 31; refine (size_any g [] row [] _ hS).mono ?_; rintro e w' ⟨rfl, hw⟩; obtain rfl := hw.symm; rw [HL.out])
  go_ret2
  exact ⟨rfl, rfl⟩

set_option maxRecDepth 100000 in
set_option maxHeartbeats 2000000 in
theorem give_grow (O : Nat → Prop) (w : World) (g : Nat) (tkv rwv v : Value) (row : List Int) (asked : Int) (h : PoolX w g tkv rwv [] [(v, row)] asked) (hO : Own O g tkv rwv [(v, row)]) (h1 : 1 ≤ row.length) (h64 : row.length < 64) :
    Calls Try.prog 18 #[.pointer (some ⟨g, 0, none⟩)] w fun e w' => e = .returned (.tuple #[.int .i64 row.length, .int .i64 0]) ∧ Took O w w' g [] [row ++ [(row.length : Int)]] asked := by
  obtain ⟨at', ct, rfl, -⟩ := owns_rd h.tk
  have c0 : w.cell? ⟨g, 0, none⟩ = some (.slice at' 0 ct) := (cell_of_row w g 0 _ _ _ h.blk).trans rfl
  have hS := h.setR (by simp)
  have hv := h.rows 0 v row rfl
  have hgl := h.gl
  obtain ⟨rb, cap, cur, rfl, hgg, hc, hrg, hnr⟩ := h.rows1
  have c1 : w.cell? ⟨g, 1, none⟩ = some (.slice (some ⟨rb, 0, none⟩) 1 cap) := (cell_of_row w g 1 _ _ _ h.blk).trans rfl
  have hrl : rb < w.heap.size := lt_of_block hgg
  obtain ⟨ao, cv, rfl, hrd, hcv, hle, hmx, hao⟩ := owns_rd hv
  have hng := h.grow (i := 0) rfl
  have hblk := h.blk
  go_enter Try.func18, Try.ntmps18
  go_wp2_with (go_at_call 31; refine (size_any g [] row [] _ hS).mono ?_; rintro e w' ⟨rfl, hw⟩; obtain rfl := hw.symm)
  go_region_law
    ((refine step_app _ (by rfl) _ _ _ (by rfl) 3 (.int .i64 0) 1 8 Try.underlying22 Try.info3 rfl (by decide) (.slice ao row.length cv) row.length (row.map (Value.int .i64)) (by rfl) (by exact hv.alloc _) _ 1 1 [.int .i64 row.length] (by rfl) (by exact src_list _ _ [_] (by simp [Value.oneCell'])) (by simp) (by simp only [maxLen]; omega) (by omega) ?_; intro v1 w1 hA; obtain ⟨ao1, cp1, rfl⟩ := owns_shape hA.own; have hk1 := hA.keep (k := rb) (o := .cells cur 22) ((Below.heap_alloc _ _ _ hrl).trans hgg) hnr; have hf1 := frozen_of_row _ rb 0 _ _ hk1; have hx1 := cell_of_row _ rb 0 _ _ _ hk1; have hx2 := (cell_of_row _ rb 0 _ _ _ hgg).symm.trans hc; rw [hx2] at hx1; clear hx2; have hy1 : w1.cell? ⟨g, 1, none⟩ = some (.slice (some ⟨rb, 0, none⟩) 1 cap) := (cell_of_row _ g 1 _ _ _ (hA.keep ((Below.heap_alloc _ _ _ hgl).trans hblk) hng)).trans rfl))
  all_goals
    go_wp2
    go_ret2
    refine ⟨rfl, took_row0 h hO (((Frm.drew (Frm.refl _ _)).alloc _).grown hA.grown (fun k hk => .inl hk)) (by simpa using hA.own) (fun k hk => ?_)⟩
    rcases hA.new k hk with q | q
    · exact .inl q
    · simp at q; exact .inr (by omega)
end
end Go.Proofs.Ytpioacgknamemaa
