/- A place is taken, alone. -/
import Derived.Test.YtpioacgknamemaaPool
import Derived.Deep.RegionLaw
namespace Go.Proofs.Ytpioacgknamemaa
open Go Go.RowKit

theorem Try.info22 : (Try.prog.info? 22).map (fun i => (i.zero, i.size, i.bytes)) = some (some (.slice none 0 0), 1, 24) := by kernel_rfl

theorem PoolX.drewN {w : World} {g : Nat} {tkv rwv : Value} {tk : List Int} {rs : List (Value × List Int)} {asked : Int} (h : PoolX w g tkv rwv tk rs asked) (q : Nat) : PoolX (w.drewN q) g tkv rwv tk rs asked := ⟨h.blk, h.tk, h.rw', h.rows, h.sep, h.sept⟩

theorem NewList.drew {w w' : World} {l : Value} {xs : List Int} (h : NewList w.drew w' l xs) : NewList w w' l xs := ⟨h.1, ⟨h.2.1.os, h.2.1.tape, h.2.1.output, h.2.1.size, h.2.1.block⟩, h.2.2⟩

/-- What Take leaves. -/
structure Took (O : Nat → Prop) (w w' : World) (g : Nat) (tk : List Int) (rows : List (List Int)) (asked : Int) : Prop where
  ex : ∃ tkv rwv rs, rs.map (·.2) = rows ∧ PoolX w' g tkv rwv tk rs asked ∧ Own (Ext O w) g tkv rwv rs
  frm : Frm O w w'

theorem took_ok {O : Nat → Prop} {w w4 w5 w6 : World} {g : Nat} {tkv tkv' rwv rwv' l : Value} {tk' row' : List Int} {rs' : List (Value × List Int)} {asked : Int} {o : Obj} (hO : Own O g tkv rwv rs') (hF4 : Frm (fun k => k = g ∨ tkv.ownBlock = some k) w w4) (hP4 : PoolX w4 g tkv' rwv tk' rs' asked)
    (hn3 : ∀ k, tkv'.ownBlock = some k → tkv.ownBlock = some k ∨ w.heap.size ≤ k) (hN : NewList w4 w5 l row') (hA : App (w5.alloc o) w6 22 1 rwv rwv' rs'.length 1 (rs'.map (·.1)) [l]) : Took O w (w6.setCell ⟨g, 1, none⟩ rwv') g tk' (rs'.map (·.2) ++ [row']) asked := by
  have hz4 := hF4.size
  have hz5 := hN.2.1.size
  refine ⟨⟨tkv', rwv', rs' ++ [(l, row')], by simp, hP4.pushRow hN hA, ⟨.inl hO.g, fun k hk => ?_, fun k hk => ?_, fun i v row k hi hk => ?_⟩⟩, ?_⟩
  · exact (hn3 k hk).imp (hO.tk k) id
  · rcases hA.new k hk with q | q
    · exact .inl (hO.rw' k q)
    · simp at q; exact .inr (by omega)
  · rcases getElem?_snoc hi with hi | ⟨_, e⟩
    · exact .inl (hO.rows i v row k hi hk)
    · cases e
      have := hN.2.2 k hk
      exact .inr (by omega)
  · have h1 : Frm O w w4 := hF4.mono (fun k _ s => s.elim (fun e => e ▸ hO.g) (hO.tk k))
    have h2 : Frm O w (w5.alloc o) := (h1.trans hN.2.1 (fun _ s => s) (fun _ _ s => s.elim)).alloc o
    exact (h2.grown hA.grown (fun k hk => .inl (hO.rw' k hk))).setCell (p := ⟨g, 1, none⟩) (.inl hO.g) _

set_option maxRecDepth 100000 in
set_option maxHeartbeats 2000000 in
theorem take_push (O : Nat → Prop) (w : World) (g : Nat) (tkv rwv : Value) (tk : List Int) (rs : List (Value × List Int)) (v : Value) (row : List Int) (asked : Int) (h : PoolX w g tkv rwv tk (rs ++ [(v, row)]) asked) (hO : Own O g tkv rwv (rs ++ [(v, row)]))
    (hl : rs.length ≤ 1000) (htl : tk.length ≤ 1000) (h2 : 2 ≤ row.length) (h64 : row.length ≤ 64) (p : Int) (hp : p ∈ row) (hnb : (decide ((tk.length : Int) = 0) && decide (p = (row.length : Int) - 1)) = false) :
    Calls Try.prog 22 #[.pointer (some ⟨g, 0, none⟩), .int .i64 p] w fun e w' => e = .returned (.int .i64 0) ∧ Took O w w' g (tk ++ [p]) ((rs ++ [(v, row)]).map (·.2) ++ [wo row p]) asked := by
  have hv := h.rows rs.length v row (by simp)
  have HD : Hid (decide (p ∈ row) = true) := by show decide _ = true; simp [hp]
  have htk := h.tk
  have c0 : w.cell? ⟨g, 0, none⟩ = some tkv := (cell_of_row w g 0 _ _ _ h.blk).trans rfl
  have f0 : w.frozen? ⟨g, 0, none⟩ = false := frozen_of_row w g 0 _ _ h.blk
  have c1 : w.cell? ⟨g, 1, none⟩ = some rwv := (cell_of_row w g 1 _ _ _ h.blk).trans rfl
  have hgl := h.gl
  have hgt := h.gtk
  obtain ⟨ao, cv, rfl, hrd, hcv, hle, hmx, hao⟩ := owns_rd hv
  obtain ⟨at', ct, rfl, -⟩ := owns_rd htk
  have HB : Hid ((decide ((tk.length : Int) = 0) && decide (p = (row.length : Int) - 1)) = false) := hnb
  clear hnb
  have hblk := h.blk
  have hcase : ((tk.length : Int) = 0 ∧ ¬ p = (row.length : Int) - 1) ∨ (¬ (tk.length : Int) = 0 ∧ ¬ tk = []) := by
    by_cases ht0 : (tk.length : Int) = 0
    · exact .inl ⟨ht0, by have := HB.out; simpa [ht0] using this⟩
    · exact .inr ⟨ht0, fun e => ht0 (by simp [e])⟩
  rcases hcase with ⟨ht0, hne⟩ | ⟨ht0, hne⟩
  all_goals
    go_enter Try.func22, Try.ntmps22
    go_wp2_with (first
      | (go_at_call 29; refine (standing_any _ g _ rwv tk rs _ row asked h hl).mono ?_; rintro e w1 ⟨rfl, q, hw1⟩; obtain rfl := hw1.symm)
      | (go_at_call 35; refine (stands_any _ g _ rwv tk rs _ row asked (h.drewN q) hl (by omega) p).mono ?_; rintro e w2 ⟨rfl, q2, hw2⟩; obtain rfl := hw2.symm; rw [HD.out])
      | (at_builtin; (refine wpList_app _ rfl (.tmp 16) (.tmp 18) 22 rfl 3 (.int .i64 0) 1 8 Try.underlying22 Try.info3 rfl (by decide) (.slice at' tk.length ct) tk.length (tk.map (Value.int .i64)) rfl (by exact World.ownsRow.alloc (w := (w.drewN q).drewN q2) htk _) _ 1 1 [.int .i64 p] rfl (by exact src_list _ _ [_] (by simp [Value.oneCell'])) (by simp) (by simp only [maxLen]; omega) (by omega) ?_; intro tkv' w3 hA3; obtain ⟨at1, ct1, rfl⟩ := owns_shape hA3.own; have hk3 := hA3.keep (k := g) (o := .cells #[.slice at' tk.length ct, rwv, .int .u64 asked, .int .i64 6, .slice none 0 0, .int .i64 0] 56) ((Below.heap_alloc _ _ _ hgl).trans hblk) hgt; have c3 := (cell_of_row _ g 0 _ _ _ hk3).trans rfl; have f3 := frozen_of_row _ g 0 _ _ hk3)))
    have hF3 : Frm (fun k => (Value.slice at' tk.length ct).ownBlock = some k) w w3 := (((Frm.refl (fun k => (Value.slice at' tk.length ct).ownBlock = some k) w).drewN (q + q2)).alloc _).grown hA3.grown (fun k hk => .inl hk)
    have hn3 : ∀ k, (Value.slice at1 (tk.length + 1) ct1).ownBlock = some k → (Value.slice at' tk.length ct).ownBlock = some k ∨ w.heap.size ≤ k := fun k hk => by
      rcases hA3.new k hk with q | q
      · exact .inl q
      · simp at q; exact .inr (by omega)
    have ho3 : w3.ownsRow 0 3 1 (.slice at1 (tk.length + 1) ct1) (tk ++ [p]).length ((tk ++ [p]).map (Value.int .i64)) := by have := hA3.own; simpa using this
    have hP4 := h.putTk hF3 ho3 hn3
    have hF4 : Frm (fun k => k = g ∨ (Value.slice at' tk.length ct).ownBlock = some k) w (w3.setCell ⟨g, 0, none⟩ (.slice at1 (tk.length + 1) ct1)) := (hF3.mono (fun k _ s => .inr s)).setCell (p := ⟨g, 0, none⟩) (.inl (.inl rfl)) _
    clear hA3 hk3 c3 f3 c0 f0 c1 htk hblk ho3 HB
    generalize hw4 : w3.setCell ⟨g, 0, none⟩ (.slice at1 (tk.length + 1) ct1) = w4 at *
    have hv4 := hP4.rows rs.length (.slice ao row.length cv) row (by simp)
    have hblk4 := hP4.blk
    have hgl4 := hP4.gl
    have hrw4 := hP4.rw'
    have hgw4 := hP4.grw
    obtain ⟨L, HL⟩ : ∃ L, Hid ((rs ++ [(Value.slice ao row.length cv, row)]).length = L) := ⟨_, rfl⟩
    have hL : L ≤ 1001 := by have := HL.out; simp at this; omega
    rw [HL.out] at hrw4
    obtain ⟨aw, cw, rfl⟩ := owns_shape hrw4
    have c14 : w4.cell? ⟨g, 1, none⟩ = some (.slice aw L cw) := (cell_of_row _ g 1 _ _ _ hblk4).trans rfl
    go_region_law (first
      | (go_simp; go_at_call 36; refine (without_any _ (.slice ao row.length cv) row p (by exact hv4) h2 h64 hp).mono ?_; rintro e w5 ⟨l, rfl, hN⟩; obtain ⟨al, cl, rfl⟩ := owns_shape hN.1; replace hN := hN.drew; have hrw5 := hN.2.1.owns hrw4 (fun _ _ s => s); have hk5 := hN.2.1.keep hblk4 (fun s => s); have c15 : w5.cell? ⟨g, 1, none⟩ = some (.slice aw L cw) := (cell_of_row _ g 1 _ _ _ hk5).trans rfl; have hg5 := lt_of_block hk5; have ca5 : ∀ o, (w5.alloc o).cell? ⟨g, 1, none⟩ = some (.slice aw L cw) := fun o => (World.cell?_alloc_lt w5 o _ hg5).trans c15; dsimp only)
      | (refine step_app _ (by rfl) _ _ _ (by rfl) 22 (.slice none 0 0) 1 24 Try.underlying44 Try.info22 rfl (by decide) (.slice aw L cw) L _ (by rfl) (by exact hrw5.alloc _) _ 1 1 [.slice al (wo row p).length cl] (by rfl) (by exact src_list _ _ [_] (by simp [Value.oneCell'])) (by simp) (by simp only [maxLen]; omega) (by omega) ?_; intro rwv' w6 hA6; obtain ⟨aw6, cw6, rfl⟩ := owns_shape hA6.own; have hk6 := hA6.keep ((Below.heap_alloc _ _ _ (lt_of_block hk5)).trans hk5) hgw4; have f16 := frozen_of_row _ g 1 _ _ hk6; have c16 := (cell_of_row _ g 1 _ _ _ hk6).trans rfl))
    all_goals
      go_wp2
      go_ret
      exact ⟨rfl, took_ok hO hF4 hP4 hn3 hN (by rw [HL.out]; exact hA6)⟩
end Go.Proofs.Ytpioacgknamemaa
