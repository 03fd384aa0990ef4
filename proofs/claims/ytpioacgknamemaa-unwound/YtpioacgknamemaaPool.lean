/- A pool in memory: what its blocks are; a place more is taken, one is given back. -/
import Derived.Test.YtpioacgknamemaaTake
namespace Go.Proofs.Ytpioacgknamemaa
open Go Go.RowKit

/-- A pool's blocks lie in O. -/
structure Own (O : Nat → Prop) (g : Nat) (tkv rwv : Value) (rs : List (Value × List Int)) : Prop where
  g : O g
  tk : ∀ k, tkv.ownBlock = some k → O k
  rw' : ∀ k, rwv.ownBlock = some k → O k
  rows : ∀ (i : Nat) (v : Value) (row : List Int) (k : Nat), rs[i]? = some (v, row) → v.ownBlock = some k → O k
def Ext (O : Nat → Prop) (w : World) (k : Nat) : Prop := O k ∨ w.heap.size ≤ k

section
variable {O : Nat → Prop} {w wd w1 : World} {g : Nat} {tkv rwv : Value} {tk : List Int} {rs : List (Value × List Int)} {asked : Int}

theorem PoolX.gtk (h : PoolX w g tkv rwv tk rs asked) : tkv.ownBlock ≠ some g := owns_ne h.tk h.blk (by decide)
theorem PoolX.grw (h : PoolX w g tkv rwv tk rs asked) : rwv.ownBlock ≠ some g := owns_ne h.rw' h.blk (by decide)
theorem PoolX.grow (h : PoolX w g tkv rwv tk rs asked) {i : Nat} {v : Value} {row : List Int} (hi : rs[i]? = some (v, row)) : v.ownBlock ≠ some g := owns_ne (h.rows i v row hi) h.blk (by decide)
theorem PoolX.gl (h : PoolX w g tkv rwv tk rs asked) : g < w.heap.size := lt_of_block h.blk
theorem PoolX.tkrw (h : PoolX w g tkv rwv tk rs asked) {k : Nat} (hk : tkv.ownBlock = some k) : rwv.ownBlock ≠ some k := fun e => by
  obtain ⟨c, hc⟩ := owns_type h.tk hk
  exact owns_ne h.rw' hc (by decide) e
theorem PoolX.rowrw (h : PoolX w g tkv rwv tk rs asked) {i : Nat} {v : Value} {row : List Int} (hi : rs[i]? = some (v, row)) {k : Nat} (hk : v.ownBlock = some k) : rwv.ownBlock ≠ some k := fun e => by
  obtain ⟨c, hc⟩ := owns_type (h.rows i v row hi) hk
  exact owns_ne h.rw' hc (by decide) e

theorem setCell_set {w : World} {g i : Nat} {cs : Array Value} {t : TypeId} (v : Value) (h : w.heap[g]? = some (.cells cs t)) : (w.setCell ⟨g, i, none⟩ v).heap[g]? = some (.cells (cs.setIfInBounds i v) t) := by
  have := heap_setCell_same w g i _ _ v h
  simpa using this

/-- The list of what was taken has turned into tkv', in blocks that are its own, or new. -/
theorem PoolX.putTk (h : PoolX w g tkv rwv tk rs asked) {tkv' : Value} {tk' : List Int} (hF : Frm (fun k => tkv.ownBlock = some k) w w1) (ho : w1.ownsRow 0 3 1 tkv' tk'.length (tk'.map (Value.int .i64))) (hn : ∀ k, tkv'.ownBlock = some k → tkv.ownBlock = some k ∨ w.heap.size ≤ k) :
    PoolX (w1.setCell ⟨g, 0, none⟩ tkv') g tkv' rwv tk' rs asked := by
  have hF2 : Frm (fun k => k = g) w1 (w1.setCell ⟨g, 0, none⟩ tkv') := (Frm.refl (fun k => k = g) w1).setCell (p := ⟨g, 0, none⟩) (.inl rfl) _
  have hgl := h.gl
  refine ⟨?_, hF2.owns ho (fun k hk e => ?_), hF2.owns (hF.owns h.rw' (fun k hk e => h.tkrw e hk)) (fun k hk e => h.grw (e ▸ hk)), fun i v row hi => hF2.owns (hF.owns (h.rows i v row hi) (fun k hk e => h.sept i v row k hi hk e)) (fun k hk e => h.grow hi (e ▸ hk)), h.sep, fun i v row k hi hk e => ?_⟩
  · have := setCell_set tkv' (hF.keep h.blk h.gtk) (i := 0)
    simpa using this
  · subst e
    rcases hn k hk with q | q
    · exact h.gtk q
    · omega
  · rcases hn k e with q | q
    · exact h.sept i v row k hi hk q
    · have := owns_lt (h.rows i v row hi) hk
      omega

/-- The list of rows has turned into rwv'; its rows are rs'. -/
theorem PoolX.putRw (h : PoolX w g tkv rwv tk rs asked) {S : Nat → Prop} {rwv' : Value} {rs' : List (Value × List Int)} (hF : Frm S w w1) (hSg : ¬ S g) (hSt : ∀ k, tkv.ownBlock = some k → ¬ S k)
    (ho : w1.ownsRow 0 22 1 rwv' rs'.length (rs'.map (·.1))) (hr : ∀ (i : Nat) (v : Value) (row : List Int), rs'[i]? = some (v, row) → w1.ownsRow 0 3 1 v row.length (row.map (Value.int .i64)))
    (hrg : ∀ (i : Nat) (v : Value) (row : List Int), rs'[i]? = some (v, row) → v.ownBlock ≠ some g) (hwg : rwv'.ownBlock ≠ some g)
    (hsep : ∀ (i j : Nat) (v v' : Value) (row row' : List Int) (b : Nat), rs'[i]? = some (v, row) → rs'[j]? = some (v', row') → v.ownBlock = some b → v'.ownBlock = some b → i = j)
    (hsept : ∀ (i : Nat) (v : Value) (row : List Int) (b : Nat), rs'[i]? = some (v, row) → v.ownBlock = some b → tkv.ownBlock ≠ some b) :
    PoolX (w1.setCell ⟨g, 1, none⟩ rwv') g tkv rwv' tk rs' asked := by
  have hF2 : Frm (fun k => k = g) w1 (w1.setCell ⟨g, 1, none⟩ rwv') := (Frm.refl (fun k => k = g) w1).setCell (p := ⟨g, 1, none⟩) (.inl rfl) _
  refine ⟨?_, hF2.owns (hF.owns h.tk hSt) (fun k hk e => h.gtk (e ▸ hk)), hF2.owns ho (fun k hk e => hwg (e ▸ hk)), fun i v row hi => hF2.owns (hr i v row hi) (fun k hk e => hrg i v row hi (e ▸ hk)), hsep, hsept⟩
  have := setCell_set rwv' (hF.keep h.blk hSg) (i := 1)
  simpa using this

theorem getElem?_snoc {α : Type} {l : List α} {x y : α} {i : Nat} (h : (l ++ [x])[i]? = some y) : l[i]? = some y ∨ (i = l.length ∧ y = x) := by
  by_cases hi : i < l.length
  · rw [List.getElem?_append_left hi] at h; exact .inl h
  · rw [List.getElem?_append_right (by omega)] at h
    have : i - l.length = 0 := by
      have := (List.getElem?_eq_some_iff.1 h).1
      simp at this
      omega
    rw [this] at h
    simp at h
    exact .inr ⟨by omega, h.symm⟩

/-- A row more. -/
theorem PoolX.pushRow (h : PoolX w g tkv rwv tk rs asked) {l rwv' : Value} {row' : List Int} {o : Obj} (hN : NewList w wd l row') (hA : App (wd.alloc o) w1 22 1 rwv rwv' rs.length 1 (rs.map (·.1)) [l]) :
    PoolX (w1.setCell ⟨g, 1, none⟩ rwv') g tkv rwv' tk (rs ++ [(l, row')]) asked := by
  obtain ⟨hl, hF, hln⟩ := hN
  have hz := hF.size
  have hgl := h.gl
  have hF1 : Frm (fun k => rwv.ownBlock = some k) w w1 := ((hF.alloc o).ofNo).grown hA.grown (fun k hk => .inl hk)
  have hlw : ∀ k, l.ownBlock = some k → rwv.ownBlock ≠ some k := fun k hk e => by have := hln k hk; have := owns_lt h.rw' e; omega
  have hl1 : w1.ownsRow 0 3 1 l row'.length (row'.map (Value.int .i64)) := (((Frm.refl (fun k => rwv.ownBlock = some k) wd).alloc o).grown hA.grown (fun k hk => .inl hk)).owns hl hlw
  refine h.putRw hF1 h.grw (fun k hk e => h.tkrw hk e) ?_ (fun i v row hi => ?_) (fun i v row hi e => ?_) (fun e => ?_) (fun i j v v' r r' b hi hj hb hb' => ?_) (fun i v row b hi hb e => ?_)
  · have := hA.own
    simpa using this
  · rcases getElem?_snoc hi with hi | ⟨_, e⟩
    · exact hF1.owns (h.rows i v row hi) (fun k hk e => h.rowrw hi hk e)
    · cases e; exact hl1
  · rcases getElem?_snoc hi with hi | ⟨_, e2⟩
    · exact h.grow hi e
    · cases e2
      have := hln g e
      omega
  · rcases hA.new g e with q | q
    · exact h.grw q
    · simp at q
      omega
  · rcases getElem?_snoc hi with hi | ⟨hi, e⟩ <;> rcases getElem?_snoc hj with hj | ⟨hj, e'⟩
    · exact h.sep i j v v' r r' b hi hj hb hb'
    · cases e'
      have := hln b hb'
      have := owns_lt (h.rows i v r hi) hb
      omega
    · cases e
      have := hln b hb
      have := owns_lt (h.rows j v' r' hj) hb'
      omega
    · omega
  · rcases getElem?_snoc hi with hi | ⟨hi, e2⟩
    · exact h.sept i v row b hi hb e
    · cases e2
      have := hln b hb
      have := owns_lt h.tk e
      omega
end
end Go.Proofs.Ytpioacgknamemaa
