/- The document's pool in memory: records, what stands, Take, Give, Standing, New. -/
import Derived.Test.YtinadpanpnenjaaSum
import Derived.Test.YtinadpanpnenjaaPure
namespace Go.Proofs.Ytinadpanpnenjaa
open Go.RowKit

/-- What of the document's pool no move turns. -/
structure Mid where
  asked : Value
  flows : Value
  turn : Value
  turns : Value
  now : Value

/-- The document's pool lies in the block g. -/
structure YP (w : World) (g : Nat) (n : Int) (tk : List Int) (vt : Value) (md : Mid) (jl : List Int) (vj : Value) (last : Int) : Prop where
  blk : w.heap[g]? = some (.cells #[.int .i64 n, vt, md.asked, md.flows, md.turn, md.turns, md.now, vj, .int .i64 last] 50 (0, 0))
  ownT : w.ownsRow 0 3 1 vt tk.length (tk.map (Value.int .i64))
  ownJ : w.ownsRow 0 5 1 vj jl.length (jl.map (Value.int .u8))
  rng : 0 ≤ last ∧ last < 4294967296

section
variable {w : World} {g : Nat} {n : Int} {tk : List Int} {vt : Value} {md : Mid} {jl : List Int} {vj : Value} {last : Int}
theorem YP.c0 (h : YP w g n tk vt md jl vj last) : w.cell? ⟨g, 0, none⟩ = some (.int .i64 n) := by rw [cell_of_row w g 0 _ _ _ h.blk]; rfl
theorem YP.c1 (h : YP w g n tk vt md jl vj last) : w.cell? ⟨g, 1, none⟩ = some vt := by rw [cell_of_row w g 1 _ _ _ h.blk]; rfl
theorem YP.c7 (h : YP w g n tk vt md jl vj last) : w.cell? ⟨g, 7, none⟩ = some vj := by rw [cell_of_row w g 7 _ _ _ h.blk]; rfl
theorem YP.c8 (h : YP w g n tk vt md jl vj last) : w.cell? ⟨g, 8, none⟩ = some (.int .i64 last) := by rw [cell_of_row w g 8 _ _ _ h.blk]; rfl
theorem YP.fz (h : YP w g n tk vt md jl vj last) (j : Nat) : w.frozen? ⟨g, j, none⟩ = false := frozen_of_row w g j _ _ h.blk
theorem YP.neT (h : YP w g n tk vt md jl vj last) : vt.ownBlock ≠ some g := owns_ne h.ownT h.blk (by decide)
theorem YP.neJ (h : YP w g n tk vt md jl vj last) : vj.ownBlock ≠ some g := owns_ne h.ownJ h.blk (by decide)
theorem YP.lt (h : YP w g n tk vt md jl vj last) : g < w.heap.size := lt_of_block h.blk
theorem YP.frm {S : Nat → Prop} {w' : World} (h : YP w g n tk vt md jl vj last) (hf : Frm S w w') (h1 : ¬ S g) (h2 : ∀ k, vt.ownBlock = some k → ¬ S k) (h3 : ∀ k, vj.ownBlock = some k → ¬ S k) : YP w' g n tk vt md jl vj last :=
  ⟨hf.keep h.blk h1, hf.owns h.ownT h2, hf.owns h.ownJ h3, h.rng⟩
theorem YP.no {w' : World} (h : YP w g n tk vt md jl vj last) (hf : Frm NoB w w') : YP w' g n tk vt md jl vj last := h.frm hf (fun s => s) (fun _ _ s => s) (fun _ _ s => s)
theorem YP.tj (h : YP w g n tk vt md jl vj last) (k : Nat) (hk : vt.ownBlock = some k) : vj.ownBlock ≠ some k := by
  obtain ⟨cur, hc⟩ := owns_type h.ownT hk
  exact owns_ne h.ownJ hc (by decide)

/-- What a call leaves of the document's pool. -/
def YPost (w w' : World) (g : Nat) (vt vj : Value) (n : Int) (tk : List Int) (md : Mid) (jl : List Int) (last : Int) : Prop :=
  ∃ vt' vj', YP w' g n tk vt' md jl vj' last ∧ Frm (fun k => k = g ∨ vt.ownBlock = some k ∨ vj.ownBlock = some k) w w' ∧
    (∀ k, vt'.ownBlock = some k → vt.ownBlock = some k ∨ w.heap.size ≤ k) ∧ ∀ k, vj'.ownBlock = some k → vj.ownBlock = some k ∨ w.heap.size ≤ k

theorem YPost.trans {w1 w2 : World} {n1 n2 : Int} {tk1 tk2 : List Int} {jl1 jl2 : List Int} {last1 last2 : Int} {vt1 vj1 : Value} (hF : Frm (fun k => k = g ∨ vt.ownBlock = some k ∨ vj.ownBlock = some k) w w1)
    (hn : ∀ k, vt1.ownBlock = some k → vt.ownBlock = some k ∨ w.heap.size ≤ k) (hm : ∀ k, vj1.ownBlock = some k → vj.ownBlock = some k ∨ w.heap.size ≤ k) (_h : YP w1 g n1 tk1 vt1 md jl1 vj1 last1)
    (h2 : YPost w1 w2 g vt1 vj1 n2 tk2 md jl2 last2) : YPost w w2 g vt vj n2 tk2 md jl2 last2 := by
  obtain ⟨vt2, vj2, hY, hF2, hn2, hm2⟩ := h2
  have hs := hF.size
  refine ⟨vt2, vj2, hY, hF.trans hF2 (fun _ s => s) ?_, ?_, ?_⟩
  · intro i hi hs
    rcases hs with hs | hs | hs
    · exact .inl hs
    · rcases hn i hs with q | q
      · exact .inr (.inl q)
      · omega
    · rcases hm i hs with q | q
      · exact .inr (.inr q)
      · omega
  · intro k hk
    rcases hn2 k hk with q | q
    · exact hn k q
    · exact .inr (by omega)
  · intro k hk
    rcases hm2 k hk with q | q
    · exact hm k q
    · exact .inr (by omega)

theorem YP.stay {w' : World} (h : YP w g n tk vt md jl vj last) (hf : Frm NoB w w') : YPost w w' g vt vj n tk md jl last :=
  ⟨vt, vj, h.no hf, hf.ofNo, fun _ hk => .inl hk, fun _ hk => .inl hk⟩

/-- A store of the size. -/
theorem YP.setN {wd : World} (h : YP w g n tk vt md jl vj last) (hd : Frm NoB w wd) (n' : Int) : YPost w (wd.setCell ⟨g, 0, none⟩ (.int .i64 n')) g vt vj n' tk md jl last := by
  have h' := h.no hd
  exact ⟨vt, vj, ⟨heap_setCell_same wd g 0 _ _ _ h'.blk, ownsRow_setCell_other h'.ownT h'.neT _, ownsRow_setCell_other h'.ownJ h'.neJ _, h.rng⟩, (hd.ofNo).setCell (.inl (.inl rfl)) _, fun _ hk => .inl hk, fun _ hk => .inl hk⟩

/-- A store of the list of those that were taken. -/
theorem YP.setT {wd : World} {tk' : List Int} {vt' : Value} (h : YP w g n tk vt md jl vj last) (hd : Frm NoB w wd) (ho : wd.ownsRow 0 3 1 vt' tk'.length (tk'.map (Value.int .i64)))
    (hn : ∀ k, vt'.ownBlock = some k → vt.ownBlock = some k ∨ w.heap.size ≤ k) : YPost w (wd.setCell ⟨g, 1, none⟩ vt') g vt vj n tk' md jl last := by
  have h' := h.no hd
  exact ⟨vt', vj, ⟨heap_setCell_same wd g 1 _ _ _ h'.blk, ownsRow_setCell_other ho (owns_ne ho h'.blk (by decide)) _, ownsRow_setCell_other h'.ownJ h'.neJ _, h.rng⟩, (hd.ofNo).setCell (.inl (.inl rfl)) _, hn, fun _ hk => .inl hk⟩

/-- The last store of a record. -/
theorem YP.setJ {w1 w3 w4 : World} {jl' : List Int} {vj' : Value} {last' : Int} (h : YP w g n tk vt md jl vj last) (hd : Frm NoB w w1) (hf : Frm NoB (w1.setCell ⟨g, 8, none⟩ (.int .i64 last')) w3) (hw : w4 = w3.setCell ⟨g, 7, none⟩ vj')
    (ho : w3.ownsRow 0 5 1 vj' jl'.length (jl'.map (Value.int .u8))) (hr : 0 ≤ last' ∧ last' < 4294967296) (hn : ∀ k, vj'.ownBlock = some k → w.heap.size ≤ k) :
    YPost w w4 g vt vj n tk md jl' last' := by
  subst hw
  have h' := h.no hd
  have hb := hf.keep (heap_setCell_same w1 g 8 _ _ (.int .i64 last') h'.blk) (fun s => s)
  have hT := hf.owns (ownsRow_setCell_other h'.ownT h'.neT (a := ⟨g, 8, none⟩) (.int .i64 last')) (fun _ _ s => s)
  refine ⟨vt, vj', ⟨heap_setCell_same w3 g 7 _ _ _ hb, ownsRow_setCell_other hT h'.neT _, ownsRow_setCell_other ho (owns_ne ho hb (by decide)) _, hr⟩, ?_, fun _ hk => .inl hk, fun k hk => .inr (hn k hk)⟩
  exact Frm.setCell (Frm.then (Frm.setCell (hd.ofNo) (.inl (.inl rfl)) _) hf) (.inl (.inl rfl)) _
end

theorem recF_len (a b c : Int) : (recF a b c).length = 6 := rfl

theorem cell_byte {w : World} {g n cap : Nat} {xs : List Int} (ho : w.ownsRow 0 5 1 (.slice (some ⟨g, 0, none⟩) n cap) n (xs.map (Value.int .u8))) (j : Nat) (x : Int) (hx : xs[j]? = some x) : w.cell? ⟨g, j, none⟩ = some (.int .u8 x) := by
  have hl : xs.length = n := by have := ho.1; simpa using this
  obtain ⟨g', hg, hc⟩ := owns_slice_rd ho hl j x hx
  simp at hg
  subst hg
  exact hc

set_option maxHeartbeats 1000000 in
theorem record_any (w : World) (g : Nat) (n : Int) (tk : List Int) (vt : Value) (md : Mid) (jl : List Int) (vj : Value) (last kind num : Int) (h : YP w g n tk vt md jl vj last) (hj : jl.length ≤ 140737488355000)
    (h1 : 0 ≤ kind ∧ kind < 256) (h2 : 0 ≤ num ∧ num < 256) :
    Calls Try.prog 46 #[.pointer (some ⟨g, 0, none⟩), .int .u8 kind, .int .i64 num] w fun e w' => e = .returned (.tuple #[]) ∧ YPost w w' g vt vj n tk md (jl ++ recF last kind num) (lastF last kind num) := by
  have hlr := lastF_range last kind num h.rng h1 h2
  obtain ⟨n0, n1⟩ := h2
  have c8 := h.c8
  have hrng := h.rng
  go_enter Try.func46, Try.ntmps46
  go_wp2_with fail
  refine (Record_any last kind num _ hrng h1 ⟨n0, n1⟩).mono ?_
  rintro e w1 ⟨l1, rfl, o1, f1, q1⟩
  have o1' : w1.ownsRow 0 5 1 l1 6 ((recF last kind num).map (Value.int .u8)) := o1
  obtain ⟨ao1, cap1, rfl⟩ := owns_shape o1'
  obtain ⟨gr, rfl, -⟩ := owns_slice_rd (xs := recF last kind num) o1' rfl 0 kind rfl
  have hcap : 6 ≤ cap1 := by
    obtain ⟨ao', cap', hv, -, -, hle, -⟩ := owns_rd (xs := recF last kind num) o1'
    simp only [Value.slice.injEq] at hv
    rw [hv.2.2]
    exact hle
  have hY1 := h.no f1
  have c8' := hY1.c8
  have f8' := hY1.fz 8
  have b2 := cell_byte (xs := recF last kind num) o1' 2 (lastF last kind num % 256) rfl
  have b3 := cell_byte (xs := recF last kind num) o1' 3 (lastF last kind num / 256 % 256) rfl
  have b4 := cell_byte (xs := recF last kind num) o1' 4 (lastF last kind num / 65536 % 256) rfl
  have b5 := cell_byte (xs := recF last kind num) o1' 5 (lastF last kind num / 16777216) rfl
  have hV : Hid (valF _ _ _ _ = _) := valF_four (lastF last kind num)
  have r0 := fourF_range (lastF last kind num) hlr.1 hlr.2
  have hJ := hY1.ownJ
  have hneJ := h.neJ
  obtain ⟨aoj, capj, rfl⟩ := owns_shape hJ
  have c7' := hY1.c7
  have f7' := hY1.fz 7
  have hneR : gr ≠ g := by have := q1 gr rfl; have := h.lt; omega
  clear c8
  go_wp2_with fail
  refine (value_any _ _ _ _ gr 2 _ _ b2 b3 b4 b5 (r0 _ (by simp [fourF])) (r0 _ (by simp [fourF])) (r0 _ (by simp [fourF])) (r0 _ (by simp [fourF]))).mono ?_
  rintro e w2 ⟨rfl, q, rfl⟩
  rw [hV.out]
  clear b2 b3 b4 b5 r0
  have hS : Frm (fun k => k = g) w1 ((w1.drewN q).setCell ⟨g, 8, none⟩ (.int .i64 (lastF last kind num))) := Frm.setCell (p := ⟨g, 8, none⟩) ((Frm.refl _ _).drewN q) (.inl (by rfl)) _
  have hJs := owns_src (hS.owns hJ (fun k hk e => hneJ (by rw [hk, e])))
  have hRs := hS.owns o1' (fun k hk e => hneR (by simp [Value.ownBlock] at hk; omega))
  have hB8 := heap_setCell_same (w1.drewN q) g 8 _ _ (.int .i64 (lastF last kind num)) hY1.blk
  clear hS
  go_wp2_with (first | (at_builtin; refine wpList_app _ rfl (.tmp 22) (.tmp 26) 37 rfl 5 (.int .u8 0) 1 1 Try.underlying37 Try.info5 rfl (by decide) (.slice none 0 0) 0 [] rfl (by exact World.ownsRow_nil _ _ _ _) aoj jl.length capj (jl.map (Value.int .u8)) rfl (by exact hJs.1) (by exact hJs.2) (by simp only [maxLen]; omega) (by omega) ?_; intro v3 w3 hA; obtain ⟨ao3, cap3, rfl⟩ := owns_shape hA.own; rw [Nat.zero_add] at hA; have hF3 := (Frm.refl NoB _).grown hA.grown (fun k hk => by simp [Value.ownBlock] at hk); have hO3 : w3.ownsRow 0 5 1 (.slice ao3 jl.length cap3) jl.length (jl.map (Value.int .u8)) := (by simpa using hA.own); have hR3 := hF3.owns hRs (fun _ _ s => s)) | (at_builtin; refine wpList_app _ rfl (.tmp 29) (.tmp 30) 37 rfl 5 (.int .u8 0) 1 1 Try.underlying37 Try.info5 rfl (by decide) (.slice ao3 jl.length cap3) jl.length (jl.map (Value.int .u8)) rfl (by exact hO3) (some ⟨gr, 0, none⟩) 6 cap1 ((recF last kind num).map (Value.int .u8)) rfl (by exact (owns_src (xs := recF last kind num) hR3).1) (by simp) (by simp only [maxLen]; omega) (by omega) ?_; intro v4 w4 hB; obtain ⟨ao4, cap4, rfl⟩ := owns_shape hB.own; have hF4 := (hF3.grown hB.grown (fun k hk => (hA.new k hk).elim (fun z => by simp [Value.ownBlock] at z) .inr)); have c7'' := cell_of_row w4 g 7 _ _ _ (hF4.keep hB8 (fun s => s)); have f7'' := frozen_of_row w4 g 7 _ _ (hF4.keep hB8 (fun s => s))))
  go_end0
  refine ⟨rfl, h.setJ (f1.drewN q) hF4 rfl (by simpa [recF_len] using hB.own) hlr (fun k hk => ?_)⟩
  have z1 := f1.size
  have z3 := hF3.size
  rcases hB.new k hk with z | z
  · rcases hA.new k z with y | y
    · simp [Value.ownBlock] at y
    · simp at y; omega
  · simp at z3; omega
end Go.Proofs.Ytinadpanpnenjaa
