/- The law's book of lists that came out: numbers. -/
import Derived.Test.YtinadpanpnenjaaBook
namespace Go.Proofs.Ytinadpanpnenjaa
open Go.RowKit

/-- The law's World in the block g; its book holds the lists es, each with its mark. -/
structure WB (w : World) (g : Nat) (vl vns vkn : Value) (es : List (Value × Int)) : Prop where
  blk : w.heap[g]? = some (.cells #[vl, .slice none 0 0, .slice none 0 0, vns, vkn] 33 (0, 0))
  ownN : w.ownsRow 0 24 1 vns es.length (es.map (fun e => e.1))
  ownK : w.ownsRow 0 3 1 vkn es.length (es.map (fun e => Value.int .i64 e.2))

theorem set_rep {xs : List Int} {k : Nat} {m : Int} (hk : k < xs.length) : (List.replicate k (Value.int .i64 m) ++ (xs.map (Value.int .i64)).drop k).set k (.int .i64 m) = List.replicate (k + 1) (Value.int .i64 m) ++ (xs.map (Value.int .i64)).drop (k + 1) := by
  rw [List.set_append_right _ _ (by simp)]
  rw [List.length_replicate, Nat.sub_self, List.replicate_succ', List.append_assoc]
  congr 1
  rw [List.drop_eq_getElem_cons (by simpa using hk)]
  simp

theorem owns_some {w : World} {e : TypeId} {ao : Option Addr} {n cap : Nat} {xs : List Value} (ho : w.ownsRow 0 e 1 (.slice ao n cap) n xs) (hn : 0 < n) : ∃ g, ao = some ⟨g, 0, none⟩ := by
  rcases ho.2 with ⟨_, h⟩ | ⟨g, cap', cur, h, _⟩
  · omega
  · simp only [Value.slice.injEq] at h
    exact ⟨g, h.1⟩

theorem src_set (w : World) (a : Addr) (v : Value) (t : TypeId) (cs : List Value) (h : ∀ u ∈ cs, u.oneCell' = true) : SrcOk ((w.setCell a v).alloc (.cells cs.toArray t)) (some ⟨w.heap.size, 0, none⟩) 1 cs.length cs := by
  have := src_list (w.setCell a v) t cs h
  rwa [World.size_setCell] at this

/-- What 'numbers' leaves. -/
def NumPost (w w' : World) (g : Nat) (vl vns vkn : Value) (es : List (Value × Int)) (l : Value) : Prop :=
  ∃ vns' vkn' new, WB w' g vl vns' vkn' (es ++ new) ∧ new.length = 4 ∧
    (∀ e ∈ new, Full w' e.1 e.2 ∧ ∀ k, e.1.ownBlock = some k → l.ownBlock = some k ∨ w.heap.size ≤ k) ∧
    Frm (fun k => k = g ∨ l.ownBlock = some k ∨ vns.ownBlock = some k ∨ vkn.ownBlock = some k) w w' ∧
    (∀ k, vns'.ownBlock = some k → vns.ownBlock = some k ∨ w.heap.size ≤ k) ∧ (∀ k, vkn'.ownBlock = some k → vkn.ownBlock = some k ∨ w.heap.size ≤ k) ∧
    ∀ e ∈ new, ∀ k, e.1.ownBlock = some k → vkn'.ownBlock ≠ some k

theorem numbers_end {w wr w1 w2 w3 w4 w5 : World} {g n : Nat} {vl vns vkn l v1 v2 v3 v4 v5 : Value} {es : List (Value × Int)} {m : Int} {o1 o2 o3 o4 o5 : Obj} (h : WB w g vl vns vkn es)
    (HD : ∀ k, l.ownBlock = some k → vkn.ownBlock ≠ some k) (HG : l.ownBlock ≠ some g) (HN : ∀ k, l.ownBlock = some k → vns.ownBlock ≠ some k) (HNG : vns.ownBlock ≠ some g) (HKG : vkn.ownBlock ≠ some g)
    (HNK : ∀ k, vns.ownBlock = some k → vkn.ownBlock ≠ some k) (hfr : Frm (fun b => l.ownBlock = some b) w wr)
    (hA1 : App (wr.alloc o1) w1 3 1 l v1 n 1 (List.replicate n (Value.int .i64 m)) (List.replicate 1 (.int .i64 m)))
    (hA2 : App (w1.alloc o2) w2 3 1 l v2 n 2 (List.replicate n (Value.int .i64 m)) (List.replicate 2 (.int .i64 m)))
    (hA3 : App (w2.alloc o3) w3 3 1 l v3 n 3 (List.replicate n (Value.int .i64 m)) (List.replicate 3 (.int .i64 m)))
    (hA4 : App (w3.alloc o4) w4 24 1 vns v4 es.length 4 (es.map (fun e => e.1)) [l, v1, v2, v3])
    (hA5 : App ((w4.setCell ⟨g, 3, none⟩ v4).alloc o5) w5 3 1 vkn v5 es.length 4 (es.map (fun e => Value.int .i64 e.2)) (List.replicate 4 (.int .i64 m))) :
    NumPost w (w5.setCell ⟨g, 4, none⟩ v5) g vl vns vkn es l := by
  have F1 := (hfr.alloc o1).grown hA1.grown (fun k hk => .inl hk)
  have F2 := (F1.alloc o2).grown hA2.grown (fun k hk => .inl hk)
  have F3 := (F2.alloc o3).grown hA3.grown (fun k hk => .inl hk)
  have s0 := hfr.size
  have s1 := F1.size
  have s2 := F2.size
  have s3 := F3.size
  have b3 := F3.keep h.blk HG
  have G : Frm (fun k => k = g ∨ vns.ownBlock = some k ∨ vkn.ownBlock = some k) w3 w4 := ((Frm.refl _ w3).alloc o4).grown hA4.grown (fun k hk => .inl (.inr (.inl hk)))
  have s4 := G.size
  have b4 : w4.heap[g]? = _ := hA4.keep ((Below.heap_alloc w3 o4 g (lt_of_block b3)).trans b3) HNG
  have b4' := heap_setCell_same w4 g 3 _ _ v4 b4
  have G' : Frm (fun k => k = g ∨ vns.ownBlock = some k ∨ vkn.ownBlock = some k) w3 (w4.setCell ⟨g, 3, none⟩ v4) := Frm.setCell (p := ⟨g, 3, none⟩) G (.inl (.inl rfl)) v4
  have G5 := (G'.alloc o5).grown hA5.grown (fun k hk => .inl (.inr (.inr hk)))
  have b5 : w5.heap[g]? = _ := hA5.keep ((Below.heap_alloc _ o5 g (by simpa using lt_of_block b4)).trans b4') HKG
  have G6 : Frm (fun k => k = g ∨ vns.ownBlock = some k ∨ vkn.ownBlock = some k) w3 (w5.setCell ⟨g, 4, none⟩ v5) := Frm.setCell (p := ⟨g, 4, none⟩) G5 (.inl (.inl rfl)) v5
  have x1 : ∀ k, v1.ownBlock = some k → l.ownBlock = some k ∨ w.heap.size ≤ k := fun k hk => (hA1.new k hk).imp id (fun z => by simp at z; omega)
  have x2 : ∀ k, v2.ownBlock = some k → l.ownBlock = some k ∨ w.heap.size ≤ k := fun k hk => (hA2.new k hk).imp id (fun z => by simp at z; omega)
  have x3 : ∀ k, v3.ownBlock = some k → l.ownBlock = some k ∨ w.heap.size ≤ k := fun k hk => (hA3.new k hk).imp id (fun z => by simp at z; omega)
  have na : ∀ (a : World) (o : Obj), Frm NoB a (a.alloc o) := fun a o => (Frm.refl _ a).alloc o
  have y0 : Full w3 l m := ⟨n, hA3.was⟩
  have y1 : Full w3 v1 m := hA3.full ((hA2.full (hA1.fullNew.frm (na _ _) (fun _ _ s => s))).frm (na _ _) (fun _ _ s => s))
  have y2 : Full w3 v2 m := hA3.full (hA2.fullNew.frm (na _ _) (fun _ _ s => s))
  have y3 : Full w3 v3 m := hA3.fullNew
  have fin : ∀ u, Full w3 u m → (∀ k, u.ownBlock = some k → l.ownBlock = some k ∨ w.heap.size ≤ k) → Full (w5.setCell ⟨g, 4, none⟩ v5) u m := by
    intro u hu hk
    refine hu.frm G6 (fun k hkk hs => ?_)
    obtain ⟨nu, hu⟩ := hu
    rcases hs with hs | hs | hs
    · exact owns_ne hu b3 (by decide) (by rw [hkk, hs])
    · rcases hk k hkk with z | z
      · exact HN k z hs
      · have := owns_lt h.ownN hs; omega
    · rcases hk k hkk with z | z
      · exact HD k z hs
      · have := owns_lt h.ownK hs; omega
  have apart : ∀ u, Full w3 u m → (∀ k, u.ownBlock = some k → l.ownBlock = some k ∨ w.heap.size ≤ k) → ∀ k, u.ownBlock = some k → v5.ownBlock ≠ some k := by
    intro u hu hk k hkk h5
    have hlt := hu.lt hkk
    rcases hA5.new k h5 with z | z
    · rcases hk k hkk with y | y
      · exact HD k y z
      · have := owns_lt h.ownK z; omega
    · simp at z; omega
  refine ⟨v4, v5, [(l, m), (v1, m), (v2, m), (v3, m)], ⟨heap_setCell_same w5 g 4 _ _ v5 b5, ?_, ?_⟩, rfl, ?_, ?_, ?_, ?_, ?_⟩
  · have o4' : w4.ownsRow 0 24 1 v4 (es.length + 4) (es.map (fun e => e.1) ++ [l, v1, v2, v3]) := hA4.own
    have g4 : Frm (fun k => k = g ∨ vkn.ownBlock = some k) w4 (w5.setCell ⟨g, 4, none⟩ v5) :=
      Frm.setCell (p := ⟨g, 4, none⟩) (((Frm.setCell (p := ⟨g, 3, none⟩) (Frm.refl _ w4) (.inl (.inl rfl)) v4).alloc o5).grown hA5.grown (fun k hk => .inl (.inr hk))) (.inl (.inl rfl)) v5
    have := g4.owns o4' (fun k hk hs => by
      rcases hs with hs | hs
      · exact owns_ne o4' b4 (by decide) (by rw [hk, hs])
      · rcases hA4.new k hk with z | z
        · exact HNK k z hs
        · have := owns_lt h.ownK hs; simp at z; omega)
    simpa using this
  · have := ownsRow_setCell_other hA5.own (a := ⟨g, 4, none⟩) (owns_ne hA5.own b5 (by decide)) v5
    simpa using this
  · intro e he
    simp at he
    rcases he with rfl | rfl | rfl | rfl
    · exact ⟨fin _ y0 (fun k hk => .inl hk), fun k hk => .inl hk⟩
    · exact ⟨fin _ y1 x1, x1⟩
    · exact ⟨fin _ y2 x2, x2⟩
    · exact ⟨fin _ y3 x3, x3⟩
  · exact F3.trans G6 (fun _ s => .inr (.inl s)) (fun _ _ s => s.imp id .inr)
  · exact fun k hk => (hA4.new k hk).imp id (fun z => by simp at z; omega)
  · exact fun k hk => (hA5.new k hk).imp id (fun z => by simp at z; omega)
  · intro e he
    simp at he
    rcases he with rfl | rfl | rfl | rfl
    · exact apart _ y0 (fun k hk => .inl hk)
    · exact apart _ y1 x1
    · exact apart _ y2 x2
    · exact apart _ y3 x3

set_option maxHeartbeats 4000000 in
theorem numbers_any (w : World) (g : Nat) (vl vns vkn : Value) (es : List (Value × Int)) (l : Value) (xs : List Int) (h : WB w g vl vns vkn es) (hl : w.ownsRow 0 3 1 l xs.length (xs.map (Value.int .i64)))
    (hd : ∀ k, l.ownBlock = some k → vkn.ownBlock ≠ some k) (hx : xs.length ≤ 1000) (hb : (es.length + 4) * 24 ≤ 140737488355328) :
    Calls Try.prog 27 #[.pointer (some ⟨g, 1, none⟩), l] w fun e w' => e = .returned (.tuple #[]) ∧ NumPost w w' g vl vns vkn es l := by
  have c3 : w.cell? ⟨g, 3, none⟩ = some vns := by rw [cell_of_row w g 3 _ _ _ h.blk]; rfl
  obtain ⟨aoN, capN, rfl⟩ := owns_shape h.ownN
  obtain ⟨aoK, capK, rfl⟩ := owns_shape h.ownK
  obtain ⟨ao, cap, rfl⟩ := owns_shape hl
  have HD : Hid (∀ k, (Value.slice ao xs.length cap).ownBlock = some k → (Value.slice aoK es.length capK).ownBlock ≠ some k) := hd
  have HG : Hid ((Value.slice ao xs.length cap).ownBlock ≠ some g) := owns_ne hl h.blk (by decide)
  have HN : Hid (∀ k, (Value.slice ao xs.length cap).ownBlock = some k → (Value.slice aoN es.length capN).ownBlock ≠ some k) := fun k hk => by
    obtain ⟨cur, hc⟩ := owns_type hl hk
    exact owns_ne h.ownN hc (by decide)
  have HNG : Hid ((Value.slice aoN es.length capN).ownBlock ≠ some g) := owns_ne h.ownN h.blk (by decide)
  have HKG : Hid ((Value.slice aoK es.length capK).ownBlock ≠ some g) := owns_ne h.ownK h.blk (by decide)
  have HNK : Hid (∀ k, (Value.slice aoN es.length capN).ownBlock = some k → (Value.slice aoK es.length capK).ownBlock ≠ some k) := fun k hk => by
    obtain ⟨cur, hc⟩ := owns_type h.ownN hk
    exact owns_ne h.ownK hc (by decide)
  clear hd
  go_enter Try.func27, Try.ntmps27
  go_wp2
  generalize (-1 - (es.length : Int) / 4) = m
  go_loopw [5] (fun i wr => ∃ k : Nat, k ≤ xs.length ∧ i = .int .i64 k ∧ wr.ownsRow 0 3 1 (.slice ao xs.length cap) xs.length (List.replicate k (Value.int .i64 m) ++ (xs.map (Value.int .i64)).drop k) ∧ Frm (fun b => (Value.slice ao xs.length cap).ownBlock = some b) w wr) (fun i _ => xs.length - (intOf i).toNat)
  case atStart => exact ⟨0, Nat.zero_le _, rfl, by simpa using hl, Frm.refl _ _⟩
  case round =>
    obtain ⟨k, hk, rfl, hown, hfr⟩ := hrel
    by_cases hlt : k < xs.length
    · obtain ⟨gl, rfl⟩ := owns_some hown (by omega)
      have hcl : wr.cell? ⟨gl, k, none⟩ = some (.int .i64 xs[k]) := by
        rw [hown.cellAt k (by omega)]
        rw [List.getElem?_append_right (by simp)]
        simp
      have hfz := hown.frozenAt k
      have hst := hown.stored k (.int .i64 m)
      rw [set_rep hlt] at hst
      go_wp2
      go_roundw
      case rel => exact ⟨k + 1, by omega, by go_num, hst.1, hfr.grown hst.2 (fun b hb => .inl (by simpa [Value.ownBlock] using hb))⟩
      case measure => simp [intOf]; omega
    · have hke : k = xs.length := by omega
      subst hke
      have hL : wr.ownsRow 0 3 1 (.slice ao xs.length cap) xs.length (List.replicate xs.length (Value.int .i64 m)) := by
        have := hown
        rw [List.drop_eq_nil_of_le (by simp), List.append_nil] at this
        exact this
      clear hown hk hlt
      go_wp2_with (first | (at_builtin; refine wpList_app _ rfl (.tmp 26) (.tmp 28) 24 rfl 3 (.int .i64 0) 1 8 Try.underlying24 Try.info3 rfl (by decide) (.slice ao xs.length cap) xs.length (List.replicate xs.length (Value.int .i64 m)) rfl (by exact hL.alloc _) _ 1 1 (List.replicate 1 (.int .i64 m)) rfl (by exact src_list _ _ [_] (by simp [Value.oneCell'])) (by simp) (by simp only [maxLen]; omega) (by omega) ?_; intro v1 w1 hA1; obtain ⟨ao1, cap1, rfl⟩ := owns_shape hA1.own; have hF1 := (hfr.alloc _).grown hA1.grown (fun k hk => .inl hk)) | (at_builtin; refine wpList_app _ rfl (.tmp 30) (.tmp 33) 24 rfl 3 (.int .i64 0) 1 8 Try.underlying24 Try.info3 rfl (by decide) (.slice ao xs.length cap) xs.length (List.replicate xs.length (Value.int .i64 m)) rfl (by exact hA1.was.alloc _) _ 2 2 (List.replicate 2 (.int .i64 m)) rfl (by exact src_list _ _ [_, _] (by simp [Value.oneCell'])) (by simp) (by simp only [maxLen]; omega) (by omega) ?_; intro v2 w2 hA2; obtain ⟨ao2, cap2, rfl⟩ := owns_shape hA2.own; have hF2 := (hF1.alloc _).grown hA2.grown (fun k hk => .inl hk)) | (at_builtin; refine wpList_app _ rfl (.tmp 35) (.tmp 39) 24 rfl 3 (.int .i64 0) 1 8 Try.underlying24 Try.info3 rfl (by decide) (.slice ao xs.length cap) xs.length (List.replicate xs.length (Value.int .i64 m)) rfl (by exact hA2.was.alloc _) _ 3 3 (List.replicate 3 (.int .i64 m)) rfl (by exact src_list _ _ [_, _, _] (by simp [Value.oneCell'])) (by simp) (by simp only [maxLen]; omega) (by omega) ?_; intro v3 w3 hA3; obtain ⟨ao3, cap3, rfl⟩ := owns_shape hA3.own; have hF3 := (hF2.alloc _).grown hA3.grown (fun k hk => .inl hk); have hN3 := hF3.owns h.ownN (fun k hk e => HN.out k e hk); have hK3 := hF3.owns h.ownK (fun k hk e => HD.out k e hk); have hb3 := hF3.keep h.blk HG.out; have c3' := cell_of_row w3 g 3 _ _ _ hb3) | (at_builtin; refine wpList_app _ rfl (.tmp 45) (.tmp 50) 29 rfl 24 (.slice none 0 0) 1 24 Try.underlying29 Try.info24 rfl (by decide) (.slice aoN es.length capN) es.length (es.map (fun e => e.1)) rfl (by exact hN3.alloc _) _ 4 4 [.slice ao xs.length cap, .slice ao1 (xs.length + 1) cap1, .slice ao2 (xs.length + 2) cap2, .slice ao3 (xs.length + 3) cap3] rfl (by exact src_list _ _ [_, _, _, _] (by simp [Value.oneCell'])) (by simp) (by simp only [maxLen]; omega) (by omega) ?_; intro v4 w4 hA4; obtain ⟨ao4, cap4, rfl⟩ := owns_shape hA4.own; have hb4 := hA4.keep ((Below.heap_alloc _ _ g (lt_of_block hb3)).trans hb3) HNG.out; have hK4 := (((Frm.refl (fun k => (Value.slice aoN es.length capN).ownBlock = some k) w3).alloc _).grown hA4.grown (fun k hk => .inl hk)).owns hK3 (fun k hk e => HNK.out k e hk); have c3'' := cell_of_row w4 g 3 _ _ _ hb4; have f3'' := frozen_of_row w4 g 3 _ _ hb4; have c4'' : w4.cell? ⟨g, 4, none⟩ = some (.slice aoK es.length capK) := cell_of_row w4 g 4 _ _ _ hb4) | (at_builtin; refine wpList_app _ rfl (.tmp 58) (.tmp 63) 24 rfl 3 (.int .i64 0) 1 8 Try.underlying24 Try.info3 rfl (by decide) (.slice aoK es.length capK) es.length (es.map (fun e => Value.int .i64 e.2)) rfl (by exact (ownsRow_setCell_other hK4 HKG.out _).alloc _) _ 4 4 (List.replicate 4 (.int .i64 m)) rfl (by exact src_set _ _ _ _ [_, _, _, _] (by simp [Value.oneCell'])) (by simp) (by simp only [maxLen]; omega) (by omega) ?_; intro v5 w5 hA5; obtain ⟨ao5, cap5, rfl⟩ := owns_shape hA5.own; have hb5 := hA5.keep ((Below.heap_alloc _ _ g (by simpa using lt_of_block hb4)).trans (heap_setCell_same w4 g 3 _ _ _ hb4)) HKG.out; have c4' := cell_of_row w5 g 4 _ _ _ hb5; have f4' := frozen_of_row w5 g 4 _ _ hb5))
      go_end0
      exact ⟨rfl, numbers_end h HD.out HG.out HN.out HNG.out HKG.out HNK.out hfr hA1 hA2 hA3 hA4 hA5⟩
end Go.Proofs.Ytinadpanpnenjaa
