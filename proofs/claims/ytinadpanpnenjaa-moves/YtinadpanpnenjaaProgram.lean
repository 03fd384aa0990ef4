/- The program's own pool in memory: what stands, Take, Give, Standing, New. -/
import Derived.Test.YtinadpanpnenjaaFind
import Derived.Test.YtinadpanpnenjaaPure
import Derived.BigQuiet
import Derived.Deep.QuietTactic
namespace Go.Proofs.Ytinadpanpnenjaa
open Go.RowKit

/-- The program's pool lies in the block g: its size n, the list of those that were taken. -/
structure XP (w : World) (g : Nat) (n : Int) (tk : List Int) (v : Value) : Prop where
  blk : w.heap[g]? = some (.cells #[.int .i64 n, v] 95 (0, 0))
  own : w.ownsRow 0 3 1 v tk.length (tk.map (Value.int .i64))

theorem XP.c0 {w : World} {g : Nat} {n : Int} {tk : List Int} {v : Value} (h : XP w g n tk v) : w.cell? ⟨g, 0, none⟩ = some (.int .i64 n) := by rw [cell_of_row w g 0 _ _ _ h.blk]; rfl
theorem XP.c1 {w : World} {g : Nat} {n : Int} {tk : List Int} {v : Value} (h : XP w g n tk v) : w.cell? ⟨g, 1, none⟩ = some v := by rw [cell_of_row w g 1 _ _ _ h.blk]; rfl
theorem XP.fz {w : World} {g : Nat} {n : Int} {tk : List Int} {v : Value} (h : XP w g n tk v) (j : Nat) : w.frozen? ⟨g, j, none⟩ = false := frozen_of_row w g j _ _ h.blk
theorem XP.ne {w : World} {g : Nat} {n : Int} {tk : List Int} {v : Value} (h : XP w g n tk v) : v.ownBlock ≠ some g := owns_ne h.own h.blk (by decide)
theorem XP.frm {S : Nat → Prop} {w w' : World} {g : Nat} {n : Int} {tk : List Int} {v : Value} (h : XP w g n tk v) (hf : Frm S w w') (h1 : ¬ S g) (h2 : ∀ k, v.ownBlock = some k → ¬ S k) : XP w' g n tk v :=
  ⟨hf.keep h.blk h1, hf.owns h.own h2⟩

theorem dec_lt (a : Int) : decide (a < 0) = !decide (0 ≤ a) := by
  by_cases h : a < 0
  · simp [h]
  · simp [h]; omega

theorem Try.info3 : (Try.prog.info? 3).map (fun i => (i.zero, i.size, i.bytes)) = some (some (.int .i64 0), 1, 8) := by kernel_rfl

set_option maxHeartbeats 400000 in
theorem stands_any (w : World) (g : Nat) (n p : Int) (tk : List Int) (v : Value) (h : XP w g n tk v) (hl : tk.length ≤ 1000) :
    Calls Try.prog 59 #[.pointer (some ⟨g, 0, none⟩), .int .i64 p] w fun e w' => e = .returned (.bool (standB n tk p)) ∧ w' = w := by
  obtain ⟨ao, cap, rfl, hr, -⟩ := owns_rd h.own
  have c0 := h.c0
  have c1 := h.c1
  by_cases hp : 0 ≤ p
  · by_cases hn : p < n
    · have hS : Hid (standB n tk p = !decide (0 ≤ idx p tk 0)) := by
        simp [Hid, standB, hp, hn, dec_lt]
      have hq : decide (p < n) = true := by simpa using hn
      have hq0 : decide (0 ≤ p) = true := by simpa using hp
      go_enter Try.func59, Try.ntmps59
      go_wp2_with (go_at_call 63; refine (Contains_any tk ao cap p _ hr (by omega)).mono ?_; rintro e w' ⟨rfl, rfl⟩)
      go_ret
      exact ⟨ret_bool (by rw [hS.out]), rfl⟩
    · have hS : Hid (standB n tk p = false) := by simp [Hid, standB, hn]
      have hq : decide (p < n) = false := by simpa using hn
      have hq0 : decide (0 ≤ p) = true := by simpa using hp
      go_enter Try.func59, Try.ntmps59
      go_wp2_with fail
      go_ret
      exact ⟨ret_bool (by rw [hS.out]), rfl⟩
  · have hS : Hid (standB n tk p = false) := by simp [Hid, standB, hp]
    have hq0 : decide (0 ≤ p) = false := by simpa using hp
    go_enter Try.func59, Try.ntmps59
    go_wp2_with fail
    go_ret
    exact ⟨ret_bool (by rw [hS.out]), rfl⟩

/-- What a call leaves of the program's pool. -/
def XPost (w w' : World) (g : Nat) (v : Value) (n : Int) (tk : List Int) : Prop :=
  ∃ v', XP w' g n tk v' ∧ Frm (fun k => k = g ∨ v.ownBlock = some k) w w' ∧ ∀ k, v'.ownBlock = some k → v.ownBlock = some k ∨ w.heap.size ≤ k

theorem XP.stay {w w' : World} {g : Nat} {n : Int} {tk : List Int} {v : Value} (h : XP w g n tk v) (hf : Frm NoB w w') : XPost w w' g v n tk :=
  ⟨v, h.frm hf (fun s => s) (fun _ _ s => s), hf.ofNo, fun _ hk => .inl hk⟩

theorem XP.setN {w wd : World} {g : Nat} {n : Int} {tk : List Int} {v : Value} (h : XP w g n tk v) (hd : Frm NoB w wd) (n' : Int) : XPost w (wd.setCell ⟨g, 0, none⟩ (.int .i64 n')) g v n' tk := by
  have h' := h.frm hd (fun s => s) (fun _ _ s => s)
  refine ⟨v, ⟨heap_setCell_same wd g 0 _ _ _ h'.blk, ownsRow_setCell_other h'.own h'.ne _⟩, (hd.ofNo).setCell (.inl (.inl rfl)) _, fun _ hk => .inl hk⟩

theorem XP.setV {w wd : World} {g : Nat} {n : Int} {tk tk' : List Int} {v v' : Value} (h : XP w g n tk v) (hd : Frm (fun k => v.ownBlock = some k) w wd) (ho : wd.ownsRow 0 3 1 v' tk'.length (tk'.map (Value.int .i64)))
    (hn : ∀ k, v'.ownBlock = some k → v.ownBlock = some k ∨ w.heap.size ≤ k) : XPost w (wd.setCell ⟨g, 1, none⟩ v') g v n tk' := by
  have hb := hd.keep h.blk h.ne
  refine ⟨v', ⟨heap_setCell_same wd g 1 _ _ _ hb, ownsRow_setCell_other ho (owns_ne ho hb (by decide)) _⟩, (hd.mono (fun _ _ s => .inr s)).setCell (.inl (.inl rfl)) _, hn⟩

theorem XP.push {w wd w1 : World} {g : Nat} {n p : Int} {tk : List Int} {v v1 : Value} (h : XP w g n tk v) (hd : Frm NoB w wd) (hA : App wd w1 3 1 v v1 tk.length 1 (tk.map (Value.int .i64)) [.int .i64 p]) :
    XPost w (w1.setCell ⟨g, 1, none⟩ v1) g v n (tk ++ [p]) := by
  refine h.setV ((hd.ofNo).grown hA.grown (fun k hk => .inl hk)) (by simpa using hA.own) (fun k hk => (hA.new k hk).imp id (fun q => Nat.le_trans hd.size q))

set_option maxHeartbeats 1000000 in
theorem take_any (w : World) (g : Nat) (n p : Int) (tk : List Int) (v : Value) (h : XP w g n tk v) (hok : Ok n tk) (hp : -9223372036854775808 ≤ p ∧ p ≤ 9223372036854775807) :
    Calls Try.prog 47 #[.pointer (some ⟨g, 0, none⟩), .int .i64 p] w fun e w' => e = .returned (.int .i64 (takeE n tk p)) ∧ XPost w w' g v (takeN n tk p) (takeT n tk p) := by
  obtain ⟨o1, o2, o3, -⟩ := hok
  cases hs : standB n tk p with
  | false =>
    have hE : Hid (takeE n tk p = 2) := by simp [Hid, takeE, hs]
    have hN : Hid (takeN n tk p = n) := by simp [Hid, takeN, hs]
    have hT : Hid (takeT n tk p = tk) := by simp [Hid, takeT, hs]
    go_enter Try.func47, Try.ntmps47
    go_wp2_with (go_at_call 59; refine (stands_any w g n p tk v h (by omega)).mono ?_; rintro e w' ⟨rfl, rfl⟩)
    go_ret
    exact ⟨ret_int hE.out.symm, by rw [hN.out, hT.out]; exact h.stay (Frm.refl _ _)⟩
  | true =>
    have c0 := h.c0
    obtain ⟨ao, cap, rfl, hr, hao, hlc, hcm, -⟩ := owns_rd h.own
    have c1 := h.c1
    have f0 := h.fz 0
    have f1 := h.fz 1
    by_cases ho : n - tk.length = 1
    · have hE : Hid (takeE n tk p = 3) := by simp [Hid, takeE, hs, ho]
      have hN : Hid (takeN n tk p = n) := by simp [Hid, takeN, ho]
      have hT : Hid (takeT n tk p = tk) := by simp [Hid, takeT, ho]
      have ho1 : (n - tk.length == 1) = true := by simpa using ho
      clear ho
      go_enter Try.func47, Try.ntmps47
      go_wp2_with (go_at_call 59; refine (stands_any w g n p tk _ h (by omega)).mono ?_; rintro e w' ⟨rfl, rfl⟩)
      go_quiet (fail)
      go_wp2
      go_ret
      exact ⟨ret_int hE.out.symm, by rw [hN.out, hT.out]; exact h.stay ((Frm.refl _ _).drewN _)⟩
    · have hE : Hid (takeE n tk p = 0) := by simp [Hid, takeE, hs, ho]
      have ho1 : (n - tk.length == 1) = false := by simpa using ho
      by_cases hc : tk = [] ∧ p = n - 1
      · obtain ⟨rfl, rfl⟩ := hc
        have hN : Hid (takeN n [] (n - 1) = n - 1) := by unfold Hid takeN; rw [if_pos ⟨hs, ho, rfl, rfl⟩]
        have hT : Hid (takeT n [] (n - 1) = []) := by simp [Hid, takeT]
        clear ho
        go_enter Try.func47, Try.ntmps47
        go_wp2_with (go_at_call 59; refine (stands_any w g n (n - 1) [] _ h (by simp)).mono ?_; rintro e w' ⟨rfl, rfl⟩)
        go_quiet (fail)
        go_wp2
        go_ret
        exact ⟨ret_int hE.out.symm, by rw [hN.out, hT.out]; exact h.setN ((Frm.refl _ _).drewN _) _⟩
      · have hN : Hid (takeN n tk p = n) := by unfold Hid takeN; rw [if_neg (fun q => hc q.2.2)]
        have hT : Hid (takeT n tk p = tk ++ [p]) := by unfold Hid takeT; rw [if_pos ⟨hs, ho, hc⟩]
        have hown := h.own
        clear ho hr hao hlc hcm
        by_cases ht : tk = []
        · have hb : (p == n - 1) = false := by simp; exact fun q => hc ⟨ht, q⟩
          clear hc
          subst ht
          go_enter Try.func47, Try.ntmps47
          go_wp2_with (go_at_call 59; refine (stands_any w g n p [] _ h (by simp)).mono ?_; rintro e w' ⟨rfl, rfl⟩)
          go_quiet (fail)
          go_wp2_with (at_builtin; refine wpList_app _ rfl (.tmp 46) (.tmp 48) 24 rfl 3 (.int .i64 0) 1 8 Try.underlying24 Try.info3 rfl (by decide) (.slice ao (([] : List Int)).length cap) (([] : List Int)).length ((([] : List Int)).map (Value.int .i64)) rfl (by exact (owns_drewN hown _).alloc _) _ 1 1 [.int .i64 p] rfl (by exact src_list _ _ [_] (by simp [Value.oneCell'])) (by simp) (by simp only [maxLen]; omega) (by omega) ?_; intro v1 w1 hA; obtain ⟨ao1, cap1, rfl⟩ := owns_shape hA.own; have c1' := cell_of_row w1 g 1 _ _ _ (hA.keep ((Below.heap_alloc _ _ g (lt_of_block h.blk)).trans h.blk) h.ne); have f1' := frozen_of_row w1 g 1 _ _ (hA.keep ((Below.heap_alloc _ _ g (lt_of_block h.blk)).trans h.blk) h.ne))
          go_ret
          exact ⟨ret_int hE.out.symm, by rw [hN.out, hT.out]; exact h.push (((Frm.refl _ _).drewN _).alloc _) hA⟩
        · clear hc
          go_enter Try.func47, Try.ntmps47
          go_wp2_with (go_at_call 59; refine (stands_any w g n p tk _ h (by omega)).mono ?_; rintro e w' ⟨rfl, rfl⟩)
          go_quiet (fail)
          go_wp2_with (at_builtin; refine wpList_app _ rfl (.tmp 46) (.tmp 48) 24 rfl 3 (.int .i64 0) 1 8 Try.underlying24 Try.info3 rfl (by decide) (.slice ao (tk).length cap) (tk).length ((tk).map (Value.int .i64)) rfl (by exact (owns_drewN hown _).alloc _) _ 1 1 [.int .i64 p] rfl (by exact src_list _ _ [_] (by simp [Value.oneCell'])) (by simp) (by simp only [maxLen]; omega) (by omega) ?_; intro v1 w1 hA; obtain ⟨ao1, cap1, rfl⟩ := owns_shape hA.own; have c1' := cell_of_row w1 g 1 _ _ _ (hA.keep ((Below.heap_alloc _ _ g (lt_of_block h.blk)).trans h.blk) h.ne); have f1' := frozen_of_row w1 g 1 _ _ (hA.keep ((Below.heap_alloc _ _ g (lt_of_block h.blk)).trans h.blk) h.ne))
          go_ret
          exact ⟨ret_int hE.out.symm, by rw [hN.out, hT.out]; exact h.push (((Frm.refl _ _).drewN _).alloc _) hA⟩

set_option maxHeartbeats 1000000 in
theorem give_any (w : World) (g : Nat) (n : Int) (tk : List Int) (v : Value) (h : XP w g n tk v) (hok : Ok n tk) :
    Calls Try.prog 49 #[.pointer (some ⟨g, 0, none⟩)] w fun e w' => e = .returned (.tuple #[.int .i64 (giveA n tk), .int .i64 (giveE n tk)]) ∧ XPost w w' g v (giveN n tk) (giveT tk) := by
  obtain ⟨o1, o2, o3, -⟩ := hok
  have c0 := h.c0
  have f0 := h.fz 0
  have f1 := h.fz 1
  by_cases ht : tk = []
  · subst ht
    obtain ⟨ao, cap, rfl, -⟩ := owns_rd h.own
    have c1 := h.c1
    by_cases h6 : n = 64
    · have hA : Hid (giveA n [] = 0) := by simp [Hid, giveA, h6]
      have hE : Hid (giveE n [] = 4) := by simp [Hid, giveE, h6]
      have hN : Hid (giveN n [] = n) := by simp [Hid, giveN]; omega
      have hT : Hid (giveT [] = []) := rfl
      have hb : (n == 64) = true := by simpa using h6
      clear h6
      go_enter Try.func49, Try.ntmps49
      go_wp2
      go_ret2
      exact ⟨ret_int2 hA.out.symm hE.out.symm, by rw [hN.out, hT.out]; exact h.stay (Frm.refl _ _)⟩
    · have hA : Hid (giveA n [] = n) := by simp [Hid, giveA, h6]
      have hE : Hid (giveE n [] = 0) := by simp [Hid, giveE, h6]
      have hN : Hid (giveN n [] = n + 1) := by simp [Hid, giveN, h6]
      have hT : Hid (giveT [] = []) := rfl
      have hb : (n == 64) = false := by simpa using h6
      clear h6
      go_enter Try.func49, Try.ntmps49
      go_wp2
      go_ret2
      exact ⟨ret_int2 (by rw [hA.out]) hE.out.symm, by rw [hN.out, hT.out]; exact h.setN (Frm.refl _ _) _⟩
  · obtain ⟨t, x, rfl⟩ : ∃ t x, tk = t ++ [x] := ⟨tk.dropLast, tk.getLast ht, (List.dropLast_concat_getLast ht).symm⟩
    have hA : Hid (giveA n (t ++ [x]) = x) := by simp [Hid, giveA]
    have hE : Hid (giveE n (t ++ [x]) = 0) := by simp [Hid, giveE]
    have hN : Hid (giveN n (t ++ [x]) = n) := by simp [Hid, giveN]
    have hT : Hid (giveT (t ++ [x]) = t) := by simp [Hid, giveT]
    obtain ⟨ao, cap, rfl, hr, -, hlc, hcm, hgg⟩ := owns_rd h.own
    obtain ⟨ga, rfl, hx⟩ := hr t.length x (by simp)
    have c1 := h.c1
    have hlen : (t ++ [x]).length = t.length + 1 := by simp
    have hown : w.ownsRow 0 3 1 (.slice (some ⟨ga, 0, none⟩) (t ++ [x]).length cap) (t ++ [x]).length (t.map (Value.int .i64) ++ [.int .i64 x]) := by simpa using h.own
    have hpre := owns_take hown
    rw [List.length_map] at hpre
    have hfin : XPost w (w.setCell ⟨g, 1, none⟩ (.slice (some ⟨ga, 0, none⟩) t.length cap)) g (.slice (some ⟨ga, 0, none⟩) (t ++ [x]).length cap) n t :=
      h.setV (Frm.refl _ _) hpre (fun k hk => .inl hk)
    rw [hlen] at c1 o3 hlc
    clear ht hr hgg hown hpre hlen
    go_enter Try.func49, Try.ntmps49
    go_wp2
    go_ret2
    exact ⟨ret_int2 hA.out.symm hE.out.symm, by rw [hN.out, hT.out]; exact hfin⟩
end Go.Proofs.Ytinadpanpnenjaa
