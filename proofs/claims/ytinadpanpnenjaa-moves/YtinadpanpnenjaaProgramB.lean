/- The program's own pool in memory: Standing, New. -/
import Derived.Test.YtinadpanpnenjaaProgram
namespace Go.Proofs.Ytinadpanpnenjaa
open Go.RowKit

theorem make_ints (w : World) (x : Int) (c : Nat) (hx : x = c) (hc : c ≤ 1000) :
    Sem.run Try.prog (Instr.makeSlice 24 (.int .i64 0) (.int .i64 x)) w = .ok (.slice (some ⟨w.heap.size, 0, none⟩) 0 c) (w.alloc (.cells (madeCells #[.int .i64 0] c) 3)) := by
  subst hx
  obtain ⟨i0, hi, hz0, hz1, hz2⟩ := info_parts Try.info3
  have := run_make (P := Try.prog) w 24 3 i0 (.int .i64 0) Try.underlying24 hi hz0 .i64 .i64 0 c (Int.le_refl _) (by omega) (by rw [hz2]; omega) (by omega)
  rw [hz1] at this
  simp only [Int.toNat_zero, Int.toNat_natCast, Nat.mul_one] at this
  exact this

/-- A list that a call has made: its numbers; where it lies. -/
def NewList (w w' : World) (l : Value) (xs : List Int) : Prop :=
  w'.ownsRow 0 3 1 l xs.length (xs.map (Value.int .i64)) ∧ Frm NoB w w' ∧ ∀ k, l.ownBlock = some k → w.heap.size ≤ k

theorem NewList.push {w wd w1 : World} {l l1 : Value} {xs : List Int} {x : Int} (h : NewList w wd l xs) (o : Obj) (hA : App (wd.alloc o) w1 3 1 l l1 xs.length 1 (xs.map (Value.int .i64)) [.int .i64 x]) : NewList w w1 l1 (xs ++ [x]) := by
  obtain ⟨h1, h2, h3⟩ := h
  refine ⟨by simpa using hA.own, (h2.alloc o).grown hA.grown (fun k hk => .inr (h3 k hk)), fun k hk => ?_⟩
  rcases hA.new k hk with q | q
  · exact h3 k q
  · have := h2.size
    simp at q
    omega

theorem NewList.frm {w wd w1 : World} {l : Value} {xs : List Int} (h : NewList w wd l xs) (hf : Frm NoB wd w1) : NewList w w1 l xs :=
  ⟨hf.owns h.1 (fun _ _ s => s), h.2.1.then hf, h.2.2⟩

set_option maxHeartbeats 1000000 in
theorem standing_any (w : World) (g : Nat) (n : Int) (tk : List Int) (v : Value) (h : XP w g n tk v) (hok : Ok n tk) :
    Calls Try.prog 51 #[.pointer (some ⟨g, 0, none⟩)] w fun e w' => ∃ l, e = .returned l ∧ NewList w w' l (standTo n tk n.toNat) := by
  obtain ⟨o1, o2, o3, -⟩ := hok
  obtain ⟨n, rfl⟩ := Int.eq_ofNat_of_zero_le (show 0 ≤ n by omega)
  rw [Int.toNat_natCast]
  obtain ⟨ao, cap, rfl, hr, -⟩ := owns_rd h.own
  have c0 := h.c0
  have c1 := h.c1
  obtain ⟨c, hc⟩ : ∃ c : Nat, n = tk.length + c := ⟨n - tk.length, by omega⟩
  have hmk := make_ints w.drew ((n : Int) - (tk.length : Int)) c (by omega) (by omega)
  have hst : NewList w (w.drew.alloc (.cells (madeCells #[.int .i64 0] c) 3)) (.slice (some ⟨w.heap.size, 0, none⟩) 0 c) (standTo n tk 0) :=
    ⟨World.ownsRow_made w.drew _ c (Nat.zero_le _) (by simp only [maxLen]; omega) (by simp [size_madeCells]), ((Frm.refl _ _).drew).alloc _, fun k hk => by simp [Value.ownBlock] at hk; omega⟩
  have c0' : (w.alloc (.cells (madeCells #[.int .i64 0] c) 3)).cell? ⟨g, 0, none⟩ = some (.int .i64 n) := (World.cell?_alloc_lt w _ _ (lt_of_block h.blk)).trans c0
  clear hr hc
  go_enter Try.func51, Try.ntmps51
  go_wp2
  go_region
  clear hmk
  go_wp2
  go_loopw [3, 20] (fun l i wr => ∃ k : Nat, k ≤ n ∧ i = .int .i64 k ∧ NewList w wr l (standTo n tk k)) (fun _ i _ => n - (intOf i).toNat)
  case atStart => exact ⟨0, Nat.zero_le _, rfl, hst⟩
  case round =>
    obtain ⟨k, hk, rfl, hnl⟩ := hrel
    clear hst c0' c0 c1
    have h' := h.frm hnl.2.1 (fun s => s) (fun _ _ s => s)
    by_cases hlt : k < n
    · have hll := standTo_len n tk k
      cases hs : standB n tk k with
      | false =>
        have HS : Hid (standTo n tk (k + 1) = standTo n tk k) := standTo_no hs
        go_wp2_with (go_at_call 59; refine (stands_any _ g n k tk _ h' (by omega)).mono ?_; rintro e w' ⟨rfl, rfl⟩)
        go_roundw
        case rel => exact ⟨k + 1, by omega, by go_num, by rw [HS.out]; exact hnl⟩
        case measure => simp [intOf]; omega
      | true =>
        have HS : Hid (standTo n tk (k + 1) = standTo n tk k ++ [(k : Int)]) := standTo_yes hs
        have hown := hnl.1
        obtain ⟨ao2, cap2, rfl⟩ := owns_shape hown
        go_wp2_with (first | (go_at_call 59; refine (stands_any _ g n k tk _ h' (by omega)).mono ?_; rintro e w' ⟨rfl, rfl⟩) | (at_builtin; refine wpList_app _ rfl (.tmp 26) (.tmp 28) 24 rfl 3 (.int .i64 0) 1 8 Try.underlying24 Try.info3 rfl (by decide) (.slice ao2 (standTo n tk k).length cap2) (standTo n tk k).length ((standTo n tk k).map (Value.int .i64)) rfl (by exact hown.alloc _) _ 1 1 [.int .i64 k] rfl (by exact src_list _ _ [_] (by simp [Value.oneCell'])) (by simp) (by simp only [maxLen]; omega) (by omega) ?_; intro v1 w1 hA))
        go_roundw
        case rel => exact ⟨k + 1, by omega, by go_num, by rw [HS.out]; exact hnl.push _ hA⟩
        case measure => simp [intOf]; omega
    · have hke : k = n := by omega
      subst hke
      go_wp2
      go_ret
      exact ⟨_, rfl, hnl⟩

set_option maxHeartbeats 400000 in
theorem setNew_any (w : World) (n : Int) :
    Calls Try.prog 45 #[.int .i64 n] w fun e w' => e = .returned (.agg #[.int .i64 n, .slice none 0 0]) ∧ Frm NoB w w' := by
  go_enter Try.func45, Try.ntmps45
  go_wp2
  exact bodyPost_ret (v := .agg #[.int .i64 n, .slice none 0 0]) (by simp [results, Try.results45, go_sem]) rfl ⟨rfl, (Frm.refl _ _).alloc _⟩

theorem ret_vi {k : IntKind} {v : Value} {a b : Int} (h : a = b) : Ending.returned (.tuple #[v, .int k a]) = .returned (.tuple #[v, .int k b]) := by rw [h]

def NewX (w w' : World) (v : Value) (n : Int) : Prop :=
  if sizeB n then ∃ g, v = .pointer (some ⟨g, 0, none⟩) ∧ w.heap.size ≤ g ∧ XP w' g n [] (.slice none 0 0) else v = .pointer none

set_option maxHeartbeats 400000 in
theorem newP_any (w : World) (n : Int) :
    Calls Try.prog 17 #[.int .i64 n] w fun e w' => ∃ v, e = .returned (.tuple #[v, .int .i64 (sizeE n)]) ∧ Frm NoB w w' ∧ NewX w w' v n := by
  cases hs : sizeB n
  · have hE : Hid (sizeE n = 1) := by simp [Hid, sizeE, hs]
    go_enter Try.func17, Try.ntmps17
    go_wp2_with (go_at_call 42; refine (isSize_any _ _).mono ?_; rintro e w' ⟨rfl, rfl⟩)
    go_ret2
    exact ⟨.pointer none, ret_vi hE.out.symm, Frm.refl _ _, by simp [NewX, hs]⟩
  · have hE : Hid (sizeE n = 0) := by simp [Hid, sizeE, hs]
    go_enter Try.func17, Try.ntmps17
    go_wp2_with (first | (go_at_call 42; refine (isSize_any _ _).mono ?_; rintro e w' ⟨rfl, rfl⟩) | (go_at_call 45; refine (setNew_any _ n).mono ?_; rintro e w1 ⟨rfl, hf⟩))
    go_ret2
    refine ⟨.pointer (some ⟨w1.heap.size, 0, none⟩), ret_vi hE.out.symm, hf.alloc _, ?_⟩
    unfold NewX
    rw [if_pos hs]
    exact ⟨w1.heap.size, rfl, hf.size, heap_alloc_new w1 _, World.ownsRow_nil _ _ _ _⟩

set_option maxHeartbeats 400000 in
theorem poolTake_any (w : World) (g : Nat) (n p : Int) (tk : List Int) (v : Value) (h : XP w g n tk v) (hok : Ok n tk) (hp : -9223372036854775808 ≤ p ∧ p ≤ 9223372036854775807) :
    Calls Try.prog 20 #[.pointer (some ⟨g, 0, none⟩), .int .i64 p] w fun e w' => e = .returned (.int .i64 (takeE n tk p)) ∧ XPost w w' g v (takeN n tk p) (takeT n tk p) := by
  have c0 := h.c0
  go_enter Try.func20, Try.ntmps20
  go_wp2_with (go_at_call 47; refine (take_any w g n p tk v h hok hp).mono ?_; rintro e w1 ⟨rfl, hx⟩)
  go_ret
  exact ⟨rfl, hx⟩

set_option maxHeartbeats 400000 in
theorem poolGive_any (w : World) (g : Nat) (n : Int) (tk : List Int) (v : Value) (h : XP w g n tk v) (hok : Ok n tk) :
    Calls Try.prog 22 #[.pointer (some ⟨g, 0, none⟩)] w fun e w' => e = .returned (.tuple #[.int .i64 (giveA n tk), .int .i64 (giveE n tk)]) ∧ XPost w w' g v (giveN n tk) (giveT tk) := by
  have c0 := h.c0
  go_enter Try.func22, Try.ntmps22
  go_wp2_with (go_at_call 49; refine (give_any w g n tk v h hok).mono ?_; rintro e w1 ⟨rfl, hx⟩)
  go_ret2
  exact ⟨rfl, hx⟩

set_option maxHeartbeats 400000 in
theorem poolStanding_any (w : World) (g : Nat) (n : Int) (tk : List Int) (v : Value) (h : XP w g n tk v) (hok : Ok n tk) :
    Calls Try.prog 24 #[.pointer (some ⟨g, 0, none⟩)] w fun e w' => ∃ l, e = .returned l ∧ NewList w w' l (standTo n tk n.toNat) := by
  have c0 := h.c0
  go_enter Try.func24, Try.ntmps24
  go_wp2_with (go_at_call 51; refine (standing_any w g n tk v h hok).mono ?_; rintro e w1 ⟨l, rfl, hx⟩)
  go_ret
  exact ⟨_, rfl, hx⟩

end Go.Proofs.Ytinadpanpnenjaa
