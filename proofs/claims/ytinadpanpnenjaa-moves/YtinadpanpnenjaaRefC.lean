/- The document's pool in memory: Give, Standing, New. -/
import Derived.Test.YtinadpanpnenjaaRefB
import Derived.Test.YtinadpanpnenjaaProgramB
namespace Go.Proofs.Ytinadpanpnenjaa
open Go.RowKit

theorem getLast_split (tk : List Int) (ht : tk ≠ []) : ∃ t x, tk = t ++ [x] := ⟨tk.dropLast, tk.getLast ht, (List.dropLast_concat_getLast ht).symm⟩

set_option maxHeartbeats 400000 in
theorem next_any (w : World) (g : Nat) (n : Int) (tk : List Int) (vt : Value) (md : Mid) (jl : List Int) (vj : Value) (last : Int) (h : YP w g n tk vt md jl vj last) (hok : Ok n tk) :
    Calls Try.prog 50 #[.pointer (some ⟨g, 0, none⟩)] w fun e w' => e = .returned (.int .i64 (nextP n tk)) ∧ w' = w := by
  obtain ⟨o1, o2, o3, -⟩ := hok
  have c0 := h.c0
  by_cases ht : tk = []
  · subst ht
    obtain ⟨ao, cap, rfl, -⟩ := owns_rd h.ownT
    have c1 := h.c1
    by_cases h6 : n = 64
    · have hA : Hid (nextP n [] = -1) := by simp [Hid, nextP, h6]
      have hb : (n == 64) = true := by simpa using h6
      clear h6
      go_enter Try.func50, Try.ntmps50
      go_wp2
      go_ret
      exact ⟨ret_int hA.out.symm, rfl⟩
    · have hA : Hid (nextP n [] = n) := by simp [Hid, nextP, h6]
      have hb : (n == 64) = false := by simpa using h6
      clear h6
      go_enter Try.func50, Try.ntmps50
      go_wp2
      go_ret
      exact ⟨ret_int hA.out.symm, rfl⟩
  · obtain ⟨t, x, rfl⟩ := getLast_split tk ht
    have hA : Hid (nextP n (t ++ [x]) = x) := by simp [Hid, nextP]
    obtain ⟨ao, cap, rfl, hr, -⟩ := owns_rd h.ownT
    obtain ⟨ga, rfl, hx⟩ := hr t.length x (by simp)
    have c1 := h.c1
    have hlen : (t ++ [x]).length = t.length + 1 := by simp
    rw [hlen] at c1 o3
    clear ht hr hlen
    go_enter Try.func50, Try.ntmps50
    go_wp2
    go_ret
    exact ⟨ret_int hA.out.symm, rfl⟩

def giveJ (n : Int) (tk : List Int) (jl : List Int) (last : Int) : List Int := if giveE n tk = 0 then jl ++ recF last 71 (giveA n tk) else jl
def giveL (n : Int) (tk : List Int) (last : Int) : Int := if giveE n tk = 0 then lastF last 71 (giveA n tk) else last

set_option maxHeartbeats 1000000 in
theorem refGive_any (w : World) (g : Nat) (n : Int) (tk : List Int) (vt : Value) (md : Mid) (jl : List Int) (vj : Value) (last : Int) (h : YP w g n tk vt md jl vj last) (hok : Ok n tk) (hj : jl.length ≤ 140737488355000) :
    Calls Try.prog 23 #[.pointer (some ⟨g, 0, none⟩)] w fun e w' => e = .returned (.tuple #[.int .i64 (giveA n tk), .int .i64 (giveE n tk)]) ∧ YPost w w' g vt vj (giveN n tk) (giveT tk) md (giveJ n tk jl last) (giveL n tk last) := by
  have hok' := hok
  obtain ⟨o1, o2, o3, o4⟩ := hok
  have c0 := h.c0
  have f0 := h.fz 0
  have f1 := h.fz 1
  by_cases ht : tk = []
  · subst ht
    obtain ⟨ao, cap, rfl, -⟩ := owns_rd h.ownT
    have c1 := h.c1
    by_cases h6 : n = 64
    · have hA : Hid (giveA n [] = 0) := by simp [Hid, giveA, h6]
      have hE : Hid (giveE n [] = 4) := by simp [Hid, giveE, h6]
      have hN : Hid (giveN n [] = n) := by simp [Hid, giveN]; omega
      have hT : Hid (giveT [] = []) := rfl
      have hJ : Hid (giveJ n [] jl last = jl) := by unfold Hid giveJ; rw [hE.out]; rfl
      have hL : Hid (giveL n [] last = last) := by unfold Hid giveL; rw [hE.out]; rfl
      have hP : nextP n [] = -1 := by simp [nextP, h6]
      clear h6
      go_enter Try.func23, Try.ntmps23
      go_wp2_with (go_at_call 50; refine (next_any w g n [] _ md jl vj last h hok').mono ?_; rintro e w' ⟨rfl, hw⟩; obtain rfl := hw.symm)
      go_ret2
      exact ⟨ret_int2 hA.out.symm hE.out.symm, by rw [hN.out, hT.out, hJ.out, hL.out]; exact h.stay (Frm.refl _ _)⟩
    · have hA : Hid (giveA n [] = n) := by simp [Hid, giveA, h6]
      have hE : Hid (giveE n [] = 0) := by simp [Hid, giveE, h6]
      have hN : Hid (giveN n [] = n + 1) := by simp [Hid, giveN, h6]
      have hT : Hid (giveT [] = []) := rfl
      have hJ : Hid (giveJ n [] jl last = jl ++ recF last 71 n) := by unfold Hid giveJ; rw [hE.out, hA.out]; rfl
      have hL : Hid (giveL n [] last = lastF last 71 n) := by unfold Hid giveL; rw [hE.out, hA.out]; rfl
      have hP : nextP n [] = n := by simp [nextP, h6]
      clear h6
      go_enter Try.func23, Try.ntmps23
      go_wp2_with (go_at_call 50; refine (next_any w g n [] _ md jl vj last h hok').mono ?_; rintro e w' ⟨rfl, hw⟩; obtain rfl := hw.symm)
      obtain ⟨vt1, vj1, hY1, hF1, q1, m1⟩ := h.setN (Frm.refl _ w) (n + 1)
      refine (record_any _ g (n + 1) [] vt1 md jl vj1 last 71 n hY1 hj (by omega) (by omega)).mono ?_
      rintro e w5 ⟨rfl, hP⟩
      go_wp2
      go_ret2
      exact ⟨ret_int2 hA.out.symm hE.out.symm, by rw [hN.out, hT.out, hJ.out, hL.out]; exact YPost.trans hF1 q1 m1 hY1 hP⟩
  · obtain ⟨t, x, rfl⟩ := getLast_split tk ht
    have hA : Hid (giveA n (t ++ [x]) = x) := by simp [Hid, giveA]
    have hE : Hid (giveE n (t ++ [x]) = 0) := by simp [Hid, giveE]
    have hN : Hid (giveN n (t ++ [x]) = n) := by simp [Hid, giveN]
    have hT : Hid (giveT (t ++ [x]) = t) := by simp [Hid, giveT]
    have hJ : Hid (giveJ n (t ++ [x]) jl last = jl ++ recF last 71 x) := by unfold Hid giveJ; rw [hE.out, hA.out]; rfl
    have hL : Hid (giveL n (t ++ [x]) last = lastF last 71 x) := by unfold Hid giveL; rw [hE.out, hA.out]; rfl
    have hP : nextP n (t ++ [x]) = x := by simp [nextP]
    have hxr := o4 x (by simp)
    obtain ⟨ao, cap, rfl, hr, -, hlc, hcm, hgg⟩ := owns_rd h.ownT
    obtain ⟨ga, rfl, hx⟩ := hr t.length x (by simp)
    have c1 := h.c1
    have hlen : (t ++ [x]).length = t.length + 1 := by simp
    have hown : w.ownsRow 0 3 1 (.slice (some ⟨ga, 0, none⟩) (t ++ [x]).length cap) (t ++ [x]).length (t.map (Value.int .i64) ++ [.int .i64 x]) := by simpa using h.ownT
    have hpre := owns_take hown
    rw [List.length_map] at hpre
    have hfin := h.setT (Frm.refl _ _) hpre (fun k hk => .inl hk)
    rw [hlen] at c1 o3 hlc
    obtain ⟨p0, p1⟩ := hxr
    clear ht hr hgg hown hpre hlen hx o4
    go_enter Try.func23, Try.ntmps23
    go_wp2_with (go_at_call 50; refine (next_any w g n (t ++ [x]) _ md jl vj last h hok').mono ?_; rintro e w' ⟨rfl, hw⟩; obtain rfl := hw.symm)
    obtain ⟨vt1, vj1, hY1, hF1, q1, m1⟩ := hfin
    refine (record_any _ g n t vt1 md jl vj1 last 71 x hY1 hj (by omega) (by omega)).mono ?_
    rintro e w5 ⟨rfl, hP⟩
    go_wp2
    go_ret2
    exact ⟨ret_int2 hA.out.symm hE.out.symm, by rw [hN.out, hT.out, hJ.out, hL.out]; exact YPost.trans hF1 q1 m1 hY1 hP⟩

set_option maxHeartbeats 1000000 in
theorem refStanding_any (w : World) (g : Nat) (n : Int) (tk : List Int) (vt : Value) (md : Mid) (jl : List Int) (vj : Value) (last : Int) (h : YP w g n tk vt md jl vj last) (hok : Ok n tk) :
    Calls Try.prog 25 #[.pointer (some ⟨g, 0, none⟩)] w fun e w' => ∃ l, e = .returned l ∧ NewList w w' l (standTo n tk n.toNat) := by
  obtain ⟨o1, o2, o3, -⟩ := hok
  obtain ⟨n, rfl⟩ := Int.eq_ofNat_of_zero_le (show 0 ≤ n by omega)
  rw [Int.toNat_natCast]
  have hst : NewList w w (.slice none 0 0) (standTo n tk 0) := ⟨World.ownsRow_nil _ _ _ _, Frm.refl _ _, fun k hk => by simp [Value.ownBlock] at hk⟩
  go_enter Try.func25, Try.ntmps25
  go_wp2
  go_loopw [3, 4] (fun l i wr => ∃ k : Nat, k ≤ n ∧ i = .int .i64 k ∧ NewList w wr l (standTo n tk k)) (fun _ i _ => n - (intOf i).toNat)
  case atStart => exact ⟨0, Nat.zero_le _, rfl, hst⟩
  case round =>
    obtain ⟨k, hk, rfl, hnl⟩ := hrel
    clear hst
    have h' := h.no hnl.2.1
    have c0 := h'.c0
    by_cases hlt : k < n
    · have hll := standTo_len n tk k
      cases hs : standB n tk k with
      | false =>
        have HS : Hid (standTo n tk (k + 1) = standTo n tk k) := standTo_no hs
        go_wp2_with (go_at_call 48; refine (Stands_any _ g n tk _ md jl vj last k h' (by omega)).mono ?_; rintro e w' ⟨rfl, rfl⟩)
        go_roundw
        case rel => exact ⟨k + 1, by omega, by go_num, by rw [HS.out]; exact hnl⟩
        case measure => simp [intOf]; omega
      | true =>
        have HS : Hid (standTo n tk (k + 1) = standTo n tk k ++ [(k : Int)]) := standTo_yes hs
        have hown := hnl.1
        obtain ⟨ao2, cap2, rfl⟩ := owns_shape hown
        go_wp2_with (first | (go_at_call 48; refine (Stands_any _ g n tk _ md jl vj last k h' (by omega)).mono ?_; rintro e w' ⟨rfl, rfl⟩) | (at_builtin; refine wpList_app _ rfl (.tmp 18) (.tmp 20) 24 rfl 3 (.int .i64 0) 1 8 Try.underlying24 Try.info3 rfl (by decide) (.slice ao2 (standTo n tk k).length cap2) (standTo n tk k).length ((standTo n tk k).map (Value.int .i64)) rfl (by exact hown.alloc _) _ 1 1 [.int .i64 k] rfl (by exact src_list _ _ [_] (by simp [Value.oneCell'])) (by simp) (by simp only [maxLen]; omega) (by omega) ?_; intro v1 w1 hA))
        go_roundw
        case rel => exact ⟨k + 1, by omega, by go_num, by rw [HS.out]; exact hnl.push _ hA⟩
        case measure => simp [intOf]; omega
    · have hke : k = n := by omega
      subst hke
      go_wp2
      go_ret
      exact ⟨_, rfl, hnl⟩

def mid0 : Mid := ⟨.int .u64 0, .slice none 0 0, .int .i64 0, .slice none 0 0, .int .i64 0⟩

def NewY (w w' : World) (v : Value) (n : Int) : Prop :=
  if sizeB n then ∃ g vt vj, v = .pointer (some ⟨g, 0, none⟩) ∧ w.heap.size ≤ g ∧ YP w' g n [] vt mid0 (recF 0 80 n) vj (lastF 0 80 n) ∧ (∀ k, vt.ownBlock = some k → w.heap.size ≤ k) ∧ (∀ k, vj.ownBlock = some k → w.heap.size ≤ k) else v = .pointer none

set_option maxHeartbeats 1000000 in
theorem refNew_any (w : World) (n : Int) :
    Calls Try.prog 18 #[.int .i64 n] w fun e w' => ∃ v, e = .returned (.tuple #[v, .int .i64 (sizeE n)]) ∧ Frm NoB w w' ∧ NewY w w' v n := by
  cases hs : sizeB n
  · have hn : ¬ (1 ≤ n ∧ n ≤ 64) := of_decide_eq_false hs
    have hE : Hid (sizeE n = 1) := by simp [Hid, sizeE, hs]
    have hV : NewY w w (.pointer none) n := by simp [NewY, hs]
    by_cases hl : n < 1
    · clear hs hn
      go_enter Try.func18, Try.ntmps18
      go_wp2
      go_ret2
      exact ⟨.pointer none, ret_vi hE.out.symm, Frm.refl _ _, hV⟩
    · have hl2 : 64 < n := by omega
      clear hn hs
      go_enter Try.func18, Try.ntmps18
      go_wp2
      go_ret2
      exact ⟨.pointer none, ret_vi hE.out.symm, Frm.refl _ _, hV⟩
  · have hn : 1 ≤ n ∧ n ≤ 64 := of_decide_eq_true hs
    have hE : Hid (sizeE n = 0) := by simp [Hid, sizeE, hs]
    have HS : Hid (sizeB n = true) := hs
    obtain ⟨hn1, hn2⟩ := hn
    clear hs
    have hY0 : YP (w.alloc (.cells #[.int .i64 n, .slice none 0 0, .int .u64 0, .slice none 0 0, .int .i64 0, .slice none 0 0, .int .i64 0, .slice none 0 0, .int .i64 0] 50)) w.heap.size n [] (.slice none 0 0) mid0 [] (.slice none 0 0) 0 :=
      ⟨heap_alloc_new w _, World.ownsRow_nil _ _ _ _, World.ownsRow_nil _ _ _ _, by omega⟩
    go_enter Try.func18, Try.ntmps18
    go_wp2_with fail
    refine (record_any _ w.heap.size n [] _ mid0 [] _ 0 80 n hY0 (by simp) (by omega) (by omega)).mono ?_
    rintro e w5 ⟨rfl, vt', vj', hY, hF, q1, m1⟩
    go_wp2
    go_ret2
    have z := hF.size
    refine ⟨.pointer (some ⟨w.heap.size, 0, none⟩), ret_vi hE.out.symm, ?_, ?_⟩
    · refine Frm.trans ((Frm.refl NoB w).alloc _) hF (fun _ s => s) ?_
      intro i hi hc
      rcases hc with hc | hc | hc
      · omega
      · simp [Value.ownBlock] at hc
      · simp [Value.ownBlock] at hc
    · unfold NewY
      rw [if_pos HS.out]
      refine ⟨w.heap.size, vt', vj', rfl, Nat.le_refl _, by simpa using hY, fun k hk => ?_, fun k hk => ?_⟩
      · rcases q1 k hk with y | y
        · simp [Value.ownBlock] at y
        · simp at y; omega
      · rcases m1 k hk with y | y
        · simp [Value.ownBlock] at y
        · simp at y; omega
end Go.Proofs.Ytinadpanpnenjaa
