/- The document's pool in memory: what stands, Take, Give, Standing, New. -/
import Derived.Test.YtinadpanpnenjaaRef
namespace Go.Proofs.Ytinadpanpnenjaa
open Go.RowKit

theorem Try.info3' : (Try.prog.info? 3).map (fun i => (i.zero, i.size, i.bytes)) = some (some (.int .i64 0), 1, 8) := by kernel_rfl

set_option maxHeartbeats 400000 in
theorem Stands_any (w : World) (g : Nat) (n : Int) (tk : List Int) (vt : Value) (md : Mid) (jl : List Int) (vj : Value) (last p : Int) (h : YP w g n tk vt md jl vj last) (hl : tk.length ≤ 1000) :
    Calls Try.prog 48 #[.pointer (some ⟨g, 0, none⟩), .int .i64 p] w fun e w' => e = .returned (.bool (standB n tk p)) ∧ w' = w := by
  obtain ⟨ao, cap, rfl, hr, -⟩ := owns_rd h.ownT
  have c0 := h.c0
  have c1 := h.c1
  by_cases hp : 0 ≤ p
  · by_cases hn : p < n
    · have hS : Hid (standB n tk p = decide (idx p tk 0 < 0)) := by simp [Hid, standB, hp, hn]
      have hq : decide (p < n) = true := by simpa using hn
      have hq0 : decide (0 ≤ p) = true := by simpa using hp
      go_enter Try.func48, Try.ntmps48
      go_wp2_with (go_at_call 60; refine (index_any tk ao cap p _ hr (by omega)).mono ?_; rintro e w' ⟨rfl, rfl⟩)
      go_ret
      exact ⟨ret_bool (by rw [hS.out]), rfl⟩
    · have hS : Hid (standB n tk p = false) := by simp [Hid, standB, hn]
      have hq : decide (p < n) = false := by simpa using hn
      have hq0 : decide (0 ≤ p) = true := by simpa using hp
      go_enter Try.func48, Try.ntmps48
      go_wp2_with (go_at_call 60; refine (index_any tk ao cap p _ hr (by omega)).mono ?_; rintro e w' ⟨rfl, rfl⟩)
      go_ret
      exact ⟨ret_bool (by rw [hS.out]), rfl⟩
  · have hS : Hid (standB n tk p = false) := by simp [Hid, standB, hp]
    have hq0 : decide (0 ≤ p) = false := by simpa using hp
    go_enter Try.func48, Try.ntmps48
    go_wp2_with (go_at_call 60; refine (index_any tk ao cap p _ hr (by omega)).mono ?_; rintro e w' ⟨rfl, rfl⟩)
    go_ret
    exact ⟨ret_bool (by rw [hS.out]), rfl⟩

def takeJ (n : Int) (tk : List Int) (p : Int) (jl : List Int) (last : Int) : List Int := if takeE n tk p = 0 then jl ++ recF last 84 p else jl
def takeL (n : Int) (tk : List Int) (p : Int) (last : Int) : Int := if takeE n tk p = 0 then lastF last 84 p else last

set_option maxHeartbeats 1000000 in
theorem refTake_any (w : World) (g : Nat) (n : Int) (tk : List Int) (vt : Value) (md : Mid) (jl : List Int) (vj : Value) (last p : Int) (h : YP w g n tk vt md jl vj last) (hok : Ok n tk) (hp : -9223372036854775808 ≤ p ∧ p ≤ 9223372036854775807)
    (hj : jl.length ≤ 140737488355000) :
    Calls Try.prog 21 #[.pointer (some ⟨g, 0, none⟩), .int .i64 p] w fun e w' => e = .returned (.int .i64 (takeE n tk p)) ∧ YPost w w' g vt vj (takeN n tk p) (takeT n tk p) md (takeJ n tk p jl last) (takeL n tk p last) := by
  obtain ⟨o1, o2, o3, -⟩ := hok
  cases hs : standB n tk p with
  | false =>
    have hE : Hid (takeE n tk p = 2) := by simp [Hid, takeE, hs]
    have hN : Hid (takeN n tk p = n) := by simp [Hid, takeN, hs]
    have hT : Hid (takeT n tk p = tk) := by simp [Hid, takeT, hs]
    have hJ : Hid (takeJ n tk p jl last = jl) := by unfold Hid takeJ; rw [hE.out]; rfl
    have hL : Hid (takeL n tk p last = last) := by unfold Hid takeL; rw [hE.out]; rfl
    go_enter Try.func21, Try.ntmps21
    go_wp2_with (go_at_call 48; refine (Stands_any w g n tk vt md jl vj last p h (by omega)).mono ?_; rintro e w' ⟨rfl, rfl⟩)
    go_ret
    exact ⟨ret_int hE.out.symm, by rw [hN.out, hT.out, hJ.out, hL.out]; exact h.stay (Frm.refl _ _)⟩
  | true =>
    have hr := stand_range hs
    have c0 := h.c0
    obtain ⟨ao, cap, rfl, -, hao, hlc, hcm, -⟩ := owns_rd h.ownT
    have c1 := h.c1
    have f0 := h.fz 0
    have f1 := h.fz 1
    by_cases ho : n - tk.length = 1
    · have hE : Hid (takeE n tk p = 3) := by simp [Hid, takeE, hs, ho]
      have hN : Hid (takeN n tk p = n) := by simp [Hid, takeN, ho]
      have hT : Hid (takeT n tk p = tk) := by simp [Hid, takeT, ho]
      have hJ : Hid (takeJ n tk p jl last = jl) := by unfold Hid takeJ; rw [hE.out]; rfl
      have hL : Hid (takeL n tk p last = last) := by unfold Hid takeL; rw [hE.out]; rfl
      have ho1 : (n - tk.length == 1) = true := by simpa using ho
      clear ho hao
      go_enter Try.func21, Try.ntmps21
      go_wp2_with (go_at_call 48; refine (Stands_any w g n tk _ md jl vj last p h (by omega)).mono ?_; rintro e w' ⟨rfl, rfl⟩)
      go_quiet (fail)
      go_wp2
      go_ret
      exact ⟨ret_int hE.out.symm, by rw [hN.out, hT.out, hJ.out, hL.out]; exact h.stay ((Frm.refl _ _).drewN _)⟩
    · have hE : Hid (takeE n tk p = 0) := by simp [Hid, takeE, hs, ho]
      have hJ : Hid (takeJ n tk p jl last = jl ++ recF last 84 p) := by unfold Hid takeJ; rw [hE.out]; rfl
      have hL : Hid (takeL n tk p last = lastF last 84 p) := by unfold Hid takeL; rw [hE.out]; rfl
      have ho1 : (n - tk.length == 1) = false := by simpa using ho
      by_cases hc : tk = [] ∧ p = n - 1
      · obtain ⟨rfl, rfl⟩ := hc
        have hN : Hid (takeN n [] (n - 1) = n - 1) := by unfold Hid takeN; rw [if_pos ⟨hs, ho, rfl, rfl⟩]
        have hT : Hid (takeT n [] (n - 1) = []) := by simp [Hid, takeT]
        clear ho hao
        go_enter Try.func21, Try.ntmps21
        go_wp2_with (go_at_call 48; refine (Stands_any w g n [] _ md jl vj last (n - 1) h (by simp)).mono ?_; rintro e w' ⟨rfl, hw⟩; obtain rfl := hw.symm)
        go_quiet (fail)
        go_wp2_with fail
        obtain ⟨vt1, vj1, hY1, hF1, q1, m1⟩ := h.setN ((Frm.refl _ w).drewN _) (n - 1)
        refine (record_any _ g (n - 1) [] vt1 md jl vj1 last 84 (n - 1) hY1 hj (by omega) (by omega)).mono ?_
        rintro e w5 ⟨rfl, hP⟩
        go_wp2
        go_ret
        exact ⟨ret_int hE.out.symm, by rw [hN.out, hT.out, hJ.out, hL.out]; exact YPost.trans hF1 q1 m1 hY1 hP⟩
      · have hN : Hid (takeN n tk p = n) := by unfold Hid takeN; rw [if_neg (fun q => hc q.2.2)]
        have hT : Hid (takeT n tk p = tk ++ [p]) := by unfold Hid takeT; rw [if_pos ⟨hs, ho, hc⟩]
        have hsrc := owns_src h.ownT
        have hblk := h.blk
        clear ho hao hlc hcm
        by_cases ht : tk = []
        · have hb : (p == n - 1) = false := by simp; exact fun q => hc ⟨ht, q⟩
          clear hc
          subst ht
          go_enter Try.func21, Try.ntmps21
          go_wp2_with (go_at_call 48; refine (Stands_any w g n ([] : List Int) _ md jl vj last p h (by first | omega | simp)).mono ?_; rintro e w' ⟨rfl, hw⟩; obtain rfl := hw.symm)
          go_quiet (fail)
          go_wp2_with (first | (at_builtin; refine wpList_app _ rfl (.tmp 10) (.tmp 14) 24 rfl 3 (.int .i64 0) 1 8 Try.underlying24 Try.info3' rfl (by decide) (.slice none 0 0) 0 [] rfl (by exact World.ownsRow_nil _ _ _ _) ao ([] : List Int).length cap (([] : List Int).map (Value.int .i64)) rfl (by exact hsrc.1) (by exact hsrc.2) (by simp only [maxLen]; omega) (by omega) ?_; intro v3 w3 hA; obtain ⟨ao3, cap3, rfl⟩ := owns_shape hA.own; rw [Nat.zero_add] at hA; have hF3 := (Frm.refl NoB _).grown hA.grown (fun k hk => by simp [Value.ownBlock] at hk); have hO3 : w3.ownsRow 0 3 1 (.slice ao3 ([] : List Int).length cap3) ([] : List Int).length (([] : List Int).map (Value.int .i64)) := (by simpa using hA.own)) | (at_builtin; refine wpList_app _ rfl (.tmp 17) (.tmp 19) 24 rfl 3 (.int .i64 0) 1 8 Try.underlying24 Try.info3' rfl (by decide) (.slice ao3 ([] : List Int).length cap3) ([] : List Int).length (([] : List Int).map (Value.int .i64)) rfl (by exact hO3.alloc _) _ 1 1 [.int .i64 p] rfl (by exact src_list _ _ [_] (by simp [Value.oneCell'])) (by simp) (by simp only [maxLen]; omega) (by omega) ?_; intro v4 w4 hB; obtain ⟨ao4, cap4, rfl⟩ := owns_shape hB.own; have hF4 := ((hF3.alloc _).grown hB.grown (fun k hk => (hA.new k hk).elim (fun z => by simp [Value.ownBlock] at z) .inr)); have c1' := cell_of_row w4 g 1 _ _ _ (hF4.keep hblk (fun s => s)); have f1' := frozen_of_row w4 g 1 _ _ (hF4.keep hblk (fun s => s))))
          have hFa : Frm NoB w w4 := Frm.trans (T := NoB) ((Frm.refl NoB w).drewN _) hF4 (fun _ s => s) (fun _ _ s => s)
          have hsz := hF3.size
          have hw0 := hF4.size
          obtain ⟨vt1, vj1, hY1, hF1, q1, m1⟩ := h.setT (tk' := ([] : List Int) ++ [p]) hFa (by simpa using hB.own) (fun k hk => .inr (by
            rcases hB.new k hk with z | z
            · rcases hA.new k z with y | y
              · simp [Value.ownBlock] at y
              · exact y
            · simp at z hsz; omega))
          refine (record_any _ g n (([] : List Int) ++ [p]) vt1 md jl vj1 last 84 p hY1 hj (by omega) (by omega)).mono ?_
          rintro e w5 ⟨rfl, hP⟩
          go_wp2
          go_ret
          exact ⟨ret_int hE.out.symm, by rw [hN.out, hT.out, hJ.out, hL.out]; exact YPost.trans hF1 q1 m1 hY1 hP⟩
        · clear hc
          go_enter Try.func21, Try.ntmps21
          go_wp2_with (go_at_call 48; refine (Stands_any w g n tk _ md jl vj last p h (by first | omega | simp)).mono ?_; rintro e w' ⟨rfl, hw⟩; obtain rfl := hw.symm)
          go_quiet (fail)
          go_wp2_with (first | (at_builtin; refine wpList_app _ rfl (.tmp 10) (.tmp 14) 24 rfl 3 (.int .i64 0) 1 8 Try.underlying24 Try.info3' rfl (by decide) (.slice none 0 0) 0 [] rfl (by exact World.ownsRow_nil _ _ _ _) ao tk.length cap (tk.map (Value.int .i64)) rfl (by exact hsrc.1) (by exact hsrc.2) (by simp only [maxLen]; omega) (by omega) ?_; intro v3 w3 hA; obtain ⟨ao3, cap3, rfl⟩ := owns_shape hA.own; rw [Nat.zero_add] at hA; have hF3 := (Frm.refl NoB _).grown hA.grown (fun k hk => by simp [Value.ownBlock] at hk); have hO3 : w3.ownsRow 0 3 1 (.slice ao3 tk.length cap3) tk.length (tk.map (Value.int .i64)) := (by simpa using hA.own)) | (at_builtin; refine wpList_app _ rfl (.tmp 17) (.tmp 19) 24 rfl 3 (.int .i64 0) 1 8 Try.underlying24 Try.info3' rfl (by decide) (.slice ao3 tk.length cap3) tk.length (tk.map (Value.int .i64)) rfl (by exact hO3.alloc _) _ 1 1 [.int .i64 p] rfl (by exact src_list _ _ [_] (by simp [Value.oneCell'])) (by simp) (by simp only [maxLen]; omega) (by omega) ?_; intro v4 w4 hB; obtain ⟨ao4, cap4, rfl⟩ := owns_shape hB.own; have hF4 := ((hF3.alloc _).grown hB.grown (fun k hk => (hA.new k hk).elim (fun z => by simp [Value.ownBlock] at z) .inr)); have c1' := cell_of_row w4 g 1 _ _ _ (hF4.keep hblk (fun s => s)); have f1' := frozen_of_row w4 g 1 _ _ (hF4.keep hblk (fun s => s))))
          have hFa : Frm NoB w w4 := Frm.trans (T := NoB) ((Frm.refl NoB w).drewN _) hF4 (fun _ s => s) (fun _ _ s => s)
          have hsz := hF3.size
          have hw0 := hF4.size
          obtain ⟨vt1, vj1, hY1, hF1, q1, m1⟩ := h.setT (tk' := tk ++ [p]) hFa (by simpa using hB.own) (fun k hk => .inr (by
            rcases hB.new k hk with z | z
            · rcases hA.new k z with y | y
              · simp [Value.ownBlock] at y
              · exact y
            · simp at z hsz; omega))
          refine (record_any _ g n (tk ++ [p]) vt1 md jl vj1 last 84 p hY1 hj (by omega) (by omega)).mono ?_
          rintro e w5 ⟨rfl, hP⟩
          go_wp2
          go_ret
          exact ⟨ret_int hE.out.symm, by rw [hN.out, hT.out, hJ.out, hL.out]; exact YPost.trans hF1 q1 m1 hY1 hP⟩
end Go.Proofs.Ytinadpanpnenjaa
