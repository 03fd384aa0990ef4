/- moved, alone: any moves of a pool. -/
import Derived.Test.YtpioacgknamemaaMoves
import Derived.Test.YtpioacgknamemaaRead
namespace Go.Proofs.Ytpioacgknamemaa
open Go Go.RowKit

/-- Where the loop of moved stands. -/
structure LpM (O : Nat → Prop) (ws wr : World) (g : Nat) (m : Int) : Prop where
  frm : Frm O ws wr
  ex : ∃ O' tk rows, PoolS wr g O' tk rows m ∧ St tk rows ∧ ∀ k, O' k → Ext O ws k

theorem LpM.step {O O' : Nat → Prop} {ws wr w1 w2 : World} {g : Nat} {m : Int} {tk' : List Int} {rows' : List (List Int)} (h : LpM O ws wr g m) (hO : ∀ k, O' k → Ext O ws k) (hN : Frm NoB wr w1) (hF : Frm O' w1 w2) (hP : PoolS w2 g (Ext O' w1) tk' rows' m) (hs : St tk' rows') : LpM O ws w2 g m := by
  have hz := h.frm.size
  have hz1 := hN.size
  refine ⟨(h.frm.trans hN (fun _ s => s) (fun _ _ s => s.elim)).trans hF (fun _ s => s) (fun k hk s => (hO k s).elim id (fun q => by omega)), Ext O ws, tk', rows', hP.sub (fun k hk => ?_), hs, fun _ s => s⟩
  rcases hk with hk | hk
  · exact hO k hk
  · exact .inr (by omega)

theorem tdiv3 {x : Int} (h : -9223372036854775808 ≤ x ∧ x ≤ 9223372036854775807) : -9223372036854775808 ≤ x.tdiv 3 ∧ x.tdiv 3 ≤ 9223372036854775807 := by
  rcases Int.le_total 0 x with h0 | h0
  · rw [Int.tdiv_eq_ediv_of_nonneg h0]; omega
  · have e : x.tdiv 3 = -((-x) / 3) := by
      have h1 : x = -(-x) := by omega
      conv => lhs; rw [h1]
      rw [Int.neg_tdiv, Int.tdiv_eq_ediv_of_nonneg (by omega)]
    rw [e]; omega

theorem srt_at {row : List Int} {j : Nat} (h : j < row.length) : ∃ p, (srt row)[j]? = some p ∧ p ∈ row := by
  have hl : j < (srt row).length := by rw [srt_length]; exact h
  exact ⟨(srt row)[j], List.getElem?_eq_getElem hl, mem_srt.1 (List.getElem_mem hl)⟩

set_option maxRecDepth 100000 in
set_option maxHeartbeats 1000000 in
theorem moved_any (O : Nat → Prop) (w : World) (g : Nat) (tk : List Int) (rows : List (List Int)) (m : Int) (h : PoolS w g O tk rows m) (hs : St tk rows) (ao : Option Addr) (mc : Nat) (mv : List Int) (hM : IntsAt w ao mv) (hlen : mv.length ≤ 9223372036854775807) (hMO : ∀ a, ao = some a → 0 < mv.length → ¬ O a.block) :
    Calls Try.prog 9 #[.pointer (some ⟨g, 0, none⟩), .slice ao mv.length mc] w fun e w' => e = .returned (.bool true) ∧ LpM O w w' g m := by
  have H0 : LpM O w w g m := ⟨Frm.refl _ _, O, tk, rows, h, hs, fun k hk => .inl hk⟩
  clear h hs
  go_enter Try.func9, Try.ntmps9
  go_wp2
  go_loopw [5] (fun i wr => ∃ k : Nat, k ≤ mv.length ∧ k ≤ 60 ∧ i = .int .i64 k ∧ Hid (LpM O w wr g m)) (fun i _ => mv.length - (intOf i).toNat)
  case atStart => exact ⟨0, by omega, by omega, rfl, H0⟩
  case round =>
    obtain ⟨k, hk, hk60, rfl, H⟩ := hrel
    by_cases hlt : k < mv.length
    · by_cases h60 : k < 60
      · obtain ⟨O', tk1, rows1, hP, hS, hO⟩ := H.out.ex
        obtain ⟨front, row, rfl⟩ := hS.split
        have hl := hS.lens
        obtain ⟨x, hx⟩ : ∃ x, mv[k]? = some x := ⟨_, List.getElem?_eq_getElem hlt⟩
        have hxr := hM.rng x (List.mem_of_getElem? hx)
        have hMr := hM.frm H.out.frm hMO
        obtain ⟨ad, rfl, hcx⟩ := hMr.cell k x hx
        have hsl := srt_length row
        have hbl : (ad.add k).block < wr.heap.size := World.block_lt_of_cell? _ _ hcx
        have HS : Hid (St tk1 (front ++ [row])) := hS
        have HP : Hid (PoolS wr g O' tk1 (front ++ [row]) m) := hP
        have HO : Hid (∀ k, O' k → Ext O w k) := hO
        clear hS hP hO hx hMr H0 hM hMO
        by_cases hpk : pickF x 3 = 0 ∨ row.length = 1
        · obtain ⟨p, e, tk2, rows2, hG, he⟩ := give_ex HS.out
          have HG : Hid (Giv tk1 (front ++ [row]) p e tk2 rows2) := hG
          clear hG
          have hcase : (pickF x 3 = 0 ∧ True) ∨ (¬ pickF x 3 = 0 ∧ (row.length : Int) = 1) := by
            rcases hpk with q | q
            · exact .inl ⟨q, trivial⟩
            · by_cases q2 : pickF x 3 = 0
              · exact .inl ⟨q2, trivial⟩
              · exact .inr ⟨q2, by omega⟩
          clear hpk
          rcases hcase with ⟨hp0, hp1⟩ | ⟨hp0, hp1⟩ <;> rcases he with rfl | rfl
          all_goals
            go_wp2_with (first
              | (go_at_call 10; refine (stand_any HP.out HS.out).mono ?_; rintro e w1 ⟨l, rfl, hN⟩; obtain ⟨al, cl, rfl⟩ := owns_shape hN.1; rw [hsl]; have hcx1 : w1.cell? (ad.add k) = some (.int .i64 x) := (World.cell?_of_block (hN.2.1.block _ hbl (fun s => s))).trans hcx)
              | (go_at_call 8; with_reducible refine (pick_any x 3 _ hxr.1 hxr.2 (by decide) (by decide)).mono ?_; rintro e w' ⟨rfl, hw⟩; obtain rfl := hw.symm)
              | (go_at_call 11; refine (give_any (HP.out.no hN.2.1) HG.out).mono ?_; rintro e' w2 ⟨rfl, hF2, hP2⟩))
            go_roundw
            case rel => exact ⟨k + 1, by omega, by omega, by go_num, H.out.step HO.out hN.2.1 hF2 hP2 (HG.out.st HS.out)⟩
            case measure => simp [intOf]; omega
        · have hp0 : ¬ pickF x 3 = 0 := fun q => hpk (.inl q)
          have hp1 : ¬ (row.length : Int) = 1 := fun q => hpk (.inr (by omega))
          have hb1 : (pickF x 3 == 0) = false := by simpa using hp0
          have hb2 : ((row.length : Int) == 1) = false := beq_eq_false_iff_ne.2 hp1
          have hb3 : (pickF x 3 == 0 || (row.length : Int) == 1) = false := by rw [hb1, hb2]; rfl
          have hr2 : 2 ≤ row.length := by omega
          have hq := tdiv3 hxr
          obtain ⟨j, HJ⟩ : ∃ j : Nat, Hid (pickF (x.tdiv 3) row.length = (j : Int)) := ⟨(pickF (x.tdiv 3) row.length).toNat, by show _ = _; have := pickF_nonneg (x.tdiv 3) row.length (by omega); omega⟩
          have hj : j < row.length := by have := HJ.out; have := pickF_lt (x.tdiv 3) row.length (by omega); omega
          have hj0 : (0 : Int) ≤ (j : Int) := by omega
          have hj1 : (j : Int) < (row.length : Int) := by omega
          obtain ⟨p, hpj, hpm⟩ := srt_at hj
          obtain ⟨tk2, rows2, hT⟩ := take_ex HS.out hpm hr2
          have HT : Hid (Tak tk1 (front ++ [row]) p tk2 rows2) := hT
          have HPJ : Hid ((srt row)[j]? = some p) := hpj
          clear hT hpk hpj
          go_wp2_with (first
            | (go_at_call 10; refine (stand_any HP.out HS.out).mono ?_; rintro e w1 ⟨l, rfl, hN⟩; obtain ⟨al, cl, rfl, hRl, _⟩ := owns_rd hN.1; obtain ⟨lb, rfl, hcl⟩ := hRl j p HPJ.out; have hadd := add0 lb j; rw [hsl]; have hcx1 : w1.cell? (ad.add k) = some (.int .i64 x) := (World.cell?_of_block (hN.2.1.block _ hbl (fun s => s))).trans hcx)
            | (go_at_call 8; with_reducible refine (pick_any x 3 _ hxr.1 hxr.2 (by decide) (by decide)).mono ?_; rintro e w' ⟨rfl, hw⟩; obtain rfl := hw.symm)
            | (go_at_call 8; with_reducible refine (pick_any (x.tdiv 3) row.length _ hq.1 hq.2 (by omega) (by omega)).mono ?_; rintro e w' ⟨rfl, hw⟩; obtain rfl := hw.symm; rw [HJ.out])
            | (go_at_call 13; refine (take_any (HP.out.no hN.2.1) HS.out HT.out).mono ?_; rintro e' w2 ⟨rfl, hF2, hP2⟩))
          go_roundw
          case rel => exact ⟨k + 1, by omega, by omega, by go_num, H.out.step HO.out hN.2.1 hF2 hP2 (HT.out.st HS.out)⟩
          case measure => simp [intOf]; omega
      · go_wp2
        go_ret
        exact ⟨rfl, H.out⟩
    · go_wp2
      go_ret
      exact ⟨rfl, H.out⟩
end Go.Proofs.Ytpioacgknamemaa
