/- The law's book of lists that came out: same, numbers. -/
import Derived.Test.YtinadpanpnenjaaRefC
namespace Go.Proofs.Ytinadpanpnenjaa
open Go.RowKit

set_option maxHeartbeats 400000 in
theorem same_any (xs : List Int) (ao bo : Option Addr) (cap cap' : Nat) (w : World) (hr : Rd w .i64 ao xs) (hr' : Rd w .i64 bo xs) (hl : xs.length ≤ 1000000) :
    Calls Try.prog 26 #[.slice ao xs.length cap, .slice bo xs.length cap'] w fun e w' => e = .returned (.bool true) ∧ Frm NoB w w' := by
  go_enter Try.func26, Try.ntmps26
  go_wp2
  go_loopw [5] (fun i wr => ∃ k : Nat, k ≤ xs.length ∧ i = .int .i64 k ∧ ∃ q, wr = w.drewN q) (fun i _ => xs.length - (intOf i).toNat)
  case atStart => exact ⟨0, Nat.zero_le _, rfl, 0, rfl⟩
  case round =>
    obtain ⟨k, hk, rfl, q, rfl⟩ := hrel
    by_cases hlt : k < xs.length
    · obtain ⟨x, hx⟩ : ∃ x, xs[k]? = some x := ⟨_, List.getElem?_eq_getElem hlt⟩
      obtain ⟨g, rfl, hc⟩ := hr k x hx
      obtain ⟨g', rfl, hc'⟩ := hr' k x hx
      clear hr hr' hx
      go_wp2
      go_quiet (fail)
      go_wp2
      go_roundw
      case rel => exact ⟨k + 1, by omega, by go_num, _, rfl⟩
      case measure => simp [intOf]; omega
    · have hke : k = xs.length := by omega
      clear hr hr'
      go_wp2
      go_ret
      exact ⟨rfl, (Frm.refl _ _).drewN _⟩

theorem Try.info24 : (Try.prog.info? 24).map (fun i => (i.zero, i.size, i.bytes)) = some (some (.slice none 0 0), 1, 24) := by kernel_rfl

/-- A list that is written full of a mark. -/
def Full (w : World) (v : Value) (m : Int) : Prop := ∃ n, w.ownsRow 0 3 1 v n (List.replicate n (Value.int .i64 m))

theorem Full.frm {S : Nat → Prop} {w w' : World} {v : Value} {m : Int} (h : Full w v m) (hf : Frm S w w') (hn : ∀ k, v.ownBlock = some k → ¬ S k) : Full w' v m := by
  obtain ⟨n, h⟩ := h
  exact ⟨n, hf.owns h hn⟩

theorem Full.lt {w : World} {v : Value} {m : Int} (h : Full w v m) {k : Nat} (hk : v.ownBlock = some k) : k < w.heap.size := by
  obtain ⟨n, h⟩ := h
  exact owns_lt h hk

/-- An append of the mark keeps every list full that shares the block. -/
theorem App.full {w w' : World} {l v' : Value} {n c : Nat} {m : Int} (hA : App w w' 3 1 l v' n c (List.replicate n (Value.int .i64 m)) (List.replicate c (Value.int .i64 m))) {u : Value} (hu : Full w u m) : Full w' u m := by
  obtain ⟨nu, hu⟩ := hu
  refine ⟨nu, hu.1, ?_⟩
  rcases hu.2 with hq | ⟨b, cap, cur, rfl, hb, hbb, hnc, hcm, hcs, htake⟩
  · exact .inl hq
  · by_cases hl : l.ownBlock = some b
    · rcases hA.row b cur hl hbb with hr | ⟨hfit, hr⟩
      · exact .inr ⟨b, cap, cur, rfl, hb, hr, hnc, hcm, hcs, htake⟩
      · simp only [Nat.mul_one, List.length_replicate] at hfit hr hcs htake ⊢
        refine .inr ⟨b, cap, _, rfl, hb, hr, hnc, hcm, ?_, ?_⟩
        · simp only [List.size_toArray, List.length_append, List.length_take, List.length_drop, Array.length_toList, List.length_replicate]
          omega
        · refine List.ext_getElem? (fun i => ?_)
          have hti := congrArg (fun z => z[i]?) htake
          simp only [List.getElem?_take, List.getElem?_replicate] at hti ⊢
          by_cases hi : i < nu
          · rw [if_pos hi] at hti ⊢
            rw [if_pos hi] at hti ⊢
            rw [List.append_assoc, List.getElem?_append, List.getElem?_append]
            simp only [List.length_take, Array.length_toList, List.length_replicate, List.getElem?_take, List.getElem?_replicate, List.getElem?_drop]
            by_cases h1 : i < n
            · rw [if_pos (by omega), if_pos h1]; exact hti
            · rw [if_neg (by omega)]
              by_cases h2 : i < n + c
              · rw [if_pos (by omega), if_pos (by omega)]
              · rw [if_neg (by omega)]
                rw [show n + c + (i - min n cur.size - c) = i by omega]
                exact hti
          · rw [if_neg hi, if_neg hi]
    · exact .inr ⟨b, cap, cur, rfl, hb, (hA.grown.block b (lt_of_block hbb) (fun e => hl e.symm)).trans hbb, hnc, hcm, hcs, htake⟩

theorem App.fullNew {w w' : World} {l v' : Value} {n c : Nat} {m : Int} (hA : App w w' 3 1 l v' n c (List.replicate n (Value.int .i64 m)) (List.replicate c (Value.int .i64 m))) : Full w' v' m := by
  refine ⟨n + c, ?_⟩
  have := hA.own
  rwa [List.replicate_append_replicate] at this

end Go.Proofs.Ytinadpanpnenjaa
