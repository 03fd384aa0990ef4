/- The law's book of lists that came out: kept. -/
import Derived.Test.YtinadpanpnenjaaNumbers
namespace Go.Proofs.Ytinadpanpnenjaa
open Go.RowKit

theorem owns_at {w : World} {e : TypeId} {ao : Option Addr} {n cap : Nat} {xs : List Value} (ho : w.ownsRow 0 e 1 (.slice ao n cap) n xs) (j : Nat) (x : Value) (hx : xs[j]? = some x) : ∃ g, ao = some ⟨g, 0, none⟩ ∧ w.cell? ⟨g, j, none⟩ = some x := by
  have hl : xs.length = n := by simpa using ho.1
  have hj : j < xs.length := (List.getElem?_eq_some_iff.1 hx).1
  obtain ⟨g, rfl⟩ := owns_some ho (by omega)
  exact ⟨g, rfl, by rw [ho.cellAt j (by omega), hx]⟩

theorem owns_max {w : World} {e : TypeId} {v : Value} {n : Nat} {xs : List Value} (ho : w.ownsRow 0 e 1 v n xs) : n ≤ 9223372036854775807 := by
  rcases ho.2 with ⟨_, h⟩ | ⟨g, cap', cur, _, _, _, h1, h2, _⟩
  · omega
  · simp only [maxLen] at h2; omega

set_option maxHeartbeats 2000000 in
theorem kept_any (w : World) (g : Nat) (vl vns vkn : Value) (es : List (Value × Int)) (h : WB w g vl vns vkn es) (hf : ∀ e ∈ es, Full w e.1 e.2) :
    Calls Try.prog 6 #[.pointer (some ⟨g, 1, none⟩)] w fun e w' => e = .returned (.bool true) ∧ Frm NoB w w' := by
  have c1 : w.cell? ⟨g, 1, none⟩ = some (.slice none 0 0) := by rw [cell_of_row w g 1 _ _ _ h.blk]; rfl
  have c3 : w.cell? ⟨g, 3, none⟩ = some vns := by rw [cell_of_row w g 3 _ _ _ h.blk]; rfl
  have c4 : w.cell? ⟨g, 4, none⟩ = some vkn := by rw [cell_of_row w g 4 _ _ _ h.blk]; rfl
  have hN := h.ownN
  have hK := h.ownK
  obtain ⟨aoN, capN, rfl⟩ := owns_shape hN
  obtain ⟨aoK, capK, rfl⟩ := owns_shape hK
  have hmx := owns_max hN
  clear h
  go_enter Try.func6, Try.ntmps6
  go_wp2
  go_loop [3] (fun i => i = .int .i64 0) (fun _ => 0)
  case atStart => rfl
  case round =>
    subst hrel
    go_wp2
    go_loopw [5] (fun i wr => ∃ k : Nat, k ≤ es.length ∧ i = .int .i64 k ∧ ∃ q, wr = w.drewN q) (fun i _ => es.length - (intOf i).toNat)
    case atStart => exact ⟨0, Nat.zero_le _, rfl, 0, rfl⟩
    case round =>
      obtain ⟨k, hk, rfl, q, rfl⟩ := hrel
      by_cases hlt : k < es.length
      · obtain ⟨e, he⟩ : ∃ e, es[k]? = some e := ⟨_, List.getElem?_eq_getElem hlt⟩
        obtain ⟨nn, hful⟩ := hf e (List.mem_of_getElem? he)
        obtain ⟨u, m⟩ := e
        obtain ⟨aoE, capE, rfl⟩ := owns_shape hful
        obtain ⟨gn, rfl, cn⟩ := owns_at hN k _ (by rw [List.getElem?_map, he]; rfl)
        obtain ⟨gk, rfl, ck⟩ := owns_at hK k _ (by rw [List.getElem?_map, he]; rfl)
        have hmn := owns_max hful
        simp only at cn ck
        have HF : Hid (∀ e ∈ es, Full w e.1 e.2) := hf
        clear hN hK he hf
        go_wp2
        go_loopw [6] (fun i wr => ∃ j : Nat, j ≤ nn ∧ i = .int .i64 j ∧ ∃ q, wr = w.drewN q) (fun i _ => nn - (intOf i).toNat)
        case atStart => exact ⟨0, Nat.zero_le _, rfl, q, rfl⟩
        case round =>
          obtain ⟨j, hj, rfl, q', rfl⟩ := hrel
          by_cases hjl : j < nn
          · obtain ⟨gE, rfl, cE⟩ := owns_at hful j (.int .i64 m) (by rw [List.getElem?_replicate, if_pos hjl])
            clear hful
            go_wp2
            go_quiet (fail)
            go_wp2
            go_roundw
            case rel => exact ⟨j + 1, by omega, by go_num, _, rfl⟩
            case measure => simp [intOf]; omega
          · have hje : j = nn := by omega
            clear hful
            go_wp2
            go_roundw
            case rel => exact ⟨k + 1, by omega, by go_num, _, rfl⟩
            case measure => simp [intOf]; omega
      · have hke : k = es.length := by omega
        clear hN hK hf
        go_wp2
        go_ret
        exact ⟨rfl, (Frm.refl _ _).drewN _⟩
end Go.Proofs.Ytinadpanpnenjaa
