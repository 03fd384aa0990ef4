/- Find, alone: where a key goes. -/
import Derived.Test.YtpioacgknamemaaLeaf
namespace Go.Proofs.Ytpioacgknamemaa
open Go.RowKit

def rowOf (tk : List Int) (rows : List (List Int)) (p : Int) : List Int := rows.getD ((idx p tk 0).toNat + 1) []
noncomputable def spotOf (key p : Int) (row : List Int) : Int := mixF (bits .xor .u64 key (mixF (p + 1))) % row.length
noncomputable def nxt (key : Int) (tk : List Int) (rows : List (List Int)) (p : Int) : Int := (rowOf tk rows p).getD (spotOf key p (rowOf tk rows p)).toNat 0
noncomputable def fnd (key : Int) (tk : List Int) (rows : List (List Int)) : Nat → Int → Int
  | 0, p => p
  | m + 1, p => if idx p tk 0 < 0 then p else fnd key tk rows m (nxt key tk rows p)

/-- What is asked of the rows. -/
structure RowsOk (tk : List Int) (rows : List (List Int)) : Prop where
  len : rows.length = tk.length + 1
  few : tk.length ≤ 63
  row : ∀ i row, i < tk.length → rows[i + 1]? = some row → 1 ≤ row.length ∧ row.length ≤ 64 ∧ ∀ p ∈ row, 0 ≤ p ∧ p < 64 ∧ (idx p tk 0 < 0 ∨ (i : Int) < idx p tk 0)

def muF (tk : List Int) (v : Value) : Nat := if idx (intOf v) tk 0 < 0 then 0 else tk.length + 1 - (idx (intOf v) tk 0).toNat

theorem idx_lt (p : Int) : ∀ (tk : List Int) (k : Nat), idx p tk k < (k : Int) + tk.length := by
  intro tk
  induction tk with
  | nil => intro k; simp [idx]; omega
  | cons x xs ih =>
    intro k
    by_cases h : x = p
    · subst h; rw [idx_hit]; simp; omega
    · rw [idx_miss p x xs k h]
      have := ih (k + 1)
      simp; omega

theorem muF_lt {tk : List Int} {p q : Int} (hp : ¬ idx p tk 0 < 0) (h : idx q tk 0 < 0 ∨ idx p tk 0 < idx q tk 0) : muF tk (.int .i64 q) < muF tk (.int .i64 p) := by
  have hl := idx_lt p tk 0
  have hl' := idx_lt q tk 0
  show (if idx q tk 0 < 0 then 0 else tk.length + 1 - (idx q tk 0).toNat) < (if idx p tk 0 < 0 then 0 else tk.length + 1 - (idx p tk 0).toNat)
  rw [if_neg hp]
  split <;> omega

set_option maxRecDepth 100000 in
set_option maxHeartbeats 2000000 in
theorem find_any (g : Nat) (tk : List Int) (row : List Int) (rows : List (List Int)) (key : Nat) (w : World) (h : SetR w g tk (row :: rows)) (hR : RowsOk tk (row :: rows)) (hk : key < 18446744073709551616) (h1 : 1 ≤ row.length) (h64 : row.length ≤ 64) :
    Calls Try.prog 34 #[.pointer (some ⟨g, 0, none⟩), .int .u64 key] w fun e w' => e = .returned (.int .i64 (fnd key tk (row :: rows) tk.length (jmp key row.length 0 0 : Nat))) ∧ w' = w := by
  have hlen := hR.len
  have hfew := hR.few
  obtain ⟨at', capt, ht, htr⟩ := h.tk
  obtain ⟨rb, capr, hc, hr⟩ := h.rows
  have hj : jmp key row.length 0 0 < row.length := jmp_lt key row.length 0 0 (by omega)
  go_enter Try.func34, Try.ntmps34
  go_wp2_with (first | (go_at_call 31; refine (size_any g tk row rows _ h).mono ?_; rintro e w' ⟨rfl, rfl⟩) | (go_at_call 25; refine (jump_nat key row.length _ hk h64).mono ?_; rintro e w' ⟨rfl, rfl⟩))
  go_loop [5] (fun v => ∃ (p : Int) (m : Nat), 0 ≤ p ∧ p < 64 ∧ v = .int .i64 p ∧ (idx p tk 0 < 0 ∨ (tk.length : Int) - m ≤ idx p tk 0) ∧ m ≤ tk.length ∧ Hid (fnd key tk (row :: rows) tk.length (jmp key row.length 0 0 : Nat) = fnd key tk (row :: rows) m p)) (muF tk)
  case atStart => exact ⟨(jmp key row.length 0 0 : Nat), tk.length, by omega, by omega, rfl, by have := idx_range (jmp key row.length 0 0 : Nat) tk 0; omega, by omega, rfl⟩
  case round =>
    obtain ⟨p, m, hp0, hp1, rfl, hm, hmt, H⟩ := hrel
    by_cases hneg : idx p tk 0 < 0
    · have HE : Hid (fnd key tk (row :: rows) m p = p) := by
        show fnd key tk (row :: rows) m p = p
        cases m with
        | zero => rfl
        | succ m => simp [fnd, hneg]
      go_wp2_with (go_at_call 45; refine (index_any at' capt tk p _ htr (by omega)).mono ?_; rintro e w' ⟨rfl, rfl⟩)
      go_ret
      exact ⟨ret_int (by rw [H.out, HE.out]), rfl⟩
    · have hil := idx_lt p tk 0
      obtain ⟨i, hi⟩ : ∃ i : Nat, idx p tk 0 = i := ⟨(idx p tk 0).toNat, by omega⟩
      rw [hi] at hneg hil hm
      obtain ⟨r, hrow⟩ : ∃ r, (row :: rows)[i + 1]? = some r := ⟨(row :: rows)[i + 1]'(by omega), List.getElem?_eq_getElem (by omega)⟩
      obtain ⟨hr1, hr64, hrp⟩ := hR.row i r (by omega) hrow
      obtain ⟨ar, cr, hcr, hrr⟩ := hr (i + 1) r hrow
      have hM1 := mixF_range (p + 1)
      have hX := bits_range .xor key (mixF (p + 1))
      have hM2 := mixF_range (bits .xor .u64 key (mixF (p + 1)))
      have hrow' : rowOf tk (row :: rows) p = r := by
        unfold rowOf
        rw [hi, Int.toNat_natCast, List.getD_eq_getElem?_getD, hrow]
        rfl
      obtain ⟨s, hs⟩ : ∃ s : Nat, mixF (bits .xor .u64 key (mixF (p + 1))) % (r.length : Int) = s := ⟨(mixF (bits .xor .u64 key (mixF (p + 1))) % (r.length : Int)).toNat, by have := Int.emod_nonneg (mixF (bits .xor .u64 key (mixF (p + 1)))) (show (r.length : Int) ≠ 0 by omega); omega⟩
      have hsl : s < r.length := by have := Int.emod_lt_of_pos (mixF (bits .xor .u64 key (mixF (p + 1)))) (show (0 : Int) < r.length by omega); omega
      have hs' : (mixF (bits .xor .u64 key (mixF (p + 1)))).tmod (r.length : Int) = s := by rw [Int.tmod_eq_emod_of_nonneg hM2.1]; exact hs
      obtain ⟨q, hq⟩ : ∃ q, r[s]? = some q := ⟨r[s], List.getElem?_eq_getElem hsl⟩
      obtain ⟨hq0, hq1, hqi⟩ := hrp q (List.mem_of_getElem? hq)
      obtain ⟨gb, rfl, hcq⟩ := hrr s q hq
      have ha1 := add0 rb (i + 1)
      have ha2 := add0 gb s
      have HN : Hid (fnd key tk (row :: rows) m p = fnd key tk (row :: rows) (m - 1) q) := by
        show fnd key tk (row :: rows) m p = _
        cases m with
        | zero => omega
        | succ m =>
          have hn : ¬ idx p tk 0 < 0 := by omega
          have hnx : nxt key tk (row :: rows) p = q := by
            unfold nxt spotOf
            rw [hrow', hs, Int.toNat_natCast, List.getD_eq_getElem?_getD, hq]
            rfl
          simp [fnd, hn, hnx]
      have hmu : Hid (muF tk (.int .i64 q) < muF tk (.int .i64 p)) := muF_lt (by omega) (by omega)
      have hw1 : IntKind.i64.wrap ((i : Int) + 1) = ((i + 1 : Nat) : Int) := by rw [IntKind.wrap_i64]; omega
      have hw2 : IntKind.u64.wrap (p + 1) = p + 1 := by rw [IntKind.wrap_u64]; omega
      have hw3 : IntKind.u64.wrap p = p := by rw [IntKind.wrap_u64]; omega
      have HA : Hid (idx q tk 0 < 0 ∨ (tk.length : Int) - (m - 1 : Nat) ≤ idx q tk 0) := by show _ ∨ _; omega
      have HB : Hid (m - 1 ≤ tk.length) := by show _ ≤ _; omega
      clear hM1 hX hM2 hrow' hqi hrp hrr hrow hR h hr
      go_wp2_with (first | (go_at_call 45; refine (index_any at' capt tk p _ htr (by omega)).mono ?_; rintro e w' ⟨rfl, rfl⟩; rw [hi]) | (go_at_call 46; refine (mix_any _ _).mono ?_; rintro e w' ⟨rfl, rfl⟩))
      go_round
      case rel => exact ⟨q, m - 1, hq0, hq1, rfl, HA.out, HB.out, H.out.trans HN.out⟩
      case measure => exact hmu.out
end Go.Proofs.Ytpioacgknamemaa
