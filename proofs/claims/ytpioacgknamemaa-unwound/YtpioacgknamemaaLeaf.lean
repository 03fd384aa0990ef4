/- The small functions, alone: pick, isSize, Jump, Mix, Index. -/
import Derived.Test.YtpioacgknamemaaProg
import Derived.Test.YtpioacgknamemaaNum
import Derived.Test.YtpioacgknamemaaMem
namespace Go.Proofs.Ytpioacgknamemaa
open Go.RowKit

theorem ret_int {k : IntKind} {a b : Int} (h : a = b) : Ending.returned (.int k a) = .returned (.int k b) := by rw [h]
theorem ret_bool {a b : Bool} (h : a = b) : Ending.returned (.bool a) = .returned (.bool b) := by rw [h]

def pickF (c n : Int) : Int := (if c < 0 then -(c + 1) else c) % n
theorem pickF_nonneg (c n : Int) (h : 1 ≤ n) : 0 ≤ pickF c n := Int.emod_nonneg _ (by omega)
theorem pickF_lt (c n : Int) (h : 1 ≤ n) : pickF c n < n := Int.emod_lt_of_pos _ (by omega)

set_option maxHeartbeats 400000 in
theorem pick_any (c n : Int) (w : World) (h1 : -9223372036854775808 ≤ c) (h2 : c ≤ 9223372036854775807) (h3 : 1 ≤ n) (h4 : n ≤ 9223372036854775807) :
    Calls Try.prog 8 #[.int .i64 c, .int .i64 n] w fun e w' => e = .returned (.int .i64 (pickF c n)) ∧ w' = w := by
  by_cases hc : c < 0
  · go_enter Try.func8, Try.ntmps8
    go_wp2
    go_ret
    refine ⟨ret_int ?_, rfl⟩
    unfold pickF
    rw [if_pos hc, ← Int.tmod_eq_emod_of_nonneg (by omega), Int.neg_tmod]
  · go_enter Try.func8, Try.ntmps8
    go_wp2
    go_ret
    refine ⟨ret_int ?_, rfl⟩
    unfold pickF
    rw [if_neg (by omega)]

def sizeB (n : Int) : Bool := decide (1 ≤ n ∧ n ≤ 64)
set_option maxHeartbeats 400000 in
theorem isSize_any (n : Int) (w : World) : Calls Try.prog 24 #[.int .i64 n] w fun e w' => e = .returned (.bool (sizeB n)) ∧ w' = w := by
  by_cases hc : 1 ≤ n
  · go_enter Try.func24, Try.ntmps24
    go_wp2
    go_ret
    exact ⟨ret_bool (by simp [sizeB, hc]), rfl⟩
  · go_enter Try.func24, Try.ntmps24
    go_wp2
    go_ret
    exact ⟨ret_bool (by simp [sizeB]; omega), rfl⟩

set_option maxHeartbeats 400000 in
theorem jump_nat (x n : Nat) (w : World) (hx : x < 18446744073709551616) (hn : n ≤ 64) :
    Calls Try.prog 25 #[.int .u64 x, .int .i64 n] w fun e w' => e = .returned (.int .i64 (jmp x n 0 0 : Nat)) ∧ w' = w := by
  go_enter Try.func25, Try.ntmps25
  go_wp2
  go_loop [0, 5, 6] (fun y b j => ∃ k c i : Nat, k < 18446744073709551616 ∧ c ≤ 64 ∧ i ≤ 139586437120 ∧ y = .int .u64 k ∧ b = .int .u64 c ∧ j = .int .u64 i ∧ Hid (jmp x n 0 0 = jmp k n c i)) (fun _ _ j => n - (intOf j).toNat)
  case atStart => exact ⟨x, 0, 0, hx, by omega, by omega, rfl, rfl, rfl, rfl⟩
  case round =>
    obtain ⟨k, c, i, hk, hc, hi, rfl, rfl, rfl, H⟩ := hrel
    by_cases hlt : i < n
    · have hd := nk_lt k
      have hj := nj_gt k i
      have hj2 := nj_le k i
      have h33 := hv33 (nk k) hd
      have e1 := nk_wrap k
      have e2 := hv33_div (nk k)
      have HJ : Hid (jmp k n c i = jmp (nk k) n i (nj k i)) := jmp_step k n c i hlt
      go_wp2
      go_round
      case rel => exact ⟨nk k, i, nj k i, hd, by omega, by omega, rfl, rfl, by rw [nj_div], H.out.trans HJ.out⟩
      case measure => rw [nj_div]; exact meas hj hlt
    · have HE : Hid (jmp k n c i = c) := jmp_end k n c i hlt
      go_wp2
      go_ret
      exact ⟨ret_int (by rw [H.out, HE.out]), rfl⟩

set_option maxHeartbeats 400000 in
theorem index_any (ao : Option Addr) (cap : Nat) (xs : List Int) (n : Int) (w : World) (hr : Rdd w .i64 ao xs) (hl : xs.length ≤ 1000) :
    Calls Try.prog 45 #[.slice ao xs.length cap, .int .i64 n] w fun e w' => e = .returned (.int .i64 (idx n xs 0)) ∧ w' = w := by
  go_enter Try.func45, Try.ntmps45
  go_wp2
  go_loop [8] (fun i => ∃ k : Nat, k ≤ xs.length ∧ i = .int .i64 k ∧ Hid (idx n xs 0 = idx n (xs.drop k) k)) (fun i => xs.length - (intOf i).toNat)
  case atStart => exact ⟨0, by omega, rfl, by simp [Hid]⟩
  case round =>
    obtain ⟨k, hk, rfl, H⟩ := hrel
    by_cases hlt : k < xs.length
    · obtain ⟨x, hx⟩ : ∃ x, xs[k]? = some x := ⟨xs[k], List.getElem?_eq_getElem hlt⟩
      obtain ⟨g, rfl, hc⟩ := hr k x hx
      have hadd : (⟨g, 0, none⟩ : Addr).add k = ⟨g, k, none⟩ := by unfold Addr.add; split <;> simp_all
      have hd := drop_at xs k x hx
      by_cases he : x = n
      · subst he
        go_wp2
        go_ret
        exact ⟨ret_int (by rw [H.out, hd, idx_hit]), rfl⟩
      · have HM : Hid (idx n (xs.drop k) k = idx n (xs.drop (k + 1)) (k + 1)) := by show _ = _; rw [hd, idx_miss n x _ k he]
        have hne : ¬ n = x := fun e => he e.symm
        go_wp2
        go_round
        case rel => exact ⟨k + 1, by omega, by go_num, H.out.trans HM.out⟩
        case measure => simp [intOf]; omega
    · have hkl : k = xs.length := by omega
      subst hkl
      go_wp2
      go_ret
      exact ⟨ret_int (by rw [H.out, List.drop_length, idx_nil]), rfl⟩

theorem bits_range (op : BinOp) (x y : Int) : 0 ≤ bits op .u64 x y ∧ bits op .u64 x y < 18446744073709551616 := by
  unfold bits
  rw [IntKind.wrap_u64]
  omega

/-- Mix as the document has it. -/
def mixE (x : Int) : Int :=
  let a := bits .xor .u64 x (x / 1073741824)
  let b := IntKind.u64.wrap (a * 13787848793156543929)
  let c := bits .xor .u64 b (b / 134217728)
  let d := IntKind.u64.wrap (c * 10723151780598845931)
  bits .xor .u64 d (d / 2147483648)
theorem mix_ex : ∃ f : Int → Int, ∀ x, f x = mixE x := ⟨mixE, fun _ => rfl⟩
/-- .. behind a name that nothing unfolds. -/
noncomputable def mixF : Int → Int := Classical.choose mix_ex
theorem mixF_eq (x : Int) : mixF x = mixE x := Classical.choose_spec mix_ex x
theorem mixF_range (x : Int) : 0 ≤ mixF x ∧ mixF x < 18446744073709551616 := by
  rw [mixF_eq]
  unfold mixE
  exact bits_range .xor _ _

set_option maxHeartbeats 400000 in
theorem mix_any (x : Int) (w : World) : Calls Try.prog 46 #[.int .u64 x] w fun e w' => e = .returned (.int .u64 (mixF x)) ∧ w' = w := by
  go_enter Try.func46, Try.ntmps46
  go_wp2
  go_ret
  exact ⟨ret_int (by rw [mixF_eq]; rfl), rfl⟩

/-- A set of places, as it is read: what was taken, the rows. -/
structure SetR (w : World) (g : Nat) (tk : List Int) (rows : List (List Int)) : Prop where
  tk : ∃ ao cap, w.cell? ⟨g, 0, none⟩ = some (.slice ao tk.length cap) ∧ Rdd w .i64 ao tk
  rows : ∃ rb cap, w.cell? ⟨g, 1, none⟩ = some (.slice (some ⟨rb, 0, none⟩) rows.length cap) ∧ ∀ i row, rows[i]? = some row → ∃ ao c, w.cell? ⟨rb, i, none⟩ = some (.slice ao row.length c) ∧ Rdd w .i64 ao row

theorem add0 (g k : Nat) : (⟨g, 0, none⟩ : Addr).add k = ⟨g, k, none⟩ := by unfold Addr.add; split <;> simp_all

set_option maxHeartbeats 400000 in
theorem size_any (g : Nat) (tk : List Int) (row : List Int) (rows : List (List Int)) (w : World) (h : SetR w g tk (row :: rows)) :
    Calls Try.prog 31 #[.pointer (some ⟨g, 0, none⟩)] w fun e w' => e = .returned (.int .i64 row.length) ∧ w' = w := by
  obtain ⟨rb, cap, hc, hr⟩ := h.rows
  obtain ⟨ao, c, hc0, _⟩ := hr 0 row rfl
  obtain ⟨at', cap', ht, _⟩ := h.tk
  go_enter Try.func31, Try.ntmps31
  go_wp2
  go_ret
  exact ⟨rfl, rfl⟩
end Go.Proofs.Ytpioacgknamemaa
