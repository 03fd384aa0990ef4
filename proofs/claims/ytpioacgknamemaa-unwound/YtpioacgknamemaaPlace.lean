/- A key's place, alone, and what is counted; in; Jump; Give. -/
import Derived.Test.YtpioacgknamemaaGive
import Derived.Test.YtpioacgknamemaaSort
import Derived.Laws.LoneSync
namespace Go.Proofs.Ytpioacgknamemaa
open Go.RowKit

/-- So many more are asked for. -/
def more (asked d : Int) : Int := IntKind.u64.wrap (asked + d)
def ask (w : World) (g : Nat) (a : Int) : World := w.setCell ⟨g, 2, none⟩ (.int .u64 a)

theorem ask_frm (w : World) (g : Nat) (a : Int) : Frm (fun k => k = g) w (ask w g a) := (Frm.refl (fun k => k = g) w).setCell (p := ⟨g, 2, none⟩) (.inl rfl) _

theorem PoolX.frm {S : Nat → Prop} {w w' : World} {g : Nat} {tkv rwv : Value} {tk : List Int} {rs : List (Value × List Int)} {asked : Int} (h : PoolX w g tkv rwv tk rs asked) (hF : Frm S w w') (hg : ¬ S g) (ht : ∀ k, tkv.ownBlock = some k → ¬ S k) (hr : ∀ k, rwv.ownBlock = some k → ¬ S k)
    (hrs : ∀ (i : Nat) v row k, rs[i]? = some (v, row) → v.ownBlock = some k → ¬ S k) : PoolX w' g tkv rwv tk rs asked :=
  ⟨hF.keep h.blk hg, hF.owns h.tk ht, hF.owns h.rw' hr, fun i v row hi => hF.owns (h.rows i v row hi) (fun k hk => hrs i v row k hi hk), h.sep, h.sept⟩

theorem PoolX.ask {w : World} {g : Nat} {tkv rwv : Value} {tk : List Int} {rs : List (Value × List Int)} {asked : Int} (h : PoolX w g tkv rwv tk rs asked) (a : Int) : PoolX (ask w g a) g tkv rwv tk rs a := by
  have hF := ask_frm w g a
  refine ⟨?_, hF.owns h.tk (fun k hk e => owns_ne h.tk h.blk (by decide) (e ▸ hk)), hF.owns h.rw' (fun k hk e => owns_ne h.rw' h.blk (by decide) (e ▸ hk)), fun i v row hi => hF.owns (h.rows i v row hi) (fun k hk e => owns_ne (h.rows i v row hi) h.blk (by decide) (e ▸ hk)), h.sep, h.sept⟩
  have := heap_setCell_same w g 2 _ _ (.int .u64 a) h.blk
  simpa [Ytpioacgknamemaa.ask] using this

set_option maxHeartbeats 400000 in
theorem add_any (w : World) (g : Nat) (asked d : Int) (hc : w.cell? ⟨g, 2, none⟩ = some (.int .u64 asked)) (hz : w.frozen? ⟨g, 2, none⟩ = false) :
    Calls Try.prog 32 #[.pointer (some ⟨g, 2, none⟩), .int .u64 d] w fun e w' => e = .returned (.int .u64 (more asked d)) ∧ w' = ask w g (more asked d) := by
  have hadd := run_call_add (P := Try.prog) Try.func40 (by kernel_rfl) (by kernel_rfl) (by kernel_rfl) .u64 (by kernel_rfl) (y := d) (s := more asked d) hc hz (by simp [go_sem, more])
  go_enter Try.func32, Try.ntmps32
  go_wp2
  go_ret
  exact ⟨rfl, rfl⟩

set_option maxHeartbeats 400000 in
theorem load_any (w : World) (g : Nat) (asked : Int) (hc : w.cell? ⟨g, 2, none⟩ = some (.int .u64 asked)) :
    Calls Try.prog 23 #[.pointer (some ⟨g, 2, none⟩)] w fun e w' => e = .returned (.int .u64 asked) ∧ w' = w := by
  have hl := run_call_load (P := Try.prog) Try.func37 (by kernel_rfl) (by kernel_rfl) (by kernel_rfl) .u64 (by kernel_rfl) hc
  go_enter Try.func23, Try.ntmps23
  go_wp2
  go_ret
  exact ⟨rfl, rfl⟩

theorem PoolX.c2 {w : World} {g : Nat} {tkv rwv : Value} {tk : List Int} {rs : List (Value × List Int)} {asked : Int} (h : PoolX w g tkv rwv tk rs asked) : w.cell? ⟨g, 2, none⟩ = some (.int .u64 asked) := (cell_of_row w g 2 _ _ _ h.blk).trans rfl
theorem PoolX.z2 {w : World} {g : Nat} {tkv rwv : Value} {tk : List Int} {rs : List (Value × List Int)} {asked : Int} (h : PoolX w g tkv rwv tk rs asked) : w.frozen? ⟨g, 2, none⟩ = false := frozen_of_row w g 2 _ _ h.blk

set_option maxHeartbeats 400000 in
theorem asked_any (w : World) (g : Nat) (tkv rwv : Value) (tk : List Int) (rs : List (Value × List Int)) (asked : Int) (h : PoolX w g tkv rwv tk rs asked) :
    Calls Try.prog 14 #[.pointer (some ⟨g, 0, none⟩)] w fun e w' => e = .returned (.int .u64 asked) ∧ w' = w := by
  go_enter Try.func14, Try.ntmps14
  go_wp2_with (go_at_call 23; refine (load_any _ g asked h.c2).mono ?_; rintro e w' ⟨rfl, rfl⟩)
  go_ret
  exact ⟨rfl, rfl⟩

/-- What is asked of the rows of a pool. -/
structure GoodRows (tk : List Int) (rows : List (List Int)) : Prop where
  ok : RowsOk tk rows
  size : 1 ≤ (rows.headD []).length ∧ (rows.headD []).length ≤ 64

/-- Where a key goes. -/
noncomputable def whr (tk : List Int) (rows : List (List Int)) (key : Nat) : Int := fnd key tk rows tk.length (jmp key (rows.headD []).length 0 0 : Nat)

theorem find_ok (w : World) (g : Nat) (tk : List Int) (rows : List (List Int)) (h : SetR w g tk rows) (hG : GoodRows tk rows) (key : Nat) (hk : key < 18446744073709551616) :
    Calls Try.prog 34 #[.pointer (some ⟨g, 0, none⟩), .int .u64 key] w fun e w' => e = .returned (.int .i64 (whr tk rows key)) ∧ w' = w := by
  obtain ⟨row, rest, rfl⟩ : ∃ row rest, rows = row :: rest := by
    cases rows with
    | nil => have := hG.size; simp at this
    | cons a b => exact ⟨a, b, rfl⟩
  exact find_any g tk row rest key w h hG.ok hk hG.size.1 hG.size.2

set_option maxHeartbeats 400000 in
theorem place_any (w : World) (g : Nat) (tkv rwv : Value) (tk : List Int) (rs : List (Value × List Int)) (asked : Int) (h : PoolX w g tkv rwv tk rs asked) (hG : GoodRows tk (rs.map (·.2))) (key : Nat) (hk : key < 18446744073709551616) :
    Calls Try.prog 20 #[.pointer (some ⟨g, 0, none⟩), .int .u64 key] w fun e w' => e = .returned (.int .i64 (whr tk (rs.map (·.2)) key)) ∧ w' = ask w g (more asked 1) := by
  have hne : rs ≠ [] := fun e => by have := hG.size; simp [e] at this
  have hS := (h.ask (more asked 1)).setR hne
  go_enter Try.func20, Try.ntmps20
  go_wp2_with (first | (go_at_call 32; refine (add_any _ g asked 1 h.c2 h.z2).mono ?_; rintro e w1 ⟨rfl, hw⟩; obtain rfl := hw.symm) | (go_at_call 34; refine (find_ok _ g tk _ hS hG key hk).mono ?_; rintro e w2 ⟨rfl, hw2⟩; obtain rfl := hw2.symm))
  go_ret
  exact ⟨rfl, rfl⟩

theorem inb (xs : List Int) (n : Int) (k : Nat) (x : Int) (h : xs[k]? = some x) (hn : ∀ j, j < k → xs[j]? ≠ some n) : (x = n → n ∈ xs) ∧ (x ≠ n → ∀ j, j < k + 1 → xs[j]? ≠ some n) :=
  ⟨fun e => e ▸ List.mem_of_getElem? h, fun hne j hj => by
    rcases Nat.lt_succ_iff_lt_or_eq.1 hj with hj | rfl
    · exact hn j hj
    · rw [h]; simpa using hne⟩

set_option maxHeartbeats 1000000 in
theorem in_any (ao : Option Addr) (c : Nat) (xs : List Int) (n : Int) (w : World) (hr : Rdd w .i64 ao xs) (hl : xs.length < 1000) :
    Calls Try.prog 21 #[.slice ao xs.length c, .int .i64 n] w fun e w' => e = .returned (.bool (decide (n ∈ xs))) ∧ w' = w := by
  go_enter Try.func21, Try.ntmps21
  go_wp2
  go_loop [5] (fun i => ∃ k : Nat, k ≤ xs.length ∧ i = .int .i64 k ∧ Hid (∀ j, j < k → xs[j]? ≠ some n)) (fun i => xs.length - (intOf i).toNat)
  case atStart => exact ⟨0, by omega, rfl, fun j hj => by omega⟩
  case round =>
    obtain ⟨k, hk, rfl, H⟩ := hrel
    by_cases hlt : k < xs.length
    · obtain ⟨x, hx⟩ : ∃ x, xs[k]? = some x := ⟨xs[k], List.getElem?_eq_getElem hlt⟩
      obtain ⟨gb, rfl, hcell⟩ := hr k x hx
      have ha := add0 gb k
      have HX := inb xs n k x hx H
      by_cases he : x = n
      · have HM : Hid (decide (n ∈ xs) = true) := by show decide _ = true; simp [HX.1 he]
        subst he
        clear HX H hx hr
        go_wp2
        go_ret
        exact ⟨by rw [HM.out]; rfl, rfl⟩
      · have HN : Hid (∀ j, j < k + 1 → xs[j]? ≠ some n) := HX.2 he
        clear HX H hx hr
        go_wp2
        go_round
        case rel => exact ⟨k + 1, by omega, by go_num, HN⟩
        case measure => simp [intOf]; omega
    · have hke : k = xs.length := by omega
      have HM : Hid (decide (n ∈ xs) = false) := by
        show decide _ = false
        simp only [decide_eq_false_iff_not]
        intro hm
        obtain ⟨j, hj, e⟩ := List.mem_iff_getElem.1 hm
        exact H.out j (by omega) (by rw [List.getElem?_eq_getElem hj, e])
      clear H hr
      go_wp2
      go_ret
      exact ⟨by rw [HM.out]; rfl, rfl⟩

set_option maxHeartbeats 400000 in
theorem jumpPub_ok (key n : Nat) (w : World) (hk : key < 18446744073709551616) (h1 : 1 ≤ n) (hn : n ≤ 64) :
    Calls Try.prog 15 #[.int .u64 key, .int .i64 n] w fun e w' => e = .returned (.tuple #[.int .i64 (jmp key n 0 0 : Nat), .int .i64 0]) ∧ w' = w := by
  have hs : sizeB n = true := by simp [sizeB]; omega
  go_enter Try.func15, Try.ntmps15
  go_wp2_with (first | (go_at_call 24; refine (isSize_any _ _).mono ?_; rintro e w' ⟨rfl, rfl⟩; rw [hs]) | (go_at_call 25; refine (jump_nat key n _ hk hn).mono ?_; rintro e w' ⟨rfl, rfl⟩))
  go_ret2
  exact ⟨rfl, rfl⟩

set_option maxHeartbeats 400000 in
theorem pool_give (w : World) (g : Nat) (rwv v : Value) (row : List Int) (asked : Int) (h : PoolX w g (.slice none 0 0) rwv [] [(v, row)] asked) (h1 : 1 ≤ row.length) (h64 : row.length < 64) :
    Calls Try.prog 11 #[.pointer (some ⟨g, 0, none⟩)] w fun e w' => ∃ v', e = .returned (.tuple #[.int .i64 row.length, .int .i64 0]) ∧ Gave w w' g rwv v row asked v' := by
  go_enter Try.func11, Try.ntmps11
  go_wp2_with (go_at_call 18; refine (give_new _ g rwv v row asked h h1 h64).mono ?_; rintro e w1 ⟨v', rfl, hG⟩)
  go_ret2
  exact ⟨v', rfl, hG⟩
end Go.Proofs.Ytpioacgknamemaa
