/- The document's answer: sums, records. -/
import Derived.Test.YtinadpanpnenjaaFind
import Derived.Test.YtinadpanpnenjaaCrc
import Derived.BigQuiet
import Derived.Deep.QuietTactic
namespace Go.Proofs.Ytinadpanpnenjaa
open Go.RowKit

theorem Try.info5 : (Try.prog.info? 5).map (fun i => (i.zero, i.size, i.bytes)) = some (some (.int .u8 0), 1, 1) := by kernel_rfl

set_option maxHeartbeats 400000 in
theorem sum_any (bs : List Int) (ao : Option Addr) (cap : Nat) (w : World) (hr : Rd w .u8 ao bs) (hl : bs.length ≤ 1000000) (hb : ∀ x ∈ bs, 0 ≤ x ∧ x < 256) :
    Calls Try.prog 53 #[.slice ao bs.length cap] w fun e w' => e = .returned (.int .i64 (sumF bs)) ∧ w' = w := by
  go_enter Try.func53, Try.ntmps53
  go_wp2
  go_loop [3, 4] (fun s i => ∃ k : Nat, k ≤ bs.length ∧ i = .int .i64 k ∧ s = .int .i64 (crcTo bs k : Nat)) (fun _ i => bs.length - (intOf i).toNat)
  case atStart => exact ⟨0, Nat.zero_le _, rfl, rfl⟩
  case round =>
    obtain ⟨k, hk, rfl, rfl⟩ := hrel
    have hc := crcTo_lt bs hb k
    by_cases hlt : k < bs.length
    · obtain ⟨x, hx⟩ : ∃ x, bs[k]? = some x := ⟨_, List.getElem?_eq_getElem hlt⟩
      have hxr := hb x (List.mem_of_getElem? hx)
      obtain ⟨x, rfl⟩ := Int.eq_ofNat_of_zero_le hxr.1
      obtain ⟨g, rfl, hcell⟩ := hr k x hx
      have hx2 : x < 256 := by omega
      have HT : Hid (crcTo bs (k + 1) = crcN (crcTo bs k ^^^ x) 8) := by
        show crcN (crcTo bs k ^^^ (bs.getD k 0).toNat) 8 = _
        rw [List.getD_eq_getElem?_getD, hx]
        rfl
      have hxo := i64_xor_nat (crcTo bs k) x (by omega) (by omega)
      have hsl : crcTo bs k ^^^ x < 4294967296 := Nat.xor_lt_two_pow (n := 32) (by omega) (by omega)
      generalize crcTo bs k = s at *
      generalize s ^^^ x = s' at *
      clear hr hx hxr
      go_wp2
      go_loop [3, 5] (fun t j => ∃ m : Nat, m ≤ 8 ∧ j = .int .i64 m ∧ t = .int .i64 (crcN s' m : Nat)) (fun _ j => 8 - (intOf j).toNat)
      case atStart => exact ⟨0, Nat.zero_le _, rfl, rfl⟩
      case round =>
        obtain ⟨m, hm, rfl, rfl⟩ := hrel
        have hcm := crcN_lt s' m hsl
        have HN : Hid (crcN s' (m + 1) = crcBit (crcN s' m)) := rfl
        generalize hu0 : crcN s' m = u at *
        have HU : Hid (crcN s' m = u) := hu0
        clear hu0
        by_cases hm8 : m < 8
        · by_cases hu : u % 2 = 1
          · have HB : Hid (crcBit u = (u / 2) ^^^ 2197175160) := by simp [Hid, crcBit, hu]
            have HX : Hid (bits .xor .i64 ((u / 2 : Nat) : Int) ((2197175160 : Nat) : Int) = (((u / 2) ^^^ 2197175160 : Nat) : Int)) := i64_xor_nat (u / 2) 2197175160 (by omega) (by omega)
            have hub : ((u : Int) % 2 == 1) = true := by rw [beq_iff_eq]; omega
            clear hu
            go_wp2
            go_round
            case rel => exact ⟨m + 1, by omega, by go_num, by rw [HN.out, HB.out, ← HX.out]; rfl⟩
            case measure => simp [intOf]; omega
          · have HB : Hid (crcBit u = u / 2) := by simp [Hid, crcBit, hu]
            have hub : ((u : Int) % 2 == 1) = false := by rw [beq_eq_false_iff_ne]; omega
            clear hu
            go_wp2
            go_round
            case rel => exact ⟨m + 1, by omega, by go_num, by rw [HN.out, HB.out]; rfl⟩
            case measure => simp [intOf]; omega
        · have hme : m = 8 := by omega
          subst hme
          go_wp2
          go_round
          case rel => exact ⟨k + 1, by omega, by go_num, by rw [HT.out, HU.out]⟩
          case measure => simp [intOf]; omega
    · have hke : k = bs.length := by omega
      subst hke
      go_wp2
      go_ret
      exact ⟨ret_int rfl, rfl⟩

theorem owns_src {w : World} {e : TypeId} {k : IntKind} {ao : Option Addr} {cap : Nat} {xs : List Int} (ho : w.ownsRow 0 e 1 (.slice ao xs.length cap) xs.length (xs.map (Value.int k))) :
    SrcOk w ao 1 xs.length (xs.map (Value.int k)) ∧ (ao = none → cap = 0) := by
  obtain ⟨ao', cap', hv, hr, hc, -⟩ := owns_rd ho
  simp only [Value.slice.injEq, true_and] at hv
  obtain ⟨rfl, rfl⟩ := hv
  refine ⟨⟨by simp, ?_, ?_, by simp [Value.oneCell']⟩, hc⟩
  · intro hn
    cases xs with
    | nil => rfl
    | cons x xs =>
      obtain ⟨g, hg, _⟩ := hr 0 x rfl
      simp [hn] at hg
  · intro a ha j u hu
    rw [List.getElem?_map] at hu
    cases hx : xs[j]? with
    | none => simp [hx] at hu
    | some x =>
      simp [hx] at hu
      subst hu
      obtain ⟨g, hg, hcell⟩ := hr j x hx
      rw [ha] at hg
      simp at hg
      subst hg
      have hadd : (⟨g, 0, none⟩ : Addr).add j = ⟨g, j, none⟩ := by unfold Addr.add; split <;> simp_all
      rw [hadd]
      exact hcell

/-- Bytes that a call has made. -/
def NewBytes (w w' : World) (l : Value) (xs : List Int) : Prop :=
  w'.ownsRow 0 5 1 l xs.length (xs.map (Value.int .u8)) ∧ Frm NoB w w' ∧ ∀ k, l.ownBlock = some k → w.heap.size ≤ k

set_option maxHeartbeats 400000 in
theorem four_any (n : Int) (w : World) (h0 : 0 ≤ n) (h1 : n < 4294967296) :
    Calls Try.prog 62 #[.int .i64 n] w fun e w' => ∃ l, e = .returned l ∧ NewBytes w w' l (fourF n) := by
  go_enter Try.func62, Try.ntmps62
  go_wp2
  go_ret
  exact ⟨_, rfl, World.ownsRow_lit w _ 4 (Nat.zero_le _) (by simp [maxLen]) (by simp), (Frm.refl _ _).alloc _, fun k hk => by simp [Value.ownBlock] at hk; omega⟩

set_option maxHeartbeats 400000 in
theorem value_any (a b c d : Int) (g off cap : Nat) (w : World) (h0 : w.cell? ⟨g, off, none⟩ = some (.int .u8 a)) (h1 : w.cell? ⟨g, off + 1, none⟩ = some (.int .u8 b)) (h2 : w.cell? ⟨g, off + 2, none⟩ = some (.int .u8 c))
    (h3 : w.cell? ⟨g, off + 3, none⟩ = some (.int .u8 d)) (ha : 0 ≤ a ∧ a < 256) (hb : 0 ≤ b ∧ b < 256) (hc : 0 ≤ c ∧ c < 256) (hd : 0 ≤ d ∧ d < 256) :
    Calls Try.prog 58 #[.slice (some ⟨g, off, none⟩) 4 cap] w fun e w' => e = .returned (.int .i64 (valF a b c d)) ∧ ∃ q, w' = w.drewN q := by
  obtain ⟨a0, a1⟩ := ha
  obtain ⟨b0, b1⟩ := hb
  obtain ⟨c0, c1⟩ := hc
  obtain ⟨d0, d1⟩ := hd
  go_enter Try.func58, Try.ntmps58
  go_wp2
  go_quiet (fail)
  go_wp2
  go_ret
  exact ⟨rfl, _, rfl⟩

theorem sum_six (bs : List Int) (ao : Option Addr) (cap : Nat) (w : World) (hr : Rd w .u8 ao bs) (hl : bs.length = 6) (hb : ∀ x ∈ bs, 0 ≤ x ∧ x < 256) :
    Calls Try.prog 53 #[.slice ao 6 cap] w fun e w' => e = .returned (.int .i64 (sumF bs)) ∧ w' = w := by
  have := sum_any bs ao cap w hr (by omega) hb
  rwa [hl] at this

theorem owns_slice_rd {w : World} {k : IntKind} {e : TypeId} {ao : Option Addr} {n cap : Nat} {xs : List Int} (ho : w.ownsRow 0 e 1 (.slice ao n cap) n (xs.map (Value.int k))) (hn : xs.length = n) : Rd w k ao xs := by
  subst hn
  obtain ⟨ao', cap', hv, hr, -⟩ := owns_rd ho
  simp only [Value.slice.injEq, true_and] at hv
  obtain ⟨rfl, rfl⟩ := hv
  exact hr

set_option maxHeartbeats 1000000 in
theorem Record_any (last kind num : Int) (w : World) (h0 : 0 ≤ last ∧ last < 4294967296) (h1 : 0 ≤ kind ∧ kind < 256) (h2 : 0 ≤ num ∧ num < 256) :
    Calls Try.prog 56 #[.int .i64 last, .int .u8 kind, .int .u8 num] w fun e w' => ∃ l, e = .returned l ∧ NewBytes w w' l (recF last kind num) := by
  have hlr := lastF_range last kind num h0 h1 h2
  have H0 := h0
  have H1 := h1
  have H2 := h2
  go_enter Try.func56, Try.ntmps56
  go_wp2_with fail
  refine (four_any last _ h0.1 h0.2).mono ?_
  rintro e w1 ⟨l1, rfl, o1, f1, n1⟩
  have o1' : w1.ownsRow 0 5 1 l1 4 ((fourF last).map (Value.int .u8)) := o1
  obtain ⟨ao1, cap1, rfl⟩ := owns_shape o1'
  go_wp2_with (at_builtin; refine wpList_app _ rfl (.tmp 12) (.tmp 15) 37 rfl 5 (.int .u8 0) 1 1 Try.underlying37 Try.info5 rfl (by decide) (.slice ao1 4 cap1) 4 ((fourF last).map (Value.int .u8)) rfl (by exact o1'.alloc _) _ 2 2 [.int .u8 kind, .int .u8 num] rfl (by exact src_list _ _ [_, _] (by simp [Value.oneCell'])) (by simp) (by simp only [maxLen]; omega) (by omega) ?_; intro v2 w2 hA; obtain ⟨ao2, cap2, rfl⟩ := owns_shape hA.own)
  have hf2 : Frm NoB w w2 := (f1.alloc _).grown hA.grown (fun k hk => .inr (n1 k hk))
  have rd2 : Rd w2 .u8 ao2 (fourF last ++ [kind, num]) := owns_slice_rd (n := 6) (by simpa using hA.own) rfl
  refine (sum_six (fourF last ++ [kind, num]) ao2 cap2 _ (by exact rd2.frm ((Frm.refl NoB _).alloc _) (fun _ _ s => s)) rfl ?_).mono ?_
  · intro x hx
    rw [List.mem_append] at hx
    rcases hx with hx | hx
    · exact fourF_range last h0.1 h0.2 x hx
    · simp at hx; omega
  rintro e w3 ⟨rfl, rfl⟩
  go_wp2_with fail
  refine (four_any (lastF last kind num) _ hlr.1 hlr.2).mono ?_
  rintro e w3 ⟨l3, rfl, o3, f3, n3⟩
  have o3' : w3.ownsRow 0 5 1 l3 4 ((fourF (lastF last kind num)).map (Value.int .u8)) := o3
  obtain ⟨ao3, cap3, rfl⟩ := owns_shape o3'
  have hout : w3.ownsRow 0 5 1 (.slice (some ⟨w2.heap.size, 0, none⟩) 2 2) 2 [.int .u8 kind, .int .u8 num] := f3.owns (World.ownsRow_lit w2 _ 2 (Nat.zero_le _) (by simp [maxLen]) (by simp)) (fun _ _ s => s)
  have hsrc := owns_src (xs := fourF (lastF last kind num)) o3'
  go_wp2_with (at_builtin; refine wpList_app _ rfl (.tmp 22) (.tmp 24) 37 rfl 5 (.int .u8 0) 1 1 Try.underlying37 Try.info5 rfl (by decide) (.slice (some ⟨w2.heap.size, 0, none⟩) 2 2) 2 [.int .u8 kind, .int .u8 num] rfl (by exact hout) ao3 4 cap3 ((fourF (lastF last kind num)).map (Value.int .u8)) rfl (by exact hsrc.1) (by exact hsrc.2) (by simp only [maxLen]; omega) (by omega) ?_; intro v4 w4 hB)
  go_ret
  have hfin : w4.ownsRow 0 5 1 v4 6 ((recF last kind num).map (Value.int .u8)) := by simpa [recF] using hB.own
  refine ⟨_, rfl, hfin, ((hf2.alloc _).then f3).grown hB.grown (fun k hk => .inr ?_), fun k hk => ?_⟩
  · simp [Value.ownBlock] at hk
    have := hf2.size
    omega
  · have h2 := hf2.size
    have h3 := f3.size
    simp at h3
    rcases hB.new k hk with q | q
    · simp [Value.ownBlock] at q
      omega
    · omega
end Go.Proofs.Ytinadpanpnenjaa
