/-
  THE STATEMENT Rows.MovesSaid, PROVED: porterlaw.Moves answers true for every script (every Jump, New, Take, Give and Standing is as the document says, and lists that came out stay the caller's), and leaves the script as it was. Conditions: none but the form's own reach.
-/
import Derived.Test.YtinadpanpnenjaaRows
import Derived.Test.YtinadpanpnenjaaPlays
import Derived.ProofKit
import Derived.OpenShut
import Derived.ChangeOld
import Derived.SizedLaws
import Derived.Deep.Slices
namespace Go.Proofs.Ytinadpanpnenjaa
open Go.ChangeShapes Go.WideShapes Go.ChangeAt Go.RowKit Go.Deep

theorem own : ownKnob Try.prog.godebug = none := by kernel_rfl
theorem laidOut : laidOutB Try.prog = true := by kernel_rfl
theorem cells39 : Try.prog.cellsOf 39 = 8 := by kernel_rfl
theorem cells3 : Try.prog.cellsOf 3 = 1 := by kernel_rfl
theorem cells35 : Try.prog.cellsOf 35 = 1 := by kernel_rfl
theorem bytes39 : Try.prog.bytesOf 39 = 104 := by kernel_rfl

set_option maxHeartbeats 400000 in
theorem moves_walk (w : World) (ao : Option Addr) (L cap : Nat) (hS : StepsAt w ao L) (hL : L * 104 ≤ 140737488351232) :
    Calls Try.prog 3 #[.slice ao L cap] w fun e w' => e = .returned (.bool true) ∧ Below w.heap.size w w' := by
  have hS' : StepsAt (w.alloc (.cells #[.int .i64 1, .int .i64 2, .int .i64 3, .int .i64 4, .int .i64 5] 3)) ao L := by
    intro i hi
    obtain ⟨b, off, kind, E, a, B, k, vL, vS, vJ, he, hA⟩ := hS i hi
    exact ⟨b, off, kind, E, a, B, k, vL, vS, vJ, he, hA.below ((Below.refl _ w).alloc (Nat.le_refl _) _)⟩
  have HS : Hid (StepsAt (w.alloc (.cells #[.int .i64 1, .int .i64 2, .int .i64 3, .int .i64 4, .int .i64 5] 3)) ao L) := hS'
  clear hS hS'
  go_enter Try.func3, Try.ntmps3
  go_wp2_with fail
  refine (plays_any _ ao L cap w.heap.size HS.out (heap_alloc_new w _) hL).mono ?_
  rintro r w' ⟨rfl, hB⟩
  go_wp2
  go_ret
  exact ⟨rfl, ((Below.refl _ w).alloc (Nat.le_refl _) _).trans (hB.mono (by simp))⟩

theorem wf_i64_range {n : Int} (h : (Lit.int .i64 n).wf = true) : -9223372036854775808 ≤ n ∧ n ≤ 9223372036854775807 := by
  have h1 : IntKind.i64.min = -9223372036854775808 := rfl
  have h2 : IntKind.i64.max = 9223372036854775807 := rfl
  simp only [Lit.wf, Bool.and_eq_true, decide_eq_true_eq] at h
  omega
theorem wf_u64_range {n : Int} (h : (Lit.int .u64 n).wf = true) : 0 ≤ n ∧ n < 18446744073709551616 := by
  have h1 : IntKind.u64.min = 0 := rfl
  have h2 : IntKind.u64.max = 18446744073709551615 := rfl
  simp only [Lit.wf, Bool.and_eq_true, decide_eq_true_eq] at h
  omega

theorem eight {l : List Value} (h : l.length = 8) : ∃ a b c d e f g i, l = [a, b, c, d, e, f, g, i] := by
  rcases l with _ | ⟨a, _ | ⟨b, _ | ⟨c, _ | ⟨d, _ | ⟨e, _ | ⟨f, _ | ⟨g, _ | ⟨i, _ | ⟨j, l⟩⟩⟩⟩⟩⟩⟩⟩⟩ <;> simp at h
  exact ⟨a, b, c, d, e, f, g, i, rfl⟩

theorem some_at {α : Type} {xs : List α} {n i : Nat} (h : xs.length = n) (hi : i < n) : ∃ y, xs[i]? = some y := ⟨_, List.getElem?_eq_getElem (by omega)⟩

theorem step_read {H : Type} {enc : TypeId × Value → H} {w : World} {spare : Nat → Bool} {held : Bool} {fuel : Nat} {cs : List Value} {x : DataW H × List MemPlace}
    (h : DataW.trod enc Try.prog w 0 spare held fuel 39 cs = some x) :
    ∃ kind E a B k vL vS vJ, cs = [.int .i64 kind, .int .i64 E, .int .i64 a, .int .i64 B, .int .u64 k, vL, vS, vJ] ∧ (-9223372036854775808 ≤ E ∧ E ≤ 9223372036854775807) ∧
      (-9223372036854775808 ≤ a ∧ a ≤ 9223372036854775807) ∧ (0 ≤ k ∧ k < 18446744073709551616) := by
  obtain ⟨xs, n, _, _, hl, hlen, hf⟩ := DataW.trod_struct Try.underlying39 h
  rw [cells39] at hl
  obtain ⟨c0, c1, c2, c3, c4, c5, c6, c7, rfl⟩ := eight hl
  have hx : xs.length = 8 := hlen
  obtain ⟨y0, q0⟩ := some_at hx (i := 0) (by omega)
  obtain ⟨y1, q1⟩ := some_at hx (i := 1) (by omega)
  obtain ⟨y2, q2⟩ := some_at hx (i := 2) (by omega)
  obtain ⟨y3, q3⟩ := some_at hx (i := 3) (by omega)
  obtain ⟨y4, q4⟩ := some_at hx (i := 4) (by omega)
  have r0 : DataW.trod enc Try.prog w 0 spare held n 3 [c0] = some y0 := by
    have z : DataW.trod enc Try.prog w 0 spare held n 3 (([c0, c1, c2, c3, c4, c5, c6, c7].drop 0).take (Try.prog.cellsOf 3)) = some y0 := (hf 0 _ rfl).trans q0
    rw [cells3] at z
    exact z
  have r1 : DataW.trod enc Try.prog w 0 spare held n 3 [c1] = some y1 := by
    have z : DataW.trod enc Try.prog w 0 spare held n 3 (([c0, c1, c2, c3, c4, c5, c6, c7].drop 1).take (Try.prog.cellsOf 3)) = some y1 := (hf 1 _ rfl).trans q1
    rw [cells3] at z
    exact z
  have r2 : DataW.trod enc Try.prog w 0 spare held n 3 [c2] = some y2 := by
    have z : DataW.trod enc Try.prog w 0 spare held n 3 (([c0, c1, c2, c3, c4, c5, c6, c7].drop 2).take (Try.prog.cellsOf 3)) = some y2 := (hf 2 _ rfl).trans q2
    rw [cells3] at z
    exact z
  have r3 : DataW.trod enc Try.prog w 0 spare held n 3 [c3] = some y3 := by
    have z : DataW.trod enc Try.prog w 0 spare held n 3 (([c0, c1, c2, c3, c4, c5, c6, c7].drop 3).take (Try.prog.cellsOf 3)) = some y3 := (hf 3 _ rfl).trans q3
    rw [cells3] at z
    exact z
  have r4 : DataW.trod enc Try.prog w 0 spare held n 35 [c4] = some y4 := by
    have z : DataW.trod enc Try.prog w 0 spare held n 35 (([c0, c1, c2, c3, c4, c5, c6, c7].drop 4).take (Try.prog.cellsOf 35)) = some y4 := (hf 4 _ rfl).trans q4
    rw [cells35] at z
    exact z
  obtain ⟨kind, e0, _, _⟩ := DataW.trod_int Try.underlying3 r0
  obtain ⟨E, e1, _, wE⟩ := DataW.trod_int Try.underlying3 r1
  obtain ⟨a, e2, _, wa⟩ := DataW.trod_int Try.underlying3 r2
  obtain ⟨B, e3, _, _⟩ := DataW.trod_int Try.underlying3 r3
  obtain ⟨k, e4, _, wk⟩ := DataW.trod_int Try.underlying35 r4
  simp at e0 e1 e2 e3 e4
  subst e0 e1 e2 e3 e4
  exact ⟨kind, E, a, B, k, c5, c6, c7, rfl, wf_i64_range wE, wf_i64_range wa, wf_u64_range wk⟩

set_option maxRecDepth 100000 in
theorem lifted (os : Os) (started : os.Started) (H : Type) (enc : TypeId × Value → H) :
    ReturnsInHanded {} Try.checked os 3 .any (Rows.movesSpec.pre6 enc Try.prog Try.f3 Rows.movesRow.domain false) (Rows.movesSpec.post enc Try.prog Try.f3 false true false false) := by
  refine returnsInHanded_of_change_sized (C := Try.checked) own started (by kernel_rfl) Try.func3
    (ChangeSpec.witness6 (enc := enc) (C := Try.checked) false ⟨#[], #[.slice none 0 0], []⟩ 8 (by kernel_rfl) (by kernel_rfl) (by kernel_rfl) (by kernel_rfl)) ?_
  intro W base args ds gs before hval0 hW _ hsz0 _
  have hsz : (DataW.weightsEach Try.prog (Try.f3.params.toList ++ Rows.movesSpec.plain.varTypes Try.prog) (ds ++ gs)).all (· ≤ reachBytes) = true := hsz0
  clear hsz0
  have hval : ∀ (j : Nat) t v, Try.f3.params[j]? = some t → args[j]? = some v → Value.okWide Try.prog W .any base t v := hval0
  have hW' := hW
  obtain ⟨p, q, hA0, hV, rfl, _, _⟩ := hW
  have hA : DataW.TrodAll enc Try.prog W 0 (fun _ => true) true Try.f3.params.toList args.toList ds p := hA0
  rw [Try.params3] at hA hval hsz
  obtain ⟨v0, d0, rfl, rfl, h0⟩ := trodAll_one hA
  obtain ⟨rfl, rfl⟩ := trodVars_none hV
  obtain ⟨a0, len, cap, rfl⟩ := okWide_slice Try.underlying22 (hval 0 22 v0 rfl rfl)
  have k0 := h0
  clear hA0 hval0
  simp only [List.append_nil] at hW'
  have hlt : ∀ x ∈ p, x.block < W.heap.size := by obtain ⟨m, hm⟩ := k0; exact DataW.trod_lt m _ _ _ hm
  obtain ⟨hS, hL⟩ : StepsAt W a0 len ∧ len * 104 ≤ 140737488351232 := by
    obtain ⟨fuel, hf⟩ := h0
    rcases open_slice Try.underlying22 hf with ⟨hcs, hx⟩ | ⟨a, len', cap', m, n, D, Pl, hcs, _, hl, hm, hmm, hx, hel⟩
    · simp [Value.cells] at hcs
      obtain ⟨rfl, rfl, rfl⟩ := hcs
      exact ⟨fun i hi => absurd hi (Nat.not_lt_zero _), by omega⟩
    · simp [Value.cells] at hcs
      obtain ⟨rfl, rfl, rfl⟩ := hcs
      simp only [if_true] at hmm
      subst hmm
      simp only [Prod.mk.injEq] at hx
      obtain ⟨rfl, rfl⟩ := hx
      rw [cells39] at hel
      refine ⟨fun i hi => ?_, ?_⟩
      · obtain ⟨cs', h1, h2⟩ := hel i (by omega)
        obtain ⟨_, _, hc⟩ := World.cells?_some h1
        obtain ⟨kind, E, aa, B, k, vL, vS, vJ, rfl, rE, ra, rk⟩ := step_read h2
        obtain ⟨b, off, spot⟩ := a
        have hspot : spot = none := by
          obtain ⟨cs0, z1, z2⟩ := hel 0 (by omega)
          obtain ⟨_, _, zc⟩ := World.cells?_some z1
          obtain ⟨_, _, _, _, _, _, _, _, rfl, _⟩ := step_read z2
          have := World.cell?_spot ((zc 0 (by omega)).trans rfl)
          simpa [Addr.add] using this
        subst hspot
        refine ⟨b, off, kind, E, aa, B, k, vL, vS, vJ, rfl, ?_⟩
        have hc' : ∀ j, j < 8 → W.cell? ⟨b, off + i * 8 + j, none⟩ = [Value.int .i64 kind, .int .i64 E, .int .i64 aa, .int .i64 B, .int .u64 k, vL, vS, vJ][j]? := by
          intro j hj
          have := hc j hj
          rwa [add_plain, add_plain] at this
        exact ⟨hc' 0 (by omega), hc' 1 (by omega), hc' 2 (by omega), hc' 3 (by omega), hc' 4 (by omega), hc' 5 (by omega), hc' 6 (by omega), hc' 7 (by omega), rE, ra, rk⟩
      · have := sized_slice hsz (j := 0) (t := 22) (e := 39) rfl rfl Try.underlying22
        rw [bytes39] at this
        simp only [List.length_map, List.length_range, reachBytes] at this
        omega
  refine (moves_walk W a0 len cap hS hL).mono fun e W' ⟨he, bel⟩ => ?_
  subst he
  exact ⟨_, rfl, _, _, _, [], _, [], hW', trodAll_mk1 (shut_bool Try.underlying4 _), trodAll_mk1 (Below.trod laidOut (by kernel_rfl) (of_decide_eq_true (by kernel_rfl)) k0 bel hlt), rfl, bel.frame _, fun h => by cases h⟩

theorem moves_holds : Rows.MovesSaid :=
  OpenClaim.holds_of_wide 3 Try.f3 rfl rfl rfl rfl rfl rfl rfl ⟨rfl, rfl, rfl, rfl, rfl⟩ rfl rfl rfl rfl rfl (by kernel_rfl) Try.func3 (by kernel_rfl)
    (of_decide_eq_true (by kernel_rfl)) (by unfold Func.isWrapper; first | (rw [if_pos (by decide +kernel)]; kernel_rfl) | (rw [if_neg (by decide +kernel)]; exact ⟨rfl, rfl⟩))
    (fun os started H enc _ => lifted os started H enc)

#print axioms moves_holds
end Go.Proofs.Ytinadpanpnenjaa
