/-
  THE STATEMENT Rows.FewSaid, PROVED: porterkeep.Few answers true for every input, on every schedule of its goroutines, without a data race, and leaves its arguments as they were. Conditions: none but the form's own reach.
-/
import Derived.Test.YtpioacgknamemaaRows
import Derived.Test.YtpioacgknamemaaFew2
import Derived.Test.YtpioacgknamemaaLaw
namespace Go.Proofs.Ytpioacgknamemaa
open Go Go.ChangeShapes Go.WideShapes Go.ChangeAt Go.RowKit Go.Conc

theorem params3 : Try.f3.params.toList = [3, 22, 3, 23] := by kernel_rfl
theorem inits3 : Try.prog.inits.idxOf? 3 = none := by kernel_rfl

set_option maxRecDepth 100000 in
theorem few_lifted (os : Os) (started : os.Started) (H : Type) (enc : TypeId × Value → H) :
    ReturnsInLeavingWide {} Try.checked os 3 .any (Rows.fewSpec.pre6 enc Try.prog Try.f3 Rows.fewRow.domain false) (Rows.fewSpec.post enc Try.prog Try.f3 false true false false) := by
  refine returnsInLeavingWide_of_change_sized (C := Try.checked) own started Try.func3
    (ChangeSpec.witness6 (enc := enc) (C := Try.checked) false ⟨#[], #[.int .i64 0, .slice none 0 0, .int .i64 0, .slice none 0 0], []⟩ 8 (by kernel_rfl) (by kernel_rfl) (by kernel_rfl) (by kernel_rfl)) ?_
  intro W base args ds gs before hval0 hW _ hsz0 _
  have hsz : (DataW.weightsEach Try.prog (Try.f3.params.toList ++ Rows.fewSpec.plain.varTypes Try.prog) (ds ++ gs)).all (· ≤ reachBytes) = true := hsz0
  clear hsz0
  have hval : ∀ (j : Nat) t v, Try.f3.params.toList[j]? = some t → args[j]? = some v → Value.okWide Try.prog W .any base t v := fun j t v h1 h2 => hval0 j t v (by simpa using h1) h2
  have hW' := hW
  obtain ⟨p, q, hA0, hV, rfl, _, _⟩ := hW
  have hA : DataW.TrodAll enc Try.prog W 0 (fun _ => true) true Try.f3.params.toList args.toList ds p := hA0
  rw [params3] at hA hval hsz
  obtain ⟨v0, v1, v3, v2, d0, d1, d3, d2, p0, p1, p3, p2, rfl, rfl, rfl, h0, h1, h3, h2⟩ := all_four hA
  obtain ⟨rfl, rfl⟩ := trodVars_none hV
  obtain ⟨n, rfl, rfl, rfl, w0⟩ := open_int Try.underlying3 (hval 0 3 v0 rfl rfl) h0
  obtain ⟨a1, len1, cap1, rfl⟩ := okWide_slice Try.underlying22 (hval 1 22 v1 rfl rfl)
  obtain ⟨m, rfl, rfl, rfl, w1⟩ := open_int Try.underlying3 (hval 2 3 v3 rfl rfl) h3
  obtain ⟨a0, len, cap, rfl⟩ := okWide_slice Try.underlying23 (hval 3 23 v2 rfl rfl)
  have h1k := h1
  have h2k := h2
  clear hA0 hval0
  simp only [List.append_nil, List.nil_append] at hW'
  have hlt1 : ∀ x ∈ p1, x.block < W.heap.size := by obtain ⟨m, hm⟩ := h1k; exact DataW.trod_lt m _ _ _ hm
  have hlt2 : ∀ x ∈ p2, x.block < W.heap.size := by obtain ⟨m, hm⟩ := h2k; exact DataW.trod_lt m _ _ _ hm
  obtain ⟨mv, rfl, hMs, hd1⟩ := read_ints h1
  obtain ⟨ks, rfl, hKs, hc, hd⟩ := read_keys h2
  have hlen : (ks.length + 2) * 8 ≤ 140737488355328 := by
    rcases hd with ⟨zs, rfl, hz, hl⟩ | hd
    · have := sized_slice hsz (j := 3) (t := 23) (e := 36) rfl rfl Try.underlying23
      rw [bytes36] at this
      simp only [lits, List.length_map, List.length_take, List.length_drop, reachBytes] at this
      omega
    · omega
  have hml : mv.length ≤ 9223372036854775807 := by
    rcases hd1 with ⟨zs, rfl, hz, hl⟩ | hd
    · have := sized_slice hsz (j := 1) (t := 22) (e := 3) rfl rfl Try.underlying22
      rw [bytes3] at this
      simp only [lits, List.length_map, List.length_take, List.length_drop, reachBytes] at this
      omega
    · omega
  have r0 := wf_i64 w0
  have r1 := wf_i64 w1
  refine ends_start (P := Try.prog) (M := 1) (Nat.le_refl 1) ?_
  refine ends_few (fun l h => h.elim) r0.1 r0.2 r1.1 r1.2 (u := ust W) hMs.ust hml hKs.ust hc hlen (by decide) ?_
  intro Sh' κ' u' T' todo hH hk hT
  refine ends_done rfl rfl Try.func3 inits3 (by kernel_rfl) fun w hVw hz hl => ?_
  rw [res3]
  have hb : Below W.heap.size W w := below_end hVw hl (fun r hr => hk r (by rw [ust_size]; exact hr)) hH
  show Rows.fewSpec.post enc Try.prog Try.f3 false true false false W _ (T'.getD 8 undef) w
  rw [hT]
  have t0 : DataW.Trod enc Try.prog w 0 (fun b => decide (b < W.heap.size)) true 3 (.int .i64 n) (.lit (.int .i64 n)) [] := Below.trod laidOut (by kernel_rfl) (of_decide_eq_true (by kernel_rfl)) h0 hb (by simp)
  have t3 : DataW.Trod enc Try.prog w 0 (fun b => decide (b < W.heap.size)) true 3 (.int .i64 m) (.lit (.int .i64 m)) [] := Below.trod laidOut (by kernel_rfl) (of_decide_eq_true (by kernel_rfl)) h3 hb (by simp)
  exact ⟨_, _, _, [], _, [], hW', trodAll_mk1 (shut_bool _), mk_four t0 (Below.trod laidOut (by kernel_rfl) (of_decide_eq_true (by kernel_rfl)) h1k hb hlt1) t3 (Below.trod laidOut (by kernel_rfl) (of_decide_eq_true (by kernel_rfl)) h2k hb hlt2), rfl, hb.frame _, fun h => by cases h⟩

theorem few_holds : Rows.FewSaid :=
  OpenClaim.holds_of_wide_leaving 3 Try.f3 rfl rfl rfl rfl rfl rfl rfl ⟨rfl, rfl, rfl, rfl, rfl⟩ rfl rfl rfl rfl rfl (by kernel_rfl) Try.func3 (by kernel_rfl)
    (of_decide_eq_true (by kernel_rfl)) (by unfold Func.isWrapper; first | (rw [if_pos (by decide +kernel)]; kernel_rfl) | (rw [if_neg (by decide +kernel)]; exact ⟨rfl, rfl⟩))
    (fun os started H enc _ => few_lifted os started H enc)

#print axioms few_holds
end Go.Proofs.Ytpioacgknamemaa
