/- What the arguments read: lists of numbers of 64 bits. -/
import Derived.Test.YtpioacgknamemaaStart
import Derived.Test.YtpioacgknamemaaGrown2
import Derived.ProofKit
import Derived.OpenShut
import Derived.ChangeOld
import Derived.SizedLaws
import Derived.Conc.LeavingOf
namespace Go.Proofs.Ytpioacgknamemaa
open Go Go.ChangeShapes Go.WideShapes Go.ChangeAt Go.RowKit Go.Conc

theorem own : ownKnob Try.prog.godebug = none := by kernel_rfl
theorem laidOut : laidOutB Try.prog = true := by kernel_rfl
theorem cells3 : Try.prog.cellsOf 3 = 1 := by kernel_rfl
theorem cells36 : Try.prog.cellsOf 36 = 1 := by kernel_rfl
theorem bytes3 : Try.prog.bytesOf 3 = 8 := by kernel_rfl
theorem bytes36 : Try.prog.bytesOf 36 = 8 := by kernel_rfl
theorem shut_bool {H : Type} {enc : TypeId × Value → H} {W : World} {base : Nat} {sp : Nat → Bool} {held : Bool} (b : Bool) : DataW.Trod enc Try.prog W base sp held 4 (.bool b) (.lit (.bool b)) [] := ⟨1, by simp [DataW.trod, Value.cells, Try.underlying4]⟩

theorem wf_i64 {n : Int} (h : (Lit.int .i64 n).wf = true) : -9223372036854775808 ≤ n ∧ n ≤ 9223372036854775807 := by
  simpa [Lit.wf, IntKind.min, IntKind.max, IntKind.signed, IntKind.bits] using h
theorem wf_u64 {n : Int} (h : (Lit.int .u64 n).wf = true) : 0 ≤ n ∧ n ≤ 18446744073709551615 := by
  simpa [Lit.wf, IntKind.min, IntKind.max, IntKind.signed, IntKind.bits] using h

/-- The keys that came in. -/
theorem read_keys {H : Type} {enc : TypeId × Value → H} {W : World} {a0 : Option Addr} {len cap : Nat} {d : DataW H} {p : List MemPlace} (h : DataW.Trod enc Try.prog W 0 (fun _ => true) true 23 (.slice a0 len cap) d p) :
    ∃ ks : List Nat, ks.length = len ∧ KeysAt W a0 ks ∧ (a0 = none → cap = 0) ∧ ((∃ zs : List Int, d = .slice (lits .u64 (zs.take len)) (lits .u64 (zs.drop len)) ∧ zs.length = cap ∧ len ≤ cap) ∨ len = 0) := by
  obtain ⟨fuel, hf⟩ := h
  rcases open_ints Try.underlying23 Try.underlying36 cells36 hf with ⟨hcs, hx⟩ | ⟨a, len', cap', zs, hcs, _, hl, hm, hz, hx, hcell, hwz⟩
  · simp [Value.cells] at hcs
    obtain ⟨rfl, rfl, rfl⟩ := hcs
    exact ⟨[], rfl, ⟨⟨rfl, fun _ => rfl, fun a e => (by cases e), fun u hu => (by simp [keyV] at hu)⟩, fun x hx => (by simp at hx)⟩, fun _ => rfl, .inr rfl⟩
  · simp [Value.cells] at hcs
    obtain ⟨rfl, rfl, rfl⟩ := hcs
    simp only [if_true] at hz
    simp only [Prod.mk.injEq] at hx
    obtain ⟨rfl, rfl⟩ := hx
    have hw : ∀ n ∈ zs, 0 ≤ n ∧ n ≤ 18446744073709551615 := fun n hn => wf_u64 (hwz n hn)
    refine ⟨(zs.take len).map Int.toNat, by simp; omega, ⟨⟨by simp [keyV], fun e => (by cases e), fun a' e j u hu => ?_, keyV_one⟩, fun x hx => ?_⟩, fun e => (by cases e), .inl ⟨zs, rfl, hz, hl⟩⟩
    · cases e
      have hj : j < len := by
        have := (List.getElem?_eq_some_iff.1 hu).1
        simp [keyV] at this
        omega
      have hc := hcell j (by omega)
      rw [hc]
      have hjz : j < zs.length := by omega
      have h0 := (hw zs[j] (List.getElem_mem hjz)).1
      simp [keyV, hj, hjz, List.getD_eq_getElem?_getD] at hu ⊢
      rw [← hu]
      congr 1
      omega
    · simp only [List.mem_map] at hx
      obtain ⟨n, hn, rfl⟩ := hx
      have := hw n (List.mem_of_mem_take hn)
      omega

/-- Numbers that came in. -/
structure IntsAt (w : World) (ao : Option Addr) (zs : List Int) : Prop where
  cell : ∀ (j : Nat) (x : Int), zs[j]? = some x → ∃ a, ao = some a ∧ w.cell? (a.add j) = some (.int .i64 x)
  rng : ∀ x ∈ zs, -9223372036854775808 ≤ x ∧ x ≤ 9223372036854775807
theorem IntsAt.lt_of {w : World} {ao : Option Addr} {zs : List Int} (h : IntsAt w ao zs) : ∀ a, ao = some a → 0 < zs.length → a.block < w.heap.size := fun a ha hpos => by
  obtain ⟨a', e, hc⟩ := h.cell 0 zs[0] (List.getElem?_eq_getElem hpos)
  rw [ha] at e
  cases e
  have := World.block_lt_of_cell? _ _ hc
  rwa [show (a.add 0).block = a.block by unfold Addr.add; split <;> rfl] at this
theorem IntsAt.keep {w w' : World} {ao : Option Addr} {zs : List Int} (h : IntsAt w ao zs) (hb : ∀ a, ao = some a → 0 < zs.length → w'.heap[a.block]? = w.heap[a.block]?) : IntsAt w' ao zs := by
  refine ⟨fun j x hx => ?_, h.rng⟩
  obtain ⟨a, ha, hc⟩ := h.cell j x hx
  refine ⟨a, ha, ?_⟩
  have hj : 0 < zs.length := by
    have := (List.getElem?_eq_some_iff.1 hx).1
    omega
  rw [World.cell?_of_block (w := w)]
  · exact hc
  · have e : (a.add j).block = a.block := by unfold Addr.add; split <;> rfl
    rw [e]
    exact hb a ha hj
theorem IntsAt.frm {S : Nat → Prop} {w w' : World} {ao : Option Addr} {zs : List Int} (h : IntsAt w ao zs) (hF : Frm S w w') (hn : ∀ a, ao = some a → 0 < zs.length → ¬ S a.block) : IntsAt w' ao zs :=
  h.keep fun a ha hpos => hF.block _ (h.lt_of a ha hpos) (hn a ha hpos)
theorem IntsAt.hp {S : Nat → Prop} {w w' : World} {ao : Option Addr} {zs : List Int} (h : IntsAt w ao zs) (hF : Hp S w w') (hn : ∀ a, ao = some a → 0 < zs.length → ¬ S a.block) : IntsAt w' ao zs :=
  h.keep fun a ha hpos => hF.block _ (h.lt_of a ha hpos) (hn a ha hpos)
theorem IntsAt.tp {w : World} {ao : Option Addr} {zs : List Int} (h : IntsAt w ao zs) (τ : Nat → Question → Nat) (d : Nat) : IntsAt (tp w τ d) ao zs := ⟨h.cell, h.rng⟩

theorem read_ints {H : Type} {enc : TypeId × Value → H} {W : World} {a0 : Option Addr} {len cap : Nat} {d : DataW H} {p : List MemPlace} (h : DataW.Trod enc Try.prog W 0 (fun _ => true) true 22 (.slice a0 len cap) d p) :
    ∃ ks : List Int, ks.length = len ∧ IntsAt W a0 ks ∧ ((∃ zs : List Int, d = .slice (lits .i64 (zs.take len)) (lits .i64 (zs.drop len)) ∧ zs.length = cap ∧ len ≤ cap) ∨ len = 0) := by
  obtain ⟨fuel, hf⟩ := h
  rcases open_ints Try.underlying22 Try.underlying3 cells3 hf with ⟨hcs, hx⟩ | ⟨a, len', cap', zs, hcs, _, hl, hm, hz, hx, hcell, hwz⟩
  · simp [Value.cells] at hcs
    obtain ⟨rfl, rfl, rfl⟩ := hcs
    exact ⟨[], rfl, ⟨fun j x hx => by simp at hx, fun x hx => by simp at hx⟩, .inr rfl⟩
  · simp [Value.cells] at hcs
    obtain ⟨rfl, rfl, rfl⟩ := hcs
    simp only [if_true] at hz
    simp only [Prod.mk.injEq] at hx
    obtain ⟨rfl, rfl⟩ := hx
    refine ⟨zs.take len, by simp; omega, ⟨fun j x hx => ⟨a, rfl, ?_⟩, fun x hx => wf_i64 (hwz x (List.mem_of_mem_take hx))⟩, .inl ⟨zs, rfl, hz, hl⟩⟩
    have hj : j < len := by
      have := (List.getElem?_eq_some_iff.1 hx).1
      simp at this
      omega
    rw [hcell j (by omega)]
    rw [List.getElem?_take, if_pos hj] at hx
    rw [List.getD_eq_getElem?_getD, hx]
    rfl
end Go.Proofs.Ytpioacgknamemaa
