/- What the laws have in common, continued: frames, lists of places, arguments at the start. -/
import Derived.Test.YtpioacgknamemaaLaw
set_option linter.unusedSectionVars false
namespace Go.Proofs.Ytpioacgknamemaa
open Go Go.RowKit Go.Conc Go.ConcN

/-- Blocks that were not there. -/
abbrev Newer (u : World) : Nat → Prop := fun k => u.heap.size ≤ k
theorem Hp.thenN {T : Nat → Prop} {a b c : World} (h : Hp (Newer a) a b) (k : Hp T b c) (hT : ∀ i, T i → Newer a i) : Hp (Newer a) a c := h.trans k (fun _ s => s) (fun i _ t => hT i t)
theorem Hp.toNo {a b : World} (h : Hp (Newer a) a b) : Hp NoB a b := h.mono (fun _ hi s => absurd s (Nat.not_le.2 hi))
theorem Hp.ofNo {S : Nat → Prop} {a b : World} (h : Hp NoB a b) : Hp S a b := h.mono (fun _ _ s => s.elim)
theorem KeysAt.newer {u w : World} {ao : Option Addr} {ks : List Nat} (h : KeysAt u ao ks) (hF : Hp (Newer u) u w) : KeysAt w ao ks := h.hp hF (fun _ hk s => absurd s (Nat.not_le.2 hk))
theorem IntsAt.newer {u w : World} {ao : Option Addr} {zs : List Int} (h : IntsAt u ao zs) (hF : Hp (Newer u) u w) : IntsAt w ao zs := h.hp hF (fun a ha hp s => absurd s (Nat.not_le.2 (h.lt_of a ha hp)))

/-- The places in a list, cell by cell. -/
noncomputable def plA (tk : List Int) (rows : List (List Int)) (ks : List Nat) (k : Nat) : Int := whr tk rows ((plus2 ks).getD k 0)
theorem plA_cell {w : World} {tk : List Int} {rows : List (List Int)} {ks : List Nat} {b cap : Nat} (ho : w.ownsRow 0 3 1 (.slice (some ⟨b, 0, none⟩) (ks.length + 2) cap) (ks.length + 2) (whrV tk rows ks)) (k : Nat) (hk : k < ks.length + 2) : w.cell? ⟨b, k, none⟩ = some (.int .i64 (plA tk rows ks k)) := by
  obtain ⟨x, h1, h2⟩ := whrV_at tk rows ks hk
  rw [ho.cellAt k (by omega), h2, plA, List.getD_eq_getElem?_getD, h1]
  rfl
theorem cnt_small {m : Nat} (h : m < 18446744073709551616) : cnt m = (m : Int) := by
  simp only [cnt, more, IntKind.wrap_u64]
  omega

theorem IntsAt.ust {W : World} {ao : Option Addr} {zs : List Int} (h : IntsAt W ao zs) : IntsAt (ust W) ao zs := ⟨fun j x hx => by obtain ⟨a, e, hc⟩ := h.cell j x hx; exact ⟨a, e, cell_ust hc⟩, h.rng⟩
theorem KeysAt.ust {W : World} {ao : Option Addr} {ks : List Nat} (h : KeysAt W ao ks) : KeysAt (ust W) ao ks := ⟨⟨h.src.1, h.src.2.1, fun a ha j u hu => cell_ust (h.src.2.2.1 a ha j u hu), h.src.2.2.2⟩, h.lt⟩
end Go.Proofs.Ytpioacgknamemaa
