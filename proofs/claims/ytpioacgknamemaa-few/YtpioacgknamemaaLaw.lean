/- What the laws have in common: a pool begun, moved, asked where keys go; beside leavers. -/
import Derived.Test.YtpioacgknamemaaMoved
set_option linter.unusedSectionVars false
namespace Go.Proofs.Ytpioacgknamemaa
open Go Go.RowKit Go.Conc Go.ConcN

section
variable {O O' S : Nat → Prop} {w w' : World} {g : Nat} {m : Int} {tk : List Int} {rows front : List (List Int)} {row : List Int}

theorem PoolS.tp (h : PoolS w g O tk rows m) (τ : Nat → Question → Nat) (d : Nat) : PoolS (tp w τ d) g O tk rows m := by
  obtain ⟨tkv, rwv, rs, hr, hX, hO⟩ := h
  exact ⟨tkv, rwv, rs, hr, hX.tp τ d, hO⟩
theorem PoolS.hp (h : PoolS w g O tk rows m) (hF : Hp S w w') (hS : ∀ k, O k → ¬ S k) : PoolS w' g O tk rows m := by
  obtain ⟨tkv, rwv, rs, hr, hX, hO⟩ := h
  exact ⟨tkv, rwv, rs, hr, hX.hp hF (hS _ hO.g) (fun k hk => hS k (hO.tk k hk)) (fun k hk => hS k (hO.rw' k hk)) (fun i v r k hi hk => hS k (hO.rows i v r k hi hk)), hO⟩
/-- Its blocks are there. -/
theorem PoolS.tight (h : PoolS w g O tk rows m) : PoolS w g (fun k => O k ∧ k < w.heap.size) tk rows m := by
  obtain ⟨tkv, rwv, rs, hr, hX, hO⟩ := h
  exact ⟨tkv, rwv, rs, hr, hX, ⟨⟨hO.g, hX.gl⟩, fun k hk => ⟨hO.tk k hk, owns_lt hX.tk hk⟩, fun k hk => ⟨hO.rw' k hk, owns_lt hX.rw' hk⟩, fun i v r k hi hk => ⟨hO.rows i v r k hi hk, owns_lt (hX.rows i v r hi) hk⟩⟩⟩
theorem PoolS.og (h : PoolS w g O tk rows m) : O g := by
  obtain ⟨tkv, rwv, rs, hr, hX, hO⟩ := h
  exact hO.g
theorem PoolS.gl (h : PoolS w g O tk rows m) : g < w.heap.size := by
  obtain ⟨tkv, rwv, rs, hr, hX, hO⟩ := h
  exact hX.gl

theorem begun_any (w : World) (n : Nat) (h1 : 1 ≤ n) (hn : n ≤ 64) :
    Calls Try.prog 7 #[.int .i64 n] w fun e w' => ∃ g, e = .returned (.pointer (some ⟨g, 0, none⟩)) ∧ Frm NoB w w' ∧ PoolS w' g (fun k => w.heap.size ≤ k) [] [upto n] 0 := by
  refine (begun_ok w n h1 hn).mono ?_
  rintro e w' ⟨g, rwv, v, rfl, hX, hA, hF⟩
  exact ⟨g, rfl, hF, _, rwv, _, rfl, hX, ⟨hA.g, hA.tk, hA.rw', hA.rows⟩⟩

theorem askedS (h : PoolS w g O tk rows m) : Calls Try.prog 14 #[.pointer (some ⟨g, 0, none⟩)] w fun e w' => e = .returned (.int .u64 m) ∧ w' = w := by
  obtain ⟨tkv, rwv, rs, hr, hX, hO⟩ := h
  exact asked_any w g tkv rwv tk rs m hX
end

section
variable {Post : Value → World → Prop} {W : World} {Sh : Loc → Prop} {κ : Nat → Kd} {N : Nat} {u : World} {c : Frame} {cs : List Frame}

/-- Where keys go: as values. -/
noncomputable def whrV (tk : List Int) (rows : List (List Int)) (ks : List Nat) : List Value := (plus2 ks).map fun x => .int .i64 (whr tk rows x)

theorem ends_whereS (hSh : ∀ l, Sh l → ∃ a, l = .cell a ∧ κ a.block = .void) {O : Nat → Prop} {g m : Nat} {tk : List Int} {rows : List (List Int)} (h : PoolS u g O tk rows (cnt m)) (hs : St tk rows)
    {ao : Option Addr} {kc : Nat} {ks : List Nat} (hKs : KeysAt u ao ks) (hc : ao = none → kc = 0) (hlen : (ks.length + 2) * 8 ≤ 140737488355328) (hN : N + 8 < 2147483648)
    (hK : ∀ (Sh' : Loc → Prop) (κ' : Nat → Kd) (u' : World) (b cap : Nat), (∀ l, Sh' l → ∃ a, l = .cell a ∧ κ' a.block = .void) → Hp (fun k => k = g) u u' → (∀ r, r < u.heap.size → κ' r = κ r) → PoolS u' g O tk rows (cnt (m + 2 * (ks.length + 2))) → u.heap.size ≤ b → b < u'.heap.size →
      u'.ownsRow 0 3 1 (.slice (some ⟨b, 0, none⟩) (ks.length + 2) cap) (ks.length + 2) (whrV tk rows ks) →
      EndsOk Try.prog Post W Sh' κ' (N + 8) (G (c.finish (.tuple #[.slice (some ⟨b, 0, none⟩) (ks.length + 2) cap, .bool true])) cs) u') :
    EndsOk Try.prog Post W Sh κ N (G (Frame.enter Try.prog 12 #[.pointer (some ⟨g, 0, none⟩), .slice ao ks.length kc] .normal) (c :: cs)) u := by
  obtain ⟨front, row, rfl⟩ := hs.split
  obtain ⟨tkv, rwv, rs, hr, hX, hO⟩ := h
  obtain ⟨rs0, v, rfl, h0⟩ := map_snoc hr
  have hl := hs.lens
  have hl0 := PoolS.len hs h0
  refine ends_where hSh hX (by rw [hr]; exact hs.sok.good) (by omega) hl.2.1 (by omega) (fun x _ => by rw [hr]; exact whr_mem hs x) hKs hc hlen hN fun Sh' κ' u' out hSh' hF hk hX' hn ho => ?_
  rw [hr] at ho
  obtain ⟨b, cap, rfl⟩ : ∃ b cap, out = .slice (some ⟨b, 0, none⟩) (ks.length + 2) cap := by
    rcases ho.2 with ⟨_, q⟩ | ⟨lb, cp, cur, e, _⟩
    · omega
    · exact ⟨lb, cp, e⟩
  exact hK Sh' κ' u' b cap hSh' hF hk ⟨tkv, rwv, _, hr, hX', hO⟩ (hn b rfl) (owns_lt ho rfl) ho

theorem whrV_at (tk : List Int) (rows : List (List Int)) (ks : List Nat) {k : Nat} (h : k < ks.length + 2) : ∃ x, (plus2 ks)[k]? = some x ∧ (whrV tk rows ks)[k]? = some (.int .i64 (whr tk rows x)) := by
  have : k < (plus2 ks).length := by rw [plus2_len]; exact h
  refine ⟨(plus2 ks)[k], List.getElem?_eq_getElem this, ?_⟩
  rw [whrV, List.getElem?_map, List.getElem?_eq_getElem this]
  rfl
end
end Go.Proofs.Ytpioacgknamemaa
set_option linter.unusedSectionVars false
namespace Go.Proofs.Ytpioacgknamemaa
open Go Go.RowKit Go.Conc Go.ConcN

/-- Blocks that were not there. -/
abbrev Newer (u : World) : Nat → Prop := fun k => u.heap.size ≤ k
theorem Hp.thenN {T : Nat → Prop} {a b c : World} (h : Hp (Newer a) a b) (k : Hp T b c) (hT : ∀ i, T i → Newer a i) : Hp (Newer a) a c := h.trans k (fun _ s => s) (fun i _ t => hT i t)
theorem Hp.toNo {a b : World} (h : Hp (Newer a) a b) : Hp NoB a b := h.mono (fun _ hi s => absurd s (Nat.not_le.2 hi))
theorem Hp.ofNo {S : Nat → Prop} {a b : World} (h : Hp NoB a b) : Hp S a b := h.mono (fun _ _ s => s.elim)
theorem KeysAt.newer {u w : World} {ao : Option Addr} {ks : List Nat} (h : KeysAt u ao ks) (hF : Hp (Newer u) u w) : KeysAt w ao ks := h.hp hF (fun _ hk s => absurd s (Nat.not_le.2 hk))
theorem IntsAt.newer {u w : World} {ao : Option Addr} {zs : List Int} (h : IntsAt u ao zs) (hF : Hp (Newer u) u w) : IntsAt w ao zs := h.hp hF (fun a ha hp s => absurd s (Nat.not_le.2 (h.lt_of a ha hp)))

/-- The places in a list, cell by cell. -/
noncomputable def plA (tk : List Int) (rows : List (List Int)) (ks : List Nat) (k : Nat) : Int := whr tk rows ((plus2 ks).getD k 0)
theorem plA_cell {w : World} {tk : List Int} {rows : List (List Int)} {ks : List Nat} {b cap : Nat} (ho : w.ownsRow 0 3 1 (.slice (some ⟨b, 0, none⟩) (ks.length + 2) cap) (ks.length + 2) (whrV tk rows ks)) (k : Nat) (hk : k < ks.length + 2) : w.cell? ⟨b, k, none⟩ = some (.int .i64 (plA tk rows ks k)) := by
  obtain ⟨x, h1, h2⟩ := whrV_at tk rows ks hk
  rw [ho.cellAt k (by omega), h2, plA, List.getD_eq_getElem?_getD, h1]
  rfl
theorem cnt_small {m : Nat} (h : m < 18446744073709551616) : cnt m = (m : Int) := by
  simp only [cnt, more, IntKind.wrap_u64]
  omega

theorem IntsAt.ust {W : World} {ao : Option Addr} {zs : List Int} (h : IntsAt W ao zs) : IntsAt (ust W) ao zs := ⟨fun j x hx => by obtain ⟨a, e, hc⟩ := h.cell j x hx; exact ⟨a, e, cell_ust hc⟩, h.rng⟩
theorem KeysAt.ust {W : World} {ao : Option Addr} {ks : List Nat} (h : KeysAt W ao ks) : KeysAt (ust W) ao ks := ⟨⟨h.src.1, h.src.2.1, fun a ha j u hu => cell_ust (h.src.2.2.1 a ha j u hu), h.src.2.2.2⟩, h.lt⟩
end Go.Proofs.Ytpioacgknamemaa
namespace Go.Proofs.Ytpioacgknamemaa
open Go Go.ChangeShapes

section
variable {H : Type} {enc : TypeId × Value → H} {P : Program} {w : World} {base : Nat} {spare : Nat → Bool} {held : Bool} {t0 t1 t2 t3 : TypeId}
theorem all_four {args : Array Value} {ds : List (DataW H)} {ps : List MemPlace} (h : DataW.TrodAll enc P w base spare held [t0, t1, t2, t3] args.toList ds ps) :
    ∃ v0 v1 v2 v3 d0 d1 d2 d3 p0 p1 p2 p3, args = #[v0, v1, v2, v3] ∧ ds = [d0, d1, d2, d3] ∧ ps = p0 ++ (p1 ++ (p2 ++ p3)) ∧ DataW.Trod enc P w base spare held t0 v0 d0 p0 ∧ DataW.Trod enc P w base spare held t1 v1 d1 p1 ∧ DataW.Trod enc P w base spare held t2 v2 d2 p2 ∧ DataW.Trod enc P w base spare held t3 v3 d3 p3 := by
  obtain ⟨v0, r0, d0, e0, p0, q0, ha, rfl, rfl, h0, k0⟩ := trodAll_cons h
  obtain ⟨v1, r1, d1, e1, p1, q1, rfl, rfl, rfl, h1, k1⟩ := trodAll_cons k0
  obtain ⟨v2, r2, d2, e2, p2, q2, rfl, rfl, rfl, h2, k2⟩ := trodAll_cons k1
  obtain ⟨v3, r3, d3, e3, p3, q3, rfl, rfl, rfl, h3, k3⟩ := trodAll_cons k2
  obtain ⟨rfl, rfl, rfl⟩ := trodAll_nil k3
  exact ⟨v0, v1, v2, v3, d0, d1, d2, d3, p0, p1, p2, p3, by cases args; simp_all, rfl, by simp, h0, h1, h2, h3⟩
theorem mk_four {v0 v1 v2 v3 : Value} {d0 d1 d2 d3 : DataW H} {p0 p1 p2 p3 : List MemPlace} (h0 : DataW.Trod enc P w base spare held t0 v0 d0 p0) (h1 : DataW.Trod enc P w base spare held t1 v1 d1 p1) (h2 : DataW.Trod enc P w base spare held t2 v2 d2 p2) (h3 : DataW.Trod enc P w base spare held t3 v3 d3 p3) :
    DataW.TrodAll enc P w base spare held [t0, t1, t2, t3] [v0, v1, v2, v3] [d0, d1, d2, d3] (p0 ++ (p1 ++ (p2 ++ p3))) := ⟨p0, p1 ++ (p2 ++ p3), h0, trodAll_mk3 h1 h2 h3, rfl⟩
end
end Go.Proofs.Ytpioacgknamemaa
