/- A call of Places beside leavers. -/
import Derived.Test.YtpioacgknamemaaSay
set_option linter.unusedSectionVars false
namespace Go.Proofs.Ytpioacgknamemaa
open Go Go.RowKit Go.Conc Go.ConcN

/-- Of the blocks that were there only those of S may have turned; whatever the tape. -/
def Hp (S : Nat → Prop) (w w' : World) : Prop := Frm S w (tp w' w.tape w'.drawn)
theorem Frm.hp {S : Nat → Prop} {u w' : World} {τ : Nat → Question → Nat} {d : Nat} (h : Frm S (tp u τ d) w') : Hp S u w' := ⟨h.os, rfl, h.output, h.size, h.block⟩
theorem Hp.refl (S : Nat → Prop) (w : World) : Hp S w w := ⟨rfl, rfl, rfl, Nat.le_refl _, fun _ _ _ => rfl⟩
theorem Hp.trans {S T U : Nat → Prop} {a b c : World} (h : Hp S a b) (k : Hp T b c) (hS : ∀ i, S i → U i) (hT : ∀ i, i < a.heap.size → T i → U i) : Hp U a c :=
  ⟨k.os.trans h.os, rfl, k.output.trans h.output, Nat.le_trans h.size k.size, fun i hi hn => (k.block i (Nat.lt_of_lt_of_le hi h.size) (fun t => hn (hT i hi t))).trans (h.block i hi (fun s => hn (hS i s)))⟩
theorem Hp.mono {S T : Nat → Prop} {a b : World} (h : Hp S a b) (hS : ∀ i, i < a.heap.size → S i → T i) : Hp T a b := Frm.mono h hS
theorem Hp.size' {S : Nat → Prop} {a b : World} (h : Hp S a b) : a.heap.size ≤ b.heap.size := h.size
theorem Hp.keep {S : Nat → Prop} {a b : World} (h : Hp S a b) {k : Nat} {o : Obj} (ho : a.heap[k]? = some o) (hn : ¬ S k) : b.heap[k]? = some o := Frm.keep (b := tp b a.tape b.drawn) h ho hn
theorem Hp.owns {S : Nat → Prop} {w w' : World} (h : Hp S w w') {base : Nat} {e : TypeId} {size : Nat} {v : Value} {n : Nat} {xs : List Value} (ho : w.ownsRow base e size v n xs)
    (hn : ∀ k, v.ownBlock = some k → ¬ S k) : w'.ownsRow base e size v n xs := Frm.owns (w' := tp w' w.tape w'.drawn) h ho hn
theorem PoolX.hp {S : Nat → Prop} {w w' : World} {g : Nat} {tkv rwv : Value} {tk : List Int} {rs : List (Value × List Int)} {asked : Int} (h : PoolX w g tkv rwv tk rs asked) (hF : Hp S w w') (hg : ¬ S g) (ht : ∀ k, tkv.ownBlock = some k → ¬ S k) (hr : ∀ k, rwv.ownBlock = some k → ¬ S k)
    (hrs : ∀ (i : Nat) v row k, rs[i]? = some (v, row) → v.ownBlock = some k → ¬ S k) : PoolX w' g tkv rwv tk rs asked := by
  have := h.frm (w' := tp w' w.tape w'.drawn) hF hg ht hr hrs
  exact ⟨this.blk, this.tk, this.rw', this.rows, this.sep, this.sept⟩
theorem PoolX.tp {w : World} {g : Nat} {tkv rwv : Value} {tk : List Int} {rs : List (Value × List Int)} {asked : Int} (h : PoolX w g tkv rwv tk rs asked) (τ : Nat → Question → Nat) (d : Nat) : PoolX (tp w τ d) g tkv rwv tk rs asked :=
  ⟨h.blk, h.tk, h.rw', h.rows, h.sep, h.sept⟩

theorem cell_ufz {κ : Nat → Kd} {u : World} (hV : View κ u u) {a : Addr} {v : Value} (h : u.cell? a = some v) : (ufz κ u).cell? a = some v := by
  have hlt := World.block_lt_of_cell? u a h
  unfold World.cell? at h ⊢
  rw [ufz_get hlt]
  unfold fzObj
  cases hb : u.heap[a.block]? with
  | none => rw [hb] at h; cases h
  | some o =>
    rw [hb] at h
    cases o with
    | cells c T fz =>
      have hk : κ a.block ≠ .void := fun hk => by
        have := hV.void _ hk
        rw [hb] at this
        cases this
      simp only [hk, if_false]
      exact h
    | _ => cases h

theorem SetR.ufz {κ : Nat → Kd} {u : World} (hV : View κ u u) {g : Nat} {tk : List Int} {rows : List (List Int)} (h : SetR u g tk rows) : SetR (ufz κ u) g tk rows := by
  have hr : ∀ {ao : Option Addr} {xs : List Int}, Rdd u .i64 ao xs → Rdd (Ytpioacgknamemaa.ufz κ u) .i64 ao xs := fun hx j x hj => by
    obtain ⟨g, e, hc⟩ := hx j x hj
    exact ⟨g, e, cell_ufz hV hc⟩
  refine ⟨?_, ?_⟩
  · obtain ⟨ao, cap, hc, hx⟩ := h.tk
    exact ⟨ao, cap, cell_ufz hV hc, hr hx⟩
  · obtain ⟨rb, cap, hc, hx⟩ := h.rows
    refine ⟨rb, cap, cell_ufz hV hc, fun i row hi => ?_⟩
    obtain ⟨ao, c, h1, h2⟩ := hx i row hi
    exact ⟨ao, c, cell_ufz hV h1, hr h2⟩
theorem SetR.tp {u : World} {g : Nat} {tk : List Int} {rows : List (List Int)} (h : SetR u g tk rows) (τ : Nat → Question → Nat) (d : Nat) : SetR (tp u τ d) g tk rows := ⟨h.tk, h.rows⟩

/-- So many were asked for. -/
def cnt (m : Nat) : Int := more 0 m
theorem more_cnt (m d : Nat) : more (cnt m) (d : Int) = cnt (m + d) := by
  simp only [cnt, more, IntKind.wrap_u64]
  omega
theorem cnt_zero : cnt 0 = 0 := rfl

def keyV (ks : List Nat) : List Value := ks.map fun x => .int .u64 (Int.ofNat x)

section
variable {Post : Value → World → Prop} {W : World} {Sh : Loc → Prop} {κ : Nat → Kd} {N : Nat} {u : World} {c : Frame} {cs : List Frame}

theorem res19 (t : Array Value) : resV Try.f19 t = t.getD 4 undef := by
  simp [resV, oneV, slotV]

set_option maxRecDepth 100000 in
set_option maxHeartbeats 1000000 in
theorem ends_places (hSh : ∀ l, Sh l → ∃ a, l = .cell a ∧ κ a.block = .void) {g : Nat} {tkv rwv : Value} {tk : List Int} {rs : List (Value × List Int)} {m : Nat} (h : PoolX u g tkv rwv tk rs (cnt m)) (hG : GoodRows tk (rs.map (·.2)))
    {ks : List Nat} (hks : ∀ x ∈ ks, x < 18446744073709551616) {lb cap : Nat} (ho : u.ownsRow 0 36 1 (.slice (some ⟨lb, 0, none⟩) ks.length cap) ks.length (keyV ks)) (h1 : 1 ≤ ks.length) (hroom : 8 * ks.length ≤ 281474976710656) (hN : N + 8 < 2147483648)
    (hK : ∀ (Sh' : Loc → Prop) (κ' : Nat → Kd) (u' : World) (z : Nat), (∀ l, Sh' l → ∃ a, l = .cell a ∧ κ' a.block = .void) → Hp (fun k => k = g) u u' → (∀ r, r < u.heap.size → κ' r = κ r) → PoolX u' g tkv rwv tk rs (cnt (m + ks.length)) → u.heap.size ≤ z →
      u'.ownsRow 0 3 1 (.slice (some ⟨z, 0, none⟩) ks.length ks.length) ks.length (ks.map fun k => .int .i64 (whr tk (rs.map (·.2)) k)) →
      EndsOk Try.prog Post W Sh' κ' (N + 8) (G (c.finish (.slice (some ⟨z, 0, none⟩) ks.length ks.length)) cs) u') :
    EndsOk Try.prog Post W Sh κ N (G (Frame.enter Try.prog 19 #[.pointer (some ⟨g, 0, none⟩), .slice (some ⟨lb, 0, none⟩) ks.length cap] .normal) (c :: cs)) u := by
  have hw1 : IntKind.u64.wrap (ks.length : Int) = ks.length := by rw [IntKind.wrap_u64]; omega
  rw [Go.Conc.enter_at _ Try.func19 rfl]
  simp only [Try.f19, List.size_toArray, List.length_cons, List.length_nil, Nat.reduceAdd, Nat.reduceSub, Array.replicate_succ, Array.replicate_zero, List.push_toArray, List.append_toArray, List.nil_append, List.cons_append]
  refine ends_seq ?_
  refine ends_view fun hV => ends_code tame hSh hV (by show (Try.prog.funcs[(19 : Nat)]?).isSome = true; rw [Try.func19]; rfl) rfl rfl (by kernel_rfl) fun τ d => ?_
  go_wp2
  refine EndsOk.at (u := u) ?_ rfl
  refine ends_seq ?_
  refine ends_view fun hV => ends_code tame hSh hV (by show (Try.prog.funcs[(19 : Nat)]?).isSome = true; rw [Try.func19]; rfl) rfl rfl (by kernel_rfl) fun τ d => ?_
  have hP := h.tp τ d
  go_wp2_with (go_at_call 32; refine (add_any _ g (cnt m) ks.length hP.c2 hP.z2).mono ?_; rintro e w1 ⟨rfl, hw⟩; obtain rfl := hw.symm)
  refine EndsOk.at (u := ask u g (more (cnt m) ks.length)) ?_ rfl
  have hA := h.ask (more (cnt m) ks.length)
  rw [more_cnt] at hA ⊢
  have hF := ask_frm u g (cnt (m + ks.length))
  have hoA := hF.owns ho (fun k hk e => owns_ne ho h.blk (by decide) (e ▸ hk))
  generalize hu1 : ask u g (cnt (m + ks.length)) = u1 at hA hF hoA
  clear hP
  refine ends_seq ?_
  refine ends_reg rfl ?_
  simp only [List.size_toArray, List.length_cons, List.length_nil, Nat.reduceAdd, Nat.zero_add, List.range, List.range.loop]
  refine ends_op rfl rfl (fun w => by simp [go_sem]; rfl) (fun w => by simp [go_sem]) ?_
  walk_nrm
  refine ends_op rfl rfl (fun w => by simp [go_sem]; rfl) (fun w => by simp [go_sem]) ?_
  walk_nrm
  refine ends_op rfl rfl (fun w => by simp [go_sem]; rfl) (fun w => by simp [go_sem]) ?_
  walk_nrm
  refine ends_op rfl rfl (fun w => by simp [go_sem]; rfl) (fun w => by simp [go_sem]) ?_
  walk_nrm
  refine ends_into rfl rfl (by k_ne) rfl Try.func33 (by kernel_rfl) rfl ?_
  walk_nrm
  have hgt : ∀ i, i < ks.length → (keyV ks)[i]? = some (.int .u64 (Int.ofNat (ks.getD i 0))) := fun i hi => by
    simp [keyV, hi]
  have hu1s : u1.heap.size = u.heap.size := by rw [← hu1]; simp [ask, World.setCell]
  refine ends_view fun hV1 => ?_
  obtain ⟨cur, hcur⟩ := owns_type hoA (k := lb) rfl
  have hkv : κ lb ≠ .void := fun hk => by
    have := hV1.void _ hk
    rw [hcur] at this
    cases this
  have hcap : ks.length ≤ cap ∧ cap ≤ maxLen := by
    rcases ho.2 with ⟨e, _⟩ | ⟨g', cap', cur', e, _, _, hnc, hcm, _⟩
    · cases e
    · cases e
      exact ⟨hnc, hcm⟩
  have hne : rs ≠ [] := fun e => by have := hG.size; simp [e] at this
  have hS := (hA.setR hne).ufz hV1
  refine ends_findAll (lb := ⟨lb, 0, none⟩) (sa := ⟨g, 0, none⟩) (n := ks.length) (cap := cap) (key := fun i => Int.ofNat (ks.getD i 0)) (pl := fun i => whr tk (rs.map (·.2)) (ks.getD i 0)) tame (by decide) hSh h1 hcap.1 (by have := hcap.2; simp only [maxLen] at this; omega) hroom hN (lt_of_block hcur) hkv ⟨_, _, _, hcur⟩ (fun i hi => by
    rw [add0, hoA.cellAt i (by omega)]
    exact hgt i hi) (fun i hi τ d => ?_) fun Sh' κ' u' hSh' hV' hsz hold hkz hz hos hout => ?_
  · refine (find_ok _ g tk _ (hS.tp τ d) hG (ks.getD i 0) (hks _ ?_)).mono ?_
    · rw [List.getD_eq_getElem?_getD, List.getElem?_eq_getElem hi]
      exact List.getElem_mem hi
    · rintro e w' ⟨rfl, rfl⟩
      exact ⟨_, rfl, rfl, rfl⟩
  · rw [finish_at rfl]
    walk_nrm
    refine ends_op rfl rfl (fun w => by simp [go_sem]; rfl) (fun w => by simp [go_sem]) ?_
    walk_nrm
    refine ends_regEnd (ends_ret ?_)
    refine ends_leave rfl rfl Try.func19 (by kernel_rfl) ?_
    rw [res19]
    walk_nrm
    have hF2 : Hp NoB u1 u' := ⟨hos, rfl, hout, by show u1.heap.size ≤ u'.heap.size; omega, fun k hk _ => (hold k hk).1⟩
    have hH : Hp (fun k => k = g) u u' := (show Hp (fun k => k = g) u u1 from ⟨hF.os, rfl, hF.output, hF.size, hF.block⟩).trans hF2 (fun _ s => s) (fun _ _ t => t.elim)
    refine hK Sh' κ' u' (u1.heap.size + 2) hSh' hH (fun r hr => (hold r (by omega)).2) (hA.hp hF2 (fun s => s) (fun _ _ s => s) (fun _ _ s => s) (fun _ _ _ _ _ _ s => s)) (by omega) ?_
    refine ⟨by simp, .inr ⟨_, _, _, rfl, Nat.zero_le _, hz, Nat.le_refl _, Nat.le_trans hcap.1 hcap.2, by simp [vals], ?_⟩⟩
    apply List.ext_getElem?
    intro i
    by_cases hi : i < ks.length
    · simp [vals, hi]
    · simp [vals, hi]
end
end Go.Proofs.Ytpioacgknamemaa
