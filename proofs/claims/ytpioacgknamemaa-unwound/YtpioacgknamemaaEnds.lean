/- A call of FindAll, whole, beside leavers: by the contract of Find alone. -/
import Derived.Test.YtpioacgknamemaaTail
set_option linter.unusedSectionVars false
namespace Go.Proofs.Ytpioacgknamemaa
open Go Go.RowKit Go.Conc Go.ConcN Go.ConcN.Gen Go.Conc.Lib Go.ConcR.Gen
open Go.ConcR (KK wgBlock WgAt stA smA rd wr mk ofEvent_cell Payload Aside2 DC0)

theorem cut (n part m : Nat) (h1 : 1 ≤ n) (hp : part = (n + 7) / 8) (hm : m = (n + part - 1) / part) : 1 ≤ part ∧ part ≤ n ∧ m ≤ 8 ∧ n ≤ m * part ∧ ∀ i, i < m → i * part < n := by
  have p1 : 1 ≤ part := by omega
  have hd := Nat.div_add_mod (n + part - 1) part
  have hr := Nat.mod_lt (n + part - 1) (show 0 < part by omega)
  rw [← hm] at hd
  have hc : part * m = m * part := Nat.mul_comm _ _
  refine ⟨p1, by omega, ?_, by omega, fun i hi => ?_⟩
  · have : m < 9 := by
      rw [hm, Nat.div_lt_iff_lt_mul (by omega)]
      omega
    omega
  · have := Nat.mul_le_mul_right part (Nat.succ_le_of_lt hi)
    rw [Nat.succ_mul] at this
    omega

def vals (n : Nat) (pl : Nat → Int) : Array Value := Array.ofFn (n := n) fun o => .int .i64 (pl o.1)

section
variable {Post : Value → World → Prop} {W : World} {Sh : Loc → Prop} {κ : Nat → Kd} {N : Nat} {u : World} {sa lb : Addr} {n cap : Nat} {key pl : Nat → Int} {c : Frame} {cs : List Frame}

theorem ends_findAll {S X : FuncId → Bool} (hT : Tame Try.prog S X) (h34 : S 34 = true) (hSh : ∀ l, Sh l → ∃ a, l = .cell a ∧ κ a.block = .void) (h1 : 1 ≤ n) (hnc : n ≤ cap) (hcm : cap ≤ 9223372036854775807) (hroom : 8 * n ≤ 281474976710656) (hN : N + 8 < 2147483648)
    (hlb : lb.block < u.heap.size) (hlk : κ lb.block ≠ .void) (hlc : ∃ c T fz, u.heap[lb.block]? = some (.cells c T fz)) (hkeys : ∀ i, i < n → u.cell? (lb.add i) = some (.int .u64 (key i)))
    (hfind : ∀ i, i < n → ∀ τ d, Calls Try.prog 34 #[.pointer (some sa), .int .u64 (key i)] (tp (ufz κ u) τ d) fun e w' => ∃ v, e = .returned v ∧ v = .int .i64 (pl i) ∧ w'.heap = (ufz κ u).heap)
    (hK : ∀ (Sh' : Loc → Prop) (κ' : Nat → Kd) (u' : World), (∀ l, Sh' l → ∃ a, l = .cell a ∧ κ' a.block = .void) → View κ' u' u' → u.heap.size + 2 < u'.heap.size → (∀ r, r < u.heap.size → u'.heap[r]? = u.heap[r]? ∧ κ' r = κ r) → κ' (u.heap.size + 2) = .same →
      u'.heap[u.heap.size + 2]? = some (.cells (vals n pl) 3) → u'.os = u.os → u'.output = u.output → EndsOk Try.prog Post W Sh' κ' (N + 8) (G (c.finish (.slice (some ⟨u.heap.size + 2, 0, none⟩) n n)) cs) u') :
    EndsOk Try.prog Post W Sh κ N (G (Frame.enter Try.prog 33 #[.pointer (some sa), .slice (some lb) n cap] .normal) (c :: cs)) u := by
  intro gs w sl t q h0 hgm hV hz hI hl
  have hg0 : 0 < gs.size := (Array.getElem?_eq_some_iff.1 h0).1
  obtain ⟨p1, pn, m8, hend, hm1⟩ := cut n ((n + 7) / 8) ((n + (n + 7) / 8 - 1) / ((n + 7) / 8)) h1 rfl rfl
  generalize hpart : (n + 7) / 8 = part at p1 pn m8 hend hm1
  generalize hmm : (n + part - 1) / part = m at m8 hend hm1
  let f : FA := { Sh := Sh, z := w.heap.size, n := n, cap := cap, part := part, J0 := gs.size, m := m, lb := lb, S := .pointer (some sa), key := key, pl := pl, w0 := w, u := ufz κ u, κ := kfz κ u }
  have hkv : ∀ r, κ r = .void → r < u.heap.size ∧ kfz κ u r = .void := fun r hr => by
    have hv := hV.void r hr
    have hlt := (Array.getElem?_eq_some_iff.1 hv).1
    exact ⟨hlt, by unfold kfz; rw [if_pos hlt, hv]⟩
  have hO : f.Ok := by
    refine ⟨hg0, show gs.size + m < 2147483648 by omega, h1, p1, hm1, hnc, hcm, fun l hsl => ?_, ufz_size.trans hz, fun w' hb hs => view_fz hV (fun r hr => hb r (show r < w.heap.size by omega)) (show u.heap.size ≤ w'.heap.size by have : w.heap.size ≤ w'.heap.size := hs; omega), fun r hr => kfz_lt (show r < u.heap.size by have : r < w.heap.size := hr; omega), (show lb.block < w.heap.size by omega), ?_, fun i hi => ?_, hfind⟩
    · obtain ⟨a, rfl, ha⟩ := hSh l hsl
      exact ⟨a, rfl, (show a.block < w.heap.size by have := (hkv _ ha).1; omega), (hkv _ ha).2⟩
    · obtain ⟨c', T, fz, hc⟩ := hlc
      show kfz κ u lb.block ≠ .void
      unfold kfz
      rw [if_pos hlb, hc]
      simp [hlk]
    · show w.cell? (lb.add i) = _
      rw [hV.cell_eq (by rw [add_block]; exact hlb) (by rw [add_block]; exact hlk)]
      exact hkeys i hi
  have hF0 : FL f 0 (fun _ => none) w := ⟨rfl, fun _ _ => rfl, fun i o hi _ => absurd hi (by omega), rfl, rfl, rfl⟩
  obtain ⟨F, hG⟩ := fa_pre (c := c) (cs := cs) hO rfl hroom hpart.symm hF0
  obtain ⟨N1, gs1, g1, w1, sl1, t1, q1, a1, a2, a3, a4, a5, hHd, gg, hFL, k0, k1, k2, k3, k4, k5⟩ := way_idle (NT := fun l => ¬ ShN (f.z + 4) l) R0.refl R0.trans (fun w d => ⟨d, rfl⟩) (fun _ _ _ h => h) _ gs w sl t q hG h0 (hI.mono (show w.heap.size ≤ w.heap.size + 6 by omega)) (fun op hop x hx => by
    have hlow := hI.low op hop x hx
    rintro ⟨a, e, ha⟩
    rw [e] at hlow
    have : a.block < w.heap.size := hlow
    have : a.block = w.heap.size + 4 := ha
    omega)
  have hFW : FW f (6 + 4 * 0) (gh f 0) w1 := by
    refine ⟨hFL.weaken fun j hj => ?_, ⟨0, 0, hFL.at' 4 _ (by omega) k4⟩⟩
    have : j = 0 ∨ j = 1 ∨ j = 2 ∨ j = 3 ∨ j = 4 ∨ j = 5 := by omega
    rcases this with rfl | rfl | rfl | rfl | rfl | rfl
    · exact .inl ((gh0 f 0).trans k0.symm)
    · exact .inl ((gh1 f 0).trans k1.symm)
    · exact .inr (gh2 f 0)
    · exact .inl ((gh3 f 0).trans k3.symm)
    · exact .inr (gh4 f 0)
    · exact .inl ((ghi f 0).trans k5.symm)
  have hst := fa_starts (c := c) (cs := cs) hO hroom pn hend hT h34 m 0 g1 w1 (by show 0 + m = m; omega) hHd hFW
  obtain ⟨N2, gs2, w2, sl2, t2, a', q2, b1, b2, b3, b4, b5, b6, b7, b8⟩ := phase_from (p := f.plan) (sl := sl1) hO.fits head_run (head_goes rfl) a3 a2.symm (show gs.size ≤ gs.size + m by omega) a4 (show w.heap.size + 6 ≤ w.heap.size + 6 + 4 * m by omega) a5
    ⟨_, hFL.at' 2 _ (by omega) k2, by rw [size_madeCells]; rfl⟩ (hFL.at' 4 _ (by omega) k4) (by
      show f.plan.Starts (Head f c cs) (gs.size + m) (gs.size + m - gs.size) g1 w1
      rw [show gs.size + m - gs.size = m by omega]
      exact hst)
  obtain ⟨F3, hG3⟩ := fa_tail hO b5
  obtain ⟨N3, gs3, g3, w3, sl3, t3, q3, c1, c2, c3, c4, _, rfl, hFT, hH⟩ := way_idle (Sh := f.plan.ShP) (B := f.z + 6 + 4 * f.m) (D := D1 f) (NT := fun _ => True) R0.refl R0.trans (fun w d => ⟨d, rfl⟩) (fun _ _ _ h e he => ⟨h e he, fun _ _ => trivial⟩) _ gs2 w2 sl2 t2 q2 hG3 b2 b4 (fun _ _ _ _ => trivial)
  obtain ⟨vs, hc2, hcs⟩ := b6
  have hvs : vs = vals n pl := by
    apply Array.ext_getElem?
    intro o
    rcases Nat.lt_or_ge o n with ho | ho
    · obtain ⟨k, hk, hlo, hhi⟩ : ∃ k, k < m ∧ k * part ≤ o ∧ o < k * part + part := by
        refine ⟨o / part, ?_, Nat.div_mul_le_self _ _, ?_⟩
        · rw [Nat.div_lt_iff_lt_mul (by omega)]; omega
        · have := Nat.div_add_mod o part
          have := Nat.mod_lt o (show 0 < part by omega)
          have hc : part * (o / part) = o / part * part := Nat.mul_comm _ _
          omega
      have h7 := b7 (gs.size + k) (show gs.size ≤ gs.size + k by omega) (show gs.size + k < gs.size + m by omega) o (by show (gs.size + k - gs.size) * part ≤ o; rw [show gs.size + k - gs.size = k by omega]; exact hlo) (by show o < min ((gs.size + k - gs.size) * part + part) n; rw [show gs.size + k - gs.size = k by omega]; omega)
      have hc2' : w2.heap[w.heap.size + 2]? = some (.cells vs 3) := hc2
      have h7' : w2.cell? ⟨w.heap.size + 2, o, none⟩ = some (.int .i64 (pl o)) := h7
      simp only [World.cell?, hc2'] at h7'
      have h8 : vs[o]? = some (.int .i64 (pl o)) := by simpa using h7'
      rw [h8]
      simp [vals, ho]
    · have : vs.size = n := hcs
      rw [Array.getElem?_eq_none (by omega), Array.getElem?_eq_none (by simp [vals]; omega)]
  have hc3 : w3.heap[u.heap.size + 2]? = some (.cells (vals n pl) 3) := by
    rw [hH, hz, ← hvs]; exact hc2
  have hsz3 : w3.heap.size = u.heap.size + (6 + 4 * m) := by rw [hz]; exact hFT.size
  have hold3 : ∀ r, r < u.heap.size → w3.heap[r]? = w.heap[r]? := fun r hr => hFT.old r (show r < w.heap.size by omega)
  have hview : View (kaft κ u.heap.size (6 + 4 * m) (u.heap.size + 2)) (uaft u (6 + 4 * m) (u.heap.size + 2) (.cells (vals n pl) 3)) w3 := by
    refine view_aft hV.self (fun r hr => ?_) (by omega) (by omega) hsz3 (fun r hr hk => (hold3 r hr).trans (hV.same r hr hk)) hc3
    obtain ⟨c', T, fz, e1, e2⟩ := hV.froz r hr
    exact .inr ⟨c', T, fz, e1, (hold3 r (Array.getElem?_eq_some_iff.1 e1).1).trans e2⟩
  have hfin := hK f.plan.ShP (kaft κ u.heap.size (6 + 4 * m) (u.heap.size + 2)) (uaft u (6 + 4 * m) (u.heap.size + 2) (.cells (vals n pl) 3)) (fun l hsl => ?_) hview.self (by rw [uaft_size]; omega) (fun r hr => ⟨uaft_old hr, by unfold kaft; rw [if_pos hr]⟩)
    (by unfold kaft; rw [if_neg (by omega), if_pos rfl]) (by rw [uaft_new (by omega), if_pos rfl]) rfl rfl
  · have hEnd := hfin gs3 w3 sl3 t3 q3 (by rw [c3, hz]) (by rw [c2, b3]; show gs.size + m ≤ N + 8; omega) hview (by rw [uaft_size, hsz3]) (by
        have : w3.heap.size = w.heap.size + 6 + 4 * m := by rw [hsz3, hz]; omega
        rw [this]; exact c4)
      (by
        refine ⟨hFT.tape.trans hl.tape, hFT.os.trans hl.os, hFT.output.trans hl.output, ?_, fun r hr hk => ?_⟩
        · have := hl.size
          rw [hsz3, hz]; omega
        · have hlt : r < u.heap.size := by have := hl.size; omega
          refine (hold3 r hlt).trans (hl.keep r hr ?_)
          unfold kaft at hk
          rwa [if_pos hlt] at hk)
    exact run_join a1 (run_join b1 (run_join c1 hEnd))
  · rcases hsl with hsl | ⟨a, rfl, ha⟩
    · obtain ⟨a, rfl, hav⟩ := hSh l hsl
      exact ⟨a, rfl, by unfold kaft; rw [if_pos (hkv _ hav).1]; exact hav⟩
    · refine ⟨a, rfl, ?_⟩
      have ha' : a.block = w.heap.size + 4 := ha
      unfold kaft
      rw [if_neg (by omega), if_neg (by omega), if_pos (by omega)]
end
end Go.Proofs.Ytpioacgknamemaa
