/- A pool without memory: its rows, what Take and Give make of them, where keys go then. -/
import Derived.Test.YtpioacgknamemaaPlace
set_option linter.unusedSectionVars false
namespace Go.Proofs.Ytpioacgknamemaa
open Go Go.RowKit

theorem idx_neg (p : Int) : ∀ (tk : List Int) (k : Nat), idx p tk k < 0 ↔ p ∉ tk := by
  intro tk
  induction tk with
  | nil => intro k; simp [idx]
  | cons x xs ih =>
    intro k
    by_cases h : x = p
    · subst h; rw [idx_hit]; simp
    · rw [idx_miss p x xs k h, ih]; simp [Ne.symm h]
theorem idx_app {p : Int} : ∀ (tk l : List Int) (k : Nat), p ∈ tk → idx p (tk ++ l) k = idx p tk k := by
  intro tk
  induction tk with
  | nil => intro l k h; simp at h
  | cons x xs ih =>
    intro l k h
    by_cases hx : x = p
    · subst hx; rw [List.cons_append, idx_hit, idx_hit]
    · rw [List.cons_append, idx_miss p x _ k hx, idx_miss p x _ k hx]
      exact ih l (k + 1) (by simpa [Ne.symm hx] using h)
theorem idx_app' {p : Int} : ∀ (tk l : List Int) (k : Nat), p ∉ tk → idx p (tk ++ p :: l) k = (k : Int) + tk.length := by
  intro tk
  induction tk with
  | nil => intro l k _; rw [List.nil_append, idx_hit]; simp
  | cons x xs ih =>
    intro l k h
    have hx : x ≠ p := fun e => h (by simp [e])
    rw [List.cons_append, idx_miss p x _ k hx, ih l (k + 1) (fun q => h (by simp [q]))]
    simp; omega

/-- A row without a place of it. -/
def wo (row : List Int) (p : Int) : List Int := (row.set (idx p row 0).toNat (row.getLastD 0)).take (row.length - 1)
theorem split_at {p : Int} {row : List Int} (h : p ∈ row) : ∃ pre post, row = pre ++ p :: post ∧ p ∉ pre ∧ idx p row 0 = pre.length := by
  induction row with
  | nil => simp at h
  | cons x xs ih =>
    by_cases hx : x = p
    · subst hx; exact ⟨[], xs, rfl, by simp, by rw [idx_hit]; simp⟩
    · obtain ⟨pre, post, e, hn, _⟩ := ih (by simpa [Ne.symm hx] using h)
      refine ⟨x :: pre, post, by rw [e]; rfl, by simp [Ne.symm hx, hn], ?_⟩
      rw [e, ← List.cons_append, idx_app' _ _ _ (by simp [Ne.symm hx, hn])]
      simp
theorem wo_perm {p : Int} {row : List Int} (h : p ∈ row) : (p :: wo row p).Perm row := by
  obtain ⟨pre, post, e, hn, hi⟩ := split_at h
  unfold wo
  rw [hi, Int.toNat_natCast]
  subst e
  rcases List.eq_nil_or_concat post with rfl | ⟨mid, z, rfl⟩
  · have : ((pre ++ [p]).set pre.length ((pre ++ [p]).getLastD 0)).take ((pre ++ [p]).length - 1) = pre := by simp
    rw [this]
    exact List.perm_append_comm (l₁ := [p])
  · have e2 : (pre ++ p :: (mid.concat z)).getLastD 0 = z := by
      have : pre ++ p :: (mid.concat z) = (pre ++ p :: mid) ++ [z] := by simp
      rw [this, List.getLastD_eq_getLast?, List.getLast?_concat]; rfl
    have : ((pre ++ p :: (mid.concat z)).set pre.length ((pre ++ p :: (mid.concat z)).getLastD 0)).take ((pre ++ p :: (mid.concat z)).length - 1) = pre ++ z :: mid := by
      rw [e2]
      have e3 : (pre ++ p :: (mid.concat z)).set pre.length z = (pre ++ z :: mid) ++ [z] := by simp
      rw [e3]
      have e4 : (pre ++ p :: (mid.concat z)).length - 1 = (pre ++ z :: mid).length := by simp
      rw [e4, List.take_left']
      rfl
    rw [this]
    have e5 : pre ++ p :: (mid.concat z) = (pre ++ p :: mid) ++ [z] := by simp
    rw [e5]
    have h1 : (p :: (pre ++ z :: mid)).Perm (p :: z :: (pre ++ mid)) := (List.perm_middle).cons p
    have h2 : ((pre ++ p :: mid) ++ [z]).Perm (z :: (pre ++ p :: mid)) := List.perm_append_comm (l₂ := [z])
    have h3 : (z :: (pre ++ p :: mid)).Perm (z :: p :: (pre ++ mid)) := (List.perm_middle).cons z
    exact h1.trans ((List.Perm.swap z p _).trans ((h2.trans h3).symm))
theorem wo_len {p : Int} {row : List Int} (h : p ∈ row) : (wo row p).length + 1 = row.length := by
  have := (wo_perm h).length_eq
  simpa using this
theorem wo_nodup {p : Int} {row : List Int} (h : p ∈ row) (hn : row.Nodup) : (wo row p).Nodup ∧ p ∉ wo row p := by
  have := (wo_perm h).nodup_iff.2 hn
  rw [List.nodup_cons] at this
  exact ⟨this.2, this.1⟩
theorem wo_mem {p x : Int} {row : List Int} (h : p ∈ row) (hn : row.Nodup) : x ∈ wo row p ↔ x ∈ row ∧ x ≠ p := by
  have h1 := (wo_perm h).mem_iff (a := x)
  have h2 := (wo_nodup h hn).2
  rw [List.mem_cons] at h1
  constructor
  · intro hx
    exact ⟨h1.1 (.inr hx), fun e => h2 (e ▸ hx)⟩
  · rintro ⟨hx, hne⟩
    exact (h1.2 hx).resolve_left hne

/-- Pools as they can be. -/
inductive St : List Int → List (List Int) → Prop
  | base (n : Nat) (h1 : 1 ≤ n) (h64 : n ≤ 64) : St [] [upto n]
  | push {tk : List Int} {rows : List (List Int)} {row : List Int} {p : Int} (h : St tk (rows ++ [row])) (hp : p ∈ row) (hl : 2 ≤ row.length) : St (tk ++ [p]) (rows ++ [row] ++ [wo row p])

structure SOk (tk : List Int) (rows : List (List Int)) (row : List Int) : Prop where
  len : rows.length = tk.length
  nodup : row.Nodup
  rng : ∀ p ∈ row, 0 ≤ p ∧ p < 64 ∧ p ∉ tk
  pos : 1 ≤ row.length
  sum : tk.length + row.length ≤ 64
  head : ∃ n, 1 ≤ n ∧ n ≤ 64 ∧ (rows ++ [row]).headD [] = upto n
  rok : ∀ (i : Nat) (r : List Int), i < tk.length → (rows ++ [row])[i + 1]? = some r → 1 ≤ r.length ∧ r.length ≤ 64 ∧ ∀ p ∈ r, 0 ≤ p ∧ p < 64 ∧ (idx p tk 0 < 0 ∨ (i : Int) < idx p tk 0)
  whr : ∀ key, whr tk (rows ++ [row]) key ∈ row

theorem SOk.good {tk : List Int} {rows : List (List Int)} {row : List Int} (h : SOk tk rows row) : GoodRows tk (rows ++ [row]) := by
  obtain ⟨n, h1, h2, e⟩ := h.head
  refine ⟨⟨by simp [h.len], by have := h.sum; have := h.pos; omega, h.rok⟩, by rw [e, upto_length]; exact ⟨h1, h2⟩⟩

theorem nxt_mem (key p : Int) (tk : List Int) (rows : List (List Int)) (r : List Int) (h : rowOf tk rows p = r) (h1 : 1 ≤ r.length) : nxt key tk rows p ∈ r := by
  unfold nxt spotOf
  rw [h]
  have hl := Int.emod_lt_of_pos (mixF (bits .xor .u64 key (mixF (p + 1)))) (show (0 : Int) < r.length by omega)
  have h0 := Int.emod_nonneg (mixF (bits .xor .u64 key (mixF (p + 1)))) (show (r.length : Int) ≠ 0 by omega)
  rw [List.getD_eq_getElem?_getD, List.getElem?_eq_getElem (by omega)]
  exact List.getElem_mem _

section
variable {tk : List Int} {rows : List (List Int)} {row : List Int} {p : Int}

theorem fnd_push (hlen : rows.length = tk.length) (hpt : p ∉ tk) {r : List Int} (hr1 : 1 ≤ r.length) (hrt : ∀ x ∈ r, x ∉ tk ++ [p]) (key : Int) : ∀ (m : Nat) (s : Int), fnd key tk (rows ++ [row]) m s ∉ tk →
    fnd key (tk ++ [p]) (rows ++ [row] ++ [r]) (m + 1) s = if fnd key tk (rows ++ [row]) m s = p then nxt key (tk ++ [p]) (rows ++ [row] ++ [r]) p else fnd key tk (rows ++ [row]) m s := by
  have hrow : rowOf (tk ++ [p]) (rows ++ [row] ++ [r]) p = r := by
    unfold rowOf
    rw [idx_app' tk [] 0 hpt, List.getD_eq_getElem?_getD]
    simp [hlen]
  have hN : nxt key (tk ++ [p]) (rows ++ [row] ++ [r]) p ∈ r := nxt_mem _ _ _ _ r hrow hr1
  have stop : ∀ m s, s ∉ tk ++ [p] → fnd key (tk ++ [p]) (rows ++ [row] ++ [r]) m s = s := fun m s hs => by
    cases m with
    | zero => rfl
    | succ m => unfold fnd; rw [if_pos ((idx_neg _ _ _).2 hs)]
  intro m
  induction m with
  | zero =>
    intro s hs
    have hs' : s ∉ tk := hs
    show (if idx s (tk ++ [p]) 0 < 0 then s else _) = if s = p then _ else s
    by_cases e : s = p
    · subst e
      rw [if_pos rfl, if_neg (by rw [idx_neg]; simp)]
      rfl
    · rw [if_neg e, if_pos ((idx_neg _ _ _).2 (by simp [hs', e]))]
  | succ m ih =>
    intro s hs
    by_cases hst : s ∈ tk
    · have e0 : ¬ idx s tk 0 < 0 := by rw [idx_neg]; simpa using hst
      have e1 : fnd key tk (rows ++ [row]) (m + 1) s = fnd key tk (rows ++ [row]) m (nxt key tk (rows ++ [row]) s) := by
        show (if idx s tk 0 < 0 then s else _) = _
        rw [if_neg e0]
      have e2 : nxt key (tk ++ [p]) (rows ++ [row] ++ [r]) s = nxt key tk (rows ++ [row]) s := by
        have : rowOf (tk ++ [p]) (rows ++ [row] ++ [r]) s = rowOf tk (rows ++ [row]) s := by
          have hl := idx_lt s tk 0
          unfold rowOf
          rw [idx_app tk [p] 0 hst, List.getD_eq_getElem?_getD, List.getD_eq_getElem?_getD, List.getElem?_append_left]
          simp [hlen]; omega
        unfold nxt
        rw [this]
      rw [e1] at hs
      rw [e1, ← ih _ hs]
      show (if idx s (tk ++ [p]) 0 < 0 then s else fnd key (tk ++ [p]) (rows ++ [row] ++ [r]) (m + 1) (nxt key (tk ++ [p]) (rows ++ [row] ++ [r]) s)) = _
      rw [idx_app tk [p] 0 hst, if_neg e0, e2]
    · have e1 : fnd key tk (rows ++ [row]) (m + 1) s = s := by
        show (if idx s tk 0 < 0 then s else _) = _
        rw [if_pos ((idx_neg _ _ _).2 hst)]
      rw [e1]
      by_cases e : s = p
      · subst e
        rw [if_pos rfl]
        show (if idx s (tk ++ [s]) 0 < 0 then s else fnd key (tk ++ [s]) (rows ++ [row] ++ [r]) (m + 1) (nxt key (tk ++ [s]) (rows ++ [row] ++ [r]) s)) = _
        rw [if_neg (by rw [idx_neg]; simp)]
        exact stop _ _ (hrt _ hN)
      · rw [if_neg e]
        exact stop _ _ (by simp [hst, e])

/-- A place is taken: only keys that went there move. -/
theorem whr_push (h : SOk tk rows row) (hp : p ∈ row) (hl : 2 ≤ row.length) (key : Nat) :
    whr (tk ++ [p]) (rows ++ [row] ++ [wo row p]) key ∈ wo row p ∧ (whr tk (rows ++ [row]) key ≠ p → whr (tk ++ [p]) (rows ++ [row] ++ [wo row p]) key = whr tk (rows ++ [row]) key) := by
  have hw := h.whr key
  have hpt := (h.rng p hp).2.2
  have hr1 : 1 ≤ (wo row p).length := by have := wo_len hp; omega
  have hm : ∀ x, x ∈ wo row p ↔ x ∈ row ∧ x ≠ p := fun x => wo_mem hp h.nodup
  have hrt : ∀ x ∈ wo row p, x ∉ tk ++ [p] := fun x hx => by
    obtain ⟨h1, h2⟩ := (hm x).1 hx
    simp [(h.rng x h1).2.2, h2]
  have hd : (rows ++ [row] ++ [wo row p]).headD [] = (rows ++ [row]).headD [] := by
    cases rows <;> rfl
  have key1 := fnd_push (row := row) h.len hpt hr1 hrt key tk.length (jmp key ((rows ++ [row]).headD []).length 0 0 : Nat) (h.rng _ hw).2.2
  have e : whr (tk ++ [p]) (rows ++ [row] ++ [wo row p]) key = if whr tk (rows ++ [row]) key = p then nxt key (tk ++ [p]) (rows ++ [row] ++ [wo row p]) p else whr tk (rows ++ [row]) key := by
    unfold whr
    rw [hd, List.length_append]
    exact key1
  rw [e]
  constructor
  · split
    · refine nxt_mem _ _ _ _ _ ?_ hr1
      unfold rowOf
      rw [idx_app' tk [] 0 hpt, List.getD_eq_getElem?_getD]
      simp [h.len]
    · rename_i hne
      exact (hm _).2 ⟨hw, hne⟩
  · intro hne
    rw [if_neg hne]

theorem SOk.push (h : SOk tk rows row) (hp : p ∈ row) (hl : 2 ≤ row.length) : SOk (tk ++ [p]) (rows ++ [row]) (wo row p) := by
  have hm : ∀ x, x ∈ wo row p ↔ x ∈ row ∧ x ≠ p := fun x => wo_mem hp h.nodup
  have hwl := wo_len hp
  have hpt := (h.rng p hp).2.2
  have hsum := h.sum
  have hd : (rows ++ [row] ++ [wo row p]).headD [] = (rows ++ [row]).headD [] := by
    cases rows <;> rfl
  refine ⟨by simp [h.len], (wo_nodup hp h.nodup).1, fun x hx => ?_, by omega, by simp; omega, by rw [hd]; exact h.head, fun i r hi hr => ?_, fun key => (whr_push h hp hl key).1⟩
  · obtain ⟨h1, h2⟩ := (hm x).1 hx
    obtain ⟨a, b, c⟩ := h.rng x h1
    exact ⟨a, b, by simp [c, h2]⟩
  · by_cases hit : i < tk.length
    · rw [List.getElem?_append_left (by simp [h.len]; omega)] at hr
      obtain ⟨a, b, c⟩ := h.rok i r hit hr
      refine ⟨a, b, fun q hq => ?_⟩
      obtain ⟨c1, c2, c3⟩ := c q hq
      refine ⟨c1, c2, ?_⟩
      by_cases hqt : q ∈ tk
      · rw [idx_app tk [p] 0 hqt]; exact c3
      · by_cases e : q = p
        · subst e
          right
          rw [idx_app' tk [] 0 hqt]; omega
        · left
          rw [idx_neg]; simp [hqt, e]
    · have hie : i = tk.length := by simp at hi; omega
      subst hie
      have : r = wo row p := by
        rw [List.getElem?_append_right (by simp [h.len])] at hr
        simpa [h.len] using hr.symm
      subst this
      refine ⟨by omega, by omega, fun q hq => ?_⟩
      obtain ⟨h1, h2⟩ := (hm q).1 hq
      obtain ⟨a, b, c⟩ := h.rng q h1
      exact ⟨a, b, .inl (by rw [idx_neg]; simp [c, h2])⟩
end

theorem upto_mem {n : Nat} {x : Int} : x ∈ upto n ↔ 0 ≤ x ∧ x < n := by
  unfold upto
  simp only [List.mem_map, List.mem_range]
  constructor
  · rintro ⟨a, ha, rfl⟩; simp; omega
  · rintro ⟨h0, h1⟩
    exact ⟨x.toNat, by omega, by simp; omega⟩
theorem upto_nodup (n : Nat) : (upto n).Nodup := by
  unfold upto
  rw [List.nodup_iff_pairwise_ne, List.pairwise_map]
  exact List.nodup_range.imp fun h e => h (Int.ofNat.inj e)
theorem jmp_next (k n : Nat) : ∀ (b j : Nat), jmp k (n + 1) b j = jmp k n b j ∨ jmp k (n + 1) b j = n := by
  intro b j
  generalize hm : n + 1 - j = m
  induction m using Nat.strongRecOn generalizing k b j with
  | _ m ih =>
    by_cases h1 : j < n
    · rw [jmp_step k n b j h1, jmp_step k (n + 1) b j (by omega)]
      have := nj_gt k j
      exact ih (n + 1 - nj k j) (by omega) (nk k) j (nj k j) rfl
    · by_cases h2 : j = n
      · subst h2
        right
        rw [jmp_step k (j + 1) b j (by omega), jmp_end _ _ _ _ (by have := nj_gt k j; omega)]
      · left
        rw [jmp_end k n b j (by omega), jmp_end k (n + 1) b j (by omega)]
theorem whr_base (n key : Nat) : whr [] [upto n] key = (jmp key n 0 0 : Nat) := by simp [whr, fnd, upto_length]

theorem SOk.base {n : Nat} (h1 : 1 ≤ n) (h64 : n ≤ 64) : SOk [] [] (upto n) := by
  refine ⟨rfl, upto_nodup n, fun p hp => ?_, by rw [upto_length]; exact h1, by rw [upto_length]; simpa using h64, ⟨n, h1, h64, rfl⟩, fun i r hi => by simp at hi, fun key => ?_⟩
  · have := upto_mem.1 hp
    exact ⟨by omega, by omega, by simp⟩
  · show Ytpioacgknamemaa.whr [] [upto n] key ∈ upto n
    rw [whr_base, upto_mem]
    have := jmp_lt key n 0 0 (by omega)
    omega

theorem St.ok {tk : List Int} {rows : List (List Int)} (h : St tk rows) : ∃ front row, rows = front ++ [row] ∧ SOk tk front row := by
  induction h with
  | base n h1 h64 => exact ⟨[], upto n, rfl, SOk.base h1 h64⟩
  | @push tk rows row p h hp hl ih =>
    obtain ⟨f, r, e, ho⟩ := ih
    obtain ⟨rfl, e2⟩ := List.append_inj' e rfl
    simp only [List.cons.injEq, and_true] at e2
    subst e2
    exact ⟨_, _, rfl, ho.push hp hl⟩
theorem St.sok {tk : List Int} {rows : List (List Int)} {row : List Int} (h : St tk (rows ++ [row])) : SOk tk rows row := by
  obtain ⟨f, r, e, ho⟩ := h.ok
  obtain ⟨rfl, e2⟩ := List.append_inj' e rfl
  simp only [List.cons.injEq, and_true] at e2
  subst e2
  exact ho
/-- What was taken last, given back. -/
theorem St.pop {tk : List Int} {rows : List (List Int)} {row : List Int} {p : Int} (h : St (tk ++ [p]) (rows ++ [row])) : St tk rows ∧ ∃ f r, rows = f ++ [r] ∧ p ∈ r ∧ row = wo r p ∧ 2 ≤ r.length := by
  generalize ht : tk ++ [p] = t at h
  generalize hr : rows ++ [row] = rs at h
  cases h with
  | base n h1 h64 => simp at ht
  | @push tk' rows' row' p' h hp hl =>
    obtain ⟨rfl, e1⟩ := List.append_inj' ht rfl
    obtain ⟨rfl, e2⟩ := List.append_inj' hr rfl
    simp only [List.cons.injEq, and_true] at e1 e2
    subst e1 e2
    exact ⟨h, _, _, rfl, hp, rfl, hl⟩
theorem St.none {rows : List (List Int)} (h : St [] rows) : ∃ n, 1 ≤ n ∧ n ≤ 64 ∧ rows = [upto n] := by
  generalize ht : ([] : List Int) = t at h
  cases h with
  | base n h1 h64 => exact ⟨n, h1, h64, rfl⟩
  | push h hp hl => simp at ht
end Go.Proofs.Ytpioacgknamemaa
