/- Pools and their moves: what Take and Give make of a pool; where keys go then. -/
import Derived.Test.YtpioacgknamemaaGiveP
namespace Go.Proofs.Ytpioacgknamemaa
open Go Go.RowKit

/-- A place is taken. -/
inductive Tak : List Int → List (List Int) → Int → List Int → List (List Int) → Prop
  | shrink (n : Nat) (h1 : 1 ≤ n) (h64 : n + 1 ≤ 64) : Tak [] [upto (n + 1)] n [] [upto n]
  | push (tk : List Int) (front : List (List Int)) (row : List Int) (p : Int) (hp : p ∈ row) (h2 : 2 ≤ row.length) (hn : (decide ((tk.length : Int) = 0) && decide (p = (row.length : Int) - 1)) = false) : Tak tk (front ++ [row]) p (tk ++ [p]) (front ++ [row] ++ [wo row p])
/-- A place is given, or there is none. -/
inductive Giv : List Int → List (List Int) → Int → Int → List Int → List (List Int) → Prop
  | pop (tk : List Int) (front : List (List Int)) (row : List Int) (p : Int) (hs : St (tk ++ [p]) (front ++ [row])) : Giv (tk ++ [p]) (front ++ [row]) p 0 tk front
  | grow (n : Nat) (h1 : 1 ≤ n) (h64 : n < 64) : Giv [] [upto n] n 0 [] [upto (n + 1)]
  | full : Giv [] [upto 64] 0 4 [] [upto 64]

section
variable {tk tk' : List Int} {rows rows' front : List (List Int)} {row : List Int} {p e : Int}

theorem St.split (h : St tk rows) : ∃ front row, rows = front ++ [row] := by
  obtain ⟨f, r, e, _⟩ := h.ok
  exact ⟨f, r, e⟩
theorem last_upto (n : Nat) : ((upto (n + 1)).length : Int) - 1 = n := by rw [upto_length]; omega

theorem Tak.st (h : Tak tk rows p tk' rows') (hs : St tk rows) : St tk' rows' := by
  cases h with
  | shrink n h1 h64 => exact St.base n h1 (by omega)
  | push _ front row _ hp h2 hn => exact hs.push hp h2
theorem Giv.st (h : Giv tk rows p e tk' rows') (hs : St tk rows) : St tk' rows' := by
  cases h with
  | pop t f row _ hs => exact hs.pop.1
  | grow n h1 h64 => exact St.base (n + 1) (by omega) (by omega)
  | full => exact hs
theorem take_ex (hs : St tk (front ++ [row])) (hp : p ∈ row) (h2 : 2 ≤ row.length) : ∃ tk' rows', Tak tk (front ++ [row]) p tk' rows' := by
  by_cases hb : (decide ((tk.length : Int) = 0) && decide (p = (row.length : Int) - 1)) = true
  · simp only [Bool.and_eq_true, decide_eq_true_eq] at hb
    obtain ⟨hb1, hb2⟩ := hb
    have : tk = [] := List.eq_nil_of_length_eq_zero (by omega)
    subst this
    obtain ⟨n, h1, h64, e⟩ := hs.none
    obtain ⟨rfl, e2⟩ := List.append_inj' (s₂ := []) e rfl
    simp only [List.cons.injEq, and_true] at e2
    subst e2
    rw [upto_length] at hb2 h2
    obtain ⟨m, rfl⟩ : ∃ m, n = m + 1 := ⟨n - 1, by omega⟩
    have : p = (m : Int) := by omega
    subst this
    exact ⟨_, _, Tak.shrink m (by omega) h64⟩
  · exact ⟨_, _, Tak.push tk front row p hp h2 (by simpa using hb)⟩
theorem give_ex (hs : St tk rows) : ∃ p e tk' rows', Giv tk rows p e tk' rows' ∧ (e = 0 ∨ e = 4) := by
  rcases List.eq_nil_or_concat tk with rfl | ⟨t, q, rfl⟩
  · obtain ⟨n, h1, h64, rfl⟩ := hs.none
    by_cases hn : n = 64
    · subst hn; exact ⟨_, _, _, _, .full, .inr rfl⟩
    · exact ⟨_, _, _, _, .grow n h1 (by omega), .inl rfl⟩
  · rw [List.concat_eq_append] at hs ⊢
    obtain ⟨f, r, rfl⟩ := hs.split
    exact ⟨_, _, _, _, .pop t f r q hs, .inl rfl⟩
/-- What was taken is given back. -/
theorem Tak.back (h : Tak tk rows p tk' rows') (hs : St tk rows) : Giv tk' rows' p 0 tk rows := by
  cases h with
  | shrink n h1 h64 => exact .grow n h1 (by omega)
  | push _ front row _ hp h2 hn => exact .pop tk _ _ p (hs.push hp h2)

theorem whr_mem (hs : St tk (front ++ [row])) (key : Nat) : whr tk (front ++ [row]) key ∈ row := hs.sok.whr key

/-- Only keys move that went there. -/
theorem Tak.few (h : Tak tk rows p tk' rows') (hs : St tk rows) (key : Nat) : whr tk' rows' key ≠ p ∧ (whr tk rows key ≠ p → whr tk' rows' key = whr tk rows key) := by
  cases h with
  | shrink n h1 h64 =>
    rw [whr_base, whr_base]
    have h3 := jmp_lt key n 0 0 (by omega)
    have h4 := jmp_next key n 0 0
    constructor
    · omega
    · intro h5
      rcases h4 with h4 | h4
      · rw [h4]
      · rw [h4] at h5; exact absurd rfl h5
  | push _ front row _ hp h2 hn =>
    have h3 := whr_push hs.sok hp h2 key
    exact ⟨fun e => (wo_nodup hp hs.sok.nodup).2 (by have := h3.1; rw [e] at this; exact this), h3.2⟩
theorem Giv.more (h : Giv tk rows p e tk' rows') (key : Nat) : whr tk' rows' key ≠ whr tk rows key → e = 0 ∧ whr tk' rows' key = p := by
  cases h with
  | pop t f0 row _ hs =>
    obtain ⟨h1, f, r, rfl, hp, rfl, h2⟩ := hs.pop
    intro hne
    have h3 := whr_push h1.sok hp h2 key
    refine ⟨rfl, ?_⟩
    by_cases hq : whr tk' (f ++ [r]) key = p
    · exact hq
    · exact absurd (h3.2 hq).symm hne
  | grow n h1 h64 =>
    intro hne
    rw [whr_base, whr_base] at hne
    rw [whr_base]
    rcases jmp_next key n 0 0 with h4 | h4
    · rw [h4] at hne; exact absurd rfl hne
    · rw [h4]; exact ⟨rfl, rfl⟩
  | full => intro hne; exact absurd rfl hne
end

/-- A pool in memory, whichever way it lies there. -/
def PoolS (w : World) (g : Nat) (O : Nat → Prop) (tk : List Int) (rows : List (List Int)) (m : Int) : Prop :=
  ∃ tkv rwv rs, rs.map (·.2) = rows ∧ PoolX w g tkv rwv tk rs m ∧ Own O g tkv rwv rs

section
variable {O O' : Nat → Prop} {w w' : World} {g : Nat} {m : Int} {tk tk' : List Int} {rows rows' front : List (List Int)} {row : List Int} {p e : Int}

theorem map_snoc {rs : List (Value × List Int)} (h : rs.map (·.2) = front ++ [row]) : ∃ rs0 v, rs = rs0 ++ [(v, row)] ∧ rs0.map (·.2) = front := by
  rcases List.eq_nil_or_concat rs with rfl | ⟨a, ⟨v, r⟩, rfl⟩
  · simp at h
  · rw [List.concat_eq_append, List.map_append] at h
    obtain ⟨h1, h2⟩ := List.append_inj' h rfl
    simp at h2
    subst h2
    exact ⟨a, v, List.concat_eq_append, h1⟩
theorem map_one {rs : List (Value × List Int)} (h : rs.map (·.2) = [row]) : ∃ v, rs = [(v, row)] := by
  obtain ⟨rs0, v, rfl, h0⟩ := map_snoc (front := []) h
  rw [List.map_eq_nil_iff] at h0
  subst h0
  exact ⟨v, rfl⟩

theorem St.lens (hs : St tk (front ++ [row])) : front.length = tk.length ∧ 1 ≤ row.length ∧ row.length ≤ 64 ∧ tk.length ≤ 63 := by
  have h := hs.sok
  have h1 := h.sum
  have h2 := h.pos
  exact ⟨h.len, h2, by omega, by omega⟩
theorem PoolS.len (hs : St tk (front ++ [row])) {rs0 : List (Value × List Int)} (h0 : rs0.map (·.2) = front) : rs0.length = tk.length := by
  have := hs.lens.1
  rw [← h0, List.length_map] at this
  exact this

theorem Took.poolS (h : Took O w w' g tk rows m) : PoolS w' g (Ext O w) tk rows m := h.ex

set_option maxHeartbeats 400000 in
theorem take_any (h : PoolS w g O tk rows m) (hs : St tk rows) (hT : Tak tk rows p tk' rows') :
    Calls Try.prog 13 #[.pointer (some ⟨g, 0, none⟩), .int .i64 p] w fun r w' => r = .returned (.int .i64 0) ∧ Frm O w w' ∧ PoolS w' g (Ext O w) tk' rows' m := by
  obtain ⟨tkv, rwv, rs, hr, hX, hO⟩ := h
  have key : Calls Try.prog 22 #[.pointer (some ⟨g, 0, none⟩), .int .i64 p] w fun r w' => r = .returned (.int .i64 0) ∧ Took O w w' g tk' rows' m := by
    cases hT with
    | shrink n h1 h64 =>
      obtain ⟨v, rfl⟩ := map_one hr
      exact take_shrink O w g tkv rwv v n _ hX hO h1 h64
    | push _ front row _ hp h2 hn =>
      obtain ⟨rs0, v, rfl, h0⟩ := map_snoc hr
      have hl := hs.lens
      have hl0 := PoolS.len hs h0
      have := take_push O w g tkv rwv tk rs0 v row _ hX hO (by omega) (by omega) h2 hl.2.2.1 p hp hn
      rw [hr] at this
      exact this
  go_enter Try.func13, Try.ntmps13
  go_wp2_with (go_at_call 22; refine key.mono ?_; rintro e w' ⟨rfl, hTk⟩)
  go_ret
  exact ⟨rfl, hTk.frm, hTk.poolS⟩

set_option maxHeartbeats 400000 in
theorem give_any (h : PoolS w g O tk rows m) (hG : Giv tk rows p e tk' rows') :
    Calls Try.prog 11 #[.pointer (some ⟨g, 0, none⟩)] w fun r w' => r = .returned (.tuple #[.int .i64 p, .int .i64 e]) ∧ Frm O w w' ∧ PoolS w' g (Ext O w) tk' rows' m := by
  obtain ⟨tkv, rwv, rs, hr, hX, hO⟩ := h
  have key : Calls Try.prog 18 #[.pointer (some ⟨g, 0, none⟩)] w fun r w' => r = .returned (.tuple #[.int .i64 p, .int .i64 e]) ∧ Took O w w' g tk' rows' m := by
    cases hG with
    | pop t f0 row _ hs =>
      obtain ⟨rs0, v, rfl, h0⟩ := map_snoc hr
      have hl := hs.lens
      have hl0 := PoolS.len hs h0
      simp only [List.length_append, List.length_cons, List.length_nil] at hl0 hl
      have := give_pop O w g tkv rwv v _ row p rs0 _ hX hO (by omega) (by omega)
      rw [h0] at this
      exact this
    | grow n h1 h64 =>
      obtain ⟨v, rfl⟩ := map_one hr
      have := give_grow O w g tkv rwv v (upto n) _ hX hO (by rw [upto_length]; exact h1) (by rw [upto_length]; exact h64)
      rw [upto_length] at this
      have e1 : upto n ++ [(n : Int)] = upto (n + 1) := by simp [upto, List.range_succ]
      rw [e1] at this
      exact this
    | full =>
      obtain ⟨v, rfl⟩ := map_one hr
      refine (give_full w g tkv rwv v (upto 64) _ hX (upto_length 64)).mono ?_
      rintro r w' ⟨rfl, rfl⟩
      exact ⟨rfl, ⟨tkv, rwv, _, rfl, hX, ⟨.inl hO.g, fun k hk => .inl (hO.tk k hk), fun k hk => .inl (hO.rw' k hk), fun i v r k hi hk => .inl (hO.rows i v r k hi hk)⟩⟩, Frm.refl _ _⟩
  go_enter Try.func11, Try.ntmps11
  go_wp2_with (go_at_call 18; refine key.mono ?_; rintro e w' ⟨rfl, hTk⟩)
  go_ret2
  exact ⟨rfl, hTk.frm, hTk.poolS⟩

theorem stand_any (h : PoolS w g O tk (front ++ [row]) m) (hs : St tk (front ++ [row])) :
    Calls Try.prog 10 #[.pointer (some ⟨g, 0, none⟩)] w fun e w' => ∃ l, e = .returned l ∧ NewList w w' l (srt row) := by
  obtain ⟨tkv, rwv, rs, hr, hX, hO⟩ := h
  obtain ⟨rs0, v, rfl, h0⟩ := map_snoc hr
  have hl := hs.lens
  have hl0 := PoolS.len hs h0
  exact pool_standing w g tkv rwv tk rs0 v row _ hX (by omega) hl.2.1 (by omega)

theorem PoolS.no (h : PoolS w g O tk rows m) (hF : Frm NoB w w') : PoolS w' g O tk rows m := by
  obtain ⟨tkv, rwv, rs, hr, hX, hO⟩ := h
  exact ⟨tkv, rwv, rs, hr, hX.frm hF (fun s => s) (fun _ _ s => s) (fun _ _ s => s) (fun _ _ _ _ _ _ s => s), hO⟩
theorem PoolS.sub (h : PoolS w g O tk rows m) (hS : ∀ k, O k → O' k) : PoolS w g O' tk rows m := by
  obtain ⟨tkv, rwv, rs, hr, hX, hO⟩ := h
  exact ⟨tkv, rwv, rs, hr, hX, ⟨hS _ hO.g, fun k hk => hS _ (hO.tk k hk), fun k hk => hS _ (hO.rw' k hk), fun i v r k hi hk => hS _ (hO.rows i v r k hi hk)⟩⟩
end
end Go.Proofs.Ytpioacgknamemaa
