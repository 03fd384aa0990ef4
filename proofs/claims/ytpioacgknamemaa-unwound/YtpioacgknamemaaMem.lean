/- Memory: what a call may write (Frm), and what an append leaves (App): plain facts, of no program. -/
import Derived.WalkKit
import Derived.WalkSpells
import Derived.WalkLawsBesides
namespace Go.Proofs.Ytpioacgknamemaa
open Go.RowKit

/-- Of the blocks that were there only those of S may have turned; none has gone. -/
structure Frm (S : Nat → Prop) (w w' : World) : Prop where
  os : w'.os = w.os
  tape : w'.tape = w.tape
  output : w'.output = w.output
  size : w.heap.size ≤ w'.heap.size
  block : ∀ k, k < w.heap.size → ¬ S k → w'.heap[k]? = w.heap[k]?

/-- Nothing may be written. -/
def NoB : Nat → Prop := fun _ => False

theorem Frm.refl (S : Nat → Prop) (w : World) : Frm S w w := ⟨rfl, rfl, rfl, Nat.le_refl _, fun _ _ _ => rfl⟩
theorem Frm.trans {S T U : Nat → Prop} {a b c : World} (h : Frm S a b) (k : Frm T b c) (hS : ∀ i, S i → U i) (hT : ∀ i, i < a.heap.size → T i → U i) : Frm U a c :=
  ⟨k.os.trans h.os, k.tape.trans h.tape, k.output.trans h.output, Nat.le_trans h.size k.size,
   fun i hi hn => (k.block i (Nat.lt_of_lt_of_le hi h.size) (fun t => hn (hT i hi t))).trans (h.block i hi (fun s => hn (hS i s)))⟩
theorem Frm.mono {S T : Nat → Prop} {a b : World} (h : Frm S a b) (hS : ∀ i, i < a.heap.size → S i → T i) : Frm T a b :=
  ⟨h.os, h.tape, h.output, h.size, fun i hi hn => h.block i hi (fun s => hn (hS i hi s))⟩
theorem Frm.then {S : Nat → Prop} {a b c : World} (h : Frm S a b) (k : Frm NoB b c) : Frm S a c := h.trans k (fun _ s => s) (fun _ _ t => t.elim)
theorem Frm.ofNo {S : Nat → Prop} {a b : World} (h : Frm NoB a b) : Frm S a b := h.mono (fun _ _ s => s.elim)
theorem Frm.drew {S : Nat → Prop} {a w : World} (h : Frm S a w) : Frm S a w.drew := ⟨h.os, h.tape, h.output, h.size, h.block⟩
theorem Frm.drewN {S : Nat → Prop} {a w : World} (h : Frm S a w) (n : Nat) : Frm S a (w.drewN n) := ⟨h.os, h.tape, h.output, h.size, h.block⟩
theorem Frm.alloc {S : Nat → Prop} {a w : World} (h : Frm S a w) (o : Obj) : Frm S a (w.alloc o) :=
  h.trans (T := NoB) ⟨rfl, rfl, rfl, by simp, fun k hk _ => Below.heap_alloc _ _ _ hk⟩ (fun _ s => s) (fun _ _ t => t.elim)
theorem Frm.setCell {S : Nat → Prop} {a w : World} (h : Frm S a w) {p : Addr} (hp : S p.block ∨ a.heap.size ≤ p.block) (u : Value) : Frm S a (w.setCell p u) :=
  h.trans (T := fun k => k = p.block) ⟨rfl, rfl, rfl, by simp [World.setCell], fun k _ hk => Below.heap_setCell _ _ _ _ hk⟩ (fun _ s => s)
    (fun i hi e => by rcases hp with hp | hp
                      · rw [e]; exact hp
                      · exact absurd hi (by rw [e]; omega))
theorem Frm.grown {S : Nat → Prop} {a w w' : World} {row : Option Nat} (h : Frm S a w) (hg : w.grownBy w' row) (hr : ∀ k, row = some k → S k ∨ a.heap.size ≤ k) : Frm S a w' :=
  h.trans (T := fun k => some k = row) ⟨hg.os, hg.tape, hg.output, hg.size, fun k hk hn => hg.block k hk hn⟩ (fun _ s => s)
    (fun i hi e => by rcases hr i e.symm with hp | hp
                      · exact hp
                      · omega)
theorem Frm.below {a b : World} (h : Frm NoB a b) : Below a.heap.size a b := ⟨h.os, h.tape, h.output, h.size, fun k hk => h.block k hk (fun s => s)⟩
theorem Frm.keep {S : Nat → Prop} {a b : World} (h : Frm S a b) {k : Nat} {o : Obj} (ho : a.heap[k]? = some o) (hn : ¬ S k) : b.heap[k]? = some o :=
  (h.block k (lt_of_block ho) hn).trans ho

/-- What is owned stays owned while others' blocks turn. -/
theorem Frm.owns {S : Nat → Prop} {w w' : World} (h : Frm S w w') {base : Nat} {e : TypeId} {size : Nat} {v : Value} {n : Nat} {xs : List Value} (ho : w.ownsRow base e size v n xs)
    (hn : ∀ k, v.ownBlock = some k → ¬ S k) : w'.ownsRow base e size v n xs := by
  refine ⟨ho.1, ?_⟩
  rcases ho.2 with hq | ⟨g, cap, cur, rfl, hb, hgg, rest⟩
  · exact .inl hq
  · exact .inr ⟨g, cap, cur, rfl, hb, h.keep hgg (hn g rfl), rest⟩

theorem owns_lt {w : World} {base : Nat} {e : TypeId} {size : Nat} {v : Value} {n : Nat} {xs : List Value} (ho : w.ownsRow base e size v n xs) {k : Nat} (hk : v.ownBlock = some k) : k < w.heap.size := (ho.lt k hk).2

theorem owns_type {w : World} {base : Nat} {e : TypeId} {size : Nat} {v : Value} {n : Nat} {xs : List Value} (ho : w.ownsRow base e size v n xs) {k : Nat} (hk : v.ownBlock = some k) :
    ∃ cur, w.heap[k]? = some (.cells cur e (0, 0)) := by
  rcases ho.2 with ⟨rfl, _⟩ | ⟨g, cap, cur, rfl, hb, hgg, rest⟩
  · simp [Value.ownBlock] at hk
  · simp [Value.ownBlock] at hk
    subst hk
    exact ⟨cur, hgg⟩

theorem owns_shape {w : World} {base : Nat} {e : TypeId} {size : Nat} {v : Value} {n : Nat} {xs : List Value} (ho : w.ownsRow base e size v n xs) : ∃ ao cap, v = .slice ao n cap := by
  rcases ho.2 with ⟨rfl, hn⟩ | ⟨g, cap, cur, rfl, _⟩
  · exact ⟨none, 0, by rw [hn]⟩
  · exact ⟨_, _, rfl⟩

/-- A block of another type is not the one that is owned. -/
theorem owns_ne {w : World} {base : Nat} {e : TypeId} {size : Nat} {v : Value} {n : Nat} {xs : List Value} (ho : w.ownsRow base e size v n xs) {k : Nat} {cs : Array Value} {t : TypeId} {fr : Nat × Nat}
    (hk : w.heap[k]? = some (.cells cs t fr)) (hne : t ≠ e) : v.ownBlock ≠ some k := by
  intro h
  obtain ⟨cur, hc⟩ := owns_type ho h
  rw [hk] at hc
  simp at hc
  exact hne hc.2.1

/-- What an append leaves. -/
structure App (w w' : World) (e : TypeId) (size : Nat) (v v' : Value) (n m : Nat) (xs news : List Value) : Prop where
  own : w'.ownsRow 0 e size v' (n + m) (xs ++ news)
  was : w'.ownsRow 0 e size v n xs
  grown : w.grownBy w' v.ownBlock
  new : ∀ k, v'.ownBlock = some k → v.ownBlock = some k ∨ w.heap.size ≤ k
  row : ∀ k cur, v.ownBlock = some k → w.heap[k]? = some (.cells cur e (0, 0)) →
    w'.heap[k]? = some (.cells cur e (0, 0)) ∨ (n * size + news.length ≤ cur.size ∧ w'.heap[k]? = some (.cells (cur.toList.take (n * size) ++ news ++ cur.toList.drop (n * size + news.length)).toArray e (0, 0)))
  nil : v' = .slice none 0 0 → v = .slice none 0 0 ∧ m = 0

/-- What is appended: m elements at an address, or none. -/
def SrcOk (w : World) (ao : Option Addr) (size m : Nat) (news : List Value) : Prop :=
  news.length = m * size ∧ (ao = none → m = 0) ∧ (∀ a, ao = some a → ∀ j u, news[j]? = some u → w.cell? (a.add j) = some u) ∧ ∀ u ∈ news, u.oneCell' = true

section
variable {P : Program} (w : World)

theorem run_app (t ty e : TypeId) (i : TypeInfo) (z : Value) (size bytes : Nat) (ht : P.underlying t = some (.slice e)) (hi : P.info? e = some i) (hz : i.zero = some z)
    (hsize : i.size = size) (hby : i.bytes = bytes) (hzs : z.cells.size = size) (hsz : 0 < size)
    (v : Value) (n : Nat) (xs : List Value) (hown : w.ownsRow 0 e size v n xs)
    (ao : Option Addr) (m c : Nat) (news : List Value) (hs : SrcOk w ao size m news) (hc : ao = none → c = 0)
    (h63 : n + m ≤ maxLen) (hbytes : (n + m) * bytes ≤ 140737488355328) :
    ∃ v' w', (Builtin.append_ #[t, t] ty #[v, .slice ao m c]).run P w = .ok v' w' ∧ App w w' e size v v' n m xs news := by
  subst hsize
  subst hby
  obtain ⟨hl, hao, hnews, h1⟩ := hs
  have hlen : (xs ++ news).length = (n + m) * i.size := by rw [List.length_append, hown.1, hl, Nat.add_mul]
  cases ao with
  | none =>
    have hm := hao rfl
    have hcc := hc rfl
    subst hm; subst hcc
    have hn : news = [] := List.eq_nil_of_length_eq_zero (by simpa using hl)
    subst hn
    refine ⟨v, w, run_append_owned_none w 0 t ty e i i.size ht hi v n xs hown, ?_⟩
    refine ⟨by simpa using hown, hown, ⟨rfl, rfl, rfl, Nat.le_refl _, fun _ _ _ => rfl⟩, fun k h => .inl h, fun k cur _ h => .inl h, fun h => ⟨h, rfl⟩⟩
  | some a =>
    have hnews := hnews a rfl
    obtain ⟨v', w', hr, ho, hg, hv⟩ := run_append_own (P := P) w 0 t ty e i z i.size i.bytes ht hi hz rfl rfl hzs hsz v n xs hown a m c news hl hnews h1 h63 hbytes (Nat.zero_le _)
    refine ⟨v', w', hr, ?_⟩
    rcases hown.2 with ⟨rfl, rfl⟩ | ⟨g, cap, cur, rfl, hbg, hgg, hnc, hcm, hcs, htake⟩
    · have hx : xs = [] := List.eq_nil_of_length_eq_zero (by simpa using hown.1)
      subst hx
      refine ⟨ho, ⟨by simp, .inl ⟨rfl, rfl⟩⟩, hg, ?_, fun k cur h => by simp [Value.ownBlock] at h, fun h => ⟨rfl, (hv.1 h).2⟩⟩
      by_cases hm : m = 0
      · have := hv.2 ⟨rfl, hm⟩
        subst this
        intro k h; simp [Value.ownBlock] at h
      · have hr' := run_append_nil (P := P) w t ty e i z ht hi hz a m c news hl hnews (by omega) (by simp only [maxLen] at h63; omega) (by have hb := hbytes; simp only [Nat.zero_add] at hb; omega)
        rw [hr] at hr'
        simp only [Result.ok.injEq] at hr'
        obtain ⟨rfl, rfl⟩ := hr'
        intro k h
        simp [Value.ownBlock] at h
        exact .inr (by omega)
    · by_cases hroom : n + m ≤ cap
      · have hfit : n * i.size + news.length ≤ cur.size := by rw [hl, hcs, ← Nat.add_mul]; exact Nat.mul_le_mul_right _ hroom
        have hr' := run_append_room (P := P) w t ty e i ht hi g n cap cur hgg a m c news hl hnews h1 hroom hfit
        rw [hr] at hr'
        simp only [Result.ok.injEq] at hr'
        obtain ⟨rfl, rfl⟩ := hr'
        refine ⟨ho, ?_, hg, fun k h => .inl (by simpa [Value.ownBlock] using h), ?_, fun h => by simp at h⟩
        · refine ⟨hown.1, .inr ⟨g, cap, _, rfl, hbg, setRow_heap w g cur _ e _ hgg, hnc, hcm, ?_, ?_⟩⟩
          · simp only [List.size_toArray, List.length_append, List.length_take, List.length_drop, Array.length_toList]
            omega
          · rw [htake, List.append_assoc, ← hown.1]
            exact List.take_left
        · intro k cur' hk hk'
          simp [Value.ownBlock] at hk
          subst hk
          rw [hgg] at hk'
          simp at hk'
          subst hk'
          exact .inr ⟨hfit, setRow_heap w g cur _ e _ hgg⟩
      · have hr' := run_append_grow (P := P) w t ty e i z ht hi hz ⟨g, 0, none⟩ n cap xs hown.1 (hown.cells (g := g) rfl) a m c news hl hnews (by omega) (by simp only [maxLen] at h63; omega) (growslice_fits (by omega) hbytes)
        rw [hr] at hr'
        simp only [Result.ok.injEq] at hr'
        obtain ⟨rfl, rfl⟩ := hr'
        have hgl : g < w.heap.size := lt_of_block hgg
        have keep : ∀ o, (w.drew.alloc o).heap[g]? = some (.cells cur e (0, 0)) := fun o => (Below.heap_alloc w.drew o g hgl).trans hgg
        refine ⟨ho, ?_, hg, fun k h => .inr ?_, ?_, fun h => by simp at h⟩
        · exact ⟨hown.1, .inr ⟨g, cap, cur, rfl, hbg, keep _, hnc, hcm, hcs, htake⟩⟩
        · simp [Value.ownBlock] at h
          omega
        · intro k cur' hk hk'
          simp [Value.ownBlock] at hk
          subst hk
          rw [hgg] at hk'
          simp at hk'
          subst hk'
          exact .inl (keep _)

theorem wpList_app {ops : Array Oper} {rest : List Oper} {o : Oper} {a : Act} {Q : Exit → Act → World → Prop} (hgd : o.guard = none) (s x : Operand) (t : TypeId)
    (ho : o.op = .call { callee := .builtin .append, args := #[s, x], argTypes := #[t, t] })
    (e : TypeId) (z : Value) (size bytes : Nat) (ht : P.underlying t = some (.slice e)) (hinfo : (P.info? e).map (fun i => (i.zero, i.size, i.bytes)) = some (some z, size, bytes))
    (hzs : z.cells.size = size) (hsz : 0 < size)
    (v : Value) (n : Nat) (xs : List Value) (hs : a.eval s = v) (hown : w.ownsRow 0 e size v n xs)
    (ao : Option Addr) (m c : Nat) (news : List Value) (hx : a.eval x = .slice ao m c) (hsrc : SrcOk w ao size m news) (hc : ao = none → c = 0)
    (h63 : n + m ≤ maxLen) (hbytes : (n + m) * bytes ≤ 140737488355328)
    (h : ∀ v' w', App w w' e size v v' n m xs news → wpList P ops Q rest (a.put o.dst v') w') : wpList P ops Q (o :: rest) a w :=
  wpList_plain hgd fun _ hK => by
    obtain ⟨i, hi, hz, hsize, hby⟩ := info_parts hinfo
    obtain ⟨v', w', hr, hA⟩ := run_app (P := P) w t o.type e i z size bytes ht hi hz hsize hby hzs hsz v n xs hown ao m c news hsrc hc h63 hbytes
    unfold Oper.wp execOp
    simp only [ho, resolve, invoke, builtin, Sem.run_bind, Sem.run_pure, Result.andThen_ok, List.map_toArray, List.map_cons, List.map_nil, hs, hx, hr]
    exact hK _ _ (h v' w' hA)
end

theorem owns_drewN {w : World} {base : Nat} {e : TypeId} {size : Nat} {v : Value} {n : Nat} {xs : List Value} (ho : w.ownsRow base e size v n xs) (k : Nat) : (w.drewN k).ownsRow base e size v n xs := ho
theorem owns_drew {w : World} {base : Nat} {e : TypeId} {size : Nat} {v : Value} {n : Nat} {xs : List Value} (ho : w.ownsRow base e size v n xs) : w.drew.ownsRow base e size v n xs := ho

/-- What an append's operand 'a, b, c' lays in a new block. -/
theorem src_list (w : World) (t : TypeId) (cs : List Value) (h : ∀ u ∈ cs, u.oneCell' = true) : SrcOk (w.alloc (.cells cs.toArray t)) (some ⟨w.heap.size, 0, none⟩) 1 cs.length cs := by
  refine ⟨by simp, fun h => by simp at h, ?_, h⟩
  intro a ha j u hu
  simp at ha
  subst ha
  have hadd : (⟨w.heap.size, 0, none⟩ : Addr).add j = ⟨w.heap.size, j, none⟩ := by unfold Addr.add; split <;> simp_all
  rw [hadd, cell_of_row _ w.heap.size j cs.toArray t (0, 0) (heap_alloc_new w _)]
  simpa using hu

/-- A block that is not the one that was appended to is as it was. -/
theorem App.keep {w w' : World} {e : TypeId} {size : Nat} {v v' : Value} {n m : Nat} {xs news : List Value} (hA : App w w' e size v v' n m xs news) {k : Nat} {o : Obj} (hk : w.heap[k]? = some o)
    (hne : v.ownBlock ≠ some k) : w'.heap[k]? = some o := (hA.grown.block k (lt_of_block hk) (fun h => hne h.symm)).trans hk

/-- The first elements of what is owned. -/
theorem owns_take {w : World} {e : TypeId} {g n cap : Nat} {xs ys : List Value} (ho : w.ownsRow 0 e 1 (.slice (some ⟨g, 0, none⟩) n cap) n (xs ++ ys)) : w.ownsRow 0 e 1 (.slice (some ⟨g, 0, none⟩) xs.length cap) xs.length xs := by
  rcases ho.2 with ⟨h, _⟩ | ⟨g', cap', cur, h, hb, hgg, hnc, hcm, hcs, htake⟩
  · simp at h
  · simp only [Value.slice.injEq, Option.some.injEq, Addr.mk.injEq, and_true, true_and] at h
    obtain ⟨rfl, rfl⟩ := h
    have hl := ho.1
    simp only [List.length_append, Nat.mul_one] at hl
    refine ⟨by simp, .inr ⟨g, cap, cur, rfl, hb, hgg, by omega, hcm, hcs, ?_⟩⟩
    rw [Nat.mul_one]
    rw [Nat.mul_one] at htake
    have : cur.toList.take xs.length = (cur.toList.take n).take xs.length := by rw [List.take_take, Nat.min_eq_left (by omega)]
    rw [this, htake, List.take_left]

/-- The numbers that a slice shows. -/
def Rdd (w : World) (k : IntKind) (ao : Option Addr) (xs : List Int) : Prop :=
  ∀ j x, xs[j]? = some x → ∃ g, ao = some ⟨g, 0, none⟩ ∧ w.cell? ⟨g, j, none⟩ = some (.int k x)

theorem owns_rd {w : World} {k : IntKind} {e : TypeId} {v : Value} {xs : List Int} (ho : w.ownsRow 0 e 1 v xs.length (xs.map (Value.int k))) :
    ∃ ao cap, v = .slice ao xs.length cap ∧ Rdd w k ao xs ∧ (ao = none → cap = 0) ∧ xs.length ≤ cap ∧ cap ≤ maxLen ∧ (ao = none ∨ ∃ g, ao = some ⟨g, 0, none⟩ ∧ v.ownBlock = some g) := by
  rcases ho.2 with ⟨rfl, hn⟩ | ⟨g, cap, cur, rfl, hb, hgg, hnc, hcm, hcs, htake⟩
  · have : xs = [] := List.eq_nil_of_length_eq_zero hn
    subst this
    exact ⟨none, 0, rfl, fun j x h => by simp at h, fun _ => rfl, by simp, by simp, .inl rfl⟩
  · refine ⟨some ⟨g, 0, none⟩, cap, rfl, fun j x h => ⟨g, rfl, ?_⟩, fun h => by simp at h, hnc, hcm, .inr ⟨g, rfl, rfl⟩⟩
    have := ho.cellAt j (by have := (List.getElem?_eq_some_iff.1 h).1; omega)
    rw [this, List.getElem?_map, h]
    rfl

theorem Rdd.frm {S : Nat → Prop} {w w' : World} {k : IntKind} {ao : Option Addr} {xs : List Int} (h : Rdd w k ao xs) (hf : Frm S w w') (hn : ∀ g, ao = some ⟨g, 0, none⟩ → ¬ S g) : Rdd w' k ao xs := by
  intro j x hx
  obtain ⟨g, hg, hc⟩ := h j x hx
  refine ⟨g, hg, ?_⟩
  rw [World.cell?_of_block (w := w) (hf.block g (World.block_lt_of_cell? w _ hc) (hn g hg))]
  exact hc

/-- Where a number stands in a list, from k on; -1: nowhere. -/
def idx (n : Int) : List Int → Nat → Int
  | [], _ => -1
  | x :: xs, k => if x = n then k else idx n xs (k + 1)

theorem idx_nil (n : Int) (k : Nat) : idx n [] k = -1 := rfl
theorem idx_hit (n : Int) (xs : List Int) (k : Nat) : idx n (n :: xs) k = k := by simp [idx]
theorem idx_miss (n x : Int) (xs : List Int) (k : Nat) (h : x ≠ n) : idx n (x :: xs) k = idx n xs (k + 1) := by simp [idx, h]
theorem drop_at (xs : List Int) (k : Nat) (x : Int) (h : xs[k]? = some x) : xs.drop k = x :: xs.drop (k + 1) := by
  obtain ⟨hl, rfl⟩ := List.getElem?_eq_some_iff.1 h
  exact List.drop_eq_getElem_cons hl
theorem idx_range (n : Int) (xs : List Int) (k : Nat) : -1 ≤ idx n xs k ∧ idx n xs k ≤ k + xs.length := by
  induction xs generalizing k with
  | nil => simp [idx]
  | cons x xs ih =>
    by_cases h : x = n
    · subst h; rw [idx_hit]; simp; omega
    · rw [idx_miss n x xs k h]
      have := ih (k + 1)
      simp; omega

end Go.Proofs.Ytpioacgknamemaa
