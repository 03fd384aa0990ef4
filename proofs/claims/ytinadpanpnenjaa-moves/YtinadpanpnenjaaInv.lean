/- What holds between two steps of the script: the pools, the book, who owns which block. -/
import Derived.Test.YtinadpanpnenjaaJoined
namespace Go.Proofs.Ytinadpanpnenjaa
open Go.RowKit

/-- A pool and what it is by the document, as they lie in memory. -/
structure Pr where
  gx : Nat
  vx : Value
  gy : Nat
  vt : Value
  vj : Value
  n : Int
  tk : List Int
  jl : List Int
  last : Int

def Pr.val (p : Pr) : List Value := [.pointer (some ⟨p.gx, 0, none⟩), .pointer (some ⟨p.gy, 0, none⟩)]
def Pr.mine (p : Pr) (k : Nat) : Prop := (k = p.gx ∨ p.vx.ownBlock = some k) ∨ (k = p.gy ∨ p.vt.ownBlock = some k ∨ p.vj.ownBlock = some k)

structure PairOk (w : World) (p : Pr) : Prop where
  x : XP w p.gx p.n p.tk p.vx
  y : YP w p.gy p.n p.tk p.vt mid0 p.jl p.vj p.last
  ok : Ok p.n p.tk
  ap : ∀ k, p.vx.ownBlock = some k → p.vt.ownBlock ≠ some k

theorem PairOk.lt {w : World} {p : Pr} (h : PairOk w p) {k : Nat} (hk : p.mine k) : k < w.heap.size := by
  rcases hk with (hk | hk) | (hk | hk | hk)
  · rw [hk]; exact lt_of_block h.x.blk
  · exact owns_lt h.x.own hk
  · rw [hk]; exact lt_of_block h.y.blk
  · exact owns_lt h.y.ownT hk
  · exact owns_lt h.y.ownJ hk

theorem PairOk.frm {S : Nat → Prop} {w w' : World} {p : Pr} (h : PairOk w p) (hf : Frm S w w') (hn : ∀ k, p.mine k → ¬ S k) : PairOk w' p :=
  ⟨h.x.frm hf (hn _ (.inl (.inl rfl))) (fun k hk => hn k (.inl (.inr hk))), h.y.frm hf (hn _ (.inr (.inl rfl))) (fun k hk => hn k (.inr (.inr (.inl hk)))) (fun k hk => hn k (.inr (.inr (.inr hk)))), h.ok, h.ap⟩

structure LInv (own : Nat → Nat) (w0 w : World) (g : Nat) (vl vns vkn : Value) (ps : List Pr) (es : List (Value × Int)) : Prop where
  wb : WB w g vl vns vkn es
  full : ∀ e ∈ es, Full w e.1 e.2
  ownL : w.ownsRow 0 44 2 vl ps.length (ps.flatMap Pr.val)
  pair : ∀ (i : Nat) (p : Pr), ps[i]? = some p → PairOk w p
  tW : own g = 1
  tL : ∀ k, vl.ownBlock = some k → own k = 2
  tN : ∀ k, vns.ownBlock = some k → own k = 3
  tK : ∀ k, vkn.ownBlock = some k → own k = 4
  tE : ∀ e ∈ es, ∀ k, e.1.ownBlock = some k → own k = 5
  tP : ∀ (i : Nat) (p : Pr), ps[i]? = some p → ∀ k, p.mine k → own k = 6 + i
  t0 : ∀ k, k < w0.heap.size → own k = 0
  old : Below w0.heap.size w0 w

theorem Below.frm {S : Nat → Prop} {w0 w w' : World} (h : Below w0.heap.size w0 w) (hf : Frm S w w') (hn : ∀ k, k < w0.heap.size → ¬ S k) : Below w0.heap.size w0 w' :=
  ⟨hf.os.trans h.os, hf.tape.trans h.tape, hf.output.trans h.output, Nat.le_trans h.size hf.size, fun k hk => (hf.block k (Nat.lt_of_lt_of_le hk h.size) (hn k hk)).trans (h.block k hk)⟩

theorem WB.frm {S : Nat → Prop} {w w' : World} {g : Nat} {vl vns vkn : Value} {es : List (Value × Int)} (h : WB w g vl vns vkn es) (hf : Frm S w w') (h1 : ¬ S g) (h2 : ∀ k, vns.ownBlock = some k → ¬ S k) (h3 : ∀ k, vkn.ownBlock = some k → ¬ S k) : WB w' g vl vns vkn es :=
  ⟨hf.keep h.blk h1, hf.owns h.ownN h2, hf.owns h.ownK h3⟩

section
variable {own : Nat → Nat} {w0 w w' : World} {g : Nat} {vl vns vkn : Value} {ps : List Pr} {es : List (Value × Int)}

theorem LInv.gt (h : LInv own w0 w g vl vns vkn ps es) : g < w.heap.size := lt_of_block h.wb.blk

/-- Nothing that was there turned; new blocks may get other owners. -/
theorem LInv.tag (h : LInv own w0 w g vl vns vkn ps es) (hf : Frm NoB w w') (own' : Nat → Nat) (ht : ∀ k, k < w.heap.size → own' k = own k) : LInv own' w0 w' g vl vns vkn ps es where
  wb := h.wb.frm hf (fun s => s) (fun _ _ s => s) (fun _ _ s => s)
  full := fun e he => (h.full e he).frm hf (fun _ _ s => s)
  ownL := hf.owns h.ownL (fun _ _ s => s)
  pair := fun i p hp => (h.pair i p hp).frm hf (fun _ _ s => s)
  tW := (ht g h.gt).trans h.tW
  tL := fun k hk => (ht k (owns_lt h.ownL hk)).trans (h.tL k hk)
  tN := fun k hk => (ht k (owns_lt h.wb.ownN hk)).trans (h.tN k hk)
  tK := fun k hk => (ht k (owns_lt h.wb.ownK hk)).trans (h.tK k hk)
  tE := fun e he k hk => (ht k ((h.full e he).lt hk)).trans (h.tE e he k hk)
  tP := fun i p hp k hk => (ht k ((h.pair i p hp).lt hk)).trans (h.tP i p hp k hk)
  t0 := fun k hk => (ht k (Nat.lt_of_lt_of_le hk h.old.size)).trans (h.t0 k hk)
  old := Below.frm h.old hf (fun _ _ s => s)

theorem LInv.no (h : LInv own w0 w g vl vns vkn ps es) (hf : Frm NoB w w') : LInv own w0 w' g vl vns vkn ps es := h.tag hf own (fun _ _ => rfl)

/-- A pool has moved. -/
theorem LInv.upd (h : LInv own w0 w g vl vns vkn ps es) {i : Nat} {p p' : Pr} (hi : ps[i]? = some p) (hf : Frm p.mine w w') (hp' : PairOk w' p') (hgx : p'.gx = p.gx) (hgy : p'.gy = p.gy)
    (hm : ∀ k, p'.mine k → p.mine k ∨ w.heap.size ≤ k) : LInv (fun k => if k < w.heap.size then own k else 6 + i) w0 w' g vl vns vkn (ps.set i p') es := by
  have hil : i < ps.length := (List.getElem?_eq_some_iff.1 hi).1
  have tm : ∀ k, p.mine k → own k = 6 + i := fun k hk => h.tP i p hi k hk
  have no : ∀ k t, own k = t → t ≠ 6 + i → ¬ p.mine k := fun k t ht hne hm => hne (ht.symm.trans (tm k hm))
  have ot : ∀ k, k < w.heap.size → (if k < w.heap.size then own k else 6 + i) = own k := fun k hk => if_pos hk
  have hset : ∀ (j : Nat) (q : Pr), (ps.set i p')[j]? = some q → (j = i ∧ q = p') ∨ (j ≠ i ∧ ps[j]? = some q) := by
    intro j q hq
    rw [List.getElem?_set] at hq
    by_cases hj : i = j
    · subst hj
      rw [if_pos rfl, if_pos hil] at hq
      exact .inl ⟨rfl, (Option.some.inj hq).symm⟩
    · rw [if_neg hj] at hq
      exact .inr ⟨fun e => hj e.symm, hq⟩
  refine ⟨h.wb.frm hf (no _ _ h.tW (by omega)) (fun k hk => no _ _ (h.tN k hk) (by omega)) (fun k hk => no _ _ (h.tK k hk) (by omega)), fun e he => (h.full e he).frm hf (fun k hk => no _ _ (h.tE e he k hk) (by omega)), ?_, ?_, ?_, ?_, ?_, ?_, ?_, ?_, ?_, ?_⟩
  · have hv : p'.val = p.val := by simp [Pr.val, hgx, hgy]
    have : (ps.set i p').flatMap Pr.val = ps.flatMap Pr.val := by
      rw [List.flatMap_def, List.flatMap_def, List.map_set, hv]
      congr 1
      apply List.ext_getElem?
      intro j
      rw [List.getElem?_set]
      split
      · next e => subst e; rw [if_pos (by simpa using hil), List.getElem?_map, hi]; rfl
      · rfl
    rw [this, List.length_set]
    exact hf.owns h.ownL (fun k hk => no _ _ (h.tL k hk) (by omega))
  · intro j q hq
    rcases hset j q hq with ⟨rfl, rfl⟩ | ⟨hj, hq⟩
    · exact hp'
    · exact (h.pair j q hq).frm hf (fun k hk => no _ _ (h.tP j q hq k hk) (by omega))
  · exact (ot _ h.gt).trans h.tW
  · exact fun k hk => (ot k (owns_lt h.ownL hk)).trans (h.tL k hk)
  · exact fun k hk => (ot k (owns_lt h.wb.ownN hk)).trans (h.tN k hk)
  · exact fun k hk => (ot k (owns_lt h.wb.ownK hk)).trans (h.tK k hk)
  · exact fun e he k hk => (ot k ((h.full e he).lt hk)).trans (h.tE e he k hk)
  · intro j q hq k hk
    rcases hset j q hq with ⟨rfl, rfl⟩ | ⟨hj, hq⟩
    · rcases hm k hk with z | z
      · exact (ot k ((h.pair j p hi).lt z)).trans (tm k z)
      · exact if_neg (by omega)
    · exact (ot k ((h.pair j q hq).lt hk)).trans (h.tP j q hq k hk)
  · exact fun k hk => (ot k (Nat.lt_of_lt_of_le hk h.old.size)).trans (h.t0 k hk)
  · exact Below.frm h.old hf (fun k hk => no _ _ (h.t0 k hk) (by omega))

/-- A pool has come. -/
theorem LInv.join (h : LInv own w0 w g vl vns vkn ps es) (p : Pr) (hp : PairOk w p) (htp : ∀ k, p.mine k → own k = 6 + ps.length)
    (hJ : JoinPost w w' g vl vns vkn ps.length (ps.flatMap Pr.val) (.pointer (some ⟨p.gx, 0, none⟩)) (.pointer (some ⟨p.gy, 0, none⟩))) :
    ∃ own' vl', LInv own' w0 w' g vl' vns vkn (ps ++ [p]) es := by
  obtain ⟨vl', hb, hL, hf, hnew⟩ := hJ
  have no : ∀ k t, own k = t → t ≠ 1 → t ≠ 2 → ¬ (k = g ∨ vl.ownBlock = some k) := by
    intro k t ht h1 h2 hs
    rcases hs with rfl | hs
    · exact h1 (ht.symm.trans h.tW)
    · exact h2 (ht.symm.trans (h.tL k hs))
  have ot : ∀ k, k < w.heap.size → (if k < w.heap.size then own k else 2) = own k := fun k hk => if_pos hk
  have happ : ∀ (j : Nat) (q : Pr), (ps ++ [p])[j]? = some q → (j = ps.length ∧ q = p) ∨ ps[j]? = some q := by
    intro j q hq
    rw [List.getElem?_append] at hq
    split at hq
    · exact .inr hq
    · next hj =>
      cases hz : j - ps.length with
      | zero => rw [hz] at hq; exact .inl ⟨by omega, by simpa using hq.symm⟩
      | succ z => rw [hz] at hq; simp at hq
  have hall : ∀ (j : Nat) (q : Pr), (ps ++ [p])[j]? = some q → PairOk w q ∧ ∀ k, q.mine k → own k = 6 + j := by
    intro j q hq
    rcases happ j q hq with ⟨rfl, rfl⟩ | hq
    · exact ⟨hp, htp⟩
    · exact ⟨h.pair j q hq, h.tP j q hq⟩
  refine ⟨fun k => if k < w.heap.size then own k else 2, vl', ⟨hb, hf.owns h.wb.ownN (fun k hk => no _ _ (h.tN k hk) (by omega) (by omega)), hf.owns h.wb.ownK (fun k hk => no _ _ (h.tK k hk) (by omega) (by omega))⟩,
    fun e he => (h.full e he).frm hf (fun k hk => no _ _ (h.tE e he k hk) (by omega) (by omega)), ?_, ?_, (ot _ h.gt).trans h.tW, ?_, fun k hk => (ot k (owns_lt h.wb.ownN hk)).trans (h.tN k hk), fun k hk => (ot k (owns_lt h.wb.ownK hk)).trans (h.tK k hk),
    fun e he k hk => (ot k ((h.full e he).lt hk)).trans (h.tE e he k hk), ?_, fun k hk => (ot k (Nat.lt_of_lt_of_le hk h.old.size)).trans (h.t0 k hk), Below.frm h.old hf (fun k hk => no _ _ (h.t0 k hk) (by omega) (by omega))⟩
  · simpa [Pr.val] using hL
  · intro j q hq
    obtain ⟨h1, h2⟩ := hall j q hq
    exact h1.frm hf (fun k hk => no _ _ (h2 k hk) (by omega) (by omega))
  · intro k hk
    rcases hnew k hk with z | z
    · exact (ot k (owns_lt h.ownL z)).trans (h.tL k z)
    · exact if_neg (by omega)
  · intro j q hq k hk
    obtain ⟨h1, h2⟩ := hall j q hq
    exact (ot k (h1.lt hk)).trans (h2 k hk)

/-- A list has come out. -/
theorem LInv.list {w1 : World} (h : LInv own w0 w g vl vns vkn ps es) (hf0 : Frm NoB w w1) {l : Value} (hl : ∀ k, l.ownBlock = some k → w.heap.size ≤ k) (hN : NumPost w1 w' g vl vns vkn es l) :
    ∃ own' vns' vkn' new, LInv own' w0 w' g vl vns' vkn' ps (es ++ new) ∧ new.length = 4 := by
  obtain ⟨vns', vkn', new, hwb, hlen, hnew, hf, hn', hk', hap⟩ := hN
  have s0 := hf0.size
  have h1 := h.no hf0
  have no : ∀ k t, k < w.heap.size → own k = t → t ≠ 1 → t ≠ 3 → t ≠ 4 → ¬ (k = g ∨ l.ownBlock = some k ∨ vns.ownBlock = some k ∨ vkn.ownBlock = some k) := by
    intro k t hk ht a b c hs
    rcases hs with rfl | hs | hs | hs
    · exact a (ht.symm.trans h.tW)
    · have := hl k hs; omega
    · exact b (ht.symm.trans (h.tN k hs))
    · exact c (ht.symm.trans (h.tK k hs))
  have ot : ∀ k, k < w.heap.size → (if k < w.heap.size then own k else if vns'.ownBlock = some k then 3 else if vkn'.ownBlock = some k then 4 else 5) = own k := fun k hk => if_pos hk
  refine ⟨fun k => if k < w.heap.size then own k else if vns'.ownBlock = some k then 3 else if vkn'.ownBlock = some k then 4 else 5, vns', vkn', new, ?_, hlen⟩
  refine ⟨hwb, ?_, hf.owns h1.ownL (fun k hk => no k _ (owns_lt h.ownL hk) (h.tL k hk) (by omega) (by omega) (by omega)), fun i p hp => (h1.pair i p hp).frm hf (fun k hk => no k _ ((h.pair i p hp).lt hk) (h.tP i p hp k hk) (by omega) (by omega) (by omega)),
    (ot _ h.gt).trans h.tW, fun k hk => (ot k (owns_lt h.ownL hk)).trans (h.tL k hk), ?_, ?_, ?_, fun i p hp k hk => (ot k ((h.pair i p hp).lt hk)).trans (h.tP i p hp k hk), fun k hk => (ot k (Nat.lt_of_lt_of_le hk h.old.size)).trans (h.t0 k hk),
    Below.frm h1.old hf (fun k hk => no k _ (Nat.lt_of_lt_of_le hk h.old.size) (h.t0 k hk) (by omega) (by omega) (by omega))⟩
  · intro e he
    rcases List.mem_append.1 he with he | he
    · exact (h1.full e he).frm hf (fun k hk => no k _ ((h.full e he).lt hk) (h.tE e he k hk) (by omega) (by omega) (by omega))
    · exact (hnew e he).1
  · intro k hk
    rcases hn' k hk with z | z
    · exact (ot k (owns_lt h.wb.ownN z)).trans (h.tN k z)
    · show (if _ then _ else _) = _
      rw [if_neg (by omega), if_pos hk]
  · intro k hk
    rcases hk' k hk with z | z
    · exact (ot k (owns_lt h.wb.ownK z)).trans (h.tK k z)
    · have : vns'.ownBlock ≠ some k := by
        obtain ⟨cur, hc⟩ := owns_type hwb.ownK hk
        exact owns_ne hwb.ownN hc (by decide)
      show (if _ then _ else _) = _
      rw [if_neg (by omega), if_neg this, if_pos hk]
  · intro e he k hk
    rcases List.mem_append.1 he with he | he
    · exact (ot k ((h.full e he).lt hk)).trans (h.tE e he k hk)
    · obtain ⟨hfu, hb⟩ := hnew e he
      have hge : w.heap.size ≤ k := by
        rcases hb k hk with z | z
        · exact hl k z
        · omega
      obtain ⟨nu, hfu⟩ := hfu
      have hv : vns'.ownBlock ≠ some k := by
        obtain ⟨cur, hc⟩ := owns_type hfu hk
        exact owns_ne hwb.ownN hc (by decide)
      show (if _ then _ else _) = _
      rw [if_neg (by omega), if_neg hv, if_neg (hap e he k hk)]
end
end Go.Proofs.Ytinadpanpnenjaa
