/- The steps that make a pool, and those that move one. -/
import Derived.Test.YtinadpanpnenjaaInv
namespace Go.Proofs.Ytinadpanpnenjaa
open Go.RowKit

/-- What holds between two steps, whoever owns what. -/
def St (w0 w : World) (g : Nat) (ps : List Pr) (es : List (Value × Int)) : Prop := ∃ own vl vns vkn, LInv own w0 w g vl vns vkn ps es

theorem St.no {w0 w w' : World} {g : Nat} {ps : List Pr} {es : List (Value × Int)} (h : St w0 w g ps es) (hf : Frm NoB w w') : St w0 w' g ps es := by
  obtain ⟨own, vl, vns, vkn, h⟩ := h
  exact ⟨own, vl, vns, vkn, h.no hf⟩

def BegPost (w0 w' : World) (g : Nat) (ps : List Pr) (es : List (Value × Int)) (J : Nat) (a : Int) : Prop :=
  ∃ ps', St w0 w' g ps' es ∧ ps'.length = ps.length + (if sizeB a then 1 else 0) ∧ ∀ p ∈ ps', p.jl.length ≤ J

set_option maxHeartbeats 1000000 in
theorem begins_new (w0 w : World) (g : Nat) (ps : List Pr) (es : List (Value × Int)) (h : St w0 w g ps es) (J : Nat) (h6 : 6 ≤ J) (hJ : ∀ p ∈ ps, p.jl.length ≤ J) (hb : (ps.length + 1) * 16 ≤ 140737488355328)
    (a : Int) (vE vB vK vL vS vJ : Value) :
    Calls Try.prog 7 #[.pointer (some ⟨g, 0, none⟩), .agg #[.int .i64 2, vE, .int .i64 a, vB, vK, vL, vS, vJ]] w fun r w' => r = .returned (.bool true) ∧ BegPost w0 w' g ps es J a := by
  obtain ⟨own, vl, vns, vkn, h⟩ := h
  have ca : (w.alloc (.cells #[.int .i64 2, vE, .int .i64 a, vB, vK, vL, vS, vJ] 39)).cell? ⟨w.heap.size, 2, none⟩ = some (.int .i64 a) := by simp
  have ha : w.heap.size < (w.alloc (.cells #[.int .i64 2, vE, .int .i64 a, vB, vK, vL, vS, vJ] 39)).heap.size := by simp
  go_enter Try.func7, Try.ntmps7
  go_wp2_with fail
  refine (newP_any _ a).mono ?_
  rintro r w1 ⟨v1, rfl, f1, hx⟩
  have ca1 : w1.cell? ⟨w.heap.size, 2, none⟩ = some (.int .i64 a) := (World.cell?_of_block (f1.block w.heap.size ha (fun s => s))).trans ca
  clear ca ha
  go_wp2_with fail
  refine (refNew_any _ a).mono ?_
  rintro r w2 ⟨v2, rfl, f2, hy⟩
  clear ca1
  have f01 : Frm NoB w w1 := ((Frm.refl _ w).alloc _).then f1
  have f02 : Frm NoB w w2 := f01.then f2
  cases hs : sizeB a with
  | false =>
    have hx' : v1 = .pointer none := by simpa [NewX, hs] using hx
    have hy' : v2 = .pointer none := by simpa [NewY, hs] using hy
    subst hx' hy'
    clear hx hy
    have hfin : BegPost w0 w2 g ps es J a := ⟨ps, ⟨own, vl, vns, vkn, h.no f02⟩, by simp [hs], hJ⟩
    go_wp2_with fail
    refine (joined_none _ g _).mono ?_
    rintro r w3 ⟨rfl, rfl⟩
    go_wp2
    go_ret
    exact ⟨rfl, hfin⟩
  | true =>
    simp only [NewX, hs, if_true] at hx
    simp only [NewY, hs, if_true] at hy
    obtain ⟨gx, rfl, hgx, hX⟩ := hx
    obtain ⟨gy, vt, vj, rfl, hgy, hY, ht, hj⟩ := hy
    have hok : Ok a [] := by
      have := of_decide_eq_true hs
      exact Ok.new this.1 this.2
    have s1 := f01.size
    have hA := h.tag f02 (fun k => if k < w.heap.size then own k else 6 + ps.length) (fun k hk => if_pos hk)
    have hp : PairOk w2 ⟨gx, .slice none 0 0, gy, vt, vj, a, [], recF 0 80 a, lastF 0 80 a⟩ := ⟨hX.frm f2 (fun s => s) (fun _ _ s => s), hY, hok, fun k hk => by simp [Value.ownBlock] at hk⟩
    have hge : ∀ k, Pr.mine ⟨gx, .slice none 0 0, gy, vt, vj, a, [], recF 0 80 a, lastF 0 80 a⟩ k → w.heap.size ≤ k := by
      intro k hk
      have s0 : w.heap.size + 1 ≤ w1.heap.size := by have := f1.size; simpa using this
      rcases hk with (hk | hk) | (hk | hk | hk)
      · simp at hk hgx; omega
      · simp [Value.ownBlock] at hk
      · simp at hk; omega
      · have := ht k hk; omega
      · have := hj k hk; omega
    have hjoin := fun w' hJP => hA.join (w' := w') ⟨gx, .slice none 0 0, gy, vt, vj, a, [], recF 0 80 a, lastF 0 80 a⟩ hp (fun k hk => if_neg (by have := hge k hk; omega)) hJP
    have HJ : Hid (∀ w', JoinPost w2 w' g vl vns vkn ps.length (ps.flatMap Pr.val) (.pointer (some ⟨gx, 0, none⟩)) (.pointer (some ⟨gy, 0, none⟩)) → BegPost w0 w' g ps es J a) := by
      intro w' hJP
      obtain ⟨own', vl', hI⟩ := hjoin w' hJP
      refine ⟨ps ++ [_], ⟨own', vl', vns, vkn, hI⟩, by simp [hs], fun p hp => ?_⟩
      rcases List.mem_append.1 hp with hp | hp
      · exact hJ p hp
      · simp at hp; subst hp; exact h6
    have hblk := hA.wb.blk
    have hL := hA.ownL
    have HB := show Hid _ from hblk
    clear hjoin hA hp hge hblk hX hY ht hj
    go_wp2_with fail
    refine (joined_some w2 g gx gy _ vl vns vkn ps.length _ HB.out hL hb).mono ?_
    rintro r w3 ⟨rfl, hJP⟩
    go_wp2
    go_ret
    exact ⟨rfl, HJ.out _ hJP⟩
end Go.Proofs.Ytinadpanpnenjaa
