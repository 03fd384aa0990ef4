/- More: what follows behind the last call of where, alone. -/
import Derived.Test.YtpioacgknamemaaLaw
set_option linter.unusedSectionVars false
namespace Go.Proofs.Ytpioacgknamemaa
open Go Go.RowKit Go.Conc Go.ConcN

noncomputable def body4 : Code := Try.f4.body.getD .skip
noncomputable def K40 : Code := headC (tailC 0 body4)
noncomputable def K41 : Code := headC (tailC 1 body4)
noncomputable def K42 : Code := headC (tailC 2 body4)
noncomputable def K43 : Code := headC (tailC 3 body4)
noncomputable def K44 : Code := headC (tailC 4 body4)
noncomputable def K45 : Code := headC (tailC 5 body4)
noncomputable def K46 : Code := headC (tailC 6 body4)
noncomputable def K47 : Code := headC (tailC 7 body4)
noncomputable def Z4 : Code := tailC 8 body4
theorem cut4 : Try.f4.body = some (.seq K40 (.seq K41 (.seq K42 (.seq K43 (.seq K44 (.seq K45 (.seq K46 (.seq K47 (Z4))))))))) := by kernel_rfl

set_option maxRecDepth 100000 in
set_option maxHeartbeats 1000000 in
theorem more_rest {cd : Code} (hcd : cd = Z4) {Q : Exit → Act → World → Prop} (ws : World) {g ba ca bb cb L : Nat} {O : Nat → Prop} {tk : List Int} {rows : List (List Int)} {A B : Nat → Int} {p e : Int} (hP : PoolS ws g O tk rows (4 * (L : Int))) (hL : L * 8 ≤ 140737488355328) (he : e = 0 ∨ e = 4)
    (ha : ∀ k, k < L → ws.cell? ⟨ba, k, none⟩ = some (.int .i64 (A k))) (hb : ∀ k, k < L → ws.cell? ⟨bb, k, none⟩ = some (.int .i64 (B k))) (hAB : ∀ k, k < L → B k ≠ A k → e = 0 ∧ B k = p) {x0 x1 x2 x3 x4 x5 x6 x16 x17 x18 x19 x20 x21 x22 x23 x24 x25 x26 x27 x28 x29 x30 x31 x32 x33 x34 x35 x36 x37 x38 x39 x40 x41 x42 x43 x44 x45 x46 x47 x48 x49 x50 x51 x52 x53 x54 x55 x56 x57 x58 x59 x60 x61 x62 x63 x64 x65 x66 x67 x68 x69 x70 x71 x72 x73 x74 x75 x76 x77 x78 x79 x80 x81 x82 x83 x84 x85 x86 x87 x88 x89 x90 x91 x92 x93 x94 x95 x96 x97 x98 x99 x100 x101 x102 x103 x104 : Value}
    (hQ : ∀ w' T', Frm NoB ws w' → T'.getD 6 undef = .bool true → Q .ret ⟨T', []⟩ w') :
    cd.wp Try.prog Q ⟨#[x0, x1, x2, x3, x4, x5, x6, .pointer (some ⟨g, 0, none⟩), .bool true, .int .u64 0, .slice (some ⟨ba, 0, none⟩) L ca, .bool true, .int .i64 p, .int .i64 e, .slice (some ⟨bb, 0, none⟩) L cb, .bool true, x16, x17, x18, x19, x20, x21, x22, x23, x24, x25, x26, x27, x28, x29, x30, x31, x32, x33, x34, x35, x36, x37, x38, x39, x40, x41, x42, x43, x44, x45, x46, x47, x48, x49, x50, x51, x52, x53, x54, x55, x56, x57, x58, x59, x60, x61, x62, x63, x64, x65, x66, x67, x68, x69, x70, x71, x72, x73, x74, x75, x76, x77, x78, x79, x80, x81, x82, x83, x84, x85, x86, x87, x88, x89, x90, x91, x92, x93, x94, x95, x96, x97, x98, x99, x100, x101, x102, x103, x104], []⟩ ws := by
  have HP : Hid (PoolS ws g O tk rows (4 * (L : Int))) := hP
  have HAB : Hid (∀ k, k < L → B k ≠ A k → e = 0 ∧ B k = p) := hAB
  have HA : Hid (∀ k, k < L → ws.cell? ⟨ba, k, none⟩ = some (.int .i64 (A k))) := ha
  have HB : Hid (∀ k, k < L → ws.cell? ⟨bb, k, none⟩ = some (.int .i64 (B k))) := hb
  clear hP hAB ha hb
  subst hcd
  simp only [Z4, tailC, body4, Try.f4, Option.getD_some]
  rcases he with rfl | rfl
  all_goals
    go_wp2_with (go_at_call 14; refine (askedS HP.out).mono ?_; rintro e w1 ⟨rfl, hw1⟩; obtain rfl := hw1.symm)
    go_loopw [17] (fun i wr => ∃ k : Nat, k ≤ L ∧ i = .int .i64 k ∧ Hid (Same ws wr)) (fun i _ => L - (intOf i).toNat)
    case atStart => exact ⟨0, Nat.zero_le _, rfl, ⟨0, rfl⟩⟩
    case round =>
      obtain ⟨k, hk, rfl, H⟩ := hrel
      by_cases hlt : k < L
      · have ca' : wr.cell? ⟨ba, k, none⟩ = some (.int .i64 (A k)) := by rw [H.out.cell]; exact HA.out k hlt
        have cb' : wr.cell? ⟨bb, k, none⟩ = some (.int .i64 (B k)) := by rw [H.out.cell]; exact HB.out k hlt
        have aa := add0 ba k
        have ab := add0 bb k
        by_cases heq : B k = A k
        · rw [heq] at cb'
          have hbq : (A k != A k) = false := by simp
          go_wp2
          go_quiet (fail)
          go_wp2
          go_roundw
          case rel => exact ⟨k + 1, by omega, by go_num, H.out.drewN _⟩
          case measure => simp [intOf]; omega
        · first
            | (have hbp := (HAB.out k hlt heq).1; exact absurd hbp (by decide))
            | (have hbp := (HAB.out k hlt heq).2
               rw [hbp] at cb' heq
               have hbq : (p != A k) = true := bne_iff_ne.2 heq
               go_wp2
               go_quiet (fail)
               go_wp2
               go_roundw
               case rel => exact ⟨k + 1, by omega, by go_num, H.out.drewN _⟩
               case measure => simp [intOf]; omega)
      · go_wp2
        refine hQ _ _ ?_ rfl
        obtain ⟨q, rfl⟩ := H.out
        exact (Frm.refl _ _).drewN q
end Go.Proofs.Ytpioacgknamemaa
