/- Few: what follows behind the last call of where, alone. -/
import Derived.Test.YtpioacgknamemaaLaw
set_option linter.unusedSectionVars false
namespace Go.Proofs.Ytpioacgknamemaa
open Go Go.RowKit Go.Conc Go.ConcN

noncomputable def body3 : Code := Try.f3.body.getD .skip
noncomputable def K30 : Code := headC (tailC 0 body3)
noncomputable def K31 : Code := headC (tailC 1 body3)
noncomputable def K32 : Code := headC (tailC 2 body3)
noncomputable def K33 : Code := headC (tailC 3 body3)
noncomputable def K34 : Code := headC (tailC 4 body3)
noncomputable def K35 : Code := headC (tailC 5 body3)
noncomputable def K36 : Code := headC (tailC 6 body3)
noncomputable def K37 : Code := headC (tailC 7 body3)
noncomputable def K38 : Code := headC (tailC 8 body3)
noncomputable def K39 : Code := headC (tailC 9 body3)
noncomputable def K310 : Code := headC (tailC 10 body3)
noncomputable def K311 : Code := headC (tailC 11 body3)
noncomputable def K312 : Code := headC (tailC 12 body3)
noncomputable def Z3 : Code := tailC 13 body3
theorem cut3 : Try.f3.body = some (.seq K30 (.seq K31 (.seq K32 (.seq K33 (.seq K34 (.seq K35 (.seq K36 (.seq K37 (.seq K38 (.seq K39 (.seq K310 (.seq K311 (.seq K312 (Z3)))))))))))))) := by kernel_rfl

set_option maxRecDepth 100000 in
set_option maxHeartbeats 1000000 in
theorem few_rest {cd : Code} (hcd : cd = Z3) {Q : Exit → Act → World → Prop} (ws : World) {ba ca bb cb bc cc L : Nat} {A B C : Nat → Int} {p : Int} (hL : L * 8 ≤ 140737488355328)
    (ha : ∀ k, k < L → ws.cell? ⟨ba, k, none⟩ = some (.int .i64 (A k))) (hb : ∀ k, k < L → ws.cell? ⟨bb, k, none⟩ = some (.int .i64 (B k))) (hc : ∀ k, k < L → ws.cell? ⟨bc, k, none⟩ = some (.int .i64 (C k)))
    (hB : ∀ k, k < L → B k ≠ p) (hAB : ∀ k, k < L → A k ≠ p → B k = A k) (hCA : ∀ k, k < L → C k = A k) {x0 x1 x2 x3 x4 x5 x6 x7 x8 x9 x10 x11 x12 x13 x24 x25 x26 x27 x28 x29 x30 x31 x32 x33 x34 x35 x36 x37 x38 x39 x40 x41 x42 x43 x44 x45 x46 x47 x48 x49 x50 x51 x52 x53 x54 x55 x56 x57 x58 x59 x60 x61 x62 x63 x64 x65 x66 x67 x68 x69 x70 x71 x72 x73 x74 x75 x76 x77 x78 x79 x80 x81 x82 x83 x84 x85 x86 x87 x88 x89 x90 x91 x92 x93 x94 x95 x96 x97 x98 x99 x100 x101 x102 x103 x104 x105 x106 x107 x108 x109 x110 x111 x112 x113 x114 x115 x116 x117 x118 x119 x120 x121 x122 x123 x124 x125 x126 x127 x128 x129 x130 x131 x132 x133 x134 x135 x136 x137 x138 x139 x140 x141 x142 x143 x144 x145 x146 x147 x148 x149 x150 x151 x152 x153 x154 x155 x156 x157 : Value}
    (hQ : ∀ w' T', Frm NoB ws w' → T'.getD 8 undef = .bool true → Q .ret ⟨T', []⟩ w') :
    cd.wp Try.prog Q ⟨#[x0, x1, x2, x3, x4, x5, x6, x7, x8, x9, x10, x11, x12, x13, .int .i64 p, .slice (some ⟨ba, 0, none⟩) L ca, .bool true, .int .i64 0, .slice (some ⟨bb, 0, none⟩) L cb, .bool true, .int .i64 p, .int .i64 0, .slice (some ⟨bc, 0, none⟩) L cc, .bool true, x24, x25, x26, x27, x28, x29, x30, x31, x32, x33, x34, x35, x36, x37, x38, x39, x40, x41, x42, x43, x44, x45, x46, x47, x48, x49, x50, x51, x52, x53, x54, x55, x56, x57, x58, x59, x60, x61, x62, x63, x64, x65, x66, x67, x68, x69, x70, x71, x72, x73, x74, x75, x76, x77, x78, x79, x80, x81, x82, x83, x84, x85, x86, x87, x88, x89, x90, x91, x92, x93, x94, x95, x96, x97, x98, x99, x100, x101, x102, x103, x104, x105, x106, x107, x108, x109, x110, x111, x112, x113, x114, x115, x116, x117, x118, x119, x120, x121, x122, x123, x124, x125, x126, x127, x128, x129, x130, x131, x132, x133, x134, x135, x136, x137, x138, x139, x140, x141, x142, x143, x144, x145, x146, x147, x148, x149, x150, x151, x152, x153, x154, x155, x156, x157], []⟩ ws := by
  have HBp : Hid (∀ k, k < L → B k ≠ p) := hB
  have HAB : Hid (∀ k, k < L → A k ≠ p → B k = A k) := hAB
  have HCA : Hid (∀ k, k < L → C k = A k) := hCA
  have HA : Hid (∀ k, k < L → ws.cell? ⟨ba, k, none⟩ = some (.int .i64 (A k))) := ha
  have HB : Hid (∀ k, k < L → ws.cell? ⟨bb, k, none⟩ = some (.int .i64 (B k))) := hb
  have HC : Hid (∀ k, k < L → ws.cell? ⟨bc, k, none⟩ = some (.int .i64 (C k))) := hc
  clear hB hAB hCA ha hb hc
  subst hcd
  simp only [Z3, tailC, body3, Try.f3, Option.getD_some]
  go_wp2
  go_loopw [24] (fun i wr => ∃ k : Nat, k ≤ L ∧ i = .int .i64 k ∧ Hid (Same ws wr)) (fun i _ => L - (intOf i).toNat)
  case atStart => exact ⟨0, Nat.zero_le _, rfl, ⟨0, rfl⟩⟩
  case round =>
    obtain ⟨k, hk, rfl, H⟩ := hrel
    by_cases hlt : k < L
    · have ca' : wr.cell? ⟨ba, k, none⟩ = some (.int .i64 (A k)) := by rw [H.out.cell]; exact HA.out k hlt
      have cb' : wr.cell? ⟨bb, k, none⟩ = some (.int .i64 (B k)) := by rw [H.out.cell]; exact HB.out k hlt
      have cc' : wr.cell? ⟨bc, k, none⟩ = some (.int .i64 (C k)) := by rw [H.out.cell]; exact HC.out k hlt
      have aa := add0 ba k
      have ab := add0 bb k
      have ac := add0 bc k
      have hbp := HBp.out k hlt
      rw [HCA.out k hlt] at cc'
      by_cases heq : A k = p
      · rw [heq] at ca' cc'
        obtain ⟨y, hy⟩ : ∃ y, B k = y := ⟨_, rfl⟩
        rw [hy] at cb' hbp
        have hq1 : (y == p) = false := beq_eq_false_iff_ne.2 hbp
        have hq2 : (p != p) = false := by simp
        go_wp2
        go_quiet (fail)
        go_wp2
        go_roundw
        case rel => exact ⟨k + 1, by omega, by go_num, H.out.drewN _⟩
        case measure => simp [intOf]; omega
      · rw [HAB.out k hlt heq] at cb'
        obtain ⟨y, hy⟩ : ∃ y, A k = y := ⟨_, rfl⟩
        rw [hy] at ca' cb' cc' heq
        have hq1 : (y == p) = false := beq_eq_false_iff_ne.2 heq
        have hq2 : (y != p) = true := bne_iff_ne.2 heq
        have hq3 : (y != y) = false := by simp
        go_wp2
        go_quiet (fail)
        go_wp2
        go_roundw
        case rel => exact ⟨k + 1, by omega, by go_num, H.out.drewN _⟩
        case measure => simp [intOf]; omega
    · go_wp2
      refine hQ _ _ ?_ rfl
      obtain ⟨q, rfl⟩ := H.out
      exact (Frm.refl _ _).drewN q
end Go.Proofs.Ytpioacgknamemaa
