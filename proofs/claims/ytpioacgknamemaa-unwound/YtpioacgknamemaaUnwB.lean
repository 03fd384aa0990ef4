/- Unwound: the loop that gives, and what follows behind the last call of where, alone. -/
import Derived.Test.YtpioacgknamemaaUnw
set_option linter.unusedSectionVars false
namespace Go.Proofs.Ytpioacgknamemaa
open Go Go.RowKit Go.Conc Go.ConcN

/-- Where the loop that gives stands. -/
structure Lq5 (O : Nat → Prop) (ws wr : World) (g : Nat) (m : Int) (tk0 : List Int) (rows0 : List (List Int)) (qs : List Int) : Prop where
  frm : Frm O ws wr
  ex : ∃ O' tk rows, PoolS wr g O' tk rows m ∧ Chain tk0 rows0 qs tk rows ∧ (∀ k, O' k → Ext O ws k)

theorem Lq5.step {O O' : Nat → Prop} {ws wr w2 : World} {g : Nat} {m : Int} {tk0 tk : List Int} {rows0 rows : List (List Int)} {qs qs' : List Int} (h : Lq5 O ws wr g m tk0 rows0 qs') (hO : ∀ k, O' k → Ext O ws k) (hF : Frm O' wr w2) (hP : PoolS w2 g (Ext O' wr) tk rows m) (hC : Chain tk0 rows0 qs tk rows) : Lq5 O ws w2 g m tk0 rows0 qs := by
  have hz := h.frm.size
  refine ⟨h.frm.trans hF (fun _ s => s) (fun k hk s => (hO k s).elim id (fun q => by omega)), _, tk, rows, hP, hC, fun k hk => ?_⟩
  rcases hk with q | q
  · exact hO k q
  · exact .inr (by omega)

set_option maxRecDepth 100000 in
set_option maxHeartbeats 2000000 in
theorem unw_loop2 {cd : Code} (hcd : cd = K59) {Q : Exit → Act → World → Prop} (ws : World) {O : Nat → Prop} {g oc : Nat} {oa : Option Addr} {m : Int} {tk0 ps : List Int} {rows0 : List (List Int)} (h : Lq5 O ws ws g m tk0 rows0 ps) (hown : ws.ownsRow 0 3 1 (.slice oa ps.length oc) ps.length (ps.map (Value.int .i64))) (hno : ∀ b, (Value.slice oa ps.length oc).ownBlock = some b → ¬ O b) (hpl : ps.length * 8 ≤ 140737488355328) {x0 x1 x2 x3 x4 x5 x6 x7 x8 x10 x11 x12 x13 x15 x16 x17 x18 x19 x20 x21 x22 x23 x24 x25 x26 x27 x28 x29 x30 x31 x32 x33 x34 x35 x36 x37 x38 x39 x40 x41 x42 x43 x44 x45 x46 x47 x48 x49 x50 x51 x52 x53 x54 x55 x56 x57 x58 x59 x60 x61 x62 x63 x64 x65 x66 x67 x68 x69 x70 x71 x72 x73 x74 x75 x76 x77 x78 x79 x80 x81 x82 x83 x84 x85 x86 x87 x88 x89 x90 x91 x92 x93 x94 x95 x96 x97 x98 x99 x100 x101 x102 x103 x104 x105 x106 x107 x108 x109 x110 x111 x112 x113 x114 x115 x116 x117 x118 x119 x120 x121 x122 x123 x124 x125 x126 x127 x128 x129 x130 x131 x132 x133 x134 x135 x136 x137 x138 x139 x140 x141 x142 x143 x144 x145 x146 x147 x148 x149 x150 x151 x152 x153 x154 x155 x156 x157 x158 x159 x160 x161 x162 x163 x164 x165 x166 x167 x168 : Value}
    (hQ : ∀ x8 x19 x20 x21 x93 x94 x95 x96 x97 x98 x99 x100 x101 x102 x103 x104 x105 x106 x107 x108 x109 x110 x111 x112 x113 x114 w', Lq5 O ws w' g m tk0 rows0 [] → Q .normal ⟨#[x0, x1, x2, x3, x4, x5, x6, x7, x8, .pointer (some ⟨g, 0, none⟩), x10, x11, x12, x13, .slice oa ps.length oc, x15, x16, x17, x18, x19, x20, x21, x22, x23, x24, x25, x26, x27, x28, x29, x30, x31, x32, x33, x34, x35, x36, x37, x38, x39, x40, x41, x42, x43, x44, x45, x46, x47, x48, x49, x50, x51, x52, x53, x54, x55, x56, x57, x58, x59, x60, x61, x62, x63, x64, x65, x66, x67, x68, x69, x70, x71, x72, x73, x74, x75, x76, x77, x78, x79, x80, x81, x82, x83, x84, x85, x86, x87, x88, x89, x90, x91, x92, x93, x94, x95, x96, x97, x98, x99, x100, x101, x102, x103, x104, x105, x106, x107, x108, x109, x110, x111, x112, x113, x114, x115, x116, x117, x118, x119, x120, x121, x122, x123, x124, x125, x126, x127, x128, x129, x130, x131, x132, x133, x134, x135, x136, x137, x138, x139, x140, x141, x142, x143, x144, x145, x146, x147, x148, x149, x150, x151, x152, x153, x154, x155, x156, x157, x158, x159, x160, x161, x162, x163, x164, x165, x166, x167, x168], []⟩ w') :
    cd.wp Try.prog Q ⟨#[x0, x1, x2, x3, x4, x5, x6, x7, x8, .pointer (some ⟨g, 0, none⟩), x10, x11, x12, x13, .slice oa ps.length oc, x15, x16, x17, x18, x19, x20, x21, x22, x23, x24, x25, x26, x27, x28, x29, x30, x31, x32, x33, x34, x35, x36, x37, x38, x39, x40, x41, x42, x43, x44, x45, x46, x47, x48, x49, x50, x51, x52, x53, x54, x55, x56, x57, x58, x59, x60, x61, x62, x63, x64, x65, x66, x67, x68, x69, x70, x71, x72, x73, x74, x75, x76, x77, x78, x79, x80, x81, x82, x83, x84, x85, x86, x87, x88, x89, x90, x91, x92, x93, x94, x95, x96, x97, x98, x99, x100, x101, x102, x103, x104, x105, x106, x107, x108, x109, x110, x111, x112, x113, x114, x115, x116, x117, x118, x119, x120, x121, x122, x123, x124, x125, x126, x127, x128, x129, x130, x131, x132, x133, x134, x135, x136, x137, x138, x139, x140, x141, x142, x143, x144, x145, x146, x147, x148, x149, x150, x151, x152, x153, x154, x155, x156, x157, x158, x159, x160, x161, x162, x163, x164, x165, x166, x167, x168], []⟩ ws := by
  subst hcd
  simp only [K59, headC, tailC, body5, Try.f5, Option.getD_some]
  go_wp2
  go_loopw [19] (fun i wr => ∃ (k : Nat) (z : Int), k ≤ ps.length ∧ z = (k : Int) - 1 ∧ i = .int .i64 z ∧ Hid (Lq5 O ws wr g m tk0 rows0 (ps.take k))) (fun i _ => (intOf i + 1).toNat)
  case atStart => exact ⟨ps.length, _, Nat.le_refl _, rfl, by go_num, by rw [List.take_length]; exact h⟩
  case round =>
    obtain ⟨k, z, hk, hz, rfl, H⟩ := hrel
    cases k with
    | zero =>
      have hzn : ¬ (0 : Int) ≤ z := by omega
      have hzn' : z < 0 := by omega
      have H0 : Hid (Lq5 O ws wr g m tk0 rows0 []) := by have := H.out; rw [List.take_zero] at this; exact this
      clear H
      go_wp2
      exact H0.out
    | succ k =>
      obtain rfl : z = (k : Int) := by omega
      clear hz
      obtain ⟨p, hp⟩ : ∃ p, ps[k]? = some p := ⟨ps[k], List.getElem?_eq_getElem (by omega)⟩
      obtain ⟨O', tk1, rows1, hP, hC, hO⟩ := H.out.ex
      rw [List.take_add_one, hp] at hC
      obtain ⟨tk2, rows2, hC2, hS2, hT2⟩ := hC.last
      have hG := hT2.back hS2
      have HG : Hid (Giv tk1 rows1 p 0 tk2 rows2) := hG
      have HP : Hid (PoolS wr g O' tk1 rows1 m) := hP
      have HC : Hid (Chain tk0 rows0 (ps.take k) tk2 rows2) := hC2
      have HO : Hid (∀ k, O' k → Ext O ws k) := hO
      have hor := H.out.frm.owns hown hno
      obtain ⟨oa', oc', e, hRd, -⟩ := owns_rd hown
      cases e
      obtain ⟨ob, rfl, -⟩ := hRd k p hp
      have hob : ob < ws.heap.size := owns_lt hown rfl
      have hco : wr.cell? ⟨ob, k, none⟩ = some (.int .i64 p) := by rw [hor.cellAt k (by omega), List.getElem?_map, hp]; rfl
      have hnob : ¬ O ob := hno ob rfl
      have hobr : ob < wr.heap.size := World.block_lt_of_cell? _ _ hco
      have hadd := add0 ob k
      have hpp : (p != p) = false := by simp
      have hkl : (k : Int) < (ps.length : Int) := by omega
      have hk0 : (0 : Int) ≤ (k : Int) := by omega
      clear hP hC hO hC2 hS2 hT2 hG hor hRd hp hno
      go_wp2_with (go_at_call 11; refine (give_any HP.out HG.out).mono ?_; rintro e' w2 ⟨rfl, hF2, hP2⟩; have hco2 : w2.cell? ⟨ob, k, none⟩ = some (.int .i64 p) := (World.cell?_of_block (hF2.block ob hobr (fun s => (HO.out ob s).elim hnob (fun q => absurd q (Nat.not_le.2 hob))))).trans hco)
      go_roundw
      case rel => exact ⟨k, _, by omega, rfl, by go_num, H.out.step HO.out hF2 hP2 HC.out⟩
      case measure => simp [intOf]

set_option maxRecDepth 100000 in
set_option maxHeartbeats 2000000 in
theorem unw_rest {cd : Code} (hcd : cd = Z5) {Q : Exit → Act → World → Prop} (ws : World) {bx cx ba ca bz cz bb cb R L : Nat} {X A : Nat → Int} (hR : R ≤ 64) (hL : L * 8 ≤ 140737488355328)
    (hx : ∀ k, k < R → ws.cell? ⟨bx, k, none⟩ = some (.int .i64 (X k))) (hz : ∀ k, k < R → ws.cell? ⟨bz, k, none⟩ = some (.int .i64 (X k))) (ha : ∀ k, k < L → ws.cell? ⟨ba, k, none⟩ = some (.int .i64 (A k))) (hb : ∀ k, k < L → ws.cell? ⟨bb, k, none⟩ = some (.int .i64 (A k))) {x0 x1 x2 x3 x4 x5 x6 x7 x8 x9 x10 x13 x14 x15 x16 x17 x18 x19 x20 x21 x25 x26 x27 x28 x29 x30 x31 x32 x33 x34 x35 x36 x37 x38 x39 x40 x41 x42 x43 x44 x45 x46 x47 x48 x49 x50 x51 x52 x53 x54 x55 x56 x57 x58 x59 x60 x61 x62 x63 x64 x65 x66 x67 x68 x69 x70 x71 x72 x73 x74 x75 x76 x77 x78 x79 x80 x81 x82 x83 x84 x85 x86 x87 x88 x89 x90 x91 x92 x93 x94 x95 x96 x97 x98 x99 x100 x101 x102 x103 x104 x105 x106 x107 x108 x109 x110 x111 x112 x113 x114 x115 x116 x117 x118 x119 x120 x121 x122 x123 x124 x125 x126 x127 x128 x129 x130 x131 x132 x133 x134 x135 x136 x137 x138 x139 x140 x141 x142 x143 x144 x145 x146 x147 x148 x149 x150 x151 x152 x153 x154 x155 x156 x157 x158 x159 x160 x161 x162 x163 x164 x165 x166 x167 x168 : Value}
    (hQ : ∀ w' T', Frm NoB ws w' → T'.getD 8 undef = .bool true → Q .ret ⟨T', []⟩ w') :
    cd.wp Try.prog Q ⟨#[x0, x1, x2, x3, x4, x5, x6, x7, x8, x9, x10, .slice (some ⟨bx, 0, none⟩) R cx, .slice (some ⟨ba, 0, none⟩) L ca, x13, x14, x15, x16, x17, x18, x19, x20, x21, .slice (some ⟨bz, 0, none⟩) R cz, .slice (some ⟨bb, 0, none⟩) L cb, .bool true, x25, x26, x27, x28, x29, x30, x31, x32, x33, x34, x35, x36, x37, x38, x39, x40, x41, x42, x43, x44, x45, x46, x47, x48, x49, x50, x51, x52, x53, x54, x55, x56, x57, x58, x59, x60, x61, x62, x63, x64, x65, x66, x67, x68, x69, x70, x71, x72, x73, x74, x75, x76, x77, x78, x79, x80, x81, x82, x83, x84, x85, x86, x87, x88, x89, x90, x91, x92, x93, x94, x95, x96, x97, x98, x99, x100, x101, x102, x103, x104, x105, x106, x107, x108, x109, x110, x111, x112, x113, x114, x115, x116, x117, x118, x119, x120, x121, x122, x123, x124, x125, x126, x127, x128, x129, x130, x131, x132, x133, x134, x135, x136, x137, x138, x139, x140, x141, x142, x143, x144, x145, x146, x147, x148, x149, x150, x151, x152, x153, x154, x155, x156, x157, x158, x159, x160, x161, x162, x163, x164, x165, x166, x167, x168], []⟩ ws := by
  have HX : Hid (∀ k, k < R → ws.cell? ⟨bx, k, none⟩ = some (.int .i64 (X k))) := hx
  have HZ : Hid (∀ k, k < R → ws.cell? ⟨bz, k, none⟩ = some (.int .i64 (X k))) := hz
  have HA : Hid (∀ k, k < L → ws.cell? ⟨ba, k, none⟩ = some (.int .i64 (A k))) := ha
  have HB : Hid (∀ k, k < L → ws.cell? ⟨bb, k, none⟩ = some (.int .i64 (A k))) := hb
  clear hx hz ha hb
  subst hcd
  simp only [Z5, tailC, body5, Try.f5, Option.getD_some]
  go_wp2
  go_loopw [25] (fun i wr => ∃ k : Nat, k ≤ R ∧ i = .int .i64 k ∧ Hid (Same ws wr)) (fun i _ => R - (intOf i).toNat)
  case atStart => exact ⟨0, Nat.zero_le _, rfl, ⟨0, rfl⟩⟩
  case round =>
    obtain ⟨k, hk, rfl, H⟩ := hrel
    by_cases hlt : k < R
    · obtain ⟨y, hy⟩ : ∃ y, X k = y := ⟨_, rfl⟩
      have cx' : wr.cell? ⟨bx, k, none⟩ = some (.int .i64 y) := by rw [H.out.cell, ← hy]; exact HX.out k hlt
      have cz' : wr.cell? ⟨bz, k, none⟩ = some (.int .i64 y) := by rw [H.out.cell, ← hy]; exact HZ.out k hlt
      have ax := add0 bx k
      have az := add0 bz k
      have hyy : (y != y) = false := by simp
      go_wp2
      go_quiet (fail)
      go_wp2
      go_roundw
      case rel => exact ⟨k + 1, by omega, by go_num, H.out.drewN _⟩
      case measure => simp [intOf]; omega
    · go_wp2
      go_loopw [26] (fun i wr => ∃ k : Nat, k ≤ L ∧ i = .int .i64 k ∧ Hid (Same ws wr)) (fun i _ => L - (intOf i).toNat)
      case atStart => exact ⟨0, Nat.zero_le _, rfl, H⟩
      case round =>
        clear H
        obtain ⟨k, hk, rfl, H⟩ := hrel
        by_cases hlt : k < L
        · obtain ⟨y, hy⟩ : ∃ y, A k = y := ⟨_, rfl⟩
          have ca' : wr.cell? ⟨ba, k, none⟩ = some (.int .i64 y) := by rw [H.out.cell, ← hy]; exact HA.out k hlt
          have cb' : wr.cell? ⟨bb, k, none⟩ = some (.int .i64 y) := by rw [H.out.cell, ← hy]; exact HB.out k hlt
          have aa := add0 ba k
          have ab := add0 bb k
          have hyy : (y != y) = false := by simp
          go_wp2
          go_quiet (fail)
          go_wp2
          go_roundw
          case rel => exact ⟨k + 1, by omega, by go_num, H.out.drewN _⟩
          case measure => simp [intOf]; omega
        · go_wp2
          refine hQ _ _ ?_ rfl
          obtain ⟨q, hq⟩ := H.out
          rw [hq]
          exact (Frm.refl _ _).drewN q
end Go.Proofs.Ytpioacgknamemaa
