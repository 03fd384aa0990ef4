/- Grown: its two loops, alone. -/
import Derived.Test.YtpioacgknamemaaWhere
set_option linter.unusedSectionVars false
namespace Go.Proofs.Ytpioacgknamemaa
open Go Go.RowKit Go.Conc Go.ConcN

theorem upto_succ (n : Nat) : upto n ++ [((upto n).length : Int)] = upto (n + 1) := by simp [upto, List.range_succ]
theorem mem_upto {n k : Nat} (h : k < n) : (k : Int) ∈ upto n := by
  simp only [upto, List.mem_map, List.mem_range]
  exact ⟨k, h, rfl⟩
theorem good_upto {n : Nat} (h1 : 1 ≤ n) (h2 : n ≤ 64) : GoodRows [] [upto n] :=
  ⟨⟨rfl, by simp, fun i row hi => by simp at hi⟩, by simpa [upto_length] using ⟨h1, h2⟩⟩
theorem whr_upto (n key : Nat) : whr [] [upto n] key = (jmp key n 0 0 : Nat) := by simp [whr, fnd, upto_length]

noncomputable def body6 : Code := Try.f6.body.getD .skip
noncomputable def L6 : Code := match body6 with | .seq _ (.seq _ (.seq _ (.seq _ (.seq _ (.seq _ (.seq l _)))))) => l | _ => .skip
noncomputable def R6 : Code := match body6 with | .seq _ (.seq _ (.seq _ (.seq _ (.seq _ (.seq _ (.seq _ (.seq _ (.seq _ r)))))))) => r | _ => .skip

/-- Where the loop that gives stands. -/
structure Lp1 (S : Nat → Prop) (ws wr : World) (gp : Nat) (rwp : Value) (n : Nat) (vp : Value) : Prop where
  pool : PoolX wr gp (.slice none 0 0) rwp [] [(vp, upto n)] 0
  frm : Frm S ws wr
  v : ∀ b, vp.ownBlock = some b → S b

theorem Lp1.step {S : Nat → Prop} {ws wr w1 : World} {gp n : Nat} {rwp vp v' : Value} (h : Lp1 S ws wr gp rwp n vp) (hS : ∀ b, ws.heap.size ≤ b → S b) (hr : ∀ b, rwp.ownBlock = some b → S b) (hG : Gave wr w1 gp rwp vp (upto n) 0 v') : Lp1 S ws w1 gp rwp (n + 1) v' := by
  refine ⟨by rw [← upto_succ]; exact hG.pool, h.frm.trans hG.frm (fun _ s => s) (fun i _ hi => hi.elim (hr i) (h.v i)), fun b hb => ?_⟩
  rcases hG.new b hb with q | q
  · exact h.v b q
  · exact hS b (by have := h.frm.size; omega)

set_option maxRecDepth 100000 in
set_option maxHeartbeats 4000000 in
theorem grown_loop1 {cd : Code} (hcd : cd = L6) {Q : Exit → Act → World → Prop} (ws : World) {S : Nat → Prop} {gp a mm : Nat} {rwp vp : Value} (h : Lp1 S ws ws gp rwp a vp) (ha1 : 1 ≤ a) (ham : a + mm ≤ 64) (hS : ∀ b, ws.heap.size ≤ b → S b) (hr : ∀ b, rwp.ownBlock = some b → S b) {x0 x1 x2 x3 x4 x5 x6 x10 x11 x12 x13 x14 x15 x16 x17 x18 x19 x20 x21 x22 x23 x24 x25 x26 x27 x28 x29 x30 x31 x32 x33 x34 x35 x36 x37 x38 x39 x40 x41 x42 x43 x44 x45 x46 x47 x48 x49 x50 x51 x52 x53 x54 x55 x56 x57 x58 x59 x60 x61 x62 x63 x64 x65 x66 x67 x68 x69 x70 x71 x72 x73 x74 x75 x76 x77 x78 x79 x80 x81 x82 x83 x84 x85 x86 x87 x88 x89 x90 x91 x92 x93 x94 x95 x96 x97 x98 x99 x100 x101 x102 x103 x104 x105 x106 x107 x108 x109 x110 x111 x112 x113 x114 x115 x116 x117 x118 x119 x120 x121 x122 x123 x124 x125 x126 x127 x128 x129 x130 x131 x132 x133 x134 x135 x136 x137 x138 x139 x140 x141 x142 : Value}
    (hQ : ∀ x6 x11 x12 x13 x40 x41 x42 x43 x44 x45 x46 x47 x48 x49 x50 x51 x52 x53 x54 x55 x56 x57 x58 vp' w', Lp1 S ws w' gp rwp (a + mm) vp' → Q .normal ⟨#[x0, x1, x2, x3, x4, x5, x6, .int .i64 (a : Int), .int .i64 (mm : Int), .pointer (some ⟨gp, 0, none⟩), x10, x11, x12, x13, x14, x15, x16, x17, x18, x19, x20, x21, x22, x23, x24, x25, x26, x27, x28, x29, x30, x31, x32, x33, x34, x35, x36, x37, x38, x39, x40, x41, x42, x43, x44, x45, x46, x47, x48, x49, x50, x51, x52, x53, x54, x55, x56, x57, x58, x59, x60, x61, x62, x63, x64, x65, x66, x67, x68, x69, x70, x71, x72, x73, x74, x75, x76, x77, x78, x79, x80, x81, x82, x83, x84, x85, x86, x87, x88, x89, x90, x91, x92, x93, x94, x95, x96, x97, x98, x99, x100, x101, x102, x103, x104, x105, x106, x107, x108, x109, x110, x111, x112, x113, x114, x115, x116, x117, x118, x119, x120, x121, x122, x123, x124, x125, x126, x127, x128, x129, x130, x131, x132, x133, x134, x135, x136, x137, x138, x139, x140, x141, x142], []⟩ w') :
    cd.wp Try.prog Q ⟨#[x0, x1, x2, x3, x4, x5, x6, .int .i64 (a : Int), .int .i64 (mm : Int), .pointer (some ⟨gp, 0, none⟩), x10, x11, x12, x13, x14, x15, x16, x17, x18, x19, x20, x21, x22, x23, x24, x25, x26, x27, x28, x29, x30, x31, x32, x33, x34, x35, x36, x37, x38, x39, x40, x41, x42, x43, x44, x45, x46, x47, x48, x49, x50, x51, x52, x53, x54, x55, x56, x57, x58, x59, x60, x61, x62, x63, x64, x65, x66, x67, x68, x69, x70, x71, x72, x73, x74, x75, x76, x77, x78, x79, x80, x81, x82, x83, x84, x85, x86, x87, x88, x89, x90, x91, x92, x93, x94, x95, x96, x97, x98, x99, x100, x101, x102, x103, x104, x105, x106, x107, x108, x109, x110, x111, x112, x113, x114, x115, x116, x117, x118, x119, x120, x121, x122, x123, x124, x125, x126, x127, x128, x129, x130, x131, x132, x133, x134, x135, x136, x137, x138, x139, x140, x141, x142], []⟩ ws := by
  subst hcd
  simp only [L6, body6, Try.f6, Option.getD_some]
  go_wp2
  go_loopw [11] (fun i wr => ∃ k : Nat, ∃ vp, k ≤ mm ∧ i = .int .i64 k ∧ Hid (Lp1 S ws wr gp rwp (a + k) vp)) (fun i _ => mm - (intOf i).toNat)
  case atStart => exact ⟨0, vp, Nat.zero_le _, rfl, h⟩
  case round =>
    obtain ⟨k, vp1, hk, rfl, H⟩ := hrel
    by_cases hlt : k < mm
    · have HU : Hid (((upto (a + k)).length : Int) = (a : Int) + (k : Int)) := by show _ = _; rw [upto_length]; omega
      have hP := H.out.pool
      have hu1 : 1 ≤ (upto (a + k)).length := by rw [upto_length]; omega
      have hu2 : (upto (a + k)).length < 64 := by rw [upto_length]; omega
      go_wp2_with (go_at_call 11; refine (pool_give _ gp rwp vp1 (upto (a + k)) 0 hP hu1 hu2).mono ?_; rintro e w1 ⟨v', rfl, hGv⟩; rw [HU.out])
      go_roundw
      case rel => exact ⟨k + 1, v', by omega, by go_num, H.out.step hS hr hGv⟩
      case measure => simp [intOf]; omega
    · have hke : k = mm := by omega
      subst hke
      go_wp2
      exact hQ _ _ _ _ _ _ _ _ _ _ _ _ _ _ _ _ _ _ _ _ _ _ _ vp1 _ H.out

/-- Where the last loop stands: nothing is written. -/
def Same (ws wr : World) : Prop := ∃ q, wr = ws.drewN q
theorem Same.cell {ws wr : World} (h : Same ws wr) (a : Addr) : wr.cell? a = ws.cell? a := by obtain ⟨q, rfl⟩ := h; rfl
theorem Same.drewN {ws wr : World} (h : Same ws wr) (q : Nat) : Same ws (wr.drewN q) := by
  obtain ⟨p, rfl⟩ := h
  exact ⟨p + q, by simp [World.drewN, Nat.add_assoc]⟩

theorem jumpPub' (key n : Nat) (N : Int) (J : Nat) (hN : N = (n : Int)) (hk : key < 18446744073709551616) (h1 : 1 ≤ n) (hn : n ≤ 64) (hJ : jmp key n 0 0 = J) (w : World) :
    Calls Try.prog 15 #[.int .u64 key, .int .i64 N] w fun e w' => e = .returned (.tuple #[.int .i64 (J : Int), .int .i64 0]) ∧ w' = w := by
  subst hN; subst hJ
  exact jumpPub_ok key n w hk h1 hn

set_option maxRecDepth 100000 in
set_option maxHeartbeats 4000000 in
theorem grown_rest {cd : Code} (hcd : cd = R6) {Q : Exit → Act → World → Prop} (ws : World) {gp a mm bx cx by' cy kc : Nat} {ao : Option Addr} {ks : List Nat} {rwp vp : Value} (h : ∃ asked, PoolX ws gp (.slice none 0 0) rwp [] ([] ++ [(vp, upto (a + mm))]) asked) (ha1 : 1 ≤ a) (ham : a + mm ≤ 64)
    (hlen : (ks.length + 2) * 8 ≤ 140737488355328) (hKs : KeysAt ws ao ks)
    (hx : ws.ownsRow 0 3 1 (.slice (some ⟨bx, 0, none⟩) (ks.length + 2) cx) (ks.length + 2) ((plus2 ks).map fun x => .int .i64 (jmp x (a + mm) 0 0 : Nat))) (hy : ws.ownsRow 0 3 1 (.slice (some ⟨by', 0, none⟩) (ks.length + 2) cy) (ks.length + 2) ((plus2 ks).map fun x => .int .i64 (jmp x (a + mm) 0 0 : Nat))) {x0 x1 x3 x4 x5 x6 x10 x11 x12 x13 x18 x19 x20 x21 x22 x23 x24 x25 x26 x27 x28 x29 x30 x31 x32 x33 x34 x35 x36 x37 x38 x39 x40 x41 x42 x43 x44 x45 x46 x47 x48 x49 x50 x51 x52 x53 x54 x55 x56 x57 x58 x59 x60 x61 x62 x63 x64 x65 x66 x67 x68 x69 x70 x71 x72 x73 x74 x75 x76 x77 x78 x79 x80 x81 x82 x83 x84 x85 x86 x87 x88 x89 x90 x91 x92 x93 x94 x95 x96 x97 x98 x99 x100 x101 x102 x103 x104 x105 x106 x107 x108 x109 x110 x111 x112 x113 x114 x115 x116 x117 x118 x119 x120 x121 x122 x123 x124 x125 x126 x127 x128 x129 x130 x131 x132 x133 x134 x135 x136 x137 x138 x139 x140 x141 x142 : Value}
    (hQ : ∀ w' T', Frm NoB ws w' → T'.getD 6 undef = .bool true → Q .ret ⟨T', []⟩ w') :
    cd.wp Try.prog Q ⟨#[x0, x1, .slice ao ks.length kc, x3, x4, x5, x6, .int .i64 (a : Int), .int .i64 (mm : Int), .pointer (some ⟨gp, 0, none⟩), x10, x11, x12, x13, .slice (some ⟨bx, 0, none⟩) (ks.length + 2) cx, .bool true, .slice (some ⟨by', 0, none⟩) (ks.length + 2) cy, .bool true, x18, x19, x20, x21, x22, x23, x24, x25, x26, x27, x28, x29, x30, x31, x32, x33, x34, x35, x36, x37, x38, x39, x40, x41, x42, x43, x44, x45, x46, x47, x48, x49, x50, x51, x52, x53, x54, x55, x56, x57, x58, x59, x60, x61, x62, x63, x64, x65, x66, x67, x68, x69, x70, x71, x72, x73, x74, x75, x76, x77, x78, x79, x80, x81, x82, x83, x84, x85, x86, x87, x88, x89, x90, x91, x92, x93, x94, x95, x96, x97, x98, x99, x100, x101, x102, x103, x104, x105, x106, x107, x108, x109, x110, x111, x112, x113, x114, x115, x116, x117, x118, x119, x120, x121, x122, x123, x124, x125, x126, x127, x128, x129, x130, x131, x132, x133, x134, x135, x136, x137, x138, x139, x140, x141, x142], []⟩ ws := by
  obtain ⟨asked, h⟩ := h
  have hsl := srt_length (upto (a + mm))
  rw [upto_length] at hsl
  subst hcd
  simp only [R6, body6, Try.f6, Option.getD_some]
  go_wp2_with (go_at_call 10; refine (pool_standing _ gp _ rwp [] [] vp (upto (a + mm)) asked h (by simp) (by rw [upto_length]; omega) (by rw [upto_length]; omega)).mono ?_; rintro e w1 ⟨l, rfl, hN⟩; obtain ⟨lo, lc, rfl⟩ := owns_shape hN.1; rw [hsl])
  have hx1 := hN.2.1.owns hx (fun _ _ s => s)
  have hy1 := hN.2.1.owns hy (fun _ _ s => s)
  have hK1 : KeysAt w1 ao ks := hKs.keep (fun ad ha hpos => hN.2.1.block _ (by
    have := hKs.src.2.2.1 ad ha 0 (.int .u64 (Int.ofNat ks[0])) (by simp [keyV, hpos])
    have := World.block_lt_of_cell? _ _ this
    rwa [show (ad.add 0).block = ad.block by unfold Addr.add; split <;> rfl] at this) (fun s => s))
  have HF : Hid (Frm NoB ws w1) := hN.2.1
  clear hx hy hKs hN h hsl
  go_loopw [19] (fun i wr => ∃ k : Nat, k ≤ ks.length + 2 ∧ i = .int .i64 k ∧ Hid (Same w1 wr)) (fun i _ => ks.length + 2 - (intOf i).toNat)
  case atStart => exact ⟨0, Nat.zero_le _, rfl, ⟨0, rfl⟩⟩
  case round =>
    obtain ⟨k, hk, rfl, H⟩ := hrel
    by_cases hlt : k < ks.length + 2
    · obtain ⟨x, hxk⟩ : ∃ x, (plus2 ks)[k]? = some x := ⟨(plus2 ks)[k]'(by rw [plus2_len]; exact hlt), List.getElem?_eq_getElem (by rw [plus2_len]; exact hlt)⟩
      have cx' : wr.cell? ⟨bx, k, none⟩ = some (.int .i64 (jmp x (a + mm) 0 0 : Nat)) := by
        rw [H.out.cell, hx1.cellAt k (by omega), List.getElem?_map, hxk]; rfl
      have cy' : wr.cell? ⟨by', k, none⟩ = some (.int .i64 (jmp x (a + mm) 0 0 : Nat)) := by
        rw [H.out.cell, hy1.cellAt k (by omega), List.getElem?_map, hxk]; rfl
      have hj := jmp_lt x (a + mm) 0 0 (by omega)
      have ax := add0 bx k
      have ay := add0 by' k
      by_cases hkk : k < ks.length
      · have hxk' : ks[k]? = some x := by rw [← hxk, plus2, List.getElem?_append_left hkk]
        have hx64 : x < 18446744073709551616 := hK1.lt x (List.mem_of_getElem? hxk')
        obtain ⟨ad, rfl⟩ : ∃ ad, ao = some ad := by
          cases ao with
          | none => have := hK1.src.2.1 rfl; omega
          | some ad => exact ⟨ad, rfl⟩
        have ck : wr.cell? (ad.add k) = some (.int .u64 x) := by
          rw [H.out.cell]
          exact hK1.src.2.2.1 ad rfl k _ (by simp [keyV, hxk'])
        have hle : (k : Int) ≤ (ks.length : Int) := by omega
        obtain ⟨J, HJ⟩ : ∃ J, Hid (jmp x (a + mm) 0 0 = J) := ⟨_, rfl⟩
        rw [HJ.out] at cx' cy' hj
        clear hxk hxk' hx1 hy1 hK1
        go_wp2_with (go_at_call 15; refine (jumpPub' x (a + mm) _ J rfl hx64 (by omega) ham HJ.out _).mono ?_; rintro e w2 ⟨rfl, hw2⟩; obtain rfl := hw2.symm)
        go_quiet (fail)
        go_wp2
        go_roundw
        case rel => exact ⟨k + 1, by omega, by go_num, H.out.drewN _⟩
        case measure => simp [intOf]; omega
      · obtain ⟨J1, HJ⟩ : ∃ J, Hid (jmp 1 (a + mm) 0 0 = J) := ⟨_, rfl⟩
        by_cases hke : k = ks.length
        · have hx1' : x = 1 := by
            rw [hke, plus2, List.getElem?_append_right (Nat.le_refl _)] at hxk
            simpa using hxk.symm
          subst hx1'
          have hle : (k : Int) ≤ (ks.length : Int) := by omega
          have hge : ¬ ((k : Int) < (ks.length : Int)) := by omega
          rw [HJ.out] at cx' cy' hj
          clear hxk hx1 hy1 hK1 hke
          go_wp2_with (go_at_call 15; refine (jumpPub' 1 (a + mm) _ J1 rfl (by decide) (by omega) ham HJ.out _).mono ?_; rintro e w2 ⟨rfl, hw2⟩; obtain rfl := hw2.symm)
          go_quiet (fail)
          go_wp2
          go_roundw
          case rel => exact ⟨k + 1, by omega, by go_num, H.out.drewN _⟩
          case measure => simp [intOf]; omega
        · have hge : ¬ ((k : Int) < (ks.length : Int)) := by omega
          have hdl : decide ((k : Int) ≤ (ks.length : Int)) = false := by simp; omega
          have hdl2 : decide (k ≤ ks.length) = false := by simp; omega
          obtain ⟨J, HJ'⟩ : ∃ J, Hid (jmp x (a + mm) 0 0 = J) := ⟨_, rfl⟩
          rw [HJ'.out] at cx' cy' hj
          clear hxk hx1 hy1 hK1
          go_wp2_with (go_at_call 15; refine (jumpPub' 1 (a + mm) _ J1 rfl (by decide) (by omega) ham HJ.out _).mono ?_; rintro e w2 ⟨rfl, hw2⟩; obtain rfl := hw2.symm)
          go_quiet (fail)
          go_wp2
          go_roundw
          case rel => exact ⟨k + 1, by omega, by go_num, H.out.drewN _⟩
          case measure => simp [intOf]; omega
    · go_wp2
      refine hQ _ _ ?_ rfl
      obtain ⟨q, rfl⟩ := H.out
      exact HF.out.drewN q
end Go.Proofs.Ytpioacgknamemaa
