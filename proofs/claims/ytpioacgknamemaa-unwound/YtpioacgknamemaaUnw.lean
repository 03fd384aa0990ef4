/- Unwound: its loops, alone. -/
import Derived.Test.YtpioacgknamemaaLaw
set_option linter.unusedSectionVars false
namespace Go.Proofs.Ytpioacgknamemaa
open Go Go.RowKit Go.Conc Go.ConcN

noncomputable def body5 : Code := Try.f5.body.getD .skip
noncomputable def K50 : Code := headC (tailC 0 body5)
noncomputable def K51 : Code := headC (tailC 1 body5)
noncomputable def K52 : Code := headC (tailC 2 body5)
noncomputable def K53 : Code := headC (tailC 3 body5)
noncomputable def K54 : Code := headC (tailC 4 body5)
noncomputable def K55 : Code := headC (tailC 5 body5)
noncomputable def K56 : Code := headC (tailC 6 body5)
noncomputable def K57 : Code := headC (tailC 7 body5)
noncomputable def K58 : Code := headC (tailC 8 body5)
noncomputable def K59 : Code := headC (tailC 9 body5)
noncomputable def K510 : Code := headC (tailC 10 body5)
noncomputable def K511 : Code := headC (tailC 11 body5)
noncomputable def Z5 : Code := tailC 12 body5
theorem cut5 : Try.f5.body = some (.seq K50 (.seq K51 (.seq K52 (.seq K53 (.seq K54 (.seq K55 (.seq K56 (.seq K57 (.seq K58 (.seq K59 (.seq K510 (.seq K511 (Z5))))))))))))) := by kernel_rfl

/-- Places are taken, one behind the other. -/
inductive Chain (tk0 : List Int) (rows0 : List (List Int)) : List Int → List Int → List (List Int) → Prop
  | nil : Chain tk0 rows0 [] tk0 rows0
  | snoc {ps tk tk' : List Int} {rows rows' : List (List Int)} {p : Int} (h : Chain tk0 rows0 ps tk rows) (hs : St tk rows) (ht : Tak tk rows p tk' rows') : Chain tk0 rows0 (ps ++ [p]) tk' rows'
theorem Chain.none {tk0 tk : List Int} {rows0 rows : List (List Int)} (h : Chain tk0 rows0 [] tk rows) : tk = tk0 ∧ rows = rows0 := by
  generalize e : ([] : List Int) = ps at h
  cases h with
  | nil => exact ⟨rfl, rfl⟩
  | snoc h hs ht => simp at e
theorem Chain.last {tk0 tk' ps : List Int} {rows0 rows' : List (List Int)} {p : Int} (h : Chain tk0 rows0 (ps ++ [p]) tk' rows') : ∃ tk rows, Chain tk0 rows0 ps tk rows ∧ St tk rows ∧ Tak tk rows p tk' rows' := by
  generalize e : ps ++ [p] = qs at h
  cases h with
  | nil => simp at e
  | snoc h hs ht =>
    obtain ⟨rfl, e2⟩ := List.append_inj' e rfl
    simp only [List.cons.injEq, and_true] at e2
    subst e2
    exact ⟨_, _, h, hs, ht⟩

/-- Where the loop that takes stands. -/
structure Lp5 (O : Nat → Prop) (ws wr : World) (g : Nat) (m : Int) (tk0 : List Int) (rows0 : List (List Int)) (ps : List Int) (out : Value) : Prop where
  frm : Frm O ws wr
  ex : ∃ O' tk rows, PoolS wr g O' tk rows m ∧ St tk rows ∧ Chain tk0 rows0 ps tk rows ∧ (∀ k, O' k → Ext O ws k) ∧ (∀ k, O' k → k < wr.heap.size) ∧ (∀ b, out.ownBlock = some b → ¬ O' b)
  own : wr.ownsRow 0 3 1 out ps.length (ps.map (Value.int .i64))
  new : ∀ b, out.ownBlock = some b → ws.heap.size ≤ b

theorem Lp5.step {O O' : Nat → Prop} {ws wr w1 w2 w3 : World} {g : Nat} {m : Int} {tk0 tk tk' ps : List Int} {rows0 rows rows' : List (List Int)} {p : Int} {out out' : Value} {o : Obj} (h : Lp5 O ws wr g m tk0 rows0 ps out) (hS : St tk rows) (hC : Chain tk0 rows0 ps tk rows) (hO : ∀ k, O' k → Ext O ws k) (hno : ∀ b, out.ownBlock = some b → ¬ O' b)
    (hT : Tak tk rows p tk' rows') (hN : Frm NoB wr w1) (hF : Frm O' w1 w2) (hP : PoolS w2 g (Ext O' w1) tk' rows' m) (hA : App (w2.alloc o) w3 3 1 out out' ps.length 1 (ps.map (Value.int .i64)) [.int .i64 p]) : Lp5 O ws w3 g m tk0 rows0 (ps ++ [p]) out' := by
  have z0 := h.frm.size
  have z1 := hN.size
  have z2 := hF.size
  have hob : ∀ b, out.ownBlock = some b → b < wr.heap.size := fun b hb => owns_lt h.own hb
  have hF3 : Frm (fun k => out.ownBlock = some k) w2 w3 := ((Frm.refl (fun k => out.ownBlock = some k) w2).alloc o).grown hA.grown (fun k hk => .inl hk)
  refine ⟨?_, ⟨fun k => Ext O' w1 k ∧ k < w2.heap.size, tk', rows', ?_, hT.st hS, hC.snoc hS hT, fun k hk => ?_, fun k hk => ?_, fun b hb hk => ?_⟩, ?_, fun b hb => ?_⟩
  · have e1 : Frm O ws w2 := (h.frm.trans hN (fun _ s => s) (fun _ _ s => s.elim)).trans hF (fun _ s => s) (fun k hk s => (hO k s).elim id (fun q => by omega))
    exact e1.trans hF3 (fun _ s => s) (fun k hk s => by have := h.new k s; omega)
  · obtain ⟨tkv, rwv, rs, hr, hX, hOw⟩ := hP.tight
    have hd : ∀ k, Ext O' w1 k ∧ k < w2.heap.size → ¬ (out.ownBlock = some k) := fun k hk e => by
      rcases hk.1 with q | q
      · exact hno k e q
      · have := hob k e
        omega
    exact ⟨tkv, rwv, rs, hr, hX.frm hF3 (hd _ hOw.g) (fun k hk => hd k (hOw.tk k hk)) (fun k hk => hd k (hOw.rw' k hk)) (fun i v r k hi hk => hd k (hOw.rows i v r k hi hk)), hOw⟩
  · rcases hk.1 with q | q
    · exact hO k q
    · exact .inr (by omega)
  · have := hF3.size
    have := hk.2
    omega
  · rcases hA.new b hb with q | q
    · rcases hk.1 with s | s
      · exact hno b q s
      · have := hob b q
        omega
    · have := hk.2
      simp at q
      omega
  · have := hA.own
    simpa using this
  · rcases hA.new b hb with q | q
    · exact h.new b q
    · simp at q
      omega

theorem NewList.ge {w w' : World} {l : Value} {xs : List Int} (h : NewList w w' l xs) {k : Nat} (hk : l.ownBlock = some k) : w.heap.size ≤ k := h.2.2 k hk

set_option maxRecDepth 100000 in
set_option maxHeartbeats 2000000 in
theorem unw_loop1 {cd : Code} (hcd : cd = K58) {Q : Exit → Act → World → Prop} (ws : World) {O : Nat → Prop} {g tc : Nat} {m : Int} {tk0 : List Int} {rows0 : List (List Int)} {tao : Option Addr} {tz : List Int} (h : Lp5 O ws ws g m tk0 rows0 [] (.slice none 0 0)) (hT : IntsAt ws tao tz) (htl : (tz.length + 2) * 8 ≤ 140737488355328) (hTO : ∀ a, tao = some a → 0 < tz.length → ¬ O a.block) {x0 x1 x3 x4 x5 x6 x7 x8 x10 x11 x12 x13 x15 x16 x17 x18 x19 x20 x21 x22 x23 x24 x25 x26 x27 x28 x29 x30 x31 x32 x33 x34 x35 x36 x37 x38 x39 x40 x41 x42 x43 x44 x45 x46 x47 x48 x49 x50 x51 x52 x53 x54 x55 x56 x57 x58 x59 x60 x61 x62 x63 x64 x65 x66 x67 x68 x69 x70 x71 x72 x73 x74 x75 x76 x77 x78 x79 x80 x81 x82 x83 x84 x85 x86 x87 x88 x89 x90 x91 x92 x93 x94 x95 x96 x97 x98 x99 x100 x101 x102 x103 x104 x105 x106 x107 x108 x109 x110 x111 x112 x113 x114 x115 x116 x117 x118 x119 x120 x121 x122 x123 x124 x125 x126 x127 x128 x129 x130 x131 x132 x133 x134 x135 x136 x137 x138 x139 x140 x141 x142 x143 x144 x145 x146 x147 x148 x149 x150 x151 x152 x153 x154 x155 x156 x157 x158 x159 x160 x161 x162 x163 x164 x165 x166 x167 x168 : Value}
    (hQ : ∀ x8 x15 x16 x17 x18 x55 x56 x57 x58 x59 x60 x61 x62 x63 x64 x65 x66 x67 x68 x69 x70 x71 x72 x73 x74 x75 x76 x77 x78 x79 x80 x81 x82 x83 x84 x85 x86 x87 x88 x89 x90 x91 x92 ps out w', Lp5 O ws w' g m tk0 rows0 ps out → ps.length ≤ tz.length + 1 → Q .normal ⟨#[x0, x1, .slice tao tz.length tc, x3, x4, x5, x6, x7, x8, .pointer (some ⟨g, 0, none⟩), x10, x11, x12, x13, out, x15, x16, x17, x18, x19, x20, x21, x22, x23, x24, x25, x26, x27, x28, x29, x30, x31, x32, x33, x34, x35, x36, x37, x38, x39, x40, x41, x42, x43, x44, x45, x46, x47, x48, x49, x50, x51, x52, x53, x54, x55, x56, x57, x58, x59, x60, x61, x62, x63, x64, x65, x66, x67, x68, x69, x70, x71, x72, x73, x74, x75, x76, x77, x78, x79, x80, x81, x82, x83, x84, x85, x86, x87, x88, x89, x90, x91, x92, x93, x94, x95, x96, x97, x98, x99, x100, x101, x102, x103, x104, x105, x106, x107, x108, x109, x110, x111, x112, x113, x114, x115, x116, x117, x118, x119, x120, x121, x122, x123, x124, x125, x126, x127, x128, x129, x130, x131, x132, x133, x134, x135, x136, x137, x138, x139, x140, x141, x142, x143, x144, x145, x146, x147, x148, x149, x150, x151, x152, x153, x154, x155, x156, x157, x158, x159, x160, x161, x162, x163, x164, x165, x166, x167, x168], []⟩ w') :
    cd.wp Try.prog Q ⟨#[x0, x1, .slice tao tz.length tc, x3, x4, x5, x6, x7, x8, .pointer (some ⟨g, 0, none⟩), x10, x11, x12, x13, .slice none 0 0, x15, x16, x17, x18, x19, x20, x21, x22, x23, x24, x25, x26, x27, x28, x29, x30, x31, x32, x33, x34, x35, x36, x37, x38, x39, x40, x41, x42, x43, x44, x45, x46, x47, x48, x49, x50, x51, x52, x53, x54, x55, x56, x57, x58, x59, x60, x61, x62, x63, x64, x65, x66, x67, x68, x69, x70, x71, x72, x73, x74, x75, x76, x77, x78, x79, x80, x81, x82, x83, x84, x85, x86, x87, x88, x89, x90, x91, x92, x93, x94, x95, x96, x97, x98, x99, x100, x101, x102, x103, x104, x105, x106, x107, x108, x109, x110, x111, x112, x113, x114, x115, x116, x117, x118, x119, x120, x121, x122, x123, x124, x125, x126, x127, x128, x129, x130, x131, x132, x133, x134, x135, x136, x137, x138, x139, x140, x141, x142, x143, x144, x145, x146, x147, x148, x149, x150, x151, x152, x153, x154, x155, x156, x157, x158, x159, x160, x161, x162, x163, x164, x165, x166, x167, x168], []⟩ ws := by
  subst hcd
  simp only [K58, headC, tailC, body5, Try.f5, Option.getD_some]
  go_wp2
  go_loopw [14, 15] (fun out i wr => ∃ ps : List Int, ps.length ≤ tz.length + 1 ∧ i = .int .i64 (ps.length : Nat) ∧ Hid (Lp5 O ws wr g m tk0 rows0 ps out)) (fun _ i _ => tz.length + 1 - (intOf i).toNat)
  case atStart => exact ⟨[], Nat.zero_le _, rfl, h⟩
  case round =>
    obtain ⟨ps, hk, rfl, H⟩ := hrel
    obtain ⟨k, HK⟩ : ∃ k, Hid (ps.length = k) := ⟨_, rfl⟩
    rw [HK.out] at hk ⊢
    by_cases hlt : k < tz.length + 1
    · obtain ⟨O', tk1, rows1, hP, hS, hC, hO, hOl, hno⟩ := H.out.ex
      obtain ⟨front, row, rfl⟩ := hS.split
      have hl := hS.lens
      have hsl := srt_length row
      have hown := H.out.own
      rw [HK.out] at hown
      obtain ⟨oa, oc, rfl⟩ := owns_shape hown
      have HS : Hid (St tk1 (front ++ [row])) := hS
      have HP : Hid (PoolS wr g O' tk1 (front ++ [row]) m) := hP
      have HO : Hid (∀ k, O' k → Ext O ws k) := hO
      have HOl : Hid (∀ k, O' k → k < wr.heap.size) := hOl
      have HC : Hid (Chain tk0 rows0 ps tk1 (front ++ [row])) := hC
      have HN : Hid (∀ b, (Value.slice oa k oc).ownBlock = some b → ¬ O' b) := hno
      have hTr := hT.frm H.out.frm hTO
      clear hS hP hO hOl hC hno
      by_cases hr2 : row.length < 2
      · have hr2' : (row.length : Int) < 2 := by omega
        clear hTr
        go_wp2_with (go_at_call 10; refine (stand_any HP.out HS.out).mono ?_; rintro e w1 ⟨l, rfl, hN⟩; obtain ⟨al, cl, rfl⟩ := owns_shape hN.1; rw [hsl])
        refine hQ _ _ _ _ _ _ _ _ _ _ _ _ _ _ _ _ _ _ _ _ _ _ _ _ _ _ _ _ _ _ _ _ _ _ _ _ _ _ _ _ _ _ _ ps _ w1 ?_ (by have := HK.out; omega)
        have hz := hN.2.1.size
        exact ⟨H.out.frm.trans hN.2.1 (fun _ s => s) (fun _ _ s => s.elim), ⟨O', tk1, _, HP.out.no hN.2.1, HS.out, HC.out, HO.out, fun k hk => Nat.lt_of_lt_of_le (HOl.out k hk) hz, HN.out⟩, by rw [HK.out]; exact hN.2.1.owns hown (fun _ _ s => s), H.out.new⟩
      · have hr3 : 2 ≤ row.length := by omega
        have hr2' : ¬ (row.length : Int) < 2 := by omega
        have hcase : ∃ j : Nat, j < row.length ∧ ((∃ x ad, tao = some ad ∧ k < tz.length ∧ wr.cell? (ad.add k) = some (.int .i64 x) ∧ (-9223372036854775808 ≤ x ∧ x ≤ 9223372036854775807) ∧ pickF x row.length = (j : Int)) ∨ (¬ k < tz.length ∧ j = 0)) := by
          by_cases hkt : k < tz.length
          · obtain ⟨x, hx⟩ : ∃ x, tz[k]? = some x := ⟨_, List.getElem?_eq_getElem hkt⟩
            have hxr := hT.rng x (List.mem_of_getElem? hx)
            obtain ⟨ad, e, hcx⟩ := hTr.cell k x hx
            have h0 := pickF_nonneg x row.length (by omega)
            have h1 := pickF_lt x row.length (by omega)
            exact ⟨(pickF x row.length).toNat, by omega, .inl ⟨x, ad, e, hkt, hcx, hxr, by omega⟩⟩
          · exact ⟨0, by omega, .inr ⟨hkt, rfl⟩⟩
        obtain ⟨j, hj, hcase⟩ := hcase
        have hj0 : (0 : Int) ≤ (j : Int) := by omega
        have hj1 : (j : Int) < (row.length : Int) := by omega
        obtain ⟨p, hpj, hpm⟩ := srt_at hj
        obtain ⟨tk2, rows2, hTk⟩ := take_ex HS.out hpm hr3
        have HT : Hid (Tak tk1 (front ++ [row]) p tk2 rows2) := hTk
        have HPJ : Hid ((srt row)[j]? = some p) := hpj
        clear hTk hpj hTr hT hTO
        rcases hcase with ⟨x, ad, rfl, hkt, hcx, hxr, hpk⟩ | ⟨hkt, rfl⟩
        · have HX : Hid (pickF x row.length = (j : Int)) := hpk
          have hbl : (ad.add k).block < wr.heap.size := World.block_lt_of_cell? _ _ hcx
          clear hpk
          go_wp2_with (first
            | (go_at_call 10; refine (stand_any HP.out HS.out).mono ?_; rintro e w1 ⟨l, rfl, hN⟩; obtain ⟨al, cl, rfl, hRl, _⟩ := owns_rd hN.1; obtain ⟨lb, rfl, hcl⟩ := hRl j p HPJ.out; have hadd := add0 lb j; have hlb : wr.heap.size ≤ lb := hN.2.2 lb rfl; have hlb2 := World.block_lt_of_cell? _ _ hcl; rw [hsl]; have hcx1 : w1.cell? (ad.add k) = some (.int .i64 x) := (World.cell?_of_block (hN.2.1.block _ hbl (fun s => s))).trans hcx)
            | (go_at_call 8; with_reducible refine (pick_any x row.length _ hxr.1 hxr.2 (by omega) (by omega)).mono ?_; rintro e w' ⟨rfl, hw⟩; obtain rfl := hw.symm; rw [HX.out])
            | (go_at_call 13; refine (take_any (HP.out.no hN.2.1) HS.out HT.out).mono ?_; rintro e' w2 ⟨rfl, hF2, hP2⟩; have hcl2 : w2.cell? ⟨lb, j, none⟩ = some (.int .i64 p) := (World.cell?_of_block (hF2.block lb hlb2 (fun s => absurd (HOl.out lb s) (Nat.not_lt.2 hlb)))).trans hcl; have hown2 : w2.ownsRow 0 3 1 (.slice oa k oc) k (ps.map (Value.int .i64)) := hF2.owns (hN.2.1.owns hown (fun _ _ s => s)) HN.out)
            | (at_builtin; refine wpList_app _ rfl (.tmp 86) (.tmp 91) 22 rfl 3 (.int .i64 0) 1 8 Try.underlying22 Try.info3 rfl (by decide) (.slice oa k oc) k (ps.map (Value.int .i64)) rfl (by exact hown2.alloc _) _ 1 1 [.int .i64 p] rfl (by exact src_list _ _ [_] (by simp [Value.oneCell'])) (by simp) (by simp only [maxLen]; omega) (by omega) ?_; intro out' w3 hA))
          go_roundw
          case rel => exact ⟨ps ++ [p], by have := HK.out; simp; omega, by have := HK.out; simp [this], H.out.step HS.out HC.out HO.out HN.out HT.out hN.2.1 hF2 hP2 (by rw [HK.out]; exact hA)⟩
          case measure => simp [intOf]; omega
        · go_wp2_with (first
            | (go_at_call 10; refine (stand_any HP.out HS.out).mono ?_; rintro e w1 ⟨l, rfl, hN⟩; obtain ⟨al, cl, rfl, hRl, _⟩ := owns_rd hN.1; obtain ⟨lb, rfl, hcl⟩ := hRl 0 p HPJ.out; have hadd := add0 lb 0; have hlb : wr.heap.size ≤ lb := hN.2.2 lb rfl; have hlb2 := World.block_lt_of_cell? _ _ hcl; rw [hsl])
            | (go_at_call 13; refine (take_any (HP.out.no hN.2.1) HS.out HT.out).mono ?_; rintro e' w2 ⟨rfl, hF2, hP2⟩; have hcl2 : w2.cell? ⟨lb, 0, none⟩ = some (.int .i64 p) := (World.cell?_of_block (hF2.block lb hlb2 (fun s => absurd (HOl.out lb s) (Nat.not_lt.2 hlb)))).trans hcl; have hown2 : w2.ownsRow 0 3 1 (.slice oa k oc) k (ps.map (Value.int .i64)) := hF2.owns (hN.2.1.owns hown (fun _ _ s => s)) HN.out)
            | (at_builtin; refine wpList_app _ rfl (.tmp 86) (.tmp 91) 22 rfl 3 (.int .i64 0) 1 8 Try.underlying22 Try.info3 rfl (by decide) (.slice oa k oc) k (ps.map (Value.int .i64)) rfl (by exact hown2.alloc _) _ 1 1 [.int .i64 p] rfl (by exact src_list _ _ [_] (by simp [Value.oneCell'])) (by simp) (by simp only [maxLen]; omega) (by omega) ?_; intro out' w3 hA))
          go_roundw
          case rel => exact ⟨ps ++ [p], by have := HK.out; simp; omega, by have := HK.out; simp [this], H.out.step HS.out HC.out HO.out HN.out HT.out hN.2.1 hF2 hP2 (by rw [HK.out]; exact hA)⟩
          case measure => simp [intOf]; omega
    · go_wp2
      refine hQ _ _ _ _ _ _ _ _ _ _ _ _ _ _ _ _ _ _ _ _ _ _ _ _ _ _ _ _ _ _ _ _ _ _ _ _ _ _ _ _ _ _ _ ps _ _ H.out (by have := HK.out; omega)
end Go.Proofs.Ytpioacgknamemaa
set_option linter.unusedSectionVars false
namespace Go.Proofs.Ytpioacgknamemaa
open Go Go.RowKit Go.Conc Go.ConcN

/-- Where the loop that gives stands. -/
structure Lq5 (O : Nat → Prop) (ws wr : World) (g : Nat) (m : Int) (tk0 : List Int) (rows0 : List (List Int)) (qs : List Int) : Prop where
  frm : Frm O ws wr
  ex : ∃ O' tk rows, PoolS wr g O' tk rows m ∧ Chain tk0 rows0 qs tk rows ∧ (∀ k, O' k → Ext O ws k)

theorem Lq5.step {O O' : Nat → Prop} {ws wr w2 : World} {g : Nat} {m : Int} {tk0 tk : List Int} {rows0 rows : List (List Int)} {qs qs' : List Int} (h : Lq5 O ws wr g m tk0 rows0 qs') (hO : ∀ k, O' k → Ext O ws k) (hF : Frm O' wr w2) (hP : PoolS w2 g (Ext O' wr) tk rows m) (hC : Chain tk0 rows0 qs tk rows) : Lq5 O ws w2 g m tk0 rows0 qs := by
  have hz := h.frm.size
  refine ⟨h.frm.trans hF (fun _ s => s) (fun k hk s => (hO k s).elim id (fun q => by omega)), _, tk, rows, hP, hC, fun k hk => ?_⟩
  rcases hk with q | q
  · exact hO k q
  · exact .inr (by omega)

set_option maxRecDepth 100000 in
set_option maxHeartbeats 2000000 in
theorem unw_loop2 {cd : Code} (hcd : cd = K59) {Q : Exit → Act → World → Prop} (ws : World) {O : Nat → Prop} {g oc : Nat} {oa : Option Addr} {m : Int} {tk0 ps : List Int} {rows0 : List (List Int)} (h : Lq5 O ws ws g m tk0 rows0 ps) (hown : ws.ownsRow 0 3 1 (.slice oa ps.length oc) ps.length (ps.map (Value.int .i64))) (hno : ∀ b, (Value.slice oa ps.length oc).ownBlock = some b → ¬ O b) (hpl : ps.length * 8 ≤ 140737488355328) {x0 x1 x2 x3 x4 x5 x6 x7 x8 x10 x11 x12 x13 x15 x16 x17 x18 x19 x20 x21 x22 x23 x24 x25 x26 x27 x28 x29 x30 x31 x32 x33 x34 x35 x36 x37 x38 x39 x40 x41 x42 x43 x44 x45 x46 x47 x48 x49 x50 x51 x52 x53 x54 x55 x56 x57 x58 x59 x60 x61 x62 x63 x64 x65 x66 x67 x68 x69 x70 x71 x72 x73 x74 x75 x76 x77 x78 x79 x80 x81 x82 x83 x84 x85 x86 x87 x88 x89 x90 x91 x92 x93 x94 x95 x96 x97 x98 x99 x100 x101 x102 x103 x104 x105 x106 x107 x108 x109 x110 x111 x112 x113 x114 x115 x116 x117 x118 x119 x120 x121 x122 x123 x124 x125 x126 x127 x128 x129 x130 x131 x132 x133 x134 x135 x136 x137 x138 x139 x140 x141 x142 x143 x144 x145 x146 x147 x148 x149 x150 x151 x152 x153 x154 x155 x156 x157 x158 x159 x160 x161 x162 x163 x164 x165 x166 x167 x168 : Value}
    (hQ : ∀ x8 x19 x20 x21 x93 x94 x95 x96 x97 x98 x99 x100 x101 x102 x103 x104 x105 x106 x107 x108 x109 x110 x111 x112 x113 x114 w', Lq5 O ws w' g m tk0 rows0 [] → Q .normal ⟨#[x0, x1, x2, x3, x4, x5, x6, x7, x8, .pointer (some ⟨g, 0, none⟩), x10, x11, x12, x13, .slice oa ps.length oc, x15, x16, x17, x18, x19, x20, x21, x22, x23, x24, x25, x26, x27, x28, x29, x30, x31, x32, x33, x34, x35, x36, x37, x38, x39, x40, x41, x42, x43, x44, x45, x46, x47, x48, x49, x50, x51, x52, x53, x54, x55, x56, x57, x58, x59, x60, x61, x62, x63, x64, x65, x66, x67, x68, x69, x70, x71, x72, x73, x74, x75, x76, x77, x78, x79, x80, x81, x82, x83, x84, x85, x86, x87, x88, x89, x90, x91, x92, x93, x94, x95, x96, x97, x98, x99, x100, x101, x102, x103, x104, x105, x106, x107, x108, x109, x110, x111, x112, x113, x114, x115, x116, x117, x118, x119, x120, x121, x122, x123, x124, x125, x126, x127, x128, x129, x130, x131, x132, x133, x134, x135, x136, x137, x138, x139, x140, x141, x142, x143, x144, x145, x146, x147, x148, x149, x150, x151, x152, x153, x154, x155, x156, x157, x158, x159, x160, x161, x162, x163, x164, x165, x166, x167, x168], []⟩ w') :
    cd.wp Try.prog Q ⟨#[x0, x1, x2, x3, x4, x5, x6, x7, x8, .pointer (some ⟨g, 0, none⟩), x10, x11, x12, x13, .slice oa ps.length oc, x15, x16, x17, x18, x19, x20, x21, x22, x23, x24, x25, x26, x27, x28, x29, x30, x31, x32, x33, x34, x35, x36, x37, x38, x39, x40, x41, x42, x43, x44, x45, x46, x47, x48, x49, x50, x51, x52, x53, x54, x55, x56, x57, x58, x59, x60, x61, x62, x63, x64, x65, x66, x67, x68, x69, x70, x71, x72, x73, x74, x75, x76, x77, x78, x79, x80, x81, x82, x83, x84, x85, x86, x87, x88, x89, x90, x91, x92, x93, x94, x95, x96, x97, x98, x99, x100, x101, x102, x103, x104, x105, x106, x107, x108, x109, x110, x111, x112, x113, x114, x115, x116, x117, x118, x119, x120, x121, x122, x123, x124, x125, x126, x127, x128, x129, x130, x131, x132, x133, x134, x135, x136, x137, x138, x139, x140, x141, x142, x143, x144, x145, x146, x147, x148, x149, x150, x151, x152, x153, x154, x155, x156, x157, x158, x159, x160, x161, x162, x163, x164, x165, x166, x167, x168], []⟩ ws := by
  subst hcd
  simp only [K59, headC, tailC, body5, Try.f5, Option.getD_some]
  go_wp2
  go_loopw [19] (fun i wr => ∃ (k : Nat) (z : Int), k ≤ ps.length ∧ z = (k : Int) - 1 ∧ i = .int .i64 z ∧ Hid (Lq5 O ws wr g m tk0 rows0 (ps.take k))) (fun i _ => (intOf i + 1).toNat)
  case atStart => exact ⟨ps.length, _, Nat.le_refl _, rfl, by go_num, by rw [List.take_length]; exact h⟩
  case round =>
    obtain ⟨k, z, hk, hz, rfl, H⟩ := hrel
    cases k with
    | zero =>
      have hzn : ¬ (0 : Int) ≤ z := by omega
      have hzn' : z < 0 := by omega
      have H0 : Hid (Lq5 O ws wr g m tk0 rows0 []) := by have := H.out; rw [List.take_zero] at this; exact this
      clear H
      go_wp2
      exact H0.out
    | succ k =>
      obtain rfl : z = (k : Int) := by omega
      clear hz
      obtain ⟨p, hp⟩ : ∃ p, ps[k]? = some p := ⟨ps[k], List.getElem?_eq_getElem (by omega)⟩
      obtain ⟨O', tk1, rows1, hP, hC, hO⟩ := H.out.ex
      rw [List.take_add_one, hp] at hC
      obtain ⟨tk2, rows2, hC2, hS2, hT2⟩ := hC.last
      have hG := hT2.back hS2
      have HG : Hid (Giv tk1 rows1 p 0 tk2 rows2) := hG
      have HP : Hid (PoolS wr g O' tk1 rows1 m) := hP
      have HC : Hid (Chain tk0 rows0 (ps.take k) tk2 rows2) := hC2
      have HO : Hid (∀ k, O' k → Ext O ws k) := hO
      have hor := H.out.frm.owns hown hno
      obtain ⟨oa', oc', e, hRd, -⟩ := owns_rd hown
      cases e
      obtain ⟨ob, rfl, -⟩ := hRd k p hp
      have hob : ob < ws.heap.size := owns_lt hown rfl
      have hco : wr.cell? ⟨ob, k, none⟩ = some (.int .i64 p) := by rw [hor.cellAt k (by omega), List.getElem?_map, hp]; rfl
      have hnob : ¬ O ob := hno ob rfl
      have hobr : ob < wr.heap.size := World.block_lt_of_cell? _ _ hco
      have hadd := add0 ob k
      have hpp : (p != p) = false := by simp
      have hkl : (k : Int) < (ps.length : Int) := by omega
      have hk0 : (0 : Int) ≤ (k : Int) := by omega
      clear hP hC hO hC2 hS2 hT2 hG hor hRd hp hno
      go_wp2_with (go_at_call 11; refine (give_any HP.out HG.out).mono ?_; rintro e' w2 ⟨rfl, hF2, hP2⟩; have hco2 : w2.cell? ⟨ob, k, none⟩ = some (.int .i64 p) := (World.cell?_of_block (hF2.block ob hobr (fun s => (HO.out ob s).elim hnob (fun q => absurd q (Nat.not_le.2 hob))))).trans hco)
      go_roundw
      case rel => exact ⟨k, _, by omega, rfl, by go_num, H.out.step HO.out hF2 hP2 HC.out⟩
      case measure => simp [intOf]

set_option maxRecDepth 100000 in
set_option maxHeartbeats 2000000 in
theorem unw_rest {cd : Code} (hcd : cd = Z5) {Q : Exit → Act → World → Prop} (ws : World) {bx cx ba ca bz cz bb cb R L : Nat} {X A : Nat → Int} (hR : R ≤ 64) (hL : L * 8 ≤ 140737488355328)
    (hx : ∀ k, k < R → ws.cell? ⟨bx, k, none⟩ = some (.int .i64 (X k))) (hz : ∀ k, k < R → ws.cell? ⟨bz, k, none⟩ = some (.int .i64 (X k))) (ha : ∀ k, k < L → ws.cell? ⟨ba, k, none⟩ = some (.int .i64 (A k))) (hb : ∀ k, k < L → ws.cell? ⟨bb, k, none⟩ = some (.int .i64 (A k))) {x0 x1 x2 x3 x4 x5 x6 x7 x8 x9 x10 x13 x14 x15 x16 x17 x18 x19 x20 x21 x25 x26 x27 x28 x29 x30 x31 x32 x33 x34 x35 x36 x37 x38 x39 x40 x41 x42 x43 x44 x45 x46 x47 x48 x49 x50 x51 x52 x53 x54 x55 x56 x57 x58 x59 x60 x61 x62 x63 x64 x65 x66 x67 x68 x69 x70 x71 x72 x73 x74 x75 x76 x77 x78 x79 x80 x81 x82 x83 x84 x85 x86 x87 x88 x89 x90 x91 x92 x93 x94 x95 x96 x97 x98 x99 x100 x101 x102 x103 x104 x105 x106 x107 x108 x109 x110 x111 x112 x113 x114 x115 x116 x117 x118 x119 x120 x121 x122 x123 x124 x125 x126 x127 x128 x129 x130 x131 x132 x133 x134 x135 x136 x137 x138 x139 x140 x141 x142 x143 x144 x145 x146 x147 x148 x149 x150 x151 x152 x153 x154 x155 x156 x157 x158 x159 x160 x161 x162 x163 x164 x165 x166 x167 x168 : Value}
    (hQ : ∀ w' T', Frm NoB ws w' → T'.getD 8 undef = .bool true → Q .ret ⟨T', []⟩ w') :
    cd.wp Try.prog Q ⟨#[x0, x1, x2, x3, x4, x5, x6, x7, x8, x9, x10, .slice (some ⟨bx, 0, none⟩) R cx, .slice (some ⟨ba, 0, none⟩) L ca, x13, x14, x15, x16, x17, x18, x19, x20, x21, .slice (some ⟨bz, 0, none⟩) R cz, .slice (some ⟨bb, 0, none⟩) L cb, .bool true, x25, x26, x27, x28, x29, x30, x31, x32, x33, x34, x35, x36, x37, x38, x39, x40, x41, x42, x43, x44, x45, x46, x47, x48, x49, x50, x51, x52, x53, x54, x55, x56, x57, x58, x59, x60, x61, x62, x63, x64, x65, x66, x67, x68, x69, x70, x71, x72, x73, x74, x75, x76, x77, x78, x79, x80, x81, x82, x83, x84, x85, x86, x87, x88, x89, x90, x91, x92, x93, x94, x95, x96, x97, x98, x99, x100, x101, x102, x103, x104, x105, x106, x107, x108, x109, x110, x111, x112, x113, x114, x115, x116, x117, x118, x119, x120, x121, x122, x123, x124, x125, x126, x127, x128, x129, x130, x131, x132, x133, x134, x135, x136, x137, x138, x139, x140, x141, x142, x143, x144, x145, x146, x147, x148, x149, x150, x151, x152, x153, x154, x155, x156, x157, x158, x159, x160, x161, x162, x163, x164, x165, x166, x167, x168], []⟩ ws := by
  have HX : Hid (∀ k, k < R → ws.cell? ⟨bx, k, none⟩ = some (.int .i64 (X k))) := hx
  have HZ : Hid (∀ k, k < R → ws.cell? ⟨bz, k, none⟩ = some (.int .i64 (X k))) := hz
  have HA : Hid (∀ k, k < L → ws.cell? ⟨ba, k, none⟩ = some (.int .i64 (A k))) := ha
  have HB : Hid (∀ k, k < L → ws.cell? ⟨bb, k, none⟩ = some (.int .i64 (A k))) := hb
  clear hx hz ha hb
  subst hcd
  simp only [Z5, tailC, body5, Try.f5, Option.getD_some]
  go_wp2
  go_loopw [25] (fun i wr => ∃ k : Nat, k ≤ R ∧ i = .int .i64 k ∧ Hid (Same ws wr)) (fun i _ => R - (intOf i).toNat)
  case atStart => exact ⟨0, Nat.zero_le _, rfl, ⟨0, rfl⟩⟩
  case round =>
    obtain ⟨k, hk, rfl, H⟩ := hrel
    by_cases hlt : k < R
    · obtain ⟨y, hy⟩ : ∃ y, X k = y := ⟨_, rfl⟩
      have cx' : wr.cell? ⟨bx, k, none⟩ = some (.int .i64 y) := by rw [H.out.cell, ← hy]; exact HX.out k hlt
      have cz' : wr.cell? ⟨bz, k, none⟩ = some (.int .i64 y) := by rw [H.out.cell, ← hy]; exact HZ.out k hlt
      have ax := add0 bx k
      have az := add0 bz k
      have hyy : (y != y) = false := by simp
      go_wp2
      go_quiet (fail)
      go_wp2
      go_roundw
      case rel => exact ⟨k + 1, by omega, by go_num, H.out.drewN _⟩
      case measure => simp [intOf]; omega
    · go_wp2
      go_loopw [26] (fun i wr => ∃ k : Nat, k ≤ L ∧ i = .int .i64 k ∧ Hid (Same ws wr)) (fun i _ => L - (intOf i).toNat)
      case atStart => exact ⟨0, Nat.zero_le _, rfl, H⟩
      case round =>
        clear H
        obtain ⟨k, hk, rfl, H⟩ := hrel
        by_cases hlt : k < L
        · obtain ⟨y, hy⟩ : ∃ y, A k = y := ⟨_, rfl⟩
          have ca' : wr.cell? ⟨ba, k, none⟩ = some (.int .i64 y) := by rw [H.out.cell, ← hy]; exact HA.out k hlt
          have cb' : wr.cell? ⟨bb, k, none⟩ = some (.int .i64 y) := by rw [H.out.cell, ← hy]; exact HB.out k hlt
          have aa := add0 ba k
          have ab := add0 bb k
          have hyy : (y != y) = false := by simp
          go_wp2
          go_quiet (fail)
          go_wp2
          go_roundw
          case rel => exact ⟨k + 1, by omega, by go_num, H.out.drewN _⟩
          case measure => simp [intOf]; omega
        · go_wp2
          refine hQ _ _ ?_ rfl
          obtain ⟨q, hq⟩ := H.out
          rw [hq]
          exact (Frm.refl _ _).drewN q
end Go.Proofs.Ytpioacgknamemaa
