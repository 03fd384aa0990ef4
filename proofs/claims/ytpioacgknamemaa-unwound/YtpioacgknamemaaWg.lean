/- The walks through sync.WaitGroup's Add(+1) and Wait, to their stops, whatever follows: by the library's words. -/
import Derived.Test.YtpioacgknamemaaWgQ
namespace Go.Proofs.Ytpioacgknamemaa
open Go Go.RowKit Go.Conc Go.ConcN Go.ConcN.Gen Go.Conc.Lib Go.ConcR.Gen
open Go.ConcR (KK wgBlock WgAt stA smA rd wr mk Payload Aside2 DC0)

section
variable {L : WgLink} {Wg C Low : Nat} {F : World → Prop} {b₀ : Frame} {a₀ : Act} {ops₀ : Array Oper} {i₀ : Nat} {rest₀ : List Nat} {k₀ : List Item} {cs : List Frame}

set_option maxRecDepth 100000 in
set_option maxHeartbeats 8000000 in
theorem addPos {P : Program} (H : WgLib P L) (hF2 : ∀ w w', Aside2 C Wg w w' → F w → F w') (w : World) (hF : F w ∧ WgLive L.tWg Wg w) :
    GD P L.tWg Wg C Low (QPd P L.tWg Wg C Low (Back F L.tWg Wg b₀ a₀ ops₀ i₀ rest₀ k₀ cs))
      (G ((base L.add).at ⟨#[.pointer (some ⟨Wg, 0, none⟩), .int .i64 1, undef, undef, undef, undef, undef, undef, undef, undef, undef, undef, undef, undef, undef, undef, undef, undef, undef, undef, undef, undef, undef, undef, undef, undef, undef, undef, undef, undef, undef, undef, undef, undef, undef, undef, undef, undef, undef, undef, undef, undef, undef, undef, undef, undef, undef, undef, undef, undef, undef, undef, undef, undef, undef, undef, undef, undef, undef, undef, undef, undef, undef, undef, undef, undef, undef, undef, undef, undef, undef, undef, undef, undef, undef, undef, undef, undef, undef, undef, undef, undef, undef, undef, undef, undef, undef, undef, undef, undef, undef, undef, undef, undef, undef, undef, undef, undef, undef, undef, undef, undef, undef, undef, undef, undef, undef, undef, undef, undef, undef, undef, undef, undef, undef, undef, undef], []⟩ [.code (body_add L)]) (b₀.at a₀ (.inRegion ops₀ (i₀ :: rest₀) :: k₀) :: cs)) w := by
  lib_facts
  simp only [body_add, addFn, Option.getD_some]
  refine ⟨30, ?_⟩
  u_c stepG_seq (fl_rely hF2) hF
  u_cond true (fl_rely hF2) hF
  u_c stepG_seq (fl_rely hF2) hF
  u_c stepG_seq (fl_rely hF2) hF
  u_reg (fl_rely hF2) hF
  u_op (fl_rely hF2) hF
  u_op (fl_rely hF2) hF
  u_c stepG_region_end (fl_rely hF2) hF
  u_cond false (fl_rely hF2) hF
  u_c stepG_skip (fl_rely hF2) hF
  u_c stepG_seq (fl_rely hF2) hF
  u_reg (fl_rely hF2) hF
  refine Goes.stop (fun w1 h1 => ?_)
  replace hF := fl_rely hF2 hF h1
  clear h1
  refine ⟨rfl, _, stepG_mark0 .disable (by simp) rfl rfl (by k_ne) rfl H.f_disable (x_disable_n L) (x_disable_b L) (x_disable_x L) (x_disable_f L), 60, ?_⟩
  walk_nrm
  u_c stepG_region_end (fl_rely hF2) hF
  u_reg (fl_rely hF2) hF
  u_defer (fl_rely hF2) hF
  u_c stepG_region_end (fl_rely hF2) hF
  u_c stepG_seq (fl_rely hF2) hF
  u_reg (fl_rely hF2) hF
  u_op (fl_rely hF2) hF
  u_c stepG_region_end (fl_rely hF2) hF
  u_c stepG_seq (fl_rely hF2) hF
  u_c stepG_seq (fl_rely hF2) hF
  u_reg (fl_rely hF2) hF
  u_bub (fl_rely hF2) hF
  u_c stepG_region_end (fl_rely hF2) hF
  u_cond false (fl_rely hF2) hF
  u_c stepG_skip (fl_rely hF2) hF
  u_c stepG_seq (fl_rely hF2) hF
  u_reg (fl_rely hF2) hF
  u_op (fl_rely hF2) hF
  u_op (fl_rely hF2) hF
  u_op (fl_rely hF2) hF
  u_op (fl_rely hF2) hF
  u_op (fl_rely hF2) hF
  u_op (fl_rely hF2) hF
  u_call H.f_uAdd (nm_uAdd L) uAddFn (fl_rely hF2) hF
  u_c stepG_seq (fl_rely hF2) hF
  u_reg (fl_rely hF2) hF
  u_op (fl_rely hF2) hF
  u_c stepG_region_end (fl_rely hF2) hF
  u_c stepG_seq (fl_rely hF2) hF
  u_reg (fl_rely hF2) hF
  u_op (fl_rely hF2) hF
  u_op (fl_rely hF2) hF
  u_op (fl_rely hF2) hF
  u_op (fl_rely hF2) hF
  refine Goes.stop (fun w2 h2 => ?_)
  replace hF := fl_rely hF2 hF h2
  clear h2
  refine ⟨rfl, fun v hv hw => ?_⟩
  rcases Nat.eq_zero_or_pos v with rfl | hvp
  · replace hw : WgAt L.tWg Wg w2 0 0 := by simpa using hw
    have z : (((0 : Nat) : Int) + 1) * KK = KK := by simp
    rw [z]
    have e0 : IntKind.u64.wrap (0 + 4294967296) = KK := by decide
    refine ⟨_, (stepG_add_atomic rfl rfl (by k_ne) rfl H.f_addU64 (x_addU64_n L) (x_addU64_b L) (x_addU64_x L) .u64 (x_addU64_f L) rfl rfl hw.cellSt (hw.thaw 0)).trans (by rw [e0]; rfl), 130, ?_⟩
    replace hF : F (w2.setCell (stA Wg) (.int .u64 KK)) ∧ WgLive L.tWg Wg (w2.setCell (stA Wg) (.int .u64 KK)) := ⟨hF2 _ _ (.of_Wg (aside_setCell w2 (stA Wg) _)) hF.1, ⟨_, _, hw.setSt _⟩⟩
    clear hw
    simp only [KK] at hF ⊢
    walk_nrm
    u_op (fl_rely hF2) hF
    u_c stepG_region_end (fl_rely hF2) hF
    u_c stepG_ret' (fl_rely hF2) hF
    u_leave1 H.f_uAdd (fl_rely hF2) hF
    u_op (fl_rely hF2) hF
    u_c stepG_region_end (fl_rely hF2) hF
    u_c stepG_seq (fl_rely hF2) hF
    u_c stepG_seq (fl_rely hF2) hF
    u_reg (fl_rely hF2) hF
    u_op (fl_rely hF2) hF
    u_op (fl_rely hF2) hF
    u_op (fl_rely hF2) hF
    u_op (fl_rely hF2) hF
    u_skip (fl_rely hF2) hF
    u_skip (fl_rely hF2) hF
    u_op (fl_rely hF2) hF
    u_c stepG_region_end (fl_rely hF2) hF
    u_cond false (fl_rely hF2) hF
    u_c stepG_skip (fl_rely hF2) hF
    u_c stepG_seq (fl_rely hF2) hF
    u_reg (fl_rely hF2) hF
    u_op (fl_rely hF2) hF
    u_op (fl_rely hF2) hF
    u_op (fl_rely hF2) hF
    u_op (fl_rely hF2) hF
    u_c stepG_region_end (fl_rely hF2) hF
    u_c stepG_seq (fl_rely hF2) hF
    u_reg (fl_rely hF2) hF
    u_op (fl_rely hF2) hF
    u_op (fl_rely hF2) hF
    u_op (fl_rely hF2) hF
    u_op (fl_rely hF2) hF
    u_c stepG_region_end (fl_rely hF2) hF
    u_c stepG_seq (fl_rely hF2) hF
    u_c stepG_seq (fl_rely hF2) hF
    u_reg (fl_rely hF2) hF
    u_op (fl_rely hF2) hF
    u_op (fl_rely hF2) hF
    u_op (fl_rely hF2) hF
    u_op (fl_rely hF2) hF
    u_op (fl_rely hF2) hF
    u_op (fl_rely hF2) hF
    u_op (fl_rely hF2) hF
    u_op (fl_rely hF2) hF
    u_op (fl_rely hF2) hF
    u_op (fl_rely hF2) hF
    u_c stepG_region_end (fl_rely hF2) hF
    u_cond true (fl_rely hF2) hF
    u_reg (fl_rely hF2) hF
    u_op (fl_rely hF2) hF
    u_op (fl_rely hF2) hF
    u_op (fl_rely hF2) hF
    u_conv H.underlying_tPU32 H.room_tU32 (WgLive.cell1 hF.2).choose_spec (fl_rely hF2) hF
    u_in (fl_rely hF2) hF
    rw [stepG_markAt .read (by simp) rfl rfl (by k_ne) rfl H.f_raceRead (x_raceRead_n L) (x_raceRead_b L) (x_raceRead_x L) (x_raceRead_f L) (ad := ⟨Wg, 1, none⟩) (by simp [Act.eval])]
    simp only [goes_go]
    refine ⟨⟨fun _ _ => rfl, fun e he => ?_⟩, ?_⟩
    · rw [Array.mem_singleton] at he
      subst he
      exact ev0_said_read _ rfl
    walk_nrm
    u_c stepG_region_end (fl_rely hF2) hF
    u_c stepG_seq (fl_rely hF2) hF
    u_c stepG_seq (fl_rely hF2) hF
    u_reg (fl_rely hF2) hF
    u_op (fl_rely hF2) hF
    u_op (fl_rely hF2) hF
    u_c stepG_region_end (fl_rely hF2) hF
    u_cond false (fl_rely hF2) hF
    u_c stepG_skip (fl_rely hF2) hF
    u_c stepG_seq (fl_rely hF2) hF
    u_c stepG_seq (fl_rely hF2) hF
    u_reg (fl_rely hF2) hF
    u_op (fl_rely hF2) hF
    u_op (fl_rely hF2) hF
    u_op (fl_rely hF2) hF
    u_skip (fl_rely hF2) hF
    u_skip (fl_rely hF2) hF
    u_op (fl_rely hF2) hF
    u_op (fl_rely hF2) hF
    u_skip (fl_rely hF2) hF
    u_skip (fl_rely hF2) hF
    u_skip (fl_rely hF2) hF
    u_skip (fl_rely hF2) hF
    u_op (fl_rely hF2) hF
    u_c stepG_region_end (fl_rely hF2) hF
    u_cond false (fl_rely hF2) hF
    u_c stepG_skip (fl_rely hF2) hF
    u_c stepG_seq (fl_rely hF2) hF
    u_c stepG_seq (fl_rely hF2) hF
    u_reg (fl_rely hF2) hF
    u_op (fl_rely hF2) hF
    u_op (fl_rely hF2) hF
    u_op (fl_rely hF2) hF
    u_skip (fl_rely hF2) hF
    u_skip (fl_rely hF2) hF
    u_op (fl_rely hF2) hF
    u_c stepG_region_end (fl_rely hF2) hF
    u_cond true (fl_rely hF2) hF
    u_c stepG_ret' (fl_rely hF2) hF
    refine Goes.stop (fun w3 h3 => ?_)
    replace hF := fl_rely hF2 hF h3
    clear h3
    refine ⟨rfl, _, stepG_unwind_entry (v := .tuple #[]) (evs := #[ConcR.mk .enable]) rfl H.f_enable (x_enable_n L) (x_enable_b L) (x_enable_x L) (x_enable_f L) (by simp [Extern.Race.none_]) (by simp [ConcR.mk]) (by simp [ConcR.mk]), 10, ?_⟩
    u_leave0 H.f_add (fl_rely hF2) hF
    exact Goes.stop fun w₁ h₁ => ⟨rfl, fl_rely hF2 hF h₁⟩
  · obtain ⟨V, hV⟩ : ∃ V : Int, V = (v : Int) + 1 := ⟨_, rfl⟩
    obtain ⟨S, hS⟩ : ∃ S : Int, S = V * KK := ⟨_, rfl⟩
    have eS : IntKind.u64.wrap ((v : Int) * KK + 4294967296) = S := by rw [IntKind.wrap_u64, hS, hV]; simp only [KK]; omega
    rw [← hV, ← hS]
    have a1 : S / 4294967296 = V := by rw [hS]; simp only [KK]; omega
    have b1 : bits .and .u64 S 2147483648 = 0 := by rw [hS, hV]; have := st_flag (v + 1) 0 (by omega) (by omega); simpa [KK] using this
    have b2 : bits .and .u64 S 2147483647 = 0 := by rw [hS, hV]; have := st_waiters (v + 1) 0 (by omega) (by omega); simpa [KK] using this
    have c1 : IntKind.i32.wrap V = V := by rw [IntKind.wrap_i32]; omega
    have hV1 : 1 < V := by omega
    have hV2 : V < 2147483648 := by omega
    have q1 : (V == 1) = false := by simp; omega
    have q2 : decide (V = 1) = false := decide_eq_false (by omega)
    have q3 : decide (V < 0) = false := decide_eq_false (by omega)
    have q4 : decide (0 < V) = true := decide_eq_true (by omega)
    have q5 : (V == 0) = false := by simp; omega
    have q6 : decide (V = 0) = false := decide_eq_false (by omega)
    refine ⟨_, (stepG_add_atomic rfl rfl (by k_ne) rfl H.f_addU64 (x_addU64_n L) (x_addU64_b L) (x_addU64_x L) .u64 (x_addU64_f L) rfl rfl hw.cellSt (hw.thaw 0)).trans (by rw [eS]; rfl), 130, ?_⟩
    replace hF : F (w2.setCell (stA Wg) (.int .u64 S)) ∧ WgLive L.tWg Wg (w2.setCell (stA Wg) (.int .u64 S)) := ⟨hF2 _ _ (.of_Wg (aside_setCell w2 (stA Wg) _)) hF.1, ⟨_, _, hw.setSt _⟩⟩
    clear hw hS hV eS
    walk_nrm
    u_op (fl_rely hF2) hF
    u_c stepG_region_end (fl_rely hF2) hF
    u_c stepG_ret' (fl_rely hF2) hF
    u_leave1 H.f_uAdd (fl_rely hF2) hF
    u_op (fl_rely hF2) hF
    u_c stepG_region_end (fl_rely hF2) hF
    u_c stepG_seq (fl_rely hF2) hF
    u_c stepG_seq (fl_rely hF2) hF
    u_reg (fl_rely hF2) hF
    u_op (fl_rely hF2) hF
    u_op (fl_rely hF2) hF
    u_op (fl_rely hF2) hF
    u_op (fl_rely hF2) hF
    u_skip (fl_rely hF2) hF
    u_skip (fl_rely hF2) hF
    u_op (fl_rely hF2) hF
    u_c stepG_region_end (fl_rely hF2) hF
    u_cond false (fl_rely hF2) hF
    u_c stepG_skip (fl_rely hF2) hF
    u_c stepG_seq (fl_rely hF2) hF
    u_reg (fl_rely hF2) hF
    u_op (fl_rely hF2) hF
    u_op (fl_rely hF2) hF
    u_op (fl_rely hF2) hF
    u_op (fl_rely hF2) hF
    u_c stepG_region_end (fl_rely hF2) hF
    u_c stepG_seq (fl_rely hF2) hF
    u_reg (fl_rely hF2) hF
    u_op (fl_rely hF2) hF
    u_op (fl_rely hF2) hF
    u_op (fl_rely hF2) hF
    u_op (fl_rely hF2) hF
    u_c stepG_region_end (fl_rely hF2) hF
    u_c stepG_seq (fl_rely hF2) hF
    u_c stepG_seq (fl_rely hF2) hF
    u_reg (fl_rely hF2) hF
    u_op (fl_rely hF2) hF
    u_op (fl_rely hF2) hF
    u_op (fl_rely hF2) hF
    u_op (fl_rely hF2) hF
    u_op (fl_rely hF2) hF
    u_op (fl_rely hF2) hF
    u_op (fl_rely hF2) hF
    u_op (fl_rely hF2) hF
    u_op (fl_rely hF2) hF
    u_op (fl_rely hF2) hF
    u_c stepG_region_end (fl_rely hF2) hF
    u_cond false (fl_rely hF2) hF
    u_c stepG_skip (fl_rely hF2) hF
    u_c stepG_seq (fl_rely hF2) hF
    u_c stepG_seq (fl_rely hF2) hF
    u_reg (fl_rely hF2) hF
    u_op (fl_rely hF2) hF
    u_op (fl_rely hF2) hF
    u_c stepG_region_end (fl_rely hF2) hF
    u_cond false (fl_rely hF2) hF
    u_c stepG_skip (fl_rely hF2) hF
    u_c stepG_seq (fl_rely hF2) hF
    u_c stepG_seq (fl_rely hF2) hF
    u_reg (fl_rely hF2) hF
    u_op (fl_rely hF2) hF
    u_op (fl_rely hF2) hF
    u_op (fl_rely hF2) hF
    u_skip (fl_rely hF2) hF
    u_skip (fl_rely hF2) hF
    u_op (fl_rely hF2) hF
    u_op (fl_rely hF2) hF
    u_skip (fl_rely hF2) hF
    u_skip (fl_rely hF2) hF
    u_skip (fl_rely hF2) hF
    u_skip (fl_rely hF2) hF
    u_op (fl_rely hF2) hF
    u_c stepG_region_end (fl_rely hF2) hF
    u_cond false (fl_rely hF2) hF
    u_c stepG_skip (fl_rely hF2) hF
    u_c stepG_seq (fl_rely hF2) hF
    u_c stepG_seq (fl_rely hF2) hF
    u_reg (fl_rely hF2) hF
    u_op (fl_rely hF2) hF
    u_op (fl_rely hF2) hF
    u_op (fl_rely hF2) hF
    u_skip (fl_rely hF2) hF
    u_skip (fl_rely hF2) hF
    u_op (fl_rely hF2) hF
    u_c stepG_region_end (fl_rely hF2) hF
    u_cond true (fl_rely hF2) hF
    u_c stepG_ret' (fl_rely hF2) hF
    refine Goes.stop (fun w3 h3 => ?_)
    replace hF := fl_rely hF2 hF h3
    clear h3
    refine ⟨rfl, _, stepG_unwind_entry (v := .tuple #[]) (evs := #[ConcR.mk .enable]) rfl H.f_enable (x_enable_n L) (x_enable_b L) (x_enable_x L) (x_enable_f L) (by simp [Extern.Race.none_]) (by simp [ConcR.mk]) (by simp [ConcR.mk]), 10, ?_⟩
    u_leave0 H.f_add (fl_rely hF2) hF
    exact Goes.stop fun w₁ h₁ => ⟨rfl, fl_rely hF2 hF h₁⟩

set_option maxRecDepth 100000 in
set_option maxHeartbeats 8000000 in
theorem waitRound {P : Program} (H : WgLib P L) (hF2 : ∀ w w', Aside2 C Wg w w' → F w → F w') (g : Goroutine) (w : World) (h : AnchWN L F Wg (b₀.at a₀ (.inRegion ops₀ (i₀ :: rest₀) :: k₀)) cs g w) :
    GD P L.tWg Wg C Low (QW1 P L.tWg Wg C Low (Joined P C F L.tWg Wg b₀ a₀ ops₀ i₀ rest₀ k₀ cs) (AnchWN L F Wg (b₀.at a₀ (.inRegion ops₀ (i₀ :: rest₀) :: k₀)) cs)) g w := by
  lib_facts
  obtain ⟨T, rfl, hT84, t0, hF⟩ := h
  obtain ⟨v0, v1, v2, v3, v4, v5, v6, v7, v8, v9, v10, v11, v12, v13, v14, v15, v16, v17, v18, v19, v20, v21, v22, v23, v24, v25, v26, v27, v28, v29, v30, v31, v32, v33, v34, v35, v36, v37, v38, v39, v40, v41, v42, v43, v44, v45, v46, v47, v48, v49, v50, v51, v52, v53, v54, v55, v56, v57, v58, v59, v60, v61, v62, v63, v64, v65, v66, v67, v68, v69, v70, v71, v72, v73, v74, v75, v76, v77, v78, v79, v80, v81, v82, v83, rfl⟩ := array84 T hT84
  simp only [List.getElem?_toArray, List.getElem?_cons_zero, Option.some.injEq] at t0
  subst t0
  refine ⟨60, ?_⟩
  simp only [L7, body_wait, waitFn, Option.getD_some]
  u_c stepG_block (fl_rely hF2) hF
  u_c stepG_seq (fl_rely hF2) hF
  u_reg (fl_rely hF2) hF
  u_op (fl_rely hF2) hF
  u_op (fl_rely hF2) hF
  u_op (fl_rely hF2) hF
  u_call H.f_uLoad (nm_uLoad L) uLoadFn (fl_rely hF2) hF
  u_c stepG_seq (fl_rely hF2) hF
  u_reg (fl_rely hF2) hF
  u_op (fl_rely hF2) hF
  u_c stepG_region_end (fl_rely hF2) hF
  u_c stepG_seq (fl_rely hF2) hF
  u_reg (fl_rely hF2) hF
  u_op (fl_rely hF2) hF
  u_op (fl_rely hF2) hF
  u_op (fl_rely hF2) hF
  refine Goes.stop (fun w1 h1 => ?_)
  replace hF := fl_rely hF2 hF h1
  clear h1
  refine ⟨rfl, fun v hv hw => ?_⟩
  rcases Nat.eq_zero_or_pos v with rfl | hvp
  · replace hw : WgAt L.tWg Wg w1 0 0 := by simpa using hw
    refine ⟨_, stepG_load_atomic (v := 0) rfl rfl (by k_ne) rfl H.f_loadU64 (x_loadU64_n L) (x_loadU64_b L) (x_loadU64_x L) .u64 (x_loadU64_f L) rfl hw.cellSt, fun _ => ⟨60, ?_⟩, fun h => absurd rfl h⟩
    clear hw
    walk_nrm
    u_op (fl_rely hF2) hF
    u_c stepG_region_end (fl_rely hF2) hF
    u_c stepG_ret' (fl_rely hF2) hF
    u_leave1 H.f_uLoad (fl_rely hF2) hF
    u_op (fl_rely hF2) hF
    u_c stepG_region_end (fl_rely hF2) hF
    u_c stepG_seq (fl_rely hF2) hF
    u_reg (fl_rely hF2) hF
    u_op (fl_rely hF2) hF
    u_op (fl_rely hF2) hF
    u_op (fl_rely hF2) hF
    u_op (fl_rely hF2) hF
    u_c stepG_region_end (fl_rely hF2) hF
    u_c stepG_seq (fl_rely hF2) hF
    u_reg (fl_rely hF2) hF
    u_op (fl_rely hF2) hF
    u_op (fl_rely hF2) hF
    u_op (fl_rely hF2) hF
    u_op (fl_rely hF2) hF
    u_c stepG_region_end (fl_rely hF2) hF
    u_c stepG_seq (fl_rely hF2) hF
    u_c stepG_seq (fl_rely hF2) hF
    u_reg (fl_rely hF2) hF
    u_op (fl_rely hF2) hF
    u_op (fl_rely hF2) hF
    u_c stepG_region_end (fl_rely hF2) hF
    u_cond true (fl_rely hF2) hF
    u_c stepG_seq (fl_rely hF2) hF
    u_cond true (fl_rely hF2) hF
    u_c stepG_seq (fl_rely hF2) hF
    u_reg (fl_rely hF2) hF
    refine Goes.stop (fun w5 h5 => ?_)
    replace hF := fl_rely hF2 hF h5
    clear h5
    refine ⟨rfl, _, stepG_mark0 .enable (by simp) rfl rfl (by k_ne) rfl H.f_enable (x_enable_n L) (x_enable_b L) (x_enable_x L) (x_enable_f L), 20, ?_⟩
    walk_nrm
    u_c stepG_region_end (fl_rely hF2) hF
    u_reg (fl_rely hF2) hF
    u_op (fl_rely hF2) hF
    u_conv H.underlying_tWgP H.room_tWg (WgLive.cell0 hF.2).choose_spec (fl_rely hF2) hF
    refine Goes.stop (fun w6 h6 => ?_)
    replace hF := fl_rely hF2 hF h6
    clear h6
    refine ⟨rfl, _, stepG_markAt .acquire (by simp) rfl rfl (by k_ne) rfl H.f_acquire (x_acquire_n L) (x_acquire_b L) (x_acquire_x L) (x_acquire_f L) (by simp [Act.eval, stA]), ⟨40, ?_⟩⟩
    walk_nrm
    u_c stepG_region_end (fl_rely hF2) hF
    u_c stepG_seq (fl_rely hF2) hF
    u_c stepG_seq (fl_rely hF2) hF
    u_reg (fl_rely hF2) hF
    u_op (fl_rely hF2) hF
    u_op (fl_rely hF2) hF
    u_op (fl_rely hF2) hF
    u_op (fl_rely hF2) hF
    u_op (fl_rely hF2) hF
    u_op (fl_rely hF2) hF
    u_op (fl_rely hF2) hF
    u_op (fl_rely hF2) hF
    u_skip (fl_rely hF2) hF
    u_skip (fl_rely hF2) hF
    u_op (fl_rely hF2) hF
    u_c stepG_region_end (fl_rely hF2) hF
    u_cond false (fl_rely hF2) hF
    u_c stepG_skip (fl_rely hF2) hF
    u_c stepG_ret' (fl_rely hF2) hF
    u_leave0 H.f_wait (fl_rely hF2) hF
    exact Goes.stop fun w₁ h₁ => ⟨rfl, fl_rely hF2 hF h₁⟩
  · obtain ⟨S, hS⟩ : ∃ S : Int, (v : Int) * KK = S := ⟨_, rfl⟩
    have a1 : S / 4294967296 = (v : Int) := by rw [← hS]; simp only [KK]; omega
    have b1 : bits .and .u64 S 2147483648 = 0 := by rw [← hS]; have := st_flag v 0 (by omega) (by omega); simpa [KK] using this
    have b2 : bits .and .u64 S 2147483647 = 0 := by rw [← hS]; have := st_waiters v 0 (by omega) (by omega); simpa [KK] using this
    have c1 : IntKind.i32.wrap (v : Int) = (v : Int) := by rw [IntKind.wrap_i32]; omega
    have w1e : IntKind.u64.wrap (S + 1) = S + 1 := by rw [IntKind.wrap_u64, ← hS]; simp only [KK]; omega
    have q3 : decide ((v : Int) < 0) = false := decide_eq_false (by omega)
    have q4 : decide (0 < (v : Int)) = true := decide_eq_true (by omega)
    have q5 : ((v : Int) == 0) = false := by simp; omega
    have q6 : decide ((v : Int) = 0) = false := decide_eq_false (by omega)
    rw [hS] at hw
    refine ⟨_, stepG_load_atomic (v := S) rfl rfl (by k_ne) rfl H.f_loadU64 (x_loadU64_n L) (x_loadU64_b L) (x_loadU64_x L) .u64 (x_loadU64_f L) rfl hw.cellSt, fun h0 => absurd h0 (by omega), fun _ => ⟨80, ?_⟩⟩
    clear hw
    walk_nrm
    u_op (fl_rely hF2) hF
    u_c stepG_region_end (fl_rely hF2) hF
    u_c stepG_ret' (fl_rely hF2) hF
    u_leave1 H.f_uLoad (fl_rely hF2) hF
    u_op (fl_rely hF2) hF
    u_c stepG_region_end (fl_rely hF2) hF
    u_c stepG_seq (fl_rely hF2) hF
    u_reg (fl_rely hF2) hF
    u_op (fl_rely hF2) hF
    u_op (fl_rely hF2) hF
    u_op (fl_rely hF2) hF
    u_op (fl_rely hF2) hF
    u_c stepG_region_end (fl_rely hF2) hF
    u_c stepG_seq (fl_rely hF2) hF
    u_reg (fl_rely hF2) hF
    u_op (fl_rely hF2) hF
    u_op (fl_rely hF2) hF
    u_op (fl_rely hF2) hF
    u_op (fl_rely hF2) hF
    u_c stepG_region_end (fl_rely hF2) hF
    u_c stepG_seq (fl_rely hF2) hF
    u_c stepG_seq (fl_rely hF2) hF
    u_reg (fl_rely hF2) hF
    u_op (fl_rely hF2) hF
    u_op (fl_rely hF2) hF
    u_c stepG_region_end (fl_rely hF2) hF
    u_cond false (fl_rely hF2) hF
    u_c stepG_skip (fl_rely hF2) hF
    u_c stepG_seq (fl_rely hF2) hF
    u_reg (fl_rely hF2) hF
    u_op (fl_rely hF2) hF
    u_op (fl_rely hF2) hF
    u_op (fl_rely hF2) hF
    u_op (fl_rely hF2) hF
    u_op (fl_rely hF2) hF
    u_op (fl_rely hF2) hF
    u_call H.f_uCas (nm_uCas L) uCasFn (fl_rely hF2) hF
    u_c stepG_seq (fl_rely hF2) hF
    u_reg (fl_rely hF2) hF
    u_op (fl_rely hF2) hF
    u_c stepG_region_end (fl_rely hF2) hF
    u_c stepG_seq (fl_rely hF2) hF
    u_reg (fl_rely hF2) hF
    u_op (fl_rely hF2) hF
    u_op (fl_rely hF2) hF
    u_op (fl_rely hF2) hF
    u_op (fl_rely hF2) hF
    u_op (fl_rely hF2) hF
    refine Goes.stop (fun w2 h2 => ?_)
    replace hF := fl_rely hF2 hF h2
    clear h2
    refine ⟨rfl, fun v' hv' hw => ⟨fun e => ?_, fun e => ?_⟩⟩
    · subst e
      rw [hS] at hw ⊢
      refine ⟨_, (stepG_cas_hit (v := S) (n := S + 1) rfl rfl (by k_ne) rfl H.f_casU64 (x_casU64_n L) (x_casU64_b L) (x_casU64_x L) .u64 (x_casU64_f L) rfl rfl rfl hw.cellSt (hw.thaw 0)).trans (by rfl), 90, ?_⟩
      replace hF : F (w2.setCell (stA Wg) (.int .u64 (S + 1))) ∧ WgLive L.tWg Wg (w2.setCell (stA Wg) (.int .u64 (S + 1))) := ⟨hF2 _ _ (.of_Wg (aside_setCell w2 (stA Wg) _)) hF.1, ⟨_, _, hw.setSt _⟩⟩
      clear hw
      walk_nrm
      u_op (fl_rely hF2) hF
      u_c stepG_region_end (fl_rely hF2) hF
      u_c stepG_ret' (fl_rely hF2) hF
      u_leave1 H.f_uCas (fl_rely hF2) hF
      u_c stepG_region_end (fl_rely hF2) hF
      u_cond true (fl_rely hF2) hF
      u_c stepG_seq (fl_rely hF2) hF
      u_c stepG_seq (fl_rely hF2) hF
      u_reg (fl_rely hF2) hF
      u_op (fl_rely hF2) hF
      u_op (fl_rely hF2) hF
      u_op (fl_rely hF2) hF
      u_op (fl_rely hF2) hF
      u_c stepG_region_end (fl_rely hF2) hF
      u_cond true (fl_rely hF2) hF
      u_reg (fl_rely hF2) hF
      u_op (fl_rely hF2) hF
      u_op (fl_rely hF2) hF
      u_op (fl_rely hF2) hF
      u_conv H.underlying_tPU32 H.room_tU32 (WgLive.cell1 hF.2).choose_spec (fl_rely hF2) hF
      u_wrn (fl_rely hF2) hF
      walk_nrm
      u_c stepG_region_end (fl_rely hF2) hF
      u_c stepG_seq (fl_rely hF2) hF
      u_reg (fl_rely hF2) hF
      u_op (fl_rely hF2) hF
      u_c stepG_region_end (fl_rely hF2) hF
      u_c stepG_seq (fl_rely hF2) hF
      u_c stepG_seq (fl_rely hF2) hF
      u_reg (fl_rely hF2) hF
      u_op (fl_rely hF2) hF
      u_op (fl_rely hF2) hF
      u_op (fl_rely hF2) hF
      u_op (fl_rely hF2) hF
      u_skip (fl_rely hF2) hF
      u_op (fl_rely hF2) hF
      u_c stepG_region_end (fl_rely hF2) hF
      u_cond false (fl_rely hF2) hF
      u_c stepG_skip (fl_rely hF2) hF
      u_c stepG_seq (fl_rely hF2) hF
      u_reg (fl_rely hF2) hF
      u_op (fl_rely hF2) hF
      u_op (fl_rely hF2) hF
      u_op (fl_rely hF2) hF
      u_op (fl_rely hF2) hF
      refine Goes.stop (fun w3 h3 => ?_)
      replace hF := fl_rely hF2 hF h3
      clear h3
      refine ⟨rfl, rfl, fun ⟨st, hw⟩ => stepG_semacquire_wait rfl rfl rfl H.f_semacquire (x_semacquire_n L) (x_semacquire_b L) (x_semacquire_x L) (x_semacquire_f L) (by simp [Act.eval, smA]) hw.cellSm, fun hf => ?_⟩
      refine ⟨_, (stepG_semacquire (n := 1) rfl rfl (by k_ne) rfl H.f_semacquire (x_semacquire_n L) (x_semacquire_b L) (x_semacquire_x L) (x_semacquire_f L) (by simp [Act.eval, smA]) hf.cellSm (by k_ne) (hf.thaw 1)).trans (by rfl), 50, ?_⟩
      replace hF : F (w3.setCell (smA Wg) (.int .u32 0)) ∧ WgLive L.tWg Wg (w3.setCell (smA Wg) (.int .u32 0)) := ⟨hF2 _ _ (.of_Wg (aside_setCell w3 (smA Wg) _)) hF.1, ⟨_, _, hf.setSm 0⟩⟩
      clear hf
      walk_nrm
      u_c stepG_region_end (fl_rely hF2) hF
      u_c stepG_seq (fl_rely hF2) hF
      u_reg (fl_rely hF2) hF
      u_op (fl_rely hF2) hF
      u_op (fl_rely hF2) hF
      u_op (fl_rely hF2) hF
      u_call H.f_uLoad (nm_uLoad L) uLoadFn (fl_rely hF2) hF
      u_c stepG_seq (fl_rely hF2) hF
      u_reg (fl_rely hF2) hF
      u_op (fl_rely hF2) hF
      u_c stepG_region_end (fl_rely hF2) hF
      u_c stepG_seq (fl_rely hF2) hF
      u_reg (fl_rely hF2) hF
      u_op (fl_rely hF2) hF
      u_op (fl_rely hF2) hF
      u_op (fl_rely hF2) hF
      refine Goes.stop (fun w4 h4 => ?_)
      replace hF := fl_rely hF2 hF h4
      clear h4
      refine ⟨rfl, fun hw => ⟨_, stepG_load_atomic (v := 0) rfl rfl (by k_ne) rfl H.f_loadU64 (x_loadU64_n L) (x_loadU64_b L) (x_loadU64_x L) .u64 (x_loadU64_f L) rfl hw.cellSt, 50, ?_⟩⟩
      clear hw
      walk_nrm
      u_op (fl_rely hF2) hF
      u_c stepG_region_end (fl_rely hF2) hF
      u_c stepG_ret' (fl_rely hF2) hF
      u_leave1 H.f_uLoad (fl_rely hF2) hF
      u_op (fl_rely hF2) hF
      u_op (fl_rely hF2) hF
      u_c stepG_region_end (fl_rely hF2) hF
      u_c stepG_seq (fl_rely hF2) hF
      u_cond true (fl_rely hF2) hF
      u_c stepG_seq (fl_rely hF2) hF
      u_reg (fl_rely hF2) hF
      refine Goes.stop (fun w5 h5 => ?_)
      replace hF := fl_rely hF2 hF h5
      clear h5
      refine ⟨rfl, _, stepG_mark0 .enable (by simp) rfl rfl (by k_ne) rfl H.f_enable (x_enable_n L) (x_enable_b L) (x_enable_x L) (x_enable_f L), 20, ?_⟩
      walk_nrm
      u_c stepG_region_end (fl_rely hF2) hF
      u_reg (fl_rely hF2) hF
      u_op (fl_rely hF2) hF
      u_conv H.underlying_tWgP H.room_tWg (WgLive.cell0 hF.2).choose_spec (fl_rely hF2) hF
      refine Goes.stop (fun w6 h6 => ?_)
      replace hF := fl_rely hF2 hF h6
      clear h6
      refine ⟨rfl, _, stepG_markAt .acquire (by simp) rfl rfl (by k_ne) rfl H.f_acquire (x_acquire_n L) (x_acquire_b L) (x_acquire_x L) (x_acquire_f L) (by simp [Act.eval, stA]), ⟨40, ?_⟩⟩
      walk_nrm
      u_c stepG_region_end (fl_rely hF2) hF
      u_c stepG_seq (fl_rely hF2) hF
      u_c stepG_seq (fl_rely hF2) hF
      u_reg (fl_rely hF2) hF
      u_op (fl_rely hF2) hF
      u_c stepG_region_end (fl_rely hF2) hF
      u_cond false (fl_rely hF2) hF
      u_c stepG_skip (fl_rely hF2) hF
      u_c stepG_ret' (fl_rely hF2) hF
      u_leave0 H.f_wait (fl_rely hF2) hF
      exact Goes.stop fun w₁ h₁ => ⟨rfl, fl_rely hF2 hF h₁⟩
    · refine ⟨_, stepG_cas_miss (v := (v' : Int) * KK) (old := S) (n := S + 1) rfl rfl (by k_ne) rfl H.f_casU64 (x_casU64_n L) (x_casU64_b L) (x_casU64_x L) .u64 (x_casU64_f L) rfl rfl rfl hw.cellSt (hw.thaw 0) (by rw [← hS]; simp only [KK]; omega), 40, ?_⟩
      clear hw
      walk_nrm
      u_op (fl_rely hF2) hF
      u_c stepG_region_end (fl_rely hF2) hF
      u_c stepG_ret' (fl_rely hF2) hF
      u_leave1 H.f_uCas (fl_rely hF2) hF
      u_c stepG_region_end (fl_rely hF2) hF
      u_cond false (fl_rely hF2) hF
      u_c stepG_skip (fl_rely hF2) hF
      u_c stepG_inBlock (fl_rely hF2) hF
      u_c stepG_inLoop (fl_rely hF2) hF
      exact Goes.stop fun w₁ h₁ => ⟨_, rfl, by simp, by simp, fl_rely hF2 hF h₁⟩

end
end Go.Proofs.Ytpioacgknamemaa
