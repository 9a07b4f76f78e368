/-
  What the laws of this claim lean on: what functions of the program and of the model answer, one after another, and plain mathematics. No condition.
-/
import Derived.Test.YtfiaiephbemdoaaDoorMgD
import Derived.Test.YtfiaiephbemdoaaDoorMgE
import Derived.Conc.WgGenN3
import Derived.Conc.CompanyDraw
import Derived.Conc.CompanyCalls
import Derived.Test.YtfiaiephbemdoaaDoorChecked
import Derived.KernelRfl
import Derived.RowKit
import Derived.Calls
import Derived.Conc.Starve

set_option maxHeartbeats 800000
set_option linter.unusedVariables false
set_option linter.unusedSimpArgs false
set_option linter.unnecessarySimpa false
set_option maxRecDepth 100000

namespace Go.Proofs.YtfiaiephbemdoaaDoor

section
open Go.Conc Go.RowKit Go.Conc.Lib Go.ConcR.Gen Go.ConcN.Gen
open Go.ConcN (WgLive st_flag st_waiters)
open Go.ConcR (KK WgAt stA smA rd wr mk DC0)

theorem quits_more {P : Program} : ∀ {n m d : Nat} {g : Goroutine}, QuitsD P n d g → n ≤ m → QuitsD P m d g
  | 0, 0, _, _, h, _ => h
  | 0, m + 1, _, _, h, _ => .inl h
  | n + 1, 0, _, _, _, hm => absurd hm (by omega)
  | n + 1, m + 1, _, _, h, hm => h.imp id fun ⟨h1, g', es, h2, h3, h4⟩ => ⟨h1, g', es, h2, h3, quits_more h4 (by omega)⟩

theorem RW_rely {Φ : Ph} {k : Nat} {w w₁ : World} (h : WgLive Φ.ty Φ.Wg w) (r : RW Φ k w w₁) : WgLive Φ.ty Φ.Wg w₁ := r.live h

section
variable {Φ : Ph} {L : WgLink} {k : Nat} {b₀ : Frame} {a₀ : Act} {ops₀ : Array Oper} {i₀ : Nat} {rest₀ : List Nat} {k₀ : List Item} {cs : List Frame} {qt : Nat}

set_option maxRecDepth 100000 in
set_option maxHeartbeats 16000000 in
theorem sub_t (H : WgLib Φ.P L) (hty : Φ.ty = L.tWg)
    (hT : QuitsD Φ.P qt 0 (G (b₀.at (a₀.put ((ops₀[i₀]?).bind (·.dst)) (.tuple #[])) (.inRegion ops₀ rest₀ :: k₀)) cs)) (w : World) (hK : WgLive Φ.ty Φ.Wg w) :
    Goes Φ.P false (RW Φ k) DC0 (AtR0 Φ k) 40 (G ((base L.add).at ⟨#[.pointer (some ⟨Φ.Wg, 0, none⟩), .int .i64 (-1), undef, undef, undef, undef, undef, undef, undef, undef, undef, undef, undef, undef, undef, undef, undef, undef, undef, undef, undef, undef, undef, undef, undef, undef, undef, undef, undef, undef, undef, undef, undef, undef, undef, undef, undef, undef, undef, undef, undef, undef, undef, undef, undef, undef, undef, undef, undef, undef, undef, undef, undef, undef, undef, undef, undef, undef, undef, undef, undef, undef, undef, undef, undef, undef, undef, undef, undef, undef, undef, undef, undef, undef, undef, undef, undef, undef, undef, undef, undef, undef, undef, undef, undef, undef, undef, undef, undef, undef, undef, undef, undef, undef, undef, undef, undef, undef, undef, undef, undef, undef, undef, undef, undef, undef, undef, undef, undef, undef, undef, undef, undef, undef, undef, undef, undef], []⟩ [.code (body_add L)]) (b₀.at a₀ (.inRegion ops₀ (i₀ :: rest₀) :: k₀) :: cs)) w := by
  lib_facts
  simp only [body_add, addFn, Option.getD_some]
  iterate 11 (first
    | u_c stepG_seq RW_rely hK
    | u_c stepG_region_end RW_rely hK
    | u_c stepG_skip RW_rely hK
    | u_c stepG_block RW_rely hK
    | u_c stepG_loop RW_rely hK
    | u_c stepG_inLoop RW_rely hK
    | u_c stepG_inBlock RW_rely hK
    | u_c stepG_ret' RW_rely hK
    | u_reg RW_rely hK
    | (u_in RW_rely hK; rw [stepG_cond (t := true)]; rotate_left; (first | rfl); simp only [goes_go, if_true, if_false, Bool.false_eq_true, reduceIte]; refine ⟨by u_nil, ?_⟩)
    | (u_in RW_rely hK; rw [stepG_cond (t := false)]; rotate_left; (first | rfl); simp only [goes_go, if_true, if_false, Bool.false_eq_true, reduceIte]; refine ⟨by u_nil, ?_⟩)
    | u_skip RW_rely hK
    | u_defer RW_rely hK
    | u_bub RW_rely hK
    | u_op RW_rely hK
    | u_leave1 H.f_uAdd RW_rely hK
    | u_call H.f_uAdd (nm_uAdd L) uAddFn RW_rely hK)
  u_in RW_rely hK
  refine goes_oper_k rfl rfl (by k_ne) (fun Kx hKx => ?_)
  have hcv := run_convert_to_unsafe (P := Φ.P) H.underlying_tWgP H.underlying_tUP H.room_tWg (WgLive.cell0 (hty ▸ hK)).choose_spec
  have hce := fun es => events_convert_to_unsafe (P := Φ.P) H.underlying_tWgP H.underlying_tUP H.room_tWg (WgLive.cell0 (hty ▸ hK)).choose_spec es
  go_simp
  refine hKx _ _ ⟨?_, ?_⟩
  · u_none
    intro ex hex
    have hmx := mem_listed hex
    simp [go_sem, hce] at hmx
  clear hKx Kx hcv hce
  refine Goes.stop (fun w₁ h₁ => ?_)
  replace hK := RW_rely hK h₁
  clear h₁
  refine ⟨rfl, _, stepG_markAt .releaseMerge (by simp) rfl rfl (by k_ne) rfl H.f_relMerge (x_relMerge_n L) (x_relMerge_b L) (x_relMerge_x L) (x_relMerge_f L) (by simp [Act.eval, stA]), 10, ?_⟩
  walk_nrm
  iterate 3 (first
    | u_c stepG_seq RW_rely hK
    | u_c stepG_region_end RW_rely hK
    | u_c stepG_skip RW_rely hK
    | u_c stepG_block RW_rely hK
    | u_c stepG_loop RW_rely hK
    | u_c stepG_inLoop RW_rely hK
    | u_c stepG_inBlock RW_rely hK
    | u_c stepG_ret' RW_rely hK
    | u_reg RW_rely hK
    | (u_in RW_rely hK; rw [stepG_cond (t := true)]; rotate_left; (first | rfl); simp only [goes_go, if_true, if_false, Bool.false_eq_true, reduceIte]; refine ⟨by u_nil, ?_⟩)
    | (u_in RW_rely hK; rw [stepG_cond (t := false)]; rotate_left; (first | rfl); simp only [goes_go, if_true, if_false, Bool.false_eq_true, reduceIte]; refine ⟨by u_nil, ?_⟩)
    | u_skip RW_rely hK
    | u_defer RW_rely hK
    | u_bub RW_rely hK
    | u_op RW_rely hK
    | u_leave1 H.f_uAdd RW_rely hK
    | u_call H.f_uAdd (nm_uAdd L) uAddFn RW_rely hK)
  refine Goes.stop (fun w₁ h₁ => ?_)
  replace hK := RW_rely hK h₁
  clear h₁
  refine ⟨rfl, _, stepG_mark0 .disable (by simp) rfl rfl (by k_ne) rfl H.f_disable (x_disable_n L) (x_disable_b L) (x_disable_x L) (x_disable_f L), 80, ?_⟩
  walk_nrm
  iterate 34 (first
    | u_c stepG_seq RW_rely hK
    | u_c stepG_region_end RW_rely hK
    | u_c stepG_skip RW_rely hK
    | u_c stepG_block RW_rely hK
    | u_c stepG_loop RW_rely hK
    | u_c stepG_inLoop RW_rely hK
    | u_c stepG_inBlock RW_rely hK
    | u_c stepG_ret' RW_rely hK
    | u_reg RW_rely hK
    | (u_in RW_rely hK; rw [stepG_cond (t := true)]; rotate_left; (first | rfl); simp only [goes_go, if_true, if_false, Bool.false_eq_true, reduceIte]; refine ⟨by u_nil, ?_⟩)
    | (u_in RW_rely hK; rw [stepG_cond (t := false)]; rotate_left; (first | rfl); simp only [goes_go, if_true, if_false, Bool.false_eq_true, reduceIte]; refine ⟨by u_nil, ?_⟩)
    | u_skip RW_rely hK
    | u_defer RW_rely hK
    | u_bub RW_rely hK
    | u_op RW_rely hK
    | u_leave1 H.f_uAdd RW_rely hK
    | u_call H.f_uAdd (nm_uAdd L) uAddFn RW_rely hK)
  refine Goes.stop (fun w₁ h₁ => ?_)
  clear h₁ hK
  refine ⟨rfl, fun v wt hwt hv hw => ?_⟩
  rw [hty] at hw
  have e0 : IntKind.u64.wrap (KK + 18446744069414584320) = 0 := by decide
  have e1 : IntKind.u64.wrap (KK + 1 + 18446744069414584320) = 1 := by decide
  rcases Nat.eq_zero_or_pos v with rfl | hvp <;> (obtain rfl | rfl : wt = 0 ∨ wt = 1 := by omega)
  · replace hw : WgAt L.tWg Φ.Wg w₁ KK 0 := by simpa using hw
    have z : ((0 : Nat) : Int) * KK + ((0 : Nat) : Int) = 0 := by simp
    rw [z]
    refine ⟨_, (stepG_add_atomic rfl rfl (by k_ne) rfl H.f_addU64 (x_addU64_n L) (x_addU64_b L) (x_addU64_x L) .u64 (x_addU64_f L) rfl rfl hw.cellSt (hw.thaw 0)).trans (by rw [e0]; rfl), fun hl => absurd hl.2 (by decide), fun _ => ⟨qt + 160, ?_⟩⟩
    clear hw
    walk_nrm
    (refine QuitsD.value _ rfl rfl (by k_ne) (fun _ => (by go_simp; first | done | rfl | (try w_num; rfl))) (fun _ => by simp [go_sem, *]) ?_; walk_nrm; try w_num)
    q_c stepG_region_end
    q_c stepG_ret'
    q_leave1 H.f_uAdd
    iterate 82 (first
      | (refine QuitsD.ctl rfl (fun _ => (by rw [stepG_seq])) ?_)
      | (refine QuitsD.ctl rfl (fun _ => (by rw [stepG_region_end])) ?_)
      | (refine QuitsD.ctl rfl (fun _ => (by rw [stepG_skip])) ?_)
      | (refine QuitsD.ctl rfl (fun _ => (by rw [stepG_region])) ?_; simp only [List.size_toArray, List.length_cons, List.length_nil, Nat.reduceAdd, Nat.zero_add, List.range, List.range.loop])
      | (refine QuitsD.ctl rfl (fun _ => (by rw [stepG_cond (t := true)]; (first | rfl))) ?_; simp only [if_true, if_false, Bool.false_eq_true, reduceIte])
      | (refine QuitsD.ctl rfl (fun _ => (by rw [stepG_cond (t := false)]; (first | rfl))) ?_; simp only [if_true, if_false, Bool.false_eq_true, reduceIte])
      | (refine QuitsD.ctl rfl (fun _ => (by rw [stepG_unwanted rfl rfl])) ?_; walk_nrm)
      | (refine QuitsD.value _ rfl rfl (by k_ne) (fun _ => (by go_simp; first | done | rfl | (try w_num; rfl))) (fun _ => by simp [go_sem, *]) ?_; walk_nrm; try w_num))
    q_c stepG_ret'
    refine QuitsD.unwind_mark .enable rfl (by simp) rfl H.f_enable (x_enable_n L) (x_enable_b L) (x_enable_x L) (x_enable_f L) ?_
    simp only [deafBehind_enable1]
    q_leave0 H.f_add
    exact quits_more hT (by omega)
  · replace hw : WgAt L.tWg Φ.Wg w₁ (KK + 1) 0 := by simpa using hw
    have z : ((0 : Nat) : Int) * KK + ((1 : Nat) : Int) = 1 := by simp
    rw [z]
    refine ⟨_, (stepG_add_atomic rfl rfl (by k_ne) rfl H.f_addU64 (x_addU64_n L) (x_addU64_b L) (x_addU64_x L) .u64 (x_addU64_f L) rfl rfl hw.cellSt (hw.thaw 0)).trans (by rw [e1]; rfl), fun _ => ⟨160, ?_⟩, fun hl => absurd ⟨rfl, rfl⟩ hl⟩
    have hK : WgLive Φ.ty Φ.Wg (w₁.setCell (stA Φ.Wg) (.int .u64 1)) := ⟨_, _, by rw [hty]; exact hw.setSt 1⟩
    clear hw
    walk_nrm
    u_op RW_rely hK
    u_c stepG_region_end RW_rely hK
    u_c stepG_ret' RW_rely hK
    u_leave1 H.f_uAdd RW_rely hK
    iterate 99 (first
      | u_c stepG_seq RW_rely hK
      | u_c stepG_region_end RW_rely hK
      | u_c stepG_skip RW_rely hK
      | u_c stepG_block RW_rely hK
      | u_c stepG_loop RW_rely hK
      | u_c stepG_inLoop RW_rely hK
      | u_c stepG_inBlock RW_rely hK
      | u_reg RW_rely hK
      | (u_in RW_rely hK; rw [stepG_cond (t := true)]; rotate_left; (first | rfl); simp only [goes_go, if_true, if_false, Bool.false_eq_true, reduceIte]; refine ⟨by u_nil, ?_⟩)
      | (u_in RW_rely hK; rw [stepG_cond (t := false)]; rotate_left; (first | rfl); simp only [goes_go, if_true, if_false, Bool.false_eq_true, reduceIte]; refine ⟨by u_nil, ?_⟩)
      | u_skip RW_rely hK
      | u_defer RW_rely hK
      | u_bub RW_rely hK
      | u_op RW_rely hK
      | u_call H.f_uLoad (nm_uLoad L) uLoadFn RW_rely hK
      | u_call H.f_uStore (nm_uStore L) uStoreFn RW_rely hK
    )
    refine Goes.stop (fun w₂ h₂ => ?_)
    clear h₂ hK
    refine ⟨rfl, fun hw => ?_⟩
    rw [hty] at hw
    refine ⟨_, stepG_load_atomic rfl rfl (by k_ne) rfl H.f_loadU64 (x_loadU64_n L) (x_loadU64_b L) (x_loadU64_x L) .u64 (x_loadU64_f L) rfl hw.cellSt, 60, ?_⟩
    have hK : WgLive Φ.ty Φ.Wg w₂ := ⟨_, _, by rw [hty]; exact hw⟩
    clear hw
    walk_nrm
    u_op RW_rely hK
    u_c stepG_region_end RW_rely hK
    u_c stepG_ret' RW_rely hK
    u_leave1 H.f_uLoad RW_rely hK
    iterate 16 (first
      | u_c stepG_seq RW_rely hK
      | u_c stepG_region_end RW_rely hK
      | u_c stepG_skip RW_rely hK
      | u_c stepG_block RW_rely hK
      | u_c stepG_loop RW_rely hK
      | u_c stepG_inLoop RW_rely hK
      | u_c stepG_inBlock RW_rely hK
      | u_reg RW_rely hK
      | (u_in RW_rely hK; rw [stepG_cond (t := true)]; rotate_left; (first | rfl); simp only [goes_go, if_true, if_false, Bool.false_eq_true, reduceIte]; refine ⟨by u_nil, ?_⟩)
      | (u_in RW_rely hK; rw [stepG_cond (t := false)]; rotate_left; (first | rfl); simp only [goes_go, if_true, if_false, Bool.false_eq_true, reduceIte]; refine ⟨by u_nil, ?_⟩)
      | u_skip RW_rely hK
      | u_defer RW_rely hK
      | u_bub RW_rely hK
      | u_op RW_rely hK
      | u_call H.f_uLoad (nm_uLoad L) uLoadFn RW_rely hK
      | u_call H.f_uStore (nm_uStore L) uStoreFn RW_rely hK
    )
    refine Goes.stop (fun w₃ h₃ => ?_)
    clear h₃ hK
    refine ⟨rfl, fun hw => ?_⟩
    rw [hty] at hw
    refine ⟨_, stepG_store_atomic rfl rfl (by k_ne) rfl H.f_storeU64 (x_storeU64_n L) (x_storeU64_b L) (x_storeU64_x L) (x_storeU64_f L) rfl rfl hw.cellSt (hw.thaw 0), 60, ?_⟩
    have hK : WgLive Φ.ty Φ.Wg (w₃.setCell (stA Φ.Wg) (.int .u64 0)) := ⟨_, _, by rw [hty]; exact hw.setSt 0⟩
    clear hw
    walk_nrm
    u_c stepG_region_end RW_rely hK
    u_c stepG_end RW_rely hK
    u_leave0 H.f_uStore RW_rely hK
    iterate 24 (first
      | u_c stepG_seq RW_rely hK
      | u_c stepG_region_end RW_rely hK
      | u_c stepG_skip RW_rely hK
      | u_c stepG_block RW_rely hK
      | u_c stepG_loop RW_rely hK
      | u_c stepG_inLoop RW_rely hK
      | u_c stepG_inBlock RW_rely hK
      | u_reg RW_rely hK
      | (u_in RW_rely hK; rw [stepG_cond (t := true)]; rotate_left; (first | rfl); simp only [goes_go, if_true, if_false, Bool.false_eq_true, reduceIte]; refine ⟨by u_nil, ?_⟩)
      | (u_in RW_rely hK; rw [stepG_cond (t := false)]; rotate_left; (first | rfl); simp only [goes_go, if_true, if_false, Bool.false_eq_true, reduceIte]; refine ⟨by u_nil, ?_⟩)
      | u_skip RW_rely hK
      | u_defer RW_rely hK
      | u_bub RW_rely hK
      | u_op RW_rely hK
      | u_call H.f_uLoad (nm_uLoad L) uLoadFn RW_rely hK
      | u_call H.f_uStore (nm_uStore L) uStoreFn RW_rely hK
    )
    refine Goes.stop (fun w₄ h₄ => ?_)
    clear h₄ hK
    refine ⟨rfl, mayWake_entry rfl rfl H.f_semrelease (x_semrelease_b L), fun hw => ?_⟩
    rw [hty] at hw
    refine ⟨_, (stepG_semrelease rfl rfl (by k_ne) rfl H.f_semrelease (x_semrelease_n L) (x_semrelease_b L) (x_semrelease_x L) (x_semrelease_f L) (by simp [Act.eval, smA]) hw.cellSm (hw.thaw 1)).trans (by rfl), qt + 160, ?_⟩
    clear hw
    walk_nrm
    iterate 15 (first
      | (refine QuitsD.ctl rfl (fun _ => (by rw [stepG_seq])) ?_)
      | (refine QuitsD.ctl rfl (fun _ => (by rw [stepG_region_end])) ?_)
      | (refine QuitsD.ctl rfl (fun _ => (by rw [stepG_skip])) ?_)
      | (refine QuitsD.ctl rfl (fun _ => (by rw [stepG_region])) ?_; simp only [List.size_toArray, List.length_cons, List.length_nil, Nat.reduceAdd, Nat.zero_add, List.range, List.range.loop])
      | (refine QuitsD.ctl rfl (fun _ => (by rw [stepG_cond (t := true)]; (first | rfl))) ?_; simp only [if_true, if_false, Bool.false_eq_true, reduceIte])
      | (refine QuitsD.ctl rfl (fun _ => (by rw [stepG_cond (t := false)]; (first | rfl))) ?_; simp only [if_true, if_false, Bool.false_eq_true, reduceIte])
      | (refine QuitsD.ctl rfl (fun _ => (by rw [stepG_unwanted rfl rfl])) ?_; walk_nrm)
      | (refine QuitsD.ctl rfl (fun _ => (by rw [stepG_inLoop])) ?_)
      | (refine QuitsD.ctl rfl (fun _ => (by rw [stepG_inBlock])) ?_)
      | (refine QuitsD.value _ rfl rfl (by k_ne) (fun _ => (by go_simp; first | done | rfl | (try w_num; rfl))) (fun _ => by simp [go_sem, *]) ?_; walk_nrm; try w_num))
    refine QuitsD.ctl rfl (fun _ => stepG_exit rfl) ?_
    q_c stepG_end
    refine QuitsD.unwind_mark .enable rfl (by simp) rfl H.f_enable (x_enable_n L) (x_enable_b L) (x_enable_x L) (x_enable_f L) ?_
    simp only [deafBehind_enable1]
    q_leave0 H.f_add
    exact quits_more hT (by omega)
  · replace hw : WgAt L.tWg Φ.Wg w₁ (((v : Nat) + 1) * KK + 0) 0 := by simpa using hw
    have z : ((v : Nat) : Int) * KK + ((0 : Nat) : Int) = (v : Int) * KK + 0 := by simp
    rw [z]
    have hv0 : 0 < v := by omega
    have eS : IntKind.u64.wrap (((v : Nat) + 1) * KK + 0 + 18446744069414584320) = (v : Int) * KK + 0 := by rw [IntKind.wrap_u64]; simp only [KK]; omega
    obtain ⟨S, hS⟩ : ∃ S : Int, S = (v : Int) * KK + 0 := ⟨_, rfl⟩
    rw [← hS] at eS ⊢
    have a1 : S / 4294967296 = (v : Int) := by rw [hS]; simp only [KK]; omega
    have a2 : 0 ≤ S ∧ S < 9223372036854775808 := by rw [hS]; simp only [KK]; omega
    have b1 : bits .and .u64 S 2147483648 = 0 := by rw [hS]; have := st_flag v 0 (by omega) (by omega); simpa [KK] using this
    have b2 : bits .and .u64 S 2147483647 = 0 := by rw [hS]; have := st_waiters v 0 (by omega) (by omega); simpa [KK] using this
    clear hS z
    have c1 : IntKind.i32.wrap (v : Int) = (v : Int) := by rw [IntKind.wrap_i32]; omega
    have q1 : ((v : Int) == 0) = false := by simp; omega
    have q2 : decide ((v : Int) = 0) = false := decide_eq_false (by omega)
    have q3 : decide ((v : Int) < 0) = false := decide_eq_false (by omega)
    have q4 : decide (0 < (v : Int)) = true := decide_eq_true (by omega)
    refine ⟨_, (stepG_add_atomic rfl rfl (by k_ne) rfl H.f_addU64 (x_addU64_n L) (x_addU64_b L) (x_addU64_x L) .u64 (x_addU64_f L) rfl rfl hw.cellSt (hw.thaw 0)).trans (by rw [eS]; rfl), fun hl => absurd hl.1 (by omega), fun _ => ⟨qt + 160, ?_⟩⟩
    clear hw eS
    walk_nrm
    (refine QuitsD.value _ rfl rfl (by k_ne) (fun _ => (by go_simp; first | done | rfl | (try w_num; rfl))) (fun _ => by simp [go_sem, *]) ?_; walk_nrm; try w_num)
    q_c stepG_region_end
    q_c stepG_ret'
    q_leave1 H.f_uAdd
    iterate 82 (first
      | (refine QuitsD.ctl rfl (fun _ => (by rw [stepG_seq])) ?_)
      | (refine QuitsD.ctl rfl (fun _ => (by rw [stepG_region_end])) ?_)
      | (refine QuitsD.ctl rfl (fun _ => (by rw [stepG_skip])) ?_)
      | (refine QuitsD.ctl rfl (fun _ => (by rw [stepG_region])) ?_; simp only [List.size_toArray, List.length_cons, List.length_nil, Nat.reduceAdd, Nat.zero_add, List.range, List.range.loop])
      | (refine QuitsD.ctl rfl (fun _ => (by rw [stepG_cond (t := true)]; (first | rfl | (simp [Act.eval]; done) | (simp [Act.eval]; omega)))) ?_; simp only [if_true, if_false, Bool.false_eq_true, reduceIte])
      | (refine QuitsD.ctl rfl (fun _ => (by rw [stepG_cond (t := false)]; (first | rfl | (simp [Act.eval]; done) | (simp [Act.eval]; omega)))) ?_; simp only [if_true, if_false, Bool.false_eq_true, reduceIte])
      | (refine QuitsD.ctl rfl (fun _ => (by rw [stepG_unwanted rfl rfl])) ?_; walk_nrm)
      | (refine QuitsD.value _ rfl rfl (by k_ne) (fun _ => (by go_simp; first | done | rfl | (try w_num; rfl))) (fun _ => by simp [go_sem, *]) ?_; walk_nrm; try w_num))
    q_c stepG_ret'
    refine QuitsD.unwind_mark .enable rfl (by simp) rfl H.f_enable (x_enable_n L) (x_enable_b L) (x_enable_x L) (x_enable_f L) ?_
    simp only [deafBehind_enable1]
    q_leave0 H.f_add
    exact quits_more hT (by omega)
  · replace hw : WgAt L.tWg Φ.Wg w₁ (((v : Nat) + 1) * KK + 1) 0 := by simpa using hw
    have z : ((v : Nat) : Int) * KK + ((1 : Nat) : Int) = (v : Int) * KK + 1 := by simp
    rw [z]
    have hv0 : 0 < v := by omega
    have eS : IntKind.u64.wrap (((v : Nat) + 1) * KK + 1 + 18446744069414584320) = (v : Int) * KK + 1 := by rw [IntKind.wrap_u64]; simp only [KK]; omega
    obtain ⟨S, hS⟩ : ∃ S : Int, S = (v : Int) * KK + 1 := ⟨_, rfl⟩
    rw [← hS] at eS ⊢
    have a1 : S / 4294967296 = (v : Int) := by rw [hS]; simp only [KK]; omega
    have a2 : 0 ≤ S ∧ S < 9223372036854775808 := by rw [hS]; simp only [KK]; omega
    have b1 : bits .and .u64 S 2147483648 = 0 := by rw [hS]; have := st_flag v 1 (by omega) (by omega); simpa [KK] using this
    have b2 : bits .and .u64 S 2147483647 = 1 := by rw [hS]; have := st_waiters v 1 (by omega) (by omega); simpa [KK] using this
    clear hS z
    have c1 : IntKind.i32.wrap (v : Int) = (v : Int) := by rw [IntKind.wrap_i32]; omega
    have q1 : ((v : Int) == 0) = false := by simp; omega
    have q2 : decide ((v : Int) = 0) = false := decide_eq_false (by omega)
    have q3 : decide ((v : Int) < 0) = false := decide_eq_false (by omega)
    have q4 : decide (0 < (v : Int)) = true := decide_eq_true (by omega)
    refine ⟨_, (stepG_add_atomic rfl rfl (by k_ne) rfl H.f_addU64 (x_addU64_n L) (x_addU64_b L) (x_addU64_x L) .u64 (x_addU64_f L) rfl rfl hw.cellSt (hw.thaw 0)).trans (by rw [eS]; rfl), fun hl => absurd hl.1 (by omega), fun _ => ⟨qt + 160, ?_⟩⟩
    clear hw eS
    walk_nrm
    (refine QuitsD.value _ rfl rfl (by k_ne) (fun _ => (by go_simp; first | done | rfl | (try w_num; rfl))) (fun _ => by simp [go_sem, *]) ?_; walk_nrm; try w_num)
    q_c stepG_region_end
    q_c stepG_ret'
    q_leave1 H.f_uAdd
    iterate 82 (first
      | (refine QuitsD.ctl rfl (fun _ => (by rw [stepG_seq])) ?_)
      | (refine QuitsD.ctl rfl (fun _ => (by rw [stepG_region_end])) ?_)
      | (refine QuitsD.ctl rfl (fun _ => (by rw [stepG_skip])) ?_)
      | (refine QuitsD.ctl rfl (fun _ => (by rw [stepG_region])) ?_; simp only [List.size_toArray, List.length_cons, List.length_nil, Nat.reduceAdd, Nat.zero_add, List.range, List.range.loop])
      | (refine QuitsD.ctl rfl (fun _ => (by rw [stepG_cond (t := true)]; (first | rfl | (simp [Act.eval]; done) | (simp [Act.eval]; omega)))) ?_; simp only [if_true, if_false, Bool.false_eq_true, reduceIte])
      | (refine QuitsD.ctl rfl (fun _ => (by rw [stepG_cond (t := false)]; (first | rfl | (simp [Act.eval]; done) | (simp [Act.eval]; omega)))) ?_; simp only [if_true, if_false, Bool.false_eq_true, reduceIte])
      | (refine QuitsD.ctl rfl (fun _ => (by rw [stepG_unwanted rfl rfl])) ?_; walk_nrm)
      | (refine QuitsD.value _ rfl rfl (by k_ne) (fun _ => (by go_simp; first | done | rfl | (try w_num; rfl))) (fun _ => by simp [go_sem, *]) ?_; walk_nrm; try w_num))
    q_c stepG_ret'
    refine QuitsD.unwind_mark .enable rfl (by simp) rfl H.f_enable (x_enable_n L) (x_enable_b L) (x_enable_x L) (x_enable_f L) ?_
    simp only [deafBehind_enable1]
    q_leave0 H.f_add
    exact quits_more hT (by omega)

set_option maxRecDepth 100000 in
theorem done_t (H : WgLib Φ.P L) (hty : Φ.ty = L.tWg) {c : Frame} {cs : List Frame} {qt : Nat} (hcm : c.mode = .returning) (hT : QuitsD Φ.P qt 0 (G c cs)) (w : World) (hK : WgLive Φ.ty Φ.Wg w) :
    Goes Φ.P false (RW Φ k) DC0 (AtR0 Φ k) 43 (G ((baseD L.done).at ⟨#[.pointer (some ⟨Φ.Wg, 0, none⟩), undef, undef, undef], []⟩ [.code (body_done L)]) (c :: cs)) w := by
  lib_facts
  have hA := @sub_t Φ L k
  simp only [body_done, body_add, doneFn, addFn, Option.getD_some] at hA ⊢
  u_reg RW_rely hK
  u_op RW_rely hK
  u_in RW_rely hK
  refine goes_call rfl rfl (by k_ne) rfl H.f_add (nm_add L) rfl ⟨by u_nil, ?_⟩
  walk_nrmf addFn
  refine hA (qt := qt + 3) H hty ?_ _ hK
  refine QuitsD.ctl rfl (fun _ => stepG_region_end) ?_
  refine QuitsD.ctl rfl (fun _ => stepG_end) ?_
  exact QuitsD.leaveD rfl rfl H.f_done rfl hcm hT
end
end

section
open Go.Conc Go.RowKit
open Go.ConcR (DC0)

def chkOrd (m : Region.Mode) (ops : Array Oper) (p : List Nat → Bool) : Nat → Array Bool → List Nat → Bool
  | 0, _, acc => p acc.reverse
  | fuel + 1, listed, acc =>
    let rs := Region.ready m ops listed
    if rs.isEmpty then p acc.reverse else rs.all fun i => chkOrd m ops p fuel (listed.setIfInBounds i true) (i :: acc)

theorem chk_sound {m : Region.Mode} {ops : Array Oper} {p : List Nat → Bool} : ∀ (fuel t : Nat) (listed : Array Bool) (acc : List Nat), chkOrd m ops p fuel listed acc = true → p (Region.linearise.go m ops fuel t listed acc) = true
  | 0, t, listed, acc, h => h
  | fuel + 1, t, listed, acc, h => by
    simp only [chkOrd] at h
    simp only [Region.linearise.go]
    change p (match (Region.ready m ops listed)[t % (Region.ready m ops listed).length]? with
      | some i => Region.linearise.go m ops fuel (t / (Region.ready m ops listed).length) (listed.setIfInBounds i true) (i :: acc)
      | none => acc.reverse) = true
    cases hi : (Region.ready m ops listed)[t % (Region.ready m ops listed).length]? with
    | none =>
      have hnil : Region.ready m ops listed = [] := by
        cases hr : Region.ready m ops listed with
        | nil => rfl
        | cons x xs =>
          rw [hr] at hi
          have hlt : t % (x :: xs).length < (x :: xs).length := Nat.mod_lt _ (by simp)
          rw [List.getElem?_eq_none_iff] at hi
          omega
      rw [hnil] at h
      exact h
    | some i =>
      have hmem := List.mem_of_getElem? hi
      rw [if_neg (by intro e; rw [List.isEmpty_iff.1 e] at hmem; cases hmem)] at h
      exact chk_sound fuel _ _ _ (List.all_eq_true.1 h i hmem)

theorem sched_sound {b : Bool} {ops : Array Oper} {p : List Nat → Bool} (h : ∀ m ∈ [Region.Mode.any, .text, .gc], chkOrd m ops p ops.size (Array.replicate ops.size false) [] = true) (t : Nat) : p (Region.schedule b ops t) = true := by
  unfold Region.schedule
  split
  · exact chk_sound _ _ _ _ (h _ (by simp))
  · split
    · exact chk_sound _ _ _ _ (h _ (by simp))
    · exact chk_sound _ _ _ _ (h _ (by simp))

section
variable {P : Program} {main : Bool} {R : World → World → Prop} {D : World → World → Array Event → Prop} {b : Frame} {a : Act} {k : List Item} {cs : List Frame} {w : World} {ops : Array Oper} {i : Nat} {rest : List Nat} {o : Oper} {f : FuncId} {fn : Func} {x : Operand} {args : Array Operand} {ats : Array TypeId} {cap : Array Value}

theorem run_callV (hop : o.op = .call { callee := .value x, args, argTypes := ats }) (hx : a.eval x = .func (.func f) #[] cap)
    (hf : P.funcs[f]? = some fn) (hname : (fn.name == "runtime.NumGoroutine") = false) (hb : fn.body.isNone = false) : (execOp a.eval o).run P w = .ok (.enter f (args.map a.eval ++ cap)) w := by
  have h1 : ¬ fn.name = "runtime.NumGoroutine" := by simpa using hname
  have h2 : ¬ fn.body = none := by cases hx : fn.body <;> simp_all
  unfold execOp
  simp [hop, hx, resolve, Deferred.ofValue, invoke, callFunc, hf, h1, h2]
theorem events_callV (hop : o.op = .call { callee := .value x, args, argTypes := ats }) (hx : a.eval x = .func (.func f) #[] cap)
    (hf : P.funcs[f]? = some fn) (hname : (fn.name == "runtime.NumGoroutine") = false) (hb : fn.body.isNone = false) : (execOp a.eval o).events P w #[] = #[] := by
  have h1 : ¬ fn.name = "runtime.NumGoroutine" := by simpa using hname
  have h2 : ¬ fn.body = none := by cases hx : fn.body <;> simp_all
  unfold execOp
  simp [hop, hx, resolve, Deferred.ofValue, invoke, callFunc, hf, h1, h2]

theorem goes_callV (T : Terms R D) {nf m : Nat} {Post : Value → World → Prop} {Stop : Goroutine → World → Prop}
    (ho : ops[i]? = some o) (hw : Region.wanted o (yielded ops a.tmps) = true) (hk : b.kind ≠ .early) (hop : o.op = .call { callee := .value x, args, argTypes := ats }) (hx : a.eval x = .func (.func f) #[] cap)
    (hcall : CallsC P main R D f (args.map a.eval ++ cap) nf w Post)
    (hnext : ∀ v w', Post v w' → Goes P main R D Stop m (G (b.at (a.put o.dst v) (.inRegion ops rest :: k)) cs) w') :
    Goes P main R D Stop (m + nf + 3) (G (b.at a (.inRegion ops (i :: rest) :: k)) cs) w := by
  obtain ⟨fn, c, hf, hname, hbody, hwp⟩ := hcall
  have hfin : ∀ v, (b.at a (.inRegion ops (i :: rest) :: k)).finish v = b.at (a.put o.dst v) (.inRegion ops rest :: k) := fun v => by rw [Frame.finish_at, ho]; rfl
  have hleave : ∀ (a' : Act) (w' : World) (todo : List Item), (a'.defers = [] ∧ ∃ v, ResultsC P fn a'.tmps v ∧ Post v w') →
      Goes P main R D Stop (m + 1) (G { (base f).at a' todo with mode := .returning } (b.at a (.inRegion ops (i :: rest) :: k) :: cs)) w' := by
    rintro a' w' todo ⟨hd, v, hr, hp⟩
    refine Goes.step rfl fun w₁ h₁ => ?_
    rw [stepG_leave (b := base f) rfl hd hf (hr w₁).1 (hr w₁).2, hfin]
    exact ⟨T.idle _, (hnext v w' hp).rely T.trans h₁⟩
  have hbodyG : Goes P main R D Stop (m + 2 + nf) (G ((base f).at { tmps := args.map a.eval ++ cap ++ Array.replicate (fn.ntmps - (args.map a.eval ++ cap).size) undef, defers := [] } [.code c]) (b.at a (.inRegion ops (i :: rest) :: k) :: cs)) w := by
    refine hwp (base f) [] _ Stop (m + 2) rfl (by simp [base]) fun e a' w' q => ?_
    cases e with
    | normal => exact Goes.step rfl fun w₁ h₁ => by rw [stepG_end]; exact ⟨T.idle _, (hleave a' w' [] q).rely T.trans h₁⟩
    | ret => exact fun todo => (hleave a' w' todo q).more
    | exit id => exact q.elim
    | goto l => exact q.elim
    | panic ch => exact q.elim
    | outgrown => exact q.elim
  have hb' : fn.body.isNone = false := by rw [hbody]; rfl
  have e : m + nf + 3 = (m + 2 + nf) + 1 := by omega
  rw [e]
  refine Goes.step rfl fun w₁ h₁ => ?_
  have hk' : (b.kind == CallKind.early) = false := by simpa using hk
  have hr := run_callV (P := P) (w := w₁) hop hx hf hname hb'
  have he := events_callV (P := P) (w := w₁) hop hx hf hname hb'
  have hst : stepG P main (G (b.at a (.inRegion ops (i :: rest) :: k)) cs) w₁ = .go (G ((base f).at { tmps := args.map a.eval ++ cap ++ Array.replicate (fn.ntmps - (args.map a.eval ++ cap).size) undef, defers := [] } [.code c]) (b.at a (.inRegion ops (i :: rest) :: k) :: cs)) w₁ := by
    rw [stepG_oper ho hw, ← enter_at _ hf hbody]
    simp [stepG.apply, hr, he, G, Frame.at, hk', GStep.after, seen_none]
  rw [hst]
  exact ⟨T.idle _, hbodyG.rely T.trans h₁⟩
end

def dclose (ats : Array TypeId) (ty : TypeId) (c : Value) : Deferred := { target := .builtin .close ats ty #[false], args := #[c] }

section
variable {P : Program} {main : Bool} {b : Frame} {a : Act} {k : List Item} {cs : List Frame} {w : World}
theorem stepG_defer_close {ops : Array Oper} {i : Nat} {rest : List Nat} {o : Oper} {x : Tmp} {ats : Array TypeId} (ho : ops[i]? = some o) (hw : Region.wanted o (yielded ops a.tmps) = true) (hk : b.kind ≠ .early)
    (hop : o.op = .defer { callee := .builtin .close, args := #[.tmp x], argTypes := ats }) :
    stepG P main (G (b.at a (.inRegion ops (i :: rest) :: k)) cs) w = .go (G (b.at (Act.put ⟨a.tmps, dclose ats o.type (a.eval (.tmp x)) :: a.defers⟩ o.dst undef) (.inRegion ops rest :: k)) cs) w #[] := by
  have hres : resolve a.eval { callee := .builtin .close, args := #[.tmp x], argTypes := ats } o.type = pure (dclose ats o.type (a.eval (.tmp x))) := by unfold resolve dclose; simp only [List.map_toArray, List.map_cons, List.map_nil]
  have hr : (execOp a.eval o).run P w = .ok (.defer (dclose ats o.type (a.eval (.tmp x)))) w := by
    unfold execOp
    simp only [hop, hres]
    rfl
  have he : (execOp a.eval o).events P w #[] = #[] := by
    unfold execOp
    simp only [hop, hres]
    rfl
  have hfin : (b.at ⟨a.tmps, dclose ats o.type (a.eval (.tmp x)) :: a.defers⟩ (.inRegion ops (i :: rest) :: k)).finish undef = b.at (Act.put ⟨a.tmps, dclose ats o.type (a.eval (.tmp x)) :: a.defers⟩ o.dst undef) (.inRegion ops rest :: k) := by rw [Frame.finish_at, ho]; rfl
  have hk' : (b.kind == CallKind.early) = false := by simpa using hk
  rw [stepG_oper ho hw, ← hfin]
  simp [stepG.apply, hr, he, G, Frame.at, hk', GStep.after, seen_none]

theorem stepG_unwind_close {todo : List Item} {ds : List Deferred} {ats : Array TypeId} {ty : TypeId} {c q s r : Nat} {buf : Array Value} {fn : Func} (hd : a.defers = dclose ats ty (.chan (some c)) :: ds)
    (hf : P.funcs[b.fn]? = some fn) (hn : fn.norace = false) (hc : w.heap[c]? = some (.chan q buf false s r false)) :
    stepG P main (G { b.at a todo with mode := .returning } cs) w = .go (G { b.at ⟨a.tmps, ds⟩ todo with mode := .returning } cs) (w.setChan c q buf true s r false) #[⟨.obj c, false, true⟩, ⟨.obj c, true, true⟩] := by
  have hi : invoke (dclose ats ty (.chan (some c))).target (dclose ats ty (.chan (some c))).args = (do return Next.value (← Builtin.close_ ats ty #[.chan (some c)])) := rfl
  have hr : (invoke (dclose ats ty (.chan (some c))).target (dclose ats ty (.chan (some c))).args).run P w = .ok (.value (.tuple #[])) (w.setChan c q buf true s r false) := by
    rw [hi]
    simp [run_close_open ats ty hc, World.setChan]
  have he : (invoke (dclose ats ty (.chan (some c))).target (dclose ats ty (.chan (some c))).args).events P w #[] = #[⟨.obj c, false, true⟩, ⟨.obj c, true, true⟩] := by
    rw [hi]
    simp [run_close_open ats ty hc, events_close_open ats ty hc]
  have hs : seen P b.fn #[⟨.obj c, false, true⟩, ⟨.obj c, true, true⟩] = #[⟨.obj c, false, true⟩, ⟨.obj c, true, true⟩] := by
    simp [seen, hf, hn]
  have hd' : a.defers = { target := (dclose ats ty (.chan (some c))).target, args := (dclose ats ty (.chan (some c))).args } :: ds := hd
  simp only [G, stepG, unwind, Frame.at, hd', dclose] at *
  simp [callDeferred, hr, he, hs, GStep.after]
end

def botF (P : Program) : Frame := { (default : Frame) with fn := P.funcs.size, defers := [], mode := .panicking [goexitEntry] }
theorem quits_bot {P : Program} {f : FuncId} {fn : Func} (hf : P.funcs[f]? = some fn) (hr : fn.results = #[]) (T : Array Value) (todo : List Item) : QuitsD P 2 0 (G { (baseD f).at ⟨T, []⟩ todo with mode := .returning } [botF P]) := by
  refine QuitsD.ctl (g' := G (botF P) []) rfl (fun w => ?_) ?_
  · simp [G, stepG, unwind, doReturn, results, Frame.at, baseD, botF, hf, hr, seen, GStep.after, goexitEntry]
  refine QuitsD.ctl (g' := { G (botF P) [] with status := .finished }) rfl (fun w => ?_) ⟨rfl, rfl⟩
  simp [G, stepG, unwind, botF, goexitEntry, Frame.catches]
  rfl
end

abbrev link : Go.Conc.Lib.WgLink := { add := 47, done := 49, wait := 50, relMerge := 60, disable := 61, enable := 62, inBubble := 63, associate := 64, fatal := 65, uOr := 66, uAdd := 67, raceRead := 68, uLoad := 69, uStore := 70, disassociate := 71, semrelease := 72, acquire := 73, isAssociated := 74, uCas := 75, raceWrite := 76, semacquire := 77, orU64 := 82, addU64 := 83, loadU64 := 84, storeU64 := 85, casU64 := 86, tWgP := 94, tUP := 96, tAssoc := 98, tWg := 83, tAU := 80, tU64 := 78, tUint := 38, tU32 := 81, tPU32 := 102, tPAU := 113, tPU64 := 115, tNoCopy := 75, tANoCopy := 76, tAlign64 := 77 }
theorem wgLib : Go.Conc.Lib.WgLib Tryd.prog link :=
  ⟨Tryd.func47, Tryd.func49, Tryd.func50, Tryd.func60, Tryd.func61, Tryd.func62, Tryd.func63, Tryd.func64, Tryd.func65, Tryd.func66, Tryd.func67, Tryd.func68, Tryd.func69, Tryd.func70, Tryd.func71, Tryd.func72, Tryd.func73, Tryd.func74, Tryd.func75, Tryd.func76, Tryd.func77, Tryd.func82, Tryd.func83, Tryd.func84, Tryd.func85, Tryd.func86, Tryd.underlying94, Tryd.runUnderlying94, Tryd.sizeOf94, Tryd.isAgg94, Tryd.zeroValue94, Tryd.underlying96, Tryd.runUnderlying96, Tryd.sizeOf96, Tryd.isAgg96, Tryd.zeroValue96, Tryd.underlying98, Tryd.runUnderlying98, Tryd.sizeOf98, Tryd.isAgg98, Tryd.zeroValue98, Tryd.underlying83, Tryd.runUnderlying83, Tryd.sizeOf83, Tryd.isAgg83, Tryd.zeroValue83, Tryd.underlying80, Tryd.runUnderlying80, Tryd.sizeOf80, Tryd.isAgg80, Tryd.zeroValue80, Tryd.underlying78, Tryd.runUnderlying78, Tryd.sizeOf78, Tryd.isAgg78, Tryd.zeroValue78, Tryd.underlying38, Tryd.runUnderlying38, Tryd.sizeOf38, Tryd.isAgg38, Tryd.zeroValue38, Tryd.underlying81, Tryd.runUnderlying81, Tryd.sizeOf81, Tryd.isAgg81, Tryd.zeroValue81, Tryd.underlying102, Tryd.runUnderlying102, Tryd.sizeOf102, Tryd.isAgg102, Tryd.zeroValue102, Tryd.underlying113, Tryd.runUnderlying113, Tryd.sizeOf113, Tryd.isAgg113, Tryd.zeroValue113, Tryd.underlying115, Tryd.runUnderlying115, Tryd.sizeOf115, Tryd.isAgg115, Tryd.zeroValue115, Tryd.underlying0, Tryd.runUnderlying0, Tryd.sizeOf0, Tryd.isAgg0, Tryd.zeroValue0, Tryd.underlying3, Tryd.runUnderlying3, Tryd.sizeOf3, Tryd.isAgg3, Tryd.zeroValue3, Tryd.underlying4, Tryd.runUnderlying4, Tryd.sizeOf4, Tryd.isAgg4, Tryd.zeroValue4, Tryd.underlying9, Tryd.runUnderlying9, Tryd.sizeOf9, Tryd.isAgg9, Tryd.zeroValue9, Tryd.underlying20, Tryd.runUnderlying20, Tryd.sizeOf20, Tryd.isAgg20, Tryd.zeroValue20, Tryd.underlying21, Tryd.runUnderlying21, Tryd.sizeOf21, Tryd.isAgg21, Tryd.zeroValue21, (by kernel_rfl), (by kernel_rfl)⟩

section
open Go.Conc Go.RowKit Go.Conc.Lib Go.ConcR.Gen Go.ConcN.Gen
open Go.ConcN (WgLive)
open Go.ConcR (KK WgAt stA smA rd wr mk DC0)

abbrev phT (P : Program) (N n q m0 : Nat) (W0 : World) (ans : Nat → Nat → Value) (H : Nat → Prop) (Anch Fin : Goroutine → World → Prop) : Ph where
  P := P
  ty := 83
  Wg := N + 3
  n := n
  q := q
  m0 := m0
  B0 := N
  W0 := W0
  ch := fun k => N + 5 + 3 * k
  lw := fun k => N + 7 + 3 * k
  ans := ans
  H := H
  Rd := fun k b => (b < N ∧ ¬ H b) ∨ b = N ∨ b = N + 1 ∨ b = N + 4 + 3 * k ∨ b = N + 6 + 3 * k
  Mw := fun j b => b = N + 2 ∨ N + 4 + 3 * j ≤ b
  Anch := Anch
  Fin := Fin

theorem phT_ok {P : Program} {N n q m0 : Nat} {W0 : World} {ans : Nat → Nat → Value} {H : Nat → Prop} {Anch Fin : Goroutine → World → Prop} (hH : ∀ b, H b → b < N) (hn : n < 2147483648) (h1 : 0 < n) (hm : 0 < m0)
    (ha : ∀ g w, Anch g w → g.status = .running ∧ ∃ m, Goes P true (RM (phT P N n q m0 W0 ans H Anch Fin) n) DC0 (AtW1 (phT P N n q m0 W0 ans H Anch Fin)) m g w) (hf : ∀ g w, Fin g w → g.status = .running) : (phT P N n q m0 W0 ans H Anch Fin).Ok where
  lies := ⟨fun k b h e => by simp only at h e; have := hH; omega, fun k b h hb => by have h2 := hH b hb; simp only at h; rcases h with ⟨_, h⟩ | h | h | h | h <;> first | exact h hb | omega, by simp only; omega, hH⟩
  rdCh := fun k b i h e => by simp only at h e; omega
  rdMw := fun k j b hk h hm => by simp only at h hm; omega
  rdLow := fun k b h => by simp only at h ⊢; omega
  chInj := fun i i' _ _ e => by simp only at e; omega
  chWg := fun i e => by simp only at e; omega
  chB := fun i => by simp only; omega
  chLow := fun i => by simp only; omega
  mwWg := fun j h => by simp only at h; omega
  mwCh := fun i j h hm => by simp only at hm; omega
  mwB := fun j b h => by simp only at h ⊢; omega
  hn := hn
  n1 := h1
  m0 := hm
  anch := ha
  fin := hf

structure WK (Φ : Ph) (N k : Nat) (view ask : Value) (w : World) : Prop where
  qb : w.cell? ⟨N, 0, none⟩ = some (.int .i64 Φ.q)
  kb : w.cell? ⟨N + 1, 0, none⟩ = some ask
  vb : w.cell? ⟨N + 4 + 3 * k, 0, none⟩ = some view
  ab : w.cell? ⟨N + 6 + 3 * k, 0, none⟩ = some (.chan (some (N + 5 + 3 * k)))
  live : WgLive Φ.ty Φ.Wg w
  old : ∀ b, b < N → ¬ Φ.H b → w.heap[b]? = Φ.W0.heap[b]?

section
variable {N n q m0 k : Nat} {W0 : World} {ans : Nat → Nat → Value} {H : Nat → Prop} {Anch Fin : Goroutine → World → Prop} {view ask : Value}

theorem cell_eq {w w₁ : World} {b o : Nat} (e : w₁.heap[b]? = w.heap[b]?) : w₁.cell? ⟨b, o, none⟩ = w.cell? ⟨b, o, none⟩ := by simp [World.cell?, e]

theorem WK.rely {w w₁ : World} (h : WK (phT Tryd.prog N n q m0 W0 ans H Anch Fin) N k view ask w) (r : RW (phT Tryd.prog N n q m0 W0 ans H Anch Fin) k w w₁) : WK (phT Tryd.prog N n q m0 W0 ans H Anch Fin) N k view ask w₁ where
  qb := (cell_eq (r.rd _ (.inr (.inl rfl)))).trans h.qb
  kb := (cell_eq (r.rd _ (.inr (.inr (.inl rfl))))).trans h.kb
  vb := (cell_eq (r.rd _ (.inr (.inr (.inr (.inl rfl)))))).trans h.vb
  ab := (cell_eq (r.rd _ (.inr (.inr (.inr (.inr rfl)))))).trans h.ab
  live := r.live h.live
  old := fun b hb hH => (r.rd b (.inl ⟨hb, hH⟩)).trans (h.old b hb hH)

theorem WK.at {w : World} (h : WK (phT Tryd.prog N n q m0 W0 ans H Anch Fin) N k view ask w) (d : Nat) : WK (phT Tryd.prog N n q m0 W0 ans H Anch Fin) N k view ask (w.at d) := ⟨h.qb, h.kb, h.vb, h.ab, h.live, h.old⟩

theorem goes_glueW {Φ : Ph} {k mT : Nat} {S : Goroutine → World → Prop} : ∀ (m : Nat) {g : Goroutine} {w : World}, Goes Φ.P false (RW Φ k) DC0 (fun g w => Goes Φ.P false (RW Φ k) (DW Φ k) S mT g w) m g w → Goes Φ.P false (RW Φ k) (DW Φ k) S (m + mT) g w
  | 0, g, w, h => by rw [Nat.zero_add]; exact h w (RW.refl w)
  | m + 1, g, w, h => by
    rcases h with h | ⟨hr, h⟩
    · exact (h w (RW.refl w)).mono (by omega)
    · rw [show m + 1 + mT = (m + mT) + 1 by omega]
      refine .inr ⟨hr, fun w₁ h₁ => ?_⟩
      obtain ⟨g', w', es, e, ⟨rfl, rfl⟩, hn⟩ := goes_elim (h w₁ h₁)
      rw [e]
      exact ⟨⟨⟨_, rfl⟩, by simp⟩, goes_glueW m hn⟩

def okOrd : Bool → Bool → Bool → Bool → Bool → List Nat → Bool
  | _, _, _, _, _, [] => false
  | f0, f1, f2, f3, f4, i :: r => match i with
    | 0 => okOrd true f1 f2 f3 f4 r
    | 1 => okOrd f0 true f2 f3 f4 r
    | 2 => okOrd f0 f1 true f3 f4 r
    | 3 => okOrd f0 f1 f2 true f4 r
    | 4 => f1 && f2 && f3 && okOrd f0 f1 f2 f3 true r
    | 5 => f0 && f4 && r.isEmpty
    | _ => false

def codeW (fn : Func) : Code := fn.body.getD .skip
def headW (fn : Func) : Code := match codeW fn with | .seq _ (.seq _ (.seq _ (.block _ (.loop c)))) => c | _ => .skip
def opsW (fn : Func) : Array Oper := match headW fn with | .seq _ (.seq _ (.seq (.block _ (.seq _ (.region _ o _))) _)) => o | _ => #[]
theorem opsW_ord : ∀ m ∈ [Region.Mode.any, .text, .gc], chkOrd m (opsW Tryd.f48) (fun l => okOrd false false false false false l && l.length == 6) (opsW Tryd.f48).size (Array.replicate (opsW Tryd.f48).size false) [] = true := by
  intro m hm
  simp only [List.mem_cons, List.not_mem_nil, or_false] at hm
  rcases hm with rfl | rfl | rfl <;> kernel_rfl

def ptrsW (N k : Nat) : List Value := [.pointer (some ⟨N + 3, 0, none⟩), .pointer (some ⟨N + 6 + 3 * k, 0, none⟩), .pointer (some ⟨N, 0, none⟩), .pointer (some ⟨N + 1, 0, none⟩), .pointer (some ⟨N + 4 + 3 * k, 0, none⟩)]
def callW (N k : Nat) : Deferred := { target := .fn (.func 48) (ptrsW N k).toArray, args := #[] }
def offW (N k : Nat) : List Deferred := [dclose #[84] 0 (.chan (some (N + 5 + 3 * k))), dcall 49 #[.pointer (some ⟨N + 3, 0, none⟩)]]

theorem termsW (Φ : Ph) (k : Nat) : Terms (RW Φ k) (DW Φ k) := ⟨fun _ _ _ h1 h2 => h1.trans h2, fun w => ⟨⟨_, rfl⟩, by simp⟩⟩

def frW (P : Program) (N k : Nat) (ts : List Value) (ds : List Deferred) (todo : List Item) : Goroutine := G ((baseD 48).at ⟨(ptrsW N k ++ ts).toArray, ds⟩ todo) [botF P]

set_option maxRecDepth 100000 in
set_option maxHeartbeats 4000000 in
theorem region_w {mA j : Nat} {K : List Item} {ds : List Deferred} {Nx : Goroutine → World → Prop} {fA : FuncId} {cap : Array Value} (t6 t7 t8 t9 t10 t16 : Value) (hj : j < q)
    (hask : ∀ number, number < q → ∀ w, WK (phT Tryd.prog N n q m0 W0 ans H Anch Fin) N k view (.func (.func fA) #[] cap) w → CallsC Tryd.prog false (RW (phT Tryd.prog N n q m0 W0 ans H Anch Fin) k) (DW (phT Tryd.prog N n q m0 W0 ans H Anch Fin) k) fA (#[view, .int .i64 number] ++ cap) mA w (fun v w' => WK (phT Tryd.prog N n q m0 W0 ans H Anch Fin) N k view (.func (.func fA) #[] cap) w' ∧ v = ans k number))
    (hN : ∀ (y11 y12 y13 y14 y15 : Value) (w : World), WK (phT Tryd.prog N n q m0 W0 ans H Anch Fin) N k view (.func (.func fA) #[] cap) w →
      Nx (Go.Conc.served (core (frW Tryd.prog N k [.int .i64 j, t6, t7, t8, t9, t10, y11, y12, y13, y14, y15, t16] ds (.inRegion (opsW Tryd.f48) [5] :: K))) undef) w) :
    ∀ (l : List Nat) (f0 f1 f2 f3 f4 : Bool) (y11 y12 y13 y14 y15 : Value), okOrd f0 f1 f2 f3 f4 l = true → (f0 = true → y11 = .chan (some (N + 5 + 3 * k))) → (f1 = true → y12 = .func (.func fA) #[] cap) → (f2 = true → y13 = view) → (f3 = true → y14 = .int .i64 j) → (f4 = true → y15 = ans k j) →
    ∀ w, WK (phT Tryd.prog N n q m0 W0 ans H Anch Fin) N k view (.func (.func fA) #[] cap) w → Goes Tryd.prog false (RW (phT Tryd.prog N n q m0 W0 ans H Anch Fin) k) (DW (phT Tryd.prog N n q m0 W0 ans H Anch Fin) k) (AtSnd (phT Tryd.prog N n q m0 W0 ans H Anch Fin) k (ans k j) Nx) (l.length * (mA + 4)) (frW Tryd.prog N k [.int .i64 j, t6, t7, t8, t9, t10, y11, y12, y13, y14, y15, t16] ds (.inRegion (opsW Tryd.f48) l :: K)) w := by
  intro l
  induction l with
  | nil => intro f0 f1 f2 f3 f4 y11 y12 y13 y14 y15 h; simp [okOrd] at h
  | cons i r ih =>
    intro f0 f1 f2 f3 f4 y11 y12 y13 y14 y15 h e0 e1 e2 e3 e4 w hF
    simp only [okOrd] at h
    rw [List.length_cons, Nat.add_mul, Nat.one_mul]
    split at h
    · refine (Goes.mono (n := r.length * (mA + 4) + 1) ?_ (by omega))
      simp only [frW, ptrsW, List.cons_append, List.nil_append] at ih ⊢
      have ho : (opsW Tryd.f48)[0]? = some _ := rfl
      conv at ho => rhs; arg 1; whnf
      u_in WK.rely hF
      refine goes_oper_k ho rfl (by decide) (fun K hK => ?_)
      have h1 := hF.qb; have h2 := hF.kb; have h3 := hF.vb; have h4 := hF.ab
      go_simp
      refine hK _ _ ⟨⟨⟨_, rfl⟩, fun e he => ?_⟩, ?_⟩
      · have hm := mem_listed he
        simp [go_sem, *] at hm
        subst hm
        exact ⟨_, rfl, by simp [phT]⟩
      clear hK K h1 h2 h3 h4
      exact ih true f1 f2 f3 f4 _ _ _ _ _ h (fun _ => rfl) e1 e2 e3 e4 _ hF
    · refine (Goes.mono (n := r.length * (mA + 4) + 1) ?_ (by omega))
      simp only [frW, ptrsW, List.cons_append, List.nil_append] at ih ⊢
      have ho : (opsW Tryd.f48)[1]? = some _ := rfl
      conv at ho => rhs; arg 1; whnf
      u_in WK.rely hF
      refine goes_oper_k ho rfl (by decide) (fun K hK => ?_)
      have h1 := hF.qb; have h2 := hF.kb; have h3 := hF.vb; have h4 := hF.ab
      go_simp
      refine hK _ _ ⟨⟨⟨_, rfl⟩, fun e he => ?_⟩, ?_⟩
      · have hm := mem_listed he
        simp [go_sem, *] at hm
        subst hm
        exact ⟨_, rfl, by simp [phT]⟩
      clear hK K h1 h2 h3 h4
      exact ih f0 true f2 f3 f4 _ _ _ _ _ h e0 (fun _ => rfl) e2 e3 e4 _ hF
    · refine (Goes.mono (n := r.length * (mA + 4) + 1) ?_ (by omega))
      simp only [frW, ptrsW, List.cons_append, List.nil_append] at ih ⊢
      have ho : (opsW Tryd.f48)[2]? = some _ := rfl
      conv at ho => rhs; arg 1; whnf
      u_in WK.rely hF
      refine goes_oper_k ho rfl (by decide) (fun K hK => ?_)
      have h1 := hF.qb; have h2 := hF.kb; have h3 := hF.vb; have h4 := hF.ab
      go_simp
      refine hK _ _ ⟨⟨⟨_, rfl⟩, fun e he => ?_⟩, ?_⟩
      · have hm := mem_listed he
        simp [go_sem, *] at hm
        subst hm
        exact ⟨_, rfl, by simp [phT]⟩
      clear hK K h1 h2 h3 h4
      exact ih f0 f1 true f3 f4 _ _ _ _ _ h e0 e1 (fun _ => rfl) e3 e4 _ hF
    · refine (Goes.mono (n := r.length * (mA + 4) + 1) ?_ (by omega))
      simp only [frW, ptrsW, List.cons_append, List.nil_append] at ih ⊢
      have ho : (opsW Tryd.f48)[3]? = some _ := rfl
      conv at ho => rhs; arg 1; whnf
      u_in WK.rely hF
      refine goes_oper_k ho rfl (by decide) (fun K hK => ?_)
      have h1 := hF.qb; have h2 := hF.kb; have h3 := hF.vb; have h4 := hF.ab
      go_simp
      refine hK _ _ ⟨⟨⟨_, rfl⟩, fun e he => ?_⟩, ?_⟩
      · have hm := mem_listed he
        simp [go_sem, *] at hm
      clear hK K h1 h2 h3 h4
      exact ih f0 f1 f2 true f4 _ _ _ _ _ h e0 e1 e2 (fun _ => rfl) e4 _ hF
    · simp only [Bool.and_eq_true] at h
      obtain ⟨⟨⟨x1, x2⟩, x3⟩, h⟩ := h
      obtain rfl := e1 x1
      obtain rfl := e2 x2
      obtain rfl := e3 x3
      refine (Goes.mono (n := r.length * (mA + 4) + mA + 3) ?_ (by omega))
      simp only [frW, ptrsW, List.cons_append, List.nil_append] at ih ⊢
      have ho : (opsW Tryd.f48)[4]? = some _ := rfl
      conv at ho => rhs; arg 1; whnf
      refine goes_callV (nf := mA) (Post := fun v w' => WK (phT Tryd.prog N n q m0 W0 ans H Anch Fin) N k y13 (.func (.func fA) #[] cap) w' ∧ v = ans k j) (termsW _ _) ho rfl (by decide) rfl rfl ?_ ?_
      · have hc := hask j hj w hF
        simpa [Act.eval] using hc
      rintro v w' ⟨hF', rfl⟩
      exact ih f0 f1 f2 f3 true _ _ _ _ _ h e0 e1 e2 e3 (fun _ => rfl) _ hF'
    · simp only [Bool.and_eq_true, List.isEmpty_iff] at h
      obtain ⟨⟨x1, x2⟩, rfl⟩ := h
      obtain rfl := e0 x1
      obtain rfl := e4 x2
      refine (Goes.mono (n := 0 + 1) ?_ (by omega))
      refine .inl fun w₁ h₁ => ?_
      have ho : (opsW Tryd.f48)[5]? = some _ := rfl
      conv at ho => rhs; arg 1; whnf
      refine ⟨rfl, .tuple #[], _, stepG_comm (w' := w₁) ho rfl (by decide) ?_, fun e he => ?_, fun w₂ h₂ => hN _ _ _ _ _ _ ((hF.rely h₁).rely h₂)⟩
      · simp [execOp, scase, Act.eval, frW, ptrsW]
      · have hm := mem_listed he
        simp [go_sem, *] at hm
    · cases h

theorem snds_eq (Φ : Ph) (k : Nat) : ∀ (l : Nat) (g : Goroutine) (w : World), Snds Φ k l g w = ∃ m, Goes Φ.P false (RW Φ k) (DW Φ k) (AtSn Φ k l) m g w
  | 0, _, _ => rfl
  | _ + 1, _, _ => rfl

theorem served_w {P : Program} {N k : Nat} {ts : List Value} {ds : List Deferred} {K : List Item} : Go.Conc.served (core (frW P N k ts ds (.inRegion (opsW Tryd.f48) [5] :: K))) undef = frW P N k ts ds (.inRegion (opsW Tryd.f48) [] :: K) := rfl

def todoW (fn : Func) : List Item := [.code (headW fn), .inLoop (headW fn), .inBlock 0]

theorem region_s {mA j : Nat} {K : List Item} {ds : List Deferred} {Nx : Goroutine → World → Prop} {fA : FuncId} {cap : Array Value} (t6 t7 t8 t9 t10 t16 : Value) (hj : j < q)
    (hask : ∀ number, number < q → ∀ w, WK (phT Tryd.prog N n q m0 W0 ans H Anch Fin) N k view (.func (.func fA) #[] cap) w → CallsC Tryd.prog false (RW (phT Tryd.prog N n q m0 W0 ans H Anch Fin) k) (DW (phT Tryd.prog N n q m0 W0 ans H Anch Fin) k) fA (#[view, .int .i64 number] ++ cap) mA w (fun v w' => WK (phT Tryd.prog N n q m0 W0 ans H Anch Fin) N k view (.func (.func fA) #[] cap) w' ∧ v = ans k number))
    (hN : ∀ (y11 y12 y13 y14 y15 : Value) (w : World), WK (phT Tryd.prog N n q m0 W0 ans H Anch Fin) N k view (.func (.func fA) #[] cap) w →
      Nx (Go.Conc.served (core (frW Tryd.prog N k [.int .i64 j, t6, t7, t8, t9, t10, y11, y12, y13, y14, y15, t16] ds (.inRegion (opsW Tryd.f48) [5] :: K))) undef) w) (b : Bool) (t : Nat) (y11 y12 y13 y14 y15 : Value) (w : World) (hF : WK (phT Tryd.prog N n q m0 W0 ans H Anch Fin) N k view (.func (.func fA) #[] cap) w) :
    Goes Tryd.prog false (RW (phT Tryd.prog N n q m0 W0 ans H Anch Fin) k) (DW (phT Tryd.prog N n q m0 W0 ans H Anch Fin) k) (AtSnd (phT Tryd.prog N n q m0 W0 ans H Anch Fin) k (ans k j) Nx) (6 * (mA + 4)) (frW Tryd.prog N k [.int .i64 j, t6, t7, t8, t9, t10, y11, y12, y13, y14, y15, t16] ds (.inRegion (opsW Tryd.f48) (Region.schedule b (opsW Tryd.f48) t) :: K)) w := by
  have hs := sched_sound (b := b) opsW_ord t
  generalize Region.schedule b (opsW Tryd.f48) t = L at hs ⊢
  simp only [Bool.and_eq_true, beq_iff_eq] at hs
  have := region_w (K := K) (ds := ds) t6 t7 t8 t9 t10 t16 hj hask hN L false false false false false y11 y12 y13 y14 y15 hs.1 (fun h => nomatch h) (fun h => nomatch h) (fun h => nomatch h) (fun h => nomatch h) (fun h => nomatch h) w hF
  rw [hs.2] at this
  exact this

set_option maxRecDepth 100000 in
set_option maxHeartbeats 4000000 in
theorem sends_w {mA mC : Nat} {fA : FuncId} {cap : Array Value} (hq : q < 2147483648)
    (hask : ∀ number, number < q → ∀ w, WK (phT Tryd.prog N n q m0 W0 ans H Anch Fin) N k view (.func (.func fA) #[] cap) w → CallsC Tryd.prog false (RW (phT Tryd.prog N n q m0 W0 ans H Anch Fin) k) (DW (phT Tryd.prog N n q m0 W0 ans H Anch Fin) k) fA (#[view, .int .i64 number] ++ cap) mA w (fun v w' => WK (phT Tryd.prog N n q m0 W0 ans H Anch Fin) N k view (.func (.func fA) #[] cap) w' ∧ v = ans k number))
    (h0 : ∀ (t5 t6 t9 t10 y11 y12 y13 y14 y15 t16 : Value) (w : World), WK (phT Tryd.prog N n q m0 W0 ans H Anch Fin) N k view (.func (.func fA) #[] cap) w → 
      Goes Tryd.prog false (RW (phT Tryd.prog N n q m0 W0 ans H Anch Fin) k) (DW (phT Tryd.prog N n q m0 W0 ans H Anch Fin) k) (AtCl (phT Tryd.prog N n q m0 W0 ans H Anch Fin) k) mC (frW Tryd.prog N k [t5, t6, .int .i64 q, .int .i64 q, t9, t10, y11, y12, y13, y14, y15, t16] (offW N k) []) w) :
    ∀ l, l ≤ q → ∃ m, ∀ (t5 t6 t9 t10 y11 y12 y13 y14 y15 t16 : Value) (w : World), WK (phT Tryd.prog N n q m0 W0 ans H Anch Fin) N k view (.func (.func fA) #[] cap) w →
      Goes Tryd.prog false (RW (phT Tryd.prog N n q m0 W0 ans H Anch Fin) k) (DW (phT Tryd.prog N n q m0 W0 ans H Anch Fin) k) (AtSn (phT Tryd.prog N n q m0 W0 ans H Anch Fin) k l) m (frW Tryd.prog N k [t5, t6, .int .i64 q, .int .i64 (q - l : Nat), t9, t10, y11, y12, y13, y14, y15, t16] (offW N k) (todoW Tryd.f48)) w := by
  have hc : headW Tryd.f48 = _ := rfl
  conv at hc => rhs; whnf
  intro l
  induction l with
  | zero =>
    intro hl
    refine ⟨30 + mC, fun t5 t6 t9 t10 y11 y12 y13 y14 y15 t16 w hF => goes_glueW (Φ := phT Tryd.prog N n q m0 W0 ans H Anch Fin) (mT := mC) 30 ?_⟩
    simp only [frW, ptrsW, todoW, hc, List.cons_append, List.nil_append]
    u_c stepG_seq WK.rely hF
    u_reg WK.rely hF
    u_op WK.rely hF
    u_c stepG_region_end WK.rely hF
    u_c stepG_seq WK.rely hF
    u_in WK.rely hF
    rw [stepG_cond (t := false)]
    rotate_left
    · simp [Act.eval]
    simp only [goes_go, if_true, if_false, Bool.false_eq_true, reduceIte]
    refine ⟨by u_nil, ?_⟩
    u_exit WK.rely hF
    refine Goes.stop fun w₁ h₁ => ?_
    exact h0 _ _ _ _ _ _ _ _ _ _ _ (hF.rely h₁)
  | succ l ih =>
    intro hl
    obtain ⟨m, ih⟩ := ih (by omega)
    refine ⟨_, fun t5 t6 t9 t10 y11 y12 y13 y14 y15 t16 w hF => goes_glueW (Φ := phT Tryd.prog N n q m0 W0 ans H Anch Fin) (mT := 6 * (mA + 4) + 1) 30 ?_⟩
    simp only [frW, ptrsW, todoW, hc, List.cons_append, List.nil_append]
    u_c stepG_seq WK.rely hF
    u_reg WK.rely hF
    u_op WK.rely hF
    u_c stepG_region_end WK.rely hF
    u_c stepG_seq WK.rely hF
    u_in WK.rely hF
    rw [stepG_cond (t := true)]
    rotate_left
    · simp [Act.eval]; omega
    simp only [goes_go, if_true, if_false, Bool.false_eq_true, reduceIte]
    refine ⟨by u_nil, ?_⟩
    u_c stepG_skip WK.rely hF
    u_c stepG_seq WK.rely hF
    u_c stepG_block WK.rely hF
    u_c stepG_seq WK.rely hF
    u_reg WK.rely hF
    u_op WK.rely hF
    u_op WK.rely hF
    u_c stepG_region_end WK.rely hF
    refine Goes.stop fun w₁ h₁ => ?_
    replace hF := hF.rely h₁
    clear h₁
    refine Goes.step rfl fun w₁ h₁ => ?_
    replace hF := hF.rely h₁
    clear h₁
    rw [stepG_region_draw]
    simp only [goes_go]
    refine ⟨⟨⟨_, rfl⟩, by simp⟩, ?_⟩
    refine region_s (j := q - (l + 1)) _ _ _ _ _ _ (by omega) hask ?_ _ _ _ _ _ _ _ _ (hF.at (_ + 1))
    clear hF
    intro y11 y12 y13 y14 y15 w₂ hF
    rw [snds_eq]
    refine ⟨_, goes_glueW (Φ := phT Tryd.prog N n q m0 W0 ans H Anch Fin) (mT := m) 30 ?_⟩
    rw [served_w]
    simp only [frW, ptrsW, todoW, hc, List.cons_append, List.nil_append]
    u_c stepG_region_end WK.rely hF
    u_c stepG_inBlock WK.rely hF
    u_reg WK.rely hF
    u_op WK.rely hF
    u_op WK.rely hF
    u_c stepG_region_end WK.rely hF
    u_c stepG_inLoop WK.rely hF
    refine Goes.stop fun w₁ h₁ => ?_
    have e : Value.int .i64 ((q - l : Nat) : Int) = .int .i64 (IntKind.i64.wrap (((q - (l + 1) : Nat) : Int) + 1)) := by
      have e2 : IntKind.i64.wrap (((q - (l + 1) : Nat) : Int) + 1) = ((q - l : Nat) : Int) := by rw [IntKind.wrap_i64]; omega
      rw [e2]
    rw [e] at ih
    exact ih _ _ _ _ _ _ _ _ _ _ _ (hF.rely h₁)

theorem live_set {ty : TypeId} {Wg c q s r : Nat} {buf : Array Value} {b : Bool} {w : World} (h : WgLive ty Wg w) (hc : c ≠ Wg) : WgLive ty Wg (w.setChan c q buf b s r false) := by
  obtain ⟨st, sm, h⟩ := h
  refine ⟨st, sm, ?_⟩
  unfold WgAt at h ⊢
  rw [← h]
  simp [World.setChan, hc]

theorem bare_w : Tryd.f48.results = #[] := by kernel_rfl
theorem race_w : Tryd.f48.norace = false := by kernel_rfl

set_option maxRecDepth 100000 in
set_option maxHeartbeats 4000000 in
theorem close_w {ts : List Value} {ask : Value} (w : World) (hF : WK (phT Tryd.prog N n q m0 W0 ans H Anch Fin) N k view ask w) :
    Goes Tryd.prog false (RW (phT Tryd.prog N n q m0 W0 ans H Anch Fin) k) (DW (phT Tryd.prog N n q m0 W0 ans H Anch Fin) k) (AtCl (phT Tryd.prog N n q m0 W0 ans H Anch Fin) k) 1 (frW Tryd.prog N k ts (offW N k) []) w := by
  refine Goes.step rfl fun w₁ h₁ => ?_
  replace hF := hF.rely h₁
  clear h₁
  simp only [frW]
  rw [stepG_end]
  refine ⟨⟨⟨_, rfl⟩, by simp⟩, Goes.stop fun w₂ h₂ => ?_⟩
  replace hF := hF.rely h₂
  clear h₂
  refine ⟨rfl, rfl, fun buf s r hc => ⟨_, stepG_unwind_close rfl Tryd.func48 race_w hc, rfl, 44, ?_⟩⟩
  have hL := live_set (q := q) (s := s) (r := r) (buf := buf) (b := true) hF.live (show N + 5 + 3 * k ≠ N + 3 by omega)
  refine Goes.step rfl fun w₃ h₃ => ?_
  replace hL := RW.live h₃ hL
  rw [stepG_unwind_enter (a := ⟨_, [dcall _ _]⟩) rfl wgLib.f_done (nm_done link) rfl]
  refine ⟨⟨rfl, rfl⟩, ?_⟩
  exact done_t wgLib rfl rfl (quits_bot Tryd.func48 bare_w _ _) _ hL

theorem stepG_born {P : Program} {main : Bool} {f : FuncId} {fn : Func} {c : Code} {caps : Array Value} {w : World} (hf : P.funcs[f]? = some fn) (hname : (fn.name == "runtime.NumGoroutine") = false) (hb : fn.body = some c) :
    stepG P main (born P { target := .fn (.func f) caps, args := #[] }) w = .go (G ((baseD f).at { tmps := caps ++ Array.replicate (fn.ntmps - caps.size) undef, defers := [] } [.code c]) [botF P]) w #[] := by
  have h1 : ¬ fn.name = "runtime.NumGoroutine" := by simpa using hname
  rw [← enter_atD caps hf hb]
  simp [born, G, stepG, unwind, callDeferred, invoke, callFunc, hf, h1, hb, GStep.after, seen_none, botF]

theorem name_w : (Tryd.f48.name == "runtime.NumGoroutine") = false := by kernel_rfl
theorem body_w : Tryd.f48.body = some (codeW Tryd.f48) := by kernel_rfl
theorem tmps_w : Tryd.f48.ntmps = 17 := by kernel_rfl

set_option maxRecDepth 100000 in
set_option maxHeartbeats 4000000 in
theorem works {mA : Nat} {fA : FuncId} {cap : Array Value} (hq : q < 2147483648)
    (hask : ∀ number, number < q → ∀ w, WK (phT Tryd.prog N n q m0 W0 ans H Anch Fin) N k view (.func (.func fA) #[] cap) w → CallsC Tryd.prog false (RW (phT Tryd.prog N n q m0 W0 ans H Anch Fin) k) (DW (phT Tryd.prog N n q m0 W0 ans H Anch Fin) k) fA (#[view, .int .i64 number] ++ cap) mA w (fun v w' => WK (phT Tryd.prog N n q m0 W0 ans H Anch Fin) N k view (.func (.func fA) #[] cap) w' ∧ v = ans k number))
    (w : World) (hF : WK (phT Tryd.prog N n q m0 W0 ans H Anch Fin) N k view (.func (.func fA) #[] cap) w) :
    Snds (phT Tryd.prog N n q m0 W0 ans H Anch Fin) k q (born Tryd.prog (callW N k)) w := by
  have hc : codeW Tryd.f48 = _ := rfl
  conv at hc => rhs; whnf
  have hh : headW Tryd.f48 = _ := rfl
  conv at hh => rhs; whnf
  obtain ⟨mS, hS⟩ := sends_w (k := k) (view := view) hq hask (fun t5 t6 t9 t10 y11 y12 y13 y14 y15 t16 w hF => close_w w hF) q (Nat.le_refl q)
  have e : ((q - q : Nat) : Int) = 0 := by simp
  rw [e] at hS
  rw [snds_eq]
  refine ⟨_, goes_glueW (Φ := phT Tryd.prog N n q m0 W0 ans H Anch Fin) (mT := (10 + ((10 + mS) + 1)) + 1) 10 ?_⟩
  u_in WK.rely hF
  rw [callW, stepG_born Tryd.func48 name_w body_w, hc, tmps_w]
  simp only [goes_go]
  refine ⟨by u_nil, ?_⟩
  simp only [ptrsW, List.size_toArray, List.length_cons, List.length_nil, Nat.reduceAdd, Nat.reduceSub, Nat.zero_add, Array.replicate, List.replicate, List.append_toArray, List.cons_append, List.nil_append]
  u_c stepG_seq WK.rely hF
  u_reg WK.rely hF
  u_defer WK.rely hF
  u_c stepG_region_end WK.rely hF
  u_c stepG_seq WK.rely hF
  u_reg WK.rely hF
  refine Goes.stop fun w₁ h₁ => ?_
  replace hF := hF.rely h₁
  clear h₁
  u_in WK.rely hF
  refine goes_oper_k rfl rfl (by decide) (fun K hK => ?_)
  have h1 := hF.qb; have h2 := hF.kb; have h3 := hF.vb; have h4 := hF.ab
  go_simp
  refine hK _ _ ⟨⟨⟨_, rfl⟩, fun e he => ?_⟩, ?_⟩
  · have hm := mem_listed he
    simp [go_sem, *] at hm
    subst hm
    exact ⟨_, rfl, by simp [phT]⟩
  clear hK K h1 h2 h3 h4
  refine goes_glueW (Φ := phT Tryd.prog N n q m0 W0 ans H Anch Fin) (mT := (10 + mS) + 1) 10 ?_
  u_in WK.rely hF
  rw [stepG_defer_close rfl rfl (by decide) rfl]
  simp only [goes_go]
  refine ⟨by u_nil, ?_⟩
  walk_nrm
  u_c stepG_region_end WK.rely hF
  u_c stepG_seq WK.rely hF
  u_reg WK.rely hF
  refine Goes.stop fun w₁ h₁ => ?_
  replace hF := hF.rely h₁
  clear h₁
  u_in WK.rely hF
  refine goes_oper_k rfl rfl (by decide) (fun K hK => ?_)
  have h1 := hF.qb; have h2 := hF.kb; have h3 := hF.vb; have h4 := hF.ab
  go_simp
  refine hK _ _ ⟨⟨⟨_, rfl⟩, fun e he => ?_⟩, ?_⟩
  · have hm := mem_listed he
    simp [go_sem, *] at hm
    subst hm
    exact ⟨_, rfl, by simp [phT]⟩
  clear hK K h1 h2 h3 h4
  refine goes_glueW (Φ := phT Tryd.prog N n q m0 W0 ans H Anch Fin) (mT := mS) 10 ?_
  u_op WK.rely hF
  u_c stepG_region_end WK.rely hF
  u_c stepG_block WK.rely hF
  u_c stepG_loop WK.rely hF
  refine Goes.stop fun w₁ h₁ => ?_
  exact hS _ _ _ _ _ _ _ _ _ _ _ (hF.rely h₁)
end
end

section
open Go.Conc

def ownTape (w : World) (τ : Nat → Question → Nat) : World := { w with tape := τ, drawn := 0 }

section
variable {T : Two} {c : Cfg} {Q Q' : Exit → Act → World → Prop} {a : Act} {w : World}

def At (T : Two) (c : Cfg) (fr : Frame) (cs : List Frame) (w : World) : Prop :=
  ∃ (H : Nat → Prop) (c' : Cfg), c.to T c' ∧ c'.ok T H ∧ Rel T H w c'.W ∧ okGS T c'.g ∧ c'.g = G fr cs

theorem At.start {H : Nat → Prop} {fr : Frame} {cs : List Frame} (hc : c.ok T H) (hr : Rel T H w c.W) (hg : okGS T c.g) (e : c.g = G fr cs) : At T c fr cs w :=
  ⟨H, c, Cfg.to_refl T c, hc, hr, hg, e⟩

theorem At.tape {fr : Frame} {cs : List Frame} (h : At T c fr cs w) {w' : World} (e1 : w'.heap = w.heap) (e2 : w'.os = w.os) (e3 : w'.output = w.output) : At T c fr cs w' := by
  obtain ⟨H, c', h1, h2, h3, h4⟩ := h
  refine ⟨H, c', h1, h2, ⟨?_, ?_, ?_, ?_, ?_, ?_, h3.low, ?_⟩, h4⟩
  · rw [e1]; exact h3.size
  · rw [e2]; exact h3.os
  · rw [e3]; exact h3.output
  · rw [e1]; exact h3.out
  · rw [e1]; exact h3.hid
  · rw [e1]; exact h3.ok
  · rw [e1]; exact h3.grown

theorem At.lift (K : Kit T) {fr : Frame} {cs : List Frame} (h : At T c fr cs w) {Post : Frame → List Frame → World → Prop}
    (hl : ∀ τ, ∃ fr' cs' w', Steps T.pr (lone fr cs (ownTape w τ)) (lone fr' cs' w') ∧ (fr'.mode = .run ∨ fr'.mode = .returning) ∧ Post fr' cs' w') :
    ∃ fr' cs' w', Post fr' cs' w' ∧ At T c fr' cs' w' := by
  obtain ⟨H, c1, h1, h2, h3, h4, h5⟩ := h
  obtain ⟨c2, w', k1, k2, k3, k4, fr', cs', k5, k6⟩ := liftedS K h2 h3 h4 (Post := fun g w' => ∃ fr' cs', g = G fr' cs' ∧ Post fr' cs' w') (fun τ => by
    obtain ⟨fr', cs', w', ⟨n, hn⟩, hm, hp⟩ := hl τ
    exact ⟨n, G fr' cs', w', by rw [h5]; exact hn, rfl, hm, fr', cs', rfl, hp⟩)
  exact ⟨fr', cs', w', k6, H, c2, Cfg.to_trans h1 k1, k2, k3, k4, k5⟩

theorem At.step (K : Kit T) {fr fr' : Frame} {cs cs' : List Frame} (h : At T c fr cs w) (hs : ∀ w, Go.step T.pr (lone fr cs w) = .next (lone fr' cs' w)) (hm : fr'.mode = .run ∨ fr'.mode = .returning) : At T c fr' cs' w := by
  obtain ⟨_, _, w', ⟨rfl, rfl, τ, rfl⟩, hat⟩ := h.lift K (Post := fun a b w' => a = fr' ∧ b = cs' ∧ ∃ τ, w' = ownTape w τ) (fun τ => ⟨_, _, _, .one (hs _), hm, rfl, rfl, τ, rfl⟩)
  exact hat.tape rfl rfl rfl

def ArrB (T : Two) (c : Cfg) (b : Frame) (k : List Item) (cs : List Frame) : Exit → Act → World → Prop
  | .normal, a, w => At T c (b.at a k) cs w
  | .exit id, a, w => ∀ k', exitTo id k = some k' → At T c (b.at a k') cs w
  | .ret, a, w => ∃ todo, At T c { b.at a todo with mode := .returning } cs w
  | _, _, _ => False

def WpB (T : Two) (cd : Code) (Q : Exit → Act → World → Prop) (a : Act) (w : World) : Prop :=
  ∀ (c : Cfg) (b : Frame) (k : List Item) (cs : List Frame), At T c (b.at a (.code cd :: k)) cs w → ∃ e a' w', Q e a' w' ∧ ArrB T c b k cs e a' w'

theorem WpB.mono {cd : Code} (h : WpB T cd Q a w) (hq : ∀ e a w, Q e a w → Q' e a w) : WpB T cd Q' a w :=
  fun c b k cs hat => let ⟨e, a', w', q, r⟩ := h c b k cs hat; ⟨e, a', w', hq _ _ _ q, r⟩

theorem ArrB.pass {b : Frame} {x : Item} {k : List Item} {cs : List Frame} {e : Exit} (hx : x.plain = true) (he : e ≠ .normal) (h : ArrB T c b (x :: k) cs e a w) : ArrB T c b k cs e a w := by
  cases e with
  | normal => exact absurd rfl he
  | exit id => exact fun k' hk => h k' (by cases x <;> simp_all [exitTo, Item.plain])
  | ret => exact h
  | goto l => exact h
  | panic ch => exact h
  | outgrown => exact h

theorem WpB.of_wp (K : Kit T) {cd : Code} (h : ∀ τ, cd.wp T.pr Q a (ownTape w τ)) (hQ : ∀ e a w, Q e a w → e = .normal ∨ (∃ id, e = .exit id) ∨ e = .ret) : WpB T cd Q a w := by
  intro c b k cs hat
  by_cases hx : ∃ id a' w', Q (.exit id) a' w' ∧ exitTo id k = none
  · obtain ⟨id, a', w', hq, he⟩ := hx
    exact ⟨_, a', w', hq, fun k' hk => by rw [he] at hk; cases hk⟩
  · obtain ⟨fr', cs', w', ⟨e, a', hq, rfl, hp⟩, hat'⟩ := hat.lift K (Post := fun fr' cs' w' => ∃ e a', Q e a' w' ∧ cs' = cs ∧
        ((e = .normal ∧ fr' = b.at a' k) ∨ (∃ id k', e = .exit id ∧ exitTo id k = some k' ∧ fr' = b.at a' k') ∨ (e = .ret ∧ ∃ todo, fr' = { b.at a' todo with mode := .returning }))) (fun τ => by
      obtain ⟨e, a', w', hq, harr⟩ := h τ b k cs
      rcases hQ _ _ _ hq with rfl | ⟨id, rfl⟩ | rfl
      · exact ⟨_, _, w', harr, .inl rfl, _, a', hq, rfl, .inl ⟨rfl, rfl⟩⟩
      · cases he : exitTo id k with
        | none => exact absurd ⟨id, a', w', hq, he⟩ hx
        | some k' => exact ⟨_, _, w', harr k' he, .inl rfl, _, a', hq, rfl, .inr (.inl ⟨id, k', rfl, he, rfl⟩)⟩
      · obtain ⟨todo, hs⟩ := harr
        exact ⟨_, _, w', hs, .inr rfl, _, a', hq, rfl, .inr (.inr ⟨rfl, todo, rfl⟩)⟩)
    refine ⟨e, a', w', hq, ?_⟩
    rcases hp with ⟨rfl, rfl⟩ | ⟨id, k', rfl, he, rfl⟩ | ⟨rfl, todo, rfl⟩
    · exact hat'
    · intro k2 hk
      rw [he] at hk
      obtain rfl := Option.some.inj hk
      exact hat'
    · exact ⟨todo, hat'⟩

section rules

theorem WpB.seq (K : Kit T) {x y : Code} (h : WpB T x (Exit.then (WpB T y Q) Q) a w) : WpB T (.seq x y) Q a w := by
  intro c b k cs hat
  obtain ⟨e, a₁, w₁, hq, harr⟩ := h c b (.code y :: k) cs (hat.step K (fun _ => step_seq) (.inl rfl))
  cases e with
  | normal => exact hq c b k cs harr
  | exit id => exact ⟨_, a₁, w₁, hq, harr.pass (x := .code y) rfl (by simp)⟩
  | ret => exact ⟨_, a₁, w₁, hq, harr⟩
  | goto l => exact harr.elim
  | panic ch => exact harr.elim
  | outgrown => exact harr.elim

theorem WpB.cond (K : Kit T) {d : Operand} {x y : Code} {t : Bool} (hc : a.eval d = .bool t) (h : WpB T (if t then x else y) Q a w) : WpB T (.cond d x y) Q a w :=
  fun c b k cs hat => h c b k cs (hat.step K (fun _ => step_cond hc) (.inl rfl))

theorem WpB.block (K : Kit T) {id : Nat} {cd : Code} (h : WpB T cd (Exit.inBlock id Q) a w) : WpB T (.block id cd) Q a w := by
  intro c b k cs hat
  obtain ⟨e, a₁, w₁, hq, harr⟩ := h c b (.inBlock id :: k) cs (hat.step K (fun _ => step_block) (.inl rfl))
  cases e with
  | normal => exact ⟨.normal, a₁, w₁, hq, At.step K harr (fun _ => step_inBlock) (.inl rfl)⟩
  | exit id' =>
    by_cases hid : id' = id
    · simp only [Exit.inBlock, hid, if_true] at hq
      exact ⟨.normal, a₁, w₁, hq, harr k (by simp [exitTo, hid])⟩
    · simp only [Exit.inBlock, hid, if_false] at hq
      refine ⟨.exit id', a₁, w₁, hq, fun k' hk => harr k' ?_⟩
      have : (id == id') = false := by simp; exact fun h => hid h.symm
      simp [exitTo, this, hk]
  | ret => exact ⟨_, a₁, w₁, hq, harr⟩
  | goto l => exact harr.elim
  | panic ch => exact harr.elim
  | outgrown => exact harr.elim

theorem WpB.loop (K : Kit T) {cd : Code} (I : Act → World → Prop) (μ : Act → World → Nat) (h₀ : I a w)
    (round : ∀ a w, I a w → WpB T cd (Exit.then (fun a' w' => I a' w' ∧ μ a' w' < μ a w) Q) a w) : WpB T (.loop cd) Q a w := by
  intro c b k cs hat
  have key : ∀ n a w, μ a w = n → I a w → At T c (b.at a (.code cd :: .inLoop cd :: k)) cs w → ∃ e a' w', Q e a' w' ∧ ArrB T c b k cs e a' w' := by
    intro n
    induction n using Nat.strongRecOn with
    | _ n ih =>
      intro a w hn hI hat
      obtain ⟨e, a₁, w₁, hq, harr⟩ := round a w hI c b (.inLoop cd :: k) cs hat
      cases e with
      | normal =>
        obtain ⟨hI₁, hlt⟩ := hq
        exact ih (μ a₁ w₁) (hn ▸ hlt) a₁ w₁ rfl hI₁ (At.step K harr (fun _ => step_inLoop) (.inl rfl))
      | exit id => exact ⟨_, a₁, w₁, hq, harr.pass (x := .inLoop cd) rfl (by simp)⟩
      | ret => exact ⟨_, a₁, w₁, hq, harr⟩
      | goto l => exact harr.elim
      | panic ch => exact harr.elim
      | outgrown => exact harr.elim
  exact key _ a w rfl h₀ (hat.step K (fun _ => step_loop) (.inl rfl))
end rules

def CallsB (T : Two) (f : FuncId) (args : Array Value) (w : World) (R : Value → World → Prop) : Prop :=
  ∀ (c : Cfg) (H : Nat → Prop) (fr : Frame) (cs : List Frame), c.ok T H → Rel T H w c.W → (∀ x ∈ fr :: cs, okCaller T x) → c.g = G (Frame.enter T.P f args .normal) (fr :: cs) →
    ∃ v w', R v w' ∧ At T c (fr.finish v) cs w'

theorem CallsB.mono {f : FuncId} {args : Array Value} {R R' : Value → World → Prop} (h : CallsB T f args w R) (hr : ∀ v w, R v w → R' v w) : CallsB T f args w R' :=
  fun c H fr cs h1 h2 h3 h4 => let ⟨v, w', q, r⟩ := h c H fr cs h1 h2 h3 h4; ⟨v, w', hr _ _ q, r⟩
theorem At.of_to {c1 : Cfg} {fr : Frame} {cs : List Frame} (h : c.to T c1) (k : At T c1 fr cs w) : At T c fr cs w := by
  obtain ⟨H, c2, h1, h2⟩ := k
  exact ⟨H, c2, Cfg.to_trans h h1, h2⟩

theorem op_lone {P : Program} {b : Frame} {k : List Item} {cs : List Frame} {ops : Array Oper} {i : Nat} {rest : List Nat} {o : Oper} {next : Act → World → Prop}
    (ho : ops[i]? = some o) (hw : Region.wanted o (yielded ops a.tmps) = true) (h : o.wp P a w next (fun _ _ _ => False)) :
    ∃ a' w', next a' w' ∧ Steps P (lone (b.at a (.inRegion ops (i :: rest) :: k)) cs w) (lone (b.at a' (.inRegion ops rest :: k)) cs w') := by
  simp only [Oper.wp] at h
  have hg := stepG_op (P := P) (b := b) (k := k) (cs := cs) (w := w) (rest := rest) ho hw
  have hfin : ∀ (a : Act) v, (b.at a (.inRegion ops (i :: rest) :: k)).finish v = b.at (a.put o.dst v) (.inRegion ops rest :: k) := by
    intro a v
    rw [Frame.finish_at, ho]
    rfl
  generalize hr : (execOp a.eval o).run P w = r at h
  cases r with
  | halt x w' => cases x <;> exact h.elim
  | ok n w' =>
    cases n with
    | value v => exact ⟨_, w', h, .one (step_lone_go (by rw [hg, ← hfin]; simp [stepG.apply, hr]))⟩
    | skip => exact ⟨_, w', h, .one (step_lone_go (by rw [hg, ← hfin]; simp [stepG.apply, hr]))⟩
    | defer d =>
      refine ⟨_, w', h, .one (step_lone_go ?_)⟩
      rw [hg, ← hfin]
      simp only [stepG.apply, Sem.runT_eq, hr, GStep.bare_after]
      rfl
    | enter f args =>
      obtain ⟨e, w2, fr, hR, hs, _, hl⟩ := h (b.at a (.inRegion ops (i :: rest) :: k) :: cs)
      have henter : Go.step P (lone (b.at a (.inRegion ops (i :: rest) :: k)) cs w) = .next (lone (Frame.enter P f args .normal) (b.at a (.inRegion ops (i :: rest) :: k) :: cs) w') :=
        step_lone_go (by rw [hg]; simp [stepG.apply, hr, Frame.at])
      cases e with
      | returned v =>
        refine ⟨_, w2, hR, .head henter (Steps.trans hs (.one ?_))⟩
        rw [← hfin]
        exact step_leave_returned hl
      | panicked ch => exact hR.elim
      | outgrown => obtain ⟨_, _, x⟩ := hR; exact x.elim
    | row r args =>
      obtain ⟨v, w2, hR, hs⟩ := h (b.at a (.inRegion ops (i :: rest) :: k)) cs
      refine ⟨_, w2, hR, .head (step_lone_go (fr' := Frame.ofRow P r args .normal) (cs' := b.at a (.inRegion ops (i :: rest) :: k) :: cs) (w' := w') (by rw [hg]; simp [stepG.apply, hr, Frame.at])) ?_⟩
      rw [← hfin]
      exact hs
    | _ => exact h.elim

def OpB (T : Two) (o : Oper) (a : Act) (w : World) (next : Act → World → Prop) : Prop :=
  (∀ τ, o.wp T.pr a (ownTape w τ) next (fun _ _ _ => False)) ∨
    ∃ f args, (∀ W, (execOp a.eval o).run T.P W = .ok (.enter f args) W ∧ (execOp a.eval o).events T.P W #[] = #[]) ∧ CallsB T f args w (fun v w' => next (a.put o.dst v) w')

def OpsB (T : Two) (ops : Array Oper) (Q : Exit → Act → World → Prop) : List Nat → Act → World → Prop
  | [], a, w => Q .normal a w
  | i :: rest, a, w =>
    match ops[i]? with
    | none => OpsB T ops Q rest a w
    | some o => if Region.wanted o (yielded ops a.tmps) then OpB T o a w (OpsB T ops Q rest) else OpsB T ops Q rest (a.put o.dst undef) w

theorem At.enter {b : Frame} {k : List Item} {cs : List Frame} {ops : Array Oper} {i : Nat} {rest : List Nat} {o : Oper} {f : FuncId} {args : Array Value} {R : Value → World → Prop}
    (ho : ops[i]? = some o) (hw : Region.wanted o (yielded ops a.tmps) = true)
    (he : ∀ W, (execOp a.eval o).run T.P W = .ok (.enter f args) W ∧ (execOp a.eval o).events T.P W #[] = #[])
    (hf : CallsB T f args w R) (h : At T c (b.at a (.inRegion ops (i :: rest) :: k)) cs w) : ∃ v w', R v w' ∧ At T c (b.at (a.put o.dst v) (.inRegion ops rest :: k)) cs w' := by
  obtain ⟨H, c1, h1, h2, h3, h4, h5⟩ := h
  obtain ⟨d, hd⟩ := turns c1 h2
  have hg := stepG_op (P := T.P) (b := b) (k := k) (cs := cs) (w := c1.W.at d) (rest := rest) ho hw
  have hgo : stepG T.P true c1.g (c1.W.at d) = .go (G (Frame.enter T.P f args .normal) (b.at a (.inRegion ops (i :: rest) :: k) :: cs)) (c1.W.at d) #[] := by
    rw [h5]
    refine hg.trans ?_
    obtain ⟨e1, e2⟩ := he (c1.W.at d)
    simp [stepG.apply, Sem.runT_eq, e1, e2, Frame.at, G, seen, GStep.after]
  obtain ⟨c2, k1, k2, k3, k4⟩ := hd _ _ _ hgo rfl (Nat.le_refl _) (by simp)
  have hrel : Rel T H w c2.W := by
    rw [k4]
    exact ⟨h3.size, h3.os, h3.output, h3.out, h3.hid, h3.ok, h3.low, h3.grown⟩
  have hcs : ∀ x ∈ b.at a (.inRegion ops (i :: rest) :: k) :: cs, okCaller T x := by
    rw [h5] at h4
    intro x hx
    rcases List.mem_cons.1 hx with rfl | hx
    · exact ⟨h4.frame, rfl⟩
    · exact h4.callers x hx
  obtain ⟨v, w', hR, hat⟩ := hf c2 H _ cs k2 hrel hcs k3
  rw [Frame.finish_at, ho] at hat
  exact ⟨v, w', hR, hat.of_to (Cfg.to_trans h1 k1)⟩

section

theorem at_ops (K : Kit T) {ops : Array Oper} : ∀ (l : List Nat) (a : Act) (w : World), OpsB T ops Q l a w → ∀ (c : Cfg) (b : Frame) (k : List Item) (cs : List Frame), At T c (b.at a (.inRegion ops l :: k)) cs w →
    ∃ e a' w', Q e a' w' ∧ ArrB T c b k cs e a' w' := by
  intro l
  induction l with
  | nil => exact fun a w h c b k cs hat => ⟨.normal, a, w, h, At.step K hat (fun _ => step_region_end) (.inl rfl)⟩
  | cons i rest ih =>
    intro a w h c b k cs hat
    simp only [OpsB] at h
    cases ho : ops[i]? with
    | none =>
      rw [ho] at h
      refine ih a w h c b k cs (hat.step K (fun w => ?_) (.inl rfl))
      have hs := step_op_skip (P := T.pr) (b := b) (a := a) (k := k) (cs := cs) (w := w) (ops := ops) (i := i) (rest := rest) (by simp [ho])
      simpa only [ho, Option.bind_none, Act.put] using hs
    | some o =>
      rw [ho] at h
      dsimp only at h
      by_cases hw : Region.wanted o (yielded ops a.tmps) = true
      · rw [if_pos hw] at h
        rcases h with h | ⟨f, args, he, hf⟩
        · obtain ⟨fr', cs', w', ⟨a', hn, e1, e2⟩, hat'⟩ := hat.lift K (Post := fun fr' cs' w' => ∃ a', OpsB T ops Q rest a' w' ∧ fr' = b.at a' (.inRegion ops rest :: k) ∧ cs' = cs) (fun τ => by
            obtain ⟨a', w', hn, hs⟩ := op_lone (b := b) (k := k) (cs := cs) (rest := rest) ho hw (h τ)
            exact ⟨_, _, w', hs, .inl rfl, a', hn, rfl, rfl⟩)
          rw [e1, e2] at hat'
          exact ih _ _ hn c b k cs hat'
        · obtain ⟨v, w', hn, hat'⟩ := hat.enter ho hw he hf
          exact ih _ _ hn c b k cs hat'
      · rw [if_neg hw] at h
        refine ih _ w h c b k cs (hat.step K (fun w => ?_) (.inl rfl))
        have hs := step_op_skip (P := T.pr) (b := b) (a := a) (k := k) (cs := cs) (w := w) (ops := ops) (i := i) (rest := rest) (by simp [ho]; simpa using hw)
        simpa only [ho, Option.bind_some] using hs

theorem WpB.region (K : Kit T) {id : Nat} {ops : Array Oper} (h : OpsB T ops Q (List.range ops.size) a w) : WpB T (.region id ops false) Q a w :=
  fun c b k cs hat => at_ops K _ a w h c b k cs (hat.step K (fun _ => step_region) (.inl rfl))

def bodyB (P : Program) (fn : Func) (R : Value → World → Prop) : Exit → Act → World → Prop
  | .normal, a, w | .ret, a, w => a.defers = [] ∧ ∃ v, (∀ τ, (results fn a.tmps).run P (ownTape w τ) = .ok v (ownTape w τ)) ∧ R v w
  | _, _, _ => False

theorem CallsB.of_body (K : Kit T) {f : FuncId} {fn : Func} {cd : Code} {args : Array Value} {R : Value → World → Prop} (hf : T.pr.funcs[f]? = some fn) (hf' : T.P.funcs[f]? = some fn) (hb : fn.body = some cd)
    (hok : okCode T.P cd = true) (hi : T.P.inits.idxOf? f = none)
    (h : WpB T cd (bodyB T.pr fn R) { tmps := args ++ Array.replicate (fn.ntmps - args.size) undef, defers := [] } w) : CallsB T f args w R := by
  intro c H fr cs h1 h2 h3 h4
  obtain ⟨b, hbd⟩ : ∃ b : Frame, b = { (default : Frame) with fn := f, kind := .normal } := ⟨_, rfl⟩
  have henter : Frame.enter T.P f args .normal = b.at { tmps := args ++ Array.replicate (fn.ntmps - args.size) undef, defers := [] } [.code cd] := by
    simp [Frame.enter, Frame.at, hf', hb, hbd]
  have hkind : b.kind = .normal := by rw [hbd]
  have hfn : b.fn = f := by rw [hbd]
  rw [henter] at h4
  have hG : okGS T c.g := by
    rw [h4]
    refine ⟨rfl, rfl, ⟨fun it hit => ?_, fun d hd => (by cases hd), hkind, (by show T.P.inits.idxOf? b.fn = none; rw [hfn]; exact hi), fun _ => (by show ∃ fn, T.pr.funcs[b.fn]? = some fn ∧ T.P.funcs[b.fn]? = some fn; rw [hfn]; exact ⟨fn, hf, hf'⟩)⟩, h3, .inl rfl⟩
    obtain rfl : it = .code cd := by simpa [Frame.at, G] using hit
    exact hok
  obtain ⟨e, a', w', hq, harr⟩ := h c b [] (fr :: cs) (At.start h1 h2 hG h4)
  have last : ∀ todo, bodyB T.pr fn R .ret a' w' → At T c { b.at a' todo with mode := .returning } (fr :: cs) w' → ∃ v w', R v w' ∧ At T c (fr.finish v) cs w' := by
    intro todo ⟨hd, v, hr, hR⟩ hat
    refine ⟨v, w', hR, ?_⟩
    obtain ⟨_, _, w2, ⟨rfl, rfl, τ, rfl⟩, hat'⟩ := hat.lift K (Post := fun x y w2 => x = fr.finish v ∧ y = cs ∧ ∃ τ, w2 = ownTape w' τ) (fun τ =>
      ⟨_, _, _, .one (step_leave_returned ⟨rfl, hd, hkind, fn, by show T.pr.funcs[b.fn]? = _; rw [hfn]; exact hf, hr τ⟩), by
        left
        have := (h3 fr (by simp)).mode
        unfold Frame.finish
        split <;> exact this, rfl, rfl, τ, rfl⟩)
    exact hat'.tape rfl rfl rfl
  cases e with
  | normal => exact last [] hq (At.step K harr (fun _ => step_end) (.inr rfl))
  | ret => obtain ⟨todo, hat⟩ := harr; exact last todo hq hat
  | exit id => exact hq.elim
  | goto l => exact hq.elim
  | panic ch => exact hq.elim
  | outgrown => exact hq.elim

theorem CallsB.of_calls (K : Kit T) {f : FuncId} {args : Array Value} {R : Value → World → Prop} (hkept : ∃ fn, T.pr.funcs[f]? = some fn ∧ T.P.funcs[f]? = some fn) (hok : okFrame T (Frame.enter T.P f args .normal))
    (h : ∀ τ, Calls T.pr f args (ownTape w τ) fun | .returned v, w' => R v w' | _, _ => False) : CallsB T f args w R := by
  intro c H fr cs h1 h2 h3 h4
  have hsame : Frame.enter T.pr f args .normal = Frame.enter T.P f args .normal := by
    obtain ⟨fn, e1, e2⟩ := hkept
    simp [Frame.enter, e1, e2]
  have hG : okGS T c.g := by
    rw [h4]
    exact ⟨rfl, rfl, hok, h3, .inl rfl⟩
  obtain ⟨_, _, w', ⟨v, hR, rfl, rfl⟩, hat⟩ := (At.start h1 h2 hG h4).lift K (Post := fun x y w2 => ∃ v, R v w2 ∧ x = fr.finish v ∧ y = cs) (fun τ => by
    obtain ⟨e, w', fr', hR, hs, _, hl⟩ := h τ (fr :: cs)
    cases e with
    | returned v =>
      rw [hsame] at hs
      refine ⟨_, _, w', Steps.trans hs (.one (step_leave_returned hl)), ?_, v, hR, rfl, rfl⟩
      left
      have := (h3 fr (by simp)).mode
      unfold Frame.finish
      split <;> exact this
    | panicked ch => exact hR.elim
    | outgrown => exact hR.elim)
  exact ⟨v, w', hR, hat⟩
end
end
end

section
open Go.Conc
open Go.ConcN (sumTo)

def OnlyReads (H : Nat → Prop) (B : Nat) (w w' : World) (es : Array Event) : Prop := ∀ e ∈ es, Fine H B e

theorem onlyReads_terms (H : Nat → Prop) (B : Nat) : Terms AtRel (OnlyReads H B) := ⟨atRel_trans, fun w e he => by simp at he⟩

theorem CallsB.of_callsC_at {T : Two} {f : FuncId} {args : Array Value} {w : World} {R : Value → Prop} {n : Nat} {c : Cfg} {H : Nat → Prop} {fr : Frame} {cs : List Frame}
    (h : CallsC T.P true AtRel (OnlyReads H c.W.heap.size) f args n c.W (fun v W' => AtRel c.W W' ∧ R v)) (h1 : c.ok T H) (h2 : Rel T H w c.W) (h3 : ∀ x ∈ fr :: cs, okCaller T x)
    (h4 : c.g = G (Frame.enter T.P f args .normal) (fr :: cs)) : ∃ v w', (w' = w ∧ R v) ∧ At T c (fr.finish v) cs w' := by
  have Tm := onlyReads_terms H c.W.heap.size
  obtain ⟨fn, cd, hf, hname, hbody, hwp⟩ := h
  obtain ⟨Stop, hStop⟩ : ∃ Stop : Goroutine → World → Prop, Stop = fun a' w' => ∃ v, a' = G (fr.finish v) cs ∧ AtRel c.W w' ∧ R v := ⟨_, rfl⟩
  have hleave : ∀ (a' : Act) (w' : World) (todo : List Item), (a'.defers = [] ∧ ∃ v, ResultsC T.P fn a'.tmps v ∧ AtRel c.W w' ∧ R v) →
      Goes T.P true AtRel (OnlyReads H c.W.heap.size) Stop 1 (G { (base f).at a' todo with mode := .returning } (fr :: cs)) w' := by
    rintro a' w' todo ⟨hd, v, hr, hat, hp⟩
    refine Goes.step rfl fun w₁ h₁ => ?_
    rw [stepG_leave (b := base f) rfl hd hf (hr w₁).1 (hr w₁).2]
    refine ⟨Tm.idle _, Goes.stop fun w₂ h₂ => ?_⟩
    rw [hStop]
    exact ⟨v, rfl, atRel_trans _ _ _ hat (atRel_trans _ _ _ h₁ h₂), hp⟩
  have henter : Frame.enter T.P f args .normal = (base f).at { tmps := args ++ Array.replicate (fn.ntmps - args.size) undef, defers := [] } [.code cd] := by
    simp [Frame.enter, Frame.at, hf, hbody, base]
  have hgoes : Goes T.P true AtRel (OnlyReads H c.W.heap.size) Stop (2 + n) c.g c.W := by
    rw [h4, henter]
    refine hwp (base f) [] _ Stop 2 rfl (by simp [base]) fun e a' w' q => ?_
    cases e with
    | normal => exact Goes.step rfl fun w₁ h₁ => by rw [stepG_end]; exact ⟨Tm.idle _, (hleave a' w' [] q).rely Tm.trans h₁⟩
    | ret => exact fun todo => (hleave a' w' todo q).more
    | exit id => exact q.elim
    | goto l => exact q.elim
    | panic ch => exact q.elim
    | outgrown => exact q.elim
  obtain ⟨N, gs', a', w', sl', t', q', hrun, hsz, h0, hs, hL, hP⟩ := walk_beside (P := T.P) (Shun := ShunH H) (B := c.W.heap.size) (D := OnlyReads H c.W.heap.size) (Stop := Stop)
    (fun w w' es hd e he => evL_of_fine (hd e he)) _ (2 + n) c.gs c.g c.W c.sl c.t c.q (Nat.le_refl _) h1.at0 h1.leave h1.past hgoes
  rw [hStop] at hs
  obtain ⟨v, rfl, ⟨d, rfl⟩, hR⟩ := hs
  refine ⟨v, w, ⟨rfl, hR⟩, H, ⟨gs', G (fr.finish v) cs, c.W.at d, sl', t', q'⟩, ⟨N, hrun, Nat.le_of_eq hsz.symm⟩, ⟨h0, rfl, hL, hP⟩, ⟨h2.size, h2.os, h2.output, h2.out, h2.hid, h2.ok, h2.low, h2.grown⟩, ?_, rfl⟩
  have hfr := h3 fr (by simp)
  refine ⟨rfl, rfl, ok_finish hfr.frame v, fun x hx => h3 x (List.mem_cons_of_mem _ hx), .inl ?_⟩
  exact (finish_mode fr v).trans hfr.mode
end

end Go.Proofs.YtfiaiephbemdoaaDoor
