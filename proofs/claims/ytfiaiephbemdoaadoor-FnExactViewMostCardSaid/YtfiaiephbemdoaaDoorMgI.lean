/-
  What the laws of this claim lean on: what functions of the program and of the model answer, one after another, and plain mathematics. No condition.
-/
import Derived.Test.YtfiaiephbemdoaaDoorMgE
import Derived.Test.YtfiaiephbemdoaaDoorMgF
import Derived.Test.YtfiaiephbemdoaaDoorMgH
import Derived.Conc.WgGenN3
import Derived.Conc.CompanyWords
import Derived.Conc.CompanyMem
import Derived.Laws.MakeOwn
import Derived.Conc.AppendWalk
import Derived.Conc.SmallLaws

set_option maxHeartbeats 800000
set_option linter.unusedVariables false
set_option linter.unusedSimpArgs false
set_option linter.unnecessarySimpa false
set_option maxRecDepth 100000

namespace Go.Proofs.YtfiaiephbemdoaaDoor

section
open Go.Conc Go.RowKit
open Go.ConcN (WgLive)

structure Tk (Φ : Ph) (k bx b off : Nat) (ys : List Int) (S : World → Prop) (w : World) : Prop where
  rbx : Φ.Rd k bx
  box : w.cell? ⟨bx, 0, none⟩ = some (.int .i64 ys.length)
  one : Lk Φ k b off ys w
  held : S w
  stays : ∀ w w₁, RW Φ k w w₁ → S w → S w₁
theorem Tk.rely {Φ : Ph} {k bx b off : Nat} {ys : List Int} {S : World → Prop} {w w₁ : World} (h : Tk Φ k bx b off ys S w) (r : RW Φ k w w₁) : Tk Φ k bx b off ys S w₁ :=
  ⟨h.rbx, (cell_eq (r.rd _ h.rbx)).trans h.box, h.one.rely r, h.stays _ _ r h.held, h.stays⟩

set_option maxRecDepth 100000 in
set_option maxHeartbeats 4000000 in
theorem askTogether {Φ : Ph} {k : Nat} : ∃ m, ∀ (S : World → Prop) (bx b off cap : Nat) (ys : List Int) (x y number : Nat), x < ys.length → y < ys.length → ys.length ≤ 8 → number / ys.length = x → number % ys.length = y → number < 64 → ∀ w, Tk Φ k bx b off ys S w →
    CallsC Tryd.prog false (RW Φ k) (DW Φ k) 32 #[.slice (some ⟨b, off, none⟩) ys.length cap, .int .i64 number, .pointer (some ⟨bx, 0, none⟩)] m w fun v w' => S w' ∧ v = .int .i64 (if ys.getD x 0 = ys.getD y 0 then 1 else 0) := by
  have T := termsW Φ k
  co_apply Exists.intro
  intro S bx b off cap ys x y number hx hy h8 hdx hmy hnu w₀ hF
  have q1 : ((number : Int)).tdiv (ys.length : Int) = (x : Int) := by rw [Int.tdiv_eq_ediv_of_nonneg (by omega), ← hdx]; exact (Int.natCast_ediv ..).symm
  have q2 : ((number : Int)).tmod (ys.length : Int) = (y : Int) := by rw [Int.tmod_eq_emod_of_nonneg (by omega), ← hmy]; exact (Int.natCast_emod ..).symm
  have q3 : (number : Int) / (ys.length : Int) = (x : Int) := by rw [← hdx]; exact (Int.natCast_ediv ..).symm
  have q4 : (number : Int) % (ys.length : Int) = (y : Int) := by rw [← hmy]; exact (Int.natCast_emod ..).symm
  have z0 : ¬ ((ys.length : Int) = 0) := by omega
  have z1 : ¬ (ys.length = 0) := by omega
  have z2 : ¬ (ys = []) := by intro e; subst e; simp at hx
  have w1 : IntKind.i64.wrap (x : Int) = x := by rw [IntKind.wrap_i64]; omega
  have w2 : IntKind.i64.wrap (y : Int) = y := by rw [IntKind.wrap_i64]; omega
  have zx : (0 : Int) ≤ x ∧ (x : Int) < ys.length := ⟨by omega, by omega⟩
  have zy : (0 : Int) ≤ y ∧ (y : Int) < ys.length := ⟨by omega, by omega⟩
  clear hdx hmy
  co_apply callsC_of_wpC Tryd.func32 (by rfl) rfl
  simp only [Tryd.ntmps32, List.size_toArray, List.length_cons, List.length_nil, Nat.reduceAdd, Nat.reduceSub, Array.replicate_succ, Array.replicate_zero, List.push_toArray, List.append_toArray, List.nil_append, List.cons_append]
  co_stmt T Tk.rely hF (co_quiet T)
  co_apply wpC_seq T
  co_apply wpC_seq T
  co_held T drawW ownW (Tk Φ k bx b off ys S) Tk.rely hF
  co_take 0 T Tk.rely hF hw (skip) (co_quiet T)
  co_take 1 T Tk.rely hF hw (skip) (co_quiet T)
  co_take 2 T Tk.rely hF hw (have hc := hw.box; have hr := hw.rbx) (refine ⟨⟨_, rfl⟩, ?_⟩; co_evs (exact ⟨_, rfl, hr⟩))
  co_take 3 T Tk.rely hF hw (skip) (co_still T)
  co_take 4 T Tk.rely hF hw (skip) (co_still T)
  co_take 5 T Tk.rely hF hw (have hc := hw.one.at' x hx; have hr := hw.one.rd) (refine ⟨⟨_, rfl⟩, ?_⟩; co_evs (exact ⟨_, rfl, hr⟩))
  co_take 6 T Tk.rely hF hw (skip) (co_quiet T)
  co_take 7 T Tk.rely hF hw (skip) (co_quiet T)
  co_take 8 T Tk.rely hF hw (have hc := hw.box; have hr := hw.rbx) (refine ⟨⟨_, rfl⟩, ?_⟩; co_evs (exact ⟨_, rfl, hr⟩))
  co_take 9 T Tk.rely hF hw (skip) (co_still T)
  co_take 10 T Tk.rely hF hw (skip) (co_still T)
  co_take 11 T Tk.rely hF hw (have hc := hw.one.at' y hy; have hr := hw.one.rd) (refine ⟨⟨_, rfl⟩, ?_⟩; co_evs (exact ⟨_, rfl, hr⟩))
  co_take 12 T Tk.rely hF hw (skip) (co_quiet T)
  co_done
  co_apply wpC_cond_split T (t := decide (ys.getD x 0 = ys.getD y 0))
  focus
    simp [Act.eval, List.getElem?_eq_getElem, hx, hy]
    by_cases h : ys[x] = ys[y] <;> simp [h]
  · intro ht
    have ht' := of_decide_eq_true ht
    clear ht
    co_go T Tk.rely hF (co_quiet T)
    exact ⟨rfl, _, resultsC_tmp (by rfl) _, hF.held, by rw [if_pos ht']; rfl⟩
  · intro ht
    have ht' := of_decide_eq_false ht
    clear ht
    co_go T Tk.rely hF (co_quiet T)
    exact ⟨rfl, _, resultsC_tmp (by rfl) _, hF.held, by rw [if_neg ht']; rfl⟩
end

section
open Go.Conc Go.RowKit Go.Conc.Lib Go.ConcR.Gen Go.ConcN.Gen
open Go.ConcN (WgLive st_flag st_waiters)
open Go.ConcR (KK WgAt stA smA rd wr mk DC0)

theorem tf_rely {Φ : Ph} {j : Nat} {F : World → Prop} (hF2 : ∀ w w', RM Φ j w w' → F w → F w') {w w₁ : World} (h : F w ∧ WgLive Φ.ty Φ.Wg w) (r : RM Φ j w w₁) : F w₁ ∧ WgLive Φ.ty Φ.Wg w₁ := ⟨hF2 _ _ r h.1, r.live h.2⟩

section
variable {Φ : Ph} {L : WgLink} {j : Nat} {Next : Goroutine → World → Prop} {F : World → Prop}
  {b₀ : Frame} {a₀ : Act} {ops₀ : Array Oper} {i₀ : Nat} {rest₀ : List Nat} {k₀ : List Item} {cs : List Frame} {mT : Nat}

set_option maxRecDepth 100000 in
set_option maxHeartbeats 16000000 in
theorem add_t (H : WgLib Φ.P L) (hty : Φ.ty = L.tWg) (hF2 : ∀ w w', RM Φ j w w' → F w → F w')
    (hT : ∀ w, F w → WgLive Φ.ty Φ.Wg w → Goes Φ.P true (RM Φ j) (DM Φ j) (AtGoS Φ j Next) mT (G (b₀.at (a₀.put ((ops₀[i₀]?).bind (·.dst)) (.tuple #[])) (.inRegion ops₀ rest₀ :: k₀)) cs) w)
    (w : World) (hF : F w ∧ WgLive Φ.ty Φ.Wg w) :
    Goes Φ.P true (RM Φ j) DC0 (AtKdS Φ j Next) 40
      (G ((base L.add).at ⟨#[.pointer (some ⟨Φ.Wg, 0, none⟩), .int .i64 1, undef, undef, undef, undef, undef, undef, undef, undef, undef, undef, undef, undef, undef, undef, undef, undef, undef, undef, undef, undef, undef, undef, undef, undef, undef, undef, undef, undef, undef, undef, undef, undef, undef, undef, undef, undef, undef, undef, undef, undef, undef, undef, undef, undef, undef, undef, undef, undef, undef, undef, undef, undef, undef, undef, undef, undef, undef, undef, undef, undef, undef, undef, undef, undef, undef, undef, undef, undef, undef, undef, undef, undef, undef, undef, undef, undef, undef, undef, undef, undef, undef, undef, undef, undef, undef, undef, undef, undef, undef, undef, undef, undef, undef, undef, undef, undef, undef, undef, undef, undef, undef, undef, undef, undef, undef, undef, undef, undef, undef, undef, undef, undef, undef, undef, undef], []⟩ [.code (body_add L)]) (b₀.at a₀ (.inRegion ops₀ (i₀ :: rest₀) :: k₀) :: cs)) w := by
  lib_facts
  simp only [body_add, addFn, Option.getD_some]
  iterate 12 (first
    | u_c stepG_seq (tf_rely hF2) hF
    | u_c stepG_region_end (tf_rely hF2) hF
    | u_c stepG_skip (tf_rely hF2) hF
    | u_c stepG_ret' (tf_rely hF2) hF
    | u_reg (tf_rely hF2) hF
    | (u_in (tf_rely hF2) hF; rw [stepG_cond (t := true)]; rotate_left; (first | rfl); simp only [goes_go, if_true, if_false, Bool.false_eq_true, reduceIte]; refine ⟨by u_nil, ?_⟩)
    | (u_in (tf_rely hF2) hF; rw [stepG_cond (t := false)]; rotate_left; (first | rfl); simp only [goes_go, if_true, if_false, Bool.false_eq_true, reduceIte]; refine ⟨by u_nil, ?_⟩)
    | u_skip (tf_rely hF2) hF
    | u_defer (tf_rely hF2) hF
    | u_bub (tf_rely hF2) hF
    | u_op (tf_rely hF2) hF
    | u_leave1 H.f_uAdd (tf_rely hF2) hF
    | u_call H.f_uAdd (nm_uAdd L) uAddFn (tf_rely hF2) hF)
  refine Goes.stop (fun w₁ h₁ => ?_)
  replace hF := tf_rely hF2 hF h₁
  clear h₁
  refine ⟨rfl, _, stepG_mark0 .disable (by simp) rfl rfl (by k_ne) rfl H.f_disable (x_disable_n L) (x_disable_b L) (x_disable_x L) (x_disable_f L), 80, ?_⟩
  walk_nrm
  iterate 34 (first
    | u_c stepG_seq (tf_rely hF2) hF
    | u_c stepG_region_end (tf_rely hF2) hF
    | u_c stepG_skip (tf_rely hF2) hF
    | u_c stepG_ret' (tf_rely hF2) hF
    | u_reg (tf_rely hF2) hF
    | (u_in (tf_rely hF2) hF; rw [stepG_cond (t := true)]; rotate_left; (first | rfl); simp only [goes_go, if_true, if_false, Bool.false_eq_true, reduceIte]; refine ⟨by u_nil, ?_⟩)
    | (u_in (tf_rely hF2) hF; rw [stepG_cond (t := false)]; rotate_left; (first | rfl); simp only [goes_go, if_true, if_false, Bool.false_eq_true, reduceIte]; refine ⟨by u_nil, ?_⟩)
    | u_skip (tf_rely hF2) hF
    | u_defer (tf_rely hF2) hF
    | u_bub (tf_rely hF2) hF
    | u_op (tf_rely hF2) hF
    | u_leave1 H.f_uAdd (tf_rely hF2) hF
    | u_call H.f_uAdd (nm_uAdd L) uAddFn (tf_rely hF2) hF)
  refine Goes.stop (fun w₂ h₂ => ?_)
  replace hF := tf_rely hF2 hF h₂
  clear h₂
  refine ⟨rfl, fun v hv hw => ?_⟩
  rw [hty] at hw
  rcases Nat.eq_zero_or_pos v with rfl | hvp
  · replace hw : WgAt L.tWg Φ.Wg w₂ 0 0 := by simpa using hw
    have z : (((0 : Nat) : Int) + 1) * KK = KK := by simp
    rw [z]
    have e0 : IntKind.u64.wrap (0 + 4294967296) = KK := by decide
    refine ⟨_, (stepG_add_atomic rfl rfl (by k_ne) rfl H.f_addU64 (x_addU64_n L) (x_addU64_b L) (x_addU64_x L) .u64 (x_addU64_f L) rfl rfl hw.cellSt (hw.thaw 0)).trans (by rw [e0]; rfl), fun _ => ⟨140, ?_⟩, fun h => absurd rfl h⟩
    replace hF : F (w₂.setCell (stA Φ.Wg) (.int .u64 KK)) ∧ WgLive Φ.ty Φ.Wg (w₂.setCell (stA Φ.Wg) (.int .u64 KK)) := by
      have h2 : WgAt Φ.ty Φ.Wg (w₂.setCell (stA Φ.Wg) (.int .u64 KK)) KK 0 := by rw [hty]; exact hw.setSt _
      exact ⟨hF2 _ _ (RM.of_wg rfl h2) hF.1, _, _, h2⟩
    clear hw
    simp only [KK] at hF ⊢
    walk_nrm
    u_op (tf_rely hF2) hF
    u_c stepG_region_end (tf_rely hF2) hF
    u_c stepG_ret' (tf_rely hF2) hF
    u_leave1 H.f_uAdd (tf_rely hF2) hF
    iterate 48 (first
      | u_c stepG_seq (tf_rely hF2) hF
      | u_c stepG_region_end (tf_rely hF2) hF
      | u_c stepG_skip (tf_rely hF2) hF
      | u_reg (tf_rely hF2) hF
      | (u_in (tf_rely hF2) hF; rw [stepG_cond (t := true)]; rotate_left; (first | rfl); simp only [goes_go, if_true, if_false, Bool.false_eq_true, reduceIte]; refine ⟨by u_nil, ?_⟩)
      | (u_in (tf_rely hF2) hF; rw [stepG_cond (t := false)]; rotate_left; (first | rfl); simp only [goes_go, if_true, if_false, Bool.false_eq_true, reduceIte]; refine ⟨by u_nil, ?_⟩)
      | u_skip (tf_rely hF2) hF
      | u_defer (tf_rely hF2) hF
      | u_bub (tf_rely hF2) hF
      | u_op (tf_rely hF2) hF)
    u_in (tf_rely hF2) hF
    refine goes_oper_k rfl rfl (by k_ne) (fun Kx hKx => ?_)
    have hcv := run_convert_to_unsafe (P := Φ.P) H.underlying_tPU32 H.underlying_tUP H.room_tU32 (WgLive.cell1 hF.2).choose_spec
    have hce := fun es => events_convert_to_unsafe (P := Φ.P) H.underlying_tPU32 H.underlying_tUP H.room_tU32 (WgLive.cell1 hF.2).choose_spec es
    go_simp
    refine hKx _ _ ⟨?_, ?_⟩
    · u_none
      intro ex hex
      have hmx := mem_listed hex
      simp [go_sem, hce] at hmx
    clear hKx Kx hcv hce
    refine Goes.stop (fun w₃ h₃ => ?_)
    replace hF := tf_rely hF2 hF h₃
    clear h₃
    refine ⟨rfl, _, stepG_markAt .read (by simp) rfl rfl (by k_ne) rfl H.f_raceRead (x_raceRead_n L) (x_raceRead_b L) (x_raceRead_x L) (x_raceRead_f L) (ad := ⟨Φ.Wg, 1, none⟩) (by simp [Act.eval]), 80, ?_⟩
    walk_nrm
    iterate 38 (first
      | u_c stepG_seq (tf_rely hF2) hF
      | u_c stepG_region_end (tf_rely hF2) hF
      | u_c stepG_skip (tf_rely hF2) hF
      | u_reg (tf_rely hF2) hF
      | (u_in (tf_rely hF2) hF; rw [stepG_cond (t := true)]; rotate_left; (first | rfl); simp only [goes_go, if_true, if_false, Bool.false_eq_true, reduceIte]; refine ⟨by u_nil, ?_⟩)
      | (u_in (tf_rely hF2) hF; rw [stepG_cond (t := false)]; rotate_left; (first | rfl); simp only [goes_go, if_true, if_false, Bool.false_eq_true, reduceIte]; refine ⟨by u_nil, ?_⟩)
      | u_skip (tf_rely hF2) hF
      | u_defer (tf_rely hF2) hF
      | u_bub (tf_rely hF2) hF
      | u_op (tf_rely hF2) hF)
    u_c stepG_ret' (tf_rely hF2) hF
    refine Goes.stop (fun w₃ h₃ => ?_)
    replace hF := tf_rely hF2 hF h₃
    clear h₃
    refine ⟨rfl, _, stepG_unwind_entry (v := .tuple #[]) (evs := #[mk .enable]) rfl H.f_enable (x_enable_n L) (x_enable_b L) (x_enable_x L) (x_enable_f L) (by simp [Extern.Race.none_]) (by simp [mk]) (by simp [mk]), mT + 1, ?_⟩
    u_in (tf_rely hF2) hF
    refine goes_leave0 rfl rfl H.f_add rfl ⟨dm_nil, ?_⟩
    walk_nrm
    exact hT _ hF.1 hF.2
  · obtain ⟨V, hV⟩ : ∃ V : Int, V = (v : Int) + 1 := ⟨_, rfl⟩
    obtain ⟨S, hS⟩ : ∃ S : Int, S = V * KK := ⟨_, rfl⟩
    have eS : IntKind.u64.wrap ((v : Int) * KK + 4294967296) = S := by rw [IntKind.wrap_u64, hS, hV]; simp only [KK]; omega
    rw [← hV, ← hS]
    have a1 : S / 4294967296 = V := by rw [hS]; simp only [KK]; omega
    have b1 : bits .and .u64 S 2147483648 = 0 := by rw [hS, hV]; have := st_flag (v + 1) 0 (by omega) (by omega); simpa [KK] using this
    have b2 : bits .and .u64 S 2147483647 = 0 := by rw [hS, hV]; have := st_waiters (v + 1) 0 (by omega) (by omega); simpa [KK] using this
    have c1 : IntKind.i32.wrap V = V := by rw [IntKind.wrap_i32]; omega
    have hV1 : 1 < V := by omega
    have hV2 : V < 2147483648 := by omega
    have q1 : (V == 1) = false := by simp; omega
    have q2 : decide (V = 1) = false := decide_eq_false (by omega)
    have q3 : decide (V < 0) = false := decide_eq_false (by omega)
    have q4 : decide (0 < V) = true := decide_eq_true (by omega)
    have q5 : (V == 0) = false := by simp; omega
    have q6 : decide (V = 0) = false := decide_eq_false (by omega)
    refine ⟨_, (stepG_add_atomic rfl rfl (by k_ne) rfl H.f_addU64 (x_addU64_n L) (x_addU64_b L) (x_addU64_x L) .u64 (x_addU64_f L) rfl rfl hw.cellSt (hw.thaw 0)).trans (by rw [eS]; rfl), fun h => absurd h (by omega), fun _ => ⟨140, ?_⟩⟩
    replace hF : F (w₂.setCell (stA Φ.Wg) (.int .u64 S)) ∧ WgLive Φ.ty Φ.Wg (w₂.setCell (stA Φ.Wg) (.int .u64 S)) := by
      have h2 : WgAt Φ.ty Φ.Wg (w₂.setCell (stA Φ.Wg) (.int .u64 S)) S 0 := by rw [hty]; exact hw.setSt _
      exact ⟨hF2 _ _ (RM.of_wg rfl h2) hF.1, _, _, h2⟩
    clear hw hS hV eS
    walk_nrm
    u_op (tf_rely hF2) hF
    u_c stepG_region_end (tf_rely hF2) hF
    u_c stepG_ret' (tf_rely hF2) hF
    u_leave1 H.f_uAdd (tf_rely hF2) hF
    iterate 82 (first
      | u_c stepG_seq (tf_rely hF2) hF
      | u_c stepG_region_end (tf_rely hF2) hF
      | u_c stepG_skip (tf_rely hF2) hF
      | u_reg (tf_rely hF2) hF
      | (u_in (tf_rely hF2) hF; rw [stepG_cond (t := true)]; rotate_left; (first | rfl | (simp [Act.eval]; done) | (simp [Act.eval]; omega)); simp only [goes_go, if_true, if_false, Bool.false_eq_true, reduceIte]; refine ⟨by u_nil, ?_⟩)
      | (u_in (tf_rely hF2) hF; rw [stepG_cond (t := false)]; rotate_left; (first | rfl | (simp [Act.eval]; done) | (simp [Act.eval]; omega)); simp only [goes_go, if_true, if_false, Bool.false_eq_true, reduceIte]; refine ⟨by u_nil, ?_⟩)
      | u_skip (tf_rely hF2) hF
      | u_defer (tf_rely hF2) hF
      | u_bub (tf_rely hF2) hF
      | u_op (tf_rely hF2) hF)
    u_c stepG_ret' (tf_rely hF2) hF
    refine Goes.stop (fun w₃ h₃ => ?_)
    replace hF := tf_rely hF2 hF h₃
    clear h₃
    refine ⟨rfl, _, stepG_unwind_entry (v := .tuple #[]) (evs := #[mk .enable]) rfl H.f_enable (x_enable_n L) (x_enable_b L) (x_enable_x L) (x_enable_f L) (by simp [Extern.Race.none_]) (by simp [mk]) (by simp [mk]), mT + 1, ?_⟩
    u_in (tf_rely hF2) hF
    refine goes_leave0 rfl rfl H.f_add rfl ⟨dm_nil, ?_⟩
    walk_nrm
    exact hT _ hF.1 hF.2
end
end

section
open Go.Conc Go.RowKit Go.Conc.Lib Go.ConcR.Gen Go.ConcN.Gen
open Go.ConcN (WgLive st_flag st_waiters)
open Go.ConcR (KK WgAt stA smA rd wr mk DC0)

theorem goes_up {P : Program} {main : Bool} {R : World → World → Prop} {D : World → World → Array Event → Prop} {S : Goroutine → World → Prop} {n : Nat} {g : Goroutine} {w : World} (h : Goes P main R D S n g w) : ∀ k, Goes P main R D S (k + n) g w
  | 0 => by rw [Nat.zero_add]; exact h
  | k + 1 => by rw [show k + 1 + n = (k + n) + 1 by omega]; exact (goes_up h k).more

theorem goes_glue {Φ : Ph} {i j mT : Nat} {S : Goroutine → World → Prop} : ∀ (m : Nat) {g : Goroutine} {w : World}, Goes Φ.P true (RM Φ i) DC0 (fun g w => Goes Φ.P true (RM Φ i) (DM Φ j) S mT g w) m g w → Goes Φ.P true (RM Φ i) (DM Φ j) S (m + mT) g w
  | 0, g, w, h => by rw [Nat.zero_add]; exact h w (RM.refl w)
  | m + 1, g, w, h => by
    rcases h with h | ⟨hr, h⟩
    · exact goes_up (h w (RM.refl w)) (m + 1)
    · rw [show m + 1 + mT = (m + mT) + 1 by omega]
      refine .inr ⟨hr, fun w₁ h₁ => ?_⟩
      obtain ⟨g', w', es, e, ⟨rfl, rfl⟩, hn⟩ := goes_elim (h w₁ h₁)
      rw [e]
      exact ⟨dm_nil, goes_glue m hn⟩

def AnchT (Φ : Ph) (L : WgLink) (F : World → Prop) (c : Frame) (cs : List Frame) (g : Goroutine) (w : World) : Prop :=
  ∃ T : Array Value, g = G ((base L.wait).at ⟨T, []⟩ [.code (L7 L), .inLoop (L7 L), .inBlock 0]) (c :: cs) ∧ T.size = 84 ∧ T[0]? = some (.pointer (some ⟨Φ.Wg, 0, none⟩)) ∧ F w ∧ WgLive Φ.ty Φ.Wg w

theorem arr84 (T : Array Value) (h : T.size = 84) : ∃ v0 v1 v2 v3 v4 v5 v6 v7 v8 v9 v10 v11 v12 v13 v14 v15 v16 v17 v18 v19 v20 v21 v22 v23 v24 v25 v26 v27 v28 v29 v30 v31 v32 v33 v34 v35 v36 v37 v38 v39 v40 v41 v42 v43 v44 v45 v46 v47 v48 v49 v50 v51 v52 v53 v54 v55 v56 v57 v58 v59 v60 v61 v62 v63 v64 v65 v66 v67 v68 v69 v70 v71 v72 v73 v74 v75 v76 v77 v78 v79 v80 v81 v82 v83, T = #[v0, v1, v2, v3, v4, v5, v6, v7, v8, v9, v10, v11, v12, v13, v14, v15, v16, v17, v18, v19, v20, v21, v22, v23, v24, v25, v26, v27, v28, v29, v30, v31, v32, v33, v34, v35, v36, v37, v38, v39, v40, v41, v42, v43, v44, v45, v46, v47, v48, v49, v50, v51, v52, v53, v54, v55, v56, v57, v58, v59, v60, v61, v62, v63, v64, v65, v66, v67, v68, v69, v70, v71, v72, v73, v74, v75, v76, v77, v78, v79, v80, v81, v82, v83] := Go.ConcR.Gen.array84 T h

section
variable {Φ : Ph} {L : WgLink} {F : World → Prop} {b₀ : Frame} {a₀ : Act} {ops₀ : Array Oper} {i₀ : Nat} {rest₀ : List Nat} {k₀ : List Item} {cs : List Frame} {mT : Nat}

set_option maxRecDepth 100000 in
set_option maxHeartbeats 16000000 in
theorem round_t (H : WgLib Φ.P L) (hty : Φ.ty = L.tWg) (hA : ∀ g w, AnchT Φ L F (b₀.at a₀ (.inRegion ops₀ (i₀ :: rest₀) :: k₀)) cs g w → Φ.Anch g w) (hF2 : ∀ w w', RM Φ Φ.n w w' → F w → F w')
    (hT : ∀ w, F w → WgLive Φ.ty Φ.Wg w → Goes Φ.P true (RM Φ Φ.n) (DM Φ Φ.n) Φ.Fin mT (G (b₀.at (a₀.put ((ops₀[i₀]?).bind (·.dst)) (.tuple #[])) (.inRegion ops₀ rest₀ :: k₀)) cs) w)
    (g : Goroutine) (w : World) (h : AnchT Φ L F (b₀.at a₀ (.inRegion ops₀ (i₀ :: rest₀) :: k₀)) cs g w) : ∃ m, Goes Φ.P true (RM Φ Φ.n) DC0 (AtW1 Φ) m g w := by
  lib_facts
  obtain ⟨T, rfl, hT84, t0, hF⟩ := h
  obtain ⟨v0, v1, v2, v3, v4, v5, v6, v7, v8, v9, v10, v11, v12, v13, v14, v15, v16, v17, v18, v19, v20, v21, v22, v23, v24, v25, v26, v27, v28, v29, v30, v31, v32, v33, v34, v35, v36, v37, v38, v39, v40, v41, v42, v43, v44, v45, v46, v47, v48, v49, v50, v51, v52, v53, v54, v55, v56, v57, v58, v59, v60, v61, v62, v63, v64, v65, v66, v67, v68, v69, v70, v71, v72, v73, v74, v75, v76, v77, v78, v79, v80, v81, v82, v83, rfl⟩ := arr84 T hT84
  simp only [List.getElem?_toArray, List.getElem?_cons_zero, Option.some.injEq] at t0
  subst t0
  refine ⟨60, ?_⟩
  simp only [L7, body_wait, waitFn, Option.getD_some]
  repeat (first
    | u_c stepG_seq (tf_rely hF2) hF
    | u_c stepG_region_end (tf_rely hF2) hF
    | u_c stepG_skip (tf_rely hF2) hF
    | u_c stepG_block (tf_rely hF2) hF
    | u_c stepG_loop (tf_rely hF2) hF
    | u_c stepG_inLoop (tf_rely hF2) hF
    | u_c stepG_inBlock (tf_rely hF2) hF
    | u_reg (tf_rely hF2) hF
    | (u_in (tf_rely hF2) hF; rw [stepG_cond (t := true)]; rotate_left; (first | rfl); simp only [goes_go, if_true, if_false, Bool.false_eq_true, reduceIte]; refine ⟨by u_nil, ?_⟩)
    | (u_in (tf_rely hF2) hF; rw [stepG_cond (t := false)]; rotate_left; (first | rfl); simp only [goes_go, if_true, if_false, Bool.false_eq_true, reduceIte]; refine ⟨by u_nil, ?_⟩)
    | u_skip (tf_rely hF2) hF
    | u_op (tf_rely hF2) hF
    | u_call H.f_uLoad (nm_uLoad L) uLoadFn (tf_rely hF2) hF)
  refine Goes.stop (fun w₁ h₁ => ?_)
  replace hF := tf_rely hF2 hF h₁
  clear h₁
  refine ⟨rfl, fun v hv hw => ?_⟩
  rw [hty] at hw
  rcases Nat.eq_zero_or_pos v with rfl | hvp
  · replace hw : WgAt L.tWg Φ.Wg w₁ 0 0 := by simpa using hw
    refine ⟨_, stepG_load_atomic (v := 0) rfl rfl (by k_ne) rfl H.f_loadU64 (x_loadU64_n L) (x_loadU64_b L) (x_loadU64_x L) .u64 (x_loadU64_f L) rfl hw.cellSt, fun _ => ⟨80, ?_⟩, fun h => absurd rfl h⟩
    clear hw
    walk_nrm
    u_op (tf_rely hF2) hF
    u_c stepG_region_end (tf_rely hF2) hF
    u_c stepG_ret' (tf_rely hF2) hF
    u_leave1 H.f_uLoad (tf_rely hF2) hF
    iterate 27 (first
      | u_c stepG_seq (tf_rely hF2) hF
      | u_c stepG_region_end (tf_rely hF2) hF
      | u_c stepG_skip (tf_rely hF2) hF
      | u_c stepG_block (tf_rely hF2) hF
      | u_c stepG_loop (tf_rely hF2) hF
      | u_c stepG_inLoop (tf_rely hF2) hF
      | u_c stepG_inBlock (tf_rely hF2) hF
      | u_reg (tf_rely hF2) hF
      | (u_in (tf_rely hF2) hF; rw [stepG_cond (t := true)]; rotate_left; (first | rfl); simp only [goes_go, if_true, if_false, Bool.false_eq_true, reduceIte]; refine ⟨by u_nil, ?_⟩)
      | (u_in (tf_rely hF2) hF; rw [stepG_cond (t := false)]; rotate_left; (first | rfl); simp only [goes_go, if_true, if_false, Bool.false_eq_true, reduceIte]; refine ⟨by u_nil, ?_⟩)
      | u_skip (tf_rely hF2) hF
      | u_op (tf_rely hF2) hF)
    refine Goes.stop (fun w₅ h₅ => ?_)
    replace hF := tf_rely hF2 hF h₅
    clear h₅
    refine ⟨rfl, _, stepG_mark0 .enable (by simp) rfl rfl (by k_ne) rfl H.f_enable (x_enable_n L) (x_enable_b L) (x_enable_x L) (x_enable_f L), 12, ?_⟩
    walk_nrm
    iterate 3 (first
      | u_c stepG_seq (tf_rely hF2) hF
      | u_c stepG_region_end (tf_rely hF2) hF
      | u_c stepG_skip (tf_rely hF2) hF
      | u_c stepG_block (tf_rely hF2) hF
      | u_c stepG_loop (tf_rely hF2) hF
      | u_c stepG_inLoop (tf_rely hF2) hF
      | u_c stepG_inBlock (tf_rely hF2) hF
      | u_reg (tf_rely hF2) hF
      | (u_in (tf_rely hF2) hF; rw [stepG_cond (t := true)]; rotate_left; (first | rfl); simp only [goes_go, if_true, if_false, Bool.false_eq_true, reduceIte]; refine ⟨by u_nil, ?_⟩)
      | (u_in (tf_rely hF2) hF; rw [stepG_cond (t := false)]; rotate_left; (first | rfl); simp only [goes_go, if_true, if_false, Bool.false_eq_true, reduceIte]; refine ⟨by u_nil, ?_⟩)
      | u_skip (tf_rely hF2) hF
      | u_op (tf_rely hF2) hF)
    u_in (tf_rely hF2) hF
    refine goes_oper_k rfl rfl (by k_ne) (fun Kx hKx => ?_)
    have hcv := run_convert_to_unsafe (P := Φ.P) H.underlying_tWgP H.underlying_tUP H.room_tWg (WgLive.cell0 (hty ▸ hF.2)).choose_spec
    have hce := fun es => events_convert_to_unsafe (P := Φ.P) H.underlying_tWgP H.underlying_tUP H.room_tWg (WgLive.cell0 (hty ▸ hF.2)).choose_spec es
    go_simp
    refine hKx _ _ ⟨?_, ?_⟩
    · u_none
      intro ex hex
      have hmx := mem_listed hex
      simp [go_sem, hce] at hmx
    clear hKx Kx hcv hce
    refine Goes.stop (fun w₆ h₆ => ?_)
    replace hF := tf_rely hF2 hF h₆
    clear h₆
    refine ⟨rfl, _, stepG_markAt .acquire (by simp) rfl rfl (by k_ne) rfl H.f_acquire (x_acquire_n L) (x_acquire_b L) (x_acquire_x L) (x_acquire_f L) (by simp [Act.eval, stA]), _, goes_glue (mT := mT) 40 ?_⟩
    walk_nrm
    iterate 18 (first
      | u_c stepG_seq (tf_rely hF2) hF
      | u_c stepG_region_end (tf_rely hF2) hF
      | u_c stepG_skip (tf_rely hF2) hF
      | u_c stepG_block (tf_rely hF2) hF
      | u_c stepG_loop (tf_rely hF2) hF
      | u_c stepG_inLoop (tf_rely hF2) hF
      | u_c stepG_inBlock (tf_rely hF2) hF
      | u_reg (tf_rely hF2) hF
      | (u_in (tf_rely hF2) hF; rw [stepG_cond (t := true)]; rotate_left; (first | rfl); simp only [goes_go, if_true, if_false, Bool.false_eq_true, reduceIte]; refine ⟨by u_nil, ?_⟩)
      | (u_in (tf_rely hF2) hF; rw [stepG_cond (t := false)]; rotate_left; (first | rfl); simp only [goes_go, if_true, if_false, Bool.false_eq_true, reduceIte]; refine ⟨by u_nil, ?_⟩)
      | u_skip (tf_rely hF2) hF
      | u_op (tf_rely hF2) hF)
    u_c stepG_ret' (tf_rely hF2) hF
    u_leave0 H.f_wait (tf_rely hF2) hF
    refine Goes.stop (fun w₇ h₇ => ?_)
    replace hF := tf_rely hF2 hF h₇
    exact hT _ hF.1 hF.2
  · obtain ⟨S, hS⟩ : ∃ S : Int, (v : Int) * KK = S := ⟨_, rfl⟩
    have a1 : S / 4294967296 = (v : Int) := by rw [← hS]; simp only [KK]; omega
    have b1 : bits .and .u64 S 2147483648 = 0 := by rw [← hS]; have := st_flag v 0 (by omega) (by omega); simpa [KK] using this
    have b2 : bits .and .u64 S 2147483647 = 0 := by rw [← hS]; have := st_waiters v 0 (by omega) (by omega); simpa [KK] using this
    have c1 : IntKind.i32.wrap (v : Int) = (v : Int) := by rw [IntKind.wrap_i32]; omega
    have w1 : IntKind.u64.wrap (S + 1) = S + 1 := by rw [IntKind.wrap_u64, ← hS]; simp only [KK]; omega
    have q3 : decide ((v : Int) < 0) = false := decide_eq_false (by omega)
    have q4 : decide (0 < (v : Int)) = true := decide_eq_true (by omega)
    have q5 : ((v : Int) == 0) = false := by simp; omega
    have q6 : decide ((v : Int) = 0) = false := decide_eq_false (by omega)
    rw [hS] at hw
    refine ⟨_, stepG_load_atomic (v := S) rfl rfl (by k_ne) rfl H.f_loadU64 (x_loadU64_n L) (x_loadU64_b L) (x_loadU64_x L) .u64 (x_loadU64_f L) rfl hw.cellSt, fun h0 => absurd h0 (by omega), fun _ => ⟨80, ?_⟩⟩
    clear hw
    walk_nrm
    u_op (tf_rely hF2) hF
    u_c stepG_region_end (tf_rely hF2) hF
    u_c stepG_ret' (tf_rely hF2) hF
    u_leave1 H.f_uLoad (tf_rely hF2) hF
    repeat (first
      | u_c stepG_seq (tf_rely hF2) hF
      | u_c stepG_region_end (tf_rely hF2) hF
      | u_c stepG_skip (tf_rely hF2) hF
      | u_c stepG_block (tf_rely hF2) hF
      | u_c stepG_loop (tf_rely hF2) hF
      | u_c stepG_inLoop (tf_rely hF2) hF
      | u_c stepG_inBlock (tf_rely hF2) hF
      | u_reg (tf_rely hF2) hF
      | (u_in (tf_rely hF2) hF; rw [stepG_cond (t := true)]; rotate_left; (first | rfl | (simp [Act.eval]; done) | (simp [Act.eval]; omega)); simp only [goes_go, if_true, if_false, Bool.false_eq_true, reduceIte]; refine ⟨by u_nil, ?_⟩)
      | (u_in (tf_rely hF2) hF; rw [stepG_cond (t := false)]; rotate_left; (first | rfl | (simp [Act.eval]; done) | (simp [Act.eval]; omega)); simp only [goes_go, if_true, if_false, Bool.false_eq_true, reduceIte]; refine ⟨by u_nil, ?_⟩)
      | u_skip (tf_rely hF2) hF
      | u_op (tf_rely hF2) hF
      | u_call H.f_uCas (nm_uCas L) uCasFn (tf_rely hF2) hF)
    refine Goes.stop (fun w₂ h₂ => ?_)
    replace hF := tf_rely hF2 hF h₂
    clear h₂
    refine ⟨rfl, fun v' hv' hw => ⟨fun e => ?_, fun e => ?_⟩⟩
    · subst e
      rw [hty] at hw
      rw [hS] at hw ⊢
      refine ⟨_, (stepG_cas_hit (v := S) (n := S + 1) rfl rfl (by k_ne) rfl H.f_casU64 (x_casU64_n L) (x_casU64_b L) (x_casU64_x L) .u64 (x_casU64_f L) rfl rfl rfl hw.cellSt (hw.thaw 0)).trans (by rfl), 60, ?_⟩
      replace hF : F (w₂.setCell (stA Φ.Wg) (.int .u64 (S + 1))) ∧ WgLive Φ.ty Φ.Wg (w₂.setCell (stA Φ.Wg) (.int .u64 (S + 1))) := by
        have h2 : WgAt Φ.ty Φ.Wg (w₂.setCell (stA Φ.Wg) (.int .u64 (S + 1))) (S + 1) 0 := by rw [hty]; exact hw.setSt _
        exact ⟨hF2 _ _ (RM.of_wg rfl h2) hF.1, _, _, h2⟩
      clear hw
      walk_nrm
      u_op (tf_rely hF2) hF
      u_c stepG_region_end (tf_rely hF2) hF
      u_c stepG_ret' (tf_rely hF2) hF
      u_leave1 H.f_uCas (tf_rely hF2) hF
      iterate 15 (first
        | u_c stepG_seq (tf_rely hF2) hF
        | u_c stepG_region_end (tf_rely hF2) hF
        | u_c stepG_skip (tf_rely hF2) hF
        | u_c stepG_block (tf_rely hF2) hF
        | u_c stepG_loop (tf_rely hF2) hF
        | u_c stepG_inLoop (tf_rely hF2) hF
        | u_c stepG_inBlock (tf_rely hF2) hF
        | u_reg (tf_rely hF2) hF
        | (u_in (tf_rely hF2) hF; rw [stepG_cond (t := true)]; rotate_left; (first | rfl); simp only [goes_go, if_true, if_false, Bool.false_eq_true, reduceIte]; refine ⟨by u_nil, ?_⟩)
        | (u_in (tf_rely hF2) hF; rw [stepG_cond (t := false)]; rotate_left; (first | rfl); simp only [goes_go, if_true, if_false, Bool.false_eq_true, reduceIte]; refine ⟨by u_nil, ?_⟩)
        | u_skip (tf_rely hF2) hF
        | u_op (tf_rely hF2) hF)
      u_in (tf_rely hF2) hF
      refine goes_oper_k rfl rfl (by k_ne) (fun Kx hKx => ?_)
      have hcv := run_convert_to_unsafe (P := Φ.P) H.underlying_tPU32 H.underlying_tUP H.room_tU32 (WgLive.cell1 hF.2).choose_spec
      have hce := fun es => events_convert_to_unsafe (P := Φ.P) H.underlying_tPU32 H.underlying_tUP H.room_tU32 (WgLive.cell1 hF.2).choose_spec es
      go_simp
      refine hKx _ _ ⟨?_, ?_⟩
      · u_none
        intro ex hex
        have hmx := mem_listed hex
        simp [go_sem, hce] at hmx
      clear hKx Kx hcv hce
      refine Goes.stop (fun w₃ h₃ => ?_)
      replace hF := tf_rely hF2 hF h₃
      clear h₃
      refine ⟨rfl, _, stepG_markAt .write (by simp) rfl rfl (by k_ne) rfl H.f_raceWrite (x_raceWrite_n L) (x_raceWrite_b L) (x_raceWrite_x L) (x_raceWrite_f L) (ad := ⟨Φ.Wg, 1, none⟩) (by simp [Act.eval]), 60, ?_⟩
      walk_nrm
      iterate 23 (first
        | u_c stepG_seq (tf_rely hF2) hF
        | u_c stepG_region_end (tf_rely hF2) hF
        | u_c stepG_skip (tf_rely hF2) hF
        | u_c stepG_block (tf_rely hF2) hF
        | u_c stepG_loop (tf_rely hF2) hF
        | u_c stepG_inLoop (tf_rely hF2) hF
        | u_c stepG_inBlock (tf_rely hF2) hF
        | u_reg (tf_rely hF2) hF
        | (u_in (tf_rely hF2) hF; rw [stepG_cond (t := true)]; rotate_left; (first | rfl); simp only [goes_go, if_true, if_false, Bool.false_eq_true, reduceIte]; refine ⟨by u_nil, ?_⟩)
        | (u_in (tf_rely hF2) hF; rw [stepG_cond (t := false)]; rotate_left; (first | rfl); simp only [goes_go, if_true, if_false, Bool.false_eq_true, reduceIte]; refine ⟨by u_nil, ?_⟩)
        | u_skip (tf_rely hF2) hF
        | u_op (tf_rely hF2) hF)
      refine Goes.stop (fun w₄ h₄ => ?_)
      replace hF := tf_rely hF2 hF h₄
      clear h₄
      refine ⟨rfl, rfl, fun hx => ?_, fun hf => ?_⟩
      · obtain ⟨st, hw⟩ := hx
        exact stepG_semacquire_wait rfl rfl rfl H.f_semacquire (x_semacquire_n L) (x_semacquire_b L) (x_semacquire_x L) (x_semacquire_f L) (by simp [Act.eval, smA]) (hty ▸ hw).cellSm
      rw [hty] at hf
      refine ⟨_, (stepG_semacquire (n := 1) rfl rfl (by k_ne) rfl H.f_semacquire (x_semacquire_n L) (x_semacquire_b L) (x_semacquire_x L) (x_semacquire_f L) (by simp [Act.eval, smA]) hf.cellSm (by k_ne) (hf.thaw 1)).trans (by rfl), 60, ?_⟩
      replace hF : F (w₄.setCell (smA Φ.Wg) (.int .u32 0)) ∧ WgLive Φ.ty Φ.Wg (w₄.setCell (smA Φ.Wg) (.int .u32 0)) := by
        have h2 : WgAt Φ.ty Φ.Wg (w₄.setCell (smA Φ.Wg) (.int .u32 0)) 0 0 := by rw [hty]; exact hf.setSm 0
        exact ⟨hF2 _ _ (RM.of_wg rfl h2) hF.1, _, _, h2⟩
      clear hf
      walk_nrm
      iterate 16 (first
        | u_c stepG_seq (tf_rely hF2) hF
        | u_c stepG_region_end (tf_rely hF2) hF
        | u_c stepG_skip (tf_rely hF2) hF
        | u_c stepG_block (tf_rely hF2) hF
        | u_c stepG_loop (tf_rely hF2) hF
        | u_c stepG_inLoop (tf_rely hF2) hF
        | u_c stepG_inBlock (tf_rely hF2) hF
        | u_reg (tf_rely hF2) hF
        | (u_in (tf_rely hF2) hF; rw [stepG_cond (t := true)]; rotate_left; (first | rfl); simp only [goes_go, if_true, if_false, Bool.false_eq_true, reduceIte]; refine ⟨by u_nil, ?_⟩)
        | (u_in (tf_rely hF2) hF; rw [stepG_cond (t := false)]; rotate_left; (first | rfl); simp only [goes_go, if_true, if_false, Bool.false_eq_true, reduceIte]; refine ⟨by u_nil, ?_⟩)
        | u_skip (tf_rely hF2) hF
        | u_op (tf_rely hF2) hF
        | u_call H.f_uLoad (nm_uLoad L) uLoadFn (tf_rely hF2) hF)
      refine Goes.stop (fun w₅ h₅ => ?_)
      replace hF := tf_rely hF2 hF h₅
      clear h₅
      refine ⟨rfl, fun hw => ?_⟩
      rw [hty] at hw
      refine ⟨_, stepG_load_atomic (v := 0) rfl rfl (by k_ne) rfl H.f_loadU64 (x_loadU64_n L) (x_loadU64_b L) (x_loadU64_x L) .u64 (x_loadU64_f L) rfl hw.cellSt, 60, ?_⟩
      clear hw
      walk_nrm
      u_op (tf_rely hF2) hF
      u_c stepG_region_end (tf_rely hF2) hF
      u_c stepG_ret' (tf_rely hF2) hF
      u_leave1 H.f_uLoad (tf_rely hF2) hF
      iterate 7 (first
        | u_c stepG_seq (tf_rely hF2) hF
        | u_c stepG_region_end (tf_rely hF2) hF
        | u_c stepG_skip (tf_rely hF2) hF
        | u_c stepG_block (tf_rely hF2) hF
        | u_c stepG_loop (tf_rely hF2) hF
        | u_c stepG_inLoop (tf_rely hF2) hF
        | u_c stepG_inBlock (tf_rely hF2) hF
        | u_reg (tf_rely hF2) hF
        | (u_in (tf_rely hF2) hF; rw [stepG_cond (t := true)]; rotate_left; (first | rfl); simp only [goes_go, if_true, if_false, Bool.false_eq_true, reduceIte]; refine ⟨by u_nil, ?_⟩)
        | (u_in (tf_rely hF2) hF; rw [stepG_cond (t := false)]; rotate_left; (first | rfl); simp only [goes_go, if_true, if_false, Bool.false_eq_true, reduceIte]; refine ⟨by u_nil, ?_⟩)
        | u_skip (tf_rely hF2) hF
        | u_op (tf_rely hF2) hF)
      refine Goes.stop (fun w₅ h₅ => ?_)
      replace hF := tf_rely hF2 hF h₅
      clear h₅
      refine ⟨rfl, _, stepG_mark0 .enable (by simp) rfl rfl (by k_ne) rfl H.f_enable (x_enable_n L) (x_enable_b L) (x_enable_x L) (x_enable_f L), 12, ?_⟩
      walk_nrm
      iterate 3 (first
        | u_c stepG_seq (tf_rely hF2) hF
        | u_c stepG_region_end (tf_rely hF2) hF
        | u_c stepG_skip (tf_rely hF2) hF
        | u_c stepG_block (tf_rely hF2) hF
        | u_c stepG_loop (tf_rely hF2) hF
        | u_c stepG_inLoop (tf_rely hF2) hF
        | u_c stepG_inBlock (tf_rely hF2) hF
        | u_reg (tf_rely hF2) hF
        | (u_in (tf_rely hF2) hF; rw [stepG_cond (t := true)]; rotate_left; (first | rfl); simp only [goes_go, if_true, if_false, Bool.false_eq_true, reduceIte]; refine ⟨by u_nil, ?_⟩)
        | (u_in (tf_rely hF2) hF; rw [stepG_cond (t := false)]; rotate_left; (first | rfl); simp only [goes_go, if_true, if_false, Bool.false_eq_true, reduceIte]; refine ⟨by u_nil, ?_⟩)
        | u_skip (tf_rely hF2) hF
        | u_op (tf_rely hF2) hF)
      u_in (tf_rely hF2) hF
      refine goes_oper_k rfl rfl (by k_ne) (fun Kx hKx => ?_)
      have hcv := run_convert_to_unsafe (P := Φ.P) H.underlying_tWgP H.underlying_tUP H.room_tWg (WgLive.cell0 (hty ▸ hF.2)).choose_spec
      have hce := fun es => events_convert_to_unsafe (P := Φ.P) H.underlying_tWgP H.underlying_tUP H.room_tWg (WgLive.cell0 (hty ▸ hF.2)).choose_spec es
      go_simp
      refine hKx _ _ ⟨?_, ?_⟩
      · u_none
        intro ex hex
        have hmx := mem_listed hex
        simp [go_sem, hce] at hmx
      clear hKx Kx hcv hce
      refine Goes.stop (fun w₆ h₆ => ?_)
      replace hF := tf_rely hF2 hF h₆
      clear h₆
      refine ⟨rfl, _, stepG_markAt .acquire (by simp) rfl rfl (by k_ne) rfl H.f_acquire (x_acquire_n L) (x_acquire_b L) (x_acquire_x L) (x_acquire_f L) (by simp [Act.eval, stA]), _, goes_glue (mT := mT) 40 ?_⟩
      walk_nrm
      iterate 8 (first
        | u_c stepG_seq (tf_rely hF2) hF
        | u_c stepG_region_end (tf_rely hF2) hF
        | u_c stepG_skip (tf_rely hF2) hF
        | u_c stepG_block (tf_rely hF2) hF
        | u_c stepG_loop (tf_rely hF2) hF
        | u_c stepG_inLoop (tf_rely hF2) hF
        | u_c stepG_inBlock (tf_rely hF2) hF
        | u_reg (tf_rely hF2) hF
        | (u_in (tf_rely hF2) hF; rw [stepG_cond (t := true)]; rotate_left; (first | rfl); simp only [goes_go, if_true, if_false, Bool.false_eq_true, reduceIte]; refine ⟨by u_nil, ?_⟩)
        | (u_in (tf_rely hF2) hF; rw [stepG_cond (t := false)]; rotate_left; (first | rfl); simp only [goes_go, if_true, if_false, Bool.false_eq_true, reduceIte]; refine ⟨by u_nil, ?_⟩)
        | u_skip (tf_rely hF2) hF
        | u_op (tf_rely hF2) hF)
      u_c stepG_ret' (tf_rely hF2) hF
      u_leave0 H.f_wait (tf_rely hF2) hF
      refine Goes.stop (fun w₇ h₇ => ?_)
      replace hF := tf_rely hF2 hF h₇
      exact hT _ hF.1 hF.2
    · rw [hty] at hw
      refine ⟨_, stepG_cas_miss (v := (v' : Int) * KK) (old := S) (n := S + 1) rfl rfl (by k_ne) rfl H.f_casU64 (x_casU64_n L) (x_casU64_b L) (x_casU64_x L) .u64 (x_casU64_f L) rfl rfl rfl hw.cellSt (hw.thaw 0) (by rw [← hS]; simp only [KK]; omega), 40, ?_⟩
      clear hw
      walk_nrm
      u_op (tf_rely hF2) hF
      u_c stepG_region_end (tf_rely hF2) hF
      u_c stepG_ret' (tf_rely hF2) hF
      u_leave1 H.f_uCas (tf_rely hF2) hF
      iterate 5 (first
        | u_c stepG_seq (tf_rely hF2) hF
        | u_c stepG_region_end (tf_rely hF2) hF
        | u_c stepG_skip (tf_rely hF2) hF
        | u_c stepG_block (tf_rely hF2) hF
        | u_c stepG_loop (tf_rely hF2) hF
        | u_c stepG_inLoop (tf_rely hF2) hF
        | u_c stepG_inBlock (tf_rely hF2) hF
        | u_reg (tf_rely hF2) hF
        | (u_in (tf_rely hF2) hF; rw [stepG_cond (t := true)]; rotate_left; (first | rfl); simp only [goes_go, if_true, if_false, Bool.false_eq_true, reduceIte]; refine ⟨by u_nil, ?_⟩)
        | (u_in (tf_rely hF2) hF; rw [stepG_cond (t := false)]; rotate_left; (first | rfl); simp only [goes_go, if_true, if_false, Bool.false_eq_true, reduceIte]; refine ⟨by u_nil, ?_⟩)
        | u_skip (tf_rely hF2) hF
        | u_op (tf_rely hF2) hF)
      refine Goes.stop (fun w₃ h₃ => ?_)
      replace hF := tf_rely hF2 hF h₃
      clear h₃
      exact hA _ _ ⟨_, rfl, by simp, by simp, hF⟩

set_option maxRecDepth 100000 in
theorem wait_t (H : WgLib Φ.P L) (hty : Φ.ty = L.tWg) (hA : ∀ g w, AnchT Φ L F (b₀.at a₀ (.inRegion ops₀ (i₀ :: rest₀) :: k₀)) cs g w → Φ.Anch g w) (hF2 : ∀ w w', RM Φ Φ.n w w' → F w → F w') (w : World) (hF : F w ∧ WgLive Φ.ty Φ.Wg w) :
    Goes Φ.P true (RM Φ Φ.n) DC0 (AtKd Φ) 6 (G ((base L.wait).at ⟨#[.pointer (some ⟨Φ.Wg, 0, none⟩), undef, undef, undef, undef, undef, undef, undef, undef, undef, undef, undef, undef, undef, undef, undef, undef, undef, undef, undef, undef, undef, undef, undef, undef, undef, undef, undef, undef, undef, undef, undef, undef, undef, undef, undef, undef, undef, undef, undef, undef, undef, undef, undef, undef, undef, undef, undef, undef, undef, undef, undef, undef, undef, undef, undef, undef, undef, undef, undef, undef, undef, undef, undef, undef, undef, undef, undef, undef, undef, undef, undef, undef, undef, undef, undef, undef, undef, undef, undef, undef, undef, undef, undef], []⟩ [.code (body_wait L)]) (b₀.at a₀ (.inRegion ops₀ (i₀ :: rest₀) :: k₀) :: cs)) w := by
  lib_facts
  simp only [body_wait, waitFn, Option.getD_some]
  iterate 3 (first
    | u_c stepG_seq (tf_rely hF2) hF
    | u_c stepG_region_end (tf_rely hF2) hF
    | u_c stepG_skip (tf_rely hF2) hF
    | u_c stepG_block (tf_rely hF2) hF
    | u_c stepG_loop (tf_rely hF2) hF
    | u_c stepG_inLoop (tf_rely hF2) hF
    | u_c stepG_inBlock (tf_rely hF2) hF
    | u_reg (tf_rely hF2) hF
    | (u_in (tf_rely hF2) hF; rw [stepG_cond (t := true)]; rotate_left; (first | rfl); simp only [goes_go, if_true, if_false, Bool.false_eq_true, reduceIte]; refine ⟨by u_nil, ?_⟩)
    | (u_in (tf_rely hF2) hF; rw [stepG_cond (t := false)]; rotate_left; (first | rfl); simp only [goes_go, if_true, if_false, Bool.false_eq_true, reduceIte]; refine ⟨by u_nil, ?_⟩)
    | u_skip (tf_rely hF2) hF
    | u_op (tf_rely hF2) hF)
  refine Goes.stop (fun w₁ h₁ => ?_)
  replace hF := tf_rely hF2 hF h₁
  clear h₁
  refine ⟨rfl, _, stepG_mark0 .disable (by simp) rfl rfl (by k_ne) rfl H.f_disable (x_disable_n L) (x_disable_b L) (x_disable_x L) (x_disable_f L), 6, ?_⟩
  walk_nrm
  iterate 3 (first
    | u_c stepG_seq (tf_rely hF2) hF
    | u_c stepG_region_end (tf_rely hF2) hF
    | u_c stepG_skip (tf_rely hF2) hF
    | u_c stepG_block (tf_rely hF2) hF
    | u_c stepG_loop (tf_rely hF2) hF
    | u_c stepG_inLoop (tf_rely hF2) hF
    | u_c stepG_inBlock (tf_rely hF2) hF
    | u_reg (tf_rely hF2) hF
    | (u_in (tf_rely hF2) hF; rw [stepG_cond (t := true)]; rotate_left; (first | rfl); simp only [goes_go, if_true, if_false, Bool.false_eq_true, reduceIte]; refine ⟨by u_nil, ?_⟩)
    | (u_in (tf_rely hF2) hF; rw [stepG_cond (t := false)]; rotate_left; (first | rfl); simp only [goes_go, if_true, if_false, Bool.false_eq_true, reduceIte]; refine ⟨by u_nil, ?_⟩)
    | u_skip (tf_rely hF2) hF
    | u_op (tf_rely hF2) hF)
  refine Goes.stop (fun w₂ h₂ => ?_)
  exact hA _ _ ⟨_, rfl, by simp, by simp, tf_rely hF2 hF h₂⟩
end
end

section
open Go.Conc Go.RowKit
open Go.ConcN (WgLive)
open Go.ConcR (KK WgAt stA smA rd wr mk DC0)

section
variable {P : Program} {main : Bool} {R : World → World → Prop} {D : World → World → Array Event → Prop} {S : Goroutine → World → Prop} {b : Frame} {a : Act} {k : List Item} {cs : List Frame} {w : World} {m n : Nat}
theorem gs_step (T : Terms R D) {g g' : Goroutine} (hr : g.status = .running) (e : ∀ w, stepG P main g w = .go g' w #[]) (h : Goes P main R D S m g' w) : Goes P main R D S (m + 1) g w :=
  Goes.step hr fun w₁ h₁ => by rw [e w₁]; exact ⟨T.idle _, h.rely T.trans h₁⟩
theorem gs_seq (T : Terms R D) {x y : Code} (h : Goes P main R D S m (G (b.at a (.code x :: .code y :: k)) cs) w) : Goes P main R D S (m + 1) (G (b.at a (.code (.seq x y) :: k)) cs) w := gs_step T rfl (fun _ => stepG_seq) h
theorem gs_block (T : Terms R D) {id : Nat} {x : Code} (h : Goes P main R D S m (G (b.at a (.code x :: .inBlock id :: k)) cs) w) : Goes P main R D S (m + 1) (G (b.at a (.code (.block id x) :: k)) cs) w := gs_step T rfl (fun _ => stepG_block) h
theorem gs_inBlock (T : Terms R D) {id : Nat} (h : Goes P main R D S m (G (b.at a k) cs) w) : Goes P main R D S (m + 1) (G (b.at a (.inBlock id :: k)) cs) w := gs_step T rfl (fun _ => stepG_inBlock) h
theorem gs_loop (T : Terms R D) {x : Code} (h : Goes P main R D S m (G (b.at a (.code x :: .inLoop x :: k)) cs) w) : Goes P main R D S (m + 1) (G (b.at a (.code (.loop x) :: k)) cs) w := gs_step T rfl (fun _ => stepG_loop) h
theorem gs_inLoop (T : Terms R D) {x : Code} (h : Goes P main R D S m (G (b.at a (.code x :: .inLoop x :: k)) cs) w) : Goes P main R D S (m + 1) (G (b.at a (.inLoop x :: k)) cs) w := gs_step T rfl (fun _ => stepG_inLoop) h
theorem gs_skip (T : Terms R D) (h : Goes P main R D S m (G (b.at a k) cs) w) : Goes P main R D S (m + 1) (G (b.at a (.code .skip :: k)) cs) w := gs_step T rfl (fun _ => stepG_skip) h
theorem gs_true (T : Terms R D) {c : Operand} {x y : Code} (hc : a.eval c = .bool true) (h : Goes P main R D S m (G (b.at a (.code x :: k)) cs) w) : Goes P main R D S (m + 1) (G (b.at a (.code (.cond c x y) :: k)) cs) w := gs_step T rfl (fun _ => stepG_cond hc) h
theorem gs_false (T : Terms R D) {c : Operand} {x y : Code} (hc : a.eval c = .bool false) (h : Goes P main R D S m (G (b.at a (.code y :: k)) cs) w) : Goes P main R D S (m + 1) (G (b.at a (.code (.cond c x y) :: k)) cs) w := gs_step T rfl (fun _ => stepG_cond hc) h
theorem gs_exit (T : Terms R D) {id : Nat} {k' : List Item} (hk : exitTo id k = some k') (h : Goes P main R D S m (G (b.at a k') cs) w) : Goes P main R D S (m + 1) (G (b.at a (.code (.exit id) :: k)) cs) w := gs_step T rfl (fun _ => stepG_exit hk) h
theorem gs_region (T : Terms R D) {id : Nat} {ops : Array Oper} (h : Goes P main R D S m (G (b.at a (.inRegion ops (List.range ops.size) :: k)) cs) w) : Goes P main R D S (m + 1) (G (b.at a (.code (.region id ops false) :: k)) cs) w := gs_step T rfl (fun _ => stepG_region) h
theorem gs_region_end (T : Terms R D) {ops : Array Oper} (h : Goes P main R D S m (G (b.at a k) cs) w) : Goes P main R D S (m + 1) (G (b.at a (.inRegion ops [] :: k)) cs) w := gs_step T rfl (fun _ => stepG_region_end) h

theorem gs_code {c : Code} (hk : b.kind ≠ .early) (h : c.wpC P main R D b.fn n (fun e a' w' => e = .normal ∧ Goes P main R D S m (G (b.at a' k) cs) w') a w) : Goes P main R D S (m + n) (G (b.at a (.code c :: k)) cs) w :=
  wpC_goes h rfl hk fun e a' w' q => by obtain ⟨rfl, q⟩ := q; exact q
theorem gs_ops {ops : Array Oper} {todo : List Nat} (hk : b.kind ≠ .early) (h : OpsC P main R D b.fn ops todo n (fun e a' w' => e = .normal ∧ Goes P main R D S m (G (b.at a' k) cs) w') a w) : Goes P main R D S (m + n) (G (b.at a (.inRegion ops todo :: k)) cs) w :=
  h b k cs S m rfl hk fun e a' w' q => by obtain ⟨rfl, q⟩ := q; exact q
end

theorem alloc_heap (w : World) (o : Obj) : (w.alloc o).heap = w.heap.push o := rfl
theorem alloc_size (w : World) (o : Obj) : (w.alloc o).heap.size = w.heap.size + 1 := by rw [alloc_heap, Array.size_push]
theorem push_lt {w : World} {o x : Obj} {b : Nat} (h : w.heap[b]? = some x) : (w.alloc o).heap[b]? = some x := by
  have hb := (Array.getElem?_eq_some_iff.1 h).1
  rw [alloc_heap, Array.getElem?_push_lt hb, ← h, Array.getElem?_eq_getElem hb]
theorem push_old {w : World} {o : Obj} {b : Nat} (h : b < w.heap.size) : (w.alloc o).heap[b]? = w.heap[b]? := by
  rw [alloc_heap, Array.getElem?_push_lt h, Array.getElem?_eq_getElem h]
theorem push_at {w : World} {o : Obj} {b : Nat} (h : w.heap.size = b) : (w.alloc o).heap[b]? = some o := by
  subst h
  rw [alloc_heap, Array.getElem?_push_size]
theorem push_cases {w : World} {o x : Obj} {b : Nat} (h : (w.alloc o).heap[b]? = some x) : (b = w.heap.size ∧ x = o) ∨ w.heap[b]? = some x := by
  rw [alloc_heap, Array.getElem?_push] at h
  split at h
  · exact .inl ⟨‹_›, (Option.some.inj h).symm⟩
  · exact .inr h

section
variable {Φ : Ph} {i j B : Nat} {w : World} {es : Array Event}
theorem termsM (Φ : Ph) (i j : Nat) : Terms (RM Φ i) (DM Φ j) := ⟨fun _ _ _ h1 h2 => h1.trans h2, fun w => dm_nil⟩

theorem dm_read (h : ∀ e ∈ es, EvM Φ j w.heap.size e) : DM Φ j w w es := ⟨rfl, rfl, Nat.le_refl _, fun _ _ _ => rfl, id, h⟩
theorem dm_alloc {o : Obj} (ho : PlainO o) (h : ∀ e ∈ es, EvM Φ j (w.alloc o).heap.size e) : DM Φ j w (w.alloc o) es := by
  refine ⟨rfl, rfl, by rw [alloc_size]; omega, fun b hb _ => ?_, fun hp b x hb hx => ?_, h⟩
  · exact push_old hb
  · rcases push_cases hx with ⟨_, rfl⟩ | hx
    · exact ho
    · exact hp b x hb hx
theorem plain_in (a : Addr) (v : Value) {o : Obj} (h : PlainO o) : PlainO (setIn a v o) := by cases o <;> first | exact h | trivial
theorem dm_set {a : Addr} {v : Value} (hm : Φ.Mw j a.block) (h : ∀ e ∈ es, EvM Φ j w.heap.size e) : DM Φ j w (w.setCell a v) es := by
  refine ⟨rfl, rfl, by simp [World.setCell], fun b hb hn => setCell_heap w a v b (fun e => hn (e ▸ hm)), fun hp b x hb hx => ?_, fun e he => by simpa [World.setCell] using h e he⟩
  rw [setCell_get] at hx
  split at hx
  · obtain ⟨o, ho, rfl⟩ := Option.map_eq_some_iff.1 hx
    exact plain_in _ _ (hp b o hb ho)
  · exact hp b x hb hx
theorem ev_rd {a : Addr} (h1 : a.block ≠ Φ.Wg) (h2 : ¬ Φ.H a.block) (h3 : a.block < B) : EvM Φ j B ⟨.cell a, false, false⟩ := .inl ⟨a, false, rfl, h1, h2, h3, by simp⟩
theorem ev_wr {a : Addr} (h1 : a.block ≠ Φ.Wg) (h2 : ¬ Φ.H a.block) (h3 : a.block < B) (h4 : ∀ k, k < j → ¬ Φ.Rd k a.block) : EvM Φ j B ⟨.cell a, true, false⟩ := .inl ⟨a, true, rfl, h1, h2, h3, fun _ => h4⟩
end

theorem cell_in {w : World} {b i : Nat} {xs : Array Value} {e : TypeId} {fr : Nat × Nat} {v : Value} (h : w.heap[b]? = some (.cells xs e fr)) (hv : xs[i]? = some v) : w.cell? ⟨b, i, none⟩ = some v := by simp [World.cell?, h, hv]
theorem thaw_in {w : World} {b i : Nat} {xs : Array Value} {e : TypeId} (h : w.heap[b]? = some (.cells xs e)) : w.frozen? ⟨b, i, none⟩ = false := by simp [World.frozen?, h]

structure MS (W0 : World) (N n q : Nat) (ask : Value) (j jj s : Nat) (vv av : Value) (w : World) : Prop where
  size : w.heap.size = N + 4 + 3 * j + s
  old : ∀ b, b < N → w.heap[b]? = W0.heap[b]?
  qb : w.heap[N]? = some (.cells #[.int .i64 q] 3)
  kb : w.heap[N + 1]? = some (.cells #[ask] 48)
  arr : ∃ xs, w.heap[N + 2]? = some (.cells xs 84) ∧ xs.size = n ∧ ∀ i, i < jj → xs[i]? = some (.chan (some (N + 5 + 3 * i)))
  live : WgLive 83 (N + 3) w
  vb : 1 ≤ s → w.heap[N + 4 + 3 * j]? = some (.cells #[vv] 26)
  cb : 2 ≤ s → w.heap[N + 5 + 3 * j]? = some (.chan q #[] false 0 0 false)
  ab : 3 ≤ s → w.heap[N + 6 + 3 * j]? = some (.cells #[av] 84)

section
variable {N n q : Nat} {W0 : World} {ask vv av : Value} {j jj s : Nat} {w w₁ : World}

theorem MS.rely {m0 : Nat} {ans : Nat → Nat → Value} {H : Nat → Prop} {Anch Fin : Goroutine → World → Prop} (h : MS W0 N n q ask j jj s vv av w) (r : RM (phT Tryd.prog N n q m0 W0 ans H Anch Fin) j w w₁) : MS W0 N n q ask j jj s vv av w₁ where
  size := r.size.trans h.size
  old := fun b hb => (r.fix b (by simp only; omega) (fun i hi => by simp only; omega)).trans (h.old b hb)
  qb := (r.fix _ (by simp only; omega) (fun i hi => by simp only; omega)).trans h.qb
  kb := (r.fix _ (by simp only; omega) (fun i hi => by simp only; omega)).trans h.kb
  arr := let ⟨xs, h1, h2⟩ := h.arr; ⟨xs, (r.fix _ (by simp only; omega) (fun i hi => by simp only; omega)).trans h1, h2⟩
  live := r.live h.live
  vb := fun hs => (r.fix _ (by simp only; omega) (fun i hi => by simp only; omega)).trans (h.vb hs)
  cb := fun hs => (r.fix _ (by simp only; omega) (fun i hi => by simp only; omega)).trans (h.cb hs)
  ab := fun hs => (r.fix _ (by simp only; omega) (fun i hi => by simp only; omega)).trans (h.ab hs)

theorem MS.made0 (h : MS W0 N n q ask j jj 0 vv av w) (v : Value) : MS W0 N n q ask j jj 1 v av (w.alloc (.cells #[v] 26)) where
  size := by have := h.size; rw [alloc_size]; omega
  old := fun b hb => (push_old (by have := h.size; omega)).trans (h.old b hb)
  qb := push_lt h.qb
  kb := push_lt h.kb
  arr := let ⟨xs, h1, h2⟩ := h.arr; ⟨xs, push_lt h1, h2⟩
  live := wgLive_of_block h.live (push_old (wgLive_lt h.live))
  vb := fun _ => push_at (by have := h.size; omega)
  cb := fun hs => by omega
  ab := fun hs => by omega
theorem MS.made1 (h : MS W0 N n q ask j jj 1 vv av w) : MS W0 N n q ask j jj 2 vv av (w.alloc (.chan q #[] false 0 0 false)) where
  size := by have := h.size; rw [alloc_size]; omega
  old := fun b hb => (push_old (by have := h.size; omega)).trans (h.old b hb)
  qb := push_lt h.qb
  kb := push_lt h.kb
  arr := let ⟨xs, h1, h2⟩ := h.arr; ⟨xs, push_lt h1, h2⟩
  live := wgLive_of_block h.live (push_old (wgLive_lt h.live))
  vb := fun _ => push_lt (h.vb (by omega))
  cb := fun _ => push_at (by have := h.size; omega)
  ab := fun hs => by omega
theorem MS.made2 (h : MS W0 N n q ask j jj 2 vv av w) (v : Value) : MS W0 N n q ask j jj 3 vv v (w.alloc (.cells #[v] 84)) where
  size := by have := h.size; rw [alloc_size]; omega
  old := fun b hb => (push_old (by have := h.size; omega)).trans (h.old b hb)
  qb := push_lt h.qb
  kb := push_lt h.kb
  arr := let ⟨xs, h1, h2⟩ := h.arr; ⟨xs, push_lt h1, h2⟩
  live := wgLive_of_block h.live (push_old (wgLive_lt h.live))
  vb := fun _ => push_lt (h.vb (by omega))
  cb := fun _ => push_lt (h.cb (by omega))
  ab := fun _ => push_at (by have := h.size; omega)

theorem set_ne {w : World} {a : Addr} {v : Value} {b : Nat} (h : b ≠ a.block) : (w.setCell a v).heap[b]? = w.heap[b]? := setCell_heap w a v b h
theorem set_at {w : World} {b i : Nat} {xs : Array Value} {e : TypeId} {fr : Nat × Nat} {v : Value} (h : w.heap[b]? = some (.cells xs e fr)) : (w.setCell ⟨b, i, none⟩ v).heap[b]? = some (.cells (xs.setIfInBounds i v) e fr) := by
  rw [setCell_get]; simp [h, setIn]
theorem set_size (w : World) (a : Addr) (v : Value) : (w.setCell a v).heap.size = w.heap.size := by simp [World.setCell]

theorem MS.set0 (h : MS W0 N n q ask j jj 1 vv av w) (v : Value) : MS W0 N n q ask j jj 1 v av (w.setCell ⟨N + 4 + 3 * j, 0, none⟩ v) where
  size := (set_size ..).trans h.size
  old := fun b hb => (set_ne (by simp only; omega)).trans (h.old b hb)
  qb := (set_ne (by simp only; omega)).trans h.qb
  kb := (set_ne (by simp only; omega)).trans h.kb
  arr := let ⟨xs, h1, h2⟩ := h.arr; ⟨xs, (set_ne (by simp only; omega)).trans h1, h2⟩
  live := wgLive_of_block h.live (set_ne (by simp only; omega))
  vb := fun hs => (set_at (h.vb hs)).trans (by simp)
  cb := fun hs => by omega
  ab := fun hs => by omega
theorem MS.set2 (h : MS W0 N n q ask j jj 3 vv av w) (v : Value) : MS W0 N n q ask j jj 3 vv v (w.setCell ⟨N + 6 + 3 * j, 0, none⟩ v) where
  size := (set_size ..).trans h.size
  old := fun b hb => (set_ne (by simp only; omega)).trans (h.old b hb)
  qb := (set_ne (by simp only; omega)).trans h.qb
  kb := (set_ne (by simp only; omega)).trans h.kb
  arr := let ⟨xs, h1, h2⟩ := h.arr; ⟨xs, (set_ne (by simp only; omega)).trans h1, h2⟩
  live := wgLive_of_block h.live (set_ne (by simp only; omega))
  vb := fun hs => (set_ne (by simp only; omega)).trans (h.vb hs)
  cb := fun hs => (set_ne (by simp only; omega)).trans (h.cb hs)
  ab := fun hs => (set_at (h.ab hs)).trans (by simp)
theorem MS.setRow (h : MS W0 N n q ask j j 3 vv av w) (hj : j < n) : MS W0 N n q ask j (j + 1) 3 vv av (w.setCell ⟨N + 2, j, none⟩ (.chan (some (N + 5 + 3 * j)))) where
  size := (set_size ..).trans h.size
  old := fun b hb => (set_ne (by simp only; omega)).trans (h.old b hb)
  qb := (set_ne (by simp only; omega)).trans h.qb
  kb := (set_ne (by simp only; omega)).trans h.kb
  arr := by
    obtain ⟨xs, h1, h2, h3⟩ := h.arr
    refine ⟨_, set_at h1, by simpa using h2, fun i hi => ?_⟩
    by_cases e : j = i
    · subst e
      rw [Array.getElem?_setIfInBounds_self_of_lt (by omega)]
    · rw [Array.getElem?_setIfInBounds_ne e]
      exact h3 i (by omega)
  live := wgLive_of_block h.live (set_ne (by simp only; omega))
  vb := fun hs => (set_ne (by simp only; omega)).trans (h.vb hs)
  cb := fun hs => (set_ne (by simp only; omega)).trans (h.cb hs)
  ab := fun hs => (set_ne (by simp only; omega)).trans (h.ab hs)
theorem MS.next (h : MS W0 N n q ask j jj 3 vv av w) : MS W0 N n q ask (j + 1) jj 0 vv av w :=
  ⟨by have := h.size; omega, h.old, h.qb, h.kb, h.arr, h.live, fun hs => by omega, fun hs => by omega, fun hs => by omega⟩

section
variable {m0 : Nat} {ans : Nat → Nat → Value} {H : Nat → Prop} {Anch Fin : Goroutine → World → Prop} {b o B : Nat}
theorem ev_rdT (hH : ∀ b, H b → b < N) (h : (b < N ∧ ¬ H b) ∨ (N ≤ b ∧ b ≠ N + 3)) (hB : b < B) : EvM (phT Tryd.prog N n q m0 W0 ans H Anch Fin) j B ⟨.cell ⟨b, o, none⟩, false, false⟩ :=
  ev_rd (by simp only; omega) (by simp only; intro hb; have := hH b hb; rcases h with ⟨_, h⟩ | ⟨h, _⟩ <;> first | exact h hb | omega) hB
theorem ev_wrT (hH : ∀ b, H b → b < N) (h : b = N + 2 ∨ N + 4 + 3 * j ≤ b) (hB : b < B) : EvM (phT Tryd.prog N n q m0 W0 ans H Anch Fin) j B ⟨.cell ⟨b, o, none⟩, true, false⟩ :=
  ev_wr (by simp only; omega) (by simp only; intro hb; have := hH b hb; omega) hB (fun k hk hr => by simp only at hr; omega)
end

def sumC (av : Nat → Nat → Int) (c l x : Nat) : Int := ((List.range c).map fun i => av i x).sum + if x < l then av c x else 0
structure MF (W0 : World) (N n q : Nat) (av : Nat → Nat → Int) (c l : Nat) (w : World) : Prop where
  old : ∀ b, b < N → w.heap[b]? = W0.heap[b]?
  arr : ∃ xs, w.heap[N + 2]? = some (.cells xs 84) ∧ xs.size = n ∧ ∀ i, i < n → xs[i]? = some (.chan (some (N + 5 + 3 * i)))
  live : WgLive 83 (N + 3) w
  sums : ∃ ys, w.heap[N + 4 + 3 * n]? = some (.cells ys 3) ∧ ys.size = q ∧ ∀ x, x < q → ys[x]? = some (.int .i64 (sumC av c l x))

theorem MF.rely {m0 : Nat} {ans : Nat → Nat → Value} {H : Nat → Prop} {Anch Fin : Goroutine → World → Prop} {avs : Nat → Nat → Int} {c l : Nat} (h : MF W0 N n q avs c l w) (r : RM (phT Tryd.prog N n q m0 W0 ans H Anch Fin) n w w₁) : MF W0 N n q avs c l w₁ where
  old := fun b hb => (r.fix b (by simp only; omega) (fun i hi => by simp only; omega)).trans (h.old b hb)
  arr := let ⟨xs, h1, h2⟩ := h.arr; ⟨xs, (r.fix _ (by simp only; omega) (fun i hi => by simp only; omega)).trans h1, h2⟩
  live := r.live h.live
  sums := let ⟨ys, h1, h2⟩ := h.sums; ⟨ys, (r.fix _ (by simp only; omega) (fun i hi => by simp only; omega)).trans h1, h2⟩

theorem MF.start {avs : Nat → Nat → Int} (h : MS W0 N n q ask n n 0 vv av w) {ys : Array Value} (hy : ys = Array.replicate q (.int .i64 0)) : MF W0 N n q avs 0 0 (w.alloc (.cells ys 3)) where
  old := fun b hb => (push_old (by have := h.size; omega)).trans (h.old b hb)
  arr := let ⟨xs, h1, h2⟩ := h.arr; ⟨xs, push_lt h1, h2⟩
  live := wgLive_of_block h.live (push_old (wgLive_lt h.live))
  sums := ⟨ys, push_at (by have := h.size; omega), by simp [hy], fun x hx => by simp [hy, sumC, hx]⟩

theorem MF.add {avs : Nat → Nat → Int} {c l : Nat} (h : MF W0 N n q avs c l w) (hl : l < q) {v : Int} (hv : v = sumC avs c l l + avs c l) : MF W0 N n q avs c (l + 1) (w.setCell ⟨N + 4 + 3 * n, l, none⟩ (.int .i64 v)) where
  old := fun b hb => (set_ne (by simp only; omega)).trans (h.old b hb)
  arr := let ⟨xs, h1, h2⟩ := h.arr; ⟨xs, (set_ne (by simp only; omega)).trans h1, h2⟩
  live := wgLive_of_block h.live (set_ne (by simp only; omega))
  sums := by
    obtain ⟨ys, h1, h2, h3⟩ := h.sums
    refine ⟨_, set_at h1, by simpa using h2, fun x hx => ?_⟩
    by_cases e : l = x
    · subst e
      rw [Array.getElem?_setIfInBounds_self_of_lt (by omega), hv]
      simp [sumC]
    · rw [Array.getElem?_setIfInBounds_ne e, h3 x hx]
      have : (x < l) ↔ (x < l + 1) := by omega
      simp [sumC, this]
theorem MF.turn {avs : Nat → Nat → Int} {c : Nat} (h : MF W0 N n q avs c q w) : MF W0 N n q avs (c + 1) 0 w where
  old := h.old
  arr := h.arr
  live := h.live
  sums := by
    obtain ⟨ys, h1, h2, h3⟩ := h.sums
    refine ⟨ys, h1, h2, fun x hx => ?_⟩
    rw [h3 x hx]
    simp [sumC, List.range_succ, hx]
end
end

section
open Go.Conc
open Go.ConcN (WgLive sumTo upd sumTo_upd upd_ne upd_same Deaf_still sumTo_congr le_sumTo sumTo_le bk_cell sumTo_upd_out)
open Go.ConcR (KK WgAt stA smA rd wr mk DC0 Bk bk_of_mute ofEvent_loc_mark ofEvent_mk)

section
variable {Φ : Ph} {gs gs' : Array Goroutine} {w w' : World} {sl : Option (Nat × Nat)} {j : Nat} {D D' : Nat → WD} {tag tag' : Tag} {f0 f' d0 d0' : Nat} {qs : Nat → Nat} {a a' : Goroutine} {t t' : Trace} {st sm st' sm' : Int} {es : Array Event}

theorem Com.spawn (O : Φ.Ok) (h : Com Φ j gs w t D 0 qs) {a' child : Goroutine} {x y : MemOp} {m : Nat} (hx : x.g = 0 ∧ x.act = .go (Φ.m0 + j)) (hy : y.g = Φ.m0 + j ∧ y.act = .start) (hlw : Φ.lw j ≤ w.heap.size) (hc : WSit Φ j (8 + Φ.q) m 0 child w) :
    Com Φ (j + 1) ((gs.setIfInBounds 0 a').push child) w (t ++ #[x, y]) (upd D j ⟨8 + Φ.q, m, 0⟩) 0 qs := by
  have hm0 := O.m0
  have hm : ∀ op ∈ #[x, y], op = x ∨ op = y := by intro op hop; simpa using hop
  have hst : ∀ op ∈ #[x, y], op.act ≠ .mark .disable ∧ op.act ≠ .mark .enable := by
    intro op hop
    rcases hm op hop with rfl | rfl
    · rw [hx.2]; exact ⟨by simp, by simp⟩
    · rw [hy.2]; exact ⟨by simp, by simp⟩
  have hdf : ∀ g, Deaf (t ++ #[x, y]) g = Deaf t g := fun g => Deaf_still t g _ hst
  have hget : ∀ i z, i ≠ 0 → gs[i]? = some z → ((gs.setIfInBounds 0 a').push child)[i]? = some z := fun i z h0 hz => by
    have hlt := (Array.getElem?_eq_some_iff.1 hz).1
    rw [Array.getElem?_push_lt (by simpa using hlt), ← Array.getElem?_eq_getElem, Array.getElem?_setIfInBounds_ne (by omega)]
    exact hz
  have hnt : ∀ op ∈ #[x, y], op.act.touch? = none := fun op hop => by
    rcases hm op hop with rfl | rfl
    · rw [hx.2]; rfl
    · rw [hy.2]; rfl
  refine ⟨by simp [h.size]; omega, fun i hi => ?_, fun i h0 h1 => ?_, fun i hi => by rw [hdf]; exact h.above i (by omega), h.pt.fork O.lies hx hy h.deaf0 (h.above _ (Nat.le_refl _)), by rw [hdf, h.deaf0], fun i hi => ?_, fun i hi hs => ?_, ?_, fun i hi => ?_, h.os, h.output, h.oldw, h.bsz, h.plain⟩
  · rcases Nat.lt_or_ge i j with hlt | hge
    · obtain ⟨g, hg, hsg⟩ := h.wk i hlt
      exact ⟨g, hget _ _ (by omega) hg, by rw [upd_ne D _ (by omega)]; exact hsg⟩
    · obtain rfl : i = j := by omega
      refine ⟨child, ?_, by rw [upd_same]; exact hc⟩
      rw [show Φ.m0 + i = (gs.setIfInBounds 0 a').size by simp [h.size], Array.getElem?_push_size]
  · obtain ⟨g, hg, hq⟩ := h.old i h0 h1
    exact ⟨g, hget _ _ (by omega) hg, by rw [hdf]; exact hq⟩
  · rw [hdf]
    rcases Nat.lt_or_ge i j with hlt | hge
    · rw [h.deafW i hlt, upd_ne D _ (by omega)]
    · obtain rfl : i = j := by omega
      rw [upd_same]; exact h.above _ (Nat.le_refl _)
  · rcases Nat.lt_or_ge i j with hlt | hge
    · rw [upd_ne D _ (by omega)] at hs
      obtain ⟨r, hr⟩ := h.rel i hlt hs
      exact ⟨r, hr.mutes hnt⟩
    · obtain rfl : i = j := by omega
      rw [upd_same] at hs
      simp at hs
      omega
  · refine low_app h.low (Nat.le_refl _) fun op hop => ?_
    rcases hm op hop with rfl | rfl
    · rw [hx.2]; trivial
    · rw [hy.2]; trivial
  · rcases Nat.lt_or_ge i j with hlt | hge
    · exact h.rdl i hlt
    · obtain rfl : i = j := by omega
      exact hlw

theorem bk_rd (hB : Φ.Wg < w.heap.size) : ∀ e ∈ #[rd (stA Φ.Wg)], Ok0 Φ.H Φ.Wg Φ.Rd j (.ofEvent e) ∧ (MemAct.ofEvent e).low w.heap.size := by
  intro e he; simp at he; subst he; exact ok0_bk hB (bk_cell _ _ rfl)
theorem bk_rw (hB : Φ.Wg < w.heap.size) : ∀ e ∈ #[rd (stA Φ.Wg), wr (stA Φ.Wg)], Ok0 Φ.H Φ.Wg Φ.Rd j (.ofEvent e) ∧ (MemAct.ofEvent e).low w.heap.size := by
  intro e he; simp at he; rcases he with rfl | rfl <;> exact ok0_bk hB (bk_cell _ _ rfl)
theorem bk_dis (hB : Φ.Wg < w.heap.size) : ∀ e ∈ #[mk .disable], Ok0 Φ.H Φ.Wg Φ.Rd j (.ofEvent e) ∧ (MemAct.ofEvent e).low w.heap.size := by
  intro e he; simp at he; subst he; exact ok0_bk hB (.inl rfl)
theorem bk_en (hB : Φ.Wg < w.heap.size) : ∀ e ∈ #[mk .enable], Ok0 Φ.H Φ.Wg Φ.Rd j (.ofEvent e) ∧ (MemAct.ofEvent e).low w.heap.size := by
  intro e he; simp at he; subst he; exact ok0_bk hB (.inr (.inl rfl))
theorem bk_acq (hB : Φ.Wg < w.heap.size) : ∀ e ∈ #[mk (.acquire (stA Φ.Wg))], Ok0 Φ.H Φ.Wg Φ.Rd j (.ofEvent e) ∧ (MemAct.ofEvent e).low w.heap.size := by
  intro e he; simp at he; subst he; exact ⟨⟨by simp [mk, MemAct.ofEvent], fun x hx => by cases hx⟩, hB⟩
theorem bk_sem (hB : Φ.Wg < w.heap.size) : ∀ e ∈ semEvents (smA Φ.Wg), Ok0 Φ.H Φ.Wg Φ.Rd j (.ofEvent e) ∧ (MemAct.ofEvent e).low w.heap.size := by
  intro e he
  simp [semEvents] at he
  rcases he with rfl | rfl | rfl | rfl
  · exact ok0_bk hB (.inl rfl)
  · exact ok0_bk hB (bk_cell _ _ rfl)
  · exact ok0_bk hB (bk_cell _ _ rfl)
  · exact ok0_bk hB (.inr (.inl rfl))
theorem lt2_trans {x y z : Nat × Nat} (h : Lt2 x y) (h' : Lt2 y z) : Lt2 x z := by
  rcases Prod.lex_def.1 h with h | ⟨h, hh⟩ <;> rcases Prod.lex_def.1 h' with k | ⟨k, kk⟩ <;> refine Prod.lex_def.2 ?_ <;> omega

theorem w1Step (O : Φ.Ok) (ha : gs[0]? = some a) (hcom : Com Φ Φ.n gs w t D 1 qs) (hwg : WgAt Φ.ty Φ.Wg w st sm) (hmode : Mode Φ.n D .w1 st sm) (hchs : Chans Φ Φ.n D .w1 w)
    (h : Goes Φ.P true (RM Φ Φ.n) DC0 (AtW1 Φ) f0 a w) : Step1 Φ (crowd gs w sl) t 0 (meas Φ Φ.n D .w1 f0 qs) := by
  have hB : Φ.Wg < w.heap.size := wgLive_lt ⟨_, _, hwg⟩
  have hn := O.hn
  rcases Goes.cases h with hstop | ⟨m', rfl, hstep⟩
  · obtain ⟨_, hall⟩ := hstop w (.refl w)
    obtain ⟨ho, rfl, rfl, _⟩ := hmode.open_inv trivial
    have hV := Vc_le Φ.n D
    have hw1 : WgAt Φ.ty Φ.Wg w ((Vc Φ.n D : Nat) * KK) 0 := by simpa [pend] using hwg
    obtain ⟨a', hgo, h0, hne⟩ := hall (Vc Φ.n D) (by omega) hw1
    by_cases hv : Vc Φ.n D = 0
    · obtain ⟨m₂, hk⟩ := h0 hv
      refine bookC O ha hcom hwg hchs hgo (.refl w) (fun _ _ => rfl) hwg (bk_rd hB) (.ke hk) ?_ (fun _ _ => rfl) (by simp) (by simp) (.inl (by simp only [phi]; omega))
      have e : ((Vc Φ.n D + pend .w1 : Nat) : Int) * KK = 0 := by rw [hv]; simp [pend]
      rw [e]
      exact .fin trivial (allQuit_of ho hv)
    · obtain ⟨m₂, hk⟩ := hne hv
      exact bookC O ha hcom hwg hchs hgo (.refl w) (fun _ _ => rfl) hwg (bk_rd hB) (.w2 hk) (hmode.openTo trivial trivial rfl (fun vs e => by cases e; omega)) (fun _ _ => rfl) (by simp) (by simp) (.inl (by simp only [phi]; omega))
  · obtain ⟨a', w', es, hgo, ⟨rfl, rfl⟩, hg'⟩ := hstep w (.refl w)
    exact idleC O ha hcom hwg hmode hchs (by simp) hgo dm_nil (Nat.le_refl _) (.w1 hg') (by omega)

theorem snds_goes {k l : Nat} {g : Goroutine} (h : Snds Φ k l g w) : ∃ m, Goes Φ.P false (RW Φ k) (DW Φ k) (AtSn Φ k l) m g w := by cases l <;> exact h
theorem rvIn_goes {After : Goroutine → World → Prop} {i l : Nat} {g : Goroutine} (h : RvIn Φ After i l g w) : ∃ m, Goes Φ.P true (RM Φ Φ.n) (DM Φ Φ.n) (AtRv Φ After i l) m g w := by cases l <;> exact h

theorem spawnStep (O : Φ.Ok) (ha : gs[0]? = some a) {r m₂ : Nat} (hr : r < Φ.n) {J : Nat} (hJ : J = Φ.n - (r + 1)) {child : Goroutine} (hcom : Com Φ J gs w t D 0 qs) (hwg : WgAt Φ.ty Φ.Wg w st sm) (hmode : Mode J D (.sp r 2) st sm) (hchs : Chans Φ J D (.sp r 2) w)
    (hsp : stepG Φ.P true a w = .spawn a' child w #[]) (hchan : w.heap[Φ.ch J]? = some (.chan Φ.q #[] false 0 0 false)) (hlw : Φ.lw J ≤ w.heap.size)
    (hwk : WSit Φ J (8 + Φ.q) m₂ 0 child w) (hnext : Spawns Φ r a' w) : Step1 Φ (crowd gs w sl) t 0 (meas Φ J D (.sp r 2) f0 qs) := by
  have hm0 := O.m0
  obtain ⟨ho, rfl, rfl, _⟩ := hmode.open_inv trivial
  have hrun' := runT_crowd_spawn (P := Φ.P) (sl := sl) (i := 0) ha (by simpa using hsp)
  rw [hcom.size] at hrun'
  have hcom' := hcom.spawn O (a' := a') (x := { g := 0, fn := a.frame.fn, pos := a.frame.place, act := .go (Φ.m0 + J) }) (y := { g := Φ.m0 + J, fn := child.frame.fn, pos := a.frame.place, act := .start }) ⟨rfl, rfl⟩ ⟨rfl, rfl⟩ hlw hwk
  have eops : ((MemOp.ofEvents 0 a.frame.fn a.frame.place #[]).push { g := 0, fn := a.frame.fn, pos := a.frame.place, act := .go (Φ.m0 + J) }).push { g := Φ.m0 + J, fn := child.frame.fn, pos := a.frame.place, act := .start } =
      #[{ g := 0, fn := a.frame.fn, pos := a.frame.place, act := .go (Φ.m0 + J) }, { g := Φ.m0 + J, fn := child.frame.fn, pos := a.frame.place, act := .start }] := by simp [MemOp.ofEvents]
  rw [eops] at hrun'
  have ha' : ((gs.setIfInBounds 0 a').push child)[0]? = some a' := by
    rw [Array.getElem?_push_lt (by simp [hcom.size]; omega), ← Array.getElem?_eq_getElem]
    rw [Array.getElem?_setIfInBounds_self_of_lt (by rw [hcom.size]; omega)]
  obtain ⟨x, hx⟩ : ∃ x : WD, x = ⟨8 + Φ.q, m₂, 0⟩ := ⟨_, rfl⟩
  have c1 : cntD x = 1 := by subst hx; simp [cntD]; omega
  have s1 : x.stage = 8 + Φ.q := by rw [hx]
  rw [← hx] at hcom'
  have eV : Vc (J + 1) (upd D J x) = Vc J D + 1 := by
    simp only [Vc, sumTo, upd_same]
    rw [sumTo_upd_out D _ cntD (Nat.le_refl _), c1]
  have eS : Ssum (J + 1) (upd D J x) = Ssum J D + (8 + Φ.q) := by
    simp only [Ssum, sumTo, upd_same]
    rw [sumTo_upd_out D _ WD.stage (Nat.le_refl _), s1]
  have ho' : OpenSt (J + 1) (upd D J x) := fun i hi => by
    by_cases e : i = J
    · subst e; rw [upd_same, s1]; exact .inl (by omega)
    · rw [upd_ne D _ e]; exact ho i (by omega)
  have est : ∀ tag', pend tag' = 0 → ((Vc J D + pend (.sp r 2) : Nat) : Int) * KK = ((Vc (J + 1) (upd D J x) + pend tag' : Nat) : Int) * KK := fun tag' hp => by rw [eV, hp]; simp [pend]
  have hch' : ∀ tag', (∀ i, i < J + 1 → rcvd Φ.n Φ.q tag' i = 0) → (∀ c l, tag' ≠ .pk c l) → Chans Φ (J + 1) (upd D J x) tag' w := fun tag' hr0 hp => by
    refine ⟨fun i hi => ?_, fun c l e => absurd e (hp c l)⟩
    rw [hr0 i hi]
    by_cases e : i = J
    · subst e
      have hs0 : sent Φ.q x = 0 := by simp only [sent, s1]; omega
      rw [upd_same, hs0, bufOf_nil (Nat.le_refl _), show decide (x.stage ≤ 7) = false by rw [s1]; simp; omega]
      exact ⟨hchan, Nat.le_refl _⟩
    · rw [upd_ne D _ e]
      exact hchs.at' i (by omega)
  cases r with
  | zero =>
    obtain ⟨c, hc⟩ : ∃ c, Φ.n = c + 1 := ⟨Φ.n - 1, by have := O.n1; omega⟩
    obtain ⟨m₃, hk⟩ : ∃ m, Goes Φ.P true (RM Φ Φ.n) (DM Φ Φ.n) (AtRv Φ (RvAll Φ c) (Φ.n - (c + 1)) Φ.q) m a' w := by
      refine rvIn_goes (?_ : RvIn Φ (RvAll Φ c) (Φ.n - (c + 1)) Φ.q a' w)
      have h2 : RvAll Φ Φ.n a' w := hnext
      rw [hc] at h2
      exact h2
    have eJ : J + 1 = Φ.n := by omega
    refine ⟨_, _, meas Φ Φ.n (upd D J x) (.rv (c + 1) Φ.q) (m₃ + 1) qs, hrun', ?_, _, w, sl, Φ.n, upd D J x, .rv (c + 1) Φ.q, m₃ + 1, 0, qs, a', _, _, rfl, ha', .rv (by omega) (Nat.le_refl _) hk, eJ ▸ hcom', hwg, ?_, ?_, by simp, rfl⟩
    · rw [← eJ]
      refine Prod.Lex.left _ _ ?_
      rw [eS, eV]
      simp only [phi, show c + 1 = Φ.n by omega, Nat.add_mul]
      omega
    · rw [est (.rv (c + 1) Φ.q) rfl, ← eJ]
      exact .opn trivial ho' (by simp)
    · rw [← eJ]
      refine hch' _ (fun i hi => ?_) (by simp)
      simp only [rcvd]
      rw [if_neg (by omega)]
      split <;> omega
  | succ r' =>
    obtain ⟨m₃, hk⟩ := hnext
    have eJ : J + 1 = Φ.n - (r' + 1) := by omega
    refine ⟨_, _, meas Φ (Φ.n - (r' + 1)) (upd D J x) (.sp r' 6) m₃ qs, hrun', ?_, _, w, sl, Φ.n - (r' + 1), upd D J x, .sp r' 6, m₃, 0, qs, a', _, _, rfl, ha', .skd (by omega) hk, eJ ▸ hcom', hwg, ?_, ?_, by simp, rfl⟩
    · rw [← eJ]
      refine Prod.Lex.left _ _ ?_
      rw [eS, eV]
      simp only [phi, Nat.mul_add, Nat.add_mul]
      omega
    · rw [est (.sp r' 6) rfl, ← eJ]
      exact .opn trivial ho' (by simp)
    · rw [← eJ]
      exact hch' _ (fun i hi => rfl) (by simp)

set_option maxHeartbeats 3200000 in
theorem stepCaller (O : Φ.Ok) (ha : gs[0]? = some a) (hcs : CSit Φ tag j f0 d0 a w) (hcom : Com Φ j gs w t D d0 qs) (hwg : WgAt Φ.ty Φ.Wg w st sm) (hmode : Mode j D tag st sm) (hchs : Chans Φ j D tag w)
    (hacq : tag = .fin → AcqK Φ.Wg Φ.m0 j t) (hrun : a.status = .running) : Step1 Φ (crowd gs w sl) t 0 (meas Φ j D tag f0 qs) ∨ (tag = .fin ∧ j = Φ.n ∧ d0 = 0 ∧ ∀ w₁, RM Φ Φ.n w w₁ → Φ.Fin a w₁) := by
  have hm0 := O.m0
  have hn := O.hn
  have hB : Φ.Wg < w.heap.size := wgLive_lt ⟨_, _, hwg⟩
  have hVj := Vc_le j D
  have hbd := hcs.bound
  have hbs : ∀ (a : Addr) (v : Value), a.block = Φ.Wg → ∀ b, b ≠ Φ.Wg → (w.setCell a v).heap[b]? = w.heap[b]? := fun a v hab b hb => setCell_heap w a v b (by rw [hab]; exact hb)
  -- an idle step that lists nothing
  have idle : ∀ {a' : Goroutine} {f' : Nat}, stepG Φ.P true a w = .go a' w #[] → CSit Φ tag j f' d0 a' w → f' < f0 → Step1 Φ (crowd gs w sl) t 0 (meas Φ j D tag f0 qs) :=
    fun hgo hcs' hf => idleC O ha hcom hwg hmode hchs hacq hgo dm_nil (by omega) hcs' hf
  cases hcs with
  | @skd r m _ _ hr h =>
    rcases Goes.cases h with hstop | ⟨m', rfl, hstep⟩
    · obtain ⟨_, a', hgo, m₂, hk⟩ := hstop w (.refl w)
      exact .inl (bookC O ha hcom hwg hchs hgo (.refl w) (fun _ _ => rfl) hwg (bk_dis hB) (.sa1 hr hk) (hmode.openTo trivial trivial rfl (by simp)) (fun _ _ => rfl) (by simp) (by simp) (.inl (by simp only [phi]; omega)))
    · obtain ⟨a', w', es, hgo, hD, hg'⟩ := hstep w (.refl w)
      exact .inl (idleC O ha hcom hwg hmode hchs hacq hgo hD (by omega) (.skd hr hg') (by omega))
  | @sa1 r m _ _ hr h =>
    rcases Goes.cases h with hstop | ⟨m', rfl, hstep⟩
    · obtain ⟨_, hall⟩ := hstop w (.refl w)
      obtain ⟨ho, rfl, rfl, _⟩ := hmode.open_inv trivial
      have hw1 : WgAt Φ.ty Φ.Wg w ((Vc (Φ.n - (r + 1)) D : Nat) * KK) 0 := by simpa [pend] using hwg
      obtain ⟨a', hgo, h0, h1⟩ := hall (Vc (Φ.n - (r + 1)) D) (by simp [pend] at hbd; omega) hw1
      by_cases hv : Vc (Φ.n - (r + 1)) D = 0
      · obtain ⟨m₂, hk⟩ := h0 hv
        exact .inl (bookC O ha hcom hwg hchs hgo (RM.of_wg rfl (hw1.setSt _)) (hbs _ _ rfl) (hw1.setSt _) (bk_rw hB) (.srd hr hk) (by
          have := Mode.opn (j := Φ.n - (r + 1)) (D := D) (tag := .sp r 4) trivial ho (by simp)
          simpa [pend] using this) (fun _ _ => rfl) (by simp) (by simp) (.inl (by simp only [phi]; omega)))
      · obtain ⟨m₂, hk⟩ := h1 hv
        exact .inl (bookC O ha hcom hwg hchs hgo (RM.of_wg rfl (hw1.setSt _)) (hbs _ _ rfl) (hw1.setSt _) (bk_rw hB) (.ske hr hk) (by
          have := Mode.opn (j := Φ.n - (r + 1)) (D := D) (tag := .sp r 3) trivial ho (by simp)
          simpa [pend] using this) (fun _ _ => rfl) (by simp) (by simp) (.inl (by simp only [phi]; omega)))
    · obtain ⟨a', w', es, hgo, ⟨rfl, rfl⟩, hg'⟩ := hstep w (.refl w)
      exact .inl (idle hgo (.sa1 hr hg') (by omega))
  | @srd r m _ _ hr h =>
    rcases Goes.cases h with hstop | ⟨m', rfl, hstep⟩
    · obtain ⟨_, a', hgo, m₂, hk⟩ := hstop w (.refl w)
      exact .inl (bookC O ha hcom hwg hchs hgo (.refl w) (fun _ _ => rfl) hwg (bk_said hB (.inl rfl)) (.ske hr hk) (hmode.openTo trivial trivial rfl (by simp)) (fun _ _ => rfl) (by simp) (by simp) (.inl (by simp only [phi]; omega)))
    · obtain ⟨a', w', es, hgo, ⟨rfl, rfl⟩, hg'⟩ := hstep w (.refl w)
      exact .inl (idle hgo (.srd hr hg') (by omega))
  | @ske r m _ _ hr h =>
    rcases Goes.cases h with hstop | ⟨m', rfl, hstep⟩
    · obtain ⟨_, a', hgo, m₂, hk⟩ := hstop w (.refl w)
      exact .inl (bookC O ha hcom hwg hchs hgo (.refl w) (fun _ _ => rfl) hwg (bk_en hB) (.sgo hr hk) (hmode.openTo trivial trivial rfl (by simp)) (fun _ _ => rfl) (by simp) (by simp) (.inl (by simp only [phi]; omega)))
    · obtain ⟨a', w', es, hgo, ⟨rfl, rfl⟩, hg'⟩ := hstep w (.refl w)
      exact .inl (idle hgo (.ske hr hg') (by omega))
  | @sgo r m _ _ hr h =>
    rcases Goes.cases h with hstop | ⟨m', rfl, hstep⟩
    · obtain ⟨_, a', child, hsp, _, hchan, hlw, hwk0, hnext⟩ := hstop w (.refl w)
      obtain ⟨m₂, hwk⟩ : ∃ m, WSit Φ (Φ.n - (r + 1)) (8 + Φ.q) m 0 child w := by
        obtain ⟨m, hG⟩ : ∃ m, Goes Φ.P false (RW Φ (Φ.n - (r + 1))) (DW Φ (Φ.n - (r + 1))) (AtSn Φ (Φ.n - (r + 1)) Φ.q) m child w := snds_goes hwk0
        exact ⟨m, .snd (Nat.le_refl _) hG⟩
      exact .inl (spawnStep O ha hr rfl hcom hwg hmode hchs hsp hchan hlw hwk hnext)
    · obtain ⟨a', w', es, hgo, hD, hg'⟩ := hstep w (.refl w)
      exact .inl (idleC O ha hcom hwg hmode hchs hacq hgo hD (by omega) (.sgo hr hg') (by omega))
  | @rv c l m _ _ hc hl h =>
    rcases Goes.cases h with hstop | ⟨m', rfl, hstep⟩
    · exact .inl (recvStep O ha hc hl hcom hwg hmode hchs hstop)
    · obtain ⟨a', w', es, hgo, hD, hg'⟩ := hstep w (.refl w)
      exact .inl (idleC O ha hcom hwg hmode hchs hacq hgo hD (by omega) (.rv hc hl hg') (by omega))
  | pk _ _ _ => simp [parked] at hrun
  | kd h =>
    rcases Goes.cases h with hstop | ⟨m', rfl, hstep⟩
    · obtain ⟨_, a', hgo, m₂, hk⟩ := hstop w (.refl w)
      exact .inl (bookC O ha hcom hwg hchs hgo (.refl w) (fun _ _ => rfl) hwg (bk_dis hB) (.anch hk) (hmode.openTo trivial trivial rfl (by simp)) (fun _ _ => rfl) (by simp) (by simp) (.inl (by simp only [phi]; omega)))
    · obtain ⟨a', w', es, hgo, hD, hg'⟩ := hstep w (.refl w)
      exact .inl (idleC O ha hcom hwg hmode hchs hacq hgo hD (by omega) (.kd hg') (by omega))
  | anch h =>
    rcases Goes.cases h with hstop | ⟨m', rfl, hstep⟩
    · obtain ⟨m₂, hk⟩ := (O.anch a w (hstop w (.refl w))).2
      obtain ⟨m₁, ops, μ', h1, h2, h3⟩ := w1Step (sl := sl) O ha hcom hwg (hmode.openTo trivial trivial rfl (by simp)) (hchs.keepC (fun _ _ => rfl) (fun _ _ => rfl) (by simp)) hk
      exact .inl ⟨m₁, ops, μ', h1, lt2_trans h2 (Prod.Lex.left _ _ (by simp only [phi]; omega)), h3⟩
    · obtain ⟨a', w', es, hgo, ⟨rfl, rfl⟩, hg'⟩ := hstep w (.refl w)
      exact .inl (idle hgo (.anch hg') (by omega))
  | w1 h => exact .inl (w1Step O ha hcom hwg hmode hchs h)
  | @w2 vs m _ _ h =>
    rcases Goes.cases h with hstop | ⟨m', rfl, hstep⟩
    · obtain ⟨_, hall⟩ := hstop w (.refl w)
      obtain ⟨ho, rfl, rfl, hw2⟩ := hmode.open_inv trivial
      obtain ⟨hle, h1⟩ := hw2 vs rfl
      have hw1 : WgAt Φ.ty Φ.Wg w ((Vc Φ.n D : Nat) * KK) 0 := by simpa [pend] using hwg
      obtain ⟨hhit, hmiss⟩ := hall (Vc Φ.n D) (by omega) hw1
      by_cases e : Vc Φ.n D = vs
      · obtain ⟨a', hgo, m₂, hk⟩ := hhit e
        exact .inl (bookC O ha hcom hwg hchs hgo (RM.of_wg rfl (hw1.setSt _)) (hbs _ _ rfl) (hw1.setSt _) (bk_rw hB) (.wr hk) (.reg trivial ho (by omega)) (fun _ _ => rfl) (by simp) (by simp) (.inl (by simp only [phi]; omega)))
      · obtain ⟨a', hgo, m₂, hk⟩ := hmiss e
        exact .inl (bookC O ha hcom hwg hchs hgo (.refl w) (fun _ _ => rfl) hwg (bk_rd hB) (.anch hk) (hmode.openTo trivial trivial rfl (by simp)) (fun _ _ => rfl) (by simp) (by simp) (.inl (by simp only [phi]; omega)))
    · obtain ⟨a', w', es, hgo, ⟨rfl, rfl⟩, hg'⟩ := hstep w (.refl w)
      exact .inl (idle hgo (.w2 hg') (by omega))
  | wr h =>
    rcases Goes.cases h with hstop | ⟨m', rfl, hstep⟩
    · obtain ⟨_, a', hgo, m₂, hk⟩ := hstop w (.refl w)
      have hm' : Mode Φ.n D .w3 st sm := by
        cases hmode with
        | opn h1 _ _ => exact h1.elim
        | reg _ h2 h3 => exact .reg trivial h2 h3
        | last L _ h2 h3 h4 => exact .last L trivial h2 h3 h4
        | sema _ h2 => exact .sema trivial h2
        | fin h1 _ => exact h1.elim
      exact .inl (bookC O ha hcom hwg hchs hgo (.refl w) (fun _ _ => rfl) hwg (bk_said hB (.inr rfl)) (.w3 hk) hm' (fun _ _ => rfl) (by simp) (by simp) (.inl (by simp only [phi]; omega)))
    · obtain ⟨a', w', es, hgo, ⟨rfl, rfl⟩, hg'⟩ := hstep w (.refl w)
      exact .inl (idle hgo (.wr hg') (by omega))
  | @w3 m _ _ h =>
    rcases Goes.cases h with hstop | ⟨m', rfl, hstep⟩
    · obtain ⟨_, hoff, hblk, htake⟩ := hstop w (.refl w)
      have park : ∀ {st1 : Int}, WgAt Φ.ty Φ.Wg w st1 0 → Mode Φ.n D .blk st sm → Step1 Φ (crowd gs w sl) t 0 (meas Φ Φ.n D .w3 (m + 1) qs) := fun hw1 hm1 =>
        bookC O ha hcom hwg hchs (hblk ⟨_, hw1⟩) (.refl w) (fun _ _ => rfl) hwg (by simp) (.blk hstop) hm1 (fun _ _ => rfl) (by simp) (by simp) (.inr ⟨rfl, by omega⟩)
      cases hmode with
      | opn h1 _ _ => exact h1.elim
      | reg h1 h2 h3 => exact .inl (park hwg (.reg trivial h2 h3))
      | last L h1 h2 h3 h4 => exact .inl (park hwg (.last L trivial h2 h3 h4))
      | sema _ h2 =>
        obtain ⟨a', hgo, m₂, hk⟩ := htake hwg
        exact .inl (bookC O ha hcom hwg hchs hgo (RM.of_wg rfl (hwg.setSm 0)) (hbs _ _ rfl) (hwg.setSm 0) (bk_sem hB) (.w4 hk) (.fin trivial h2) (fun _ _ => rfl) (by simp) (by simp) (.inl (by simp only [phi]; omega)))
      | fin h1 _ => exact h1.elim
    · obtain ⟨a', w', es, hgo, ⟨rfl, rfl⟩, hg'⟩ := hstep w (.refl w)
      exact .inl (idle hgo (.w3 hg') (by omega))
  | blk h => simp at hrun
  | w4 h =>
    rcases Goes.cases h with hstop | ⟨m', rfl, hstep⟩
    · obtain ⟨_, hx⟩ := hstop w (.refl w)
      obtain ⟨hq, rfl, rfl⟩ := hmode.fin_inv trivial
      obtain ⟨a', hgo, m₂, hk⟩ := hx hwg
      exact .inl (bookC O ha hcom hwg hchs hgo (.refl w) (fun _ _ => rfl) hwg (bk_rd hB) (.ke hk) (.fin trivial hq) (fun _ _ => rfl) (by simp) (by simp) (.inl (by simp only [phi]; omega)))
    · obtain ⟨a', w', es, hgo, ⟨rfl, rfl⟩, hg'⟩ := hstep w (.refl w)
      exact .inl (idle hgo (.w4 hg') (by omega))
  | ke h =>
    rcases Goes.cases h with hstop | ⟨m', rfl, hstep⟩
    · obtain ⟨_, a', hgo, m₂, hk⟩ := hstop w (.refl w)
      obtain ⟨hq, rfl, rfl⟩ := hmode.fin_inv trivial
      exact .inl (bookC O ha hcom hwg hchs hgo (.refl w) (fun _ _ => rfl) hwg (bk_en hB) (.acq hk) (.fin trivial hq) (fun _ _ => rfl) (by simp) (by simp) (.inl (by simp only [phi]; omega)))
    · obtain ⟨a', w', es, hgo, ⟨rfl, rfl⟩, hg'⟩ := hstep w (.refl w)
      exact .inl (idle hgo (.ke hg') (by omega))
  | acq h =>
    rcases Goes.cases h with hstop | ⟨m', rfl, hstep⟩
    · obtain ⟨_, a', hgo, m₂, hk⟩ := hstop w (.refl w)
      obtain ⟨hq, rfl, rfl⟩ := hmode.fin_inv trivial
      refine .inl (bookC O ha hcom hwg hchs hgo (.refl w) (fun _ _ => rfl) hwg (bk_acq hB) (.fin hk) (.fin trivial hq) (fun _ _ => rfl) (by simp) (fun _ => ?_) (.inl (by simp only [phi]; omega)))
      have e1 : MemOp.ofEvents 0 a.frame.fn a.frame.place #[mk (.acquire (stA Φ.Wg))] = #[{ g := 0, fn := a.frame.fn, pos := a.frame.place, act := .mark (.acquire (stA Φ.Wg)) }] := by rw [ofEvents_eq]; simp [ofEvent_mk]
      have hy : (t ++ #[({ g := 0, fn := a.frame.fn, pos := a.frame.place, act := .mark (.acquire (stA Φ.Wg)) } : MemOp)])[t.size]? = some { g := 0, fn := a.frame.fn, pos := a.frame.place, act := .mark (.acquire (stA Φ.Wg)) } := by simp
      refine ⟨t.size, by rw [e1, act?_of hy], by rw [e1]; simp [Trace.g?], by rw [e1]; exact ⟨0, by simp [Trace.g?], by rw [deaf_old (Nat.le_refl _)]; exact hcom.deaf0⟩, fun i hi => ?_⟩
      obtain ⟨r, hr⟩ := hcom.rel i hi (by rw [hq i hi]; omega)
      exact ⟨r, hr.other (fun op hop => by obtain ⟨e, _, rfl⟩ := Go.Conc.mem_ofEvents hop; show 0 ≠ _; omega), lt_of_act? hr.act⟩
    · obtain ⟨a', w', es, hgo, ⟨rfl, rfl⟩, hg'⟩ := hstep w (.refl w)
      exact .inl (idle hgo (.acq hg') (by omega))
  | fin h =>
    rcases Goes.cases h with hstop | ⟨m', rfl, hstep⟩
    · exact .inr ⟨rfl, rfl, rfl, hstop⟩
    · obtain ⟨a', w', es, hgo, hD, hg'⟩ := hstep w (.refl w)
      exact .inl (idleC O ha hcom hwg hmode hchs hacq hgo hD (by omega) (.fin hg') (by omega))
end
end

section
open Go.Conc Go.RowKit Go.Conc.Lib Go.ConcR.Gen Go.ConcN.Gen
open Go.ConcN (WgLive)
open Go.ConcR (KK WgAt stA smA rd wr mk DC0)

theorem list_cons_of {l : List Value} {k : Nat} (h : l.length = k + 1) : ∃ v l', l = v :: l' ∧ l'.length = k := by
  cases l with
  | nil => simp at h
  | cons v l' => exact ⟨v, l', rfl, by simpa using h⟩
theorem arr60 (T : Array Value) (h : T.size = 60) : ∃ v0 v1 v2 v3 v4 v5 v6 v7 v8 v9 v10 v11 v12 v13 v14 v15 v16 v17 v18 v19 v20 v21 v22 v23 v24 v25 v26 v27 v28 v29 v30 v31 v32 v33 v34 v35 v36 v37 v38 v39 v40 v41 v42 v43 v44 v45 v46 v47 v48 v49 v50 v51 v52 v53 v54 v55 v56 v57 v58 v59, T = #[v0, v1, v2, v3, v4, v5, v6, v7, v8, v9, v10, v11, v12, v13, v14, v15, v16, v17, v18, v19, v20, v21, v22, v23, v24, v25, v26, v27, v28, v29, v30, v31, v32, v33, v34, v35, v36, v37, v38, v39, v40, v41, v42, v43, v44, v45, v46, v47, v48, v49, v50, v51, v52, v53, v54, v55, v56, v57, v58, v59] := by
  obtain ⟨l⟩ := T
  simp only [List.size_toArray] at h
  obtain ⟨v0, l0, rfl, h0⟩ := list_cons_of h
  obtain ⟨v1, l1, rfl, h1⟩ := list_cons_of h0
  obtain ⟨v2, l2, rfl, h2⟩ := list_cons_of h1
  obtain ⟨v3, l3, rfl, h3⟩ := list_cons_of h2
  obtain ⟨v4, l4, rfl, h4⟩ := list_cons_of h3
  obtain ⟨v5, l5, rfl, h5⟩ := list_cons_of h4
  obtain ⟨v6, l6, rfl, h6⟩ := list_cons_of h5
  obtain ⟨v7, l7, rfl, h7⟩ := list_cons_of h6
  obtain ⟨v8, l8, rfl, h8⟩ := list_cons_of h7
  obtain ⟨v9, l9, rfl, h9⟩ := list_cons_of h8
  obtain ⟨v10, l10, rfl, h10⟩ := list_cons_of h9
  obtain ⟨v11, l11, rfl, h11⟩ := list_cons_of h10
  obtain ⟨v12, l12, rfl, h12⟩ := list_cons_of h11
  obtain ⟨v13, l13, rfl, h13⟩ := list_cons_of h12
  obtain ⟨v14, l14, rfl, h14⟩ := list_cons_of h13
  obtain ⟨v15, l15, rfl, h15⟩ := list_cons_of h14
  obtain ⟨v16, l16, rfl, h16⟩ := list_cons_of h15
  obtain ⟨v17, l17, rfl, h17⟩ := list_cons_of h16
  obtain ⟨v18, l18, rfl, h18⟩ := list_cons_of h17
  obtain ⟨v19, l19, rfl, h19⟩ := list_cons_of h18
  obtain ⟨v20, l20, rfl, h20⟩ := list_cons_of h19
  obtain ⟨v21, l21, rfl, h21⟩ := list_cons_of h20
  obtain ⟨v22, l22, rfl, h22⟩ := list_cons_of h21
  obtain ⟨v23, l23, rfl, h23⟩ := list_cons_of h22
  obtain ⟨v24, l24, rfl, h24⟩ := list_cons_of h23
  obtain ⟨v25, l25, rfl, h25⟩ := list_cons_of h24
  obtain ⟨v26, l26, rfl, h26⟩ := list_cons_of h25
  obtain ⟨v27, l27, rfl, h27⟩ := list_cons_of h26
  obtain ⟨v28, l28, rfl, h28⟩ := list_cons_of h27
  obtain ⟨v29, l29, rfl, h29⟩ := list_cons_of h28
  obtain ⟨v30, l30, rfl, h30⟩ := list_cons_of h29
  obtain ⟨v31, l31, rfl, h31⟩ := list_cons_of h30
  obtain ⟨v32, l32, rfl, h32⟩ := list_cons_of h31
  obtain ⟨v33, l33, rfl, h33⟩ := list_cons_of h32
  obtain ⟨v34, l34, rfl, h34⟩ := list_cons_of h33
  obtain ⟨v35, l35, rfl, h35⟩ := list_cons_of h34
  obtain ⟨v36, l36, rfl, h36⟩ := list_cons_of h35
  obtain ⟨v37, l37, rfl, h37⟩ := list_cons_of h36
  obtain ⟨v38, l38, rfl, h38⟩ := list_cons_of h37
  obtain ⟨v39, l39, rfl, h39⟩ := list_cons_of h38
  obtain ⟨v40, l40, rfl, h40⟩ := list_cons_of h39
  obtain ⟨v41, l41, rfl, h41⟩ := list_cons_of h40
  obtain ⟨v42, l42, rfl, h42⟩ := list_cons_of h41
  obtain ⟨v43, l43, rfl, h43⟩ := list_cons_of h42
  obtain ⟨v44, l44, rfl, h44⟩ := list_cons_of h43
  obtain ⟨v45, l45, rfl, h45⟩ := list_cons_of h44
  obtain ⟨v46, l46, rfl, h46⟩ := list_cons_of h45
  obtain ⟨v47, l47, rfl, h47⟩ := list_cons_of h46
  obtain ⟨v48, l48, rfl, h48⟩ := list_cons_of h47
  obtain ⟨v49, l49, rfl, h49⟩ := list_cons_of h48
  obtain ⟨v50, l50, rfl, h50⟩ := list_cons_of h49
  obtain ⟨v51, l51, rfl, h51⟩ := list_cons_of h50
  obtain ⟨v52, l52, rfl, h52⟩ := list_cons_of h51
  obtain ⟨v53, l53, rfl, h53⟩ := list_cons_of h52
  obtain ⟨v54, l54, rfl, h54⟩ := list_cons_of h53
  obtain ⟨v55, l55, rfl, h55⟩ := list_cons_of h54
  obtain ⟨v56, l56, rfl, h56⟩ := list_cons_of h55
  obtain ⟨v57, l57, rfl, h57⟩ := list_cons_of h56
  obtain ⟨v58, l58, rfl, h58⟩ := list_cons_of h57
  obtain ⟨v59, l59, rfl, h59⟩ := list_cons_of h58
  obtain rfl := List.length_eq_zero_iff.1 h59
  exact ⟨_, _, _, _, _, _, _, _, _, _, _, _, _, _, _, _, _, _, _, _, _, _, _, _, _, _, _, _, _, _, _, _, _, _, _, _, _, _, _, _, _, _, _, _, _, _, _, _, _, _, _, _, _, _, _, _, _, _, _, _, rfl⟩

def mainL (fn : Func) : Code := match codeW fn with | .seq _ (.seq _ (.seq _ (.seq (.seq _ (.block _ (.loop c))) _))) => c | _ => .skip
def mainA (fn : Func) : Code := match codeW fn with | .seq _ (.seq _ (.seq _ (.seq _ y))) => y | _ => .skip
def mainM (fn : Func) : Code := match codeW fn with | .seq _ (.seq _ (.seq _ (.seq _ (.seq _ (.seq (.seq _ (.block _ (.loop c))) _))))) => c | _ => .skip
def mainB (fn : Func) : Code := match codeW fn with | .seq _ (.seq _ (.seq _ (.seq _ (.seq _ (.seq _ y))))) => y | _ => .skip
def mainI (fn : Func) : Code := match mainM fn with | .seq _ (.seq _ (.seq (.block _ (.seq _ (.seq _ (.seq _ (.block _ (.loop c)))))) _)) => c | _ => .skip
def mainR (fn : Func) : Code := match mainM fn with | .seq _ (.seq _ (.seq _ y)) => y | _ => .skip
def opsWt (fn : Func) : Array Oper := match mainB fn with | .seq (.region _ o _) _ => o | _ => #[]
def mainE (fn : Func) : Code := match mainB fn with | .seq _ y => y | _ => .skip

def frM (fr : Frame) (cs : List Frame) (T : Array Value) (todo : List Item) : Goroutine := G ((base 31).at ⟨T, []⟩ todo) (fr :: cs)
def headS (fn : Func) : List Item := [.code (mainL fn), .inLoop (mainL fn), .inBlock 0, .code (mainA fn)]
def headR (fn : Func) : List Item := [.code (mainM fn), .inLoop (mainM fn), .inBlock 2, .code (mainB fn)]
def headI (fn : Func) : List Item := [.code (mainI fn), .inLoop (mainI fn), .inBlock 4, .inBlock 3, .code (mainR fn), .inLoop (mainM fn), .inBlock 2, .code (mainB fn)]
def waitFr (fn : Func) (T : Array Value) : Frame := (base 31).at ⟨T, []⟩ [.inRegion (opsWt fn) [0], .code (mainE fn)]

structure TS (N n : Nat) (views : Value) (j : Nat) (T : Array Value) : Prop where
  sz : T.size = 60
  t4 : T[4]? = some (.pointer (some ⟨N, 0, none⟩))
  t5 : T[5]? = some (.pointer (some ⟨N + 1, 0, none⟩))
  t7 : T[7]? = some (.slice (some ⟨N + 2, 0, none⟩) n n)
  t8 : T[8]? = some (.pointer (some ⟨N + 3, 0, none⟩))
  t20 : T[20]? = some views
  t21 : T[21]? = some (.int .i64 n)
  t22 : T[22]? = some (.int .i64 j)
structure TR (N n q c : Nat) (T : Array Value) : Prop where
  sz : T.size = 60
  t8 : T[8]? = some (.pointer (some ⟨N + 3, 0, none⟩))
  t12 : T[12]? = some (.slice (some ⟨N + 4 + 3 * n, 0, none⟩) q q)
  t38 : T[38]? = some (.slice (some ⟨N + 2, 0, none⟩) n n)
  t39 : T[39]? = some (.int .i64 n)
  t40 : T[40]? = some (.int .i64 c)
structure TI (N n q c l : Nat) (T : Array Value) : Prop where
  r : TR N n q c T
  t15 : T[15]? = some (.int .i64 l)
  t44 : T[44]? = some (.chan (some (N + 5 + 3 * c)))
structure TW (N n q : Nat) (T : Array Value) : Prop where
  sz : T.size = 60
  t8 : T[8]? = some (.pointer (some ⟨N + 3, 0, none⟩))
  t12 : T[12]? = some (.slice (some ⟨N + 4 + 3 * n, 0, none⟩) q q)

theorem info_int : (Tryd.prog.info? 3).map (fun i => (i.zero, i.size, i.bytes)) = some (some (.int .i64 0), 1, 8) := by kernel_rfl

def AtRvA (Φ : Ph) : Nat → Goroutine → World → Prop
  | 0 => AtKd Φ
  | c + 1 => AtRv Φ (RvAll Φ c) (Φ.n - (c + 1)) Φ.q
theorem rvIn_iff {Φ : Ph} {After : Goroutine → World → Prop} {i l : Nat} {g : Goroutine} {w : World} : RvIn Φ After i l g w ↔ ∃ m, Goes Φ.P true (RM Φ Φ.n) (DM Φ Φ.n) (AtRv Φ After i l) m g w := by cases l <;> exact Iff.rfl
theorem rvAll_iff {Φ : Ph} {c : Nat} {g : Goroutine} {w : World} : RvAll Φ c g w ↔ ∃ m, Goes Φ.P true (RM Φ Φ.n) (DM Φ Φ.n) (AtRvA Φ c) m g w := by
  cases c with
  | zero => exact Iff.rfl
  | succ c => exact rvIn_iff
def AtSp (Φ : Ph) : Nat → Goroutine → World → Prop
  | 0 => AtRvA Φ Φ.n
  | r + 1 => AtKdS Φ (Φ.n - (r + 1)) (Spawns Φ r)
theorem spawns_iff {Φ : Ph} {r : Nat} {g : Goroutine} {w : World} : Spawns Φ r g w ↔ ∃ m, Goes Φ.P true (RM Φ (Φ.n - r)) (DM Φ (Φ.n - r)) (AtSp Φ r) m g w := by
  cases r with
  | zero => rw [Nat.sub_zero]; exact rvAll_iff
  | succ r => exact Iff.rfl

theorem goes_dc {Φ : Ph} {i j : Nat} {S : Goroutine → World → Prop} : ∀ (m : Nat) {g : Goroutine} {w : World}, Goes Φ.P true (RM Φ i) DC0 S m g w → Goes Φ.P true (RM Φ i) (DM Φ j) S m g w
  | 0, g, w, h => h
  | m + 1, g, w, h => by
    rcases h with h | ⟨hr, h⟩
    · exact .inl h
    · refine .inr ⟨hr, fun w₁ h₁ => ?_⟩
      obtain ⟨g', w', es, e, ⟨rfl, rfl⟩, hn⟩ := goes_elim (h w₁ h₁)
      rw [e]
      exact ⟨dm_nil, goes_dc m hn⟩

section
variable {N n q m0 : Nat} {W0 : World} {ans : Nat → Nat → Value} {H : Nat → Prop} {Anch Fin : Goroutine → World → Prop} {avs : Nat → Nat → Int} {fr : Frame} {cs : List Frame}

set_option maxRecDepth 100000 in
set_option maxHeartbeats 4000000 in
theorem fin_m (hfin : ∀ w, MF W0 N n q avs n 0 w → Fin (G (fr.finish (.slice (some ⟨N + 4 + 3 * n, 0, none⟩) q q)) cs) w) : ∃ m, ∀ (T : Array Value), TW N n q T → ∀ w, MF W0 N n q avs n 0 w →
    Goes Tryd.prog true (RM (phT Tryd.prog N n q m0 W0 ans H Anch Fin) n) (DM (phT Tryd.prog N n q m0 W0 ans H Anch Fin) n) Fin m (G ((base 31).at (Act.put ⟨T, []⟩ (some 58) (.tuple #[])) (.inRegion (opsWt Tryd.f31) [] :: [.code (mainE Tryd.f31)])) (fr :: cs)) w := by
  have hE : mainE Tryd.f31 = _ := rfl
  conv at hE => rhs; whnf
  have TT := termsM (phT Tryd.prog N n q m0 W0 ans H Anch Fin) n n
  co_apply Exists.intro
  intro T hT w hF
  obtain ⟨v0, v1, v2, v3, v4, v5, v6, v7, v8, v9, v10, v11, v12, v13, v14, v15, v16, v17, v18, v19, v20, v21, v22, v23, v24, v25, v26, v27, v28, v29, v30, v31, v32, v33, v34, v35, v36, v37, v38, v39, v40, v41, v42, v43, v44, v45, v46, v47, v48, v49, v50, v51, v52, v53, v54, v55, v56, v57, v58, v59, rfl⟩ := arr60 T hT.sz
  have e8 := hT.t8
  have e12 := hT.t12
  simp only [List.getElem?_toArray, List.getElem?_cons_succ, List.getElem?_cons_zero, Option.some.injEq] at e8 e12
  subst e8 e12
  simp only [hE]
  walk_nrm
  co_apply (gs_region_end TT)
  co_apply (gs_seq TT)
  co_apply (gs_code (by decide))
  co_reg TT
  co_op MF.rely hF (co_quiet TT)
  co_op MF.rely hF (co_quiet TT)
  co_apply opsC_nil TT
  refine ⟨rfl, ?_⟩
  refine gs_step (m := 0 + 1) TT rfl (fun _ => stepG_ret') ?_
  refine gs_step TT rfl (fun w => stepG_leave (v := .slice (some ⟨N + 4 + 3 * n, 0, none⟩) q q) rfl rfl Tryd.func31 ?_ ?_) ?_
  · exact results_tmp (t := 6) rfl _ _ _
  · exact events_results_tmp (t := 6) rfl _ _
  · exact Goes.stop fun w₁ h₁ => hfin _ (hF.rely h₁)

theorem served_m {T : Array Value} {b : Frame} {ops : Array Oper} {i : Nat} {rest : List Nat} {o : Oper} {k : List Item} {v : Value} (h : ops[i]? = some o) : Go.Conc.served (core (G (b.at ⟨T, []⟩ (.inRegion ops (i :: rest) :: k)) cs)) v = G (b.at (Act.put ⟨T, []⟩ o.dst v) (.inRegion ops rest :: k)) cs := by
  simp only [Go.Conc.served, core, G]
  rw [Frame.finish_at, h]
  rfl

set_option maxRecDepth 100000 in
set_option maxHeartbeats 8000000 in
theorem inner_m (hH : ∀ b, H b → b < N) (hans : ∀ c l, c < n → l < q → ans c l = .int .i64 (avs c l)) (hsum : ∀ c l x, c < n → l ≤ q → x < q → 0 ≤ sumC avs c l x ∧ sumC avs c l x ≤ 1000000) (hq : q < 2147483648) (hn : n < 2147483648) {c i : Nat} (hc : c < n) (hi : n - (c + 1) = i) {mO : Nat}
    (hO : ∀ T, TR N n q (i + 1) T → ∀ w, MF W0 N n q avs (i + 1) 0 w → Goes Tryd.prog true (RM (phT Tryd.prog N n q m0 W0 ans H Anch Fin) n) (DM (phT Tryd.prog N n q m0 W0 ans H Anch Fin) n) (AtRvA (phT Tryd.prog N n q m0 W0 ans H Anch Fin) c) mO (frM fr cs T (headR Tryd.f31)) w) :
    ∀ l, l ≤ q → ∃ m, ∀ T, TI N n q i (q - l) T → ∀ w, MF W0 N n q avs i (q - l) w → Goes Tryd.prog true (RM (phT Tryd.prog N n q m0 W0 ans H Anch Fin) n) (DM (phT Tryd.prog N n q m0 W0 ans H Anch Fin) n) (AtRv (phT Tryd.prog N n q m0 W0 ans H Anch Fin) (RvAll (phT Tryd.prog N n q m0 W0 ans H Anch Fin) c) i l) m (frM fr cs T (headI Tryd.f31)) w := by
  have TT := termsM (phT Tryd.prog N n q m0 W0 ans H Anch Fin) n n
  have hI : mainI Tryd.f31 = _ := rfl
  conv at hI => rhs; whnf
  have hR : mainR Tryd.f31 = _ := rfl
  conv at hR => rhs; whnf
  intro l
  induction l with
  | zero =>
    intro _
    co_apply Exists.intro
    intro T hT w hF
    rw [Nat.sub_zero] at hT hF
    obtain ⟨v0, v1, v2, v3, v4, v5, v6, v7, v8, v9, v10, v11, v12, v13, v14, v15, v16, v17, v18, v19, v20, v21, v22, v23, v24, v25, v26, v27, v28, v29, v30, v31, v32, v33, v34, v35, v36, v37, v38, v39, v40, v41, v42, v43, v44, v45, v46, v47, v48, v49, v50, v51, v52, v53, v54, v55, v56, v57, v58, v59, rfl⟩ := arr60 T hT.r.sz
    have e15 := hT.t15
    have e44 := hT.t44
    have e8 := hT.r.t8
    have e12 := hT.r.t12
    have e38 := hT.r.t38
    have e39 := hT.r.t39
    have e40 := hT.r.t40
    simp only [List.getElem?_toArray, List.getElem?_cons_succ, List.getElem?_cons_zero, Option.some.injEq] at e15 e44 e8 e12 e38 e39 e40
    subst e15 e44 e8 e12 e38 e39 e40
    simp only [frM, headI, hI]
    co_apply (gs_seq TT)
    co_apply (gs_region TT)
    simp only [List.size_toArray, List.length_cons, List.length_nil, Nat.reduceAdd, Nat.zero_add, List.range, List.range.loop]
    refine Goes.stop (n := 0) fun w₁ h₁ => ?_
    replace hF := hF.rely h₁
    clear h₁
    refine ⟨rfl, .int .i64 0, _, stepG_comm (w' := w₁) rfl rfl (by decide) ?_, fun e he => ?_, fun w₂ h₂ => ?_⟩
    · simp [execOp, rcase, Act.eval, go_sem]
    · have hm := mem_listed he
      simp [go_sem] at hm
    replace hF := hF.rely h₂
    clear h₂
    rw [served_m (o := _) rfl]
    rw [rvAll_iff]
    co_apply Exists.intro
    walk_nrm
    co_apply (gs_ops (by decide))
    co_op MF.rely hF (co_quiet TT)
    co_apply opsC_nil TT
    refine ⟨rfl, ?_⟩
    co_apply (gs_seq TT)
    co_apply (gs_false TT rfl)
    co_apply (gs_exit TT rfl)
    co_apply (gs_inBlock TT)
    simp only [hR]
    co_apply (gs_code (by decide))
    co_reg TT
    have e1 : IntKind.i64.wrap ((i : Int) + 1) = ((i + 1 : Nat) : Int) := by rw [IntKind.wrap_i64]; omega
    co_op MF.rely hF (co_quiet TT)
    co_op MF.rely hF (co_quiet TT)
    co_apply opsC_nil TT
    refine ⟨rfl, ?_⟩
    co_apply (gs_inLoop TT)
    exact hO _ ⟨by simp, by simp, by simp, by simp, by simp, by simp⟩ _ hF.turn
  | succ l ih =>
    intro hl
    obtain ⟨m, ih⟩ := ih (by omega)
    obtain ⟨d, hd⟩ : ∃ d, q - (l + 1) = d := ⟨_, rfl⟩
    have hd1 : q - l = d + 1 := by omega
    rw [hd1] at ih
    rw [hd]
    have hdq : d < q := by omega
    have hin : i < n := by omega
    co_apply Exists.intro
    intro T hT w hF
    obtain ⟨v0, v1, v2, v3, v4, v5, v6, v7, v8, v9, v10, v11, v12, v13, v14, v15, v16, v17, v18, v19, v20, v21, v22, v23, v24, v25, v26, v27, v28, v29, v30, v31, v32, v33, v34, v35, v36, v37, v38, v39, v40, v41, v42, v43, v44, v45, v46, v47, v48, v49, v50, v51, v52, v53, v54, v55, v56, v57, v58, v59, rfl⟩ := arr60 T hT.r.sz
    have e15 := hT.t15
    have e44 := hT.t44
    have e8 := hT.r.t8
    have e12 := hT.r.t12
    have e38 := hT.r.t38
    have e39 := hT.r.t39
    have e40 := hT.r.t40
    simp only [List.getElem?_toArray, List.getElem?_cons_succ, List.getElem?_cons_zero, Option.some.injEq] at e15 e44 e8 e12 e38 e39 e40
    subst e15 e44 e8 e12 e38 e39 e40
    simp only [frM, headI, hI]
    co_apply (gs_seq TT)
    co_apply (gs_region TT)
    simp only [List.size_toArray, List.length_cons, List.length_nil, Nat.reduceAdd, Nat.zero_add, List.range, List.range.loop]
    refine Goes.stop (n := 0) fun w₁ h₁ => ?_
    replace hF := hF.rely h₁
    clear h₁
    refine ⟨rfl, .int .i64 0, _, stepG_comm (w' := w₁) rfl rfl (by decide) ?_, fun e he => ?_, fun w₂ h₂ => ?_⟩
    · simp [execOp, rcase, Act.eval, go_sem]
    · have hm := mem_listed he
      simp [go_sem] at hm
    replace hF := hF.rely h₂
    clear h₂
    have hv : (phT Tryd.prog N n q m0 W0 ans H Anch Fin).ans i ((phT Tryd.prog N n q m0 W0 ans H Anch Fin).q - (l + 1)) = .int .i64 (avs i d) := by show ans i (q - (l + 1)) = _; rw [hd]; exact hans i d hin hdq
    rw [hv]
    clear hv
    rw [served_m (o := _) rfl]
    rw [rvIn_iff]
    co_apply Exists.intro
    walk_nrm
    co_apply (gs_ops (by decide))
    co_op MF.rely hF (co_quiet TT)
    co_apply opsC_nil TT
    refine ⟨rfl, ?_⟩
    co_apply (gs_seq TT)
    co_apply (gs_true TT rfl)
    co_apply (gs_skip TT)
    co_apply (gs_block TT)
    co_apply (gs_seq TT)
    co_apply (gs_code (by decide))
    co_reg TT
    co_op MF.rely hF (co_quiet TT)
    co_op MF.rely hF (co_quiet TT)
    co_apply opsC_nil TT
    refine ⟨rfl, ?_⟩
    co_apply (gs_seq TT)
    co_apply (gs_code (by decide))
    co_reg TT
    have hs1 := hsum i d d hin (by omega) hdq
    have hs2 : 0 ≤ sumC avs i d d + avs i d ∧ sumC avs i d d + avs i d ≤ 1000000 := by
      have := hsum i (d + 1) d hin (by omega) hdq
      simpa [sumC] using this
    have ew : IntKind.i64.wrap (sumC avs i d d + avs i d) = sumC avs i d d + avs i d := by rw [IntKind.wrap_i64]; omega
    have yd : (0 : Int) ≤ d ∧ (d : Int) < q := ⟨by omega, by omega⟩
    co_op MF.rely hF (co_quiet TT)
    co_op MF.rely hF (co_quiet TT)
    co_opw MF.rely hF (skip) (co_still TT)
    co_opw MF.rely hF (obtain ⟨ys, hy1, hy2, hy3⟩ := hF.sums; have hc := cell_in hy1 (hy3 d hdq)) (refine dm_read ?_; co_evs (exact ev_rdT hH (.inr ⟨by omega, by omega⟩) (Array.getElem?_eq_some_iff.1 hy1).1))
    clear hc hy1 hy2 hy3
    co_op MF.rely hF (co_quiet TT)
    co_opw MF.rely hF (skip) (co_still TT)
    co_opw MF.rely hF (skip) (co_still TT)
    co_opw MF.rely hF (obtain ⟨ys, hy1, hy2, hy3⟩ := hF.sums; have hc := cell_in hy1 (hy3 d hdq); have hz := thaw_in (i := d) hy1) (refine dm_set (.inr (by simp only; omega)) ?_; co_evs (exact ev_wrT hH (.inr (by omega)) (Array.getElem?_eq_some_iff.1 hy1).1))
    replace hF := hF.add hdq rfl
    clear hc hz hy1 hy2 hy3
    co_apply opsC_nil TT
    refine ⟨rfl, ?_⟩
    co_apply (gs_code (by decide))
    co_reg TT
    have e1 : IntKind.i64.wrap ((d : Int) + 1) = ((d + 1 : Nat) : Int) := by rw [IntKind.wrap_i64]; omega
    co_op MF.rely hF (co_quiet TT)
    co_op MF.rely hF (co_quiet TT)
    co_op MF.rely hF (co_quiet TT)
    co_apply opsC_nil TT
    refine ⟨rfl, ?_⟩
    co_apply (gs_inBlock TT)
    co_apply (gs_inLoop TT)
    exact ih _ ⟨⟨by simp, by simp, by simp, by simp, by simp, by simp⟩, by simp, by simp⟩ _ hF

end
end

section
open Go.Conc Go.RowKit Go.Conc.Lib Go.ConcR.Gen Go.ConcN.Gen
open Go.ConcN (WgLive)
open Go.ConcR (KK WgAt stA smA rd wr mk DC0)
section
variable {N n q m0 : Nat} {W0 : World} {ans : Nat → Nat → Value} {H : Nat → Prop} {Anch Fin : Goroutine → World → Prop} {avs : Nat → Nat → Int} {fr : Frame} {cs : List Frame}

set_option maxRecDepth 100000 in
set_option maxHeartbeats 8000000 in
theorem recv_m (hH : ∀ b, H b → b < N) (hans : ∀ c l, c < n → l < q → ans c l = .int .i64 (avs c l)) (hsum : ∀ c l x, c < n → l ≤ q → x < q → 0 ≤ sumC avs c l x ∧ sumC avs c l x ≤ 1000000) (hq : q < 2147483648) (hn : n < 2147483648)
    (hA : ∀ T, TW N n q T → ∀ g w, AnchT (phT Tryd.prog N n q m0 W0 ans H Anch Fin) link (MF W0 N n q avs n 0) (waitFr Tryd.f31 T) (fr :: cs) g w → Anch g w) :
    ∀ c, c ≤ n → ∃ m, ∀ T, TR N n q (n - c) T → ∀ w, MF W0 N n q avs (n - c) 0 w → Goes Tryd.prog true (RM (phT Tryd.prog N n q m0 W0 ans H Anch Fin) n) (DM (phT Tryd.prog N n q m0 W0 ans H Anch Fin) n) (AtRvA (phT Tryd.prog N n q m0 W0 ans H Anch Fin) c) m (frM fr cs T (headR Tryd.f31)) w := by
  have TT := termsM (phT Tryd.prog N n q m0 W0 ans H Anch Fin) n n
  have hM : mainM Tryd.f31 = _ := rfl
  conv at hM => rhs; whnf
  have hI : mainI Tryd.f31 = _ := rfl
  conv at hI => rhs; whnf
  have hB : mainB Tryd.f31 = _ := rfl
  conv at hB => rhs; whnf
  intro c
  induction c with
  | zero =>
    intro _
    rw [Nat.sub_zero]
    co_apply Exists.intro
    intro T hT w hF
    obtain ⟨v0, v1, v2, v3, v4, v5, v6, v7, v8, v9, v10, v11, v12, v13, v14, v15, v16, v17, v18, v19, v20, v21, v22, v23, v24, v25, v26, v27, v28, v29, v30, v31, v32, v33, v34, v35, v36, v37, v38, v39, v40, v41, v42, v43, v44, v45, v46, v47, v48, v49, v50, v51, v52, v53, v54, v55, v56, v57, v58, v59, rfl⟩ := arr60 T hT.sz
    have e8 := hT.t8
    have e12 := hT.t12
    have e38 := hT.t38
    have e39 := hT.t39
    have e40 := hT.t40
    simp only [List.getElem?_toArray, List.getElem?_cons_succ, List.getElem?_cons_zero, Option.some.injEq] at e8 e12 e38 e39 e40
    subst e8 e12 e38 e39 e40
    simp only [frM, headR, hM]
    co_apply (gs_seq TT)
    co_apply (gs_code (by decide))
    co_reg TT
    co_op MF.rely hF (co_quiet TT)
    co_apply opsC_nil TT
    refine ⟨rfl, ?_⟩
    co_apply (gs_seq TT)
    co_apply (gs_false TT (by simp [Act.eval]))
    co_apply (gs_exit TT rfl)
    simp only [hB]
    co_apply (gs_seq TT)
    co_apply (gs_region TT)
    simp only [List.size_toArray, List.length_cons, List.length_nil, Nat.reduceAdd, Nat.zero_add, List.range, List.range.loop]
    co_apply Goes.step
    focus (exact rfl)
    intro w₁ h₁
    replace hF := hF.rely h₁
    clear h₁
    refine goes_call rfl rfl (by decide) rfl Tryd.func50 (nm_wait link) rfl ⟨dm_nil, ?_⟩
    walk_nrmf Tryd.f50
    co_apply (goes_dc (Φ := (phT Tryd.prog N n q m0 W0 ans H Anch Fin)))
    co_apply (wait_t (Φ := (phT Tryd.prog N n q m0 W0 ans H Anch Fin)) (L := link) (F := MF W0 N n q avs n 0) (b₀ := base 31) wgLib rfl ?hA (fun _ _ r h => MF.rely h r) _ ⟨hF, hF.live⟩)
    case hA =>
      intro g w h
      refine hA _ ?_ g w h
      exact ⟨by simp, by simp, by simp⟩
  | succ c ih =>
    intro hc
    obtain ⟨mO, hO⟩ := ih (by omega)
    obtain ⟨i, hi⟩ : ∃ i, n - (c + 1) = i := ⟨_, rfl⟩
    have hi1 : n - c = i + 1 := by omega
    rw [hi1] at hO
    rw [hi]
    have hin : i < n := by omega
    have hlt : (i : Int) < n := by omega
    have zi : (0 : Int) ≤ i := by omega
    obtain ⟨mI, hIn⟩ := inner_m (fr := fr) (cs := cs) (Anch := Anch) (Fin := Fin) (m0 := m0) hH hans hsum hq hn (by omega) hi hO q (Nat.le_refl q)
    rw [Nat.sub_self] at hIn
    co_apply Exists.intro
    intro T hT w hF
    obtain ⟨v0, v1, v2, v3, v4, v5, v6, v7, v8, v9, v10, v11, v12, v13, v14, v15, v16, v17, v18, v19, v20, v21, v22, v23, v24, v25, v26, v27, v28, v29, v30, v31, v32, v33, v34, v35, v36, v37, v38, v39, v40, v41, v42, v43, v44, v45, v46, v47, v48, v49, v50, v51, v52, v53, v54, v55, v56, v57, v58, v59, rfl⟩ := arr60 T hT.sz
    have e8 := hT.t8
    have e12 := hT.t12
    have e38 := hT.t38
    have e39 := hT.t39
    have e40 := hT.t40
    simp only [List.getElem?_toArray, List.getElem?_cons_succ, List.getElem?_cons_zero, Option.some.injEq] at e8 e12 e38 e39 e40
    subst e8 e12 e38 e39 e40
    simp only [frM, headR, hM]
    co_apply (gs_seq TT)
    co_apply (gs_code (by decide))
    co_reg TT
    co_op MF.rely hF (co_quiet TT)
    co_apply opsC_nil TT
    refine ⟨rfl, ?_⟩
    co_apply (gs_seq TT)
    co_apply (gs_true TT (by simp [Act.eval, hin]))
    co_apply (gs_skip TT)
    co_apply (gs_seq TT)
    co_apply (gs_block TT)
    co_apply (gs_seq TT)
    co_apply (gs_code (by decide))
    co_reg TT
    co_opw MF.rely hF (skip) (co_still TT)
    co_opw MF.rely hF (obtain ⟨xs, hx1, hx2, hx3⟩ := hF.arr; have hc := cell_in hx1 (hx3 i hin)) (refine dm_read ?_; co_evs (exact ev_rdT hH (.inr ⟨by omega, by omega⟩) (Array.getElem?_eq_some_iff.1 hx1).1))
    clear hc hx1 hx2 hx3
    co_op MF.rely hF (co_quiet TT)
    co_apply opsC_nil TT
    refine ⟨rfl, ?_⟩
    co_apply (gs_seq TT)
    co_apply (gs_code (by decide))
    co_reg TT
    co_op MF.rely hF (co_quiet TT)
    co_apply opsC_nil TT
    refine ⟨rfl, ?_⟩
    co_apply (gs_seq TT)
    co_apply (gs_code (by decide))
    co_reg TT
    co_op MF.rely hF (co_quiet TT)
    co_apply opsC_nil TT
    refine ⟨rfl, ?_⟩
    co_apply (gs_block TT)
    co_apply (gs_loop TT)
    have hIn2 := fun T hT => hIn T hT _ hF
    simp only [frM, headI, hI, hM] at hIn2
    have e0 : (phT Tryd.prog N n q m0 W0 ans H Anch Fin).n - (c + 1) = i := hi
    simp only [AtRvA, e0]
    exact hIn2 _ ⟨⟨by simp, by simp, by simp, by simp, by simp, by simp⟩, by simp, by simp⟩
end
end

end Go.Proofs.YtfiaiephbemdoaaDoor
