/-
  The law FixedRounds of the program holds: for every input that its row admits the call returns true, and the arguments read as before. Conditions: those of the row and of the card alone (the listed variables of the standard library as the program's text lays them).
-/
import Derived.Test.YtleddfceigmlmaaDoorEnvLaw
namespace Go.Proofs.YtleddfceigmlmaaDoor.lawRounds
open Go.ChangeShapes Go.WideShapes Go.ChangeAt Go.RowKit

theorem round_mod (a b : Int) (hb : 1 ≤ b) : ((2 * a + b) / (2 * b) * b).tmod b = 0 ∧ 2 * ((2 * a + b) / (2 * b) * b - a) ≤ b ∧ 2 * (a - (2 * a + b) / (2 * b) * b) < b := by
  have h1 := Int.mul_ediv_add_emod (2 * a + b) (2 * b)
  have h2 := Int.emod_nonneg (2 * a + b) (show 2 * b ≠ 0 by omega)
  have h3 := Int.emod_lt_of_pos (2 * a + b) (show 0 < 2 * b by omega)
  refine ⟨Int.mul_tmod_left _ _, ?_, ?_⟩
  all_goals
    generalize (2 * a + b) / (2 * b) = q at *
    rw [Int.mul_assoc, Int.mul_comm b q] at h1
    omega
set_option maxRecDepth 100000 in
set_option maxHeartbeats 2000000 in
theorem walk (a b : Int) (w : World) (he : Env w) (_ : -9223372036854775808 ≤ a) (_ : a ≤ 9223372036854775807) (_ : -9223372036854775808 ≤ b) (_ : b ≤ 9223372036854775807) :
    Calls Tryd.prog 7 #[.int .i64 a, .int .i64 b] w fun e w' => e = .returned (.bool true) ∧ Below w.heap.size w w' := by
  have k0 := Lib.hid (alive_any w he)
  have k1 := fun w => round_any a b w
  have k2 := fun w => refRound_any a b w
  rcases hk : roundOk a b with _ | _
  · have hv : roundV a b = pairV 0 1 := by simp [roundV, hk]
    rw [hv] at k1 k2
    unfold pairV at k1 k2
    have k1 := Lib.hid k1
    have k2 := Lib.hid k2
    clear hv hk
    go_enter Tryd.func7, Tryd.ntmps7
    go_wp2_with (first
      | (go_at_call 12; refine k0.out.mono ?_; rintro e w1 ⟨rfl, b1⟩)
      | (go_at_call 21; refine (k1.out _).mono ?_; rintro e w2 ⟨rfl, c⟩; have b2 := same_below c; clear c)
      | (go_at_call 22; refine (k2.out _).mono ?_; rintro e w3 ⟨rfl, c⟩; have b3 := same_below c; clear c))
    go_ret
    exact ⟨by simp, b1.trans ((b2.trans (b3.mono b2.size)).mono b1.size)⟩
  · have hv : roundV a b = pairV ((2 * a + b) / (2 * b) * b) 0 := by simp [roundV, hk]
    rw [hv] at k1 k2
    unfold pairV at k1 k2
    have hx : inR a = true ∧ 1 ≤ b ∧ b ≤ 1000000000 := by
      unfold roundOk at hk
      rw [Bool.and_eq_true, decide_eq_true_eq] at hk
      exact hk
    obtain ⟨ha, hb1, hb2⟩ := hx
    obtain ⟨a1, a2⟩ := inR_of ha
    obtain ⟨r1, r2, r3⟩ := round_mod a b hb1
    generalize (2 * a + b) / (2 * b) * b = n at *
    have k1 := Lib.hid k1
    have k2 := Lib.hid k2
    have e1 : (n.tmod b == 0) = true := by rw [r1]; rfl
    have e2 : decide (2 * (n - a) ≤ b) = true := decide_eq_true r2
    have e3 : decide (2 * (a - n) < b) = true := decide_eq_true r3
    clear hv hk ha
    have r1 := Lib.hid r1
    go_enter Tryd.func7, Tryd.ntmps7
    go_wp2_with (first
      | (go_at_call 12; refine k0.out.mono ?_; rintro e w1 ⟨rfl, b1⟩)
      | (go_at_call 21; refine (k1.out _).mono ?_; rintro e w2 ⟨rfl, c⟩; have b2 := same_below c; clear c)
      | (go_at_call 22; refine (k2.out _).mono ?_; rintro e w3 ⟨rfl, c⟩; have b3 := same_below c; clear c))
    go_ret
    exact ⟨by simp, b1.trans ((b2.trans (b3.mono b2.size)).mono b1.size)⟩

set_option maxRecDepth 100000 in
theorem contract (H : Type) (enc : TypeId × Value → H) (W : World) (base : Nat) (args : Array Value) (ds gs : List (DataW H)) (before : List MemPlace)
    (hval : ∀ (j : Nat) t v, Tryd.f7.params[j]? = some t → args[j]? = some v → Value.okWide Tryd.prog W .any base t v)
    (hW : DataW.Whole enc Tryd.prog Tryd.f7.params.toList Rows.fixedRoundsSpec.vars false W args.toList ds gs before) (hL : laidMetH Tryd.prog Rows.fixedRoundsRow.laid W) (hS : W.ShapedOpen Tryd.prog) :
    Calls Tryd.prog 7 args W fun e W' => ∃ v, e = .returned v ∧ Rows.fixedRoundsSpec.post enc Tryd.prog Tryd.f7 false true false false W args v W' := by
  have hW0 := hW
  obtain ⟨p, q, hA0, hV, rfl, hfz, hnd⟩ := hW
  have hA : DataW.TrodAll enc Tryd.prog W 0 (fun _ => true) true Tryd.f7.params.toList args.toList ds p := hA0
  rw [Tryd.params7] at hA hval
  obtain ⟨v0, vs0, d0, ds0, p0, q0, hargs, rfl, rfl, h0, r0⟩ := trodAll_cons hA
  obtain ⟨v1, vs1, d1, ds1, p1, q1, rfl, rfl, rfl, h1, r1⟩ := trodAll_cons r0
  obtain ⟨rfl, rfl, rfl⟩ := trodAll_nil r1
  obtain rfl : args = #[v0, v1] := by cases args; simp_all
  obtain ⟨a0, rfl, _, _, z0⟩ := open_int Tryd.underlying3 (hval 0 3 v0 rfl rfl) h0
  have z0 := i64_bounds z0
  obtain ⟨a1, rfl, _, _, z1⟩ := open_int Tryd.underlying3 (hval 1 3 v1 rfl rfl) h1
  have z1 := i64_bounds z1
  have he : Env W := env_of hL hS
  refine (walk a0 a1 W he z0.1 z0.2 z1.1 z1.2).mono fun e W' ⟨h1, h2⟩ => ?_
  subst h1
  exact ⟨_, rfl, law_post laidOut (by kernel_rfl) Tryd.underlying4 rfl (by kernel_rfl) hW0 rfl h2⟩

theorem reads (os : Os) {H : Type} (enc : TypeId × Value → H) : ∃ places, DataW.whole enc Tryd.prog ((World.laidAll Tryd.prog os Rows.fixedRoundsRow.laid).forCall (fun _ _ => 0) ⟨#[], #[.int .i64 0, .int .i64 0], []⟩).memory Tryd.f7.params.toList Rows.fixedRoundsSpec.vars false #[.int .i64 0, .int .i64 0].toList 8 = some ([.lit (.int .i64 0), .lit (.int .i64 0)], [], places) :=
  ⟨[], by kernel_rfl⟩

set_option maxRecDepth 100000 in
theorem lifted (os : Os) (started : os.Started) (H : Type) (enc : TypeId × Value → H) (F : Stop.Interp) :
    ReturnsInHanded {} Tryd.checked os 7 .any ((OpenSpec.ofChange Rows.fixedRoundsSpec).preRow enc Tryd.prog Tryd.f7 Rows.fixedRoundsRow.domain false Rows.fixedRoundsRow.laid) (((OpenSpec.ofChange Rows.fixedRoundsSpec).at F).post enc Tryd.prog Tryd.f7 false true false false) := by
  obtain ⟨places, hx⟩ := reads os enc
  refine returnsInHanded_of_row (C := Tryd.checked) (s := OpenSpec.ofChange Rows.fixedRoundsSpec) own started (by kernel_rfl) Tryd.func7
    (witness_row_atRef (enc := enc) (C := Tryd.checked) false (World.laidAll Tryd.prog os Rows.fixedRoundsRow.laid) #[.int .i64 0, .int .i64 0] (World.laidAll_os _ _ _) (wit_vars os _) (wit_rows os _) (by kernel_rfl)
      (OpenSpec.preRow_of_cond 8 hx (by kernel_rfl) (fun k hk => by cases hk) (by kernel_rfl) (laidMet_laidAll _ (laid_fits os) (laid_ifaces os)))) ?_
  intro W base args ds gs before hval hW _ _ _ hL hS _
  exact contract H enc W base args ds gs before hval hW hL hS

theorem said : Rows.FixedRoundsSaid :=
  OpenClaim.holds_of_cond 7 Tryd.f7 rfl rfl rfl rfl rfl rfl rfl ⟨rfl, rfl, rfl, rfl, rfl⟩ rfl rfl rfl rfl rfl (by kernel_rfl) Tryd.func7 (by kernel_rfl)
    (of_decide_eq_true (by kernel_rfl)) (by unfold Func.isWrapper; first | (rw [if_pos (by decide +kernel)]; kernel_rfl) | (rw [if_neg (by decide +kernel)]; exact ⟨rfl, rfl⟩))
    (fun os started H enc _ F => by rw [OpenClaim.pre_eq_preRow]; exact lifted os started H enc F)

theorem plain (f : FuncId) (fn : Func) (hf : Tryd.pinned.checked.prog.funcNamed Rows.fixedRoundsRow.func = some f) (hfn : Tryd.pinned.checked.prog.funcs[f]? = some fn) :
    true = Tryd.pinned.checked.prog.looks [] ∧ ∀ (j : Nat) t, fn.params[j]? = some t → Tryd.pinned.checked.prog.wantsStandIn t = false := by
  obtain rfl : f = 7 := Option.some.inj ((show Tryd.prog.funcNamed Rows.fixedRoundsRow.func = some 7 by kernel_rfl).symm.trans hf) |>.symm
  obtain rfl : fn = Tryd.f7 := (Option.some.inj (Tryd.func7.symm.trans hfn)).symm
  refine ⟨by kernel_rfl, fun j t ht => ?_⟩
  have hall : (Tryd.f7.params.toList.all fun t => Tryd.prog.wantsStandIn t == false) = true := by kernel_rfl
  have := List.all_eq_true.1 hall t (Array.mem_def.1 (Array.mem_of_getElem? ht))
  exact beq_iff_eq.1 this

theorem card : Rows.FixedRoundsCardSaid :=
  Claim7.holds_tied_plain_at .later [] _ _ _ _ said (fun _ h => by cases h) (by kernel_rfl) (fun _ h => by cases h) fixedRounds_row_tie rfl ⟨rfl, rfl⟩ (by kernel_rfl) rfl plain (by kernel_rfl)
end Go.Proofs.YtleddfceigmlmaaDoor.lawRounds
