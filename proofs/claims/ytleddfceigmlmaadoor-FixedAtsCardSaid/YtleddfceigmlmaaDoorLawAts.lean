/-
  The law FixedAts of the program holds: for every input that its row admits the call returns true, and the arguments read as before. Conditions: those of the row and of the card alone (the listed variables of the standard library as the program's text lays them).
-/
import Derived.Test.YtleddfceigmlmaaDoorEnvLaw
import Derived.Test.YtleddfceigmlmaaDoorPoints
namespace Go.Proofs.YtleddfceigmlmaaDoor.lawAts
open Go.ChangeShapes Go.WideShapes Go.ChangeAt Go.RowKit

set_option maxRecDepth 100000 in
set_option maxHeartbeats 2000000 in
theorem walk (A : Option Addr) (n cap : Nat) (X Y : Nat → Int) (x : Int) (w : World) (he : Env w) (hn : n ≤ 9223372036854775807) (hp : Pts w w.heap.size A n X Y) (_ : -9223372036854775808 ≤ x) (_ : x ≤ 9223372036854775807) :
    Calls Tryd.prog 8 #[.slice A n cap, .int .i64 x] w fun e w' => e = .returned (.bool true) ∧ Below w.heap.size w w' := by
  have k0 := Lib.hid (alive_any w he)
  by_cases h100 : n ≤ 100
  · have k1 := fun w1 (b : Below w.heap.size w w1) => at_all A n cap X Y x w1 ((hp.below b).more b.size) hn
    have k2 := fun w1 (b : Below w.heap.size w w1) => refAt_all A n cap X Y x w1 ((hp.below b).more b.size) hn
    obtain ⟨v, e, hv⟩ := atAll_pair n X Y x
    rw [hv] at k1 k2
    unfold pairV at k1 k2
    have k1 := Lib.hid k1
    have k2 := Lib.hid k2
    clear hv hp
    go_enter Tryd.func8, Tryd.ntmps8
    go_wp2_with (first
      | (go_at_call 12; refine k0.out.mono ?_; rintro e w1 ⟨rfl, b1⟩)
      | (go_at_call 23; refine (k1.out _ b1).mono ?_; rintro e w2 ⟨rfl, c⟩; have b2 := b1.trans (c.mono b1.size); clear c)
      | (go_at_call 24; refine (k2.out _ b2).mono ?_; rintro e w3 ⟨rfl, c⟩; have b3 := b2.trans (c.mono b2.size); clear c))
    go_ret
    exact ⟨by simp, b3⟩
  · clear hp
    go_enter Tryd.func8, Tryd.ntmps8
    go_wp2_with (go_at_call 12; refine k0.out.mono ?_; rintro e w1 ⟨rfl, b1⟩)
    go_ret
    exact ⟨rfl, b1⟩

set_option maxRecDepth 100000 in
theorem contract (H : Type) (enc : TypeId × Value → H) (W : World) (base : Nat) (args : Array Value) (ds gs : List (DataW H)) (before : List MemPlace)
    (hval : ∀ (j : Nat) t v, Tryd.f8.params[j]? = some t → args[j]? = some v → Value.okWide Tryd.prog W .any base t v)
    (hW : DataW.Whole enc Tryd.prog Tryd.f8.params.toList Rows.fixedAtsSpec.vars false W args.toList ds gs before) (hL : laidMetH Tryd.prog Rows.fixedAtsRow.laid W) (hS : W.ShapedOpen Tryd.prog) :
    Calls Tryd.prog 8 args W fun e W' => ∃ v, e = .returned v ∧ Rows.fixedAtsSpec.post enc Tryd.prog Tryd.f8 false true false false W args v W' := by
  have hW0 := hW
  obtain ⟨p, q, hA0, hV, rfl, hfz, hnd⟩ := hW
  have hA : DataW.TrodAll enc Tryd.prog W 0 (fun _ => true) true Tryd.f8.params.toList args.toList ds p := hA0
  rw [Tryd.params8] at hA hval
  obtain ⟨v0, vs0, d0, ds0, p0, q0, hargs, rfl, rfl, h0, r0⟩ := trodAll_cons hA
  obtain ⟨v1, vs1, d1, ds1, p1, q1, rfl, rfl, rfl, h1, r1⟩ := trodAll_cons r0
  obtain ⟨rfl, rfl, rfl⟩ := trodAll_nil r1
  obtain rfl : args = #[v0, v1] := by cases args; simp_all
  obtain ⟨A0, n0, cap0, X0, Y0, rfl, z0, y0⟩ := open_points (hval 0 29 v0 rfl rfl) h0
  obtain ⟨a1, rfl, _, _, z1⟩ := open_int Tryd.underlying3 (hval 1 3 v1 rfl rfl) h1
  have z1 := i64_bounds z1
  have he : Env W := env_of hL hS
  refine (walk A0 n0 cap0 X0 Y0 a1 W he z0 y0 z1.1 z1.2).mono fun e W' ⟨h1, h2⟩ => ?_
  subst h1
  exact ⟨_, rfl, law_post laidOut (by kernel_rfl) Tryd.underlying4 rfl (by kernel_rfl) hW0 rfl h2⟩

theorem reads (os : Os) {H : Type} (enc : TypeId × Value → H) : ∃ places, DataW.whole enc Tryd.prog ((World.laidAll Tryd.prog os Rows.fixedAtsRow.laid).forCall (fun _ _ => 0) ⟨#[], #[.slice none 0 0, .int .i64 0], []⟩).memory Tryd.f8.params.toList Rows.fixedAtsSpec.vars false #[.slice none 0 0, .int .i64 0].toList 8 = some ([.nil, .lit (.int .i64 0)], [], places) :=
  ⟨[], by kernel_rfl⟩

set_option maxRecDepth 100000 in
theorem lifted (os : Os) (started : os.Started) (H : Type) (enc : TypeId × Value → H) (F : Stop.Interp) :
    ReturnsInHanded {} Tryd.checked os 8 .any ((OpenSpec.ofChange Rows.fixedAtsSpec).preRow enc Tryd.prog Tryd.f8 Rows.fixedAtsRow.domain false Rows.fixedAtsRow.laid) (((OpenSpec.ofChange Rows.fixedAtsSpec).at F).post enc Tryd.prog Tryd.f8 false true false false) := by
  obtain ⟨places, hx⟩ := reads os enc
  refine returnsInHanded_of_row (C := Tryd.checked) (s := OpenSpec.ofChange Rows.fixedAtsSpec) own started (by kernel_rfl) Tryd.func8
    (witness_row_atRef (enc := enc) (C := Tryd.checked) false (World.laidAll Tryd.prog os Rows.fixedAtsRow.laid) #[.slice none 0 0, .int .i64 0] (World.laidAll_os _ _ _) (wit_vars os _) (wit_rows os _) (by kernel_rfl)
      (OpenSpec.preRow_of_cond 8 hx (by kernel_rfl) (fun k hk => by cases hk) (by kernel_rfl) (laidMet_laidAll _ (laid_fits os) (laid_ifaces os)))) ?_
  intro W base args ds gs before hval hW _ _ _ hL hS _
  exact contract H enc W base args ds gs before hval hW hL hS

theorem said : Rows.FixedAtsSaid :=
  OpenClaim.holds_of_cond 8 Tryd.f8 rfl rfl rfl rfl rfl rfl rfl ⟨rfl, rfl, rfl, rfl, rfl⟩ rfl rfl rfl rfl rfl (by kernel_rfl) Tryd.func8 (by kernel_rfl)
    (of_decide_eq_true (by kernel_rfl)) (by unfold Func.isWrapper; first | (rw [if_pos (by decide +kernel)]; kernel_rfl) | (rw [if_neg (by decide +kernel)]; exact ⟨rfl, rfl⟩))
    (fun os started H enc _ F => by rw [OpenClaim.pre_eq_preRow]; exact lifted os started H enc F)

theorem plain (f : FuncId) (fn : Func) (hf : Tryd.pinned.checked.prog.funcNamed Rows.fixedAtsRow.func = some f) (hfn : Tryd.pinned.checked.prog.funcs[f]? = some fn) :
    true = Tryd.pinned.checked.prog.looks [] ∧ ∀ (j : Nat) t, fn.params[j]? = some t → Tryd.pinned.checked.prog.wantsStandIn t = false := by
  obtain rfl : f = 8 := Option.some.inj ((show Tryd.prog.funcNamed Rows.fixedAtsRow.func = some 8 by kernel_rfl).symm.trans hf) |>.symm
  obtain rfl : fn = Tryd.f8 := (Option.some.inj (Tryd.func8.symm.trans hfn)).symm
  refine ⟨by kernel_rfl, fun j t ht => ?_⟩
  have hall : (Tryd.f8.params.toList.all fun t => Tryd.prog.wantsStandIn t == false) = true := by kernel_rfl
  have := List.all_eq_true.1 hall t (Array.mem_def.1 (Array.mem_of_getElem? ht))
  exact beq_iff_eq.1 this

theorem card : Rows.FixedAtsCardSaid :=
  Claim7.holds_tied_plain_at .later [] _ _ _ _ said (fun _ h => by cases h) (by kernel_rfl) (fun _ h => by cases h) fixedAts_row_tie rfl ⟨rfl, rfl⟩ (by kernel_rfl) rfl plain (by kernel_rfl)
end Go.Proofs.YtleddfceigmlmaaDoor.lawAts
