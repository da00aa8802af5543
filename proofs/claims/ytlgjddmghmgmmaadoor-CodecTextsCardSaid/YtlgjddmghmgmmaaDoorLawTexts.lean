/-
  The law CodecTexts of the program holds: for every input that its row admits the call returns true, and the arguments read as before. Conditions: those of the row and of the card alone (the package's table as the program's text lays it).
-/
import Derived.Test.YtlgjddmghmgmmaaDoorOpen
import Derived.Test.YtlgjddmghmgmmaaDoorAlive
import Derived.Test.YtlgjddmghmgmmaaDoorGetText
import Derived.Test.YtlgjddmghmgmmaaDoorText
namespace Go.Proofs.YtlgjddmghmgmmaaDoor.lawTexts
open Go.ChangeShapes Go.WideShapes Go.ChangeAt Go.RowKit

set_option maxRecDepth 100000 in
set_option maxHeartbeats 4000000 in
theorem walk (A0 : Option Addr) (l0 : List UInt8) (c0 : Nat) (s1 : ByteArray) (w : World) (he : Env w) (m0 : c0 ≤ maxLen) (p0 : Rd w w.heap.size A0 c0 (cells8 l0)) (n1 : s1.size ≤ 9223372036854775807) :
    Calls Tryd.prog 4 #[.slice A0 l0.length c0, .string s1] w fun e w' => e = .returned (.bool true) ∧ Below w.heap.size w w' := by
  unfold maxLen at m0
  have k0 := Lib.hid (alive_any w he)
  by_cases h4 : l0.length ≤ 4000
  · by_cases h5 : s1.size ≤ 4000
    · have kG := fun (W : World) (hW : Below w.heap.size w W) => getText_any A0 l0 c0 W ((p0.below hW).more hW.size) (by omega) (by omega)
      have kR := fun (W : World) (hW : Below w.heap.size w W) => refGetText_any A0 l0 c0 W ((p0.below hW).more hW.size) (by omega) (by omega)
      have kP := fun (W : World) (hW : Below w.heap.size w W) => putText_any A0 l0 c0 s1 W ((p0.below hW).more hW.size) (by omega) (by omega)
      have kQ := fun (W : World) (hW : Below w.heap.size w W) => refPutText_any A0 l0 c0 s1 W ((p0.below hW).more hW.size) (by omega) (by omega)
      unfold textV at kG kR
      generalize strOf (bB 2000 l0) = x at *
      generalize bK 2000 l0 = y at *
      generalize bE 2000 l0 = z at *
      generalize l0 ++ putText s1.data.toList = g at *
      have kG := Lib.hid kG
      have kR := Lib.hid kR
      have kP := Lib.hid kP
      have kQ := Lib.hid kQ
      clear p0 he
      go_enter Tryd.func4, Tryd.ntmps4
      go_wp2_with (first
        | (go_at_call 11; refine k0.out.mono ?_; rintro e w1 ⟨rfl, b1⟩; (have B1 := Lib.hid b1); clear b1)
        | (go_at_call 17; refine (kG.out w1 B1.out).mono ?_; rintro e wq ⟨rfl, rfl⟩)
        | (go_at_call 18; refine (kR.out w1 B1.out).mono ?_; rintro e wq ⟨rfl, rfl⟩)
        | (go_at_call 19; refine (kP.out w1 B1.out).mono ?_; rintro e w3 ⟨A3', c3', rfl, h3, b3⟩; (have H3 := Lib.hid (Rd.of_own h3)); (have D3 := Lib.hid b3); (have B3 := Lib.hid (B1.out.trans (b3.mono B1.out.size))); clear h3 b3)
        | (go_at_call 20; refine (kQ.out w3 B3.out).mono ?_; rintro e w4 ⟨A4', c4', rfl, h4, b4⟩; (have H4 := Lib.hid (Rd.of_own h4)); (have D4 := Lib.hid b4); (have B4 := Lib.hid (B3.out.trans (b4.mono B3.out.size))); clear h4 b4)
        | (go_at_call 14; refine (same_eq ((H3.out.below D4.out).more D4.out.size) H4.out).mono ?_; rintro e wq ⟨rfl, rfl⟩))
      go_ret
      exact ⟨by simp, B4.out⟩
    · go_enter Tryd.func4, Tryd.ntmps4
      go_wp2_with (go_at_call 11; refine k0.out.mono ?_; rintro e w1 ⟨rfl, b1⟩; (have B1 := Lib.hid b1); clear b1)
      go_ret
      exact ⟨rfl, B1.out⟩
  · go_enter Tryd.func4, Tryd.ntmps4
    go_wp2_with (go_at_call 11; refine k0.out.mono ?_; rintro e w1 ⟨rfl, b1⟩; (have B1 := Lib.hid b1); clear b1)
    go_ret
    exact ⟨rfl, B1.out⟩

set_option maxRecDepth 100000 in
theorem contract (H : Type) (enc : TypeId × Value → H) (W : World) (base : Nat) (args : Array Value) (ds gs : List (DataW H)) (before : List MemPlace)
    (hval : ∀ (j : Nat) t v, Tryd.f4.params[j]? = some t → args[j]? = some v → Value.okWide Tryd.prog W .any base t v)
    (hW : DataW.Whole enc Tryd.prog Tryd.f4.params.toList Rows.codecTextsSpec.vars false W args.toList ds gs before) (hL : laidMetH Tryd.prog Rows.codecTextsRow.laid W) :
    Calls Tryd.prog 4 args W fun e W' => ∃ v, e = .returned v ∧ Rows.codecTextsSpec.post enc Tryd.prog Tryd.f4 false true false false W args v W' := by
  have hW0 := hW
  obtain ⟨p, q, hA0, hV, rfl, hfz, hnd⟩ := hW
  have hA : DataW.TrodAll enc Tryd.prog W 0 (fun _ => true) true Tryd.f4.params.toList args.toList ds p := hA0
  rw [Tryd.params4] at hA hval
  obtain ⟨v0, vs0, d0, ds0, p0, q0, hargs, rfl, rfl, h0, r0⟩ := trodAll_cons hA
  obtain ⟨v1, vs1, d1, ds1, p1, q1, rfl, rfl, rfl, h1, r1⟩ := trodAll_cons r0
  obtain ⟨rfl, rfl, rfl⟩ := trodAll_nil r1
  obtain rfl : args = #[v0, v1] := by cases args; simp_all
  obtain ⟨A0, c0, l0, rfl, y0, z0⟩ := open_bs_rd h0 (okWide_slice Tryd.underlying22 (hval 0 22 v0 rfl rfl))
  obtain ⟨a1, rfl, _, _, z1⟩ := Go.ChangeMaps.open_string Tryd.underlying9 (hval 1 9 v1 rfl rfl) h1
  have he : Env W := env_of hL
  refine (walk A0 l0 c0 a1 W he y0 z0 z1).mono fun e W' ⟨h1, h2⟩ => ?_
  subst h1
  exact ⟨_, rfl, law_post laidOut (by kernel_rfl) Tryd.underlying4 rfl (by kernel_rfl) hW0 rfl h2⟩

theorem reads (os : Os) {H : Type} (enc : TypeId × Value → H) : ∃ places, DataW.whole enc Tryd.prog ((World.laidAll Tryd.prog os Rows.codecTextsRow.laid).forCall (fun _ _ => 0) ⟨#[], #[.slice none 0 0, .string ⟨#[]⟩], []⟩).memory Tryd.f4.params.toList Rows.codecTextsSpec.vars false #[.slice none 0 0, .string ⟨#[]⟩].toList 8 = some ([.nil, .lit (.string [])], [], places) :=
  ⟨[], by kernel_rfl⟩

set_option maxRecDepth 100000 in
theorem lifted (os : Os) (started : os.Started) (H : Type) (enc : TypeId × Value → H) (F : Stop.Interp) :
    ReturnsInHanded {} Tryd.checked os 4 .any ((OpenSpec.ofChange Rows.codecTextsSpec).preRow enc Tryd.prog Tryd.f4 Rows.codecTextsRow.domain false Rows.codecTextsRow.laid) (((OpenSpec.ofChange Rows.codecTextsSpec).at F).post enc Tryd.prog Tryd.f4 false true false false) := by
  obtain ⟨places, hx⟩ := reads os enc
  refine returnsInHanded_of_row (C := Tryd.checked) (s := OpenSpec.ofChange Rows.codecTextsSpec) own started (by kernel_rfl) Tryd.func4
    (witness_row_atRef (enc := enc) (C := Tryd.checked) false (World.laidAll Tryd.prog os Rows.codecTextsRow.laid) #[.slice none 0 0, .string ⟨#[]⟩] (World.laidAll_os _ _ _) (wit_vars os _) (wit_rows os _) (by kernel_rfl)
      (OpenSpec.preRow_of_cond 8 hx (by kernel_rfl) (fun k hk => by cases hk) (by kernel_rfl) (laidMet_laidAll _ (laid_fits os) (laid_ifaces os)))) ?_
  intro W base args ds gs before hval hW _ _ _ hL _ _
  exact contract H enc W base args ds gs before hval hW hL

theorem said : Rows.CodecTextsSaid :=
  OpenClaim.holds_of_cond 4 Tryd.f4 rfl rfl rfl rfl rfl rfl rfl ⟨rfl, rfl, rfl, rfl, rfl⟩ rfl rfl rfl rfl rfl (by kernel_rfl) Tryd.func4 (by kernel_rfl)
    (of_decide_eq_true (by kernel_rfl)) (by unfold Func.isWrapper; first | (rw [if_pos (by decide +kernel)]; kernel_rfl) | (rw [if_neg (by decide +kernel)]; exact ⟨rfl, rfl⟩))
    (fun os started H enc _ F => by rw [OpenClaim.pre_eq_preRow]; exact lifted os started H enc F)

theorem plain (f : FuncId) (fn : Func) (hf : Tryd.pinned.checked.prog.funcNamed Rows.codecTextsRow.func = some f) (hfn : Tryd.pinned.checked.prog.funcs[f]? = some fn) :
    false = Tryd.pinned.checked.prog.looks [] ∧ ∀ (j : Nat) t, fn.params[j]? = some t → Tryd.pinned.checked.prog.wantsStandIn t = false := by
  obtain rfl : f = 4 := Option.some.inj ((show Tryd.prog.funcNamed Rows.codecTextsRow.func = some 4 by kernel_rfl).symm.trans hf) |>.symm
  obtain rfl : fn = Tryd.f4 := (Option.some.inj (Tryd.func4.symm.trans hfn)).symm
  refine ⟨by kernel_rfl, fun j t ht => ?_⟩
  have hall : (Tryd.f4.params.toList.all fun t => Tryd.prog.wantsStandIn t == false) = true := by kernel_rfl
  have := List.all_eq_true.1 hall t (Array.mem_def.1 (Array.mem_of_getElem? ht))
  exact beq_iff_eq.1 this

theorem card : Rows.CodecTextsCardSaid :=
  Claim7.holds_tied_plain_at .later [] _ _ _ _ said (fun _ h => by cases h) (by kernel_rfl) (fun _ h => by cases h) codecTexts_row_tie rfl ⟨rfl, rfl⟩ (by kernel_rfl) rfl plain (by kernel_rfl)
end Go.Proofs.YtlgjddmghmgmmaaDoor.lawTexts
