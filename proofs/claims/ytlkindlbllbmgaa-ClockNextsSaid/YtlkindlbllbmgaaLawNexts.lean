/-
  The law ClockNexts of the program holds: for every input that its row admits the call returns true, and the arguments read as before. Conditions: those of the row alone.
-/
import Derived.Test.YtlkindlbllbmgaaLaw
import Derived.Test.YtlkindlbllbmgaaAlive
namespace Go.Proofs.Ytlkindlbllbmgaa.lawNexts
open Go.ChangeShapes Go.WideShapes Go.ChangeAt Go.RowKit

set_option maxRecDepth 100000 in
set_option maxHeartbeats 4000000 in
theorem walk (A0 : Option Addr) (l0 : List Hr) (c0 : Nat) (a1 : Int) (w : World) (hn0 : l0.length ≤ 9223372036854775807) (hp0 : Hrs w w.heap.size A0 l0) (_ : -9223372036854775808 ≤ a1) (_ : a1 ≤ 9223372036854775807) :
    Calls Try.prog 5 #[.slice A0 l0.length c0, .int .i64 a1] w fun e w' => e = .returned (.bool true) ∧ Below w.heap.size w w' := by
  by_cases h100 : l0.length ≤ 100
  · have hP := Lib.hid hp0
    clear hp0
    go_enter Try.func5, Try.ntmps5
    go_wp2_with (first
      | (go_at_call 11; refine (alive_any _).mono ?_; rintro e w1 ⟨rfl, b⟩; have b1 := Lib.hid b; clear b)
      | (go_at_call 22; refine (next_any A0 l0 c0 a1 _ ((hP.out.below b1.out).more b1.out.size) hn0).mono ?_; rintro e w2 ⟨rfl, b⟩; (have b2 := Lib.hid (b1.out.trans (b.mono b1.out.size))); clear b)
      | (go_at_call 23; refine (refNext_any A0 l0 c0 a1 _ ((hP.out.below b2.out).more b2.out.size) hn0).mono ?_; rintro e w3 ⟨rfl, b⟩; (have b3 := Lib.hid (b2.out.trans (b.mono b2.out.size))); clear b))
    go_ret
    exact ⟨by simp, b3.out⟩
  · clear hp0
    go_enter Try.func5, Try.ntmps5
    go_wp2_with (go_at_call 11; refine (alive_any _).mono ?_; rintro e w1 ⟨rfl, b⟩; have b1 := Lib.hid b; clear b)
    go_ret
    exact ⟨rfl, b1.out⟩

set_option maxRecDepth 100000 in
theorem lifted (os : Os) (started : os.Started) (H : Type) (enc : TypeId × Value → H) :
    ReturnsInHanded {} Try.checked os 5 .any (Rows.clockNextsSpec.pre6 enc Try.prog Try.f5 Rows.clockNextsRow.domain false) (Rows.clockNextsSpec.post enc Try.prog Try.f5 false true false false) := by
  refine returnsInHanded_of_change (C := Try.checked) own started (by kernel_rfl) Try.func5
    (ChangeSpec.witness6 (enc := enc) (C := Try.checked) false ⟨#[], #[.slice none 0 0, .int .i64 0], []⟩ 8 (by kernel_rfl) (by kernel_rfl) (by kernel_rfl) (by kernel_rfl)) ?_
  intro W base args ds gs before hval0 hW _ _
  have hval : ∀ (j : Nat) t v, Try.f5.params[j]? = some t → args[j]? = some v → Value.okWide Try.prog W .any base t v := hval0
  have hW0 := hW
  obtain ⟨p, q, hA0, hV, rfl, hfz, hnd⟩ := hW
  have hA : DataW.TrodAll enc Try.prog W 0 (fun _ => true) true Try.f5.params.toList args.toList ds p := hA0
  rw [Try.params5] at hA hval
  obtain ⟨v0, vs0, d0, ds0, p0, q0, hargs, rfl, rfl, h0, r0⟩ := trodAll_cons hA
  obtain ⟨v1, vs1, d1, ds1, p1, q1, rfl, rfl, rfl, h1, r1⟩ := trodAll_cons r0
  obtain ⟨rfl, rfl, rfl⟩ := trodAll_nil r1
  obtain rfl : args = #[v0, v1] := by cases args; simp_all
  obtain ⟨A0, c0, l0, rfl, z0, y0⟩ := open_hrs (hval 0 25 v0 rfl rfl) h0
  obtain ⟨a1, rfl, _, _, z1⟩ := open_int Try.underlying3 (hval 1 3 v1 rfl rfl) h1
  have z1 := i64_bounds z1
  refine (walk A0 l0 c0 a1 W z0 y0 z1.1 z1.2).mono fun e W' ⟨h1, h2⟩ => ?_
  subst h1
  exact ⟨_, rfl, law_post laidOut (by kernel_rfl) Try.underlying4 rfl (by kernel_rfl) hW0 rfl h2⟩

theorem said : Rows.ClockNextsSaid :=
  OpenClaim.holds_of_wide 5 Try.f5 rfl rfl rfl rfl rfl rfl rfl ⟨rfl, rfl, rfl, rfl, rfl⟩ rfl rfl rfl rfl rfl (by kernel_rfl) Try.func5 (by kernel_rfl)
    (of_decide_eq_true (by kernel_rfl)) (by unfold Func.isWrapper; first | (rw [if_pos (by decide +kernel)]; kernel_rfl) | (rw [if_neg (by decide +kernel)]; exact ⟨rfl, rfl⟩))
    (fun os started H enc _ => lifted os started H enc)
end Go.Proofs.Ytlkindlbllbmgaa.lawNexts
