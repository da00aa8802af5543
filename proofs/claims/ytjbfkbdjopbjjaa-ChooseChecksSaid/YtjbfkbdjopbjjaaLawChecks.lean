/-
  The law ChooseChecks of the program holds: for every input that its row admits the call returns true, and the arguments read as before. Conditions: those of the row alone.
-/
import Derived.Test.YtjbfkbdjopbjjaaAlive
import Derived.Test.YtjbfkbdjopbjjaaOpen
namespace Go.Proofs.Ytjbfkbdjopbjjaa.lawChecks
open Go.ChangeShapes Go.WideShapes Go.ChangeAt Go.RowKit

set_option maxRecDepth 100000 in
set_option maxHeartbeats 8000000 in
theorem walk (A0 : Option Addr) (l0 : List It) (c0 : Nat) (w : World) (m0 : l0.length ≤ 9223372036854775807) (q0 : l0.length ≤ c0) (p0 : Its w w.heap.size A0 l0) :
    Calls Try.prog 3 #[.slice A0 l0.length c0] w fun e w' => e = .returned (.bool true) ∧ Below w.heap.size w w' := by
  by_cases h30 : 30 < l0.length
  · have h30' : (30 : Int) < (l0.length : Int) := by omega
    clear p0
    go_enter Try.func3, Try.ntmps3
    go_wp2_with (first
      | (go_at_call 11; refine (alive_any _).mono ?_; rintro e w1 ⟨rfl, b1⟩; (have B1 := Lib.hid b1); clear b1)
      | fail)
    go_ret
    exact ⟨by simp, B1.out⟩
  · have KG := Lib.hid (fun (W : World) (b : Below w.heap.size w W) => gRight_any A0 l0 c0 W (p0.up b) q0 m0)
    have KR := Lib.hid (fun (W : World) (b : Below w.heap.size w W) => right_any A0 l0 c0 W (p0.up b) m0)
    generalize errN l0 = E at *
    clear p0
    go_enter Try.func3, Try.ntmps3
    go_wp2_with (first
      | (go_at_call 11; refine (alive_any _).mono ?_; rintro e w1 ⟨rfl, b1⟩; (have B1 := Lib.hid b1); clear b1)
      | (go_at_call 12; (with_reducible refine (KG.out w1 B1.out).mono ?_); rintro e w2 ⟨rfl, b2⟩; (have B2 := Lib.hid (bthen B1.out b2)); clear b2)
      | (go_at_call 13; (with_reducible refine (KR.out w2 B2.out).mono ?_); rintro e wq ⟨rfl, rfl⟩)
      | fail)
    go_ret
    exact ⟨by simp, B2.out⟩

set_option maxRecDepth 100000 in
theorem lifted (os : Os) (started : os.Started) (H : Type) (enc : TypeId × Value → H) :
    ReturnsInHanded {} Try.checked os 3 .any (Rows.chooseChecksSpec.pre6 enc Try.prog Try.f3 Rows.chooseChecksRow.domain false) (Rows.chooseChecksSpec.post enc Try.prog Try.f3 false true false false) := by
  refine returnsInHanded_of_change (C := Try.checked) own started (by kernel_rfl) Try.func3
    (ChangeSpec.witness6 (enc := enc) (C := Try.checked) false ⟨#[], #[.slice none 0 0], []⟩ 8 (by kernel_rfl) (by kernel_rfl) (by kernel_rfl) (by kernel_rfl)) ?_
  intro W base args ds gs before hval0 hW _ _
  have hval : ∀ (j : Nat) t v, Try.f3.params[j]? = some t → args[j]? = some v → Value.okWide Try.prog W .any base t v := hval0
  have hW0 := hW
  obtain ⟨p, q, hA0, hV, rfl, hfz, hnd⟩ := hW
  have hA : DataW.TrodAll enc Try.prog W 0 (fun _ => true) true Try.f3.params.toList args.toList ds p := hA0
  rw [Try.params3] at hA hval
  obtain ⟨v0, vs0, d0, ds0, p0, q0, hargs, rfl, rfl, h0, r0⟩ := trodAll_cons hA
  obtain ⟨rfl, rfl, rfl⟩ := trodAll_nil r0
  obtain rfl : args = #[v0] := by cases args; simp_all
  obtain ⟨A0, c0, l0, rfl, y0, x0, z0⟩ := open_its h0 (okWide_slice Try.underlying22 (hval 0 22 v0 rfl rfl))
  refine (walk A0 l0 c0 W y0 x0 z0).mono fun e W' ⟨h1, h2⟩ => ?_
  subst h1
  exact ⟨_, rfl, law_post laidOut (by kernel_rfl) Try.underlying4 rfl (by kernel_rfl) hW0 rfl h2⟩

theorem said : Rows.ChooseChecksSaid :=
  OpenClaim.holds_of_wide 3 Try.f3 rfl rfl rfl rfl rfl rfl rfl ⟨rfl, rfl, rfl, rfl, rfl⟩ rfl rfl rfl rfl rfl (by kernel_rfl) Try.func3 (by kernel_rfl)
    (of_decide_eq_true (by kernel_rfl)) (by unfold Func.isWrapper; first | (rw [if_pos (by decide +kernel)]; kernel_rfl) | (rw [if_neg (by decide +kernel)]; exact ⟨rfl, rfl⟩))
    (fun os started H enc _ => lifted os started H enc)
end Go.Proofs.Ytjbfkbdjopbjjaa.lawChecks
