/-
  The law GraphRights of the program holds: for every input that its row admits the call returns true, and the arguments read as before. Conditions: those of the row alone.
-/
import Derived.Test.YtlaklfiodmnocaaOpen
import Derived.Test.YtlaklfiodmnocaaAlive
namespace Go.Proofs.Ytlaklfiodmnocaa.lawRights
open Go.ChangeShapes Go.WideShapes Go.ChangeAt Go.RowKit

set_option maxRecDepth 100000 in
set_option maxHeartbeats 8000000 in
theorem walk (A0 : Option Addr) (l0 : List Ed) (c0 : Nat) (w : World) (m0 : l0.length ≤ 9223372036854775807) (p0 : Es w w.heap.size A0 l0) :
    Calls Try.prog 3 #[.slice A0 l0.length c0] w fun e w' => e = .returned (.bool true) ∧ Below w.heap.size w w' := by
  by_cases h230 : l0.length ≤ 230
  · have k1 := fun (W : World) (b : Below w.heap.size w W) => gRight_any A0 l0 c0 W (p0.up b) m0
    have k2 := fun (W : World) (b : Below w.heap.size w W) => refRight_any A0 l0 c0 W (p0.up b) m0
    generalize ((rightN l0 : Nat) : Int) = n at *
    have K1 := Lib.hid k1
    have K2 := Lib.hid k2
    clear k1 k2 p0
    go_enter Try.func3, Try.ntmps3
    go_wp2_with (first
      | (go_at_call 11; refine (alive_any _).mono ?_; rintro e w1 ⟨rfl, b1⟩; (have B1 := Lib.hid b1); clear b1)
      | (go_at_call 12; (with_reducible refine (K1.out w1 B1.out).mono ?_); rintro e w2 ⟨rfl, b2⟩; (have D2 := Lib.hid b2); (have B2 := Lib.hid (bthen B1.out b2)); clear b2)
      | (go_at_call 13; (with_reducible refine (K2.out w2 B2.out).mono ?_); rintro e w3 ⟨rfl, b3⟩; (have D3 := Lib.hid b3); (have B3 := Lib.hid (bthen B2.out b3)); clear b3)
      | fail)
    go_ret
    exact ⟨by simp, B3.out⟩
  · clear p0
    go_enter Try.func3, Try.ntmps3
    go_wp2_with (first
      | (go_at_call 11; refine (alive_any _).mono ?_; rintro e w1 ⟨rfl, b1⟩; (have B1 := Lib.hid b1); clear b1)
      | fail)
    go_ret
    exact ⟨rfl, B1.out⟩

set_option maxRecDepth 100000 in
theorem lifted (os : Os) (started : os.Started) (H : Type) (enc : TypeId × Value → H) :
    ReturnsInHanded {} Try.checked os 3 .any (Rows.graphRightsSpec.pre6 enc Try.prog Try.f3 Rows.graphRightsRow.domain false) (Rows.graphRightsSpec.post enc Try.prog Try.f3 false true false false) := by
  refine returnsInHanded_of_change (C := Try.checked) own started (by kernel_rfl) Try.func3
    (ChangeSpec.witness6 (enc := enc) (C := Try.checked) false ⟨#[], #[.slice none 0 0], []⟩ 8 (by kernel_rfl) (by kernel_rfl) (by kernel_rfl) (by kernel_rfl)) ?_
  intro W base args ds gs before hval0 hW _ _
  have hval : ∀ (j : Nat) t v, Try.f3.params[j]? = some t → args[j]? = some v → Value.okWide Try.prog W .any base t v := hval0
  have hW0 := hW
  obtain ⟨p, q, hA0, hV, rfl, hfz, hnd⟩ := hW
  have hA : DataW.TrodAll enc Try.prog W 0 (fun _ => true) true Try.f3.params.toList args.toList ds p := hA0
  rw [Try.params3] at hA hval
  obtain ⟨v0, vs0, d0, ds0, p0, q0, hargs, rfl, rfl, h0, r0⟩ := trodAll_cons hA
  obtain ⟨rfl, rfl, rfl⟩ := trodAll_nil r0
  obtain rfl : args = #[v0] := by cases args; simp_all
  obtain ⟨A0, c0, l0, rfl, y0, z0⟩ := open_es h0 (okWide_slice Try.underlying22 (hval 0 22 v0 rfl rfl))
  refine (walk A0 l0 c0 W y0 z0).mono fun e W' ⟨h1, h2⟩ => ?_
  subst h1
  exact ⟨_, rfl, law_post laidOut (by kernel_rfl) Try.underlying4 rfl (by kernel_rfl) hW0 rfl h2⟩

theorem said : Rows.GraphRightsSaid :=
  OpenClaim.holds_of_wide 3 Try.f3 rfl rfl rfl rfl rfl rfl rfl ⟨rfl, rfl, rfl, rfl, rfl⟩ rfl rfl rfl rfl rfl (by kernel_rfl) Try.func3 (by kernel_rfl)
    (of_decide_eq_true (by kernel_rfl)) (by unfold Func.isWrapper; first | (rw [if_pos (by decide +kernel)]; kernel_rfl) | (rw [if_neg (by decide +kernel)]; exact ⟨rfl, rfl⟩))
    (fun os started H enc _ => lifted os started H enc)
end Go.Proofs.Ytlaklfiodmnocaa.lawRights
