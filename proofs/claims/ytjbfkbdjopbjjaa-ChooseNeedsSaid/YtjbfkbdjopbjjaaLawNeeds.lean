/-
  The law ChooseNeeds of the program holds: for every input that its row admits the call returns true, and the arguments read as before. Conditions: those of the row alone.
-/
import Derived.Test.YtjbfkbdjopbjjaaAlive
import Derived.Test.YtjbfkbdjopbjjaaOpen
namespace Go.Proofs.Ytjbfkbdjopbjjaa.lawNeeds
open Go.ChangeShapes Go.WideShapes Go.ChangeAt Go.RowKit

set_option maxRecDepth 100000 in
set_option maxHeartbeats 8000000 in
theorem walk (A0 : Option Addr) (l0 : List It) (c0 : Nat) (A1 : Option Addr) (l1 : List Int) (c1 : Nat) (w : World) (m0 : l0.length ≤ 9223372036854775807) (q0 : l0.length ≤ c0) (p0 : Its w w.heap.size A0 l0) (_ : c1 ≤ maxLen) (p1 : Rd w w.heap.size A1 c1 (cellsI l1)) (_ : Hid (WfL l1)) :
    Calls Try.prog 4 #[.slice A0 l0.length c0, .slice A1 l1.length c1] w fun e w' => e = .returned (.bool true) ∧ Below w.heap.size w w' := by
  have kR := fun (W : World) (b : Below w.heap.size w W) => right_any A0 l0 c0 W (p0.up b) m0
  by_cases h0 : errN l0 = 0
  · have hrt := errN_iff.1 h0
    rw [h0] at kR
    have KR := Lib.hid kR
    clear kR h0
    by_cases h40 : l1.length ≤ 40
    · have KG := fun (W : World) (b : Below w.heap.size w W) => gNeed_any A0 A1 l0 l1 c0 c1 W (p0.up b) q0 (p1.up b) hrt (by omega)
      have KN := fun (W : World) (b : Below w.heap.size w W) => need_any A0 A1 l0 l1 c0 c1 W (p0.up b) (p1.up b) hrt (by omega)
      unfold NeedPost NeedE at KG KN
      generalize nS l0 (iA l0) l1 = x at *
      generalize nS l0 (iB l0) l1 = y at *
      generalize nS l0 (iV l0) l1 = z at *
      generalize chB l0 l1 = r at *
      have KG := Lib.hid KG
      have KN := Lib.hid KN
      clear p0 p1 hrt
      go_enter Try.func4, Try.ntmps4
      go_wp2_with (first
        | (go_at_call 11; refine (alive_any _).mono ?_; rintro e w1 ⟨rfl, b1⟩; (have B1 := Lib.hid b1); clear b1)
        | (go_at_call 13; (with_reducible refine (KR.out w1 B1.out).mono ?_); rintro e wq ⟨rfl, rfl⟩)
        | (go_at_call 14; (with_reducible refine (KG.out w1 B1.out).mono ?_); rintro e w2 ⟨rfl, b2⟩; (have B2 := Lib.hid (bthen B1.out b2)); clear b2)
        | (go_at_call 15; (with_reducible refine (KN.out w2 B2.out).mono ?_); rintro e w3 ⟨rfl, b3⟩; (have B3 := Lib.hid (bthen B2.out b3)); clear b3)
        | fail)
      go_ret
      exact ⟨by simp, B3.out⟩
    · have h40' : (40 : Int) < (l1.length : Int) := by omega
      clear hrt p0 p1
      go_enter Try.func4, Try.ntmps4
      go_wp2_with (first
        | (go_at_call 11; refine (alive_any _).mono ?_; rintro e w1 ⟨rfl, b1⟩; (have B1 := Lib.hid b1); clear b1)
        | (go_at_call 13; (with_reducible refine (KR.out w1 B1.out).mono ?_); rintro e wq ⟨rfl, rfl⟩)
        | fail)
      go_ret
      exact ⟨by simp, B1.out⟩
  · have hne : (errN l0 != 0) = true := bne_iff_ne.2 h0
    generalize errN l0 = E at *
    have KR := Lib.hid kR
    clear kR h0 p0 p1
    go_enter Try.func4, Try.ntmps4
    go_wp2_with (first
      | (go_at_call 11; refine (alive_any _).mono ?_; rintro e w1 ⟨rfl, b1⟩; (have B1 := Lib.hid b1); clear b1)
      | (go_at_call 13; (with_reducible refine (KR.out w1 B1.out).mono ?_); rintro e wq ⟨rfl, rfl⟩)
      | fail)
    go_ret
    exact ⟨by simp, B1.out⟩

set_option maxRecDepth 100000 in
theorem lifted (os : Os) (started : os.Started) (H : Type) (enc : TypeId × Value → H) :
    ReturnsInHanded {} Try.checked os 4 .any (Rows.chooseNeedsSpec.pre6 enc Try.prog Try.f4 Rows.chooseNeedsRow.domain false) (Rows.chooseNeedsSpec.post enc Try.prog Try.f4 false true false false) := by
  refine returnsInHanded_of_change (C := Try.checked) own started (by kernel_rfl) Try.func4
    (ChangeSpec.witness6 (enc := enc) (C := Try.checked) false ⟨#[], #[.slice none 0 0, .slice none 0 0], []⟩ 8 (by kernel_rfl) (by kernel_rfl) (by kernel_rfl) (by kernel_rfl)) ?_
  intro W base args ds gs before hval0 hW _ _
  have hval : ∀ (j : Nat) t v, Try.f4.params[j]? = some t → args[j]? = some v → Value.okWide Try.prog W .any base t v := hval0
  have hW0 := hW
  obtain ⟨p, q, hA0, hV, rfl, hfz, hnd⟩ := hW
  have hA : DataW.TrodAll enc Try.prog W 0 (fun _ => true) true Try.f4.params.toList args.toList ds p := hA0
  rw [Try.params4] at hA hval
  obtain ⟨v0, vs0, d0, ds0, p0, q0, hargs, rfl, rfl, h0, r0⟩ := trodAll_cons hA
  obtain ⟨v1, vs1, d1, ds1, p1, q1, rfl, rfl, rfl, h1, r1⟩ := trodAll_cons r0
  obtain ⟨rfl, rfl, rfl⟩ := trodAll_nil r1
  obtain rfl : args = #[v0, v1] := by cases args; simp_all
  obtain ⟨A0, c0, l0, rfl, y0, x0, z0⟩ := open_its h0 (okWide_slice Try.underlying22 (hval 0 22 v0 rfl rfl))
  obtain ⟨A1, c1, l1, rfl, y1, z1, u1⟩ := open_is_rd h1 (okWide_slice Try.underlying27 (hval 1 27 v1 rfl rfl))
  refine (walk A0 l0 c0 A1 l1 c1 W y0 x0 z0 y1 z1 (Lib.hid u1)).mono fun e W' ⟨h1, h2⟩ => ?_
  subst h1
  exact ⟨_, rfl, law_post laidOut (by kernel_rfl) Try.underlying4 rfl (by kernel_rfl) hW0 rfl h2⟩

theorem said : Rows.ChooseNeedsSaid :=
  OpenClaim.holds_of_wide 4 Try.f4 rfl rfl rfl rfl rfl rfl rfl ⟨rfl, rfl, rfl, rfl, rfl⟩ rfl rfl rfl rfl rfl (by kernel_rfl) Try.func4 (by kernel_rfl)
    (of_decide_eq_true (by kernel_rfl)) (by unfold Func.isWrapper; first | (rw [if_pos (by decide +kernel)]; kernel_rfl) | (rw [if_neg (by decide +kernel)]; exact ⟨rfl, rfl⟩))
    (fun os started H enc _ => lifted os started H enc)
end Go.Proofs.Ytjbfkbdjopbjjaa.lawNeeds
