/-
  The law ChooseFits of the program holds: for every input that its row admits the call returns true, and the arguments read as before. Conditions: those of the row alone.
-/
import Derived.Test.YtjbfkbdjopbjjaaAlive
import Derived.Test.YtjbfkbdjopbjjaaOpen
namespace Go.Proofs.Ytjbfkbdjopbjjaa.lawFits
open Go.ChangeShapes Go.WideShapes Go.ChangeAt Go.RowKit

set_option maxRecDepth 100000 in
set_option maxHeartbeats 8000000 in
theorem walk (A0 : Option Addr) (l0 : List It) (c0 : Nat) (A1 : Option Addr) (l1 : List Int) (c1 : Nat) (a2 : Int) (a3 : Int) (w : World) (m0 : l0.length ≤ 9223372036854775807) (q0 : l0.length ≤ c0) (p0 : Its w w.heap.size A0 l0) (_ : c1 ≤ maxLen) (p1 : Rd w w.heap.size A1 c1 (cellsI l1)) (_ : Hid (WfL l1)) (_ : Hid (-9223372036854775808 ≤ a2 ∧ a2 ≤ 9223372036854775807)) (_ : Hid (-9223372036854775808 ≤ a3 ∧ a3 ≤ 9223372036854775807)) :
    Calls Try.prog 5 #[.slice A0 l0.length c0, .slice A1 l1.length c1, .int .i64 a2, .int .i64 a3] w fun e w' => e = .returned (.bool true) ∧ Below w.heap.size w w' := by
  have kR := fun (W : World) (b : Below w.heap.size w W) => right_any A0 l0 c0 W (p0.up b) m0
  by_cases h0 : errN l0 = 0
  · have hrt := errN_iff.1 h0
    rw [h0] at kR
    have KR := Lib.hid kR
    clear kR h0
    by_cases h40 : l1.length ≤ 40
    · have KG := Lib.hid (fun (W : World) (b : Below w.heap.size w W) => gFits_any A0 A1 l0 l1 c0 c1 a2 a3 W (p0.up b) q0 (p1.up b) hrt (by omega))
      have KN := Lib.hid (fun (W : World) (b : Below w.heap.size w W) => fits_any A0 A1 l0 l1 c0 c1 a2 a3 W (p0.up b) (p1.up b) hrt (by omega))
      generalize fitB l0 l1 a2 a3 = r at *
      clear p0 p1 hrt
      go_enter Try.func5, Try.ntmps5
      go_wp2_with (first
        | (go_at_call 11; refine (alive_any _).mono ?_; rintro e w1 ⟨rfl, b1⟩; (have B1 := Lib.hid b1); clear b1)
        | (go_at_call 13; (with_reducible refine (KR.out w1 B1.out).mono ?_); rintro e wq ⟨rfl, rfl⟩)
        | (go_at_call 16; (with_reducible refine (KG.out w1 B1.out).mono ?_); rintro e w2 ⟨rfl, b2⟩; (have B2 := Lib.hid (bthen B1.out b2)); clear b2)
        | (go_at_call 17; (with_reducible refine (KN.out w2 B2.out).mono ?_); rintro e w3 ⟨rfl, b3⟩; (have B3 := Lib.hid (bthen B2.out b3)); clear b3)
        | fail)
      go_ret
      exact ⟨by simp, B3.out⟩
    · have h40' : (40 : Int) < (l1.length : Int) := by omega
      clear hrt p0 p1
      go_enter Try.func5, Try.ntmps5
      go_wp2_with (first
        | (go_at_call 11; refine (alive_any _).mono ?_; rintro e w1 ⟨rfl, b1⟩; (have B1 := Lib.hid b1); clear b1)
        | (go_at_call 13; (with_reducible refine (KR.out w1 B1.out).mono ?_); rintro e wq ⟨rfl, rfl⟩)
        | fail)
      go_ret
      exact ⟨by simp, B1.out⟩
  · have hne : (errN l0 != 0) = true := bne_iff_ne.2 h0
    generalize errN l0 = E at *
    have KR := Lib.hid kR
    clear kR h0 p0 p1
    go_enter Try.func5, Try.ntmps5
    go_wp2_with (first
      | (go_at_call 11; refine (alive_any _).mono ?_; rintro e w1 ⟨rfl, b1⟩; (have B1 := Lib.hid b1); clear b1)
      | (go_at_call 13; (with_reducible refine (KR.out w1 B1.out).mono ?_); rintro e wq ⟨rfl, rfl⟩)
      | fail)
    go_ret
    exact ⟨by simp, B1.out⟩

set_option maxRecDepth 100000 in
theorem lifted (os : Os) (started : os.Started) (H : Type) (enc : TypeId × Value → H) :
    ReturnsInHanded {} Try.checked os 5 .any (Rows.chooseFitsSpec.pre6 enc Try.prog Try.f5 Rows.chooseFitsRow.domain false) (Rows.chooseFitsSpec.post enc Try.prog Try.f5 false true false false) := by
  refine returnsInHanded_of_change (C := Try.checked) own started (by kernel_rfl) Try.func5
    (ChangeSpec.witness6 (enc := enc) (C := Try.checked) false ⟨#[], #[.slice none 0 0, .slice none 0 0, .int .i64 0, .int .i64 0], []⟩ 8 (by kernel_rfl) (by kernel_rfl) (by kernel_rfl) (by kernel_rfl)) ?_
  intro W base args ds gs before hval0 hW _ _
  have hval : ∀ (j : Nat) t v, Try.f5.params[j]? = some t → args[j]? = some v → Value.okWide Try.prog W .any base t v := hval0
  have hW0 := hW
  obtain ⟨p, q, hA0, hV, rfl, hfz, hnd⟩ := hW
  have hA : DataW.TrodAll enc Try.prog W 0 (fun _ => true) true Try.f5.params.toList args.toList ds p := hA0
  rw [Try.params5] at hA hval
  obtain ⟨v0, vs0, d0, ds0, p0, q0, hargs, rfl, rfl, h0, r0⟩ := trodAll_cons hA
  obtain ⟨v1, vs1, d1, ds1, p1, q1, rfl, rfl, rfl, h1, r1⟩ := trodAll_cons r0
  obtain ⟨v2, vs2, d2, ds2, p2, q2, rfl, rfl, rfl, h2, r2⟩ := trodAll_cons r1
  obtain ⟨v3, vs3, d3, ds3, p3, q3, rfl, rfl, rfl, h3, r3⟩ := trodAll_cons r2
  obtain ⟨rfl, rfl, rfl⟩ := trodAll_nil r3
  obtain rfl : args = #[v0, v1, v2, v3] := by cases args; simp_all
  obtain ⟨A0, c0, l0, rfl, y0, x0, z0⟩ := open_its h0 (okWide_slice Try.underlying22 (hval 0 22 v0 rfl rfl))
  obtain ⟨A1, c1, l1, rfl, y1, z1, u1⟩ := open_is_rd h1 (okWide_slice Try.underlying27 (hval 1 27 v1 rfl rfl))
  obtain ⟨a2, rfl, _, _, u2⟩ := open_int Try.underlying3 (hval 2 3 v2 rfl rfl) h2
  obtain ⟨a3, rfl, _, _, u3⟩ := open_int Try.underlying3 (hval 3 3 v3 rfl rfl) h3
  refine (walk A0 l0 c0 A1 l1 c1 a2 a3 W y0 x0 z0 y1 z1 (Lib.hid u1) (Lib.hid (i64_bounds u2)) (Lib.hid (i64_bounds u3))).mono fun e W' ⟨h1, h2⟩ => ?_
  subst h1
  exact ⟨_, rfl, law_post laidOut (by kernel_rfl) Try.underlying4 rfl (by kernel_rfl) hW0 rfl h2⟩

theorem said : Rows.ChooseFitsSaid :=
  OpenClaim.holds_of_wide 5 Try.f5 rfl rfl rfl rfl rfl rfl rfl ⟨rfl, rfl, rfl, rfl, rfl⟩ rfl rfl rfl rfl rfl (by kernel_rfl) Try.func5 (by kernel_rfl)
    (of_decide_eq_true (by kernel_rfl)) (by unfold Func.isWrapper; first | (rw [if_pos (by decide +kernel)]; kernel_rfl) | (rw [if_neg (by decide +kernel)]; exact ⟨rfl, rfl⟩))
    (fun os started H enc _ => lifted os started H enc)
end Go.Proofs.Ytjbfkbdjopbjjaa.lawFits
