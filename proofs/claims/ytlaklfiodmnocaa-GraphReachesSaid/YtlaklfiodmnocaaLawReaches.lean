/-
  The law GraphReaches of the program holds: for every input that its row admits the call returns true, and the arguments read as before. Conditions: those of the row alone.
-/
import Derived.Test.YtlaklfiodmnocaaSameEq
namespace Go.Proofs.Ytlaklfiodmnocaa.lawReaches
open Go.ChangeShapes Go.WideShapes Go.ChangeAt Go.RowKit

set_option maxRecDepth 100000 in
set_option maxHeartbeats 8000000 in
theorem walk (A0 : Option Addr) (l0 : List Ed) (c0 : Nat) (A1 : Option Addr) (l1 : List Int) (c1 : Nat) (w : World) (m0 : l0.length ≤ 9223372036854775807) (p0 : Es w w.heap.size A0 l0) (_ : c1 ≤ maxLen) (p1 : Rd w w.heap.size A1 c1 (cellsI l1)) (f1 : Hid (WfL l1)) :
    Calls Try.prog 4 #[.slice A0 l0.length c0, .slice A1 l1.length c1] w fun e w' => e = .returned (.bool true) ∧ Below w.heap.size w w' := by
  have kR := fun (W : World) (b : Below w.heap.size w W) => right_any A0 l0 c0 W (p0.up b) m0
  by_cases hr : rightN l0 = 0
  · have hg := right_iff.1 hr
    rw [decide_eq_true hr] at kR
    have kR := Lib.hid kR
    clear hr
    by_cases h40 : l1.length ≤ 40
    · have k1 := fun (W : World) (b : Below w.heap.size w W) => gReach_any A0 A1 l0 l1 c0 c1 W (p0.up b) (p1.up b) hg (by omega) f1.out
      have k2 := fun (W : World) (b : Below w.heap.size w W) => reach_any A0 A1 l0 l1 c0 c1 W (p0.up b) (p1.up b) (by have := hg.1; omega) (by omega)
      have k3 := fun (W : World) (b : Below w.heap.size w W) => gBack_any A0 A1 l0 l1 c0 c1 W (p0.up b) (p1.up b) hg (by omega) f1.out
      have k4 := fun (W : World) (b : Below w.heap.size w W) => back_any A0 A1 l0 l1 c0 c1 W (p0.up b) (p1.up b) (by have := hg.1; omega) (by omega)
      have hL1 := Lib.hid (reach_len l0 l1)
      have hL2 := Lib.hid (back_len l0 l1)
      have hg1 := hg.1
      have hQ1 : Hid ((reachL l0 l1).length ≤ 1000) := Lib.hid (by have := hL1.out; omega)
      have hQ2 : Hid ((backL l0 l1).length ≤ 1000) := Lib.hid (by have := hL2.out; omega)
      generalize reachL l0 l1 = r1 at *
      generalize backL l0 l1 = r2 at *
      have K1 := Lib.hid k1
      have K2 := Lib.hid k2
      have K3 := Lib.hid k3
      have K4 := Lib.hid k4
      clear k1 k2 k3 k4 p0 p1 hg hL1 hL2
      go_enter Try.func4, Try.ntmps4
      go_wp2_with (first
        | (go_at_call 11; refine (alive_any _).mono ?_; rintro e w1 ⟨rfl, b1⟩; (have B1 := Lib.hid b1); clear b1)
        | (go_at_call 14; (with_reducible refine ((kR.out w1 B1.out)).mono ?_); rintro e w2 ⟨rfl, b2⟩; (have D2 := Lib.hid b2); (have B2 := Lib.hid (bthen B1.out b2)); clear b2)
        | (go_at_call 16; (with_reducible refine (K1.out w2 B2.out).mono ?_); rintro e w3 ⟨A3', c3', rfl, h3, b3⟩; (have H3 := Lib.hid h3.rd); (have D3 := Lib.hid b3); (have B3 := Lib.hid (bthen B2.out b3)); clear b3 h3)
        | (go_at_call 17; (with_reducible refine (K2.out w3 B3.out).mono ?_); rintro e w4 ⟨A4', c4', rfl, h4, b4⟩; (have H4 := Lib.hid h4.rd); (have D4 := Lib.hid b4); (have B4 := Lib.hid (bthen B3.out b4)); clear b4 h4)
        | (go_at_call 15; (with_reducible refine (same_eq (H3.out.up D4.out) H4.out hQ1.out).mono ?_); rintro e w5 ⟨rfl, b5⟩; (have D5 := Lib.hid b5); (have B5 := Lib.hid (bthen B4.out b5)); clear b5)
        | (go_at_call 18; (with_reducible refine (K3.out w5 B5.out).mono ?_); rintro e w6 ⟨A6', c6', rfl, h6, b6⟩; (have H6 := Lib.hid h6.rd); (have D6 := Lib.hid b6); (have B6 := Lib.hid (bthen B5.out b6)); clear b6 h6)
        | (go_at_call 19; (with_reducible refine (K4.out w6 B6.out).mono ?_); rintro e w7 ⟨A7', c7', rfl, h7, b7⟩; (have H7 := Lib.hid h7.rd); (have D7 := Lib.hid b7); (have B7 := Lib.hid (bthen B6.out b7)); clear b7 h7)
        | (go_at_call 15; (with_reducible refine (same_eq (H6.out.up D7.out) H7.out hQ2.out).mono ?_); rintro e w8 ⟨rfl, b8⟩; (have D8 := Lib.hid b8); (have B8 := Lib.hid (bthen B7.out b8)); clear b8)
        | fail)
      go_ret
      exact ⟨rfl, B8.out⟩
    · clear p0 p1 hg
      go_enter Try.func4, Try.ntmps4
      go_wp2_with (first
        | (go_at_call 11; refine (alive_any _).mono ?_; rintro e w1 ⟨rfl, b1⟩; (have B1 := Lib.hid b1); clear b1)
        | (go_at_call 14; (with_reducible refine ((kR.out w1 B1.out)).mono ?_); rintro e w2 ⟨rfl, b2⟩; (have D2 := Lib.hid b2); (have B2 := Lib.hid (bthen B1.out b2)); clear b2)
        | fail)
      go_ret
      exact ⟨rfl, B2.out⟩
  · rw [decide_eq_false hr] at kR
    have kR := Lib.hid kR
    clear hr p0 p1
    go_enter Try.func4, Try.ntmps4
    go_wp2_with (first
      | (go_at_call 11; refine (alive_any _).mono ?_; rintro e w1 ⟨rfl, b1⟩; (have B1 := Lib.hid b1); clear b1)
      | (go_at_call 14; (with_reducible refine ((kR.out w1 B1.out)).mono ?_); rintro e w2 ⟨rfl, b2⟩; (have D2 := Lib.hid b2); (have B2 := Lib.hid (bthen B1.out b2)); clear b2)
      | fail)
    go_ret
    exact ⟨rfl, B2.out⟩

set_option maxRecDepth 100000 in
theorem lifted (os : Os) (started : os.Started) (H : Type) (enc : TypeId × Value → H) :
    ReturnsInHanded {} Try.checked os 4 .any (Rows.graphReachesSpec.pre6 enc Try.prog Try.f4 Rows.graphReachesRow.domain false) (Rows.graphReachesSpec.post enc Try.prog Try.f4 false true false false) := by
  refine returnsInHanded_of_change (C := Try.checked) own started (by kernel_rfl) Try.func4
    (ChangeSpec.witness6 (enc := enc) (C := Try.checked) false ⟨#[], #[.slice none 0 0, .slice none 0 0], []⟩ 8 (by kernel_rfl) (by kernel_rfl) (by kernel_rfl) (by kernel_rfl)) ?_
  intro W base args ds gs before hval0 hW _ _
  have hval : ∀ (j : Nat) t v, Try.f4.params[j]? = some t → args[j]? = some v → Value.okWide Try.prog W .any base t v := hval0
  have hW0 := hW
  obtain ⟨p, q, hA0, hV, rfl, hfz, hnd⟩ := hW
  have hA : DataW.TrodAll enc Try.prog W 0 (fun _ => true) true Try.f4.params.toList args.toList ds p := hA0
  rw [Try.params4] at hA hval
  obtain ⟨v0, vs0, d0, ds0, p0, q0, hargs, rfl, rfl, h0, r0⟩ := trodAll_cons hA
  obtain ⟨v1, vs1, d1, ds1, p1, q1, rfl, rfl, rfl, h1, r1⟩ := trodAll_cons r0
  obtain ⟨rfl, rfl, rfl⟩ := trodAll_nil r1
  obtain rfl : args = #[v0, v1] := by cases args; simp_all
  obtain ⟨A0, c0, l0, rfl, y0, z0⟩ := open_es h0 (okWide_slice Try.underlying22 (hval 0 22 v0 rfl rfl))
  obtain ⟨A1, c1, l1, rfl, y1, z1, u1⟩ := open_is_rd h1 (okWide_slice Try.underlying27 (hval 1 27 v1 rfl rfl))
  refine (walk A0 l0 c0 A1 l1 c1 W y0 z0 y1 z1 (Lib.hid u1)).mono fun e W' ⟨h1, h2⟩ => ?_
  subst h1
  exact ⟨_, rfl, law_post laidOut (by kernel_rfl) Try.underlying4 rfl (by kernel_rfl) hW0 rfl h2⟩

theorem said : Rows.GraphReachesSaid :=
  OpenClaim.holds_of_wide 4 Try.f4 rfl rfl rfl rfl rfl rfl rfl ⟨rfl, rfl, rfl, rfl, rfl⟩ rfl rfl rfl rfl rfl (by kernel_rfl) Try.func4 (by kernel_rfl)
    (of_decide_eq_true (by kernel_rfl)) (by unfold Func.isWrapper; first | (rw [if_pos (by decide +kernel)]; kernel_rfl) | (rw [if_neg (by decide +kernel)]; exact ⟨rfl, rfl⟩))
    (fun os started H enc _ => lifted os started H enc)
end Go.Proofs.Ytlaklfiodmnocaa.lawReaches
