/-
  The law ClockDifference of the program holds: for every input that its row admits the call returns true, and the arguments read as before. Conditions: those of the row alone.
-/
import Derived.Test.YtlkindlbllbmgaaLaw
import Derived.Test.YtlkindlbllbmgaaAlive
namespace Go.Proofs.Ytlkindlbllbmgaa.lawDifference
open Go.ChangeShapes Go.WideShapes Go.ChangeAt Go.RowKit

set_option maxRecDepth 100000 in
set_option maxHeartbeats 4000000 in
theorem walk (A0 : Option Addr) (l0 : List Iv) (c0 : Nat) (A1 : Option Addr) (l1 : List Iv) (c1 : Nat) (w : World) (hn0 : l0.length ≤ 9223372036854775807) (hp0 : Ivs w w.heap.size A0 l0) (hn1 : l1.length ≤ 9223372036854775807) (hp1 : Ivs w w.heap.size A1 l1) :
    Calls Try.prog 7 #[.slice A0 l0.length c0, .slice A1 l1.length c1] w fun e w' => e = .returned (.bool true) ∧ Below w.heap.size w w' := by
  by_cases h60 : l0.length ≤ 60
  · have hf : decide (l0.length ≤ 60) = true := decide_eq_true h60
    by_cases h61 : l1.length ≤ 60
    · have hf1 : decide (l1.length ≤ 60) = true := decide_eq_true h61
      have hP := Lib.hid hp0
      have hQ := Lib.hid hp1
      clear hp0 hp1
      go_enter Try.func7, Try.ntmps7
      go_wp2_with (first
        | (go_at_call 11; refine (alive_any _).mono ?_; rintro e w1 ⟨rfl, b⟩; have b1 := Lib.hid b; clear b)
        | (go_at_call 24; refine (few_any _ _ _ _ (by omega)).mono ?_; rintro e w' ⟨rfl, rfl⟩)
        | (go_at_call 32; refine (minus_any A0 A1 l0 l1 c0 c1 _ ((hP.out.below b1.out).more b1.out.size) ((hQ.out.below b1.out).more b1.out.size) (by omega) (by omega)).mono ?_; rintro e w2 ⟨B2, d2, m2, rfl, _, hI, hs, b⟩; (have b2 := Lib.hid (b1.out.trans (b.mono b1.out.size))); (have I2 := Lib.hid hI); (have S2 := Lib.hid hs); clear b hI hs)
        | (go_at_call 33; refine (refMinus_any A0 A1 l0 l1 c0 c1 _ ((hP.out.below b2.out).more b2.out.size) ((hQ.out.below b2.out).more b2.out.size) (by omega) (by omega)).mono ?_; rintro e w3 ⟨B3, d3, m3, rfl, _, hI, hs, b⟩; (have b3 := Lib.hid (b2.out.trans (b.mono b2.out.size))); (have I3 := Lib.hid hI); (have S3 := Lib.hid hs); (obtain rfl := isSet_unique hs S2.out); (have I2' := Lib.hid ((I2.out.below b).more b.size)); (have hm := plain_len hs.1); clear b hI hs)
        | (go_at_call 25; refine (same_any B2 B3 _ d2 d3 _ I2'.out I3.out (by omega)).mono ?_; rintro e w4 ⟨rfl, b⟩; (have b4 := Lib.hid (b3.out.trans (b.mono b3.out.size))); clear b))
      go_ret
      exact ⟨rfl, b4.out⟩
    · have hf1 : decide (l1.length ≤ 60) = false := decide_eq_false h61
      clear hp0 hp1
      go_enter Try.func7, Try.ntmps7
      go_wp2_with (first
        | (go_at_call 11; refine (alive_any _).mono ?_; rintro e w1 ⟨rfl, b⟩; have b1 := Lib.hid b; clear b)
        | (go_at_call 24; refine (few_any _ _ _ _ (by omega)).mono ?_; rintro e w' ⟨rfl, rfl⟩))
      go_ret
      exact ⟨rfl, b1.out⟩
  · have hf : decide (l0.length ≤ 60) = false := decide_eq_false h60
    clear hp0 hp1
    go_enter Try.func7, Try.ntmps7
    go_wp2_with (first
      | (go_at_call 11; refine (alive_any _).mono ?_; rintro e w1 ⟨rfl, b⟩; have b1 := Lib.hid b; clear b)
      | (go_at_call 24; refine (few_any _ _ _ _ (by omega)).mono ?_; rintro e w' ⟨rfl, rfl⟩))
    go_ret
    exact ⟨rfl, b1.out⟩

set_option maxRecDepth 100000 in
theorem lifted (os : Os) (started : os.Started) (H : Type) (enc : TypeId × Value → H) :
    ReturnsInHanded {} Try.checked os 7 .any (Rows.clockDifferenceSpec.pre6 enc Try.prog Try.f7 Rows.clockDifferenceRow.domain false) (Rows.clockDifferenceSpec.post enc Try.prog Try.f7 false true false false) := by
  refine returnsInHanded_of_change (C := Try.checked) own started (by kernel_rfl) Try.func7
    (ChangeSpec.witness6 (enc := enc) (C := Try.checked) false ⟨#[], #[.slice none 0 0, .slice none 0 0], []⟩ 8 (by kernel_rfl) (by kernel_rfl) (by kernel_rfl) (by kernel_rfl)) ?_
  intro W base args ds gs before hval0 hW _ _
  have hval : ∀ (j : Nat) t v, Try.f7.params[j]? = some t → args[j]? = some v → Value.okWide Try.prog W .any base t v := hval0
  have hW0 := hW
  obtain ⟨p, q, hA0, hV, rfl, hfz, hnd⟩ := hW
  have hA : DataW.TrodAll enc Try.prog W 0 (fun _ => true) true Try.f7.params.toList args.toList ds p := hA0
  rw [Try.params7] at hA hval
  obtain ⟨v0, vs0, d0, ds0, p0, q0, hargs, rfl, rfl, h0, r0⟩ := trodAll_cons hA
  obtain ⟨v1, vs1, d1, ds1, p1, q1, rfl, rfl, rfl, h1, r1⟩ := trodAll_cons r0
  obtain ⟨rfl, rfl, rfl⟩ := trodAll_nil r1
  obtain rfl : args = #[v0, v1] := by cases args; simp_all
  obtain ⟨A0, c0, l0, rfl, z0, y0⟩ := open_ivs (hval 0 30 v0 rfl rfl) h0
  obtain ⟨A1, c1, l1, rfl, z1, y1⟩ := open_ivs (hval 1 30 v1 rfl rfl) h1
  refine (walk A0 l0 c0 A1 l1 c1 W z0 y0 z1 y1).mono fun e W' ⟨h1, h2⟩ => ?_
  subst h1
  exact ⟨_, rfl, law_post laidOut (by kernel_rfl) Try.underlying4 rfl (by kernel_rfl) hW0 rfl h2⟩

theorem said : Rows.ClockDifferenceSaid :=
  OpenClaim.holds_of_wide 7 Try.f7 rfl rfl rfl rfl rfl rfl rfl ⟨rfl, rfl, rfl, rfl, rfl⟩ rfl rfl rfl rfl rfl (by kernel_rfl) Try.func7 (by kernel_rfl)
    (of_decide_eq_true (by kernel_rfl)) (by unfold Func.isWrapper; first | (rw [if_pos (by decide +kernel)]; kernel_rfl) | (rw [if_neg (by decide +kernel)]; exact ⟨rfl, rfl⟩))
    (fun os started H enc _ => lifted os started H enc)
end Go.Proofs.Ytlkindlbllbmgaa.lawDifference
