/-
  The law SealMixes of the program holds: for every input that its row admits the call returns true, and the arguments read as before. Conditions: those of the row alone.
-/
import Derived.Test.YtelmkihndmkbkaaOpen
namespace Go.Proofs.Ytelmkihndmkbkaa.lawMixes
open Go.ChangeShapes Go.WideShapes Go.ChangeAt Go.RowKit

set_option maxRecDepth 100000 in
set_option maxHeartbeats 4000000 in
theorem walk (a0 : Nat) (a1 : Nat) (w : World) (m0 : a0 < 18446744073709551616) (m1 : a1 < 18446744073709551616) :
    Calls Try.prog 3 #[.int .u64 (a0 : Int), .int .u64 (a1 : Int)] w fun e w' => e = .returned (.bool true) ∧ Below w.heap.size w w' := by
  obtain ⟨r, hr, h1, h2⟩ := mixes m0
  obtain ⟨s, hs, h3, _⟩ := mixes m1
  have hx : (a0 : Int) = (a1 : Int) ↔ r = s := by
    rw [hr, hs]
    constructor
    · intro h
      rw [show a0 = a1 by omega]
    · intro h
      rw [mix_inj m0 m1 (by omega)]
  clear hr hs m0 m1
  generalize (a0 : Int) = x at *
  generalize (a1 : Int) = y at *
  have H1 := Lib.hid h1
  have H2 := Lib.hid h2
  have H3 := Lib.hid h3
  clear h1 h2 h3
  by_cases h : x = y
  · obtain rfl := hx.1 h
    subst h
    clear hx
    go_enter Try.func3, Try.ntmps3
    go_wp2_with (first
      | (go_at_call 11; refine (alive_any w).mono ?_; rintro e w1 ⟨rfl, b⟩; (have B1 := Lib.hid b); clear b)
      | (go_at_call 12; (with_reducible refine (H1.out _).mono ?_); rintro e w' ⟨rfl, rfl⟩)
      | (go_at_call 13; (with_reducible refine (H2.out _).mono ?_); rintro e w' ⟨rfl, rfl⟩))
    go_ret
    exact ⟨by simp, B1.out⟩
  · have hne := beq_eq_false_iff_ne.2 h
    have hnr := beq_eq_false_iff_ne.2 (fun e => h (hx.2 e))
    clear hx
    go_enter Try.func3, Try.ntmps3
    go_wp2_with (first
      | (go_at_call 11; refine (alive_any w).mono ?_; rintro e w1 ⟨rfl, b⟩; (have B1 := Lib.hid b); clear b)
      | (go_at_call 12; (with_reducible refine (H1.out _).mono ?_); rintro e w' ⟨rfl, rfl⟩)
      | (go_at_call 12; (with_reducible refine (H3.out _).mono ?_); rintro e w' ⟨rfl, rfl⟩)
      | (go_at_call 13; (with_reducible refine (H2.out _).mono ?_); rintro e w' ⟨rfl, rfl⟩))
    go_ret
    exact ⟨by simp, B1.out⟩

set_option maxRecDepth 100000 in
theorem lifted (os : Os) (started : os.Started) (H : Type) (enc : TypeId × Value → H) :
    ReturnsInHanded {} Try.checked os 3 .any (Rows.sealMixesSpec.pre6 enc Try.prog Try.f3 Rows.sealMixesRow.domain false) (Rows.sealMixesSpec.post enc Try.prog Try.f3 false true false false) := by
  refine returnsInHanded_of_change (C := Try.checked) own started (by kernel_rfl) Try.func3
    (ChangeSpec.witness6 (enc := enc) (C := Try.checked) false ⟨#[], #[.int .u64 0, .int .u64 0], []⟩ 8 (by kernel_rfl) (by kernel_rfl) (by kernel_rfl) (by kernel_rfl)) ?_
  intro W base args ds gs before hval0 hW _ _
  have hval : ∀ (j : Nat) t v, Try.f3.params[j]? = some t → args[j]? = some v → Value.okWide Try.prog W .any base t v := hval0
  have hW0 := hW
  obtain ⟨p, q, hA0, hV, rfl, hfz, hnd⟩ := hW
  have hA : DataW.TrodAll enc Try.prog W 0 (fun _ => true) true Try.f3.params.toList args.toList ds p := hA0
  rw [Try.params3] at hA hval
  obtain ⟨v0, vs0, d0, ds0, p0, q0, hargs, rfl, rfl, h0, r0⟩ := trodAll_cons hA
  obtain ⟨v1, vs1, d1, ds1, p1, q1, rfl, rfl, rfl, h1, r1⟩ := trodAll_cons r0
  obtain ⟨rfl, rfl, rfl⟩ := trodAll_nil r1
  obtain rfl : args = #[v0, v1] := by cases args; simp_all
  obtain ⟨x0, rfl, _, _, z0⟩ := open_int Try.underlying22 (hval 0 22 v0 rfl rfl) h0
  obtain ⟨a0, rfl, k0⟩ := u64_nat z0
  obtain ⟨x1, rfl, _, _, z1⟩ := open_int Try.underlying22 (hval 1 22 v1 rfl rfl) h1
  obtain ⟨a1, rfl, k1⟩ := u64_nat z1
  refine (walk a0 a1 W k0 k1).mono fun e W' ⟨h1, h2⟩ => ?_
  subst h1
  exact ⟨_, rfl, law_post laidOut (by kernel_rfl) Try.underlying4 rfl (by kernel_rfl) hW0 rfl h2⟩

theorem said : Rows.SealMixesSaid :=
  OpenClaim.holds_of_wide 3 Try.f3 rfl rfl rfl rfl rfl rfl rfl ⟨rfl, rfl, rfl, rfl, rfl⟩ rfl rfl rfl rfl rfl (by kernel_rfl) Try.func3 (by kernel_rfl)
    (of_decide_eq_true (by kernel_rfl)) (by unfold Func.isWrapper; first | (rw [if_pos (by decide +kernel)]; kernel_rfl) | (rw [if_neg (by decide +kernel)]; exact ⟨rfl, rfl⟩))
    (fun os started H enc _ => lifted os started H enc)
end Go.Proofs.Ytelmkihndmkbkaa.lawMixes
