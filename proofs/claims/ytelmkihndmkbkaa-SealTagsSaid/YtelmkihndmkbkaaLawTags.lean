/-
  The law SealTags of the program holds: for every input that its row admits the call returns true, and the arguments read as before. Conditions: those of the row alone.
-/
import Derived.Test.YtelmkihndmkbkaaOpen
namespace Go.Proofs.Ytelmkihndmkbkaa.lawTags
open Go.ChangeShapes Go.WideShapes Go.ChangeAt Go.RowKit

set_option maxRecDepth 100000 in
set_option maxHeartbeats 4000000 in
theorem walk (a0 : Nat) (A1 : Option Addr) (l1 : List UInt8) (c1 : Nat) (w : World) (m0 : a0 < 18446744073709551616) (m1 : c1 ≤ maxLen) (p1 : Rd w w.heap.size A1 c1 (cells8 l1)) :
    Calls Try.prog 5 #[.int .u64 (a0 : Int), .slice A1 l1.length c1] w fun e w' => e = .returned (.bool true) ∧ Below w.heap.size w w' := by
  unfold maxLen at m1
  by_cases h2000 : l1.length ≤ 2000
  · have h1 := fun (W : World) (b : Below w.heap.size w W) => tag_any a0 A1 l1 c1 W m0 ((p1.below b).more b.size) (by omega) m1
    have h2 := fun (W : World) (b : Below w.heap.size w W) => refTag_any a0 A1 l1 c1 W m0 ((p1.below b).more b.size) (by omega)
    generalize (tag a0 l1 : Int) = z at *
    clear m0 p1
    generalize (a0 : Int) = x at *
    have H1 := Lib.hid h1
    have H2 := Lib.hid h2
    clear h1 h2
    go_enter Try.func5, Try.ntmps5
    go_wp2_with (first
      | (go_at_call 11; refine (alive_any w).mono ?_; rintro e w1 ⟨rfl, b⟩; (have B1 := Lib.hid b); clear b)
      | (go_at_call 16; (with_reducible refine (H1.out _ B1.out).mono ?_); rintro e w' ⟨rfl, rfl⟩)
      | (go_at_call 17; (with_reducible refine (H2.out _ B1.out).mono ?_); rintro e w' ⟨rfl, rfl⟩))
    go_ret
    exact ⟨by simp, B1.out⟩
  · clear m0 p1
    generalize (a0 : Int) = x at *
    go_enter Try.func5, Try.ntmps5
    go_wp2_with (first
      | (go_at_call 11; refine (alive_any w).mono ?_; rintro e w1 ⟨rfl, b⟩; (have B1 := Lib.hid b); clear b))
    go_ret
    exact ⟨rfl, B1.out⟩

set_option maxRecDepth 100000 in
theorem lifted (os : Os) (started : os.Started) (H : Type) (enc : TypeId × Value → H) :
    ReturnsInHanded {} Try.checked os 5 .any (Rows.sealTagsSpec.pre6 enc Try.prog Try.f5 Rows.sealTagsRow.domain false) (Rows.sealTagsSpec.post enc Try.prog Try.f5 false true false false) := by
  refine returnsInHanded_of_change (C := Try.checked) own started (by kernel_rfl) Try.func5
    (ChangeSpec.witness6 (enc := enc) (C := Try.checked) false ⟨#[], #[.int .u64 0, .slice none 0 0], []⟩ 8 (by kernel_rfl) (by kernel_rfl) (by kernel_rfl) (by kernel_rfl)) ?_
  intro W base args ds gs before hval0 hW _ _
  have hval : ∀ (j : Nat) t v, Try.f5.params[j]? = some t → args[j]? = some v → Value.okWide Try.prog W .any base t v := hval0
  have hW0 := hW
  obtain ⟨p, q, hA0, hV, rfl, hfz, hnd⟩ := hW
  have hA : DataW.TrodAll enc Try.prog W 0 (fun _ => true) true Try.f5.params.toList args.toList ds p := hA0
  rw [Try.params5] at hA hval
  obtain ⟨v0, vs0, d0, ds0, p0, q0, hargs, rfl, rfl, h0, r0⟩ := trodAll_cons hA
  obtain ⟨v1, vs1, d1, ds1, p1, q1, rfl, rfl, rfl, h1, r1⟩ := trodAll_cons r0
  obtain ⟨rfl, rfl, rfl⟩ := trodAll_nil r1
  obtain rfl : args = #[v0, v1] := by cases args; simp_all
  obtain ⟨x0, rfl, _, _, z0⟩ := open_int Try.underlying22 (hval 0 22 v0 rfl rfl) h0
  obtain ⟨a0, rfl, k0⟩ := u64_nat z0
  obtain ⟨A1, c1, l1, rfl, y1, z1⟩ := open_bs_rd h1 (okWide_slice Try.underlying28 (hval 1 28 v1 rfl rfl))
  refine (walk a0 A1 l1 c1 W k0 y1 z1).mono fun e W' ⟨h1, h2⟩ => ?_
  subst h1
  exact ⟨_, rfl, law_post laidOut (by kernel_rfl) Try.underlying4 rfl (by kernel_rfl) hW0 rfl h2⟩

theorem said : Rows.SealTagsSaid :=
  OpenClaim.holds_of_wide 5 Try.f5 rfl rfl rfl rfl rfl rfl rfl ⟨rfl, rfl, rfl, rfl, rfl⟩ rfl rfl rfl rfl rfl (by kernel_rfl) Try.func5 (by kernel_rfl)
    (of_decide_eq_true (by kernel_rfl)) (by unfold Func.isWrapper; first | (rw [if_pos (by decide +kernel)]; kernel_rfl) | (rw [if_neg (by decide +kernel)]; exact ⟨rfl, rfl⟩))
    (fun os started H enc _ => lifted os started H enc)
end Go.Proofs.Ytelmkihndmkbkaa.lawTags
