/-
  The law FlowCuts of the program holds: for every input that its row admits the call returns true, and the arguments read as before. Conditions: those of the row alone.
-/
import Derived.Test.YtdemnbbofigcdaaAlive
import Derived.Test.YtdemnbbofigcdaaOpen
import Derived.Test.YtdemnbbofigcdaaCutR
namespace Go.Proofs.Ytdemnbbofigcdaa.lawCuts
open Go.ChangeShapes Go.WideShapes Go.ChangeAt Go.RowKit

set_option maxRecDepth 100000 in
set_option maxHeartbeats 8000000 in
theorem walk (A0 : Option Addr) (l0 : List Ed) (c0 : Nat) (a1 : Int) (a2 : Int) (w : World) (m0 : l0.length ≤ 9223372036854775807) (_ : l0.length ≤ c0) (p0 : Es w w.heap.size A0 l0) (f1 : Hid ((Lit.int .i64 a1).wf = true)) (_ : Hid ((Lit.int .i64 a2).wf = true)) :
    Calls Try.prog 6 #[.slice A0 l0.length c0, .int .i64 a1, .int .i64 a2] w fun e w' => e = .returned (.bool true) ∧ Below w.heap.size w w' := by
  have kR := fun (W : World) (b : Below w.heap.size w W) => few_any A0 l0 c0 W (p0.up b) m0
  by_cases hr : l0.length ≤ 60 ∧ rightN l0 = 0
  · have hg := right_iff.1 hr.2
    have h60 := hr.1
    rw [decide_eq_true hr.1, decide_eq_true hr.2, Bool.and_true] at kR
    have kR := Lib.hid kR
    clear hr
    have KG := Lib.hid (fun (W : World) (b : Below w.heap.size w W) => gCut_any A0 l0 c0 a1 a2 W (p0.up b) hg f1.out)
    have KM := Lib.hid (fun (W : World) (b : Below w.heap.size w W) => rCut_any A0 l0 c0 a1 a2 W (p0.up b) hg)
    clear p0 hg
    go_enter Try.func6, Try.ntmps6
    go_wp2_with (first
      | (go_at_call 11; refine (alive_any _).mono ?_; rintro e w1 ⟨rfl, b1⟩; (have B1 := Lib.hid b1); clear b1)
      | (go_at_call 12; (with_reducible refine ((kR.out w1 B1.out)).mono ?_); rintro e w2 ⟨rfl, b2⟩; (have B2 := Lib.hid (bthen B1.out b2)); clear b2)
      | (go_at_call 21; (with_reducible refine (KG.out w2 B2.out).mono ?_); rintro e w3 ⟨A3, c3, L, rfl, h3, n1, n2, b3⟩; (have H3 := Lib.hid h3); (have hLl := Lib.hid (cut_short n1 n2)); (have N := Lib.hid (And.intro n1 n2)); (have B3 := Lib.hid (bthen B2.out b3)); clear b3 h3 n1 n2)
      | (go_at_call 22; (with_reducible refine (KM.out w3 B3.out).mono ?_); rintro e w4 ⟨A4, c4, M, rfl, h4, m1, m2, b4⟩; (have hLM := cut_eq m1 m2 N.out.1 N.out.2); subst hLM; (have KS := Lib.hid (same_self (H3.out.up b4).rd h4.rd rfl (by have := hLl.out; omega))); (have B4 := Lib.hid (bthen B3.out b4)); clear b4 h4 m1 m2)
      | (go_at_call 20; (with_reducible refine (KS.out).mono ?_); rintro e w5 ⟨rfl, b5⟩; (have B5 := Lib.hid (bthen B4.out b5)); clear b5)
      | fail)
    go_ret
    exact ⟨by simp, B5.out⟩
  · have hx : (decide (l0.length ≤ 60) && decide (rightN l0 = 0)) = false := by
      rw [Bool.and_eq_false_iff]
      by_cases h : l0.length ≤ 60
      · exact .inr (decide_eq_false (fun h2 => hr ⟨h, h2⟩))
      · exact .inl (decide_eq_false h)
    rw [hx] at kR
    have kR := Lib.hid kR
    clear hr hx p0
    go_enter Try.func6, Try.ntmps6
    go_wp2_with (first
      | (go_at_call 11; refine (alive_any _).mono ?_; rintro e w1 ⟨rfl, b1⟩; (have B1 := Lib.hid b1); clear b1)
      | (go_at_call 12; (with_reducible refine ((kR.out w1 B1.out)).mono ?_); rintro e w2 ⟨rfl, b2⟩; (have B2 := Lib.hid (bthen B1.out b2)); clear b2)
      | fail)
    go_ret
    exact ⟨rfl, B2.out⟩

set_option maxRecDepth 100000 in
theorem lifted (os : Os) (started : os.Started) (H : Type) (enc : TypeId × Value → H) :
    ReturnsInHanded {} Try.checked os 6 .any (Rows.flowCutsSpec.pre6 enc Try.prog Try.f6 Rows.flowCutsRow.domain false) (Rows.flowCutsSpec.post enc Try.prog Try.f6 false true false false) := by
  refine returnsInHanded_of_change (C := Try.checked) own started (by kernel_rfl) Try.func6
    (ChangeSpec.witness6 (enc := enc) (C := Try.checked) false ⟨#[], #[.slice none 0 0, .int .i64 0, .int .i64 0], []⟩ 8 (by kernel_rfl) (by kernel_rfl) (by kernel_rfl) (by kernel_rfl)) ?_
  intro W base args ds gs before hval0 hW _ _
  have hval : ∀ (j : Nat) t v, Try.f6.params[j]? = some t → args[j]? = some v → Value.okWide Try.prog W .any base t v := hval0
  have hW0 := hW
  obtain ⟨p, q, hA0, hV, rfl, hfz, hnd⟩ := hW
  have hA : DataW.TrodAll enc Try.prog W 0 (fun _ => true) true Try.f6.params.toList args.toList ds p := hA0
  rw [Try.params6] at hA hval
  obtain ⟨v0, vs0, d0, ds0, p0, q0, hargs, rfl, rfl, h0, r0⟩ := trodAll_cons hA
  obtain ⟨v1, vs1, d1, ds1, p1, q1, rfl, rfl, rfl, h1, r1⟩ := trodAll_cons r0
  obtain ⟨v2, vs2, d2, ds2, p2, q2, rfl, rfl, rfl, h2, r2⟩ := trodAll_cons r1
  obtain ⟨rfl, rfl, rfl⟩ := trodAll_nil r2
  obtain rfl : args = #[v0, v1, v2] := by cases args; simp_all
  obtain ⟨A0, c0, l0, rfl, y0, x0, z0⟩ := open_es h0 (okWide_slice Try.underlying22 (hval 0 22 v0 rfl rfl))
  obtain ⟨a1, rfl, _, _, u1⟩ := open_int Try.underlying3 (hval 1 3 v1 rfl rfl) h1
  obtain ⟨a2, rfl, _, _, u2⟩ := open_int Try.underlying3 (hval 2 3 v2 rfl rfl) h2
  refine (walk A0 l0 c0 a1 a2 W y0 x0 z0 (Lib.hid u1) (Lib.hid u2)).mono fun e W' ⟨h1, h2⟩ => ?_
  subst h1
  exact ⟨_, rfl, law_post laidOut (by kernel_rfl) Try.underlying4 rfl (by kernel_rfl) hW0 rfl h2⟩

theorem said : Rows.FlowCutsSaid :=
  OpenClaim.holds_of_wide 6 Try.f6 rfl rfl rfl rfl rfl rfl rfl ⟨rfl, rfl, rfl, rfl, rfl⟩ rfl rfl rfl rfl rfl (by kernel_rfl) Try.func6 (by kernel_rfl)
    (of_decide_eq_true (by kernel_rfl)) (by unfold Func.isWrapper; first | (rw [if_pos (by decide +kernel)]; kernel_rfl) | (rw [if_neg (by decide +kernel)]; exact ⟨rfl, rfl⟩))
    (fun os started H enc _ => lifted os started H enc)
end Go.Proofs.Ytdemnbbofigcdaa.lawCuts
