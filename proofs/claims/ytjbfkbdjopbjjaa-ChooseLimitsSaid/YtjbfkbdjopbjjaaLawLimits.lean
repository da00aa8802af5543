/-
  The law ChooseLimits of the program holds: for every input that its row admits the call returns true, and the arguments read as before. Conditions: those of the row alone.
-/
import Derived.Test.YtjbfkbdjopbjjaaHelp
namespace Go.Proofs.Ytjbfkbdjopbjjaa.lawLimits
open Go.ChangeShapes Go.WideShapes Go.ChangeAt Go.RowKit

set_option maxRecDepth 100000 in
set_option maxHeartbeats 8000000 in
theorem walk (A0 : Option Addr) (l0 : List It) (c0 : Nat) (a1 b1 : Int) (a2 b2 : Int) (w : World) (m0 : l0.length ≤ 9223372036854775807) (q0 : l0.length ≤ c0) (p0 : Its w w.heap.size A0 l0) (f1 : Hid (-9223372036854775808 ≤ a1 ∧ a1 ≤ 9223372036854775807)) (g1 : Hid (-9223372036854775808 ≤ b1 ∧ b1 ≤ 9223372036854775807)) (f2 : Hid (0 ≤ a2 ∧ a2 ≤ 65535)) (g2 : Hid (0 ≤ b2 ∧ b2 ≤ 65535)) :
    Calls Try.prog 8 #[.slice A0 l0.length c0, .agg #[.int .i64 a1, .int .i64 b1], .agg #[.int .u16 a2, .int .u16 b2]] w fun e w' => e = .returned (.bool true) ∧ Below w.heap.size w w' := by
  obtain ⟨i1, i2⟩ := f1.out
  obtain ⟨j1, j2⟩ := g1.out
  obtain ⟨s1, s2⟩ := f2.out
  obtain ⟨t1, t2⟩ := g2.out
  have hB0 : Hid (Below w.heap.size w ((w.alloc (.cells #[.int .i64 a1, .int .i64 b1] 36)).alloc (.cells #[.int .u16 a2, .int .u16 b2] 39))) := Lib.hid ((below_new w _).alloc (by simp) _)
  have hX0 : Hid (Bx2 ((w.alloc (.cells #[.int .i64 a1, .int .i64 b1] 36)).alloc (.cells #[.int .u16 a2, .int .u16 b2] 39)) w.heap.size (.int .i64 a1) (.int .i64 b1)) := Lib.hid ((bx2_new w _ _ _).up (below_new _ _))
  have hY0 : Hid (Bx2 ((w.alloc (.cells #[.int .i64 a1, .int .i64 b1] 36)).alloc (.cells #[.int .u16 a2, .int .u16 b2] 39)) (w.heap.size + 1) (.int .u16 a2) (.int .u16 b2)) := Lib.hid (by have := bx2_new (w.alloc (.cells #[.int .i64 a1, .int .i64 b1] 36)) (.int .u16 a2) (.int .u16 b2) 39; simpa using this)
  by_cases hc : -1000000 ≤ a1 ∧ -1000000 ≤ b1 ∧ a1 ≤ 1099511627776 ∧ b1 ≤ 1099511627776
  · obtain ⟨hc1, hc2, hc3, hc4⟩ := hc
    clear i1 i2 j1 j2
    by_cases h0 : errN l0 = 0
    · have hrt := errN_iff.1 h0
      have K1 := Lib.hid (fun (W : World) (b : Below w.heap.size w W) => best_ok (a := a1) (b := b1) (p0.up b) q0 hrt (by omega) (by omega))
      have K2 := Lib.hid (fun (W : World) (b : Below w.heap.size w W) => best_ok (a := a1 + a2) (b := b1 + b2) (p0.up b) q0 hrt (by omega) (by omega))
      have KN := Lib.hid (fun (W : World) (b : Below w.heap.size w W) (B : Option Addr) (c : Nat) (x : List Int) (V : Int) (hq : Rd W W.heap.size B c (cellsI x)) (hx : Ch l0.length x) (hV : sK (iV l0) x = V) => need_ok (p0.up b) q0 hrt hq hx hV)
      have hL := Lib.hid (fun (x y : List Int) (hx : Bst l0 a1 b1 x) (hy : Bst l0 (a1 + a2) (b1 + b2) y) => hx.limits hrt hy (by omega) (by omega))
      clear p0 h0 hrt
      go_enter Try.func8, Try.ntmps8
      go_wp2_with (go_at_call 11; refine (alive_any _).mono ?_; rintro e w1 ⟨rfl, b1'⟩; (have B1 := Lib.hid (hB0.out.trans (b1'.mono hB0.out.size))); (obtain ⟨x1, x2⟩ := hX0.out.up b1'); (have Y1 := Lib.hid (hY0.out.up b1')); clear b1')
      go_quiet (fail)
      clear x1 x2
      go_wp2_with (first
        | (go_at_call 18; (with_reducible refine (K1.out _ (below_drewN B1.out _)).mono ?_); rintro e w3 ⟨A3, c3, x, rfl, h3, k3, b3⟩; (have B3 := Lib.hid (bthen (below_drewN B1.out _) b3)); (have O3 := Lib.hid h3); (have X3 := Lib.hid k3); (obtain ⟨y1, y2⟩ := (Y1.out.drewN _).up b3); clear h3 k3 b3)
        | (go_at_call 18; (with_reducible refine (K2.out _ B3.out).mono ?_); rintro e w4 ⟨A4, c4, y, rfl, h4, k4, b4⟩; (have B4 := Lib.hid (bthen B3.out b4)); (have O4 := Lib.hid (O3.out.up b4)); (have P4 := Lib.hid h4); (obtain ⟨V, hV⟩ : ∃ V, sK (iV l0) x = V := ⟨_, rfl⟩); (obtain ⟨U, hU⟩ : ∃ U, sK (iV l0) y = U := ⟨_, rfl⟩); (have hle : V ≤ U := by rw [← hV, ← hU]; exact hL.out x y X3.out k4); (have N1 := Lib.hid (KN.out w4 B4.out A3 c3 x V O4.out.rd X3.out.ch hV)); (have N2 := Lib.hid (fun (W : World) (b : Below w.heap.size w W) (hq : Rd W W.heap.size A4 c4 (cellsI y)) => KN.out W b A4 c4 y U hq k4.ch hU)); clear h4 k4 b4 hV hU y1 y2)
        | (go_at_call 14; (with_reducible refine (N1.out).mono ?_); rintro e w5 ⟨s1', s2', rfl, b5⟩; (have B5 := Lib.hid (bthen B4.out b5)); (have N3 := Lib.hid (N2.out w5 B5.out (P4.out.up b5).rd)); clear b5)
        | (go_at_call 14; (with_reducible refine (N3.out).mono ?_); rintro e w6 ⟨s3', s4', rfl, b6⟩; (have B6 := Lib.hid (bthen B5.out b6)); clear b6)
        | fail)
      go_ret
      exact ⟨by simp, B6.out⟩
    · have hne : (errN l0 != 0) = true := bne_iff_ne.2 h0
      have K1 := Lib.hid (fun (W : World) (b : Below w.heap.size w W) => best_err (a := a1) (b := b1) (p0.up b) q0 m0 h0 (by omega) (by omega))
      have K2 := Lib.hid (fun (W : World) (b : Below w.heap.size w W) => best_err (a := a1 + a2) (b := b1 + b2) (p0.up b) q0 m0 h0 (by omega) (by omega))
      generalize errN l0 = E at *
      clear p0 h0
      go_enter Try.func8, Try.ntmps8
      go_wp2_with (go_at_call 11; refine (alive_any _).mono ?_; rintro e w1 ⟨rfl, b1'⟩; (have B1 := Lib.hid (hB0.out.trans (b1'.mono hB0.out.size))); (obtain ⟨x1, x2⟩ := hX0.out.up b1'); (have Y1 := Lib.hid (hY0.out.up b1')); clear b1')
      go_quiet (fail)
      clear x1 x2
      go_wp2_with (first
        | (go_at_call 18; (with_reducible refine (K1.out _ (below_drewN B1.out _)).mono ?_); rintro e w3 ⟨A3, c3, rfl, b3⟩; (have B3 := Lib.hid (bthen (below_drewN B1.out _) b3)); (obtain ⟨y1, y2⟩ := (Y1.out.drewN _).up b3); clear b3)
        | (go_at_call 18; (with_reducible refine (K2.out _ B3.out).mono ?_); rintro e w4 ⟨A4, c4, rfl, b4⟩; (have B4 := Lib.hid (bthen B3.out b4)); clear b4)
        | fail)
      go_ret
      exact ⟨by simp, B4.out⟩
  · have hcase : a1 < -1000000 ∨ (-1000000 ≤ a1 ∧ b1 < -1000000) ∨ (-1000000 ≤ a1 ∧ -1000000 ≤ b1 ∧ 1099511627776 < a1) ∨ (-1000000 ≤ a1 ∧ -1000000 ≤ b1 ∧ a1 ≤ 1099511627776 ∧ 1099511627776 < b1) := by omega
    clear hc p0
    rcases hcase with n1 | ⟨n1, n2⟩ | ⟨n1, n2, n3⟩ | ⟨n1, n2, n3, n4⟩
    all_goals
      go_enter Try.func8, Try.ntmps8
      go_wp2_with (go_at_call 11; refine (alive_any _).mono ?_; rintro e w1 ⟨rfl, b1'⟩; (have B1 := Lib.hid (hB0.out.trans (b1'.mono hB0.out.size))); (obtain ⟨x1, x2⟩ := hX0.out.up b1'); (have Y1 := Lib.hid (hY0.out.up b1')); clear b1')
      go_quiet (fail)
      clear x1 x2 Y1
      go_wp2
      go_ret
      exact ⟨rfl, below_drewN B1.out _⟩

set_option maxRecDepth 100000 in
theorem lifted (os : Os) (started : os.Started) (H : Type) (enc : TypeId × Value → H) :
    ReturnsInHanded {} Try.checked os 8 .any (Rows.chooseLimitsSpec.pre6 enc Try.prog Try.f8 Rows.chooseLimitsRow.domain false) (Rows.chooseLimitsSpec.post enc Try.prog Try.f8 false true false false) := by
  refine returnsInHanded_of_change (C := Try.checked) own started (by kernel_rfl) Try.func8
    (ChangeSpec.witness6 (enc := enc) (C := Try.checked) false ⟨#[], #[.slice none 0 0, .agg #[.int .i64 0, .int .i64 0], .agg #[.int .u16 0, .int .u16 0]], []⟩ 8 (by kernel_rfl) (by kernel_rfl) (by kernel_rfl) (by kernel_rfl)) ?_
  intro W base args ds gs before hval0 hW _ _
  have hval : ∀ (j : Nat) t v, Try.f8.params[j]? = some t → args[j]? = some v → Value.okWide Try.prog W .any base t v := hval0
  have hW0 := hW
  obtain ⟨p, q, hA0, hV, rfl, hfz, hnd⟩ := hW
  have hA : DataW.TrodAll enc Try.prog W 0 (fun _ => true) true Try.f8.params.toList args.toList ds p := hA0
  rw [Try.params8] at hA hval
  obtain ⟨v0, vs0, d0, ds0, p0, q0, hargs, rfl, rfl, h0, r0⟩ := trodAll_cons hA
  obtain ⟨v1, vs1, d1, ds1, p1, q1, rfl, rfl, rfl, h1, r1⟩ := trodAll_cons r0
  obtain ⟨v2, vs2, d2, ds2, p2, q2, rfl, rfl, rfl, h2, r2⟩ := trodAll_cons r1
  obtain ⟨rfl, rfl, rfl⟩ := trodAll_nil r2
  obtain rfl : args = #[v0, v1, v2] := by cases args; simp_all
  obtain ⟨A0, c0, l0, rfl, y0, x0, z0⟩ := open_its h0 (okWide_slice Try.underlying22 (hval 0 22 v0 rfl rfl))
  obtain ⟨a1, b1, rfl, u1, z1⟩ := open_pair (k := .i64) Try.underlying36 Try.underlying3 (by kernel_rfl) (by kernel_rfl) (hval 1 36 v1 rfl rfl) h1
  obtain ⟨a2, b2, rfl, u2, z2⟩ := open_pair (k := .u16) Try.underlying39 Try.underlying38 (by kernel_rfl) (by kernel_rfl) (hval 2 39 v2 rfl rfl) h2
  refine (walk A0 l0 c0 a1 b1 a2 b2 W y0 x0 z0 (Lib.hid (i64_bounds u1)) (Lib.hid (i64_bounds z1)) (Lib.hid ((Lit.wf_int_iff .u16 a2).1 u2)) (Lib.hid ((Lit.wf_int_iff .u16 b2).1 z2))).mono fun e W' ⟨h1, h2⟩ => ?_
  subst h1
  exact ⟨_, rfl, law_post laidOut (by kernel_rfl) Try.underlying4 rfl (by kernel_rfl) hW0 rfl h2⟩

theorem said : Rows.ChooseLimitsSaid :=
  OpenClaim.holds_of_wide 8 Try.f8 rfl rfl rfl rfl rfl rfl rfl ⟨rfl, rfl, rfl, rfl, rfl⟩ rfl rfl rfl rfl rfl (by kernel_rfl) Try.func8 (by kernel_rfl)
    (of_decide_eq_true (by kernel_rfl)) (by unfold Func.isWrapper; first | (rw [if_pos (by decide +kernel)]; kernel_rfl) | (rw [if_neg (by decide +kernel)]; exact ⟨rfl, rfl⟩))
    (fun os started H enc _ => lifted os started H enc)
end Go.Proofs.Ytjbfkbdjopbjjaa.lawLimits
