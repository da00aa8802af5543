/-
  The law ChooseBest of the program holds: for every input that its row admits the call returns true, and the arguments read as before. Conditions: those of the row alone.
-/
import Derived.Test.YtjbfkbdjopbjjaaHelp
namespace Go.Proofs.Ytjbfkbdjopbjjaa.lawBest
open Go.ChangeShapes Go.WideShapes Go.ChangeAt Go.RowKit

set_option maxRecDepth 100000 in
set_option maxHeartbeats 8000000 in
theorem walk (A0 : Option Addr) (l0 : List It) (c0 : Nat) (a1 b1 : Int) (A2 : Option Addr) (l2 : List Int) (c2 : Nat) (w : World) (m0 : l0.length ≤ 9223372036854775807) (q0 : l0.length ≤ c0) (p0 : Its w w.heap.size A0 l0) (f1 : Hid (-9223372036854775808 ≤ a1 ∧ a1 ≤ 9223372036854775807)) (g1 : Hid (-9223372036854775808 ≤ b1 ∧ b1 ≤ 9223372036854775807)) (_ : c2 ≤ maxLen) (p2 : Rd w w.heap.size A2 c2 (cellsI l2)) (_ : Hid (WfL l2)) :
    Calls Try.prog 7 #[.slice A0 l0.length c0, .agg #[.int .i64 a1, .int .i64 b1], .slice A2 l2.length c2] w fun e w' => e = .returned (.bool true) ∧ Below w.heap.size w w' := by
  have hB0 : Hid (Below w.heap.size w (w.alloc (.cells #[.int .i64 a1, .int .i64 b1] 36))) := Lib.hid (below_new w _)
  have hX0 : Hid (Bx2 (w.alloc (.cells #[.int .i64 a1, .int .i64 b1] 36)) w.heap.size (.int .i64 a1) (.int .i64 b1)) := Lib.hid (bx2_new w _ _ _)
  by_cases h40 : l2.length ≤ 40
  · by_cases h0 : errN l0 = 0
    · have hrt := errN_iff.1 h0
      have K1 := Lib.hid (fun (W : World) (b : Below w.heap.size w W) => best_ok (a := a1) (b := b1) (p0.up b) q0 hrt f1.out g1.out)
      have KN := Lib.hid (fun (W : World) (b : Below w.heap.size w W) (B : Option Addr) (c : Nat) (x : List Int) (V : Int) (hq : Rd W W.heap.size B c (cellsI x)) (hx : Ch l0.length x) (hV : sK (iV l0) x = V) => need_ok (p0.up b) q0 hrt hq hx hV)
      have KY := Lib.hid (fun (W : World) (b : Below w.heap.size w W) (B : Option Addr) (c : Nat) (x : List Int) (hq : Rd W W.heap.size B c (cellsI x)) (hm : x.length ≤ 1000000) (hx : Fit l0 x a1 b1) => fits_yes (p0.up b) q0 hrt hq hm hx)
      have KZ := Lib.hid (fun (W : World) (b : Below w.heap.size w W) (B : Option Addr) (c : Nat) (x : List Int) (hq : Rd W W.heap.size B c (cellsI x)) (hm : x.length ≤ 1000000) (hx : ¬ Fit l0 x a1 b1) => fits_no (p0.up b) q0 hrt hq hm hx)
      have hI := Lib.hid (fun (x : List Int) (h : Bst l0 a1 b1 x) => h.fits_iff hrt)
      have hNn := Lib.hid (fun (c : List Int) (h : Fit l0 c a1 b1) => fit_some hrt h)
      have hP2 := Lib.hid p2
      have hr12 := hrt.1
      clear p0 p2 h0 hrt
      have hcase : a1 < 0 ∨ (0 ≤ a1 ∧ b1 < 0) ∨ (0 ≤ a1 ∧ 0 ≤ b1) := by omega
      rcases hcase with n1 | ⟨n1, n2⟩ | ⟨n1, n2⟩
      · have d1 : decide (a1 < 0) = true := decide_eq_true n1
        have hnf : ∀ c, ¬ Fit l0 c a1 b1 := fun c h => by have := hNn.out c h; omega
        go_enter Try.func7, Try.ntmps7
        go_upto_region 9 with (first
          | (go_at_call 11; refine (alive_any _).mono ?_; rintro e w1 ⟨rfl, b1'⟩; (have B1 := Lib.hid (hB0.out.trans (b1'.mono hB0.out.size))); (have Y1 := Lib.hid (hX0.out.up b1')); (obtain ⟨x1, x2⟩ := Y1.out); clear b1')
          | (go_at_call 18; (with_reducible refine (K1.out _ B1.out).mono ?_); rintro e w3 ⟨A3, c3, x, rfl, h3, k3, b3⟩; (have B3 := Lib.hid (bthen B1.out b3)); (have O3 := Lib.hid h3); (have X3 := Lib.hid k3); (have Y3 := Lib.hid (Y1.out.up b3)); (obtain ⟨V, hV'⟩ : ∃ V, sK (iV l0) x = V := ⟨_, rfl⟩); (have hV := Lib.hid hV'); (have N1 := Lib.hid (KN.out w3 B3.out A3 c3 x V h3.rd k3.ch hV')); clear h3 k3 b3 hV' x1 x2 Y1)
          | (go_at_call 14; (with_reducible refine (N1.out).mono ?_); rintro e w4 ⟨s1', s2', rfl, b4⟩; (have B4 := Lib.hid (bthen B3.out b4)); (have O4 := Lib.hid (O3.out.up b4)); (obtain ⟨z1, z2⟩ := Y3.out.up b4); clear b4)
          | fail)
        have KF := Lib.hid (fun (W : World) (b : Below w4.heap.size w4 W) => KZ.out W (bthen B4.out b) A3 c3 x (O4.out.up b).rd (by have := ch_len X3.out.ch; omega) (hnf x))
        first
          | (
            go_region_with (first
              | (go_at_call 16; (with_reducible refine (KF.out _ ((Below.refl _ _).drew)).mono ?_); rintro e w5 ⟨rfl, b5⟩; (have D5 : Hid (Below w4.heap.size w4 w5) := Lib.hid (below_undrew b5)); (obtain ⟨u1, u2⟩ := (show Bx2 w4 _ _ _ from ⟨z1, z2⟩).up D5.out); clear b5)
              | fail))
          | fail
        all_goals
          have B5 := Lib.hid (bthen B4.out D5.out)
          clear z1 z2 KF
          have KF2 := Lib.hid (KZ.out w5 B5.out A2 c2 l2 (hP2.out.up B5.out) (by omega) (hnf l2))
          go_wp2_with (first
            | (go_at_call 16; (with_reducible refine (KF2.out).mono ?_); rintro e w6 ⟨rfl, b6⟩; (have B6 := Lib.hid (bthen B5.out b6)); clear b6 u1 u2)
            | fail)
          go_ret
          exact ⟨rfl, B6.out⟩
      · have d1 : decide (a1 < 0) = false := decide_eq_false (by omega)
        have d2 : decide (b1 < 0) = true := decide_eq_true n2
        have hnf : ∀ c, ¬ Fit l0 c a1 b1 := fun c h => by have := hNn.out c h; omega
        go_enter Try.func7, Try.ntmps7
        go_upto_region 9 with (first
          | (go_at_call 11; refine (alive_any _).mono ?_; rintro e w1 ⟨rfl, b1'⟩; (have B1 := Lib.hid (hB0.out.trans (b1'.mono hB0.out.size))); (have Y1 := Lib.hid (hX0.out.up b1')); (obtain ⟨x1, x2⟩ := Y1.out); clear b1')
          | (go_at_call 18; (with_reducible refine (K1.out _ B1.out).mono ?_); rintro e w3 ⟨A3, c3, x, rfl, h3, k3, b3⟩; (have B3 := Lib.hid (bthen B1.out b3)); (have O3 := Lib.hid h3); (have X3 := Lib.hid k3); (have Y3 := Lib.hid (Y1.out.up b3)); (obtain ⟨V, hV'⟩ : ∃ V, sK (iV l0) x = V := ⟨_, rfl⟩); (have hV := Lib.hid hV'); (have N1 := Lib.hid (KN.out w3 B3.out A3 c3 x V h3.rd k3.ch hV')); clear h3 k3 b3 hV' x1 x2 Y1)
          | (go_at_call 14; (with_reducible refine (N1.out).mono ?_); rintro e w4 ⟨s1', s2', rfl, b4⟩; (have B4 := Lib.hid (bthen B3.out b4)); (have O4 := Lib.hid (O3.out.up b4)); (obtain ⟨z1, z2⟩ := Y3.out.up b4); clear b4)
          | fail)
        have KF := Lib.hid (fun (W : World) (b : Below w4.heap.size w4 W) => KZ.out W (bthen B4.out b) A3 c3 x (O4.out.up b).rd (by have := ch_len X3.out.ch; omega) (hnf x))
        go_region_held3 (fun W => W.cell? ⟨w.heap.size, 0, none⟩ = some (.int .i64 a1) ∧ W.cell? ⟨w.heap.size, 1, none⟩ = some (.int .i64 b1)) (first
          | exact ⟨z1, z2⟩
          | exact ((show Bx2 w4 _ _ _ from ⟨z1, z2⟩).up D5.out)) (first
          | (go_at_call 16; (with_reducible refine (KF.out _ ((Below.refl _ _).drew)).mono ?_); rintro e w5 ⟨rfl, b5⟩; (have D5 : Hid (Below w4.heap.size w4 w5) := Lib.hid (below_undrew b5)); clear b5)
          | fail)
        have B5 := Lib.hid (bthen B4.out D5.out)
        obtain ⟨u1, u2⟩ := (show Bx2 w4 _ _ _ from ⟨z1, z2⟩).up D5.out
        clear z1 z2 KF
        have KF2 := Lib.hid (KZ.out w5 B5.out A2 c2 l2 (hP2.out.up B5.out) (by omega) (hnf l2))
        go_wp2_with (first
          | (go_at_call 16; (with_reducible refine (KF2.out).mono ?_); rintro e w6 ⟨rfl, b6⟩; (have B6 := Lib.hid (bthen B5.out b6)); clear b6 u1 u2)
          | fail)
        go_ret
        exact ⟨rfl, B6.out⟩
      · have d1 : decide (a1 < 0) = false := decide_eq_false (by omega)
        have d2 : decide (b1 < 0) = false := decide_eq_false (by omega)
        go_enter Try.func7, Try.ntmps7
        go_upto_region 9 with (first
          | (go_at_call 11; refine (alive_any _).mono ?_; rintro e w1 ⟨rfl, b1'⟩; (have B1 := Lib.hid (hB0.out.trans (b1'.mono hB0.out.size))); (have Y1 := Lib.hid (hX0.out.up b1')); (obtain ⟨x1, x2⟩ := Y1.out); clear b1')
          | (go_at_call 18; (with_reducible refine (K1.out _ B1.out).mono ?_); rintro e w3 ⟨A3, c3, x, rfl, h3, k3, b3⟩; (have B3 := Lib.hid (bthen B1.out b3)); (have O3 := Lib.hid h3); (have X3 := Lib.hid k3); (have Y3 := Lib.hid (Y1.out.up b3)); (obtain ⟨V, hV'⟩ : ∃ V, sK (iV l0) x = V := ⟨_, rfl⟩); (have hV := Lib.hid hV'); (have N1 := Lib.hid (KN.out w3 B3.out A3 c3 x V h3.rd k3.ch hV')); clear h3 k3 b3 hV' x1 x2 Y1)
          | (go_at_call 14; (with_reducible refine (N1.out).mono ?_); rintro e w4 ⟨s1', s2', rfl, b4⟩; (have B4 := Lib.hid (bthen B3.out b4)); (have O4 := Lib.hid (O3.out.up b4)); (obtain ⟨z1, z2⟩ := Y3.out.up b4); clear b4)
          | fail)
        have KF := Lib.hid (fun (W : World) (b : Below w4.heap.size w4 W) => KY.out W (bthen B4.out b) A3 c3 x (O4.out.up b).rd (by have := ch_len X3.out.ch; omega) ((hI.out x X3.out).2 ⟨n1, n2⟩))
        go_region_held3 (fun W => W.cell? ⟨w.heap.size, 0, none⟩ = some (.int .i64 a1) ∧ W.cell? ⟨w.heap.size, 1, none⟩ = some (.int .i64 b1)) (first
          | exact ⟨z1, z2⟩
          | exact ((show Bx2 w4 _ _ _ from ⟨z1, z2⟩).up D5.out)) (first
          | (go_at_call 16; (with_reducible refine (KF.out _ ((Below.refl _ _).drew)).mono ?_); rintro e w5 ⟨rfl, b5⟩; (have D5 : Hid (Below w4.heap.size w4 w5) := Lib.hid (below_undrew b5)); clear b5)
          | fail)
        have B5 := Lib.hid (bthen B4.out D5.out)
        have O5 := Lib.hid (O4.out.up D5.out)
        obtain ⟨u1, u2⟩ := (show Bx2 w4 _ _ _ from ⟨z1, z2⟩).up D5.out
        clear z1 z2 KF
        by_cases hf : Fit l0 l2 a1 b1
        · obtain ⟨t1, t2⟩ := X3.out.top l2 hf
          obtain ⟨U, hU⟩ : ∃ U, sK (iV l0) l2 = U := ⟨_, rfl⟩
          rw [hU, hV.out] at t1 t2
          have KF2 := Lib.hid (KY.out w5 B5.out A2 c2 l2 (hP2.out.up B5.out) (by omega) hf)
          have KN2 := Lib.hid (fun (W : World) (b : Below w.heap.size w W) => KN.out W b A2 c2 l2 U (hP2.out.up b) hf.1 hU)
          have hx12 := ch_len X3.out.ch
          by_cases hlt : U < V
          · clear t2 t1
            go_wp2_with (first
              | (go_at_call 16; (with_reducible refine (KF2.out).mono ?_); rintro e w6 ⟨rfl, b6⟩; (have B6 := Lib.hid (bthen B5.out b6)); clear b6 u1 u2)
              | (go_at_call 14; (with_reducible refine (KN2.out w6 B6.out).mono ?_); rintro e w7 ⟨s3', s4', rfl, b7⟩; (have B7 := Lib.hid (bthen B6.out b7)); clear b7)
              | fail)
            go_ret
            exact ⟨by simp, B7.out⟩
          · have heq : U = V := by omega
            subst heq
            have KL := Lib.hid (fun (W : World) (b : Below w5.heap.size w5 W) => (show Calls Try.prog 21 #[.slice A2 l2.length c2, .slice A3 x.length c3] W (fun e w' => e = .returned (.bool false) ∧ Below W.heap.size W w') by
              have k := less_any A2 A3 l2 x c2 c3 W (hP2.out.up (bthen B5.out b)) (O5.out.up b).rd (by omega) (by omega)
              rw [t2 rfl] at k
              exact k))
            clear t2 t1
            go_wp2_with (first
              | (go_at_call 16; (with_reducible refine (KF2.out).mono ?_); rintro e w6 ⟨rfl, b6⟩; (have D6 := Lib.hid b6); (have B6 := Lib.hid (bthen B5.out b6)); clear b6 u1 u2)
              | (go_at_call 14; (with_reducible refine (KN2.out w6 B6.out).mono ?_); rintro e w7 ⟨s3', s4', rfl, b7⟩; (have D7 := Lib.hid (bthen D6.out b7)); (have B7 := Lib.hid (bthen B6.out b7)); clear b7)
              | (go_at_call 21; (with_reducible refine (KL.out w7 D7.out).mono ?_); rintro e w8 ⟨rfl, b8⟩; (have B8 := Lib.hid (bthen B7.out b8)); clear b8)
              | fail)
            go_ret
            exact ⟨by simp, B8.out⟩
        · have KF2 := Lib.hid (KZ.out w5 B5.out A2 c2 l2 (hP2.out.up B5.out) (by omega) hf)
          go_wp2_with (first
            | (go_at_call 16; (with_reducible refine (KF2.out).mono ?_); rintro e w6 ⟨rfl, b6⟩; (have B6 := Lib.hid (bthen B5.out b6)); clear b6 u1 u2)
            | fail)
          go_ret
          exact ⟨rfl, B6.out⟩
    · have hne : (errN l0 != 0) = true := bne_iff_ne.2 h0
      have K1 := Lib.hid (fun (W : World) (b : Below w.heap.size w W) => best_err (a := a1) (b := b1) (p0.up b) q0 m0 h0 f1.out g1.out)
      generalize errN l0 = E at *
      clear p0 h0 p2
      go_enter Try.func7, Try.ntmps7
      go_wp2_with (first
        | (go_at_call 11; refine (alive_any _).mono ?_; rintro e w1 ⟨rfl, b1'⟩; (have B1 := Lib.hid (hB0.out.trans (b1'.mono hB0.out.size))); (have Y1 := Lib.hid (hX0.out.up b1')); (obtain ⟨x1, x2⟩ := Y1.out); clear b1')
        | (go_at_call 18; (with_reducible refine (K1.out _ B1.out).mono ?_); rintro e w3 ⟨A3, c3, rfl, b3⟩; (have B3 := Lib.hid (bthen B1.out b3)); clear b3)
        | fail)
      go_ret
      exact ⟨rfl, B3.out⟩
  · have h40' : (40 : Int) < (l2.length : Int) := by omega
    clear p0 p2 h40
    go_enter Try.func7, Try.ntmps7
    go_wp2_with (go_at_call 11; refine (alive_any _).mono ?_; rintro e w1 ⟨rfl, b1'⟩; (have B1 := Lib.hid (hB0.out.trans (b1'.mono hB0.out.size))); (have Y1 := Lib.hid (hX0.out.up b1')); (obtain ⟨x1, x2⟩ := Y1.out); clear b1')
    go_ret
    exact ⟨rfl, B1.out⟩

set_option maxRecDepth 100000 in
theorem lifted (os : Os) (started : os.Started) (H : Type) (enc : TypeId × Value → H) :
    ReturnsInHanded {} Try.checked os 7 .any (Rows.chooseBestSpec.pre6 enc Try.prog Try.f7 Rows.chooseBestRow.domain false) (Rows.chooseBestSpec.post enc Try.prog Try.f7 false true false false) := by
  refine returnsInHanded_of_change (C := Try.checked) own started (by kernel_rfl) Try.func7
    (ChangeSpec.witness6 (enc := enc) (C := Try.checked) false ⟨#[], #[.slice none 0 0, .agg #[.int .i64 0, .int .i64 0], .slice none 0 0], []⟩ 8 (by kernel_rfl) (by kernel_rfl) (by kernel_rfl) (by kernel_rfl)) ?_
  intro W base args ds gs before hval0 hW _ _
  have hval : ∀ (j : Nat) t v, Try.f7.params[j]? = some t → args[j]? = some v → Value.okWide Try.prog W .any base t v := hval0
  have hW0 := hW
  obtain ⟨p, q, hA0, hV, rfl, hfz, hnd⟩ := hW
  have hA : DataW.TrodAll enc Try.prog W 0 (fun _ => true) true Try.f7.params.toList args.toList ds p := hA0
  rw [Try.params7] at hA hval
  obtain ⟨v0, vs0, d0, ds0, p0, q0, hargs, rfl, rfl, h0, r0⟩ := trodAll_cons hA
  obtain ⟨v1, vs1, d1, ds1, p1, q1, rfl, rfl, rfl, h1, r1⟩ := trodAll_cons r0
  obtain ⟨v2, vs2, d2, ds2, p2, q2, rfl, rfl, rfl, h2, r2⟩ := trodAll_cons r1
  obtain ⟨rfl, rfl, rfl⟩ := trodAll_nil r2
  obtain rfl : args = #[v0, v1, v2] := by cases args; simp_all
  obtain ⟨A0, c0, l0, rfl, y0, x0, z0⟩ := open_its h0 (okWide_slice Try.underlying22 (hval 0 22 v0 rfl rfl))
  obtain ⟨a1, b1, rfl, u1, z1⟩ := open_pair (k := .i64) Try.underlying36 Try.underlying3 (by kernel_rfl) (by kernel_rfl) (hval 1 36 v1 rfl rfl) h1
  obtain ⟨A2, c2, l2, rfl, y2, z2, u2⟩ := open_is_rd h2 (okWide_slice Try.underlying27 (hval 2 27 v2 rfl rfl))
  refine (walk A0 l0 c0 a1 b1 A2 l2 c2 W y0 x0 z0 (Lib.hid (i64_bounds u1)) (Lib.hid (i64_bounds z1)) y2 z2 (Lib.hid u2)).mono fun e W' ⟨h1, h2⟩ => ?_
  subst h1
  exact ⟨_, rfl, law_post laidOut (by kernel_rfl) Try.underlying4 rfl (by kernel_rfl) hW0 rfl h2⟩

theorem said : Rows.ChooseBestSaid :=
  OpenClaim.holds_of_wide 7 Try.f7 rfl rfl rfl rfl rfl rfl rfl ⟨rfl, rfl, rfl, rfl, rfl⟩ rfl rfl rfl rfl rfl (by kernel_rfl) Try.func7 (by kernel_rfl)
    (of_decide_eq_true (by kernel_rfl)) (by unfold Func.isWrapper; first | (rw [if_pos (by decide +kernel)]; kernel_rfl) | (rw [if_neg (by decide +kernel)]; exact ⟨rfl, rfl⟩))
    (fun os started H enc _ => lifted os started H enc)
end Go.Proofs.Ytjbfkbdjopbjjaa.lawBest
