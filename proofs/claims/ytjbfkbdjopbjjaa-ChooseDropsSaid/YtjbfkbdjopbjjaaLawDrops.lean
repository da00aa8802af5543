/-
  The law ChooseDrops of the program holds: for every input that its row admits the call returns true, and the arguments read as before. Conditions: those of the row alone.
-/
import Derived.Test.YtjbfkbdjopbjjaaStep
namespace Go.Proofs.Ytjbfkbdjopbjjaa.lawDrops
open Go.ChangeShapes Go.WideShapes Go.ChangeAt Go.RowKit

set_option maxRecDepth 100000 in
set_option maxHeartbeats 8000000 in
theorem walk (A0 : Option Addr) (l0 : List It) (c0 : Nat) (a1 b1 : Int) (a2 : Int) (w : World) (m0 : l0.length ≤ 9223372036854775807) (q0 : l0.length ≤ c0) (p0 : Its w w.heap.size A0 l0) (f1 : Hid (-9223372036854775808 ≤ a1 ∧ a1 ≤ 9223372036854775807)) (g1 : Hid (-9223372036854775808 ≤ b1 ∧ b1 ≤ 9223372036854775807)) (f2 : Hid (0 ≤ a2 ∧ a2 ≤ 255)) :
    Calls Try.prog 10 #[.slice A0 l0.length c0, .agg #[.int .i64 a1, .int .i64 b1], .int .u8 a2] w fun e w' => e = .returned (.bool true) ∧ Below w.heap.size w w' := by
  have hB0 : Hid (Below w.heap.size w (w.alloc (.cells #[.int .i64 a1, .int .i64 b1] 36))) := Lib.hid (below_new w _)
  have hX0 : Hid (Bx2 (w.alloc (.cells #[.int .i64 a1, .int .i64 b1] 36)) w.heap.size (.int .i64 a1) (.int .i64 b1)) := Lib.hid (bx2_new w _ _ _)
  by_cases h0 : errN l0 = 0
  · have hrt := errN_iff.1 h0
    have hr12 := hrt.1
    have K1 := Lib.hid (fun (W : World) (b : Below w.heap.size w W) => best_ok (a := a1) (b := b1) (p0.up b) q0 hrt f1.out g1.out)
    by_cases hn0 : l0.length = 0
    · obtain rfl : l0 = [] := List.eq_nil_of_length_eq_zero hn0
      clear p0 h0 hrt hn0
      simp only [List.length_nil] at K1
      go_enter Try.func10, Try.ntmps10
      go_wp2_with (first
        | (go_at_call 11; refine (alive_any _).mono ?_; rintro e w1 ⟨rfl, b1'⟩; (have B1 := Lib.hid (hB0.out.trans (b1'.mono hB0.out.size))); (have Y1 := Lib.hid (hX0.out.up b1')); (obtain ⟨x1, x2⟩ := Y1.out); clear b1')
        | (go_at_call 18; (with_reducible refine (K1.out _ B1.out).mono ?_); rintro e w3 ⟨A3, c3, x, rfl, h3, k3, b3⟩; (obtain rfl : x = [] := List.eq_nil_of_length_eq_zero (by have := ch_len k3.ch; simpa using this)); (have B3 := Lib.hid (bthen B1.out b3)); clear h3 k3 b3 x1 x2)
        | fail)
      go_ret
      exact ⟨rfl, B3.out⟩
    · obtain ⟨ad, rfl, _, _⟩ := p0 (by omega)
      have hP := Lib.hid p0
      obtain ⟨s1, s2⟩ := f2.out
      have hz : ((l0.length : Int) == 0) = false := beq_eq_false_iff_ne.2 (by omega)
      have hpos : (0 : Int) < (l0.length : Int) := by omega
      obtain ⟨kk, hkk⟩ : ∃ kk : Nat, a2.toNat % l0.length = kk := ⟨_, rfl⟩
      have hkl : kk < l0.length := by rw [← hkk]; exact Nat.mod_lt _ (by omega)
      have hrm : Int.tmod a2 (l0.length : Int) = (kk : Int) := by
        have e3 : a2 = ((a2.toNat : Nat) : Int) := by omega
        rw [← hkk, Int.tmod_eq_emod_of_nonneg s1, e3, Int.toNat_natCast]
        exact (Int.natCast_emod _ _).symm
      obtain ⟨L2, hL2⟩ : ∃ L, drop1 l0 kk = L := ⟨_, rfl⟩
      have hl2 : L2.length + 1 = l0.length := by rw [← hL2]; exact drop1_len hkl
      have hrt2 : Rt L2 := by rw [← hL2]; exact rt_drop hrt
      have hD := Lib.hid (fun (x : List Int) (hx : Bst l0 a1 b1 x) (hn : (kk : Int) ∉ x) => (show Bst L2 a1 b1 (x.map (downI kk)) by rw [← hL2]; exact hx.drops hrt hkl hn))
      have K2 := Lib.hid (fun (A : Option Addr) (c base : Nat) (W : World) (ho : OwnT W base A c L2) => best_ok (a := a1) (b := b1) (w := W) ho.its ho.cap hrt2 f1.out g1.out)
      obtain ⟨T1, hT1⟩ : ∃ T, l0.take kk = T := ⟨_, rfl⟩
      obtain ⟨T2, hT2⟩ : ∃ T, l0.drop (kk + 1) = T := ⟨_, rfl⟩
      have e1 : T1.length = kk := by rw [← hT1, List.length_take]; omega
      have e2 : T2.length + (kk + 1) = l0.length := by rw [← hT2, List.length_drop]; omega
      have hJ : Hid (T1 ++ T2 = L2) := Lib.hid (by rw [← hT1, ← hT2, ← hL2]; rfl)
      have hE1 := Lib.hid e1
      have hE2 := Lib.hid e2
      have hHl := Lib.hid hl2
      have F1 := Lib.hid (fun (W : World) (b : Below w.heap.size w W) => feed_take (c := c0) (hP.out.up b) (by omega) hT1 rfl e1)
      have F2 := Lib.hid (fun (W : World) (b : Below w.heap.size w W) (ad' : Addr) (c : Nat) (q : Nat) (hq : q = T2.length) (h : T2.length = 0 ∨ ad' = ad.add ((kk + 1) * 3)) => feed_drop (c := c) (hP.out.up b) (by omega) hT2 rfl hq h)
      clear p0 h0 hrt hrt2 hL2 hT1 hT2 hkk e1 e2 hl2
      go_enter Try.func10, Try.ntmps10
      go_wp2_with (first
        | (go_at_call 11; refine (alive_any _).mono ?_; rintro e w1 ⟨rfl, b1'⟩; (have B1 := Lib.hid (hB0.out.trans (b1'.mono hB0.out.size))); (have Y1 := Lib.hid (hX0.out.up b1')); (obtain ⟨x1, x2⟩ := Y1.out); clear b1')
        | (go_at_call 18; (with_reducible refine (K1.out _ B1.out).mono ?_); rintro e w3 ⟨A3, c3, x, rfl, h3, k3, b3⟩; (have B3 := Lib.hid (bthen B1.out b3)); (have O3 := Lib.hid h3); (have X3 := Lib.hid k3); (have Y3 := Lib.hid (Y1.out.up b3)); (have hx12 : x.length ≤ 12 := by have := ch_len k3.ch; omega); clear h3 k3 b3 x1 x2 Y1)
        | fail)
      have hxb := Lib.hid X3.out.ch.2
      go_loopw [10, 11] (fun v10 v11 wr => ∃ (i q c10 : Nat) (A10 : Option Addr) (D : List Int), i ≤ x.length ∧ v11 = .int .i64 i ∧ v10 = .slice A10 q c10 ∧ Hid (q = D.length) ∧ Hid (D = (x.take i).map (downI kk)) ∧ Hid ((kk : Int) ∉ x.take i) ∧ Hid (OwnI wr w3.heap.size A10 c10 D) ∧ Hid (Below w3.heap.size w3 wr)) (fun _ v11 _ => x.length - (intOf v11).toNat)
      case atStart => exact ⟨0, 0, 0, none, [], by omega, rfl, rfl, Lib.hid rfl, Lib.hid rfl, Lib.hid (by simp), Lib.hid (ownI_nil _ _), Lib.hid (Below.refl _ _)⟩
      case round =>
        obtain ⟨i, q, c10, A10, D, hi, rfl, rfl, hq, hDD, hN, hO, hB⟩ := hrel
        obtain rfl := hq.out
        by_cases hlt : i < x.length
        · obtain ⟨ad3, rfl, _, c1⟩ := (O3.out.rd.below hB.out).get (cellsI_ix hlt)
          have hDl : D.length ≤ 12 := by rw [hDD.out, List.length_map, List.length_take]; omega
          have hxi := hxb.out (ix x i) (by rw [ix_at hlt]; exact List.getElem_mem hlt)
          have hdn := Lib.hid (down_next (k := kk) hlt)
          have hnx := Lib.hid (fun h2 => out_next hlt hN.out h2)
          have hhi := Lib.hid (fun h => down_hi (k := kk) (y := ix x i) h)
          have hlo := Lib.hid (fun h => down_lo (k := kk) (y := ix x i) h)
          clear K1 K2 hD hJ hE1 hE2 F1 F2 hxb hP hN X3
          generalize ix x i = y at *
          by_cases hi0 : i = 0
          · subst hi0
            have c1 : wr.cell? ad3 = some (.int .i64 y) := c1
            by_cases hy : y = (kk : Int)
            · have h1 : (y == (kk : Int)) = true := beq_iff_eq.2 hy
              clear hy
              go_wp2
              go_ret
              exact ⟨by simp, bthen B3.out hB.out⟩
            · have h1 : (y == (kk : Int)) = false := beq_eq_false_iff_ne.2 hy
              have hN2 := Lib.hid (hnx.out hy)
              by_cases hgt : (kk : Int) < y
              · have hD2 : Hid (D ++ [y - 1] = (x.take (0 + 1)).map (downI kk)) := Lib.hid (by rw [hdn.out, ← hDD.out, hhi.out hgt])
                clear hy hdn hnx hhi hlo
                go_wp2_with (at_builtin; refine wpList_app_int rfl (.tmp 59) (.tmp 65) rfl (by rfl) (by rfl) hO.out hB.out (Nat.le_refl _) (by omega) ?_; intro A5 c5 w5 h5 b5; (have O5 := Lib.hid h5); (have B5 := Lib.hid b5); clear h5 b5)
                exact ⟨⟨1, _, c5, A5, D ++ [y - 1], by omega, rfl, rfl, Lib.hid (by rw [List.length_append]; rfl), hD2, hN2, O5, B5⟩, by simp [intOf]; omega⟩
              · have hD2 : Hid (D ++ [y] = (x.take (0 + 1)).map (downI kk)) := Lib.hid (by rw [hdn.out, ← hDD.out, hlo.out hgt])
                clear hy hdn hnx hhi hlo
                go_wp2_with (at_builtin; refine wpList_app_int rfl (.tmp 67) (.tmp 72) rfl (by rfl) (by rfl) hO.out hB.out (Nat.le_refl _) (by omega) ?_; intro A5 c5 w5 h5 b5; (have O5 := Lib.hid h5); (have B5 := Lib.hid b5); clear h5 b5)
                exact ⟨⟨1, _, c5, A5, D ++ [y], by omega, rfl, rfl, Lib.hid (by rw [List.length_append]; rfl), hD2, hN2, O5, B5⟩, by simp [intOf]; omega⟩
          · skip
            by_cases hy : y = (kk : Int)
            · have h1 : (y == (kk : Int)) = true := beq_iff_eq.2 hy
              clear hy
              go_wp2
              go_ret
              exact ⟨by simp, bthen B3.out hB.out⟩
            · have h1 : (y == (kk : Int)) = false := beq_eq_false_iff_ne.2 hy
              have hN2 := Lib.hid (hnx.out hy)
              by_cases hgt : (kk : Int) < y
              · have hD2 : Hid (D ++ [y - 1] = (x.take (i + 1)).map (downI kk)) := Lib.hid (by rw [hdn.out, ← hDD.out, hhi.out hgt])
                clear hy hdn hnx hhi hlo
                go_wp2_with (at_builtin; refine wpList_app_int rfl (.tmp 59) (.tmp 65) rfl (by rfl) (by rfl) hO.out hB.out (Nat.le_refl _) (by omega) ?_; intro A5 c5 w5 h5 b5; (have O5 := Lib.hid h5); (have B5 := Lib.hid b5); clear h5 b5)
                exact ⟨⟨i + 1, _, c5, A5, D ++ [y - 1], by omega, by go_num, rfl, Lib.hid (by rw [List.length_append]; rfl), hD2, hN2, O5, B5⟩, by simp [intOf]; omega⟩
              · have hD2 : Hid (D ++ [y] = (x.take (i + 1)).map (downI kk)) := Lib.hid (by rw [hdn.out, ← hDD.out, hlo.out hgt])
                clear hy hdn hnx hhi hlo
                go_wp2_with (at_builtin; refine wpList_app_int rfl (.tmp 67) (.tmp 72) rfl (by rfl) (by rfl) hO.out hB.out (Nat.le_refl _) (by omega) ?_; intro A5 c5 w5 h5 b5; (have O5 := Lib.hid h5); (have B5 := Lib.hid b5); clear h5 b5)
                exact ⟨⟨i + 1, _, c5, A5, D ++ [y], by omega, by go_num, rfl, Lib.hid (by rw [List.length_append]; rfl), hD2, hN2, O5, B5⟩, by simp [intOf]; omega⟩
        · obtain rfl : i = x.length := by omega
          have hDD2 : D = x.map (downI kk) := by have := hDD.out; rwa [List.take_length] at this
          have hN2 : (kk : Int) ∉ x := by have := hN.out; rwa [List.take_length] at this
          have hBs := Lib.hid (hD.out x X3.out hN2)
          have hDl : D.length ≤ 12 := by rw [hDD2, List.length_map]; omega
          rw [← hDD2] at hBs
          have hBW := Lib.hid (bthen B3.out hB.out)
          have hEa : Hid (OwnT ((wr.alloc (.cells #[] 42)).drew) wr.heap.size (some ⟨wr.heap.size, 0, none⟩) 0 []) := Lib.hid (ownT_empty wr (Nat.le_refl _))
          have hFa := Lib.hid (F1.out ((wr.alloc (.cells #[] 42)).drew) (bthen hBW.out (below_new wr _).drew))
          have hq0 : IntKind.i64.wrap ((kk : Int) + 1) = (kk : Int) + 1 := IntWalk.i64_in _ (by omega)
          have hq1 : (0 : Int) ≤ (kk : Int) := by omega
          have hq2 : (kk : Int) ≤ (c0 : Int) := by omega
          have hq3 : (0 : Int) ≤ (kk : Int) + 1 := by omega
          have hq4 : (kk : Int) + 1 ≤ (l0.length : Int) := by omega
          have hq5 : (l0.length : Int) ≤ (c0 : Int) := by omega
          have hq6 : ((kk : Int) + 1).toNat = kk + 1 := by omega
          have hq7 : (kk : Int) ≤ (l0.length : Int) := by omega
          have hq8 : ¬ c0 = 0 := by omega
          clear hDD hN hDD2 hN2 hxb X3 hD K1 F1 hP hrm hz
          obtain rfl := hE1.out
          have hT2 := hE2.out
          have F3 : Hid (∀ W : World, Below w.heap.size w W → Feed 3 W (.slice (if c0 = T1.length + 1 then some ad else some (ad.add ((T1.length + 1) * 3))) (l0.length - (T1.length + 1)) (c0 - (T1.length + 1))) T2.length (cellsT T2)) := Lib.hid (fun W b => by
            split
            · exact F2.out W b _ _ _ (by omega) (.inl (by omega))
            · exact F2.out W b _ _ _ (by omega) (.inr rfl))
          clear F2
          go_wp2
          go_region_held3 (fun _ => True) (trivial) (first
            | (refine step_app_T _ rfl (.tmp 74) (.tmp 77) rfl (l := []) (m := T1) (k := T1.length) rfl rfl hEa.out hFa.out (by simp) (by omega) (below_new wr _).size ?_; intro A5 c5 w5 h5 g5; (have O5 := Lib.hid (show OwnT w5 wr.heap.size A5 c5 T1 from h5)); (have B5 := Lib.hid (below_grown (below_new wr _).drew hEa.out g5 (Nat.le_refl _) (below_new wr _).size)); clear h5 g5)
            | (refine step_app_T _ rfl (.tmp 78) (.tmp 82) rfl (l := T1) (m := T2) (k := L2.length) rfl rfl O5.out (F3.out w5 (bthen hBW.out B5.out)) (by rw [← hJ.out, List.length_append]) (by have := hHl.out; omega) B5.out.size ?_; intro A6 c6 w6 h6 g6; (have O6 := Lib.hid (show OwnT w6 wr.heap.size A6 c6 L2 by rw [← hJ.out]; exact h6)); (have B6 := Lib.hid (below_grown B5.out O5.out g6 (Nat.le_refl _) B5.out.size)); clear h6 g6)
            | fail)
          have B7 := Lib.hid (bthen hB.out B6.out)
          have P6 := Lib.hid (hO.out.up B6.out)
          obtain ⟨x1, x2⟩ := Y3.out.up B7.out
          clear hq0 hq1 hq2 hq3 hq4 hq5 hq6 hq7 hq8 F3 hEa hFa hT2 B5 O5
          go_wp2_with (first
            | (go_at_call 18; (with_reducible refine (K2.out A6 c6 _ w6 O6.out).mono ?_); rintro e w8 ⟨A8, c8, y, rfl, h8, k8, b8⟩; (have hy := k8.unique hBs.out); subst hy; (have KS := Lib.hid (same_self h8.rd (P6.out.up b8).rd (by omega))); (have B8 := Lib.hid (bthen B7.out b8)); clear h8 k8 b8 x1 x2)
            | (go_at_call 20; (with_reducible refine (KS.out).mono ?_); rintro e w9 ⟨rfl, b9⟩; (have B9 := Lib.hid (bthen B8.out b9)); clear b9)
            | fail)
          all_goals
            go_ret
            exact ⟨by simp, bthen B3.out B9.out⟩
  · have hne : (errN l0 != 0) = true := bne_iff_ne.2 h0
    have K1 := Lib.hid (fun (W : World) (b : Below w.heap.size w W) => best_err (a := a1) (b := b1) (p0.up b) q0 m0 h0 f1.out g1.out)
    generalize errN l0 = E at *
    clear p0 h0
    go_enter Try.func10, Try.ntmps10
    go_wp2_with (first
      | (go_at_call 11; refine (alive_any _).mono ?_; rintro e w1 ⟨rfl, b1'⟩; (have B1 := Lib.hid (hB0.out.trans (b1'.mono hB0.out.size))); (have Y1 := Lib.hid (hX0.out.up b1')); (obtain ⟨x1, x2⟩ := Y1.out); clear b1')
      | (go_at_call 18; (with_reducible refine (K1.out _ B1.out).mono ?_); rintro e w3 ⟨A3, c3, rfl, b3⟩; (have B3 := Lib.hid (bthen B1.out b3)); clear b3)
      | fail)
    go_ret
    exact ⟨rfl, B3.out⟩

set_option maxRecDepth 100000 in
theorem lifted (os : Os) (started : os.Started) (H : Type) (enc : TypeId × Value → H) :
    ReturnsInHanded {} Try.checked os 10 .any (Rows.chooseDropsSpec.pre6 enc Try.prog Try.f10 Rows.chooseDropsRow.domain false) (Rows.chooseDropsSpec.post enc Try.prog Try.f10 false true false false) := by
  refine returnsInHanded_of_change (C := Try.checked) own started (by kernel_rfl) Try.func10
    (ChangeSpec.witness6 (enc := enc) (C := Try.checked) false ⟨#[], #[.slice none 0 0, .agg #[.int .i64 0, .int .i64 0], .int .u8 0], []⟩ 8 (by kernel_rfl) (by kernel_rfl) (by kernel_rfl) (by kernel_rfl)) ?_
  intro W base args ds gs before hval0 hW _ _
  have hval : ∀ (j : Nat) t v, Try.f10.params[j]? = some t → args[j]? = some v → Value.okWide Try.prog W .any base t v := hval0
  have hW0 := hW
  obtain ⟨p, q, hA0, hV, rfl, hfz, hnd⟩ := hW
  have hA : DataW.TrodAll enc Try.prog W 0 (fun _ => true) true Try.f10.params.toList args.toList ds p := hA0
  rw [Try.params10] at hA hval
  obtain ⟨v0, vs0, d0, ds0, p0, q0, hargs, rfl, rfl, h0, r0⟩ := trodAll_cons hA
  obtain ⟨v1, vs1, d1, ds1, p1, q1, rfl, rfl, rfl, h1, r1⟩ := trodAll_cons r0
  obtain ⟨v2, vs2, d2, ds2, p2, q2, rfl, rfl, rfl, h2, r2⟩ := trodAll_cons r1
  obtain ⟨rfl, rfl, rfl⟩ := trodAll_nil r2
  obtain rfl : args = #[v0, v1, v2] := by cases args; simp_all
  obtain ⟨A0, c0, l0, rfl, y0, x0, z0⟩ := open_its h0 (okWide_slice Try.underlying22 (hval 0 22 v0 rfl rfl))
  obtain ⟨a1, b1, rfl, u1, z1⟩ := open_pair (k := .i64) Try.underlying36 Try.underlying3 (by kernel_rfl) (by kernel_rfl) (hval 1 36 v1 rfl rfl) h1
  obtain ⟨a2, rfl, _, _, u2⟩ := open_int Try.underlying5 (hval 2 5 v2 rfl rfl) h2
  refine (walk A0 l0 c0 a1 b1 a2 W y0 x0 z0 (Lib.hid (i64_bounds u1)) (Lib.hid (i64_bounds z1)) (Lib.hid ((Lit.wf_int_iff .u8 a2).1 u2))).mono fun e W' ⟨h1, h2⟩ => ?_
  subst h1
  exact ⟨_, rfl, law_post laidOut (by kernel_rfl) Try.underlying4 rfl (by kernel_rfl) hW0 rfl h2⟩

theorem said : Rows.ChooseDropsSaid :=
  OpenClaim.holds_of_wide 10 Try.f10 rfl rfl rfl rfl rfl rfl rfl ⟨rfl, rfl, rfl, rfl, rfl⟩ rfl rfl rfl rfl rfl (by kernel_rfl) Try.func10 (by kernel_rfl)
    (of_decide_eq_true (by kernel_rfl)) (by unfold Func.isWrapper; first | (rw [if_pos (by decide +kernel)]; kernel_rfl) | (rw [if_neg (by decide +kernel)]; exact ⟨rfl, rfl⟩))
    (fun os started H enc _ => lifted os started H enc)
end Go.Proofs.Ytjbfkbdjopbjjaa.lawDrops
