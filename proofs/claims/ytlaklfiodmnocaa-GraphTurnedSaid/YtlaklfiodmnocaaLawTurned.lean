/-
  The law GraphTurned of the program holds: for every input that its row admits the call returns true, and the arguments read as before. Conditions: those of the row alone.
-/
import Derived.Test.YtlaklfiodmnocaaTwo
namespace Go.Proofs.Ytlaklfiodmnocaa.lawTurned
open Go.ChangeShapes Go.WideShapes Go.ChangeAt Go.RowKit

set_option maxRecDepth 100000 in
set_option maxHeartbeats 8000000 in
theorem walk (A0 : Option Addr) (l0 : List Ed) (c0 : Nat) (a1 : Int) (a2 : Int) (w : World) (m0 : l0.length ≤ 9223372036854775807) (p0 : Es w w.heap.size A0 l0) (f1 : Hid ((Lit.int .i64 a1).wf = true)) (f2 : Hid ((Lit.int .i64 a2).wf = true)) :
    Calls Try.prog 9 #[.slice A0 l0.length c0, .int .i64 a1, .int .i64 a2] w fun e w' => e = .returned (.bool true) ∧ Below w.heap.size w w' := by
  have kR := fun (W : World) (b : Below w.heap.size w W) => right_any A0 l0 c0 W (p0.up b) m0
  by_cases hr : rightN l0 = 0
  · have hg := right_iff.1 hr
    rw [decide_eq_true hr] at kR
    have kR := Lib.hid kR
    clear hr
    have kS1 := fun (W : World) (b : Below w.heap.size w W) => gShortest_any A0 l0 c0 a1 a2 W (p0.up b) hg
    have hgt := turn_grph hg
    have kS2 := fun (W : World) (A : Option Addr) (c : Nat) (h : Es W W.heap.size A (l0.map turn)) => gShortest_any A (l0.map turn) c a2 a1 W h hgt
    have kB := fun (W : World) (B : Option Addr) (d : Nat) (b : Below w.heap.size w W) (h : Rd W W.heap.size B d (cellsI [a1, a2])) => gBack_any A0 B l0 [a1, a2] c0 d W (p0.up b) h hg (by simp) (wfl2 f1.out f2.out)
    have kT := fun (W : World) (A : Option Addr) (c : Nat) (B : Option Addr) (d : Nat) (h1 : Es W W.heap.size A (l0.map turn)) (h : Rd W W.heap.size B d (cellsI [a2, a1, a2])) => gReach_any A B (l0.map turn) [a2, a1, a2] c d W h1 h hgt (by simp) (wfl3 f2.out f1.out f2.out)
    have kX := fun (W : World) (B : Option Addr) (d : Nat) (b : Below w.heap.size w W) (h : Rd W W.heap.size B d (cellsI [a1])) => gReach_any A0 B l0 [a1] c0 d W (p0.up b) h hg (by simp) (wfl1 f1.out)
    have kY := fun (W : World) (B : Option Addr) (d : Nat) (b : Below w.heap.size w W) (h : Rd W W.heap.size B d (cellsI [a2])) => gReach_any A0 B l0 [a2] c0 d W (p0.up b) h hg (by simp) (wfl1 f2.out)
    have kZ := fun (W : World) (B : Option Addr) (d : Nat) (b : Below w.heap.size w W) (h : Rd W W.heap.size B d (cellsI [a1, a2])) => gReach_any A0 B l0 [a1, a2] c0 d W (p0.up b) h hg (by simp) (wfl2 f1.out f2.out)
    unfold ShPost at kS1 kS2
    rw [(sh_turned hg a1 a2).1, (sh_turned hg a1 a2).2] at kS2
    rw [← back_turned] at kT
    simp only [List.length_map] at kS2 kT
    unfold MadeI' at kB kT kX kY kZ
    simp only [List.length_cons, List.length_nil, Nat.zero_add, Nat.reduceAdd] at kB kT kX kY kZ
    have hq1 : Hid ((backL l0 [a1, a2]).length ≤ 1000) := Lib.hid (by have h1 := back_len l0 [a1, a2]; have := hg.1; simp only [List.length_cons, List.length_nil] at h1; omega)
    have hq2 : Hid ((reachL l0 [a1]).length ≤ 1000) := Lib.hid (by have h1 := reach_len l0 [a1]; have := hg.1; simp only [List.length_cons, List.length_nil] at h1; omega)
    have hq3 : Hid ((reachL l0 [a2]).length ≤ 1000) := Lib.hid (by have h1 := reach_len l0 [a2]; have := hg.1; simp only [List.length_cons, List.length_nil] at h1; omega)
    have hq4 : Hid ((reachL l0 [a1, a2]).length ≤ 1000) := Lib.hid (by have h1 := reach_len l0 [a1, a2]; have := hg.1; simp only [List.length_cons, List.length_nil] at h1; omega)
    have hM := Lib.hid (fun x => mem_reach2 (l := l0) (a := a1) (b := a2) (x := x))
    have hI := Lib.hid (reach_inc l0 [a1, a2])
    have hP := Lib.hid p0
    have hl200 := hg.1
    have hTT : Hid ((l0.take l0.length).map turn = l0.map turn) := Lib.hid (by rw [List.take_length])
    have hT0 : Hid ((l0.take 0).map turn = []) := Lib.hid rfl
    have hTN := Lib.hid (fun k (h : k < l0.length) => turn_take h)
    generalize backL l0 [a1, a2] = q at *
    generalize reachL l0 [a1] = x at *
    generalize reachL l0 [a2] = y at *
    generalize reachL l0 [a1, a2] = z at *
    generalize shP l0 a1 a2 = r1 at *
    generalize shP (l0.map turn) a2 a1 = r2 at *
    generalize shC l0 a1 a2 = n at *
    generalize shK l0 a1 a2 = yk at *
    generalize l0.map turn = tt at *
    have KS1 := Lib.hid kS1
    have KS2 := Lib.hid kS2
    have KB := Lib.hid kB
    have KT := Lib.hid kT
    have KX := Lib.hid kX
    have KY := Lib.hid kY
    have KZ := Lib.hid kZ
    clear kS1 kS2 kB kT kX kY kZ p0 hg hgt
    go_enter Try.func9, Try.ntmps9
    go_wp2_with (first
      | (go_at_call 11; refine (alive_any _).mono ?_; rintro e w1 ⟨rfl, b1⟩; (have B1 := Lib.hid b1); clear b1)
      | (go_at_call 14; (with_reducible refine ((kR.out w1 B1.out)).mono ?_); rintro e w2 ⟨rfl, b2⟩; (have D2 := Lib.hid b2); (have B2 := Lib.hid (bthen B1.out b2)); clear b2)
      | fail)
    go_loopw [7, 8] (fun v i wr => ∃ (k : Nat) (A' : Option Addr) (c' : Nat) (o : List Ed), k ≤ l0.length ∧ o.length = k ∧ i = .int .i64 k ∧ v = .slice A' o.length c' ∧ Hid (OwnE wr w.heap.size A' c' o) ∧ Hid (Below w.heap.size w wr) ∧ Hid ((l0.take k).map turn = o)) (fun _ i _ => l0.length - (intOf i).toNat)
    case atStart => exact ⟨0, none, 0, [], by omega, rfl, rfl, rfl, Lib.hid (ownE_nil _ _), B2, hT0⟩
    case round =>
      obtain ⟨k, A', c', o, hk, hok, rfl, rfl, hO, hB, hT⟩ := hrel
      by_cases hlt : k < l0.length
      · obtain ⟨ad, rfl, hab, cc⟩ := hP.out.get hlt
        have hC := Lib.hid (fun (wr2 : World) (h : Below w.heap.size w wr2) => cc.keep (by rw [block_of_add]; exact hab) (fun q hq => h.cell hq))
        obtain ⟨x0, x1, x2, x3⟩ := hC.out wr hB.out
        have hN := hTN.out k hlt
        rw [hT.out] at hN
        have hN := Lib.hid hN
        generalize eI l0 k = y0 at *
        generalize eF l0 k = y1 at *
        generalize eT l0 k = y2 at *
        generalize eC l0 k = y3 at *
        have hol : o.length ≤ 1000000000 := by omega
        have hOk := Lib.hid hok
        clear cc hT hP hok hTT hTN hT0 KS1 KS2 KB KT KX KY KZ hM hI B2 hq1 hq2 hq3 hq4
        go_wp2
        go_region_held3 (fun w' => w'.cell? (ad.add (k * 4)) = some (.int .i64 y0) ∧ w'.cell? { block := (ad.add (k * 4)).block, off := (ad.add (k * 4)).off + 1 } = some (.int .i64 y1) ∧ w'.cell? { block := (ad.add (k * 4)).block, off := (ad.add (k * 4)).off + 2 } = some (.int .i64 y2) ∧ w'.cell? { block := (ad.add (k * 4)).block, off := (ad.add (k * 4)).off + 3 } = some (.int .i64 y3))
          (first
            | exact ⟨x0, x1, x2, x3⟩
            | exact hC.out _ D3.out
            | exact hC.out _ (Below.drew (hB.out.alloc hB.out.size _))
            | go_keep)
          ((refine step_app_ed (by rfl) _ _ (by rfl) ⟨y0, y2, y1, y3⟩ (by rfl) (by rfl) hO.out hB.out (Nat.le_refl _) hol ?_; intro gg c3 w3 h3 d3; (have H3 := Lib.hid h3); (have D3 := Lib.hid d3); clear h3 d3))
        go_wp2
        exact ⟨⟨k + 1, _, c3, _, by omega, by rw [List.length_append, hOk.out]; rfl, by go_num, by rw [List.length_append]; rfl, H3, D3, hN⟩, by simp [intOf]; omega⟩
      · obtain rfl : k = l0.length := by omega
        obtain rfl : o = tt := hT.out.symm.trans hTT.out
        have E := Lib.hid hO.out.es
        have B0 := hB
        clear hT hTT hT0 hTN hO hP hB B2
        go_wp2_with (first
          | (go_at_call 22; (with_reducible refine (KS1.out wr B0.out).mono ?_); rintro e w3 ⟨A3', c3', rfl, _, b3⟩; (have E3 := Lib.hid (E.out.up b3)); (have B3 := Lib.hid (bthen B0.out b3)); clear b3)
          | (go_at_call 22; (with_reducible refine (KS2.out w3 _ _ E3.out).mono ?_); rintro e w4 ⟨A4', c4', rfl, _, b4⟩; (have E4 := Lib.hid (E3.out.up b4)); (have B4 := Lib.hid (bthen B3.out b4)); clear b4)
          | (go_at_call 18; (with_reducible refine (KB.out (w4.alloc _) _ _ (balloc B4.out _) ?_).mono ?_); (exact rd_lit (cs := #[.int .i64 a1, .int .i64 a2]) rfl rfl rfl); rintro e w5 ⟨A5', c5', rfl, h5, b5⟩; (have d5 : Below w4.heap.size w4 w5 := (balloc (Below.refl w4.heap.size w4) _).trans (b5.mono (by simp))); (have H5 := Lib.hid h5.rd); (have B5 := Lib.hid (bthen B4.out d5)); (have E5 := Lib.hid (E4.out.up d5)); clear h5 b5 d5)
          | (go_at_call 16; (with_reducible refine (KT.out (w5.alloc _) _ _ _ _ (E5.out.up (balloc (Below.refl _ _) _)) ?_).mono ?_); (exact rd_lit (cs := #[.int .i64 a2, .int .i64 a1, .int .i64 a2]) rfl rfl rfl); rintro e w6 ⟨A6', c6', rfl, h6, b6⟩; (have d6 : Below w5.heap.size w5 w6 := (balloc (Below.refl w5.heap.size w5) _).trans (b6.mono (by simp))); (have H6 := Lib.hid h6.rd); (have B6 := Lib.hid (bthen B5.out d6)); (have J5 := Lib.hid (H5.out.up d6)); clear h6 b6 d6)
          | (go_at_call 15; (with_reducible refine (same_eq J5.out H6.out hq1.out).mono ?_); rintro e w7 ⟨rfl, b7⟩; (have B7 := Lib.hid (bthen B6.out b7)); clear b7)
          | (go_at_call 16; (with_reducible refine (KX.out (w7.alloc _) _ _ (balloc B7.out _) ?_).mono ?_); (exact rd_lit (cs := #[.int .i64 a1]) rfl rfl rfl); rintro e w8 ⟨A8', c8', rfl, h8, b8⟩; (have d8 : Below w7.heap.size w7 w8 := (balloc (Below.refl w7.heap.size w7) _).trans (b8.mono (by simp))); (have H8 := Lib.hid h8.rd); (have B8 := Lib.hid (bthen B7.out d8)); clear h8 b8 d8)
          | (go_at_call 16; (with_reducible refine (KY.out (w8.alloc _) _ _ (balloc B8.out _) ?_).mono ?_); (exact rd_lit (cs := #[.int .i64 a2]) rfl rfl rfl); rintro e w9 ⟨A9', c9', rfl, h9, b9⟩; (have d9 : Below w8.heap.size w8 w9 := (balloc (Below.refl w8.heap.size w8) _).trans (b9.mono (by simp))); (have H9 := Lib.hid h9.rd); (have B9 := Lib.hid (bthen B8.out d9)); (have J8 := Lib.hid (H8.out.up d9)); clear h9 b9 d9)
          | (go_at_call 16; (with_reducible refine (KZ.out (w9.alloc _) _ _ (balloc B9.out _) ?_).mono ?_); (exact rd_lit (cs := #[.int .i64 a1, .int .i64 a2]) rfl rfl rfl); rintro e w10 ⟨A10', c10', rfl, h10, b10⟩; (have d10 : Below w9.heap.size w9 w10 := (balloc (Below.refl w9.heap.size w9) _).trans (b10.mono (by simp))); (have H10 := Lib.hid h10.rd); (have B10 := Lib.hid (bthen B9.out d10)); (have HX := Lib.hid (J8.out.up d10)); (have HY := Lib.hid (H9.out.up d10)); (have HZ := H10); clear h10 b10 d10)
          | fail)
        have hMz := hM
        go_loopw [18] (fun i wr2 => ∃ k : Nat, k ≤ z.length ∧ i = .int .i64 k ∧ Hid (Below w10.heap.size w10 wr2)) (fun i _ => z.length - (intOf i).toNat)
        case atStart => exact ⟨0, by omega, rfl, Lib.hid (Below.refl _ _)⟩
        case round =>
          obtain ⟨k, hk, rfl, hB2⟩ := hrel
          by_cases hlt : k < z.length
          · have hv := (hM.out (ix z k)).1 (ix_mem hlt)
            obtain ⟨ad, rfl, _, c1⟩ := (HZ.out.below hB2.out).get (cellsI_ix hlt)
            have RX := Lib.hid (HX.out.up hB2.out)
            have RY := Lib.hid (HY.out.up hB2.out)
            have hlx : Hid (x.length ≤ 9223372036854775807) := Lib.hid (by have := hq2.out; omega)
            have hly : Hid (y.length ≤ 9223372036854775807) := Lib.hid (by have := hq3.out; omega)
            have hzl : z.length ≤ 1000 := hq4.out
            by_cases hk0 : k = 0
            · subst hk0
              have c1 : wr.cell? ad = some (.int .i64 (ix z 0)) := c1
              generalize ix z 0 = v at *
              clear HX HY HZ hM hI hMz
              rcases Classical.em (v ∈ x) with hx | hx
              · have HV := Lib.hid (hasB_true hx)
                clear hv hx
                go_wp2
                go_quiet ((first | (go_at_call 24; exact has_q RX.out hlx.out HV.out)))
                go_wp2
                exact ⟨⟨1, by omega, rfl, Lib.hid (below_drewN hB2.out _)⟩, by simp [intOf]; omega⟩
              · have HV := Lib.hid (hasB_false hx)
                have HU := Lib.hid (hasB_true (hv.resolve_left hx))
                clear hv hx
                go_wp2
                go_quiet ((first | (go_at_call 24; exact has_q RX.out hlx.out HV.out) | (go_at_call 24; exact has_q RY.out hly.out HU.out)))
                go_wp2
                exact ⟨⟨1, by omega, rfl, Lib.hid (below_drewN hB2.out _)⟩, by simp [intOf]; omega⟩
            · obtain ⟨j, hj⟩ : ∃ j, k = j + 1 := ⟨k - 1, by omega⟩
              have c2 := (show wr.cell? (ad.add j) = some (.int .i64 (ix z j)) from by
                obtain ⟨ad2, e2, _, c2⟩ := (HZ.out.below hB2.out).get (cellsI_ix (show j < z.length by omega))
                injection e2 with e2
                rw [e2]
                exact c2)
              have hu := inc_ix hI.out (k := j) (by omega)
              rw [← hj] at hu
              generalize ix z k = v at *
              generalize ix z j = u at *
              have g1 : decide (v ≤ u) = false := decide_eq_false (by omega)
              have g2 : decide ((0 : Int) < (k : Int)) = true := decide_eq_true (by omega)
              have g7 : decide (0 < k) = true := decide_eq_true (by omega)
              have g8 : 0 < k := by omega
              have g3 : IntKind.i64.wrap ((k : Int) - 1) = (j : Int) := (IntWalk.i64_in _ (by omega)).trans (by omega)
              have g4 : (0 : Int) ≤ (j : Int) := by omega
              have g5 : (j : Int) < (z.length : Int) := by omega
              have g6 : (j : Int).toNat = j := Int.toNat_natCast j
              have G := Lib.hid hj
              clear HX HY HZ hM hI hMz hu hj
              rcases Classical.em (v ∈ x) with hx | hx
              · have HV := Lib.hid (hasB_true hx)
                clear hv hx
                go_wp2
                go_quiet ((first | (go_at_call 24; exact has_q RX.out hlx.out HV.out)))
                clear g1 g2 g3 g4 g5 g6 g7
                go_wp2
                exact ⟨⟨k + 1, by omega, by go_num, Lib.hid (below_drewN hB2.out _)⟩, by simp [intOf]; omega⟩
              · have HV := Lib.hid (hasB_false hx)
                have HU := Lib.hid (hasB_true (hv.resolve_left hx))
                clear hv hx
                go_wp2
                go_quiet ((first | (go_at_call 24; exact has_q RX.out hlx.out HV.out) | (go_at_call 24; exact has_q RY.out hly.out HU.out)))
                clear g1 g2 g3 g4 g5 g6 g7
                go_wp2
                exact ⟨⟨k + 1, by omega, by go_num, Lib.hid (below_drewN hB2.out _)⟩, by simp [intOf]; omega⟩
          · obtain rfl : k = z.length := by omega
            have RX := Lib.hid (HX.out.up hB2.out)
            have RZ := Lib.hid (HZ.out.up hB2.out)
            have B11 := Lib.hid (bthen B10.out hB2.out)
            have hxl := hq2.out
            clear HX HY HZ hI
            go_wp2
            go_loop [19] (fun i => ∃ k : Nat, k ≤ x.length ∧ i = .int .i64 k) (fun i => x.length - (intOf i).toNat)
            case atStart => exact ⟨0, by omega, rfl⟩
            case round =>
              obtain ⟨k, hk, rfl⟩ := hrel
              by_cases hlt : k < x.length
              · obtain ⟨ad, rfl, _, c1⟩ := RX.out.get (cellsI_ix hlt)
                have kh := has_any _ z c10' (ix x k) _ RZ.out (by have := hq4.out; omega)
                rw [hasB_true ((hM.out _).2 (.inl (ix_mem hlt)))] at kh
                have kh := Lib.hid kh
                generalize ix x k = v at *
                clear RX RZ hM hMz
                by_cases hk0 : k = 0
                all_goals
                  first
                    | (subst hk0; have c1 : wr.cell? ad = some (.int .i64 v) := c1)
                    | skip
                  go_wp2_with (go_at_call 24; (with_reducible refine (kh.out).mono ?_); rintro e wq ⟨rfl, rfl⟩)
                  first
                    | exact ⟨⟨1, by omega, rfl⟩, by simp [intOf]; omega⟩
                    | exact ⟨⟨k + 1, by omega, by go_num⟩, by simp [intOf]; omega⟩
              · obtain rfl : k = x.length := by omega
                clear RX RZ hM hMz
                go_wp2
                go_ret
                exact ⟨rfl, B11.out⟩
  · rw [decide_eq_false hr] at kR
    have kR := Lib.hid kR
    clear hr p0
    go_enter Try.func9, Try.ntmps9
    go_wp2_with (first
      | (go_at_call 11; refine (alive_any _).mono ?_; rintro e w1 ⟨rfl, b1⟩; (have B1 := Lib.hid b1); clear b1)
      | (go_at_call 14; (with_reducible refine ((kR.out w1 B1.out)).mono ?_); rintro e w2 ⟨rfl, b2⟩; (have D2 := Lib.hid b2); (have B2 := Lib.hid (bthen B1.out b2)); clear b2)
      | fail)
    go_ret
    exact ⟨rfl, B2.out⟩

set_option maxRecDepth 100000 in
theorem lifted (os : Os) (started : os.Started) (H : Type) (enc : TypeId × Value → H) :
    ReturnsInHanded {} Try.checked os 9 .any (Rows.graphTurnedSpec.pre6 enc Try.prog Try.f9 Rows.graphTurnedRow.domain false) (Rows.graphTurnedSpec.post enc Try.prog Try.f9 false true false false) := by
  refine returnsInHanded_of_change (C := Try.checked) own started (by kernel_rfl) Try.func9
    (ChangeSpec.witness6 (enc := enc) (C := Try.checked) false ⟨#[], #[.slice none 0 0, .int .i64 0, .int .i64 0], []⟩ 8 (by kernel_rfl) (by kernel_rfl) (by kernel_rfl) (by kernel_rfl)) ?_
  intro W base args ds gs before hval0 hW _ _
  have hval : ∀ (j : Nat) t v, Try.f9.params[j]? = some t → args[j]? = some v → Value.okWide Try.prog W .any base t v := hval0
  have hW0 := hW
  obtain ⟨p, q, hA0, hV, rfl, hfz, hnd⟩ := hW
  have hA : DataW.TrodAll enc Try.prog W 0 (fun _ => true) true Try.f9.params.toList args.toList ds p := hA0
  rw [Try.params9] at hA hval
  obtain ⟨v0, vs0, d0, ds0, p0, q0, hargs, rfl, rfl, h0, r0⟩ := trodAll_cons hA
  obtain ⟨v1, vs1, d1, ds1, p1, q1, rfl, rfl, rfl, h1, r1⟩ := trodAll_cons r0
  obtain ⟨v2, vs2, d2, ds2, p2, q2, rfl, rfl, rfl, h2, r2⟩ := trodAll_cons r1
  obtain ⟨rfl, rfl, rfl⟩ := trodAll_nil r2
  obtain rfl : args = #[v0, v1, v2] := by cases args; simp_all
  obtain ⟨A0, c0, l0, rfl, y0, z0⟩ := open_es h0 (okWide_slice Try.underlying22 (hval 0 22 v0 rfl rfl))
  obtain ⟨a1, rfl, _, _, u1⟩ := open_int Try.underlying3 (hval 1 3 v1 rfl rfl) h1
  obtain ⟨a2, rfl, _, _, u2⟩ := open_int Try.underlying3 (hval 2 3 v2 rfl rfl) h2
  refine (walk A0 l0 c0 a1 a2 W y0 z0 (Lib.hid u1) (Lib.hid u2)).mono fun e W' ⟨h1, h2⟩ => ?_
  subst h1
  exact ⟨_, rfl, law_post laidOut (by kernel_rfl) Try.underlying4 rfl (by kernel_rfl) hW0 rfl h2⟩

theorem said : Rows.GraphTurnedSaid :=
  OpenClaim.holds_of_wide 9 Try.f9 rfl rfl rfl rfl rfl rfl rfl ⟨rfl, rfl, rfl, rfl, rfl⟩ rfl rfl rfl rfl rfl (by kernel_rfl) Try.func9 (by kernel_rfl)
    (of_decide_eq_true (by kernel_rfl)) (by unfold Func.isWrapper; first | (rw [if_pos (by decide +kernel)]; kernel_rfl) | (rw [if_neg (by decide +kernel)]; exact ⟨rfl, rfl⟩))
    (fun os started H enc _ => lifted os started H enc)
end Go.Proofs.Ytlaklfiodmnocaa.lawTurned
