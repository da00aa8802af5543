/-
  The law GraphShortest of the program holds: for every input that its row admits the call returns true, and the arguments read as before. Conditions: those of the row alone.
-/
import Derived.Test.YtlaklfiodmnocaaTwo
namespace Go.Proofs.Ytlaklfiodmnocaa.lawShortest
open Go.ChangeShapes Go.WideShapes Go.ChangeAt Go.RowKit

set_option maxRecDepth 100000 in
set_option maxHeartbeats 8000000 in
theorem walk (A0 : Option Addr) (l0 : List Ed) (c0 : Nat) (i1 j1 : Int) (A2 : Option Addr) (l2 : List Int) (c2 : Nat) (w : World) (m0 : l0.length ≤ 9223372036854775807) (p0 : Es w w.heap.size A0 l0) (f1 : Hid ((Lit.int .i64 i1).wf = true ∧ (Lit.int .i64 j1).wf = true)) (_ : c2 ≤ maxLen) (p2 : Rd w w.heap.size A2 c2 (cellsI l2)) (_ : Hid (WfL l2)) :
    Calls Try.prog 7 #[.slice A0 l0.length c0, .agg #[.int .i64 i1, .int .i64 j1], .slice A2 l2.length c2] w fun e w' => e = .returned (.bool true) ∧ Below w.heap.size w w' := by
  have kR := fun (W : World) (b : Below w.heap.size w W) => right_any A0 l0 c0 W (p0.up b) m0
  by_cases hr : rightN l0 = 0
  · have hg := right_iff.1 hr
    rw [decide_eq_true hr] at kR
    have kR := Lib.hid kR
    clear hr
    by_cases h300 : l2.length ≤ 300
    · have kS := fun (W : World) (b : Below w.heap.size w W) => gShortest_any A0 l0 c0 i1 j1 W (p0.up b) hg
      unfold ShPost at kS
      have kF := fun (W : World) (B : Option Addr) (d : Nat) (b : Below w.heap.size w W) (h : Rd W W.heap.size B d (cellsI [i1])) => gReach_any A0 B l0 [i1] c0 d W (p0.up b) h hg (by simp) (wfl1 f1.out.1)
      have kB := fun (W : World) (B : Option Addr) (d : Nat) (b : Below w.heap.size w W) (h : Rd W W.heap.size B d (cellsI [j1])) => gBack_any A0 B l0 [j1] c0 d W (p0.up b) h hg (by simp) (wfl1 f1.out.2)
      have kW := fun (W : World) (B : Option Addr) (d : Nat) (b : Below w.heap.size w W) (h : Rd W W.heap.size B d (cellsI (shP l0 i1 j1))) => walk_any A0 B l0 (shP l0 i1 j1) c0 d i1 j1 W (p0.up b) h hg (by have := shP_len hg i1 j1; omega)
      have kO := fun (W : World) (b : Below w.heap.size w W) => walk_any A0 A2 l0 l2 c0 c2 i1 j1 W (p0.up b) (p2.up b) hg (by omega)
      simp only [List.length_singleton] at kF kB
      have hE1 := has_reach hg i1 j1
      have hE2 := has_back hg i1 j1
      have hQ1 : Hid ((reachL l0 [i1]).length ≤ 9223372036854775807) := Lib.hid (by have h1 := reach_len l0 [i1]; have := hg.1; rw [List.length_singleton] at h1; omega)
      have hQ2 : Hid ((backL l0 [j1]).length ≤ 9223372036854775807) := Lib.hid (by have h1 := back_len l0 [j1]; have := hg.1; rw [List.length_singleton] at h1; omega)
      have kH1 := fun (W : World) (B : Option Addr) (d : Nat) (h : Rd W W.heap.size B d (cellsI (reachL l0 [i1]))) => has_any B (reachL l0 [i1]) d j1 W h hQ1.out
      have kH2 := fun (W : World) (B : Option Addr) (d : Nat) (h : Rd W W.heap.size B d (cellsI (backL l0 [j1]))) => has_any B (backL l0 [j1]) d i1 W h hQ2.out
      rw [hE1] at kH1
      rw [hE2] at kH2
      have hle := @sh_least l0 hg i1 j1
      have hP2 := hQ1.out
      have hP3 := hQ2.out
      generalize reachL l0 [i1] = r1 at *
      generalize backL l0 [j1] = r2 at *
      obtain ⟨ok, ob, ho⟩ : ∃ a b, wlk l0 l2 0 i1 j1 = (a, b) := ⟨_, _, rfl⟩
      rw [ho] at kO
      have KF := Lib.hid kF
      have KB := Lib.hid kB
      have KO := Lib.hid kO
      have KH1 := kH1
      have KH2 := kH2
      clear kF kB kO kH1 kH2 hE1 hE2 hQ1 hQ2
      cases hy : shK l0 i1 j1 with
      | false =>
        obtain ⟨e1, e2⟩ := sh_empty hg hy
        have hob : ob = false := by
          cases hb : ob with
          | false => rfl
          | true =>
            rw [hb] at ho
            have := (hle ho).1
            rw [hy] at this
            cases this
        subst hob
        rw [hy] at kS KH1 KH2
        rw [e2, e1] at kS
        rw [e1] at kW
        obtain ⟨g1, g2, hw⟩ : ∃ a b, wlk l0 [] 0 i1 j1 = (a, b) := ⟨_, _, rfl⟩
        rw [hw] at kW
        simp only [List.length_nil] at kS kW
        have KS := Lib.hid kS
        have KW := Lib.hid kW
        have KH1 := Lib.hid KH1
        have KH2 := Lib.hid KH2
        clear kS kW hle hy ho hw e1 e2 p0 p2 hg hP2 hP3
        go_enter Try.func7, Try.ntmps7
        go_wp2_with (first
          | (go_at_call 11; refine (alive_any _).mono ?_; rintro e w1 ⟨rfl, b0⟩; (obtain ⟨x0, x1, b, hw, hr2⟩ := box_two b0); (have X0 := Lib.hid x0); (have X1 := Lib.hid x1); (have HW := Lib.hid hw); (have R2 := Lib.hid hr2); (have B1 := Lib.hid b); clear b0 b x0 x1 hw hr2)
          | (go_at_call 14; (with_reducible refine ((kR.out w1 B1.out)).mono ?_); rintro e w2 ⟨rfl, b2⟩; (have D2 := Lib.hid b2); (have B2 := Lib.hid (bthen B1.out b2)); clear b2)
          | fail)
        have y0 := (D2.out.cell HW.out).trans X0.out
        have y1 := (D2.out.cell HW.out).trans X1.out
        go_quiet (fail)
        go_wp2_with (first
          | (go_at_call 22; (with_reducible refine (KS.out _ (below_drewN B2.out _)).mono ?_); rintro e w3 ⟨A3', c3', rfl, h3, b3⟩; (have H3 := Lib.hid h3.rd); (have B3 := Lib.hid (bthen (below_drewN B2.out _) b3)); clear b3 h3)
          | (go_at_call 16; (with_reducible refine (KF.out (w3.alloc _) _ _ (balloc B3.out _) ?_).mono ?_); (exact rd_lit (cs := #[.int .i64 i1]) rfl rfl rfl); rintro e w4 ⟨A4', c4', rfl, h4, b4⟩; (have d4 : Below w3.heap.size w3 w4 := (balloc (Below.refl w3.heap.size w3) _).trans (b4.mono (by simp))); (have H4 := Lib.hid h4.rd); (have D4 := Lib.hid d4); (have B4 := Lib.hid (bthen B3.out d4)); clear h4 b4 d4)
          | (go_at_call 24; (with_reducible refine (KH1.out _ _ _ H4.out).mono ?_); rintro e wq ⟨rfl, rfl⟩)
          | (go_at_call 18; (with_reducible refine (KB.out (w4.alloc _) _ _ (balloc B4.out _) ?_).mono ?_); (exact rd_lit (cs := #[.int .i64 j1]) rfl rfl rfl); rintro e w5 ⟨A5', c5', rfl, h5, b5⟩; (have d5 : Below w4.heap.size w4 w5 := (balloc (Below.refl w4.heap.size w4) _).trans (b5.mono (by simp))); (have H5 := Lib.hid h5.rd); (have D5 := Lib.hid d5); (have B5 := Lib.hid (bthen B4.out d5)); clear h5 b5 d5)
          | (go_at_call 24; (with_reducible refine (KH2.out _ _ _ H5.out).mono ?_); rintro e wq ⟨rfl, rfl⟩)
          | (go_at_call 25; (with_reducible refine (KW.out w5 _ _ B5.out (H3.out.up (bthen D4.out D5.out))).mono ?_); rintro e w6 ⟨rfl, b6⟩; (have B6 := Lib.hid (bthen B5.out b6)); clear b6)
          | (go_at_call 25; (with_reducible refine (KO.out w6 B6.out).mono ?_); rintro e w7 ⟨rfl, b7⟩; (have B7 := Lib.hid (bthen B6.out b7)); clear b7)
          | fail)
        go_ret
        exact ⟨by simp, B7.out⟩

      | true =>
        have hw := sh_walk hg hy
        rw [hw] at kW
        rw [hy] at kS KH1 KH2
        have hl := @hle
        generalize shP l0 i1 j1 = r3 at *
        generalize shC l0 i1 j1 = z at *
        have KS := Lib.hid kS
        have KW := Lib.hid kW
        have KH1 := Lib.hid KH1
        have KH2 := Lib.hid KH2
        clear kS kW hle hy hw p0 p2 hg hP2 hP3
        cases ob with
        | false =>
          clear ho hl
          go_enter Try.func7, Try.ntmps7
          go_wp2_with (first
            | (go_at_call 11; refine (alive_any _).mono ?_; rintro e w1 ⟨rfl, b0⟩; (obtain ⟨x0, x1, b, hw, hr2⟩ := box_two b0); (have X0 := Lib.hid x0); (have X1 := Lib.hid x1); (have HW := Lib.hid hw); (have R2 := Lib.hid hr2); (have B1 := Lib.hid b); clear b0 b x0 x1 hw hr2)
            | (go_at_call 14; (with_reducible refine ((kR.out w1 B1.out)).mono ?_); rintro e w2 ⟨rfl, b2⟩; (have D2 := Lib.hid b2); (have B2 := Lib.hid (bthen B1.out b2)); clear b2)
            | fail)
          have y0 := (D2.out.cell HW.out).trans X0.out
          have y1 := (D2.out.cell HW.out).trans X1.out
          go_quiet (fail)
          go_wp2_with (first
            | (go_at_call 22; (with_reducible refine (KS.out _ (below_drewN B2.out _)).mono ?_); rintro e w3 ⟨A3', c3', rfl, h3, b3⟩; (have H3 := Lib.hid h3.rd); (have B3 := Lib.hid (bthen (below_drewN B2.out _) b3)); clear b3 h3)
            | (go_at_call 16; (with_reducible refine (KF.out (w3.alloc _) _ _ (balloc B3.out _) ?_).mono ?_); (exact rd_lit (cs := #[.int .i64 i1]) rfl rfl rfl); rintro e w4 ⟨A4', c4', rfl, h4, b4⟩; (have d4 : Below w3.heap.size w3 w4 := (balloc (Below.refl w3.heap.size w3) _).trans (b4.mono (by simp))); (have H4 := Lib.hid h4.rd); (have D4 := Lib.hid d4); (have B4 := Lib.hid (bthen B3.out d4)); clear h4 b4 d4)
            | (go_at_call 24; (with_reducible refine (KH1.out _ _ _ H4.out).mono ?_); rintro e wq ⟨rfl, rfl⟩)
            | (go_at_call 18; (with_reducible refine (KB.out (w4.alloc _) _ _ (balloc B4.out _) ?_).mono ?_); (exact rd_lit (cs := #[.int .i64 j1]) rfl rfl rfl); rintro e w5 ⟨A5', c5', rfl, h5, b5⟩; (have d5 : Below w4.heap.size w4 w5 := (balloc (Below.refl w4.heap.size w4) _).trans (b5.mono (by simp))); (have H5 := Lib.hid h5.rd); (have D5 := Lib.hid d5); (have B5 := Lib.hid (bthen B4.out d5)); clear h5 b5 d5)
            | (go_at_call 24; (with_reducible refine (KH2.out _ _ _ H5.out).mono ?_); rintro e wq ⟨rfl, rfl⟩)
            | (go_at_call 25; (with_reducible refine (KW.out w5 _ _ B5.out (H3.out.up (bthen D4.out D5.out))).mono ?_); rintro e w6 ⟨rfl, b6⟩; (have B6 := Lib.hid (bthen B5.out b6)); clear b6)
            | (go_at_call 25; (with_reducible refine (KO.out w6 B6.out).mono ?_); rintro e w7 ⟨rfl, b7⟩; (have B7 := Lib.hid (bthen B6.out b7)); clear b7)
            | fail)
          go_ret
          exact ⟨by simp, B7.out⟩

        | true =>
          have hlt := (hl ho).2
          have hT : Hid (z < ok ∨ z = ok ∧ r3.length ≤ l2.length) := Lib.hid hlt
          clear ho hl hlt
          by_cases hz : z < ok
          · clear hT
            go_enter Try.func7, Try.ntmps7
            go_wp2_with (first
              | (go_at_call 11; refine (alive_any _).mono ?_; rintro e w1 ⟨rfl, b0⟩; (obtain ⟨x0, x1, b, hw, hr2⟩ := box_two b0); (have X0 := Lib.hid x0); (have X1 := Lib.hid x1); (have HW := Lib.hid hw); (have R2 := Lib.hid hr2); (have B1 := Lib.hid b); clear b0 b x0 x1 hw hr2)
              | (go_at_call 14; (with_reducible refine ((kR.out w1 B1.out)).mono ?_); rintro e w2 ⟨rfl, b2⟩; (have D2 := Lib.hid b2); (have B2 := Lib.hid (bthen B1.out b2)); clear b2)
              | fail)
            have y0 := (D2.out.cell HW.out).trans X0.out
            have y1 := (D2.out.cell HW.out).trans X1.out
            go_quiet (fail)
            go_wp2_with (first
              | (go_at_call 22; (with_reducible refine (KS.out _ (below_drewN B2.out _)).mono ?_); rintro e w3 ⟨A3', c3', rfl, h3, b3⟩; (have H3 := Lib.hid h3.rd); (have B3 := Lib.hid (bthen (below_drewN B2.out _) b3)); clear b3 h3)
              | (go_at_call 16; (with_reducible refine (KF.out (w3.alloc _) _ _ (balloc B3.out _) ?_).mono ?_); (exact rd_lit (cs := #[.int .i64 i1]) rfl rfl rfl); rintro e w4 ⟨A4', c4', rfl, h4, b4⟩; (have d4 : Below w3.heap.size w3 w4 := (balloc (Below.refl w3.heap.size w3) _).trans (b4.mono (by simp))); (have H4 := Lib.hid h4.rd); (have D4 := Lib.hid d4); (have B4 := Lib.hid (bthen B3.out d4)); clear h4 b4 d4)
              | (go_at_call 24; (with_reducible refine (KH1.out _ _ _ H4.out).mono ?_); rintro e wq ⟨rfl, rfl⟩)
              | (go_at_call 18; (with_reducible refine (KB.out (w4.alloc _) _ _ (balloc B4.out _) ?_).mono ?_); (exact rd_lit (cs := #[.int .i64 j1]) rfl rfl rfl); rintro e w5 ⟨A5', c5', rfl, h5, b5⟩; (have d5 : Below w4.heap.size w4 w5 := (balloc (Below.refl w4.heap.size w4) _).trans (b5.mono (by simp))); (have H5 := Lib.hid h5.rd); (have D5 := Lib.hid d5); (have B5 := Lib.hid (bthen B4.out d5)); clear h5 b5 d5)
              | (go_at_call 24; (with_reducible refine (KH2.out _ _ _ H5.out).mono ?_); rintro e wq ⟨rfl, rfl⟩)
              | (go_at_call 25; (with_reducible refine (KW.out w5 _ _ B5.out (H3.out.up (bthen D4.out D5.out))).mono ?_); rintro e w6 ⟨rfl, b6⟩; (have B6 := Lib.hid (bthen B5.out b6)); clear b6)
              | (go_at_call 25; (with_reducible refine (KO.out w6 B6.out).mono ?_); rintro e w7 ⟨rfl, b7⟩; (have B7 := Lib.hid (bthen B6.out b7)); clear b7)
              | fail)
            go_ret
            exact ⟨by simp, B7.out⟩

          · obtain ⟨hz1, hz2⟩ : z = ok ∧ r3.length ≤ l2.length := by have := hT.out; omega
            have hzn := decide_eq_false hz
            subst hz1
            clear hT
            go_enter Try.func7, Try.ntmps7
            go_wp2_with (first
              | (go_at_call 11; refine (alive_any _).mono ?_; rintro e w1 ⟨rfl, b0⟩; (obtain ⟨x0, x1, b, hw, hr2⟩ := box_two b0); (have X0 := Lib.hid x0); (have X1 := Lib.hid x1); (have HW := Lib.hid hw); (have R2 := Lib.hid hr2); (have B1 := Lib.hid b); clear b0 b x0 x1 hw hr2)
              | (go_at_call 14; (with_reducible refine ((kR.out w1 B1.out)).mono ?_); rintro e w2 ⟨rfl, b2⟩; (have D2 := Lib.hid b2); (have B2 := Lib.hid (bthen B1.out b2)); clear b2)
              | fail)
            have y0 := (D2.out.cell HW.out).trans X0.out
            have y1 := (D2.out.cell HW.out).trans X1.out
            go_quiet (fail)
            go_wp2_with (first
              | (go_at_call 22; (with_reducible refine (KS.out _ (below_drewN B2.out _)).mono ?_); rintro e w3 ⟨A3', c3', rfl, h3, b3⟩; (have H3 := Lib.hid h3.rd); (have B3 := Lib.hid (bthen (below_drewN B2.out _) b3)); clear b3 h3)
              | (go_at_call 16; (with_reducible refine (KF.out (w3.alloc _) _ _ (balloc B3.out _) ?_).mono ?_); (exact rd_lit (cs := #[.int .i64 i1]) rfl rfl rfl); rintro e w4 ⟨A4', c4', rfl, h4, b4⟩; (have d4 : Below w3.heap.size w3 w4 := (balloc (Below.refl w3.heap.size w3) _).trans (b4.mono (by simp))); (have H4 := Lib.hid h4.rd); (have D4 := Lib.hid d4); (have B4 := Lib.hid (bthen B3.out d4)); clear h4 b4 d4)
              | (go_at_call 24; (with_reducible refine (KH1.out _ _ _ H4.out).mono ?_); rintro e wq ⟨rfl, rfl⟩)
              | (go_at_call 18; (with_reducible refine (KB.out (w4.alloc _) _ _ (balloc B4.out _) ?_).mono ?_); (exact rd_lit (cs := #[.int .i64 j1]) rfl rfl rfl); rintro e w5 ⟨A5', c5', rfl, h5, b5⟩; (have d5 : Below w4.heap.size w4 w5 := (balloc (Below.refl w4.heap.size w4) _).trans (b5.mono (by simp))); (have H5 := Lib.hid h5.rd); (have D5 := Lib.hid d5); (have B5 := Lib.hid (bthen B4.out d5)); clear h5 b5 d5)
              | (go_at_call 24; (with_reducible refine (KH2.out _ _ _ H5.out).mono ?_); rintro e wq ⟨rfl, rfl⟩)
              | (go_at_call 25; (with_reducible refine (KW.out w5 _ _ B5.out (H3.out.up (bthen D4.out D5.out))).mono ?_); rintro e w6 ⟨rfl, b6⟩; (have B6 := Lib.hid (bthen B5.out b6)); clear b6)
              | (go_at_call 25; (with_reducible refine (KO.out w6 B6.out).mono ?_); rintro e w7 ⟨rfl, b7⟩; (have B7 := Lib.hid (bthen B6.out b7)); clear b7)
              | fail)
            go_ret
            exact ⟨by simp, B7.out⟩

    · clear p0 p2 hg
      go_enter Try.func7, Try.ntmps7
      go_wp2_with (first
        | (go_at_call 11; refine (alive_any _).mono ?_; rintro e w1 ⟨rfl, b0⟩; (obtain ⟨x0, x1, b, hw, hr2⟩ := box_two b0); (have X0 := Lib.hid x0); (have X1 := Lib.hid x1); (have HW := Lib.hid hw); (have R2 := Lib.hid hr2); (have B1 := Lib.hid b); clear b0 b x0 x1 hw hr2)
        | (go_at_call 14; (with_reducible refine ((kR.out w1 B1.out)).mono ?_); rintro e w2 ⟨rfl, b2⟩; (have D2 := Lib.hid b2); (have B2 := Lib.hid (bthen B1.out b2)); clear b2)
        | fail)
      go_ret
      exact ⟨rfl, B2.out⟩
  · rw [decide_eq_false hr] at kR
    have kR := Lib.hid kR
    clear hr p0 p2
    go_enter Try.func7, Try.ntmps7
    go_wp2_with (first
      | (go_at_call 11; refine (alive_any _).mono ?_; rintro e w1 ⟨rfl, b0⟩; (obtain ⟨x0, x1, b, hw, hr2⟩ := box_two b0); (have X0 := Lib.hid x0); (have X1 := Lib.hid x1); (have HW := Lib.hid hw); (have R2 := Lib.hid hr2); (have B1 := Lib.hid b); clear b0 b x0 x1 hw hr2)
      | (go_at_call 14; (with_reducible refine ((kR.out w1 B1.out)).mono ?_); rintro e w2 ⟨rfl, b2⟩; (have D2 := Lib.hid b2); (have B2 := Lib.hid (bthen B1.out b2)); clear b2)
      | fail)
    go_ret
    exact ⟨rfl, B2.out⟩

set_option maxRecDepth 100000 in
theorem lifted (os : Os) (started : os.Started) (H : Type) (enc : TypeId × Value → H) :
    ReturnsInHanded {} Try.checked os 7 .any (Rows.graphShortestSpec.pre6 enc Try.prog Try.f7 Rows.graphShortestRow.domain false) (Rows.graphShortestSpec.post enc Try.prog Try.f7 false true false false) := by
  refine returnsInHanded_of_change (C := Try.checked) own started (by kernel_rfl) Try.func7
    (ChangeSpec.witness6 (enc := enc) (C := Try.checked) false ⟨#[], #[.slice none 0 0, .agg #[.int .i64 0, .int .i64 0], .slice none 0 0], []⟩ 8 (by kernel_rfl) (by kernel_rfl) (by kernel_rfl) (by kernel_rfl)) ?_
  intro W base args ds gs before hval0 hW _ _
  have hval : ∀ (j : Nat) t v, Try.f7.params[j]? = some t → args[j]? = some v → Value.okWide Try.prog W .any base t v := hval0
  have hW0 := hW
  obtain ⟨p, q, hA0, hV, rfl, hfz, hnd⟩ := hW
  have hA : DataW.TrodAll enc Try.prog W 0 (fun _ => true) true Try.f7.params.toList args.toList ds p := hA0
  rw [Try.params7] at hA hval
  obtain ⟨v0, vs0, d0, ds0, p0, q0, hargs, rfl, rfl, h0, r0⟩ := trodAll_cons hA
  obtain ⟨v1, vs1, d1, ds1, p1, q1, rfl, rfl, rfl, h1, r1⟩ := trodAll_cons r0
  obtain ⟨v2, vs2, d2, ds2, p2, q2, rfl, rfl, rfl, h2, r2⟩ := trodAll_cons r1
  obtain ⟨rfl, rfl, rfl⟩ := trodAll_nil r2
  obtain rfl : args = #[v0, v1, v2] := by cases args; simp_all
  obtain ⟨A0, c0, l0, rfl, y0, z0⟩ := open_es h0 (okWide_slice Try.underlying22 (hval 0 22 v0 rfl rfl))
  obtain ⟨i1, j1, rfl, u1⟩ := open_two Try.underlying36 Try.underlying3 (by kernel_rfl) (by kernel_rfl) (hval 1 36 v1 rfl rfl) h1
  obtain ⟨A2, c2, l2, rfl, y2, z2, u2⟩ := open_is_rd h2 (okWide_slice Try.underlying27 (hval 2 27 v2 rfl rfl))
  refine (walk A0 l0 c0 i1 j1 A2 l2 c2 W y0 z0 (Lib.hid u1) y2 z2 (Lib.hid u2)).mono fun e W' ⟨h1, h2⟩ => ?_
  subst h1
  exact ⟨_, rfl, law_post laidOut (by kernel_rfl) Try.underlying4 rfl (by kernel_rfl) hW0 rfl h2⟩

theorem said : Rows.GraphShortestSaid :=
  OpenClaim.holds_of_wide 7 Try.f7 rfl rfl rfl rfl rfl rfl rfl ⟨rfl, rfl, rfl, rfl, rfl⟩ rfl rfl rfl rfl rfl (by kernel_rfl) Try.func7 (by kernel_rfl)
    (of_decide_eq_true (by kernel_rfl)) (by unfold Func.isWrapper; first | (rw [if_pos (by decide +kernel)]; kernel_rfl) | (rw [if_neg (by decide +kernel)]; exact ⟨rfl, rfl⟩))
    (fun os started H enc _ => lifted os started H enc)
end Go.Proofs.Ytlaklfiodmnocaa.lawShortest
