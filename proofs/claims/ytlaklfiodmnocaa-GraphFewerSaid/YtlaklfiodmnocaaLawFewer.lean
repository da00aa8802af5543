/-
  The law GraphFewer of the program holds: for every input that its row admits the call returns true, and the arguments read as before. Conditions: those of the row alone.
-/
import Derived.Test.YtlaklfiodmnocaaTwo
namespace Go.Proofs.Ytlaklfiodmnocaa.lawFewer
open Go.ChangeShapes Go.WideShapes Go.ChangeAt Go.RowKit

set_option maxRecDepth 100000 in
set_option maxHeartbeats 8000000 in
theorem walk (A0 : Option Addr) (l0 : List Ed) (c0 : Nat) (A1 : Option Addr) (l1 : List Int) (c1 : Nat) (i2 j2 : Int) (w : World) (m0 : l0.length ≤ 9223372036854775807) (p0 : Es w w.heap.size A0 l0) (_ : c1 ≤ maxLen) (p1 : Rd w w.heap.size A1 c1 (cellsI l1)) (_ : Hid (WfL l1)) (f2 : Hid ((Lit.int .i64 i2).wf = true ∧ (Lit.int .i64 j2).wf = true)) :
    Calls Try.prog 10 #[.slice A0 l0.length c0, .slice A1 l1.length c1, .agg #[.int .i64 i2, .int .i64 j2]] w fun e w' => e = .returned (.bool true) ∧ Below w.heap.size w w' := by
  have kR := fun (W : World) (b : Below w.heap.size w W) => right_any A0 l0 c0 W (p0.up b) m0
  by_cases hr : rightN l0 = 0
  · have hg := right_iff.1 hr
    rw [decide_eq_true hr] at kR
    have kR := Lib.hid kR
    clear hr
    by_cases h60 : l1.length ≤ 60
    · have hv := wo_grph hg l1
      have kWo := fun (W : World) (b : Below w.heap.size w W) => gWithout_any A0 A1 l0 l1 c0 c1 W (p0.up b) (p1.up b) hg (by omega)
      have kWr := fun (W : World) (b : Below w.heap.size w W) => refWithout_any A0 A1 l0 l1 c0 c1 W (p0.up b) (p1.up b) (by have := hg.1; omega) (by omega)
      have hrr : ∀ x ∈ reachL (wo l0 l1) [i2, j2], x ∈ reachL l0 [i2, j2] := fun x h => reach_fewer h
      have hsh := @sh_fewer l0 hg l1 i2 j2
      have kRe2 := fun (W : World) (B : Option Addr) (d : Nat) (b : Below w.heap.size w W) (h : Rd W W.heap.size B d (cellsI [i2, j2])) => gReach_any A0 B l0 [i2, j2] c0 d W (p0.up b) h hg (by simp) (wfl2 f2.out.1 f2.out.2)
      have kS2 := fun (W : World) (b : Below w.heap.size w W) => gShortest_any A0 l0 c0 i2 j2 W (p0.up b) hg
      have hr1 : Hid ((reachL (wo l0 l1) [i2, j2]).length ≤ 300) := Lib.hid (by have h1 := reach_len (wo l0 l1) [i2, j2]; have := hv.1; simp only [List.length_cons, List.length_nil] at h1; omega)
      have hr2 : Hid ((reachL l0 [i2, j2]).length ≤ 300) := Lib.hid (by have h1 := reach_len l0 [i2, j2]; have := hg.1; simp only [List.length_cons, List.length_nil] at h1; omega)
      generalize wo l0 l1 = v at *
      have kSm := fun (W : World) (A B : Option Addr) (c d : Nat) (h : Es W W.heap.size A v) (h2 : Es W W.heap.size B v) => sameEdges_any A B v c d W h h2 (by have := hv.1; omega)
      have kRg : ∀ (W : World) (A : Option Addr) (c : Nat), Es W W.heap.size A v → Calls Try.prog 12 #[.slice A v.length c] W fun e w' => e = .returned (.int .i64 0) ∧ Below W.heap.size W w' := fun W A c h => by
        have k := gRight_any A v c W h (by have := hv.1; omega)
        rw [right_iff.2 hv] at k
        exact k
      have kRe1 := fun (W : World) (A : Option Addr) (c : Nat) (B : Option Addr) (d : Nat) (h1 : Es W W.heap.size A v) (h : Rd W W.heap.size B d (cellsI [i2, j2])) => gReach_any A B v [i2, j2] c d W h1 h hv (by simp) (wfl2 f2.out.1 f2.out.2)
      have kS1 := fun (W : World) (A : Option Addr) (c : Nat) (h1 : Es W W.heap.size A v) => gShortest_any A v c i2 j2 W h1 hv
      unfold ShPost at kS1 kS2
      unfold MadeI' at kRe1 kRe2
      unfold MadeE' at kWo kWr
      simp only [List.length_cons, List.length_nil, Nat.zero_add, Nat.reduceAdd] at kRe1 kRe2
      generalize reachL v [i2, j2] = r1 at *
      generalize reachL l0 [i2, j2] = r2 at *
      have kH : ∀ (k : Nat), k < r1.length → ∀ (W : World) (B : Option Addr) (d : Nat), Rd W W.heap.size B d (cellsI r2) → Calls Try.prog 24 #[.slice B r2.length d, .int .i64 (ix r1 k)] W fun e w' => e = .returned (.bool true) ∧ W = w' := fun k hk W B d h => by
        have q := has_any B r2 d (ix r1 k) W h (by have := hr2.out; omega)
        rw [hasB_true (hrr _ (ix_mem hk))] at q
        exact q
      generalize shP v i2 j2 = r3 at *
      generalize shP l0 i2 j2 = r4 at *
      generalize shC v i2 j2 = z at *
      generalize shC l0 i2 j2 = y at *
      generalize shK v i2 j2 = zk at *
      generalize shK l0 i2 j2 = yk at *
      have hsh : Hid (zk = true → yk = true ∧ y ≤ z) := Lib.hid hsh
      have KWO := Lib.hid kWo
      have KWR := Lib.hid kWr
      have KSM := Lib.hid kSm
      have KRG := Lib.hid kRg
      have KRE1 := Lib.hid kRe1
      have KRE2 := Lib.hid kRe2
      have KS1 := Lib.hid kS1
      have KS2 := Lib.hid kS2
      have KH := Lib.hid kH
      clear kWo kWr kSm kRg kRe1 kRe2 kS1 kS2 kH p0 p1 hg hv hrr
      go_enter Try.func10, Try.ntmps10
      go_upto_region 8 with (first
        | (go_at_call 11; refine (alive_any _).mono ?_; rintro e w1 ⟨rfl, b0⟩; (obtain ⟨x0, x1, b, hw, hr2⟩ := box_two b0); (have X0 := Lib.hid x0); (have X1 := Lib.hid x1); (have HW := Lib.hid hw); (have R2 := Lib.hid hr2); (have B1 := Lib.hid b); clear b0 b x0 x1 hw hr2)
        | (go_at_call 14; (with_reducible refine ((kR.out w1 B1.out)).mono ?_); rintro e w2 ⟨rfl, b2⟩; (have D2 := Lib.hid b2); (have B2 := Lib.hid (bthen B1.out b2)); clear b2)
        | (go_at_call 27; (with_reducible refine (KWO.out w2 B2.out).mono ?_); rintro e w3 ⟨A3', c3', rfl, h3, b3⟩; (have E3 := Lib.hid h3.es); (have D3 := Lib.hid b3); (have B3 := Lib.hid (bthen B2.out b3)); clear h3 b3)
        | (go_at_call 29; (with_reducible refine (KWR.out w3 B3.out).mono ?_); rintro e w4 ⟨A4', c4', rfl, h4, b4⟩; (have E4 := Lib.hid h4.es); (have F4 := Lib.hid (E3.out.up b4)); (have D4 := Lib.hid (bthen D3.out b4)); (have B4 := Lib.hid (bthen B3.out b4)); clear h4 b4)
        | (go_at_call 28; (with_reducible refine (KSM.out w4 _ _ _ _ F4.out E4.out).mono ?_); rintro e w5 ⟨rfl, b5⟩; (have F5 := Lib.hid (F4.out.up b5)); (have D5 := Lib.hid (bthen D4.out b5)); (have B5 := Lib.hid (bthen B4.out b5)); clear b5)
        | (go_at_call 12; (with_reducible refine (KRG.out w5 _ _ F5.out).mono ?_); rintro e w6 ⟨rfl, b6⟩; (have F6 := Lib.hid (F5.out.up b6)); (have D6 := Lib.hid (bthen D5.out b6)); (have B6 := Lib.hid (bthen B5.out b6)); clear b6)
        | fail)
      have G6 := Lib.hid (R2.out.up (bthen D2.out D6.out))
      have Y0 := Lib.hid (((D6.out.cell (Nat.lt_of_lt_of_le HW.out D2.out.size)).trans (D2.out.cell HW.out)).trans X0.out)
      have Y1 := Lib.hid (((D6.out.cell (Nat.lt_of_lt_of_le HW.out D2.out.size)).trans (D2.out.cell HW.out)).trans X1.out)
      have HW6 := Lib.hid (Nat.lt_of_lt_of_le HW.out (Nat.le_trans D2.out.size D6.out.size))
      clear X0 X1 D2 D3 D4 D5 E3 E4 F4 F5 HW R2
      go_cut [8, 9] from 41 to 46 (fun s t wx => ∃ A7 c7 A8 c8, s = .slice A7 r1.length c7 ∧ t = .slice A8 r2.length c8 ∧ Rd wx wx.heap.size A7 c7 (cellsI r1) ∧ Rd wx wx.heap.size A8 c8 (cellsI r2) ∧ Below w6.heap.size w6 wx)
      case first =>
        go_region_held3 (fun _ => True) (trivial)
          (first
            | (go_at_call 16; (with_reducible refine (KRE1.out _ _ _ _ _ (F6.out.up ?_) (G6.out.up ?_)).mono ?_); (exact Below.drew (Below.refl _ _)); (exact Below.drew (Below.refl _ _)); rintro e w7 ⟨A7', c7', rfl, h7, b7⟩; (have D7 : Hid (Below w6.heap.size w6 w7) := Lib.hid ((Below.drew (Below.refl w6.heap.size w6)).trans b7)); (have H7 := Lib.hid h7.rd); clear h7 b7)
            | (go_at_call 16; (with_reducible refine (KRE2.out w7 _ _ (bthen B6.out D7.out) (G6.out.up D7.out)).mono ?_); rintro e w8 ⟨A8', c8', rfl, h8, b8⟩; (have D8 : Hid (Below w6.heap.size w6 w8) := Lib.hid (bthen D7.out b8)); (have H8 := Lib.hid h8.rd); (have J7 := Lib.hid (H7.out.up b8)); clear h8 b8))
        all_goals
          go_wp2_with fail
          go_meet
          exact ⟨_, _, _, _, rfl, rfl, J7.out, H8.out, D8.out⟩
      case rest =>
        obtain ⟨A7', c7', A8', c8', rfl, rfl, h7, h8, hb⟩ := hcut
        obtain ⟨w8, rfl⟩ : ∃ w8, w8 = wc := ⟨wc, rfl⟩
        have H7 := Lib.hid h7
        have H8 := Lib.hid h8
        have D8 := Lib.hid hb
        have B8 := Lib.hid (bthen B6.out hb)
        have F8 := Lib.hid (F6.out.up hb)
        have y0 := (D8.out.cell HW6.out).trans Y0.out
        have y1 := (D8.out.cell HW6.out).trans Y1.out
        have HW8 := Lib.hid (Nat.lt_of_lt_of_le HW6.out D8.out.size)
        have hr1 := hr1.out
        clear h7 h8 hb F6 G6 Y0 Y1 D6 hr2
        go_wp2
        go_loop [10] (fun i => ∃ k : Nat, k ≤ r1.length ∧ i = .int .i64 k) (fun i => r1.length - (intOf i).toNat)
        case atStart => exact ⟨0, by omega, rfl⟩
        case round =>
          obtain ⟨k, hk, rfl⟩ := hrel
          by_cases hlt : k < r1.length
          · obtain ⟨ad, rfl, _, c1⟩ := H7.out.get (cellsI_ix hlt)
            have kh := Lib.hid (KH.out k hlt _ _ _ H8.out)
            generalize ix r1 k = x at *
            clear H7
            by_cases hk0 : k = 0
            all_goals
              first
                | (subst hk0; have c1 : w8.cell? ad = some (.int .i64 x) := c1)
                | skip
              go_wp2_with (go_at_call 24; (with_reducible refine (kh.out).mono ?_); rintro e wq ⟨rfl, rfl⟩)
              first
                | exact ⟨⟨1, by omega, rfl⟩, by simp [intOf]; omega⟩
                | exact ⟨⟨k + 1, by omega, by go_num⟩, by simp [intOf]; omega⟩
          · obtain rfl : k = r1.length := by omega
            clear H7 H8 KH
            cases zk with
            | false =>
              go_wp2_with (first
                | (go_at_call 22; (with_reducible refine (KS1.out w8 _ _ F8.out).mono ?_); rintro e w9 ⟨A9', c9', rfl, _, b9⟩; (have B9 := Lib.hid (bthen B8.out b9)); (have y2 := (b9.cell HW8.out).trans y0); (have y3 := (b9.cell HW8.out).trans y1); clear b9)
                | (go_at_call 22; (with_reducible refine (KS2.out w9 B9.out).mono ?_); rintro e w10 ⟨A10', c10', rfl, _, b10⟩; (have B10 := Lib.hid (bthen B9.out b10)); clear b10)
                | fail)
              go_ret
              exact ⟨by simp, B10.out⟩
            | true =>
              obtain ⟨rfl, hyz⟩ := hsh.out rfl
              go_wp2_with (first
                | (go_at_call 22; (with_reducible refine (KS1.out w8 _ _ F8.out).mono ?_); rintro e w9 ⟨A9', c9', rfl, _, b9⟩; (have B9 := Lib.hid (bthen B8.out b9)); (have y2 := (b9.cell HW8.out).trans y0); (have y3 := (b9.cell HW8.out).trans y1); clear b9)
                | (go_at_call 22; (with_reducible refine (KS2.out w9 B9.out).mono ?_); rintro e w10 ⟨A10', c10', rfl, _, b10⟩; (have B10 := Lib.hid (bthen B9.out b10)); clear b10)
                | fail)
              go_ret
              exact ⟨by simp, B10.out⟩
    · clear p0 p1 hg
      go_enter Try.func10, Try.ntmps10
      go_wp2_with (first
        | (go_at_call 11; refine (alive_any _).mono ?_; rintro e w1 ⟨rfl, b0⟩; (obtain ⟨x0, x1, b, hw, hr2⟩ := box_two b0); (have X0 := Lib.hid x0); (have X1 := Lib.hid x1); (have HW := Lib.hid hw); (have R2 := Lib.hid hr2); (have B1 := Lib.hid b); clear b0 b x0 x1 hw hr2)
        | (go_at_call 14; (with_reducible refine ((kR.out w1 B1.out)).mono ?_); rintro e w2 ⟨rfl, b2⟩; (have D2 := Lib.hid b2); (have B2 := Lib.hid (bthen B1.out b2)); clear b2)
        | fail)
      go_ret
      exact ⟨rfl, B2.out⟩
  · rw [decide_eq_false hr] at kR
    have kR := Lib.hid kR
    clear hr p0 p1
    go_enter Try.func10, Try.ntmps10
    go_wp2_with (first
      | (go_at_call 11; refine (alive_any _).mono ?_; rintro e w1 ⟨rfl, b0⟩; (obtain ⟨x0, x1, b, hw, hr2⟩ := box_two b0); (have X0 := Lib.hid x0); (have X1 := Lib.hid x1); (have HW := Lib.hid hw); (have R2 := Lib.hid hr2); (have B1 := Lib.hid b); clear b0 b x0 x1 hw hr2)
      | (go_at_call 14; (with_reducible refine ((kR.out w1 B1.out)).mono ?_); rintro e w2 ⟨rfl, b2⟩; (have D2 := Lib.hid b2); (have B2 := Lib.hid (bthen B1.out b2)); clear b2)
      | fail)
    go_ret
    exact ⟨rfl, B2.out⟩

set_option maxRecDepth 100000 in
theorem lifted (os : Os) (started : os.Started) (H : Type) (enc : TypeId × Value → H) :
    ReturnsInHanded {} Try.checked os 10 .any (Rows.graphFewerSpec.pre6 enc Try.prog Try.f10 Rows.graphFewerRow.domain false) (Rows.graphFewerSpec.post enc Try.prog Try.f10 false true false false) := by
  refine returnsInHanded_of_change (C := Try.checked) own started (by kernel_rfl) Try.func10
    (ChangeSpec.witness6 (enc := enc) (C := Try.checked) false ⟨#[], #[.slice none 0 0, .slice none 0 0, .agg #[.int .i64 0, .int .i64 0]], []⟩ 8 (by kernel_rfl) (by kernel_rfl) (by kernel_rfl) (by kernel_rfl)) ?_
  intro W base args ds gs before hval0 hW _ _
  have hval : ∀ (j : Nat) t v, Try.f10.params[j]? = some t → args[j]? = some v → Value.okWide Try.prog W .any base t v := hval0
  have hW0 := hW
  obtain ⟨p, q, hA0, hV, rfl, hfz, hnd⟩ := hW
  have hA : DataW.TrodAll enc Try.prog W 0 (fun _ => true) true Try.f10.params.toList args.toList ds p := hA0
  rw [Try.params10] at hA hval
  obtain ⟨v0, vs0, d0, ds0, p0, q0, hargs, rfl, rfl, h0, r0⟩ := trodAll_cons hA
  obtain ⟨v1, vs1, d1, ds1, p1, q1, rfl, rfl, rfl, h1, r1⟩ := trodAll_cons r0
  obtain ⟨v2, vs2, d2, ds2, p2, q2, rfl, rfl, rfl, h2, r2⟩ := trodAll_cons r1
  obtain ⟨rfl, rfl, rfl⟩ := trodAll_nil r2
  obtain rfl : args = #[v0, v1, v2] := by cases args; simp_all
  obtain ⟨A0, c0, l0, rfl, y0, z0⟩ := open_es h0 (okWide_slice Try.underlying22 (hval 0 22 v0 rfl rfl))
  obtain ⟨A1, c1, l1, rfl, y1, z1, u1⟩ := open_is_rd h1 (okWide_slice Try.underlying27 (hval 1 27 v1 rfl rfl))
  obtain ⟨i2, j2, rfl, u2⟩ := open_two Try.underlying36 Try.underlying3 (by kernel_rfl) (by kernel_rfl) (hval 2 36 v2 rfl rfl) h2
  refine (walk A0 l0 c0 A1 l1 c1 i2 j2 W y0 z0 y1 z1 (Lib.hid u1) (Lib.hid u2)).mono fun e W' ⟨h1, h2⟩ => ?_
  subst h1
  exact ⟨_, rfl, law_post laidOut (by kernel_rfl) Try.underlying4 rfl (by kernel_rfl) hW0 rfl h2⟩

theorem said : Rows.GraphFewerSaid :=
  OpenClaim.holds_of_wide 10 Try.f10 rfl rfl rfl rfl rfl rfl rfl ⟨rfl, rfl, rfl, rfl, rfl⟩ rfl rfl rfl rfl rfl (by kernel_rfl) Try.func10 (by kernel_rfl)
    (of_decide_eq_true (by kernel_rfl)) (by unfold Func.isWrapper; first | (rw [if_pos (by decide +kernel)]; kernel_rfl) | (rw [if_neg (by decide +kernel)]; exact ⟨rfl, rfl⟩))
    (fun os started H enc _ => lifted os started H enc)
end Go.Proofs.Ytlaklfiodmnocaa.lawFewer
