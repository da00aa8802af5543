/-
  The law FlowBounds of the program holds: for every input that its row admits the call returns true, and the arguments read as before. Conditions: those of the row alone.
-/
import Derived.Test.YtdemnbbofigcdaaInB
namespace Go.Proofs.Ytdemnbbofigcdaa.lawBounds
open Go.ChangeShapes Go.WideShapes Go.ChangeAt Go.RowKit

set_option maxRecDepth 100000 in
set_option maxHeartbeats 8000000 in
theorem walk (A0 : Option Addr) (l0 : List Ed) (c0 : Nat) (A1 : Option Addr) (l1 : List Int) (c1 : Nat) (A2 : Option Addr) (l2 : List Int) (c2 : Nat) (a3 : Int) (a4 : Int) (w : World) (m0 : l0.length ≤ 9223372036854775807) (q0 : l0.length ≤ c0) (p0 : Es w w.heap.size A0 l0) (_ : c1 ≤ maxLen) (p1 : Rd w w.heap.size A1 c1 (cellsI l1)) (_ : Hid (WfL l1)) (_ : c2 ≤ maxLen) (p2 : Rd w w.heap.size A2 c2 (cellsI l2)) (_ : Hid (WfL l2)) (_ : Hid ((Lit.int .i64 a3).wf = true)) (_ : Hid ((Lit.int .i64 a4).wf = true)) :
    Calls Try.prog 8 #[.slice A0 l0.length c0, .slice A1 l1.length c1, .slice A2 l2.length c2, .int .i64 a3, .int .i64 a4] w fun e w' => e = .returned (.bool true) ∧ Below w.heap.size w w' := by
  have kR := fun (W : World) (b : Below w.heap.size w W) => few_any A0 l0 c0 W (p0.up b) m0
  by_cases hr : l0.length ≤ 60 ∧ rightN l0 = 0
  · have hg := right_iff.1 hr.2
    have h60 := hr.1
    rw [decide_eq_true hr.1, decide_eq_true hr.2, Bool.and_true] at kR
    have kR := Lib.hid kR
    clear hr
    by_cases h100 : l1.length ≤ 100
    · by_cases h200 : l2.length ≤ 100
      · by_cases hst : a3 = a4
        · have hsb : (a3 == a4) = true := beq_iff_eq.2 hst
          clear p0 p1 p2 hg hst
          go_enter Try.func8, Try.ntmps8
          go_wp2_with (first
            | (go_at_call 11; refine (alive_any _).mono ?_; rintro e w1 ⟨rfl, b0⟩; (obtain ⟨hb3, b, hw⟩ := box_three b0); (have HK := Lib.hid (fun (W : World) (h : Below w1.heap.size w1 W) => box_keep hb3 hw h)); (have B1 := Lib.hid b); (have D1 := Lib.hid (Below.refl w1.heap.size w1)); clear b0 b hw hb3)
            | (go_at_call 12; (with_reducible refine ((kR.out w1 B1.out)).mono ?_); rintro e w2 ⟨rfl, b2⟩; (have D2 := Lib.hid (bthen D1.out b2)); (obtain ⟨y7, y8, y9⟩ := HK.out w2 D2.out); (have B2 := Lib.hid (bthen B1.out b2)); clear b2)
            | fail)
          go_ret
          exact ⟨rfl, B2.out⟩
        · have hsb : (a3 == a4) = false := beq_eq_false_iff_ne.2 hst
          have kB := fun (W : World) (b : Below w.heap.size w W) => bound_calls (p0.up b) q0 hg hst
          have kG := fun (W : World) (b : Below w.heap.size w W) => gValid_any A0 A1 l0 l1 c0 c1 a3 a4 W (p0.up b) q0 (p1.up b) hg (by omega)
          have KIn := Lib.hid (fun (n : Int) (W : World) (b : Below w.heap.size w W) (x7 : W.cell? ⟨w.heap.size, 0, none⟩ = some (.slice A2 l2.length c2)) (x8 : W.cell? ⟨w.heap.size + 1, 0, none⟩ = some (.int .i64 a3)) (x9 : W.cell? ⟨w.heap.size + 2, 0, none⟩ = some (.int .i64 a4)) => in_any A2 l2 c2 w.heap.size (w.heap.size + 1) (w.heap.size + 2) a3 a4 n W (p2.up b) h200 x7 x8 x9)
          have hXs := inB_s l2 a3 a4
          have hXt := inB_t l2 hst
          have hCS := Lib.hid (fun (k : Nat) (hk : k ≤ l0.length) => cost_sum hg (X := inB l2 a3 a4) hk)
          have hCB : Hid (∀ k, k < l0.length → 0 ≤ eC l0 k ∧ eC l0 k ≤ 1000000) := Lib.hid (fun k hk => (hg.2.1 _ (e_mem hk)).2.2.2.2)
          obtain ⟨SS, hSSe⟩ : ∃ SS : Nat → Int, SS = fun k => if inB l2 a3 a4 (eF l0 k) = true ∧ inB l2 a3 a4 (eT l0 k) = false then eC l0 k else 0 := ⟨_, rfl⟩
          have hSS : Hid (∀ k, sumK k SS + (if inB l2 a3 a4 (eF l0 k) = true ∧ inB l2 a3 a4 (eT l0 k) = false then eC l0 k else 0) = sumK (k + 1) SS) := Lib.hid (fun k => by rw [sumK]; rw [hSSe])
          have hcap : Hid (∀ v : Int, v ≤ capX l0 (inB l2 a3 a4) → v ≤ sumK l0.length SS) := Lib.hid (fun v h => by rw [hSSe]; exact h)
          have hS0 : Hid ((0 : Int) = sumK 0 SS) := Lib.hid rfl
          rw [← hSSe] at hCS
          have hXX : Hid (inB l2 a3 a4 a3 = true ∧ inB l2 a3 a4 a4 = false) := Lib.hid ⟨hXs, hXt⟩
          clear hXs hXt hSSe
          generalize inB l2 a3 a4 = XX at *
          have hmf : ∀ (fn : Fn) (first cap : Array Value) (w : World), (Instr.makeFunc fn first cap).run Try.prog w = .ok (.func fn first cap) w := fun _ _ _ _ => rfl
          have hP := Lib.hid p0
          by_cases hf : IsFlow l0 l1 a3 a4
          · rw [vB_iff.2 hf] at kG
            have hlw := hf.low hg
            have kN := fun (W : World) (b : Below w.heap.size w W) => gValue_any A0 A1 l0 l1 c0 c1 a3 W (p0.up b) q0 (p1.up b) hlw
            have hF := Lib.hid hf
            have KB := Lib.hid kB
            have KG := Lib.hid kG
            have KN := Lib.hid kN
            clear kB kG kN p0 p1 p2 hg hst hf hlw
            go_enter Try.func8, Try.ntmps8
            go_wp2_with (first
              | (go_at_call 11; refine (alive_any _).mono ?_; rintro e w1 ⟨rfl, b0⟩; (obtain ⟨hb3, b, hw⟩ := box_three b0); (have HK := Lib.hid (fun (W : World) (h : Below w1.heap.size w1 W) => box_keep hb3 hw h)); (have B1 := Lib.hid b); (have D1 := Lib.hid (Below.refl w1.heap.size w1)); clear b0 b hw hb3)
              | (go_at_call 12; (with_reducible refine ((kR.out w1 B1.out)).mono ?_); rintro e w2 ⟨rfl, b2⟩; (have D2 := Lib.hid (bthen D1.out b2)); (obtain ⟨y7, y8, y9⟩ := HK.out w2 D2.out); (have B2 := Lib.hid (bthen B1.out b2)); clear b2)
              | (go_at_call 17; (with_reducible refine (KB.out w2 B2.out).mono ?_); rintro e w3 ⟨v, rfl, b3, hv1, hv2⟩; (have D3 := Lib.hid (bthen D2.out b3)); (obtain ⟨y7, y8, y9⟩ := HK.out w3 D3.out); (have hzv : net l0 l1 a3 ≤ v := hv1 l1 hF.out); (have HVX : Hid (v ≤ sumK l0.length SS) := Lib.hid (hcap.out v (hv2 XX hXX.out.1 hXX.out.2))); (have B3 := Lib.hid (bthen B2.out b3)); clear b3 hv1 hv2)
              | (go_at_call 14; (with_reducible refine (KG.out w3 B3.out).mono ?_); rintro e w4 ⟨rfl, b4⟩; (have D4 := Lib.hid (bthen D3.out b4)); (obtain ⟨y7, y8, y9⟩ := HK.out w4 D4.out); (have B4 := Lib.hid (bthen B3.out b4)); clear b4)
              | (go_at_call 15; (with_reducible refine (KN.out w4 B4.out).mono ?_); rintro e w5 ⟨rfl, b5⟩; (have D5 := Lib.hid (bthen D4.out b5)); (obtain ⟨y7, y8, y9⟩ := HK.out w5 D5.out); (have B5 := Lib.hid (bthen B4.out b5)); clear b5)
              | fail)
            obtain ⟨v0, hv0⟩ : ∃ v0 : Int, v0 = v := ⟨v, rfl⟩
            go_loop [13, 14] (fun z i => ∃ (k : Nat) (y : Int), k ≤ l0.length ∧ i = .int .i64 k ∧ z = .int .i64 y ∧ Hid (y = sumK k SS)) (fun _ i => l0.length - (intOf i).toNat)
            case atStart => exact ⟨0, 0, by omega, rfl, rfl, hS0⟩
            case round =>
              clear hS0 hv0
              obtain ⟨k, y, hk, rfl, rfl, hy⟩ := hrel
              by_cases hlt : k < l0.length
              · obtain ⟨ad, rfl, hab, x0, x1, x2, x3⟩ := (hP.out.up B5.out).get hlt
                have hin1 := Lib.hid (KIn.out (eF l0 k) w5 B5.out y7 y8 y9)
                have hin2 := Lib.hid (KIn.out (eT l0 k) w5 B5.out y7 y8 y9)
                have hcs := hCS.out k hk
                have hst := Lib.hid (hSS.out k)
                have hcb := hCB.out k hlt
                obtain ⟨hcb0, hcb1⟩ := hcb
                rw [← hy.out] at hcs
                obtain ⟨hcs0, hcs1⟩ := hcs
                have hY := hy
                clear hy KIn hSS hCS hCB hP HVX
                generalize eF l0 k = e1 at *
                generalize eT l0 k = e2 at *
                generalize eC l0 k = e3 at *
                generalize eI l0 k = e0 at *
                obtain ⟨q1, hq1⟩ : ∃ b, XX e1 = b := ⟨_, rfl⟩
                obtain ⟨q2, hq2⟩ : ∃ b, XX e2 = b := ⟨_, rfl⟩
                rw [hq1] at hin1 hst
                rw [hq2] at hin2 hst
                have hik : (k : Int) < (l0.length : Int) := by omega
                have hi0 : (0 : Int) ≤ (k : Int) := by omega
                clear hq1 hq2
                have hcase : q1 = false ∨ (q1 = true ∧ q2 = true) ∨ (q1 = true ∧ q2 = false) := by cases q1 <;> cases q2 <;> simp
                by_cases hk0 : k = 0
                all_goals
                  first
                    | (subst hk0; have x1 : w5.cell? { block := ad.block, off := ad.off + 1 } = some (.int .i64 e1) := x1; have x2 : w5.cell? { block := ad.block, off := ad.off + 2 } = some (.int .i64 e2) := x2; have x3 : w5.cell? { block := ad.block, off := ad.off + 3 } = some (.int .i64 e3) := x3)
                    | skip
                  rcases hcase with rfl | ⟨rfl, rfl⟩ | ⟨rfl, rfl⟩
                  · rw [if_neg (by simp), Int.add_zero, ← hY.out] at hst
                    go_wp2_with (go_at_call 25; (with_reducible refine (hin1.out).mono ?_); rintro e wq ⟨rfl, rfl⟩)
                    first
                      | exact ⟨⟨1, y, by omega, rfl, rfl, hst⟩, by simp [intOf]; omega⟩
                      | exact ⟨⟨k + 1, y, by omega, by go_num, rfl, hst⟩, by simp [intOf]; omega⟩
                  · rw [if_neg (by simp), Int.add_zero, ← hY.out] at hst
                    go_wp2_with (first
                      | (go_at_call 25; (with_reducible refine (hin1.out).mono ?_); rintro e wq ⟨rfl, rfl⟩)
                      | (go_at_call 25; (with_reducible refine (hin2.out).mono ?_); rintro e wq ⟨rfl, rfl⟩))
                    first
                      | exact ⟨⟨1, y, by omega, rfl, rfl, hst⟩, by simp [intOf]; omega⟩
                      | exact ⟨⟨k + 1, y, by omega, by go_num, rfl, hst⟩, by simp [intOf]; omega⟩
                  · rw [if_pos (by simp), ← hY.out] at hst
                    go_wp2_with (first
                      | (go_at_call 25; (with_reducible refine (hin1.out).mono ?_); rintro e wq ⟨rfl, rfl⟩)
                      | (go_at_call 25; (with_reducible refine (hin2.out).mono ?_); rintro e wq ⟨rfl, rfl⟩))
                    first
                      | exact ⟨⟨1, y + e3, by omega, rfl, by go_num, hst⟩, by simp [intOf]; omega⟩
                      | exact ⟨⟨k + 1, y + e3, by omega, by go_num, by go_num, hst⟩, by simp [intOf]; omega⟩
              · obtain rfl : k = l0.length := by omega
                have hvy : v ≤ y := by rw [hy.out]; exact HVX.out
                clear hy KIn hSS hCS hCB hP HVX
                go_wp2
                go_ret
                exact ⟨by simp, B5.out⟩
          · rw [vB_not.2 hf] at kG
            have KB := Lib.hid kB
            have KG := Lib.hid kG
            clear kB kG p0 p1 p2 hg hst hf
            go_enter Try.func8, Try.ntmps8
            go_wp2_with (first
              | (go_at_call 11; refine (alive_any _).mono ?_; rintro e w1 ⟨rfl, b0⟩; (obtain ⟨hb3, b, hw⟩ := box_three b0); (have HK := Lib.hid (fun (W : World) (h : Below w1.heap.size w1 W) => box_keep hb3 hw h)); (have B1 := Lib.hid b); (have D1 := Lib.hid (Below.refl w1.heap.size w1)); clear b0 b hw hb3)
              | (go_at_call 12; (with_reducible refine ((kR.out w1 B1.out)).mono ?_); rintro e w2 ⟨rfl, b2⟩; (have D2 := Lib.hid (bthen D1.out b2)); (obtain ⟨y7, y8, y9⟩ := HK.out w2 D2.out); (have B2 := Lib.hid (bthen B1.out b2)); clear b2)
              | (go_at_call 17; (with_reducible refine (KB.out w2 B2.out).mono ?_); rintro e w3 ⟨v, rfl, b3, hv1, hv2⟩; (have D3 := Lib.hid (bthen D2.out b3)); (obtain ⟨y7, y8, y9⟩ := HK.out w3 D3.out); (have HVX : Hid (v ≤ sumK l0.length SS) := Lib.hid (hcap.out v (hv2 XX hXX.out.1 hXX.out.2))); (have B3 := Lib.hid (bthen B2.out b3)); clear b3 hv1 hv2)
              | (go_at_call 14; (with_reducible refine (KG.out w3 B3.out).mono ?_); rintro e w4 ⟨rfl, b4⟩; (have D4 := Lib.hid (bthen D3.out b4)); (obtain ⟨y7, y8, y9⟩ := HK.out w4 D4.out); (have B4 := Lib.hid (bthen B3.out b4)); clear b4)
              | fail)
            obtain ⟨v0, hv0⟩ : ∃ v0 : Int, v0 = v := ⟨v, rfl⟩
            go_loop [13, 14] (fun z i => ∃ (k : Nat) (y : Int), k ≤ l0.length ∧ i = .int .i64 k ∧ z = .int .i64 y ∧ Hid (y = sumK k SS)) (fun _ i => l0.length - (intOf i).toNat)
            case atStart => exact ⟨0, 0, by omega, rfl, rfl, hS0⟩
            case round =>
              clear hS0 hv0
              obtain ⟨k, y, hk, rfl, rfl, hy⟩ := hrel
              by_cases hlt : k < l0.length
              · obtain ⟨ad, rfl, hab, x0, x1, x2, x3⟩ := (hP.out.up B4.out).get hlt
                have hin1 := Lib.hid (KIn.out (eF l0 k) w4 B4.out y7 y8 y9)
                have hin2 := Lib.hid (KIn.out (eT l0 k) w4 B4.out y7 y8 y9)
                have hcs := hCS.out k hk
                have hst := Lib.hid (hSS.out k)
                have hcb := hCB.out k hlt
                obtain ⟨hcb0, hcb1⟩ := hcb
                rw [← hy.out] at hcs
                obtain ⟨hcs0, hcs1⟩ := hcs
                have hY := hy
                clear hy KIn hSS hCS hCB hP HVX
                generalize eF l0 k = e1 at *
                generalize eT l0 k = e2 at *
                generalize eC l0 k = e3 at *
                generalize eI l0 k = e0 at *
                obtain ⟨q1, hq1⟩ : ∃ b, XX e1 = b := ⟨_, rfl⟩
                obtain ⟨q2, hq2⟩ : ∃ b, XX e2 = b := ⟨_, rfl⟩
                rw [hq1] at hin1 hst
                rw [hq2] at hin2 hst
                have hik : (k : Int) < (l0.length : Int) := by omega
                have hi0 : (0 : Int) ≤ (k : Int) := by omega
                clear hq1 hq2
                have hcase : q1 = false ∨ (q1 = true ∧ q2 = true) ∨ (q1 = true ∧ q2 = false) := by cases q1 <;> cases q2 <;> simp
                by_cases hk0 : k = 0
                all_goals
                  first
                    | (subst hk0; have x1 : w4.cell? { block := ad.block, off := ad.off + 1 } = some (.int .i64 e1) := x1; have x2 : w4.cell? { block := ad.block, off := ad.off + 2 } = some (.int .i64 e2) := x2; have x3 : w4.cell? { block := ad.block, off := ad.off + 3 } = some (.int .i64 e3) := x3)
                    | skip
                  rcases hcase with rfl | ⟨rfl, rfl⟩ | ⟨rfl, rfl⟩
                  · rw [if_neg (by simp), Int.add_zero, ← hY.out] at hst
                    go_wp2_with (go_at_call 25; (with_reducible refine (hin1.out).mono ?_); rintro e wq ⟨rfl, rfl⟩)
                    first
                      | exact ⟨⟨1, y, by omega, rfl, rfl, hst⟩, by simp [intOf]; omega⟩
                      | exact ⟨⟨k + 1, y, by omega, by go_num, rfl, hst⟩, by simp [intOf]; omega⟩
                  · rw [if_neg (by simp), Int.add_zero, ← hY.out] at hst
                    go_wp2_with (first
                      | (go_at_call 25; (with_reducible refine (hin1.out).mono ?_); rintro e wq ⟨rfl, rfl⟩)
                      | (go_at_call 25; (with_reducible refine (hin2.out).mono ?_); rintro e wq ⟨rfl, rfl⟩))
                    first
                      | exact ⟨⟨1, y, by omega, rfl, rfl, hst⟩, by simp [intOf]; omega⟩
                      | exact ⟨⟨k + 1, y, by omega, by go_num, rfl, hst⟩, by simp [intOf]; omega⟩
                  · rw [if_pos (by simp), ← hY.out] at hst
                    go_wp2_with (first
                      | (go_at_call 25; (with_reducible refine (hin1.out).mono ?_); rintro e wq ⟨rfl, rfl⟩)
                      | (go_at_call 25; (with_reducible refine (hin2.out).mono ?_); rintro e wq ⟨rfl, rfl⟩))
                    first
                      | exact ⟨⟨1, y + e3, by omega, rfl, by go_num, hst⟩, by simp [intOf]; omega⟩
                      | exact ⟨⟨k + 1, y + e3, by omega, by go_num, by go_num, hst⟩, by simp [intOf]; omega⟩
              · obtain rfl : k = l0.length := by omega
                have hvy : v ≤ y := by rw [hy.out]; exact HVX.out
                clear hy KIn hSS hCS hCB hP HVX
                go_wp2
                go_ret
                exact ⟨by simp, B4.out⟩
      · have h200' : (l2.length : Int) > 100 := by omega
        clear p0 p1 p2 hg
        go_enter Try.func8, Try.ntmps8
        go_wp2_with (first
          | (go_at_call 11; refine (alive_any _).mono ?_; rintro e w1 ⟨rfl, b0⟩; (obtain ⟨hb3, b, hw⟩ := box_three b0); (have HK := Lib.hid (fun (W : World) (h : Below w1.heap.size w1 W) => box_keep hb3 hw h)); (have B1 := Lib.hid b); (have D1 := Lib.hid (Below.refl w1.heap.size w1)); clear b0 b hw hb3)
          | (go_at_call 12; (with_reducible refine ((kR.out w1 B1.out)).mono ?_); rintro e w2 ⟨rfl, b2⟩; (have D2 := Lib.hid (bthen D1.out b2)); (obtain ⟨y7, y8, y9⟩ := HK.out w2 D2.out); (have B2 := Lib.hid (bthen B1.out b2)); clear b2)
          | fail)
        go_ret
        exact ⟨rfl, B2.out⟩
    · have h100' : (l1.length : Int) > 100 := by omega
      clear p0 p1 p2 hg
      go_enter Try.func8, Try.ntmps8
      go_wp2_with (first
        | (go_at_call 11; refine (alive_any _).mono ?_; rintro e w1 ⟨rfl, b0⟩; (obtain ⟨hb3, b, hw⟩ := box_three b0); (have HK := Lib.hid (fun (W : World) (h : Below w1.heap.size w1 W) => box_keep hb3 hw h)); (have B1 := Lib.hid b); (have D1 := Lib.hid (Below.refl w1.heap.size w1)); clear b0 b hw hb3)
        | (go_at_call 12; (with_reducible refine ((kR.out w1 B1.out)).mono ?_); rintro e w2 ⟨rfl, b2⟩; (have D2 := Lib.hid (bthen D1.out b2)); (obtain ⟨y7, y8, y9⟩ := HK.out w2 D2.out); (have B2 := Lib.hid (bthen B1.out b2)); clear b2)
        | fail)
      go_ret
      exact ⟨rfl, B2.out⟩
  · have hx : (decide (l0.length ≤ 60) && decide (rightN l0 = 0)) = false := by
      rw [Bool.and_eq_false_iff]
      by_cases h : l0.length ≤ 60
      · exact .inr (decide_eq_false (fun h2 => hr ⟨h, h2⟩))
      · exact .inl (decide_eq_false h)
    rw [hx] at kR
    have kR := Lib.hid kR
    clear hr hx p0 p1 p2
    go_enter Try.func8, Try.ntmps8
    go_wp2_with (first
      | (go_at_call 11; refine (alive_any _).mono ?_; rintro e w1 ⟨rfl, b0⟩; (obtain ⟨hb3, b, hw⟩ := box_three b0); (have HK := Lib.hid (fun (W : World) (h : Below w1.heap.size w1 W) => box_keep hb3 hw h)); (have B1 := Lib.hid b); (have D1 := Lib.hid (Below.refl w1.heap.size w1)); clear b0 b hw hb3)
      | (go_at_call 12; (with_reducible refine ((kR.out w1 B1.out)).mono ?_); rintro e w2 ⟨rfl, b2⟩; (have B2 := Lib.hid (bthen B1.out b2)); clear b2)
      | fail)
    go_ret
    exact ⟨rfl, B2.out⟩

set_option maxRecDepth 100000 in
theorem lifted (os : Os) (started : os.Started) (H : Type) (enc : TypeId × Value → H) :
    ReturnsInHanded {} Try.checked os 8 .any (Rows.flowBoundsSpec.pre6 enc Try.prog Try.f8 Rows.flowBoundsRow.domain false) (Rows.flowBoundsSpec.post enc Try.prog Try.f8 false true false false) := by
  refine returnsInHanded_of_change (C := Try.checked) own started (by kernel_rfl) Try.func8
    (ChangeSpec.witness6 (enc := enc) (C := Try.checked) false ⟨#[], #[.slice none 0 0, .slice none 0 0, .slice none 0 0, .int .i64 0, .int .i64 0], []⟩ 8 (by kernel_rfl) (by kernel_rfl) (by kernel_rfl) (by kernel_rfl)) ?_
  intro W base args ds gs before hval0 hW _ _
  have hval : ∀ (j : Nat) t v, Try.f8.params[j]? = some t → args[j]? = some v → Value.okWide Try.prog W .any base t v := hval0
  have hW0 := hW
  obtain ⟨p, q, hA0, hV, rfl, hfz, hnd⟩ := hW
  have hA : DataW.TrodAll enc Try.prog W 0 (fun _ => true) true Try.f8.params.toList args.toList ds p := hA0
  rw [Try.params8] at hA hval
  obtain ⟨v0, vs0, d0, ds0, p0, q0, hargs, rfl, rfl, h0, r0⟩ := trodAll_cons hA
  obtain ⟨v1, vs1, d1, ds1, p1, q1, rfl, rfl, rfl, h1, r1⟩ := trodAll_cons r0
  obtain ⟨v2, vs2, d2, ds2, p2, q2, rfl, rfl, rfl, h2, r2⟩ := trodAll_cons r1
  obtain ⟨v3, vs3, d3, ds3, p3, q3, rfl, rfl, rfl, h3, r3⟩ := trodAll_cons r2
  obtain ⟨v4, vs4, d4, ds4, p4, q4, rfl, rfl, rfl, h4, r4⟩ := trodAll_cons r3
  obtain ⟨rfl, rfl, rfl⟩ := trodAll_nil r4
  obtain rfl : args = #[v0, v1, v2, v3, v4] := by cases args; simp_all
  obtain ⟨A0, c0, l0, rfl, y0, x0, z0⟩ := open_es h0 (okWide_slice Try.underlying22 (hval 0 22 v0 rfl rfl))
  obtain ⟨A1, c1, l1, rfl, y1, z1, u1⟩ := open_is_rd h1 (okWide_slice Try.underlying23 (hval 1 23 v1 rfl rfl))
  obtain ⟨A2, c2, l2, rfl, y2, z2, u2⟩ := open_is_rd h2 (okWide_slice Try.underlying23 (hval 2 23 v2 rfl rfl))
  obtain ⟨a3, rfl, _, _, u3⟩ := open_int Try.underlying3 (hval 3 3 v3 rfl rfl) h3
  obtain ⟨a4, rfl, _, _, u4⟩ := open_int Try.underlying3 (hval 4 3 v4 rfl rfl) h4
  refine (walk A0 l0 c0 A1 l1 c1 A2 l2 c2 a3 a4 W y0 x0 z0 y1 z1 (Lib.hid u1) y2 z2 (Lib.hid u2) (Lib.hid u3) (Lib.hid u4)).mono fun e W' ⟨h1, h2⟩ => ?_
  subst h1
  exact ⟨_, rfl, law_post laidOut (by kernel_rfl) Try.underlying4 rfl (by kernel_rfl) hW0 rfl h2⟩

theorem said : Rows.FlowBoundsSaid :=
  OpenClaim.holds_of_wide 8 Try.f8 rfl rfl rfl rfl rfl rfl rfl ⟨rfl, rfl, rfl, rfl, rfl⟩ rfl rfl rfl rfl rfl (by kernel_rfl) Try.func8 (by kernel_rfl)
    (of_decide_eq_true (by kernel_rfl)) (by unfold Func.isWrapper; first | (rw [if_pos (by decide +kernel)]; kernel_rfl) | (rw [if_neg (by decide +kernel)]; exact ⟨rfl, rfl⟩))
    (fun os started H enc _ => lifted os started H enc)
end Go.Proofs.Ytdemnbbofigcdaa.lawBounds
