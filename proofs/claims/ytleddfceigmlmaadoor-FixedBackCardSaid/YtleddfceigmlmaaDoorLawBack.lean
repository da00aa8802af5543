/-
  The law FixedBack of the program holds: for every input that its row admits the call returns true, and the arguments read as before. Conditions: those of the row and of the card alone (the listed variables of the standard library as the program's text lays them).
-/
import Derived.Test.YtleddfceigmlmaaDoorEnvLaw
import Derived.Test.YtleddfceigmlmaaDoorArr
import Derived.Test.YtleddfceigmlmaaDoorBackPlain
namespace Go.Proofs.YtleddfceigmlmaaDoor.lawBack
open Go.ChangeShapes Go.WideShapes Go.ChangeAt Go.RowKit

/-- What the two halves of the exactness say. -/
theorem halves {ab qc c : Int} (h1 : qc ≤ ab) (h2 : ab < qc + c) (_ : 0 ≤ qc) (hc : 1 ≤ c) (hc2 : c ≤ 1125899906842624) :
    ¬ ab / 1125899906842624 < qc / 1125899906842624 ∧ (ab / 1125899906842624 = qc / 1125899906842624 → ¬ ab % 1125899906842624 < qc % 1125899906842624) ∧
    (¬ 1125899906842624 ≤ qc % 1125899906842624 + c → ab / 1125899906842624 = qc / 1125899906842624 ∧ ab % 1125899906842624 < qc % 1125899906842624 + c) ∧
    (1125899906842624 ≤ qc % 1125899906842624 + c → (ab / 1125899906842624 < qc / 1125899906842624 + (qc % 1125899906842624 + c) / 1125899906842624 ∨
      ab / 1125899906842624 = qc / 1125899906842624 + (qc % 1125899906842624 + c) / 1125899906842624 ∧ ab % 1125899906842624 < (qc % 1125899906842624 + c) % 1125899906842624)) := by
  refine ⟨by omega, fun h => by omega, fun h => by omega, fun h => by omega⟩
theorem len_print (x : Int) (h1 : -9223372036854775808 ≤ x) (h2 : x ≤ 9223372036854775807) : (printL x).length ≤ 25 := by
  unfold printL
  have := len_dec (u := x.natAbs / 1000) (by omega)
  have e : (dig3 (x.natAbs % 1000)).length = 3 := rfl
  rw [List.length_append, List.length_append, List.length_cons, e]
  split <;> simp <;> omega
/-- The world of each call: its environment, and the boxed argument. -/
def Z (w : World) (a b c : Int) (x : World) : Prop :=
  Env x ∧ Below w.heap.size w x ∧ w.heap.size < x.heap.size ∧ x.cell? ⟨w.heap.size, 0, none⟩ = some (.int .i64 a) ∧ x.cell? ⟨w.heap.size, 1, none⟩ = some (.int .i64 b) ∧ x.cell? ⟨w.heap.size, 2, none⟩ = some (.int .i64 c)
theorem Z.step {w : World} {a b c : Int} {x y : World} (h : Z w a b c x) (hb : Below x.heap.size x y) : Z w a b c y := by
  obtain ⟨h1, h2, h3, h4, h5, h6⟩ := h
  exact ⟨h1.below hb, h2.trans (hb.mono h2.size), Nat.lt_of_lt_of_le h3 hb.size, (hb.cell h3).trans h4, (hb.cell h3).trans h5, (hb.cell h3).trans h6⟩
theorem after_draw {w u v : World} {q : Nat} (h : Below w.heap.size w u) (d : ∃ n, v = (u.drewN q).drewN n) : Below w.heap.size w v := by
  obtain ⟨n, rfl⟩ := d
  exact below_drewN (below_drewN h q) n
theorem Z.start {w : World} (a b c : Int) (he : Env w) : Z w a b c (w.alloc (.cells #[.int .i64 a, .int .i64 b, .int .i64 c] 38)) := by
  have hb : Below w.heap.size w (w.alloc (.cells #[.int .i64 a, .int .i64 b, .int .i64 c] 38)) := (Below.refl _ _).alloc (Nat.le_refl _) _
  exact ⟨he.below hb, hb, by simp, by simp [World.cell?_alloc_new], by simp [World.cell?_alloc_new], by simp [World.cell?_alloc_new]⟩
set_option maxRecDepth 100000 in
set_option maxHeartbeats 2000000 in
theorem walk (x a b c : Int) (w : World) (he : Env w) (x1 : -9223372036854775808 ≤ x) (x2 : x ≤ 9223372036854775807) :
    Calls Tryd.prog 11 #[.int .i64 x, .agg #[.int .i64 a, .int .i64 b, .int .i64 c]] w fun e w' => e = .returned (.bool true) ∧ Below w.heap.size w w' := by
  have k0 := Lib.hid (fun w1 (h : Env w1) => alive_any w1 h)
  have kp := Lib.hid (fun w1 (h : Env w1) => print_any x w1 h x1 x2)
  have kq : ∀ w1, Env w1 → Calls Tryd.prog 25 #[.string ⟨(printL x).toArray⟩] w1 fun e w' => e = .returned (if -9999999999999 ≤ x ∧ x ≤ 9999999999999 then pairV x 0 else pairV 0 3) ∧ Below w1.heap.size w1 w' := fun w1 h => by
    have := parse_any ⟨(printL x).toArray⟩ w1 h (Nat.lt_of_le_of_lt (len_print x x1 x2) (by omega))
    rw [show (⟨(printL x).toArray⟩ : ByteArray).data.toList = printL x from rfl, parse_print] at this
    exact this
  have z0 := Lib.hid (Z.start a b c he)
  by_cases hx : -9999999999999 ≤ x ∧ x ≤ 9999999999999
  · rw [if_pos hx] at kq
    unfold pairV at kq
    have kq := Lib.hid kq
    obtain ⟨y1, y2⟩ := hx
    have kr := fun w => ratio_any a b c w
    rcases hk : ratOk a b c with _ | _
    · have hv : ratioV a b c = pairV 0 1 := by simp [ratioV, hk]
      rw [hv] at kr
      unfold pairV at kr
      have kr := Lib.hid kr
      clear hk hv
      go_enter Tryd.func11, Tryd.ntmps11
      go_wp2_with (first
        | (go_at_call 12; refine (k0.out _ z0.out.1).mono ?_; rintro e w1 ⟨rfl, d⟩; have z1 := Lib.hid (z0.out.step d); clear d)
        | (go_at_call 27; refine (kp.out _ z1.out.1).mono ?_; rintro e w2 ⟨rfl, d⟩; have z2 := Lib.hid (z1.out.step d); clear d)
        | (go_at_call 25; refine (kq.out _ z2.out.1).mono ?_; rintro e w3 ⟨rfl, d⟩; have z3 := Lib.hid (z2.out.step d); clear d; obtain ⟨g1, g2, g3⟩ := z3.out.2.2.2))
      go_quiet (fail)
      go_wp2_with (first
        | (go_at_call 19; refine (kr.out _).mono ?_; rintro e w4 ⟨rfl, d⟩; have z4 := Lib.hid (after_draw z3.out.2.1 d); clear d)
        | (go_at_call_of 29 a; refine (ka.out _).mono ?_; rintro e w' ⟨rfl, rfl⟩)
        | (go_at_call_of 29 q; refine (kc.out _).mono ?_; rintro e w' ⟨rfl, rfl⟩))
      go_ret
      exact ⟨by simp, z4.out⟩
    · have hv : ratioV a b c = ratV a b c := by simp [ratioV, hk]
      rw [hv] at kr
      obtain ⟨r1, r2, r3, r4, r5, r6⟩ := of_decide_eq_true hk
      by_cases hq : a * b / c ≤ 1125899906842624
      · have hw : ratV a b c = pairV (a * b / c) 0 := if_pos hq
        rw [hw] at kr
        unfold pairV at kr
        have q0 : 0 ≤ a * b / c := Int.ediv_nonneg (Int.mul_nonneg r1 r2) (by omega)
        have ka := fun w => product_any a b w r1 r2 r4 r5
        obtain ⟨e1, e2, e3⟩ := div_step (x := a * b) (c := c) (by omega)
        obtain ⟨q, hqq⟩ : ∃ q, a * b / c = q := ⟨_, rfl⟩
        rw [hqq] at kr q0 hq e1
        have kc := fun w => product_any q c w q0 (by omega) hq r6
        have qc0 : 0 ≤ q * c := Int.mul_nonneg q0 (by omega)
        obtain ⟨t1, t2, t3, t4⟩ := halves (ab := a * b) (qc := q * c) (c := c) (by omega) (by omega) qc0 r3 r6
        have m1 := Int.emod_nonneg (q * c) (show (1125899906842624 : Int) ≠ 0 by omega)
        have m2 := Int.emod_lt_of_pos (q * c) (show (0 : Int) < 1125899906842624 by omega)
        have m3 := Int.ediv_nonneg qc0 (show (0 : Int) ≤ 1125899906842624 by omega)
        have m4 : q * c / 1125899906842624 ≤ 1125899906842624 := by
          have := Int.mul_le_mul hq r6 (by omega) (show (0 : Int) ≤ 1125899906842624 by omega)
          omega
        have kr := Lib.hid kr
        generalize a * b / 1125899906842624 = HI at *
        generalize a * b % 1125899906842624 = fixedBack at *
        generalize q * c / 1125899906842624 = LW at *
        generalize q * c % 1125899906842624 = LT at *
        have ka := Lib.hid ka
        have kc := Lib.hid kc
        clear hk hv hw e1 e2 e3 hqq qc0
        by_cases hN : 1125899906842624 ≤ LT + c
        · have t4 := t4 hN
          clear t3
          have b0 : decide (HI < LW) = false := decide_eq_false t1
          by_cases hE : HI = LW
          · have b1 : decide (fixedBack < LT) = false := decide_eq_false (t2 hE)
            have b2 : (HI == LW) = true := by rw [hE]; exact beq_self_eq_true _
            clear t1 t2
            have hE := Lib.hid hE
            rcases t4 with t4 | ⟨t4, _⟩
            · have b3 : decide (HI < LW + (LT + c) / 1125899906842624) = true := decide_eq_true t4
              go_enter Tryd.func11, Tryd.ntmps11
              go_wp2_with (first
                | (go_at_call 12; refine (k0.out _ z0.out.1).mono ?_; rintro e w1 ⟨rfl, d⟩; have z1 := Lib.hid (z0.out.step d); clear d)
                | (go_at_call 27; refine (kp.out _ z1.out.1).mono ?_; rintro e w2 ⟨rfl, d⟩; have z2 := Lib.hid (z1.out.step d); clear d)
                | (go_at_call 25; refine (kq.out _ z2.out.1).mono ?_; rintro e w3 ⟨rfl, d⟩; have z3 := Lib.hid (z2.out.step d); clear d; obtain ⟨g1, g2, g3⟩ := z3.out.2.2.2))
              go_quiet (fail)
              go_wp2_with (first
                | (go_at_call 19; refine (kr.out _).mono ?_; rintro e w4 ⟨rfl, d⟩; have z4 := Lib.hid (after_draw z3.out.2.1 d); clear d)
                | (go_at_call_of 29 a; refine (ka.out _).mono ?_; rintro e w' ⟨rfl, rfl⟩)
                | (go_at_call_of 29 q; refine (kc.out _).mono ?_; rintro e w' ⟨rfl, rfl⟩))
              go_ret
              exact ⟨by simp, z4.out⟩
            · exact absurd t4 (by have := hE.out; omega)
          · have b2 : (HI == LW) = false := beq_eq_false_iff_ne.2 hE
            clear t1 t2 hE
            rcases t4 with t4 | ⟨t4, t5⟩
            · have b3 : decide (HI < LW + (LT + c) / 1125899906842624) = true := decide_eq_true t4
              go_enter Tryd.func11, Tryd.ntmps11
              go_wp2_with (first
                | (go_at_call 12; refine (k0.out _ z0.out.1).mono ?_; rintro e w1 ⟨rfl, d⟩; have z1 := Lib.hid (z0.out.step d); clear d)
                | (go_at_call 27; refine (kp.out _ z1.out.1).mono ?_; rintro e w2 ⟨rfl, d⟩; have z2 := Lib.hid (z1.out.step d); clear d)
                | (go_at_call 25; refine (kq.out _ z2.out.1).mono ?_; rintro e w3 ⟨rfl, d⟩; have z3 := Lib.hid (z2.out.step d); clear d; obtain ⟨g1, g2, g3⟩ := z3.out.2.2.2))
              go_quiet (fail)
              go_wp2_with (first
                | (go_at_call 19; refine (kr.out _).mono ?_; rintro e w4 ⟨rfl, d⟩; have z4 := Lib.hid (after_draw z3.out.2.1 d); clear d)
                | (go_at_call_of 29 a; refine (ka.out _).mono ?_; rintro e w' ⟨rfl, rfl⟩)
                | (go_at_call_of 29 q; refine (kc.out _).mono ?_; rintro e w' ⟨rfl, rfl⟩))
              go_ret
              exact ⟨by simp, z4.out⟩
            · have b3 : decide (HI < LW + (LT + c) / 1125899906842624) = false := decide_eq_false (by omega)
              have b4 : (HI == LW + (LT + c) / 1125899906842624) = true := beq_iff_eq.2 t4
              have b5 : decide (fixedBack < (LT + c) % 1125899906842624) = true := decide_eq_true t5
              have t4 := Lib.hid t4
              go_enter Tryd.func11, Tryd.ntmps11
              go_wp2_with (first
                | (go_at_call 12; refine (k0.out _ z0.out.1).mono ?_; rintro e w1 ⟨rfl, d⟩; have z1 := Lib.hid (z0.out.step d); clear d)
                | (go_at_call 27; refine (kp.out _ z1.out.1).mono ?_; rintro e w2 ⟨rfl, d⟩; have z2 := Lib.hid (z1.out.step d); clear d)
                | (go_at_call 25; refine (kq.out _ z2.out.1).mono ?_; rintro e w3 ⟨rfl, d⟩; have z3 := Lib.hid (z2.out.step d); clear d; obtain ⟨g1, g2, g3⟩ := z3.out.2.2.2))
              go_quiet (fail)
              go_wp2_with (first
                | (go_at_call 19; refine (kr.out _).mono ?_; rintro e w4 ⟨rfl, d⟩; have z4 := Lib.hid (after_draw z3.out.2.1 d); clear d)
                | (go_at_call_of 29 a; refine (ka.out _).mono ?_; rintro e w' ⟨rfl, rfl⟩)
                | (go_at_call_of 29 q; refine (kc.out _).mono ?_; rintro e w' ⟨rfl, rfl⟩))
              go_ret
              exact ⟨by simp, z4.out⟩
        · obtain ⟨hE, t5⟩ := t3 hN
          have b0 : decide (HI < LW) = false := decide_eq_false t1
          have b1 : decide (fixedBack < LT) = false := decide_eq_false (t2 hE)
          have b2 : (HI == LW) = true := by rw [hE]; exact beq_self_eq_true _
          have b5 : decide (fixedBack < LT + c) = true := decide_eq_true t5
          clear t1 t2 t3 t4
          have hE := Lib.hid hE
          go_enter Tryd.func11, Tryd.ntmps11
          go_wp2_with (first
            | (go_at_call 12; refine (k0.out _ z0.out.1).mono ?_; rintro e w1 ⟨rfl, d⟩; have z1 := Lib.hid (z0.out.step d); clear d)
            | (go_at_call 27; refine (kp.out _ z1.out.1).mono ?_; rintro e w2 ⟨rfl, d⟩; have z2 := Lib.hid (z1.out.step d); clear d)
            | (go_at_call 25; refine (kq.out _ z2.out.1).mono ?_; rintro e w3 ⟨rfl, d⟩; have z3 := Lib.hid (z2.out.step d); clear d; obtain ⟨g1, g2, g3⟩ := z3.out.2.2.2))
          go_quiet (fail)
          go_wp2_with (first
            | (go_at_call 19; refine (kr.out _).mono ?_; rintro e w4 ⟨rfl, d⟩; have z4 := Lib.hid (after_draw z3.out.2.1 d); clear d)
            | (go_at_call_of 29 a; refine (ka.out _).mono ?_; rintro e w' ⟨rfl, rfl⟩)
            | (go_at_call_of 29 q; refine (kc.out _).mono ?_; rintro e w' ⟨rfl, rfl⟩))
          go_ret
          exact ⟨by simp, z4.out⟩
      · have hw : ratV a b c = pairV 0 12 := if_neg hq
        rw [hw] at kr
        unfold pairV at kr
        have kr := Lib.hid kr
        clear hk hv hw hq
        go_enter Tryd.func11, Tryd.ntmps11
        go_wp2_with (first
          | (go_at_call 12; refine (k0.out _ z0.out.1).mono ?_; rintro e w1 ⟨rfl, d⟩; have z1 := Lib.hid (z0.out.step d); clear d)
          | (go_at_call 27; refine (kp.out _ z1.out.1).mono ?_; rintro e w2 ⟨rfl, d⟩; have z2 := Lib.hid (z1.out.step d); clear d)
          | (go_at_call 25; refine (kq.out _ z2.out.1).mono ?_; rintro e w3 ⟨rfl, d⟩; have z3 := Lib.hid (z2.out.step d); clear d; obtain ⟨g1, g2, g3⟩ := z3.out.2.2.2))
        go_quiet (fail)
        go_wp2_with (first
          | (go_at_call 19; refine (kr.out _).mono ?_; rintro e w4 ⟨rfl, d⟩; have z4 := Lib.hid (after_draw z3.out.2.1 d); clear d)
          | (go_at_call_of 29 a; refine (ka.out _).mono ?_; rintro e w' ⟨rfl, rfl⟩)
          | (go_at_call_of 29 q; refine (kc.out _).mono ?_; rintro e w' ⟨rfl, rfl⟩))
        go_ret
        exact ⟨by simp, z4.out⟩
  · rw [if_neg hx] at kq
    unfold pairV at kq
    have kq := Lib.hid kq
    have hx' : x < -9999999999999 ∨ (-9999999999999 ≤ x ∧ 9999999999999 < x) := by omega
    clear hx
    rcases hx' with hx | ⟨hx1, hx2⟩
    · skip
      have kr := fun w => ratio_any a b c w
      rcases hk : ratOk a b c with _ | _
      · have hv : ratioV a b c = pairV 0 1 := by simp [ratioV, hk]
        rw [hv] at kr
        unfold pairV at kr
        have kr := Lib.hid kr
        clear hk hv
        go_enter Tryd.func11, Tryd.ntmps11
        go_wp2_with (first
          | (go_at_call 12; refine (k0.out _ z0.out.1).mono ?_; rintro e w1 ⟨rfl, d⟩; have z1 := Lib.hid (z0.out.step d); clear d)
          | (go_at_call 27; refine (kp.out _ z1.out.1).mono ?_; rintro e w2 ⟨rfl, d⟩; have z2 := Lib.hid (z1.out.step d); clear d)
          | (go_at_call 25; refine (kq.out _ z2.out.1).mono ?_; rintro e w3 ⟨rfl, d⟩; have z3 := Lib.hid (z2.out.step d); clear d; obtain ⟨g1, g2, g3⟩ := z3.out.2.2.2))
        go_quiet (fail)
        go_wp2_with (first
          | (go_at_call 19; refine (kr.out _).mono ?_; rintro e w4 ⟨rfl, d⟩; have z4 := Lib.hid (after_draw z3.out.2.1 d); clear d)
          | (go_at_call_of 29 a; refine (ka.out _).mono ?_; rintro e w' ⟨rfl, rfl⟩)
          | (go_at_call_of 29 q; refine (kc.out _).mono ?_; rintro e w' ⟨rfl, rfl⟩))
        go_ret
        exact ⟨by simp, z4.out⟩
      · have hv : ratioV a b c = ratV a b c := by simp [ratioV, hk]
        rw [hv] at kr
        obtain ⟨r1, r2, r3, r4, r5, r6⟩ := of_decide_eq_true hk
        by_cases hq : a * b / c ≤ 1125899906842624
        · have hw : ratV a b c = pairV (a * b / c) 0 := if_pos hq
          rw [hw] at kr
          unfold pairV at kr
          have q0 : 0 ≤ a * b / c := Int.ediv_nonneg (Int.mul_nonneg r1 r2) (by omega)
          have ka := fun w => product_any a b w r1 r2 r4 r5
          obtain ⟨e1, e2, e3⟩ := div_step (x := a * b) (c := c) (by omega)
          obtain ⟨q, hqq⟩ : ∃ q, a * b / c = q := ⟨_, rfl⟩
          rw [hqq] at kr q0 hq e1
          have kc := fun w => product_any q c w q0 (by omega) hq r6
          have qc0 : 0 ≤ q * c := Int.mul_nonneg q0 (by omega)
          obtain ⟨t1, t2, t3, t4⟩ := halves (ab := a * b) (qc := q * c) (c := c) (by omega) (by omega) qc0 r3 r6
          have m1 := Int.emod_nonneg (q * c) (show (1125899906842624 : Int) ≠ 0 by omega)
          have m2 := Int.emod_lt_of_pos (q * c) (show (0 : Int) < 1125899906842624 by omega)
          have m3 := Int.ediv_nonneg qc0 (show (0 : Int) ≤ 1125899906842624 by omega)
          have m4 : q * c / 1125899906842624 ≤ 1125899906842624 := by
            have := Int.mul_le_mul hq r6 (by omega) (show (0 : Int) ≤ 1125899906842624 by omega)
            omega
          have kr := Lib.hid kr
          generalize a * b / 1125899906842624 = HI at *
          generalize a * b % 1125899906842624 = fixedBack at *
          generalize q * c / 1125899906842624 = LW at *
          generalize q * c % 1125899906842624 = LT at *
          have ka := Lib.hid ka
          have kc := Lib.hid kc
          clear hk hv hw e1 e2 e3 hqq qc0
          by_cases hN : 1125899906842624 ≤ LT + c
          · have t4 := t4 hN
            clear t3
            have b0 : decide (HI < LW) = false := decide_eq_false t1
            by_cases hE : HI = LW
            · have b1 : decide (fixedBack < LT) = false := decide_eq_false (t2 hE)
              have b2 : (HI == LW) = true := by rw [hE]; exact beq_self_eq_true _
              clear t1 t2
              have hE := Lib.hid hE
              rcases t4 with t4 | ⟨t4, _⟩
              · have b3 : decide (HI < LW + (LT + c) / 1125899906842624) = true := decide_eq_true t4
                go_enter Tryd.func11, Tryd.ntmps11
                go_wp2_with (first
                  | (go_at_call 12; refine (k0.out _ z0.out.1).mono ?_; rintro e w1 ⟨rfl, d⟩; have z1 := Lib.hid (z0.out.step d); clear d)
                  | (go_at_call 27; refine (kp.out _ z1.out.1).mono ?_; rintro e w2 ⟨rfl, d⟩; have z2 := Lib.hid (z1.out.step d); clear d)
                  | (go_at_call 25; refine (kq.out _ z2.out.1).mono ?_; rintro e w3 ⟨rfl, d⟩; have z3 := Lib.hid (z2.out.step d); clear d; obtain ⟨g1, g2, g3⟩ := z3.out.2.2.2))
                go_quiet (fail)
                go_wp2_with (first
                  | (go_at_call 19; refine (kr.out _).mono ?_; rintro e w4 ⟨rfl, d⟩; have z4 := Lib.hid (after_draw z3.out.2.1 d); clear d)
                  | (go_at_call_of 29 a; refine (ka.out _).mono ?_; rintro e w' ⟨rfl, rfl⟩)
                  | (go_at_call_of 29 q; refine (kc.out _).mono ?_; rintro e w' ⟨rfl, rfl⟩))
                go_ret
                exact ⟨by simp, z4.out⟩
              · exact absurd t4 (by have := hE.out; omega)
            · have b2 : (HI == LW) = false := beq_eq_false_iff_ne.2 hE
              clear t1 t2 hE
              rcases t4 with t4 | ⟨t4, t5⟩
              · have b3 : decide (HI < LW + (LT + c) / 1125899906842624) = true := decide_eq_true t4
                go_enter Tryd.func11, Tryd.ntmps11
                go_wp2_with (first
                  | (go_at_call 12; refine (k0.out _ z0.out.1).mono ?_; rintro e w1 ⟨rfl, d⟩; have z1 := Lib.hid (z0.out.step d); clear d)
                  | (go_at_call 27; refine (kp.out _ z1.out.1).mono ?_; rintro e w2 ⟨rfl, d⟩; have z2 := Lib.hid (z1.out.step d); clear d)
                  | (go_at_call 25; refine (kq.out _ z2.out.1).mono ?_; rintro e w3 ⟨rfl, d⟩; have z3 := Lib.hid (z2.out.step d); clear d; obtain ⟨g1, g2, g3⟩ := z3.out.2.2.2))
                go_quiet (fail)
                go_wp2_with (first
                  | (go_at_call 19; refine (kr.out _).mono ?_; rintro e w4 ⟨rfl, d⟩; have z4 := Lib.hid (after_draw z3.out.2.1 d); clear d)
                  | (go_at_call_of 29 a; refine (ka.out _).mono ?_; rintro e w' ⟨rfl, rfl⟩)
                  | (go_at_call_of 29 q; refine (kc.out _).mono ?_; rintro e w' ⟨rfl, rfl⟩))
                go_ret
                exact ⟨by simp, z4.out⟩
              · have b3 : decide (HI < LW + (LT + c) / 1125899906842624) = false := decide_eq_false (by omega)
                have b4 : (HI == LW + (LT + c) / 1125899906842624) = true := beq_iff_eq.2 t4
                have b5 : decide (fixedBack < (LT + c) % 1125899906842624) = true := decide_eq_true t5
                have t4 := Lib.hid t4
                go_enter Tryd.func11, Tryd.ntmps11
                go_wp2_with (first
                  | (go_at_call 12; refine (k0.out _ z0.out.1).mono ?_; rintro e w1 ⟨rfl, d⟩; have z1 := Lib.hid (z0.out.step d); clear d)
                  | (go_at_call 27; refine (kp.out _ z1.out.1).mono ?_; rintro e w2 ⟨rfl, d⟩; have z2 := Lib.hid (z1.out.step d); clear d)
                  | (go_at_call 25; refine (kq.out _ z2.out.1).mono ?_; rintro e w3 ⟨rfl, d⟩; have z3 := Lib.hid (z2.out.step d); clear d; obtain ⟨g1, g2, g3⟩ := z3.out.2.2.2))
                go_quiet (fail)
                go_wp2_with (first
                  | (go_at_call 19; refine (kr.out _).mono ?_; rintro e w4 ⟨rfl, d⟩; have z4 := Lib.hid (after_draw z3.out.2.1 d); clear d)
                  | (go_at_call_of 29 a; refine (ka.out _).mono ?_; rintro e w' ⟨rfl, rfl⟩)
                  | (go_at_call_of 29 q; refine (kc.out _).mono ?_; rintro e w' ⟨rfl, rfl⟩))
                go_ret
                exact ⟨by simp, z4.out⟩
          · obtain ⟨hE, t5⟩ := t3 hN
            have b0 : decide (HI < LW) = false := decide_eq_false t1
            have b1 : decide (fixedBack < LT) = false := decide_eq_false (t2 hE)
            have b2 : (HI == LW) = true := by rw [hE]; exact beq_self_eq_true _
            have b5 : decide (fixedBack < LT + c) = true := decide_eq_true t5
            clear t1 t2 t3 t4
            have hE := Lib.hid hE
            go_enter Tryd.func11, Tryd.ntmps11
            go_wp2_with (first
              | (go_at_call 12; refine (k0.out _ z0.out.1).mono ?_; rintro e w1 ⟨rfl, d⟩; have z1 := Lib.hid (z0.out.step d); clear d)
              | (go_at_call 27; refine (kp.out _ z1.out.1).mono ?_; rintro e w2 ⟨rfl, d⟩; have z2 := Lib.hid (z1.out.step d); clear d)
              | (go_at_call 25; refine (kq.out _ z2.out.1).mono ?_; rintro e w3 ⟨rfl, d⟩; have z3 := Lib.hid (z2.out.step d); clear d; obtain ⟨g1, g2, g3⟩ := z3.out.2.2.2))
            go_quiet (fail)
            go_wp2_with (first
              | (go_at_call 19; refine (kr.out _).mono ?_; rintro e w4 ⟨rfl, d⟩; have z4 := Lib.hid (after_draw z3.out.2.1 d); clear d)
              | (go_at_call_of 29 a; refine (ka.out _).mono ?_; rintro e w' ⟨rfl, rfl⟩)
              | (go_at_call_of 29 q; refine (kc.out _).mono ?_; rintro e w' ⟨rfl, rfl⟩))
            go_ret
            exact ⟨by simp, z4.out⟩
        · have hw : ratV a b c = pairV 0 12 := if_neg hq
          rw [hw] at kr
          unfold pairV at kr
          have kr := Lib.hid kr
          clear hk hv hw hq
          go_enter Tryd.func11, Tryd.ntmps11
          go_wp2_with (first
            | (go_at_call 12; refine (k0.out _ z0.out.1).mono ?_; rintro e w1 ⟨rfl, d⟩; have z1 := Lib.hid (z0.out.step d); clear d)
            | (go_at_call 27; refine (kp.out _ z1.out.1).mono ?_; rintro e w2 ⟨rfl, d⟩; have z2 := Lib.hid (z1.out.step d); clear d)
            | (go_at_call 25; refine (kq.out _ z2.out.1).mono ?_; rintro e w3 ⟨rfl, d⟩; have z3 := Lib.hid (z2.out.step d); clear d; obtain ⟨g1, g2, g3⟩ := z3.out.2.2.2))
          go_quiet (fail)
          go_wp2_with (first
            | (go_at_call 19; refine (kr.out _).mono ?_; rintro e w4 ⟨rfl, d⟩; have z4 := Lib.hid (after_draw z3.out.2.1 d); clear d)
            | (go_at_call_of 29 a; refine (ka.out _).mono ?_; rintro e w' ⟨rfl, rfl⟩)
            | (go_at_call_of 29 q; refine (kc.out _).mono ?_; rintro e w' ⟨rfl, rfl⟩))
          go_ret
          exact ⟨by simp, z4.out⟩
    · skip
      have kr := fun w => ratio_any a b c w
      rcases hk : ratOk a b c with _ | _
      · have hv : ratioV a b c = pairV 0 1 := by simp [ratioV, hk]
        rw [hv] at kr
        unfold pairV at kr
        have kr := Lib.hid kr
        clear hk hv
        go_enter Tryd.func11, Tryd.ntmps11
        go_wp2_with (first
          | (go_at_call 12; refine (k0.out _ z0.out.1).mono ?_; rintro e w1 ⟨rfl, d⟩; have z1 := Lib.hid (z0.out.step d); clear d)
          | (go_at_call 27; refine (kp.out _ z1.out.1).mono ?_; rintro e w2 ⟨rfl, d⟩; have z2 := Lib.hid (z1.out.step d); clear d)
          | (go_at_call 25; refine (kq.out _ z2.out.1).mono ?_; rintro e w3 ⟨rfl, d⟩; have z3 := Lib.hid (z2.out.step d); clear d; obtain ⟨g1, g2, g3⟩ := z3.out.2.2.2))
        go_quiet (fail)
        go_wp2_with (first
          | (go_at_call 19; refine (kr.out _).mono ?_; rintro e w4 ⟨rfl, d⟩; have z4 := Lib.hid (after_draw z3.out.2.1 d); clear d)
          | (go_at_call_of 29 a; refine (ka.out _).mono ?_; rintro e w' ⟨rfl, rfl⟩)
          | (go_at_call_of 29 q; refine (kc.out _).mono ?_; rintro e w' ⟨rfl, rfl⟩))
        go_ret
        exact ⟨by simp, z4.out⟩
      · have hv : ratioV a b c = ratV a b c := by simp [ratioV, hk]
        rw [hv] at kr
        obtain ⟨r1, r2, r3, r4, r5, r6⟩ := of_decide_eq_true hk
        by_cases hq : a * b / c ≤ 1125899906842624
        · have hw : ratV a b c = pairV (a * b / c) 0 := if_pos hq
          rw [hw] at kr
          unfold pairV at kr
          have q0 : 0 ≤ a * b / c := Int.ediv_nonneg (Int.mul_nonneg r1 r2) (by omega)
          have ka := fun w => product_any a b w r1 r2 r4 r5
          obtain ⟨e1, e2, e3⟩ := div_step (x := a * b) (c := c) (by omega)
          obtain ⟨q, hqq⟩ : ∃ q, a * b / c = q := ⟨_, rfl⟩
          rw [hqq] at kr q0 hq e1
          have kc := fun w => product_any q c w q0 (by omega) hq r6
          have qc0 : 0 ≤ q * c := Int.mul_nonneg q0 (by omega)
          obtain ⟨t1, t2, t3, t4⟩ := halves (ab := a * b) (qc := q * c) (c := c) (by omega) (by omega) qc0 r3 r6
          have m1 := Int.emod_nonneg (q * c) (show (1125899906842624 : Int) ≠ 0 by omega)
          have m2 := Int.emod_lt_of_pos (q * c) (show (0 : Int) < 1125899906842624 by omega)
          have m3 := Int.ediv_nonneg qc0 (show (0 : Int) ≤ 1125899906842624 by omega)
          have m4 : q * c / 1125899906842624 ≤ 1125899906842624 := by
            have := Int.mul_le_mul hq r6 (by omega) (show (0 : Int) ≤ 1125899906842624 by omega)
            omega
          have kr := Lib.hid kr
          generalize a * b / 1125899906842624 = HI at *
          generalize a * b % 1125899906842624 = fixedBack at *
          generalize q * c / 1125899906842624 = LW at *
          generalize q * c % 1125899906842624 = LT at *
          have ka := Lib.hid ka
          have kc := Lib.hid kc
          clear hk hv hw e1 e2 e3 hqq qc0
          by_cases hN : 1125899906842624 ≤ LT + c
          · have t4 := t4 hN
            clear t3
            have b0 : decide (HI < LW) = false := decide_eq_false t1
            by_cases hE : HI = LW
            · have b1 : decide (fixedBack < LT) = false := decide_eq_false (t2 hE)
              have b2 : (HI == LW) = true := by rw [hE]; exact beq_self_eq_true _
              clear t1 t2
              have hE := Lib.hid hE
              rcases t4 with t4 | ⟨t4, _⟩
              · have b3 : decide (HI < LW + (LT + c) / 1125899906842624) = true := decide_eq_true t4
                go_enter Tryd.func11, Tryd.ntmps11
                go_wp2_with (first
                  | (go_at_call 12; refine (k0.out _ z0.out.1).mono ?_; rintro e w1 ⟨rfl, d⟩; have z1 := Lib.hid (z0.out.step d); clear d)
                  | (go_at_call 27; refine (kp.out _ z1.out.1).mono ?_; rintro e w2 ⟨rfl, d⟩; have z2 := Lib.hid (z1.out.step d); clear d)
                  | (go_at_call 25; refine (kq.out _ z2.out.1).mono ?_; rintro e w3 ⟨rfl, d⟩; have z3 := Lib.hid (z2.out.step d); clear d; obtain ⟨g1, g2, g3⟩ := z3.out.2.2.2))
                go_quiet (fail)
                go_wp2_with (first
                  | (go_at_call 19; refine (kr.out _).mono ?_; rintro e w4 ⟨rfl, d⟩; have z4 := Lib.hid (after_draw z3.out.2.1 d); clear d)
                  | (go_at_call_of 29 a; refine (ka.out _).mono ?_; rintro e w' ⟨rfl, rfl⟩)
                  | (go_at_call_of 29 q; refine (kc.out _).mono ?_; rintro e w' ⟨rfl, rfl⟩))
                go_ret
                exact ⟨by simp, z4.out⟩
              · exact absurd t4 (by have := hE.out; omega)
            · have b2 : (HI == LW) = false := beq_eq_false_iff_ne.2 hE
              clear t1 t2 hE
              rcases t4 with t4 | ⟨t4, t5⟩
              · have b3 : decide (HI < LW + (LT + c) / 1125899906842624) = true := decide_eq_true t4
                go_enter Tryd.func11, Tryd.ntmps11
                go_wp2_with (first
                  | (go_at_call 12; refine (k0.out _ z0.out.1).mono ?_; rintro e w1 ⟨rfl, d⟩; have z1 := Lib.hid (z0.out.step d); clear d)
                  | (go_at_call 27; refine (kp.out _ z1.out.1).mono ?_; rintro e w2 ⟨rfl, d⟩; have z2 := Lib.hid (z1.out.step d); clear d)
                  | (go_at_call 25; refine (kq.out _ z2.out.1).mono ?_; rintro e w3 ⟨rfl, d⟩; have z3 := Lib.hid (z2.out.step d); clear d; obtain ⟨g1, g2, g3⟩ := z3.out.2.2.2))
                go_quiet (fail)
                go_wp2_with (first
                  | (go_at_call 19; refine (kr.out _).mono ?_; rintro e w4 ⟨rfl, d⟩; have z4 := Lib.hid (after_draw z3.out.2.1 d); clear d)
                  | (go_at_call_of 29 a; refine (ka.out _).mono ?_; rintro e w' ⟨rfl, rfl⟩)
                  | (go_at_call_of 29 q; refine (kc.out _).mono ?_; rintro e w' ⟨rfl, rfl⟩))
                go_ret
                exact ⟨by simp, z4.out⟩
              · have b3 : decide (HI < LW + (LT + c) / 1125899906842624) = false := decide_eq_false (by omega)
                have b4 : (HI == LW + (LT + c) / 1125899906842624) = true := beq_iff_eq.2 t4
                have b5 : decide (fixedBack < (LT + c) % 1125899906842624) = true := decide_eq_true t5
                have t4 := Lib.hid t4
                go_enter Tryd.func11, Tryd.ntmps11
                go_wp2_with (first
                  | (go_at_call 12; refine (k0.out _ z0.out.1).mono ?_; rintro e w1 ⟨rfl, d⟩; have z1 := Lib.hid (z0.out.step d); clear d)
                  | (go_at_call 27; refine (kp.out _ z1.out.1).mono ?_; rintro e w2 ⟨rfl, d⟩; have z2 := Lib.hid (z1.out.step d); clear d)
                  | (go_at_call 25; refine (kq.out _ z2.out.1).mono ?_; rintro e w3 ⟨rfl, d⟩; have z3 := Lib.hid (z2.out.step d); clear d; obtain ⟨g1, g2, g3⟩ := z3.out.2.2.2))
                go_quiet (fail)
                go_wp2_with (first
                  | (go_at_call 19; refine (kr.out _).mono ?_; rintro e w4 ⟨rfl, d⟩; have z4 := Lib.hid (after_draw z3.out.2.1 d); clear d)
                  | (go_at_call_of 29 a; refine (ka.out _).mono ?_; rintro e w' ⟨rfl, rfl⟩)
                  | (go_at_call_of 29 q; refine (kc.out _).mono ?_; rintro e w' ⟨rfl, rfl⟩))
                go_ret
                exact ⟨by simp, z4.out⟩
          · obtain ⟨hE, t5⟩ := t3 hN
            have b0 : decide (HI < LW) = false := decide_eq_false t1
            have b1 : decide (fixedBack < LT) = false := decide_eq_false (t2 hE)
            have b2 : (HI == LW) = true := by rw [hE]; exact beq_self_eq_true _
            have b5 : decide (fixedBack < LT + c) = true := decide_eq_true t5
            clear t1 t2 t3 t4
            have hE := Lib.hid hE
            go_enter Tryd.func11, Tryd.ntmps11
            go_wp2_with (first
              | (go_at_call 12; refine (k0.out _ z0.out.1).mono ?_; rintro e w1 ⟨rfl, d⟩; have z1 := Lib.hid (z0.out.step d); clear d)
              | (go_at_call 27; refine (kp.out _ z1.out.1).mono ?_; rintro e w2 ⟨rfl, d⟩; have z2 := Lib.hid (z1.out.step d); clear d)
              | (go_at_call 25; refine (kq.out _ z2.out.1).mono ?_; rintro e w3 ⟨rfl, d⟩; have z3 := Lib.hid (z2.out.step d); clear d; obtain ⟨g1, g2, g3⟩ := z3.out.2.2.2))
            go_quiet (fail)
            go_wp2_with (first
              | (go_at_call 19; refine (kr.out _).mono ?_; rintro e w4 ⟨rfl, d⟩; have z4 := Lib.hid (after_draw z3.out.2.1 d); clear d)
              | (go_at_call_of 29 a; refine (ka.out _).mono ?_; rintro e w' ⟨rfl, rfl⟩)
              | (go_at_call_of 29 q; refine (kc.out _).mono ?_; rintro e w' ⟨rfl, rfl⟩))
            go_ret
            exact ⟨by simp, z4.out⟩
        · have hw : ratV a b c = pairV 0 12 := if_neg hq
          rw [hw] at kr
          unfold pairV at kr
          have kr := Lib.hid kr
          clear hk hv hw hq
          go_enter Tryd.func11, Tryd.ntmps11
          go_wp2_with (first
            | (go_at_call 12; refine (k0.out _ z0.out.1).mono ?_; rintro e w1 ⟨rfl, d⟩; have z1 := Lib.hid (z0.out.step d); clear d)
            | (go_at_call 27; refine (kp.out _ z1.out.1).mono ?_; rintro e w2 ⟨rfl, d⟩; have z2 := Lib.hid (z1.out.step d); clear d)
            | (go_at_call 25; refine (kq.out _ z2.out.1).mono ?_; rintro e w3 ⟨rfl, d⟩; have z3 := Lib.hid (z2.out.step d); clear d; obtain ⟨g1, g2, g3⟩ := z3.out.2.2.2))
          go_quiet (fail)
          go_wp2_with (first
            | (go_at_call 19; refine (kr.out _).mono ?_; rintro e w4 ⟨rfl, d⟩; have z4 := Lib.hid (after_draw z3.out.2.1 d); clear d)
            | (go_at_call_of 29 a; refine (ka.out _).mono ?_; rintro e w' ⟨rfl, rfl⟩)
            | (go_at_call_of 29 q; refine (kc.out _).mono ?_; rintro e w' ⟨rfl, rfl⟩))
          go_ret
          exact ⟨by simp, z4.out⟩

set_option maxRecDepth 100000 in
theorem contract (H : Type) (enc : TypeId × Value → H) (W : World) (base : Nat) (args : Array Value) (ds gs : List (DataW H)) (before : List MemPlace)
    (hval : ∀ (j : Nat) t v, Tryd.f11.params[j]? = some t → args[j]? = some v → Value.okWide Tryd.prog W .any base t v)
    (hW : DataW.Whole enc Tryd.prog Tryd.f11.params.toList Rows.fixedBackSpec.vars false W args.toList ds gs before) (hL : laidMetH Tryd.prog Rows.fixedBackRow.laid W) (hS : W.ShapedOpen Tryd.prog) :
    Calls Tryd.prog 11 args W fun e W' => ∃ v, e = .returned v ∧ Rows.fixedBackSpec.post enc Tryd.prog Tryd.f11 false true false false W args v W' := by
  have hW0 := hW
  obtain ⟨p, q, hA0, hV, rfl, hfz, hnd⟩ := hW
  have hA : DataW.TrodAll enc Tryd.prog W 0 (fun _ => true) true Tryd.f11.params.toList args.toList ds p := hA0
  rw [Tryd.params11] at hA hval
  obtain ⟨v0, vs0, d0, ds0, p0, q0, hargs, rfl, rfl, h0, r0⟩ := trodAll_cons hA
  obtain ⟨v1, vs1, d1, ds1, p1, q1, rfl, rfl, rfl, h1, r1⟩ := trodAll_cons r0
  obtain ⟨rfl, rfl, rfl⟩ := trodAll_nil r1
  obtain rfl : args = #[v0, v1] := by cases args; simp_all
  obtain ⟨a0, rfl, _, _, z0⟩ := open_int Tryd.underlying3 (hval 0 3 v0 rfl rfl) h0
  have z0 := i64_bounds z0
  obtain ⟨e1, f1, g1, rfl, ze1, zf1, zg1⟩ := open_arr3 Tryd.underlying38 Tryd.underlying3 (by kernel_rfl) (by kernel_rfl) (hval 1 38 v1 rfl rfl) h1
  have he : Env W := env_of hL hS
  refine (walk a0 e1 f1 g1 W he z0.1 z0.2).mono fun e W' ⟨h1, h2⟩ => ?_
  subst h1
  exact ⟨_, rfl, law_post laidOut (by kernel_rfl) Tryd.underlying4 rfl (by kernel_rfl) hW0 rfl h2⟩

theorem reads (os : Os) {H : Type} (enc : TypeId × Value → H) : ∃ places, DataW.whole enc Tryd.prog ((World.laidAll Tryd.prog os Rows.fixedBackRow.laid).forCall (fun _ _ => 0) ⟨#[], #[.int .i64 0, .agg #[.int .i64 0, .int .i64 0, .int .i64 0]], []⟩).memory Tryd.f11.params.toList Rows.fixedBackSpec.vars false #[.int .i64 0, .agg #[.int .i64 0, .int .i64 0, .int .i64 0]].toList 8 = some ([.lit (.int .i64 0), .agg [.lit (.int .i64 0), .lit (.int .i64 0), .lit (.int .i64 0)]], [], places) :=
  ⟨[], by kernel_rfl⟩

set_option maxRecDepth 100000 in
theorem lifted (os : Os) (started : os.Started) (H : Type) (enc : TypeId × Value → H) (F : Stop.Interp) :
    ReturnsInHanded {} Tryd.checked os 11 .any ((OpenSpec.ofChange Rows.fixedBackSpec).preRow enc Tryd.prog Tryd.f11 Rows.fixedBackRow.domain false Rows.fixedBackRow.laid) (((OpenSpec.ofChange Rows.fixedBackSpec).at F).post enc Tryd.prog Tryd.f11 false true false false) := by
  obtain ⟨places, hx⟩ := reads os enc
  refine returnsInHanded_of_row (C := Tryd.checked) (s := OpenSpec.ofChange Rows.fixedBackSpec) own started (by kernel_rfl) Tryd.func11
    (witness_row_atRef (enc := enc) (C := Tryd.checked) false (World.laidAll Tryd.prog os Rows.fixedBackRow.laid) #[.int .i64 0, .agg #[.int .i64 0, .int .i64 0, .int .i64 0]] (World.laidAll_os _ _ _) (wit_vars os _) (wit_rows os _) (by kernel_rfl)
      (OpenSpec.preRow_of_cond 8 hx (by kernel_rfl) (fun k hk => by cases hk) (by kernel_rfl) (laidMet_laidAll _ (laid_fits os) (laid_ifaces os)))) ?_
  intro W base args ds gs before hval hW _ _ _ hL hS _
  exact contract H enc W base args ds gs before hval hW hL hS

theorem said : Rows.FixedBackSaid :=
  OpenClaim.holds_of_cond 11 Tryd.f11 rfl rfl rfl rfl rfl rfl rfl ⟨rfl, rfl, rfl, rfl, rfl⟩ rfl rfl rfl rfl rfl (by kernel_rfl) Tryd.func11 (by kernel_rfl)
    (of_decide_eq_true (by kernel_rfl)) (by unfold Func.isWrapper; first | (rw [if_pos (by decide +kernel)]; kernel_rfl) | (rw [if_neg (by decide +kernel)]; exact ⟨rfl, rfl⟩))
    (fun os started H enc _ F => by rw [OpenClaim.pre_eq_preRow]; exact lifted os started H enc F)

theorem plain (f : FuncId) (fn : Func) (hf : Tryd.pinned.checked.prog.funcNamed Rows.fixedBackRow.func = some f) (hfn : Tryd.pinned.checked.prog.funcs[f]? = some fn) :
    true = Tryd.pinned.checked.prog.looks [] ∧ ∀ (j : Nat) t, fn.params[j]? = some t → Tryd.pinned.checked.prog.wantsStandIn t = false := by
  obtain rfl : f = 11 := Option.some.inj ((show Tryd.prog.funcNamed Rows.fixedBackRow.func = some 11 by kernel_rfl).symm.trans hf) |>.symm
  obtain rfl : fn = Tryd.f11 := (Option.some.inj (Tryd.func11.symm.trans hfn)).symm
  refine ⟨by kernel_rfl, fun j t ht => ?_⟩
  have hall : (Tryd.f11.params.toList.all fun t => Tryd.prog.wantsStandIn t == false) = true := by kernel_rfl
  have := List.all_eq_true.1 hall t (Array.mem_def.1 (Array.mem_of_getElem? ht))
  exact beq_iff_eq.1 this

theorem card : Rows.FixedBackCardSaid :=
  Claim7.holds_tied_plain_at .later [] _ _ _ _ said (fun _ h => by cases h) (by kernel_rfl) (fun _ h => by cases h) fixedBack_row_tie rfl ⟨rfl, rfl⟩ (by kernel_rfl) rfl plain (by kernel_rfl)
end Go.Proofs.YtleddfceigmlmaaDoor.lawBack
