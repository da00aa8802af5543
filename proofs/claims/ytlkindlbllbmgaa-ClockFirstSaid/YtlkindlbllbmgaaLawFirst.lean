/-
  The law ClockFirst of the program holds: for every input that its row admits the call returns true, and the arguments read as before. Conditions: those of the row alone.
-/
import Derived.Test.YtlkindlbllbmgaaLaw
import Derived.Test.YtlkindlbllbmgaaAlive
namespace Go.Proofs.Ytlkindlbllbmgaa.lawFirst
open Go.ChangeShapes Go.WideShapes Go.ChangeAt Go.RowKit

theorem next_of {l : List Hr} {t : Int} (h : nextB l t = true) : nextOk l t (nextU l t) := by
  unfold nextB at h
  obtain ⟨u, hu⟩ := @of_decide_eq_true _ (Classical.propDecidable _) h
  rw [(next_yes hu).1]
  exact hu
theorem next_none {l : List Hr} {t : Int} (h : nextB l t = false) : nextNo l t ∧ nextU l t = 0 := by
  unfold nextB at h
  have hn := @of_decide_eq_false _ (Classical.propDecidable _) h
  have hno : nextNo l t := by
    rcases Classical.em (∃ v, t ≤ v ∧ inH l v) with ⟨v, h1, h2⟩ | hem
    · -- the least one: by induction on how far v lies above t
      have key : ∀ (m : Nat) (v : Int), t ≤ v → v - t < m → inH l v → ∃ u, nextOk l t u := by
        intro m
        induction m with
        | zero => intro v h1 h2 _; omega
        | succ m ih =>
          intro v h1 h2 h3
          rcases Classical.em (∃ x, t ≤ x ∧ x < v ∧ inH l x) with ⟨x, x1, x2, x3⟩ | hx
          · exact ih x x1 (by omega) x3
          · exact ⟨v, h1, h3, fun x x1 x2 x3 => hx ⟨x, x1, x2, x3⟩⟩
      exact absurd (key ((v - t).toNat + 1) v h1 (by omega) h2) hn
    · exact fun v h1 h2 => hem ⟨v, h1, h2⟩
  exact ⟨hno, (next_not hno).1⟩
theorem week_facts {l : List Hr} {u : Int} (h0 : 0 ≤ u) (h1 : u ≤ 19395200) : inHB l (u + 604800) = inHB l u ∧ wdV (u + 604800) = wdV u ∧ dayV (u + 604800) = dayV u + 7 ∧ dayV u * 86400 + secV u = u ∧ 0 ≤ dayV u ∧ dayV u ≤ 300 ∧ 0 ≤ secV u ∧ secV u ≤ 86399 := by
  have t1 : timeB u = true := timeB_mk ⟨h0, by omega⟩
  have t2 : timeB (u + 604800) = true := timeB_mk ⟨by omega, by omega⟩
  have e1 : dayV u = u / 86400 := by simp [dayV, t1]
  have e2 : dayV (u + 604800) = (u + 604800) / 86400 := by simp [dayV, t2]
  have e3 : secV u = u % 86400 := by simp [secV, t1]
  have e4 : wdV u = u / 86400 % 7 := by simp [wdV, t1]
  have e5 : wdV (u + 604800) = (u + 604800) / 86400 % 7 := by simp [wdV, t2]
  refine ⟨?_, by rw [e4, e5]; omega, by rw [e1, e2]; omega, by rw [e1, e3]; omega, by rw [e1]; omega, by rw [e1]; omega, by rw [e3]; omega, by rw [e3]; omega⟩
  rcases Classical.em (inH l u) with h | h
  · rw [inHB_true h, inHB_true ((inH_week h0 (by omega)).1 h)]
  · rw [inHB_false h, inHB_false fun k => h ((inH_week h0 (by omega)).2 k)]

set_option maxRecDepth 100000 in
set_option maxHeartbeats 4000000 in
theorem walk (A0 : Option Addr) (l0 : List Hr) (c0 : Nat) (a1 : Int) (a2 : Int) (w : World) (hn0 : l0.length ≤ 9223372036854775807) (hp0 : Hrs w w.heap.size A0 l0) (_ : -9223372036854775808 ≤ a1) (_ : a1 ≤ 9223372036854775807) (_ : -9223372036854775808 ≤ a2) (_ : a2 ≤ 9223372036854775807) :
    Calls Try.prog 10 #[.slice A0 l0.length c0, .int .i64 a1, .int .i64 a2] w fun e w' => e = .returned (.bool true) ∧ Below w.heap.size w w' := by
  by_cases h100 : l0.length ≤ 100
  · have kN := Lib.hid (fun w1 (b : Below w.heap.size w w1) => next_any A0 l0 c0 a1 w1 ((hp0.below b).more b.size) hn0)
    have kI := fun t w1 (b : Below w.heap.size w w1) => in_any A0 l0 c0 t w1 ((hp0.below b).more b.size) hn0
    have kIu := kI a2
    have kIw := kI (a2 + 604800)
    have tok1 : True := trivial
    have tok2 : True := trivial
    have tok3 : True := trivial
    have tok4 : True := trivial
    clear hp0
    rcases hB : nextB l0 a1 with _ | _
    · obtain ⟨hno, hz⟩ := next_none hB
      have kN := kN.out
      rw [hB, hz] at kN
      have kN := Lib.hid kN
      clear kI
      by_cases hut : a1 ≤ a2
      · have hiu : inHB l0 a2 = false := inHB_false (hno a2 hut)
        have kIu2 := kIu
        rw [hiu] at kIu2
        have kIu2 := Lib.hid kIu2
        have kIu := Lib.hid kIu
        have hno := Lib.hid hno
        by_cases hu0 : a2 < 0
        · go_enter Try.func10, Try.ntmps10
          go_wp2_with (first
            | (go_at_call 11; refine (alive_any _).mono ?_; rintro e w1 ⟨rfl, b⟩; have b1 := Lib.hid b; clear b)
            | (go_at_call 22; refine (kN.out _ b1.out).mono ?_; rintro e w2 ⟨rfl, b⟩; (have b2 := Lib.hid (b1.out.trans (b.mono b1.out.size))); clear b)
            | (go_at_call 20; have _t := tok2; refine (kIu2.out _ b2.out).mono ?_; rintro e w4 ⟨rfl, b⟩; (have b4 := Lib.hid (b2.out.trans (b.mono b2.out.size))); clear b tok2 _t))
          all_goals (go_ret; exact ⟨rfl, b4.out⟩)
        · by_cases hu1 : 19395200 < a2
          · have hu2 : decide (a2 < 0) = false := decide_eq_false hu0
            go_enter Try.func10, Try.ntmps10
            go_wp2_with (first
              | (go_at_call 11; refine (alive_any _).mono ?_; rintro e w1 ⟨rfl, b⟩; have b1 := Lib.hid b; clear b)
              | (go_at_call 22; refine (kN.out _ b1.out).mono ?_; rintro e w2 ⟨rfl, b⟩; (have b2 := Lib.hid (b1.out.trans (b.mono b1.out.size))); clear b)
              | (go_at_call 20; have _t := tok2; refine (kIu2.out _ b2.out).mono ?_; rintro e w4 ⟨rfl, b⟩; (have b4 := Lib.hid (b2.out.trans (b.mono b2.out.size))); clear b tok2 _t))
            go_ret
            exact ⟨rfl, b4.out⟩
          · obtain ⟨f1, f2, f3, f4, f5, f6, f7, f8⟩ := week_facts (l := l0) (u := a2) (by omega) (by omega)
            rw [f1] at kIw
            have kIw := Lib.hid kIw
            have hu2 : decide (a2 < 0) = false := decide_eq_false hu0
            have hu3 : decide (19395200 < a2) = false := decide_eq_false hu1
            have f4' : (dayV a2 * 86400 + secV a2 == a2) = true := beq_iff_eq.2 f4
            clear f1 f4
            have hu0' : 0 ≤ a2 := by omega
            have hu1' : a2 ≤ 19395200 := by omega
            clear hu0 hu1
            go_enter Try.func10, Try.ntmps10
            go_wp2_with (first
              | (go_at_call 11; refine (alive_any _).mono ?_; rintro e w1 ⟨rfl, b⟩; have b1 := Lib.hid b; clear b)
              | (go_at_call 22; refine (kN.out _ b1.out).mono ?_; rintro e w2 ⟨rfl, b⟩; (have b2 := Lib.hid (b1.out.trans (b.mono b1.out.size))); clear b)
              | (go_at_call 20; have _t := tok2; refine (kIu2.out _ b2.out).mono ?_; rintro e w4 ⟨rfl, b⟩; (have b4 := Lib.hid (b2.out.trans (b.mono b2.out.size))); clear b tok2 _t)
              | (go_at_call 20; have _t := tok3; refine (kIu.out _ b4.out).mono ?_; rintro e w7 ⟨rfl, b⟩; (have b7 := Lib.hid (b4.out.trans (b.mono b4.out.size))); clear b tok3 _t)
              | (go_at_call 20; have _t := tok4; refine (kIw.out _ b7.out).mono ?_; rintro e w8 ⟨rfl, b⟩; (have b8 := Lib.hid (b7.out.trans (b.mono b7.out.size))); clear b tok4 _t)
              | (go_at_call 16; refine (weekday_any _ _).mono ?_; rintro e w' ⟨rfl, rfl⟩)
              | (go_at_call 12; refine (day_any _ _).mono ?_; rintro e w' ⟨rfl, rfl⟩)
              | (go_at_call 14; refine (second_any _ _).mono ?_; rintro e w' ⟨rfl, rfl⟩))
            go_ret
            exact ⟨by simp, b8.out⟩
      · have hdut : decide (a1 ≤ a2) = false := decide_eq_false hut
        have kIu := Lib.hid kIu
        have hno := Lib.hid hno
        by_cases hu0 : a2 < 0
        · go_enter Try.func10, Try.ntmps10
          go_wp2_with (first
            | (go_at_call 11; refine (alive_any _).mono ?_; rintro e w1 ⟨rfl, b⟩; have b1 := Lib.hid b; clear b)
            | (go_at_call 22; refine (kN.out _ b1.out).mono ?_; rintro e w2 ⟨rfl, b⟩; (have b2 := Lib.hid (b1.out.trans (b.mono b1.out.size))); clear b))
          all_goals (go_ret; exact ⟨rfl, b2.out⟩)
        · by_cases hu1 : 19395200 < a2
          · have hu2 : decide (a2 < 0) = false := decide_eq_false hu0
            go_enter Try.func10, Try.ntmps10
            go_wp2_with (first
              | (go_at_call 11; refine (alive_any _).mono ?_; rintro e w1 ⟨rfl, b⟩; have b1 := Lib.hid b; clear b)
              | (go_at_call 22; refine (kN.out _ b1.out).mono ?_; rintro e w2 ⟨rfl, b⟩; (have b2 := Lib.hid (b1.out.trans (b.mono b1.out.size))); clear b))
            go_ret
            exact ⟨rfl, b2.out⟩
          · obtain ⟨f1, f2, f3, f4, f5, f6, f7, f8⟩ := week_facts (l := l0) (u := a2) (by omega) (by omega)
            rw [f1] at kIw
            have kIw := Lib.hid kIw
            have hu2 : decide (a2 < 0) = false := decide_eq_false hu0
            have hu3 : decide (19395200 < a2) = false := decide_eq_false hu1
            have f4' : (dayV a2 * 86400 + secV a2 == a2) = true := beq_iff_eq.2 f4
            clear f1 f4
            have hu0' : 0 ≤ a2 := by omega
            have hu1' : a2 ≤ 19395200 := by omega
            clear hu0 hu1
            go_enter Try.func10, Try.ntmps10
            go_wp2_with (first
              | (go_at_call 11; refine (alive_any _).mono ?_; rintro e w1 ⟨rfl, b⟩; have b1 := Lib.hid b; clear b)
              | (go_at_call 22; refine (kN.out _ b1.out).mono ?_; rintro e w2 ⟨rfl, b⟩; (have b2 := Lib.hid (b1.out.trans (b.mono b1.out.size))); clear b)
              | (go_at_call 20; have _t := tok3; refine (kIu.out _ b2.out).mono ?_; rintro e w7 ⟨rfl, b⟩; (have b7 := Lib.hid (b2.out.trans (b.mono b2.out.size))); clear b tok3 _t)
              | (go_at_call 20; have _t := tok4; refine (kIw.out _ b7.out).mono ?_; rintro e w8 ⟨rfl, b⟩; (have b8 := Lib.hid (b7.out.trans (b.mono b7.out.size))); clear b tok4 _t)
              | (go_at_call 16; refine (weekday_any _ _).mono ?_; rintro e w' ⟨rfl, rfl⟩)
              | (go_at_call 12; refine (day_any _ _).mono ?_; rintro e w' ⟨rfl, rfl⟩)
              | (go_at_call 14; refine (second_any _ _).mono ?_; rintro e w' ⟨rfl, rfl⟩))
            go_ret
            exact ⟨by simp, b8.out⟩
    · have hok := next_of hB
      have kN := kN.out
      rw [hB] at kN
      have hiN : inHB l0 (nextU l0 a1) = true := inHB_true hok.2.1
      have hn1 := hok.1
      have hn2 : 0 ≤ nextU l0 a1 := hok.2.1.1
      have hlow := hok.2.2
      generalize nextU l0 a1 = N at *
      have kIn := kI N
      rw [hiN] at kIn
      have d1 : decide (N < a1) = false := decide_eq_false (by omega)
      have d2 : decide (N < 0) = false := decide_eq_false (by omega)
      have kN := Lib.hid kN
      have kIn := Lib.hid kIn
      clear kI hok hiN
      by_cases hut : a1 ≤ a2
      · by_cases hun : a2 < N
        · have hiu : inHB l0 a2 = false := inHB_false (hlow a2 hut hun)
          have kIu2 := kIu
          rw [hiu] at kIu2
          have kIu2 := Lib.hid kIu2
          have kIu := Lib.hid kIu
          clear hlow
          by_cases hu0 : a2 < 0
          · go_enter Try.func10, Try.ntmps10
            go_wp2_with (first
              | (go_at_call 11; refine (alive_any _).mono ?_; rintro e w1 ⟨rfl, b⟩; have b1 := Lib.hid b; clear b)
              | (go_at_call 22; refine (kN.out _ b1.out).mono ?_; rintro e w2 ⟨rfl, b⟩; (have b2 := Lib.hid (b1.out.trans (b.mono b1.out.size))); clear b)
              | (go_at_call 20; have _t := tok1; refine (kIn.out _ b2.out).mono ?_; rintro e w3 ⟨rfl, b⟩; (have b3 := Lib.hid (b2.out.trans (b.mono b2.out.size))); clear b tok1 _t)
              | (go_at_call 20; have _t := tok2; refine (kIu2.out _ b3.out).mono ?_; rintro e w4 ⟨rfl, b⟩; (have b4 := Lib.hid (b3.out.trans (b.mono b3.out.size))); clear b tok2 _t))
            all_goals (go_ret; exact ⟨rfl, b4.out⟩)
          · by_cases hu1 : 19395200 < a2
            · have hu2 : decide (a2 < 0) = false := decide_eq_false hu0
              go_enter Try.func10, Try.ntmps10
              go_wp2_with (first
                | (go_at_call 11; refine (alive_any _).mono ?_; rintro e w1 ⟨rfl, b⟩; have b1 := Lib.hid b; clear b)
                | (go_at_call 22; refine (kN.out _ b1.out).mono ?_; rintro e w2 ⟨rfl, b⟩; (have b2 := Lib.hid (b1.out.trans (b.mono b1.out.size))); clear b)
                | (go_at_call 20; have _t := tok1; refine (kIn.out _ b2.out).mono ?_; rintro e w3 ⟨rfl, b⟩; (have b3 := Lib.hid (b2.out.trans (b.mono b2.out.size))); clear b tok1 _t)
                | (go_at_call 20; have _t := tok2; refine (kIu2.out _ b3.out).mono ?_; rintro e w4 ⟨rfl, b⟩; (have b4 := Lib.hid (b3.out.trans (b.mono b3.out.size))); clear b tok2 _t))
              go_ret
              exact ⟨rfl, b4.out⟩
            · obtain ⟨f1, f2, f3, f4, f5, f6, f7, f8⟩ := week_facts (l := l0) (u := a2) (by omega) (by omega)
              rw [f1] at kIw
              have kIw := Lib.hid kIw
              have hu2 : decide (a2 < 0) = false := decide_eq_false hu0
              have hu3 : decide (19395200 < a2) = false := decide_eq_false hu1
              have f4' : (dayV a2 * 86400 + secV a2 == a2) = true := beq_iff_eq.2 f4
              clear f1 f4
              have hu0' : 0 ≤ a2 := by omega
              have hu1' : a2 ≤ 19395200 := by omega
              clear hu0 hu1
              go_enter Try.func10, Try.ntmps10
              go_wp2_with (first
                | (go_at_call 11; refine (alive_any _).mono ?_; rintro e w1 ⟨rfl, b⟩; have b1 := Lib.hid b; clear b)
                | (go_at_call 22; refine (kN.out _ b1.out).mono ?_; rintro e w2 ⟨rfl, b⟩; (have b2 := Lib.hid (b1.out.trans (b.mono b1.out.size))); clear b)
                | (go_at_call 20; have _t := tok1; refine (kIn.out _ b2.out).mono ?_; rintro e w3 ⟨rfl, b⟩; (have b3 := Lib.hid (b2.out.trans (b.mono b2.out.size))); clear b tok1 _t)
                | (go_at_call 20; have _t := tok2; refine (kIu2.out _ b3.out).mono ?_; rintro e w4 ⟨rfl, b⟩; (have b4 := Lib.hid (b3.out.trans (b.mono b3.out.size))); clear b tok2 _t)
                | (go_at_call 20; have _t := tok3; refine (kIu.out _ b4.out).mono ?_; rintro e w7 ⟨rfl, b⟩; (have b7 := Lib.hid (b4.out.trans (b.mono b4.out.size))); clear b tok3 _t)
                | (go_at_call 20; have _t := tok4; refine (kIw.out _ b7.out).mono ?_; rintro e w8 ⟨rfl, b⟩; (have b8 := Lib.hid (b7.out.trans (b.mono b7.out.size))); clear b tok4 _t)
                | (go_at_call 16; refine (weekday_any _ _).mono ?_; rintro e w' ⟨rfl, rfl⟩)
                | (go_at_call 12; refine (day_any _ _).mono ?_; rintro e w' ⟨rfl, rfl⟩)
                | (go_at_call 14; refine (second_any _ _).mono ?_; rintro e w' ⟨rfl, rfl⟩))
              go_ret
              exact ⟨by simp, b8.out⟩
        · have hdun : decide (a2 < N) = false := decide_eq_false hun
          have kIu := Lib.hid kIu
          clear hlow
          by_cases hu0 : a2 < 0
          · go_enter Try.func10, Try.ntmps10
            go_wp2_with (first
              | (go_at_call 11; refine (alive_any _).mono ?_; rintro e w1 ⟨rfl, b⟩; have b1 := Lib.hid b; clear b)
              | (go_at_call 22; refine (kN.out _ b1.out).mono ?_; rintro e w2 ⟨rfl, b⟩; (have b2 := Lib.hid (b1.out.trans (b.mono b1.out.size))); clear b)
              | (go_at_call 20; have _t := tok1; refine (kIn.out _ b2.out).mono ?_; rintro e w3 ⟨rfl, b⟩; (have b3 := Lib.hid (b2.out.trans (b.mono b2.out.size))); clear b tok1 _t))
            all_goals (go_ret; exact ⟨rfl, b3.out⟩)
          · by_cases hu1 : 19395200 < a2
            · have hu2 : decide (a2 < 0) = false := decide_eq_false hu0
              go_enter Try.func10, Try.ntmps10
              go_wp2_with (first
                | (go_at_call 11; refine (alive_any _).mono ?_; rintro e w1 ⟨rfl, b⟩; have b1 := Lib.hid b; clear b)
                | (go_at_call 22; refine (kN.out _ b1.out).mono ?_; rintro e w2 ⟨rfl, b⟩; (have b2 := Lib.hid (b1.out.trans (b.mono b1.out.size))); clear b)
                | (go_at_call 20; have _t := tok1; refine (kIn.out _ b2.out).mono ?_; rintro e w3 ⟨rfl, b⟩; (have b3 := Lib.hid (b2.out.trans (b.mono b2.out.size))); clear b tok1 _t))
              go_ret
              exact ⟨rfl, b3.out⟩
            · obtain ⟨f1, f2, f3, f4, f5, f6, f7, f8⟩ := week_facts (l := l0) (u := a2) (by omega) (by omega)
              rw [f1] at kIw
              have kIw := Lib.hid kIw
              have hu2 : decide (a2 < 0) = false := decide_eq_false hu0
              have hu3 : decide (19395200 < a2) = false := decide_eq_false hu1
              have f4' : (dayV a2 * 86400 + secV a2 == a2) = true := beq_iff_eq.2 f4
              clear f1 f4
              have hu0' : 0 ≤ a2 := by omega
              have hu1' : a2 ≤ 19395200 := by omega
              clear hu0 hu1
              go_enter Try.func10, Try.ntmps10
              go_wp2_with (first
                | (go_at_call 11; refine (alive_any _).mono ?_; rintro e w1 ⟨rfl, b⟩; have b1 := Lib.hid b; clear b)
                | (go_at_call 22; refine (kN.out _ b1.out).mono ?_; rintro e w2 ⟨rfl, b⟩; (have b2 := Lib.hid (b1.out.trans (b.mono b1.out.size))); clear b)
                | (go_at_call 20; have _t := tok1; refine (kIn.out _ b2.out).mono ?_; rintro e w3 ⟨rfl, b⟩; (have b3 := Lib.hid (b2.out.trans (b.mono b2.out.size))); clear b tok1 _t)
                | (go_at_call 20; have _t := tok3; refine (kIu.out _ b3.out).mono ?_; rintro e w7 ⟨rfl, b⟩; (have b7 := Lib.hid (b3.out.trans (b.mono b3.out.size))); clear b tok3 _t)
                | (go_at_call 20; have _t := tok4; refine (kIw.out _ b7.out).mono ?_; rintro e w8 ⟨rfl, b⟩; (have b8 := Lib.hid (b7.out.trans (b.mono b7.out.size))); clear b tok4 _t)
                | (go_at_call 16; refine (weekday_any _ _).mono ?_; rintro e w' ⟨rfl, rfl⟩)
                | (go_at_call 12; refine (day_any _ _).mono ?_; rintro e w' ⟨rfl, rfl⟩)
                | (go_at_call 14; refine (second_any _ _).mono ?_; rintro e w' ⟨rfl, rfl⟩))
              go_ret
              exact ⟨by simp, b8.out⟩
      · have hdut : decide (a1 ≤ a2) = false := decide_eq_false hut
        have kIu := Lib.hid kIu
        clear hlow
        by_cases hu0 : a2 < 0
        · go_enter Try.func10, Try.ntmps10
          go_wp2_with (first
            | (go_at_call 11; refine (alive_any _).mono ?_; rintro e w1 ⟨rfl, b⟩; have b1 := Lib.hid b; clear b)
            | (go_at_call 22; refine (kN.out _ b1.out).mono ?_; rintro e w2 ⟨rfl, b⟩; (have b2 := Lib.hid (b1.out.trans (b.mono b1.out.size))); clear b)
            | (go_at_call 20; have _t := tok1; refine (kIn.out _ b2.out).mono ?_; rintro e w3 ⟨rfl, b⟩; (have b3 := Lib.hid (b2.out.trans (b.mono b2.out.size))); clear b tok1 _t))
          all_goals (go_ret; exact ⟨rfl, b3.out⟩)
        · by_cases hu1 : 19395200 < a2
          · have hu2 : decide (a2 < 0) = false := decide_eq_false hu0
            go_enter Try.func10, Try.ntmps10
            go_wp2_with (first
              | (go_at_call 11; refine (alive_any _).mono ?_; rintro e w1 ⟨rfl, b⟩; have b1 := Lib.hid b; clear b)
              | (go_at_call 22; refine (kN.out _ b1.out).mono ?_; rintro e w2 ⟨rfl, b⟩; (have b2 := Lib.hid (b1.out.trans (b.mono b1.out.size))); clear b)
              | (go_at_call 20; have _t := tok1; refine (kIn.out _ b2.out).mono ?_; rintro e w3 ⟨rfl, b⟩; (have b3 := Lib.hid (b2.out.trans (b.mono b2.out.size))); clear b tok1 _t))
            go_ret
            exact ⟨rfl, b3.out⟩
          · obtain ⟨f1, f2, f3, f4, f5, f6, f7, f8⟩ := week_facts (l := l0) (u := a2) (by omega) (by omega)
            rw [f1] at kIw
            have kIw := Lib.hid kIw
            have hu2 : decide (a2 < 0) = false := decide_eq_false hu0
            have hu3 : decide (19395200 < a2) = false := decide_eq_false hu1
            have f4' : (dayV a2 * 86400 + secV a2 == a2) = true := beq_iff_eq.2 f4
            clear f1 f4
            have hu0' : 0 ≤ a2 := by omega
            have hu1' : a2 ≤ 19395200 := by omega
            clear hu0 hu1
            go_enter Try.func10, Try.ntmps10
            go_wp2_with (first
              | (go_at_call 11; refine (alive_any _).mono ?_; rintro e w1 ⟨rfl, b⟩; have b1 := Lib.hid b; clear b)
              | (go_at_call 22; refine (kN.out _ b1.out).mono ?_; rintro e w2 ⟨rfl, b⟩; (have b2 := Lib.hid (b1.out.trans (b.mono b1.out.size))); clear b)
              | (go_at_call 20; have _t := tok1; refine (kIn.out _ b2.out).mono ?_; rintro e w3 ⟨rfl, b⟩; (have b3 := Lib.hid (b2.out.trans (b.mono b2.out.size))); clear b tok1 _t)
              | (go_at_call 20; have _t := tok3; refine (kIu.out _ b3.out).mono ?_; rintro e w7 ⟨rfl, b⟩; (have b7 := Lib.hid (b3.out.trans (b.mono b3.out.size))); clear b tok3 _t)
              | (go_at_call 20; have _t := tok4; refine (kIw.out _ b7.out).mono ?_; rintro e w8 ⟨rfl, b⟩; (have b8 := Lib.hid (b7.out.trans (b.mono b7.out.size))); clear b tok4 _t)
              | (go_at_call 16; refine (weekday_any _ _).mono ?_; rintro e w' ⟨rfl, rfl⟩)
              | (go_at_call 12; refine (day_any _ _).mono ?_; rintro e w' ⟨rfl, rfl⟩)
              | (go_at_call 14; refine (second_any _ _).mono ?_; rintro e w' ⟨rfl, rfl⟩))
            go_ret
            exact ⟨by simp, b8.out⟩
  · clear hp0
    go_enter Try.func10, Try.ntmps10
    go_wp2_with (go_at_call 11; refine (alive_any _).mono ?_; rintro e w1 ⟨rfl, b⟩; have b1 := Lib.hid b; clear b)
    go_ret
    exact ⟨rfl, b1.out⟩

set_option maxRecDepth 100000 in
theorem lifted (os : Os) (started : os.Started) (H : Type) (enc : TypeId × Value → H) :
    ReturnsInHanded {} Try.checked os 10 .any (Rows.clockFirstSpec.pre6 enc Try.prog Try.f10 Rows.clockFirstRow.domain false) (Rows.clockFirstSpec.post enc Try.prog Try.f10 false true false false) := by
  refine returnsInHanded_of_change (C := Try.checked) own started (by kernel_rfl) Try.func10
    (ChangeSpec.witness6 (enc := enc) (C := Try.checked) false ⟨#[], #[.slice none 0 0, .int .i64 0, .int .i64 0], []⟩ 8 (by kernel_rfl) (by kernel_rfl) (by kernel_rfl) (by kernel_rfl)) ?_
  intro W base args ds gs before hval0 hW _ _
  have hval : ∀ (j : Nat) t v, Try.f10.params[j]? = some t → args[j]? = some v → Value.okWide Try.prog W .any base t v := hval0
  have hW0 := hW
  obtain ⟨p, q, hA0, hV, rfl, hfz, hnd⟩ := hW
  have hA : DataW.TrodAll enc Try.prog W 0 (fun _ => true) true Try.f10.params.toList args.toList ds p := hA0
  rw [Try.params10] at hA hval
  obtain ⟨v0, vs0, d0, ds0, p0, q0, hargs, rfl, rfl, h0, r0⟩ := trodAll_cons hA
  obtain ⟨v1, vs1, d1, ds1, p1, q1, rfl, rfl, rfl, h1, r1⟩ := trodAll_cons r0
  obtain ⟨v2, vs2, d2, ds2, p2, q2, rfl, rfl, rfl, h2, r2⟩ := trodAll_cons r1
  obtain ⟨rfl, rfl, rfl⟩ := trodAll_nil r2
  obtain rfl : args = #[v0, v1, v2] := by cases args; simp_all
  obtain ⟨A0, c0, l0, rfl, z0, y0⟩ := open_hrs (hval 0 25 v0 rfl rfl) h0
  obtain ⟨a1, rfl, _, _, z1⟩ := open_int Try.underlying3 (hval 1 3 v1 rfl rfl) h1
  have z1 := i64_bounds z1
  obtain ⟨a2, rfl, _, _, z2⟩ := open_int Try.underlying3 (hval 2 3 v2 rfl rfl) h2
  have z2 := i64_bounds z2
  refine (walk A0 l0 c0 a1 a2 W z0 y0 z1.1 z1.2 z2.1 z2.2).mono fun e W' ⟨h1, h2⟩ => ?_
  subst h1
  exact ⟨_, rfl, law_post laidOut (by kernel_rfl) Try.underlying4 rfl (by kernel_rfl) hW0 rfl h2⟩

theorem said : Rows.ClockFirstSaid :=
  OpenClaim.holds_of_wide 10 Try.f10 rfl rfl rfl rfl rfl rfl rfl ⟨rfl, rfl, rfl, rfl, rfl⟩ rfl rfl rfl rfl rfl (by kernel_rfl) Try.func10 (by kernel_rfl)
    (of_decide_eq_true (by kernel_rfl)) (by unfold Func.isWrapper; first | (rw [if_pos (by decide +kernel)]; kernel_rfl) | (rw [if_neg (by decide +kernel)]; exact ⟨rfl, rfl⟩))
    (fun os started H enc _ => lifted os started H enc)
end Go.Proofs.Ytlkindlbllbmgaa.lawFirst
