/- Next. -/
import Derived.Test.YtlkindlbllbmgaaFirst
namespace Go.Proofs.Ytlkindlbllbmgaa
open Go.RowKit

theorem nextU_zero (l : List Hr) (t u : Int) (h : nextOk l (max t 0) u) : nextU l t = u ∧ nextB l t = true := next_yes (nextOk_zero h)
set_option maxRecDepth 100000 in
set_option maxHeartbeats 2000000 in
theorem next_any (A : Option Addr) (l : List Hr) (cap : Nat) (t : Int) (w : World) (hp : Hrs w w.heap.size A l) (hmax : l.length ≤ 9223372036854775807) :
    Calls Try.prog 22 #[.slice A l.length cap, .int .i64 t] w fun e w' => e = .returned (.tuple #[.int .i64 (nextU l t), .bool (nextB l t)]) ∧ Below w.heap.size w w' := by
  by_cases hl : 20000000 < t
  · obtain ⟨e1, e2⟩ := next_not (nextNo_late (l := l) hl)
    rw [e1, e2]
    clear e1 e2 hp
    go_enter Try.func22, Try.ntmps22
    go_wp2
    go_ret2
    exact ⟨rfl, Below.refl _ _⟩
  · have kF := Lib.hid (fun w1 (h : Below w.heap.size w w1) wd least h1 h2 => first_any A l cap wd least w1 ((hp.below h).more h.size) hmax h1 h2)
    clear hp
    have hyes := Lib.hid (fun u (h : nextOk l (max t 0) u) => nextU_zero l t u h)
    have hno := Lib.hid (fun (h : nextNo l (max t 0)) => next_not (nextNo_zero h))
    have hT0 : 0 ≤ max t 0 ∧ max t 0 ≤ 20000000 := by omega
    obtain ⟨T, hT⟩ : ∃ T, max t 0 = T := ⟨_, rfl⟩
    rw [hT] at hyes hno hT0
    obtain ⟨b1, b2⟩ := hT0
    have hdv : dayV T = T / 86400 := by simp [dayV, timeB_mk ⟨b1, b2⟩]
    have kD := fun w => day_any T w
    rw [hdv] at kD
    have hup := upTo_start l T b1
    have h8 := fun h => hno.out (upTo_eight (l := l) b1 h)
    have hd0 : 0 ≤ T / 86400 ∧ T / 86400 ≤ 231 := by omega
    generalize T / 86400 = D at *
    obtain ⟨d1, d2⟩ := hd0
    have kD := Lib.hid kD
    have h8 := Lib.hid h8
    clear hdv hno
    go_enter Try.func22, Try.ntmps22
    go_wp2
    go_loopw [14] (fun i wr => ∃ k : Nat, k ≤ 8 ∧ i = .int .i64 k ∧ Hid (upTo l T (D + k)) ∧ Below w.heap.size w wr) (fun i _ => 8 - (intOf i).toNat)
    case atStart => exact ⟨0, by omega, rfl, Lib.hid (by simpa using hup), Below.refl _ _⟩
    case round =>
      obtain ⟨k, hk, rfl, hu, hb⟩ := hrel
      have hb' := Lib.hid hb
      clear hb hup
      by_cases hlt : k < 8
      · have e1 : IntKind.i64.wrap ((D + k) * 86400) = (D + k) * 86400 := IntWalk.i64_in _ (by omega)
        have e2 : IntKind.i64.wrap (T - (D + k) * 86400) = T - (D + k) * 86400 := IntWalk.i64_in _ (by omega)
        have g1 : 0 ≤ (D + k) % 7 := by omega
        have g2 : (D + k) % 7 ≤ 6 := by omega
        go_wp2_with (go_at_call 12; refine (kD.out _).mono ?_; rintro e w2 ⟨rfl, rfl⟩)
        refine (kF.out _ hb'.out _ _ g1 g2).mono ?_
        rintro e w3 ⟨r, rfl, hr, b⟩
        have zb := Lib.hid (hb'.out.trans (b.mono hb'.out.size))
        have hle := hr.le
        clear b e1 e2
        by_cases hr1 : r < 86400
        · have hr0 := (hr.at_ hr1).2.1
          have kI := fun w => isTime_any ((D + k) * 86400 + r) w
          rcases hi : timeB ((D + k) * 86400 + r) with _ | _
          · have hgt : 20000000 < (D + k) * 86400 + r := by
              have := of_decide_eq_false hi
              omega
            have hu' := Lib.hid (show upTo l T (D + (k + 1 : Nat)) by
              have := upTo_next hu.out (hr.day_no (.inr hgt))
              rwa [show D + (k : Int) + 1 = D + ((k + 1 : Nat) : Int) by omega] at this)
            rw [hi] at kI
            have kI := Lib.hid kI
            clear hi hr hu
            go_wp2_with (go_at_call 35; refine (kI.out _).mono ?_; rintro e w4 ⟨rfl, rfl⟩)
            exact ⟨⟨k + 1, hlt, by go_num, hu', zb.out⟩, by simp [intOf]; omega⟩
          · have hle2 := (timeB_of hi).2
            obtain ⟨y1, y2⟩ := hyes.out _ (upTo_found hu.out (hr.day_yes (by omega) hr1 hle2))
            rw [hi] at kI
            have kI := Lib.hid kI
            have y1 := Lib.hid y1
            have y2 := Lib.hid y2
            clear hi hr hu
            go_wp2_with (go_at_call 35; refine (kI.out _).mono ?_; rintro e w4 ⟨rfl, rfl⟩)
            go_ret2
            exact ⟨by rw [y1.out, y2.out]; rfl, zb.out⟩
        · have hd : decide (r < 86400) = false := decide_eq_false hr1
          have hu' := Lib.hid (show upTo l T (D + (k + 1 : Nat)) by
            have := upTo_next hu.out (hr.day_no (.inl hr1))
            rwa [show D + (k : Int) + 1 = D + ((k + 1 : Nat) : Int) by omega] at this)
          clear hr hu
          go_wp2
          exact ⟨⟨k + 1, hlt, by go_num, hu', zb.out⟩, by simp [intOf]; omega⟩
      · obtain rfl : k = 8 := by omega
        obtain ⟨y1, y2⟩ := h8.out hu.out
        have y1 := Lib.hid y1
        have y2 := Lib.hid y2
        clear hu h8
        go_wp2
        go_ret2
        exact ⟨by rw [y1.out, y2.out]; rfl, hb'.out⟩
end Go.Proofs.Ytlkindlbllbmgaa
