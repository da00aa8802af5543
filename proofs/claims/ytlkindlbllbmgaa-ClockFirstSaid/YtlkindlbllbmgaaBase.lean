/- Days, seconds, weekdays, the tests of times, intervals and bits: the program's and the reference's functions. -/
import Derived.Test.YtlkindlbllbmgaaShelf
import Derived.Test.YtlkindlbllbmgaaLenP
import Derived.Test.YtlkindlbllbmgaaNextP
import Derived.Lib.Hide
import Derived.Below
import Derived.Laws.BitsAllLaws
import Derived.Laws.BitsLemmas
import Derived.Deep.QuietTactic
import Derived.BigQuiet
namespace Go.Proofs.Ytlkindlbllbmgaa
open Go.RowKit

def timeB (t : Int) : Bool := decide (0 ≤ t ∧ t ≤ 20000000)
theorem timeB_of {t : Int} (h : timeB t = true) : 0 ≤ t ∧ t ≤ 20000000 := of_decide_eq_true h
theorem timeB_mk {t : Int} (h : 0 ≤ t ∧ t ≤ 20000000) : timeB t = true := decide_eq_true h
theorem timeB_no {t : Int} (h : ¬ (0 ≤ t ∧ t ≤ 20000000)) : timeB t = false := decide_eq_false h
def dayV (t : Int) : Int := if timeB t = true then t / 86400 else -1
def secV (t : Int) : Int := if timeB t = true then t % 86400 else -1
def wdV (t : Int) : Int := if timeB t = true then t / 86400 % 7 else -1

theorem isTime_any (t : Int) (w : World) : Calls Try.prog 35 #[.int .i64 t] w fun e w' => e = .returned (.bool (timeB t)) ∧ w = w' := by
  by_cases h1 : 0 ≤ t
  · by_cases h2 : t ≤ 20000000
    · rw [timeB_mk ⟨h1, h2⟩]
      go_enter Try.func35, Try.ntmps35
      go_wp2
      go_ret
      exact ⟨rfl, rfl⟩
    · rw [timeB_no (fun h => h2 h.2)]
      go_enter Try.func35, Try.ntmps35
      go_wp2
      go_ret
      exact ⟨rfl, rfl⟩
  · rw [timeB_no (fun h => h1 h.1)]
    go_enter Try.func35, Try.ntmps35
    go_wp2
    go_ret
    exact ⟨rfl, rfl⟩
theorem time_any (t : Int) (w : World) : Calls Try.prog 36 #[.int .i64 t] w fun e w' => e = .returned (.bool (timeB t)) ∧ w = w' := by
  by_cases h1 : 0 ≤ t
  · by_cases h2 : t ≤ 20000000
    · rw [timeB_mk ⟨h1, h2⟩]
      go_enter Try.func36, Try.ntmps36
      go_wp2
      go_ret
      exact ⟨rfl, rfl⟩
    · rw [timeB_no (fun h => h2 h.2)]
      go_enter Try.func36, Try.ntmps36
      go_wp2
      go_ret
      exact ⟨rfl, rfl⟩
  · rw [timeB_no (fun h => h1 h.1)]
    go_enter Try.func36, Try.ntmps36
    go_wp2
    go_ret
    exact ⟨rfl, rfl⟩

theorem day_any (t : Int) (w : World) : Calls Try.prog 12 #[.int .i64 t] w fun e w' => e = .returned (.int .i64 (dayV t)) ∧ w = w' := by
  rcases h : timeB t with _ | _
  · have hv : dayV t = -1 := by simp [dayV, h]
    rw [hv]
    go_enter Try.func12, Try.ntmps12
    go_wp2_with (go_at_call 35; refine (isTime_any _ _).mono ?_; rintro e w' ⟨rfl, rfl⟩)
    go_ret
    exact ⟨rfl, rfl⟩
  · have hv : dayV t = t / 86400 := by simp [dayV, h]
    obtain ⟨b1, b2⟩ := timeB_of h
    rw [hv]
    go_enter Try.func12, Try.ntmps12
    go_wp2_with (go_at_call 35; refine (isTime_any _ _).mono ?_; rintro e w' ⟨rfl, rfl⟩)
    go_ret
    exact ⟨rfl, rfl⟩
theorem refDay_any (t : Int) (w : World) : Calls Try.prog 13 #[.int .i64 t] w fun e w' => e = .returned (.int .i64 (dayV t)) ∧ w = w' := by
  rcases h : timeB t with _ | _
  · have hv : dayV t = -1 := by simp [dayV, h]
    rw [hv]
    go_enter Try.func13, Try.ntmps13
    go_wp2_with (go_at_call 36; refine (time_any _ _).mono ?_; rintro e w' ⟨rfl, rfl⟩)
    go_ret
    exact ⟨rfl, rfl⟩
  · have hv : dayV t = t / 86400 := by simp [dayV, h]
    obtain ⟨b1, b2⟩ := timeB_of h
    rw [hv]
    go_enter Try.func13, Try.ntmps13
    go_wp2_with (go_at_call 36; refine (time_any _ _).mono ?_; rintro e w' ⟨rfl, rfl⟩)
    go_ret
    exact ⟨rfl, rfl⟩
theorem second_any (t : Int) (w : World) : Calls Try.prog 14 #[.int .i64 t] w fun e w' => e = .returned (.int .i64 (secV t)) ∧ w = w' := by
  rcases h : timeB t with _ | _
  · have hv : secV t = -1 := by simp [secV, h]
    rw [hv]
    go_enter Try.func14, Try.ntmps14
    go_wp2_with (go_at_call 35; refine (isTime_any _ _).mono ?_; rintro e w' ⟨rfl, rfl⟩)
    go_ret
    exact ⟨rfl, rfl⟩
  · have hv : secV t = t % 86400 := by simp [secV, h]
    obtain ⟨b1, b2⟩ := timeB_of h
    rw [hv]
    go_enter Try.func14, Try.ntmps14
    go_wp2_with (go_at_call 35; refine (isTime_any _ _).mono ?_; rintro e w' ⟨rfl, rfl⟩)
    go_ret
    exact ⟨rfl, rfl⟩
theorem refSecond_any (t : Int) (w : World) : Calls Try.prog 15 #[.int .i64 t] w fun e w' => e = .returned (.int .i64 (secV t)) ∧ w = w' := by
  rcases h : timeB t with _ | _
  · have hv : secV t = -1 := by simp [secV, h]
    rw [hv]
    go_enter Try.func15, Try.ntmps15
    go_wp2_with (go_at_call 36; refine (time_any _ _).mono ?_; rintro e w' ⟨rfl, rfl⟩)
    go_ret
    exact ⟨rfl, rfl⟩
  · have hv : secV t = t % 86400 := by simp [secV, h]
    obtain ⟨b1, b2⟩ := timeB_of h
    rw [hv]
    go_enter Try.func15, Try.ntmps15
    go_wp2_with (go_at_call 36; refine (time_any _ _).mono ?_; rintro e w' ⟨rfl, rfl⟩)
    go_ret
    exact ⟨rfl, rfl⟩
theorem weekday_any (t : Int) (w : World) : Calls Try.prog 16 #[.int .i64 t] w fun e w' => e = .returned (.int .i64 (wdV t)) ∧ w = w' := by
  rcases h : timeB t with _ | _
  · have hv : wdV t = -1 := by simp [wdV, h]
    rw [hv]
    go_enter Try.func16, Try.ntmps16
    go_wp2_with (go_at_call 35; refine (isTime_any _ _).mono ?_; rintro e w' ⟨rfl, rfl⟩)
    go_ret
    exact ⟨rfl, rfl⟩
  · have hv : wdV t = t / 86400 % 7 := by simp [wdV, h]
    have hd : dayV t = t / 86400 := by simp [dayV, h]
    obtain ⟨b1, b2⟩ := timeB_of h
    have k := fun w => day_any t w
    rw [hd] at k
    have k := Lib.hid k
    have c1 : 0 ≤ t / 86400 := by omega
    have c2 : t / 86400 ≤ 20000000 := by omega
    rw [hv]
    clear hd hv
    go_enter Try.func16, Try.ntmps16
    go_wp2_with (first | (go_at_call 35; refine (isTime_any _ _).mono ?_; rintro e w' ⟨rfl, rfl⟩) | (go_at_call 12; refine (k.out _).mono ?_; rintro e w' ⟨rfl, rfl⟩))
    go_ret
    exact ⟨rfl, rfl⟩
theorem refWeekday_any (t : Int) (w : World) : Calls Try.prog 17 #[.int .i64 t] w fun e w' => e = .returned (.int .i64 (wdV t)) ∧ w = w' := by
  rcases h : timeB t with _ | _
  · have hv : wdV t = -1 := by simp [wdV, h]
    rw [hv]
    go_enter Try.func17, Try.ntmps17
    go_wp2_with (go_at_call 36; refine (time_any _ _).mono ?_; rintro e w' ⟨rfl, rfl⟩)
    go_ret
    exact ⟨rfl, rfl⟩
  · have hv : wdV t = t / 86400 % 7 := by simp [wdV, h]
    obtain ⟨b1, b2⟩ := timeB_of h
    have c1 : 0 ≤ t / 86400 := by omega
    have c2 : t / 86400 ≤ 20000000 := by omega
    rw [hv]
    clear hv
    go_enter Try.func17, Try.ntmps17
    go_wp2_with (go_at_call 36; refine (time_any _ _).mono ?_; rintro e w' ⟨rfl, rfl⟩)
    go_ret
    exact ⟨rfl, rfl⟩
end Go.Proofs.Ytlkindlbllbmgaa
