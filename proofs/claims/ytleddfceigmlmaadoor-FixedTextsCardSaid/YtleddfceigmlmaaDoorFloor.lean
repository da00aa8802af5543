/- The quotient rounded down: fixed.floorDiv and the reference's Floor. -/
import Derived.Test.YtleddfceigmlmaaDoorRatio
namespace Go.Proofs.YtleddfceigmlmaaDoor
open Go.RowKit

theorem floor_eq (a b : Int) (hb : 0 < b) : (a.tmod b < 0 → a.tdiv b - 1 = a / b) ∧ (0 ≤ a.tmod b → a.tdiv b = a / b) := by
  rw [Int.tdiv_eq_ediv, Int.tmod_eq_emod]
  have h1 := Int.emod_nonneg a (show b ≠ 0 by omega)
  have h2 := Int.emod_lt_of_pos a hb
  have hs : b.sign = 1 := Int.sign_eq_one_of_pos hb
  rw [hs]
  split
  · constructor
    · intro h; omega
    · intro h; omega
  · constructor
    · intro h; omega
    · intro h; omega

theorem floor_bd (a b : Int) (hb : 0 < b) (h1 : -4611686018427387904 ≤ a) (h2 : a ≤ 4611686018427387904) : -4611686018427387904 ≤ a.tdiv b ∧ a.tdiv b ≤ 4611686018427387904 ∧ -4611686018427387905 ≤ a / b ∧ a / b ≤ 4611686018427387904 := by
  have e : (a.tdiv b).natAbs ≤ a.natAbs := by
    rw [Int.natAbs_tdiv]
    exact Nat.div_le_self _ _
  obtain ⟨f1, f2⟩ := floor_eq a b hb
  rcases Int.lt_or_le (a.tmod b) 0 with h | h
  · have := f1 h
    omega
  · have := f2 h
    omega

theorem floorDiv_any (a b : Int) (w : World) (hb : 0 < b) (h1 : -4611686018427387904 ≤ a) (h2 : a ≤ 4611686018427387904) :
    Calls Tryd.prog 36 #[.int .i64 a, .int .i64 b] w fun e w' => e = .returned (.int .i64 (a / b)) ∧ w = w' := by
  obtain ⟨f1, f2⟩ := floor_eq a b hb
  obtain ⟨g1, g2, _, _⟩ := floor_bd a b hb h1 h2
  obtain ⟨q, hq⟩ : ∃ q, a.tdiv b = q := ⟨_, rfl⟩
  obtain ⟨m, hm⟩ : ∃ m, a.tmod b = m := ⟨_, rfl⟩
  rw [hq] at f1 f2 g1 g2
  rw [hm] at f1 f2
  have hq' : IntKind.i64.wrap (a.tdiv b) = q := by rw [hq]; exact i64_in' (by omega) (by omega)
  clear hq
  rcases Int.lt_or_le m 0 with h | h
  · rw [← f1 h]
    clear f1 f2
    go_enter Tryd.func36, Tryd.ntmps36
    go_wp2
    go_ret
    exact ⟨rfl, rfl⟩
  · rw [← f2 h]
    clear f1 f2
    go_enter Tryd.func36, Tryd.ntmps36
    go_wp2
    go_ret
    exact ⟨rfl, rfl⟩
theorem Floor_any (a b : Int) (w : World) (hb : 0 < b) (h1 : -4611686018427387904 ≤ a) (h2 : a ≤ 4611686018427387904) :
    Calls Tryd.prog 37 #[.int .i64 a, .int .i64 b] w fun e w' => e = .returned (.int .i64 (a / b)) ∧ w = w' := by
  obtain ⟨f1, f2⟩ := floor_eq a b hb
  obtain ⟨g1, g2, _, _⟩ := floor_bd a b hb h1 h2
  obtain ⟨q, hq⟩ : ∃ q, a.tdiv b = q := ⟨_, rfl⟩
  obtain ⟨m, hm⟩ : ∃ m, a.tmod b = m := ⟨_, rfl⟩
  rw [hq] at f1 f2 g1 g2
  rw [hm] at f1 f2
  have hq' : IntKind.i64.wrap (a.tdiv b) = q := by rw [hq]; exact i64_in' (by omega) (by omega)
  clear hq
  rcases Int.lt_or_le m 0 with h | h
  · rw [← f1 h]
    clear f1 f2
    go_enter Tryd.func37, Tryd.ntmps37
    go_wp2
    go_ret
    exact ⟨rfl, rfl⟩
  · rw [← f2 h]
    clear f1 f2
    go_enter Tryd.func37, Tryd.ntmps37
    go_wp2
    go_ret
    exact ⟨rfl, rfl⟩

def roundOk (x s : Int) : Bool := inR x && decide (1 ≤ s ∧ s ≤ 1000000000)
def roundV (x s : Int) : Value := if roundOk x s then pairV ((2 * x + s) / (2 * s) * s) 0 else pairV 0 1
theorem roundV_pair (x s : Int) : ∃ v e, roundV x s = pairV v e := by
  unfold roundV
  split <;> exact ⟨_, _, rfl⟩
/-- Both ways of rounding to the nearest multiple. -/
theorem round_eq (x s : Int) (hs : 1 ≤ s) : (s ≤ 2 * (x - x / s * s) → x / s * s + s = (2 * x + s) / (2 * s) * s) ∧ (2 * (x - x / s * s) < s → x / s * s = (2 * x + s) / (2 * s) * s) := by
  have h1 := Int.mul_ediv_add_emod x s
  have h2 := Int.emod_nonneg x (show s ≠ 0 by omega)
  have h3 := Int.emod_lt_of_pos x (show 0 < s by omega)
  rw [Int.mul_comm] at h1
  generalize x / s = q at *
  generalize x % s = r at *
  have key : ∀ k : Int, 0 ≤ 2 * r + s - k * (2 * s) → 2 * r + s - k * (2 * s) < 2 * s → (2 * x + s) / (2 * s) = q + k := by
    intro k k1 k2
    have e : 2 * x + s = (2 * r + s - k * (2 * s)) + (q + k) * (2 * s) := by
      rw [Int.add_mul]
      have : q * (2 * s) = 2 * (q * s) := by rw [← Int.mul_assoc, Int.mul_comm q 2, Int.mul_assoc]
      omega
    rw [e, Int.add_mul_ediv_right _ _ (by omega), Int.ediv_eq_zero_of_lt k1 k2, Int.zero_add]
  constructor
  · intro h
    rw [key 1 (by omega) (by omega), Int.add_mul, Int.one_mul]
  · intro h
    rw [key 0 (by omega) (by omega), Int.add_zero]

theorem mul_le_of {x q s r : Int} (h : q * s + r = x) (h1 : 0 ≤ r) (h2 : r < 1000000001) (a : -1125899906842624 ≤ x) (b : x ≤ 1125899906842624) : -1125900906842626 ≤ q * s ∧ q * s ≤ 1125899906842624 := by omega

theorem round_any (x s : Int) (w : World) : Calls Tryd.prog 21 #[.int .i64 x, .int .i64 s] w fun e w' => e = .returned (roundV x s) ∧ w = w' := by
  rcases hx : inR x with _ | _
  · have hv : Hid (roundV x s = pairV 0 1) := by show roundV x s = _; simp [roundV, roundOk, hx]
    rw [hv.out]
    go_enter Tryd.func21, Tryd.ntmps21
    go_wp2_with (go_at_call 30; refine (inRange_any _ _).mono ?_; rintro e w' ⟨rfl, rfl⟩)
    go_ret2
    exact ⟨rfl, rfl⟩
  · obtain ⟨x1, x2⟩ := inR_of hx
    by_cases hs : 1 ≤ s
    · by_cases hs2 : s ≤ 1000000000
      · have hv : roundV x s = pairV ((2 * x + s) / (2 * s) * s) 0 := by simp [roundV, roundOk, hx, hs, hs2]
        rw [hv]
        obtain ⟨r1, r2⟩ := round_eq x s hs
        have h1 := Int.mul_ediv_add_emod x s
        have h2 := Int.emod_nonneg x (show s ≠ 0 by omega)
        have h3 := Int.emod_lt_of_pos x (show 0 < s by omega)
        rw [Int.mul_comm] at h1
        obtain ⟨g1, g2⟩ := mul_le_of h1 h2 (by omega) x1 x2
        obtain ⟨q, hq⟩ : ∃ q, x / s = q := ⟨_, rfl⟩
        rw [hq] at r1 r2 g1 g2 h1
        obtain ⟨p, hp⟩ : ∃ p, q * s = p := ⟨_, rfl⟩
        have hw : IntKind.i64.wrap (q * s) = p := by rw [hp]; exact i64_in' (by omega) (by omega)
        rw [hp] at r1 r2 g1 g2 h1
        generalize x % s = r at *
        clear hv hp
        by_cases hc : s ≤ 2 * (x - p)
        · rw [← r1 hc]
          clear r1 r2 h1
          go_enter Tryd.func21, Tryd.ntmps21
          go_wp2_with (first | (go_at_call 30; refine (inRange_any _ _).mono ?_; rintro e w' ⟨rfl, rfl⟩) | (go_at_call 36; refine (floorDiv_any _ _ _ (by omega) (by omega) (by omega)).mono ?_; rintro e w' ⟨rfl, rfl⟩))
          go_ret2
          exact ⟨rfl, rfl⟩
        · rw [← r2 (by omega)]
          clear r1 r2 h1
          go_enter Tryd.func21, Tryd.ntmps21
          go_wp2_with (first | (go_at_call 30; refine (inRange_any _ _).mono ?_; rintro e w' ⟨rfl, rfl⟩) | (go_at_call 36; refine (floorDiv_any _ _ _ (by omega) (by omega) (by omega)).mono ?_; rintro e w' ⟨rfl, rfl⟩))
          go_ret2
          exact ⟨rfl, rfl⟩
      · have hv : Hid (roundV x s = pairV 0 1) := by show roundV x s = _; simp [roundV, roundOk, hs2]
        rw [hv.out]
        go_enter Tryd.func21, Tryd.ntmps21
        go_wp2_with (go_at_call 30; refine (inRange_any _ _).mono ?_; rintro e w' ⟨rfl, rfl⟩)
        go_ret2
        exact ⟨rfl, rfl⟩
    · have hv : Hid (roundV x s = pairV 0 1) := by show roundV x s = _; simp [roundV, roundOk, hs]
      rw [hv.out]
      go_enter Tryd.func21, Tryd.ntmps21
      go_wp2_with (go_at_call 30; refine (inRange_any _ _).mono ?_; rintro e w' ⟨rfl, rfl⟩)
      go_ret2
      exact ⟨rfl, rfl⟩
theorem refRound_any (x s : Int) (w : World) : Calls Tryd.prog 22 #[.int .i64 x, .int .i64 s] w fun e w' => e = .returned (roundV x s) ∧ w = w' := by
  rcases hx : inR x with _ | _
  · have hv : Hid (roundV x s = pairV 0 1) := by show roundV x s = _; simp [roundV, roundOk, hx]
    rw [hv.out]
    go_enter Tryd.func22, Tryd.ntmps22
    go_wp2_with (go_at_call 31; refine (Within_any _ _).mono ?_; rintro e w' ⟨rfl, rfl⟩)
    go_ret2
    exact ⟨rfl, rfl⟩
  · obtain ⟨x1, x2⟩ := inR_of hx
    by_cases hs : 1 ≤ s
    · by_cases hs2 : s ≤ 1000000000
      · have hv : roundV x s = pairV ((2 * x + s) / (2 * s) * s) 0 := by simp [roundV, roundOk, hx, hs, hs2]
        rw [hv]
        obtain ⟨r1, r2⟩ := round_eq x s hs
        have h1 := Int.mul_ediv_add_emod x s
        have h2 := Int.emod_nonneg x (show s ≠ 0 by omega)
        have h3 := Int.emod_lt_of_pos x (show 0 < s by omega)
        rw [Int.mul_comm] at h1
        obtain ⟨g1, g2⟩ := mul_le_of h1 h2 (by omega) x1 x2
        obtain ⟨q, hq⟩ : ∃ q, (2 * x + s) / (2 * s) = q := ⟨_, rfl⟩
        obtain ⟨p, hp⟩ : ∃ p, q * s = p := ⟨_, rfl⟩
        rw [hq, hp] at r1 r2 ⊢
        have hw : IntKind.i64.wrap (q * s) = p := by rw [hp]; rcases Int.lt_or_le (2 * (x - x / s * s)) s with h | h <;> exact i64_in' (by omega) (by omega)
        clear hv hp r1 r2 h1 h2 h3 g1 g2
        go_enter Tryd.func22, Tryd.ntmps22
        go_wp2_with (first | (go_at_call 31; refine (Within_any _ _).mono ?_; rintro e w' ⟨rfl, rfl⟩) | (go_at_call 37; refine (Floor_any _ _ _ (by omega) (by omega) (by omega)).mono ?_; rintro e w' ⟨rfl, rfl⟩))
        go_ret2
        exact ⟨rfl, rfl⟩
      · have hv : Hid (roundV x s = pairV 0 1) := by show roundV x s = _; simp [roundV, roundOk, hs2]
        rw [hv.out]
        go_enter Tryd.func22, Tryd.ntmps22
        go_wp2_with (go_at_call 31; refine (Within_any _ _).mono ?_; rintro e w' ⟨rfl, rfl⟩)
        go_ret2
        exact ⟨rfl, rfl⟩
    · have hv : Hid (roundV x s = pairV 0 1) := by show roundV x s = _; simp [roundV, roundOk, hs]
      rw [hv.out]
      go_enter Tryd.func22, Tryd.ntmps22
      go_wp2_with (go_at_call 31; refine (Within_any _ _).mono ?_; rintro e w' ⟨rfl, rfl⟩)
      go_ret2
      exact ⟨rfl, rfl⟩
end Go.Proofs.YtleddfceigmlmaaDoor
