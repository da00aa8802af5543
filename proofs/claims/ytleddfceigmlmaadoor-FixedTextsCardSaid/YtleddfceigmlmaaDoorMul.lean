/- fixed.Mul and fixed.Div, and the reference's: each returns the value 'mulV', 'divV'. -/
import Derived.Test.YtleddfceigmlmaaDoorFix
namespace Go.Proofs.YtleddfceigmlmaaDoor
open Go.RowKit PlainDiv

theorem ret_i64 {a b : Int} (h : a = b) : Ending.returned (.int .i64 a) = .returned (.int .i64 b) := by rw [h]
def pairV (v e : Int) : Value := .tuple #[.int .i64 v, .int .i64 e]
def inR (x : Int) : Bool := decide (-1125899906842624 ≤ x ∧ x ≤ 1125899906842624)
theorem inR_of {x : Int} (h : inR x = true) : -1125899906842624 ≤ x ∧ x ≤ 1125899906842624 := of_decide_eq_true h
theorem inR_not {x : Int} (h : inR x = false) : x < -1125899906842624 ∨ 1125899906842624 < x := by
  have := of_decide_eq_false h
  omega
def mulV (a b : Int) : Value := if inR a && inR b then nearV a b 1000 else pairV 0 12
def divV (a b : Int) : Value := if inR a && inR b then (if b = 0 then pairV 0 1 else nearV a 1000 b) else pairV 0 12

theorem nearV_pair (a b c : Int) : ∃ v e, nearV a b c = pairV v e := by
  unfold nearV pairV
  split
  · exact ⟨_, _, rfl⟩
  · exact ⟨_, _, rfl⟩
theorem mulV_pair (a b : Int) : ∃ v e, mulV a b = pairV v e := by
  unfold mulV
  split
  · exact nearV_pair _ _ _
  · exact ⟨_, _, rfl⟩
theorem divV_pair (a b : Int) : ∃ v e, divV a b = pairV v e := by
  unfold divV
  split
  · split
    · exact ⟨_, _, rfl⟩
    · exact nearV_pair _ _ _
  · exact ⟨_, _, rfl⟩

theorem inRange_any (x : Int) (w : World) : Calls Tryd.prog 30 #[.int .i64 x] w fun e w' => e = .returned (.bool (inR x)) ∧ w = w' := by
  rcases hx : inR x with _ | _
  · rcases inR_not hx with h | h
    · have e1 : decide (-1125899906842624 ≤ x) = false := by simp; omega
      clear hx h
      go_enter Tryd.func30, Tryd.ntmps30
      go_wp2
      go_ret
      exact ⟨rfl, rfl⟩
    · have e1 : decide (-1125899906842624 ≤ x) = true := by simp; omega
      have e2 : decide (x ≤ 1125899906842624) = false := by simp; omega
      clear hx h
      go_enter Tryd.func30, Tryd.ntmps30
      go_wp2
      go_ret
      exact ⟨rfl, rfl⟩
  · obtain ⟨h1, h2⟩ := inR_of hx
    clear hx
    go_enter Tryd.func30, Tryd.ntmps30
    go_wp2
    go_ret
    exact ⟨rfl, rfl⟩
theorem Within_any (x : Int) (w : World) : Calls Tryd.prog 31 #[.int .i64 x, .int .i64 1125899906842624] w fun e w' => e = .returned (.bool (inR x)) ∧ w = w' := by
  rcases hx : inR x with _ | _
  · rcases inR_not hx with h | h
    · have e1 : decide (-1125899906842624 ≤ x) = false := by simp; omega
      clear hx h
      go_enter Tryd.func31, Tryd.ntmps31
      go_wp2
      go_ret
      exact ⟨rfl, rfl⟩
    · have e1 : decide (-1125899906842624 ≤ x) = true := by simp; omega
      have e2 : decide (x ≤ 1125899906842624) = false := by simp; omega
      clear hx h
      go_enter Tryd.func31, Tryd.ntmps31
      go_wp2
      go_ret
      exact ⟨rfl, rfl⟩
  · obtain ⟨h1, h2⟩ := inR_of hx
    clear hx
    go_enter Tryd.func31, Tryd.ntmps31
    go_wp2
    go_ret
    exact ⟨rfl, rfl⟩
theorem mul_any (a b : Int) (w : World) : Calls Tryd.prog 15 #[.int .i64 a, .int .i64 b] w fun e w' => e = .returned (mulV a b) ∧ ∃ n, w' = w.drewN n := by
  rcases ha : inR a with _ | _
  · have hv : Hid (mulV a b = pairV 0 12) := by show mulV a b = _; simp [mulV, ha]
    rw [hv.out]
    go_enter Tryd.func15, Tryd.ntmps15
    go_wp2_with ((go_at_call 30; refine (inRange_any _ _).mono ?_; rintro e w' ⟨rfl, rfl⟩))
    go_ret2
    exact ⟨rfl, 0, rfl⟩
  · obtain ⟨a1, a2⟩ := inR_of ha
    rcases hb : inR b with _ | _
    · have hv : Hid (mulV a b = pairV 0 12) := by show mulV a b = _; simp [mulV, hb]
      rw [hv.out]
      go_enter Tryd.func15, Tryd.ntmps15
      go_wp2_with ((go_at_call 30; refine (inRange_any _ _).mono ?_; rintro e w' ⟨rfl, rfl⟩))
      go_ret2
      exact ⟨rfl, 0, rfl⟩
    · obtain ⟨b1, b2⟩ := inR_of hb
      have hv : mulV a b = nearV a b 1000 := by simp [mulV, ha, hb]
      have hn := fun w => nearest_any a b 1000 w a1 a2 b1 b2 (by omega) (by omega) (by omega)
      rw [hv]
      clear hv
      obtain ⟨v, e, hp⟩ := nearV_pair a b 1000
      rw [hp] at hn ⊢
      unfold pairV at hn
      have hn := Lib.hid hn
      clear hp
      go_enter Tryd.func15, Tryd.ntmps15
      go_wp2_with (first | (go_at_call 30; refine (inRange_any _ _).mono ?_; rintro e w' ⟨rfl, rfl⟩) | (go_at_call 32; refine (hn.out _).mono ?_; rintro e w' ⟨rfl, n, rfl⟩))
      go_ret2
      exact ⟨rfl, n, rfl⟩

theorem div_any (a b : Int) (w : World) : Calls Tryd.prog 17 #[.int .i64 a, .int .i64 b] w fun e w' => e = .returned (divV a b) ∧ ∃ n, w' = w.drewN n := by
  rcases ha : inR a with _ | _
  · have hv : Hid (divV a b = pairV 0 12) := by show divV a b = _; simp [divV, ha]
    rw [hv.out]
    go_enter Tryd.func17, Tryd.ntmps17
    go_wp2_with ((go_at_call 30; refine (inRange_any _ _).mono ?_; rintro e w' ⟨rfl, rfl⟩))
    go_ret2
    exact ⟨rfl, 0, rfl⟩
  · obtain ⟨a1, a2⟩ := inR_of ha
    rcases hb : inR b with _ | _
    · have hv : Hid (divV a b = pairV 0 12) := by show divV a b = _; simp [divV, hb]
      rw [hv.out]
      go_enter Tryd.func17, Tryd.ntmps17
      go_wp2_with ((go_at_call 30; refine (inRange_any _ _).mono ?_; rintro e w' ⟨rfl, rfl⟩))
      go_ret2
      exact ⟨rfl, 0, rfl⟩
    · obtain ⟨b1, b2⟩ := inR_of hb
      by_cases hb0 : b = 0
      · subst hb0
        have hv : Hid (divV a 0 = pairV 0 1) := by show divV a 0 = _; simp [divV, ha, hb]
        rw [hv.out]
        go_enter Tryd.func17, Tryd.ntmps17
        go_wp2_with ((go_at_call 30; refine (inRange_any _ _).mono ?_; rintro e w' ⟨rfl, rfl⟩))
        go_ret2
        exact ⟨rfl, 0, rfl⟩
      · have hv : divV a b = nearV a 1000 b := by simp [divV, ha, hb, hb0]
        have hn := fun w => nearest_any a 1000 b w a1 a2 (by omega) (by omega) b1 b2 hb0
        have hb0' : (b == 0) = false := by simpa using hb0
        rw [hv]
        clear hv
        obtain ⟨v, e, hp⟩ := nearV_pair a 1000 b
        rw [hp] at hn ⊢
        unfold pairV at hn
        have hn := Lib.hid hn
        clear hp
        go_enter Tryd.func17, Tryd.ntmps17
        go_wp2_with (first | (go_at_call 30; refine (inRange_any _ _).mono ?_; rintro e w' ⟨rfl, rfl⟩) | (go_at_call 32; refine (hn.out _).mono ?_; rintro e w' ⟨rfl, n, rfl⟩))
        go_ret2
        exact ⟨rfl, n, rfl⟩

theorem abs_any (x : Int) (w : World) (h1 : -9223372036854775808 < x) (h2 : x < 9223372036854775808) : Calls Tryd.prog 33 #[.int .i64 x] w fun e w' => e = .returned (.int .i64 (x.natAbs : Int)) ∧ w = w' := by
  by_cases h : x < 0
  · obtain ⟨n, hn⟩ : ∃ n, (x.natAbs : Int) = n := ⟨_, rfl⟩
    obtain rfl : x = -n := by omega
    rw [hn]
    clear hn
    go_enter Tryd.func33, Tryd.ntmps33
    go_wp2
    go_ret
    exact ⟨ret_i64 (by omega), rfl⟩
  · obtain ⟨n, hn⟩ : ∃ n, (x.natAbs : Int) = n := ⟨_, rfl⟩
    obtain rfl : x = n := by omega
    rw [hn]
    clear hn
    go_enter Tryd.func33, Tryd.ntmps33
    go_wp2
    go_ret
    exact ⟨ret_i64 (by omega), rfl⟩
def sgnI (n a b : Int) : Int := if (decide (a < 0) != decide (b < 0)) then -n else n
theorem signed_any (n a b : Int) (w : World) (h1 : 0 ≤ n) (h2 : n ≤ 1125899906842624) : Calls Tryd.prog 34 #[.int .i64 n, .int .i64 a, .int .i64 b] w fun e w' => e = .returned (.int .i64 (sgnI n a b)) ∧ w = w' := by
  have hs : Hid (sgnI n a b = if (decide (a < 0) != decide (b < 0)) then -n else n) := rfl
  rcases ha : decide (a < 0) with _ | _ <;> rcases hb : decide (b < 0) with _ | _
  all_goals
    rw [ha, hb] at hs
    rw [show sgnI n a b = _ from hs.out]
    clear hs
    go_enter Tryd.func34, Tryd.ntmps34
    go_wp2
    go_ret
    exact ⟨by simp, rfl⟩

/-- The reference's Mul, its numbers under names. -/
theorem refMul_walk (a b A B P Q D M T : Int) (w : World) (hra : inR a = true) (hrb : inR b = true)
    (EA : (a.natAbs : Int) = A) (EB : (b.natAbs : Int) = B)
    (A0 : 0 ≤ A) (_B0 : 0 ≤ B) (A1 : A ≤ 1125899906842624) (_B1 : B ≤ 1125899906842624) (EP : A / 1000 = P) (EQ : A % 1000 = Q) (P0 : 0 ≤ P) (_Q0 : 0 ≤ Q) (_Q1 : Q < 1000)
    (ED : 0 < P → IntKind.i64.wrap ((1125899906842624 : Int).tdiv P) = D) (EM : ¬ (0 < P ∧ D < B) → IntKind.i64.wrap (P * B) = M) (ET : IntKind.i64.wrap (2 * Q * B) = T) (M0 : 0 ≤ M) (M1 : ¬ (0 < P ∧ D < B) → M ≤ 1125899906842624) (T0 : 0 ≤ T) (T1 : T ≤ 2251799813685248000) :
    Calls Tryd.prog 16 #[.int .i64 a, .int .i64 b] w fun e w' => e = .returned (if 0 < P ∧ D < B then pairV 0 12 else if M + (T + 1000) / 2000 ≤ 1125899906842624 then pairV (sgnI (M + (T + 1000) / 2000) a b) 0 else pairV 0 12) ∧ w = w' := by
  have M1 := Lib.hid M1
  have EM := Lib.hid EM
  obtain ⟨a1, a2⟩ := inR_of hra
  obtain ⟨b1, b2⟩ := inR_of hrb
  by_cases hP : 0 < P
  · have ED := ED hP
    by_cases hD : D < B
    · rw [if_pos ⟨hP, hD⟩]
      go_enter Tryd.func16, Tryd.ntmps16
      go_wp2_with (first | (go_at_call 31; refine (Within_any _ _).mono ?_; rintro e w' ⟨rfl, rfl⟩) | (go_at_call 33; refine (abs_any _ _ (by omega) (by omega)).mono ?_; rintro e w' ⟨rfl, rfl⟩))
      go_ret2
      exact ⟨rfl, rfl⟩
    · rw [if_neg (fun h => hD h.2)]
      have M1 := M1.out (fun h => hD h.2)
      have EM := EM.out (fun h => hD h.2)
      have hP2 : Hid (P ≠ 0) := by show P ≠ 0; omega
      by_cases hN : M + (T + 1000) / 2000 ≤ 1125899906842624
      · rw [if_pos hN]
        go_enter Tryd.func16, Tryd.ntmps16
        go_wp2_with (first | (go_at_call 31; refine (Within_any _ _).mono ?_; rintro e w' ⟨rfl, rfl⟩) | (go_at_call 34; refine (signed_any _ _ _ _ (by omega) (by omega)).mono ?_; rintro e w' ⟨rfl, rfl⟩) | (go_at_call 33; refine (abs_any _ _ (by omega) (by omega)).mono ?_; rintro e w' ⟨rfl, rfl⟩))
        go_ret2
        exact ⟨rfl, rfl⟩
      · rw [if_neg hN]
        go_enter Tryd.func16, Tryd.ntmps16
        go_wp2_with (first | (go_at_call 31; refine (Within_any _ _).mono ?_; rintro e w' ⟨rfl, rfl⟩) | (go_at_call 33; refine (abs_any _ _ (by omega) (by omega)).mono ?_; rintro e w' ⟨rfl, rfl⟩))
        go_ret2
        exact ⟨rfl, rfl⟩
  · rw [if_neg (fun h => hP h.1)]
    have EM := EM.out (fun h => hP h.1)
    obtain rfl : P = 0 := by omega
    obtain rfl : M = 0 := by rw [← EM, Int.zero_mul]; rfl
    clear EM M1 M0
    rw [Int.zero_add]
    by_cases hN : (T + 1000) / 2000 ≤ 1125899906842624
    · rw [if_pos hN]
      go_enter Tryd.func16, Tryd.ntmps16
      go_wp2_with (first | (go_at_call 31; refine (Within_any _ _).mono ?_; rintro e w' ⟨rfl, rfl⟩) | (go_at_call 34; refine (signed_any _ _ _ _ (by omega) (by omega)).mono ?_; rintro e w' ⟨rfl, rfl⟩) | (go_at_call 33; refine (abs_any _ _ (by omega) (by omega)).mono ?_; rintro e w' ⟨rfl, rfl⟩))
      go_ret2
      exact ⟨rfl, rfl⟩
    · omega

/-- The reference's numbers. -/
theorem mulFacts (A B : Nat) (_hA : A ≤ 1125899906842624) (hB : B ≤ 1125899906842624) :
    (¬ (0 < (A : Int) / 1000 ∧ IntKind.i64.wrap ((1125899906842624 : Int).tdiv ((A : Int) / 1000)) < (B : Int)) → IntKind.i64.wrap ((A : Int) / 1000 * (B : Int)) = ((A / 1000 * B : Nat) : Int)) ∧ IntKind.i64.wrap (2 * ((A : Int) % 1000) * (B : Int)) = ((2 * (A % 1000) * B : Nat) : Int) ∧ (0 : Int) ≤ ((A / 1000 * B : Nat) : Int) ∧
    (¬ (0 < (A : Int) / 1000 ∧ IntKind.i64.wrap ((1125899906842624 : Int).tdiv ((A : Int) / 1000)) < (B : Int)) → ((A / 1000 * B : Nat) : Int) ≤ 1125899906842624) ∧
    (0 : Int) ≤ ((2 * (A % 1000) * B : Nat) : Int) ∧ ((2 * (A % 1000) * B : Nat) : Int) ≤ 2251799813685248000 ∧
    ∀ a b : Int, a.natAbs = A → b.natAbs = B → (if 0 < (A : Int) / 1000 ∧ IntKind.i64.wrap ((1125899906842624 : Int).tdiv ((A : Int) / 1000)) < (B : Int) then pairV 0 12 else if ((A / 1000 * B : Nat) : Int) + (((2 * (A % 1000) * B : Nat) : Int) + 1000) / 2000 ≤ 1125899906842624 then pairV (sgnI (((A / 1000 * B : Nat) : Int) + (((2 * (A % 1000) * B : Nat) : Int) + 1000) / 2000) a b) 0 else pairV 0 12) = nearV a b 1000 := by
  have hT : 2 * (A % 1000) * B ≤ 1998 * 1125899906842624 := Nat.mul_le_mul (by omega) hB
  have eD : IntKind.i64.wrap ((1125899906842624 : Int).tdiv ((A : Int) / 1000)) = ((1125899906842624 / (A / 1000) : Nat) : Int) := by
    rw [Int.tdiv_eq_ediv_of_nonneg (by omega), IntKind.wrap_i64]
    have := Nat.div_le_self 1125899906842624 (A / 1000)
    rw [show ((1125899906842624 : Int) / ((A : Int) / 1000)) = ((1125899906842624 / (A / 1000) : Nat) : Int) from by rw [Int.natCast_ediv, Int.natCast_ediv]; rfl]
    generalize 1125899906842624 / (A / 1000) = q at *
    omega
  have hle : ¬ (0 < (A : Int) / 1000 ∧ IntKind.i64.wrap ((1125899906842624 : Int).tdiv ((A : Int) / 1000)) < (B : Int)) → A / 1000 * B ≤ 1125899906842624 := by
    intro h
    rw [eD] at h
    rcases Nat.eq_zero_or_pos (A / 1000) with h0 | h0
    · rw [h0, Nat.zero_mul]; omega
    · have h1 : B ≤ 1125899906842624 / (A / 1000) := by
        rcases Nat.lt_or_ge (1125899906842624 / (A / 1000)) B with h2 | h2
        · exact absurd ⟨by omega, by omega⟩ h
        · exact h2
      rw [Nat.mul_comm]
      exact (Nat.le_div_iff_mul_le h0).1 h1
  have eM : (A : Int) / 1000 * (B : Int) = ((A / 1000 * B : Nat) : Int) := by rw [Int.natCast_mul, Int.natCast_ediv]; rfl
  have eT : 2 * ((A : Int) % 1000) * (B : Int) = ((2 * (A % 1000) * B : Nat) : Int) := by rw [Int.natCast_mul, Int.natCast_mul, Int.natCast_emod]; rfl
  refine ⟨fun h => ?_, ?_, Int.natCast_nonneg _, fun h => ?_, Int.natCast_nonneg _, by omega, ?_⟩
  · have := hle h
    rw [eM, IntKind.wrap_i64]
    omega
  · rw [eT, IntKind.wrap_i64]
    omega
  · have := hle h
    omega
  · intro a b ha hb
    have hQ : nearQ a b 1000 = A / 1000 * B + (2 * (A % 1000) * B + 1000) / 2000 := by
      unfold nearQ
      rw [ha, hb]
      show (A * B + 500) / 1000 = _
      have hA : A = 1000 * (A / 1000) + A % 1000 := (Nat.div_add_mod A 1000).symm
      have : A * B = 1000 * (A / 1000 * B) + A % 1000 * B := by
        conv => lhs; rw [hA]
        rw [Nat.add_mul, Nat.mul_assoc]
      rw [this, show 2 * (A % 1000) * B = 2 * (A % 1000 * B) from Nat.mul_assoc _ _ _]
      generalize A / 1000 * B = m
      generalize A % 1000 * B = t
      omega
    have hS : negs a b 1000 = (decide (a < 0) != decide (b < 0)) := by simp [negs]
    rw [eD]
    unfold nearV sgnI
    rw [hQ, hS]
    have hx : (((A / 1000 * B + (2 * (A % 1000) * B + 1000) / 2000 : Nat)) : Int) = ((A / 1000 * B : Nat) : Int) + (((2 * (A % 1000) * B : Nat) : Int) + 1000) / 2000 := by omega
    rw [hx]
    by_cases h : 0 < (A : Int) / 1000 ∧ ((1125899906842624 / (A / 1000) : Nat) : Int) < (B : Int)
    · rw [if_pos h]
      obtain ⟨h1, h2⟩ := h
      have hgt : 1125899906842624 < A / 1000 * B := by
        have h3 : 1125899906842624 / (A / 1000) < B := by omega
        rw [Nat.div_lt_iff_lt_mul (by omega)] at h3
        rwa [Nat.mul_comm]
      rw [if_neg (by omega)]
      rfl
    · rw [if_neg h]
      rfl
theorem refMul_any (a b : Int) (w : World) : Calls Tryd.prog 16 #[.int .i64 a, .int .i64 b] w fun e w' => e = .returned (mulV a b) ∧ w = w' := by
  rcases ha : inR a with _ | _
  · have hv : Hid (mulV a b = pairV 0 12) := by show mulV a b = _; simp [mulV, ha]
    rw [hv.out]
    go_enter Tryd.func16, Tryd.ntmps16
    go_wp2_with (go_at_call 31; refine (Within_any _ _).mono ?_; rintro e w' ⟨rfl, rfl⟩)
    go_ret2
    exact ⟨rfl, rfl⟩
  · rcases hb : inR b with _ | _
    · have hv : Hid (mulV a b = pairV 0 12) := by show mulV a b = _; simp [mulV, hb]
      rw [hv.out]
      go_enter Tryd.func16, Tryd.ntmps16
      go_wp2_with (go_at_call 31; refine (Within_any _ _).mono ?_; rintro e w' ⟨rfl, rfl⟩)
      go_ret2
      exact ⟨rfl, rfl⟩
    · obtain ⟨a1, a2⟩ := inR_of ha
      obtain ⟨b1, b2⟩ := inR_of hb
      have f := mulFacts a.natAbs b.natAbs (by omega) (by omega)
      refine (refMul_walk a b a.natAbs b.natAbs _ _ _ _ _ w ha hb rfl rfl (by omega) (by omega) (by omega) (by omega) rfl rfl (by omega) (by omega) (by omega) (fun _ => rfl) f.1 f.2.1 f.2.2.1 f.2.2.2.1 f.2.2.2.2.1 f.2.2.2.2.2.1).mono fun e w' ⟨h1, h2⟩ => ⟨?_, h2⟩
      rw [h1]
      congr 1
      have hv : mulV a b = nearV a b 1000 := by simp [mulV, ha, hb]
      rw [hv]
      exact f.2.2.2.2.2.2 a b rfl rfl

/-- The reference's Div, its numbers under names. -/
theorem refDiv_walk (a b A B N : Int) (w : World) (hra : inR a = true) (hrb : inR b = true) (hb0 : (b == 0) = false) (EA : (a.natAbs : Int) = A) (EB : (b.natAbs : Int) = B)
    (A0 : 0 ≤ A) (B0 : 0 < B) (A1 : A ≤ 1125899906842624) (B1 : B ≤ 1125899906842624) (EN : IntKind.i64.wrap ((2000 * A + B).tdiv (2 * B)) = N) (N0 : 0 ≤ N) :
    Calls Tryd.prog 18 #[.int .i64 a, .int .i64 b] w fun e w' => e = .returned (if N ≤ 1125899906842624 then pairV (sgnI N a b) 0 else pairV 0 12) ∧ w = w' := by
  obtain ⟨a1, a2⟩ := inR_of hra
  obtain ⟨b1, b2⟩ := inR_of hrb
  by_cases hN : N ≤ 1125899906842624
  · rw [if_pos hN]
    go_enter Tryd.func18, Tryd.ntmps18
    go_wp2_with (first | (go_at_call 31; refine (Within_any _ _).mono ?_; rintro e w' ⟨rfl, rfl⟩) | (go_at_call 34; refine (signed_any _ _ _ _ (by omega) (by omega)).mono ?_; rintro e w' ⟨rfl, rfl⟩) | (go_at_call 33; refine (abs_any _ _ (by omega) (by omega)).mono ?_; rintro e w' ⟨rfl, rfl⟩))
    go_ret2
    exact ⟨rfl, rfl⟩
  · rw [if_neg hN]
    go_enter Tryd.func18, Tryd.ntmps18
    go_wp2_with (first | (go_at_call 31; refine (Within_any _ _).mono ?_; rintro e w' ⟨rfl, rfl⟩) | (go_at_call 34; refine (signed_any _ _ _ _ (by omega) (by omega)).mono ?_; rintro e w' ⟨rfl, rfl⟩) | (go_at_call 33; refine (abs_any _ _ (by omega) (by omega)).mono ?_; rintro e w' ⟨rfl, rfl⟩))
    go_ret2
    exact ⟨rfl, rfl⟩

theorem refDiv_any (a b : Int) (w : World) : Calls Tryd.prog 18 #[.int .i64 a, .int .i64 b] w fun e w' => e = .returned (divV a b) ∧ w = w' := by
  rcases ha : inR a with _ | _
  · have hv : Hid (divV a b = pairV 0 12) := by show divV a b = _; simp [divV, ha]
    rw [hv.out]
    go_enter Tryd.func18, Tryd.ntmps18
    go_wp2_with (go_at_call 31; refine (Within_any _ _).mono ?_; rintro e w' ⟨rfl, rfl⟩)
    go_ret2
    exact ⟨rfl, rfl⟩
  · rcases hb : inR b with _ | _
    · have hv : Hid (divV a b = pairV 0 12) := by show divV a b = _; simp [divV, hb]
      rw [hv.out]
      go_enter Tryd.func18, Tryd.ntmps18
      go_wp2_with (go_at_call 31; refine (Within_any _ _).mono ?_; rintro e w' ⟨rfl, rfl⟩)
      go_ret2
      exact ⟨rfl, rfl⟩
    · obtain ⟨a1, a2⟩ := inR_of ha
      obtain ⟨b1, b2⟩ := inR_of hb
      by_cases hb0 : b = 0
      · subst hb0
        have hv : Hid (divV a 0 = pairV 0 1) := by show divV a 0 = _; simp [divV, ha, hb]
        rw [hv.out]
        go_enter Tryd.func18, Tryd.ntmps18
        go_wp2_with (go_at_call 31; refine (Within_any _ _).mono ?_; rintro e w' ⟨rfl, rfl⟩)
        go_ret2
        exact ⟨rfl, rfl⟩
      · have hv : divV a b = nearV a 1000 b := by simp [divV, ha, hb, hb0]
        have hQ : nearQ a 1000 b = (2000 * a.natAbs + b.natAbs) / (2 * b.natAbs) := by
          unfold nearQ
          show (a.natAbs * 1000 + b.natAbs / 2) / b.natAbs = _
          have hbp : 0 < b.natAbs := by omega
          generalize a.natAbs = A at *
          generalize b.natAbs = B at *
          rw [← Nat.div_div_eq_div_mul]
          congr 1
          omega
        have hS : negs a 1000 b = (decide (a < 0) != decide (b < 0)) := by simp [negs]
        have eN : IntKind.i64.wrap ((2000 * (a.natAbs : Int) + (b.natAbs : Int)).tdiv (2 * (b.natAbs : Int))) = ((nearQ a 1000 b : Nat) : Int) := by
          rw [hQ, Int.tdiv_eq_ediv_of_nonneg (by omega), IntKind.wrap_i64]
          have := Nat.div_le_self (2000 * a.natAbs + b.natAbs) (2 * b.natAbs)
          rw [show (2000 * (a.natAbs : Int) + (b.natAbs : Int)) / (2 * (b.natAbs : Int)) = (((2000 * a.natAbs + b.natAbs) / (2 * b.natAbs) : Nat) : Int) from by rw [Int.natCast_ediv, Int.natCast_add, Int.natCast_mul, Int.natCast_mul]; rfl]
          generalize (2000 * a.natAbs + b.natAbs) / (2 * b.natAbs) = q at *
          omega
        refine (refDiv_walk a b a.natAbs b.natAbs _ w ha hb (by simpa using hb0) rfl rfl (by omega) (by omega) (by omega) (by omega) eN (Int.natCast_nonneg _)).mono fun e w' ⟨h1, h2⟩ => ⟨?_, h2⟩
        rw [h1, hv]
        unfold nearV sgnI
        rw [hS]
        rfl

end Go.Proofs.YtleddfceigmlmaaDoor
