/- The reference's Print returns 'printL', too. -/
import Derived.Test.YtleddfceigmlmaaDoorPrint
namespace Go.Proofs.YtleddfceigmlmaaDoor
open Go.RowKit Go.Shelf Go.Sort

theorem digits10 : (⟨#[48, 49, 50, 51, 52, 53, 54, 55, 56, 57]⟩ : ByteArray).size = 10 := rfl
def ch (d : Nat) : UInt8 := UInt8.ofNat (48 + d)
theorem digit_cut : ∀ d : Fin 10, ((⟨#[48, 49, 50, 51, 52, 53, 54, 55, 56, 57]⟩ : ByteArray).extract d.val (d.val + 1)) = ⟨#[ch d.val]⟩ := by decide +kernel

theorem digit_any (d : Int) (w : World) (h0 : 0 ≤ d) (h1 : d ≤ 9) : Calls Tryd.prog 51 #[.int .i64 d] w fun e w' => e = .returned (.string ⟨#[ch d.toNat]⟩) ∧ w = w' := by
  obtain ⟨n, rfl⟩ := Int.eq_ofNat_of_zero_le h0
  rw [Int.toNat_natCast]
  have hc : ((⟨#[48, 49, 50, 51, 52, 53, 54, 55, 56, 57]⟩ : ByteArray).extract n (n + 1)) = ⟨#[ch n]⟩ := digit_cut ⟨n, by omega⟩
  have e1 : ((n : Int) + 1).toNat = n + 1 := by omega
  have hn : n ≤ 9 := by omega
  clear h0 h1
  go_enter Tryd.func51, Tryd.ntmps51
  go_wp2
  go_ret
  exact ⟨rfl, rfl⟩

/-- What the loop has still to lay before the string, with m left of the number at place i. -/
def todo (i m : Nat) : List UInt8 :=
  if i = 0 then Lib.decDigits (m / 1000) ++ 46 :: dig3 (m % 1000)
  else if i = 1 then Lib.decDigits (m / 100) ++ [46, ch (m / 10 % 10), ch (m % 10)]
  else if i = 2 then Lib.decDigits (m / 10) ++ [46, ch (m % 10)]
  else if i = 3 then Lib.decDigits m ++ [46]
  else if m = 0 then [] else Lib.decDigits m

theorem dec_last (M : Nat) : Lib.decDigits M = (if M / 10 = 0 then [] else Lib.decDigits (M / 10)) ++ [ch (M % 10)] := by
  by_cases h : M < 10
  · rw [Lib.decDigits_one h, if_pos (by omega), Nat.mod_eq_of_lt h]
    rfl
  · rw [if_neg (by omega), Lib.decDigits, dif_neg h]
    rfl
theorem todo_step (k M : Nat) (h : k < 4 ∨ M ≠ 0) : todo k M = todo (k + 1) (M / 10) ++ (if k = 3 then [ch (M % 10), 46] else [ch (M % 10)]) := by
  unfold todo
  rcases Nat.lt_or_ge k 4 with hk | hk
  · obtain rfl | rfl | rfl | rfl : k = 0 ∨ k = 1 ∨ k = 2 ∨ k = 3 := by omega
    · have e1 : M / 10 / 100 = M / 1000 := by omega
      have e2 : M % 1000 / 100 = M / 10 / 10 % 10 := by omega
      have e3 : M % 1000 / 10 % 10 = M / 10 % 10 := by omega
      have e4 : M % 1000 % 10 = M % 10 := by omega
      simp only [dig3, e1, e2, e3, e4]
      simp [ch]
    · have e1 : M / 10 / 10 = M / 100 := by omega
      simp [e1]
    · simp
    · simp only [dec_last M]
      simp
  · have hM : M ≠ 0 := by omega
    rw [if_neg (show k ≠ 0 by omega), if_neg (show k ≠ 1 by omega), if_neg (show k ≠ 2 by omega), if_neg (show k ≠ 3 by omega), if_neg hM, if_neg (show k + 1 ≠ 0 by omega), if_neg (show k + 1 ≠ 1 by omega), if_neg (show k + 1 ≠ 2 by omega), if_neg (show k + 1 ≠ 3 by omega), if_neg (show k ≠ 3 by omega)]
    exact dec_last M
theorem pow_step {M k : Nat} (h : M * 2 ^ k ≤ 9223372036854775808) : M / 10 * 2 ^ (k + 1) ≤ 9223372036854775808 := by
  have h1 : M / 10 * 2 ≤ M := by omega
  have h2 : M / 10 * 2 * 2 ^ k ≤ M * 2 ^ k := Nat.mul_le_mul_right _ h1
  rw [Nat.pow_succ, Nat.mul_comm (2 ^ k) 2, ← Nat.mul_assoc]
  omega
theorem pow_lt {M k : Nat} (h0 : M ≠ 0) (h : M * 2 ^ k ≤ 9223372036854775808) : k + 1 ≤ 64 := by
  rcases Nat.lt_or_ge k 64 with g | g
  · exact g
  · have h1 : 2 ^ 64 ≤ 2 ^ k := Nat.pow_le_pow_right (by omega) g
    have h2 : 1 * 2 ^ k ≤ M * 2 ^ k := Nat.mul_le_mul_right _ (by omega)
    omega
theorem small_of {M k : Nat} (h : M * 2 ^ k ≤ 9223372036854775808) : M ≤ 9223372036854775808 := by
  have h1 : M * 1 ≤ M * 2 ^ k := Nat.mul_le_mul_left _ (Nat.two_pow_pos k)
  omega
/-- One step of the number: what is left of it, and its last digit. -/
theorem num_step (m : Int) (h : m.natAbs ≤ 9223372036854775808) : (m.tmod 10).natAbs = m.natAbs % 10 ∧ (IntKind.i64.wrap (m.tdiv 10)).natAbs = m.natAbs / 10 := by
  have e1 : (m.tmod 10).natAbs = m.natAbs % 10 := Int.natAbs_tmod m 10
  have e2 : (m.tdiv 10).natAbs = m.natAbs / 10 := Int.natAbs_tdiv m 10
  refine ⟨e1, ?_⟩
  rw [i64_in' (by omega) (by omega), e2]
theorem one_cat (c : UInt8) (l : List UInt8) : ((⟨#[c]⟩ : ByteArray) ++ ⟨l.toArray⟩) = ⟨(c :: l).toArray⟩ := by
  apply ba_eq
  rw [cat_list]
  rfl

set_option maxRecDepth 100000 in
set_option maxHeartbeats 1000000 in
theorem refPrint_any (x : Int) (w : World) (h1 : -9223372036854775808 ≤ x) (h2 : x ≤ 9223372036854775807) :
    Calls Tryd.prog 28 #[.int .i64 x] w fun e w' => e = .returned (.string ⟨(printL x).toArray⟩) ∧ w = w' := by
  go_enter Tryd.func28, Tryd.ntmps28
  go_wp2
  go_loop [3, 4, 5, 6] (fun s n i _ => ∃ (sl : List UInt8) (m : Int) (k : Nat), s = .string ⟨sl.toArray⟩ ∧ n = .int .i64 m ∧ i = .int .i64 k ∧ sl.length ≤ 2 * k ∧ k ≤ 64 ∧ Hid (todo k m.natAbs ++ sl = todo 0 x.natAbs) ∧ Hid (m.natAbs * 2 ^ k ≤ 9223372036854775808)) (fun _ _ i _ => 64 - (intOf i).toNat)
  case atStart => exact ⟨[], x, 0, rfl, rfl, rfl, by simp, by omega, by show todo 0 x.natAbs ++ [] = _; simp, by show x.natAbs * 2 ^ 0 ≤ _; omega⟩
  case round =>
    obtain ⟨sl, m, k, rfl, rfl, rfl, hl, hk, hT, hM⟩ := hrel
    obtain ⟨n1, n2⟩ := num_step m (small_of hM.out)
    have hM2 := Lib.hid (pow_step hM.out)
    by_cases hgo : k < 4 ∨ m.natAbs ≠ 0
    · have hst := todo_step k m.natAbs hgo
      have hT' := hT.out
      rw [hst, List.append_assoc] at hT'
      have hk' : k + 1 ≤ 64 := by
        rcases Nat.lt_or_ge k 4 with g | g
        · omega
        · exact pow_lt (by omega) hM.out
      obtain ⟨D, hD⟩ : ∃ D, m.tmod 10 = D := ⟨_, rfl⟩
      obtain ⟨m', hm'⟩ : ∃ m', IntKind.i64.wrap (m.tdiv 10) = m' := ⟨_, rfl⟩
      rw [hD] at n1
      rw [hm'] at n2
      rw [← n2] at hT' hM2
      rw [← n1] at hT'
      have d1 : -9 ≤ D := by omega
      have d2 : D ≤ 9 := by omega
      have hmx : Hid ((max D (-D)).toNat = D.natAbs) := by show (max D (-D)).toNat = D.natAbs; omega
      have hT' := Lib.hid hT'
      have hgo2 : k < 4 ∨ (4 ≤ k ∧ m ≠ 0) := by omega
      clear hst n1 n2 hT hM hgo
      rcases hgo2 with hc | ⟨hc, hm0⟩
      · by_cases h3 : k = 3
        · subst h3
          go_wp2_with (go_at_call 51; refine (digit_any _ _ (by omega) (by omega)).mono ?_; rintro e w' ⟨rfl, rfl⟩)
          refine ⟨⟨ch D.natAbs :: 46 :: sl, m', 3 + 1, by rw [hmx.out, one_cat, one_cat], rfl, by go_num, by simp only [List.length_cons]; omega, hk', ?_, hM2⟩, by simp [intOf]⟩
          have := hT'.out
          exact this
        · have h3' : ((k : Int) == 3) = false := by simp; omega
          have e3 : (if k = 3 then [ch D.natAbs, 46] else [ch D.natAbs]) = [ch D.natAbs] := if_neg h3
          rw [e3] at hT'
          clear h3 e3
          go_wp2_with (go_at_call 51; refine (digit_any _ _ (by omega) (by omega)).mono ?_; rintro e w' ⟨rfl, rfl⟩)
          exact ⟨⟨ch D.natAbs :: sl, m', k + 1, by rw [hmx.out, one_cat], rfl, by go_num, by simp only [List.length_cons]; omega, hk', hT', hM2⟩, by simp [intOf]; omega⟩
      · have h3' : ((k : Int) == 3) = false := by simp; omega
        have hc' : decide ((k : Int) < 4) = false := by simp; omega
        have hm1 : (m != 0) = true := by simpa using hm0
        have e3 : (if k = 3 then [ch D.natAbs, 46] else [ch D.natAbs]) = [ch D.natAbs] := if_neg (by omega)
        rw [e3] at hT'
        clear e3
        go_wp2_with (go_at_call 51; refine (digit_any _ _ (by omega) (by omega)).mono ?_; rintro e w' ⟨rfl, rfl⟩)
        exact ⟨⟨ch D.natAbs :: sl, m', k + 1, by rw [hmx.out, one_cat], rfl, by go_num, by simp only [List.length_cons]; omega, hk', hT', hM2⟩, by simp [intOf]; omega⟩
    · obtain rfl : m = 0 := by omega
      have hc' : decide ((k : Int) < 4) = false := by simp; omega
      have hT' := hT.out
      have e0 : todo k (Int.natAbs 0) = [] := by unfold todo; rw [if_neg (by omega), if_neg (by omega), if_neg (by omega), if_neg (by omega)]; rfl
      rw [e0] at hT'
      have hT' : Hid (sl = todo 0 x.natAbs) := hT'
      clear e0 hT hM hM2 n1 n2 hgo
      by_cases hx : x < 0
      · have hp : Hid (printL x = 45 :: sl) := by show printL x = _; rw [hT'.out]; unfold printL todo; rw [if_pos hx, if_pos rfl]; rfl
        go_wp2
        go_ret
        exact ⟨by rw [hp.out, one_cat]; rfl, rfl⟩
      · have hp : Hid (printL x = sl) := by show printL x = _; rw [hT'.out]; unfold printL todo; rw [if_neg hx, if_pos rfl]; rfl
        go_wp2
        go_ret
        exact ⟨by rw [hp.out]; rfl, rfl⟩
end Go.Proofs.YtleddfceigmlmaaDoor
