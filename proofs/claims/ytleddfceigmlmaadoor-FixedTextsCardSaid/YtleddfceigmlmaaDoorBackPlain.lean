/- The law's helper 'product': a product as two numbers; and Parse of Print, in plain words. -/
import Derived.Test.YtleddfceigmlmaaDoorParseAll
namespace Go.Proofs.YtleddfceigmlmaaDoor
open Go.RowKit

theorem mul_nn {a b m n : Int} (ha : 0 ≤ a) (hb : 0 ≤ b) (h1 : a ≤ m) (h2 : b ≤ n) : 0 ≤ a * b ∧ a * b ≤ m * n :=
  ⟨Int.mul_nonneg ha hb, Int.mul_le_mul h1 h2 hb (Int.le_trans ha h1)⟩

set_option maxRecDepth 100000 in
theorem product_any (a b : Int) (w : World) (a0 : 0 ≤ a) (b0 : 0 ≤ b) (a1 : a ≤ 1125899906842624) (b1 : b ≤ 1125899906842624) :
    Calls Tryd.prog 29 #[.int .i64 a, .int .i64 b] w fun e w' => e = .returned (.tuple #[.int .i64 (a * b / 1125899906842624), .int .i64 (a * b % 1125899906842624)]) ∧ w = w' := by
  obtain ⟨p1, q1⟩ := mul_nn (a := a / 33554432) (b := b % 33554432) (m := 33554432) (n := 33554431) (by omega) (by omega) (by omega) (by omega)
  obtain ⟨p2, q2⟩ := mul_nn (a := a % 33554432) (b := b / 33554432) (m := 33554431) (n := 33554432) (by omega) (by omega) (by omega) (by omega)
  obtain ⟨p3, q3⟩ := mul_nn (a := a % 33554432) (b := b % 33554432) (m := 33554431) (n := 33554431) (by omega) (by omega) (by omega) (by omega)
  obtain ⟨p4, q4⟩ := mul_nn (a := a / 33554432) (b := b / 33554432) (m := 33554432) (n := 33554432) (by omega) (by omega) (by omega) (by omega)
  have key : a * b = (a / 33554432) * (b / 33554432) * 1125899906842624 + ((a / 33554432) * (b % 33554432) + (a % 33554432) * (b / 33554432)) * 33554432 + (a % 33554432) * (b % 33554432) := by
    have ea : a = (a / 33554432) * 33554432 + a % 33554432 := by omega
    have eb : b = (b / 33554432) * 33554432 + b % 33554432 := by omega
    generalize a / 33554432 = x at *
    generalize a % 33554432 = y at *
    generalize b / 33554432 = z at *
    generalize b % 33554432 = t at *
    subst ea; subst eb
    rw [Int.add_mul, Int.mul_add, Int.mul_add]
    have f1 : x * 33554432 * (z * 33554432) = x * z * 1125899906842624 := by
      rw [Int.mul_assoc, Int.mul_left_comm 33554432 z 33554432, ← Int.mul_assoc]; rfl
    have f2 : x * 33554432 * t = x * t * 33554432 := Int.mul_right_comm _ _ _
    have f3 : y * (z * 33554432) = y * z * 33554432 := (Int.mul_assoc _ _ _).symm
    rw [f1, f2, f3]
    omega
  obtain ⟨P1, e1⟩ : ∃ P, (a / 33554432) * (b % 33554432) = P := ⟨_, rfl⟩
  obtain ⟨P2, e2⟩ : ∃ P, (a % 33554432) * (b / 33554432) = P := ⟨_, rfl⟩
  obtain ⟨P3, e3⟩ : ∃ P, (a % 33554432) * (b % 33554432) = P := ⟨_, rfl⟩
  obtain ⟨P4, e4⟩ : ∃ P, (a / 33554432) * (b / 33554432) = P := ⟨_, rfl⟩
  rw [e1] at p1 q1
  rw [e2] at p2 q2
  rw [e3] at p3 q3
  rw [e4] at p4 q4
  rw [e1, e2, e3, e4] at key
  have w1 : IntKind.i64.wrap ((a / 33554432) * (b % 33554432)) = P1 := by rw [e1]; exact i64_in' (by omega) (by omega)
  have w2 : IntKind.i64.wrap ((a % 33554432) * (b / 33554432)) = P2 := by rw [e2]; exact i64_in' (by omega) (by omega)
  have w3 : IntKind.i64.wrap ((a % 33554432) * (b % 33554432)) = P3 := by rw [e3]; exact i64_in' (by omega) (by omega)
  have w4 : IntKind.i64.wrap ((a / 33554432) * (b / 33554432)) = P4 := by rw [e4]; exact i64_in' (by omega) (by omega)
  have hr1 : Hid (P4 + (P1 + P2) / 33554432 + (P3 + (P1 + P2) % 33554432 * 33554432) / 1125899906842624 = a * b / 1125899906842624) := by
    show _ = _
    rw [key]; omega
  have hr2 : Hid ((P3 + (P1 + P2) % 33554432 * 33554432) % 1125899906842624 = a * b % 1125899906842624) := by
    show _ = _
    rw [key]; omega
  clear key e1 e2 e3 e4
  go_enter Tryd.func29, Tryd.ntmps29
  go_wp2
  go_ret2
  rw [← hr1.out, ← hr2.out]
  exact ⟨rfl, rfl⟩

theorem ch_digit {d : Nat} (h : d < 10) : isD (ch d) = true ∧ (ch d).toNat - 48 = d := by
  have : (ch d).toNat = 48 + d := by
    unfold ch
    rw [UInt8.toNat_ofNat']
    omega
  exact ⟨decide_eq_true (by omega), by omega⟩
theorem dec_digits (M : Nat) : (Lib.decDigits M).all isD = true ∧ valN (Lib.decDigits M) = M := by
  induction M using Nat.strongRecOn with
  | _ M ih =>
    rw [dec_last]
    obtain ⟨c1, c2⟩ := ch_digit (d := M % 10) (by omega)
    by_cases h : M / 10 = 0
    · rw [if_pos h, List.nil_append]
      refine ⟨by rw [List.all_cons, c1]; rfl, ?_⟩
      show 10 * 0 + ((ch (M % 10)).toNat - 48) = M
      omega
    · rw [if_neg h]
      obtain ⟨i1, i2⟩ := ih (M / 10) (by omega)
      refine ⟨by rw [List.all_append, i1, List.all_cons, c1]; rfl, ?_⟩
      unfold valN at i2 ⊢
      rw [List.foldl_append, i2]
      show 10 * (M / 10) + ((ch (M % 10)).toNat - 48) = M
      omega
theorem dig3_digits {m : Nat} (h : m < 1000) (acc : Nat) : (dig3 m).all isD = true ∧ (dig3 m).foldl (fun a c => 10 * a + (c.toNat - 48)) acc = 1000 * acc + m := by
  obtain ⟨a1, a2⟩ := ch_digit (d := m / 100) (by omega)
  obtain ⟨b1, b2⟩ := ch_digit (d := m / 10 % 10) (by omega)
  obtain ⟨c1, c2⟩ := ch_digit (d := m % 10) (by omega)
  have e : dig3 m = [ch (m / 100), ch (m / 10 % 10), ch (m % 10)] := rfl
  rw [e]
  refine ⟨by rw [List.all_cons, List.all_cons, List.all_cons, a1, b1, c1]; rfl, ?_⟩
  show 10 * (10 * (10 * acc + ((ch (m / 100)).toNat - 48)) + ((ch (m / 10 % 10)).toNat - 48)) + ((ch (m % 10)).toNat - 48) = _
  omega
/-- A point behind bytes none of which is one. -/
theorem cut_point {a b : List UInt8} (h : ∀ c ∈ a, c ≠ 46) : Lib.cut (a ++ 46 :: b) [46] = (a, b, true) := by
  have hi : Lib.indexByte (a ++ 46 :: b) 46 = (a.length : Int) := by
    induction a with
    | nil => rfl
    | cons c a ih =>
      have ih := ih (fun x hx => h x (List.mem_cons_of_mem _ hx))
      have hc : (c == 46) = false := by rw [beq_eq_false_iff_ne]; exact h c (List.mem_cons_self ..)
      rw [List.cons_append]
      unfold Lib.indexByte
      rw [hc, ih]
      have : ((a.length : Int) == -1) = false := by rw [beq_eq_false_iff_ne]; omega
      rw [this]
      simp
  unfold Lib.cut
  rw [Lib.index_one, hi]
  rw [if_pos (by omega)]
  simp
theorem dig_ne {l : List UInt8} (h : l.all isD = true) : ∀ c ∈ l, c ≠ 46 := by
  intro c hc
  rw [List.all_eq_true] at h
  have := of_decide_eq_true (h c hc)
  rintro rfl
  exact absurd this.1 (by decide)
theorem dec_len (M : Nat) (k : Nat) (hk : 1 ≤ k) : (Lib.decDigits M).length ≤ k ↔ M < 10 ^ k := by
  induction k generalizing M with
  | zero => omega
  | succ k ih =>
    rw [dec_last, List.length_append, List.length_singleton, Nat.pow_succ]
    by_cases h : M / 10 = 0
    · rw [if_pos h]
      have h1 : 0 < 10 ^ k := Nat.pow_pos (by omega)
      constructor
      · intro _; omega
      · intro _; simp
    · rw [if_neg h]
      rcases Nat.eq_zero_or_pos k with h0 | h0
      · subst h0
        have : 1 ≤ (Lib.decDigits (M / 10)).length := by rw [dec_last, List.length_append]; simp
        constructor
        · intro _; omega
        · intro _; omega
      · have := ih (M / 10) h0
        constructor
        · intro hl
          have := this.1 (by omega)
          omega
        · intro hl
          have := this.2 (by omega)
          omega
theorem dec_head (M : Nat) (h : 10 ≤ M) : (Lib.decDigits M).headD 0 ≠ 48 := by
  induction M using Nat.strongRecOn with
  | _ M ih =>
    rw [dec_last, if_neg (by omega)]
    by_cases h2 : M / 10 < 10
    · rw [Lib.decDigits_one h2]
      show ch (M / 10) ≠ 48
      intro e
      have h3 := (ch_digit (d := M / 10) h2).2
      rw [e] at h3
      have : M / 10 = 0 := by simpa using h3.symm
      omega
    · have i := ih (M / 10) (by omega) (by omega)
      have hl : Lib.decDigits (M / 10) ≠ [] := by rw [dec_last]; simp
      cases hd : Lib.decDigits (M / 10) with
      | nil => exact absurd hd hl
      | cons c l => rw [hd] at i; exact i
theorem dec_ne (M : Nat) : ∃ c l, Lib.decDigits M = c :: l ∧ isD c = true := by
  have h := (dec_digits M).1
  cases hd : Lib.decDigits M with
  | nil => rw [dec_last] at hd; simp at hd
  | cons c l =>
    rw [hd, List.all_cons, Bool.and_eq_true] at h
    exact ⟨c, l, rfl, h.1⟩
theorem print_prefix (x : Int) : Lib.hasPrefix (printL x) [45] = decide (x < 0) ∧ Lib.trimPrefix (printL x) [45] = Lib.decDigits (x.natAbs / 1000) ++ 46 :: dig3 (x.natAbs % 1000) := by
  by_cases h : x < 0
  · have e : printL x = 45 :: (Lib.decDigits (x.natAbs / 1000) ++ 46 :: dig3 (x.natAbs % 1000)) := by
      unfold printL
      rw [if_pos h]
      rfl
    have hp : Lib.hasPrefix (printL x) [45] = true := by
      rw [e]
      unfold Lib.hasPrefix
      simp [List.isPrefixOf]
    refine ⟨by rw [hp, decide_eq_true h], ?_⟩
    unfold Lib.trimPrefix
    rw [hp, if_pos rfl, e]
    rfl
  · have e : printL x = Lib.decDigits (x.natAbs / 1000) ++ 46 :: dig3 (x.natAbs % 1000) := by
      unfold printL
      rw [if_neg h]
      rfl
    have hp : Lib.hasPrefix (printL x) [45] = false := by
      obtain ⟨c, l, hc, hd⟩ := dec_ne (x.natAbs / 1000)
      rw [e, hc]
      unfold Lib.hasPrefix
      have hne : ((45 : UInt8) == c) = false := by
        rw [beq_eq_false_iff_ne]
        rintro rfl
        exact absurd hd (by decide)
      simp [List.isPrefixOf, hne]
    refine ⟨by rw [hp, decide_eq_false h], ?_⟩
    unfold Lib.trimPrefix
    rw [hp, if_neg (by decide), e]
theorem parse_print (x : Int) : parseV (printL x) = if -9999999999999 ≤ x ∧ x ≤ 9999999999999 then pairV x 0 else pairV 0 3 := by
  obtain ⟨h1, h2⟩ := print_prefix x
  obtain ⟨d1, d2⟩ := dec_digits (x.natAbs / 1000)
  obtain ⟨g1, g2⟩ := dig3_digits (m := x.natAbs % 1000) (by omega) (x.natAbs / 1000)
  have hlen := dec_len (x.natAbs / 1000) 10 (by omega)
  have e10 : (10 : Nat) ^ 10 = 10000000000 := by decide
  rw [e10] at hlen
  unfold parseV
  rw [h1, h2, cut_point (dig_ne d1)]
  have l1 : 1 ≤ (Lib.decDigits (x.natAbs / 1000)).length := by
    obtain ⟨c, l, hc, _⟩ := dec_ne (x.natAbs / 1000)
    rw [hc]
    simp
  have hF : areD (dig3 (x.natAbs % 1000)) 3 = true := by
    unfold areD
    rw [g1]
    rfl
  simp only [hF, Bool.not_true, Bool.false_or, Bool.and_true]
  by_cases hb : -9999999999999 ≤ x ∧ x ≤ 9999999999999
  · have hM : x.natAbs / 1000 < 10000000000 := by omega
    have hl := hlen.2 hM
    have hw : wholeOk (Lib.decDigits (x.natAbs / 1000)) = true := by
      unfold wholeOk areD
      rw [d1, decide_eq_true ⟨l1, by omega⟩, Bool.true_and, Bool.true_and]
      by_cases h10 : x.natAbs / 1000 < 10
      · rw [Lib.decDigits_one h10]; rfl
      · have := dec_head (x.natAbs / 1000) (by omega)
        rw [Bool.or_eq_true]
        exact Or.inr (bne_iff_ne.2 this)
    have hv : valN (Lib.decDigits (x.natAbs / 1000) ++ (dig3 (x.natAbs % 1000) ++ [48, 48, 48]).take 3) = x.natAbs := by
      have e3 : (dig3 (x.natAbs % 1000) ++ [48, 48, 48]).take 3 = dig3 (x.natAbs % 1000) := rfl
      unfold valN at d2 ⊢
      rw [e3, List.foldl_append, d2, g2]
      omega
    rw [hw, if_pos rfl, if_pos hb, hv]
    by_cases hx : x < 0
    · rw [decide_eq_true hx, if_pos rfl, if_neg (by omega)]
      congr 1
      omega
    · rw [decide_eq_false hx, if_neg (by decide)]
      congr 1
      omega
  · have hM : ¬ x.natAbs / 1000 < 10000000000 := by omega
    have hl : ¬ (Lib.decDigits (x.natAbs / 1000)).length ≤ 10 := fun h => hM (hlen.1 h)
    have hw : wholeOk (Lib.decDigits (x.natAbs / 1000)) = false := by
      unfold wholeOk areD
      rw [decide_eq_false (fun h => hl (by omega)), Bool.false_and, Bool.false_and]
    rw [hw, if_neg (by decide), if_neg hb]
end Go.Proofs.YtleddfceigmlmaaDoor
