/- fixed.Ratio and the reference's Ratio: each returns the value 'ratioV'. -/
import Derived.Test.YtleddfceigmlmaaDoorMul
namespace Go.Proofs.YtleddfceigmlmaaDoor
open Go.RowKit PlainDiv

/-- One round of the reference's loop, over Int alone. -/
structure RStep (a b c : Int) (R : Int → Int → Int → Prop) (Big : Prop) : Prop where
  bnd : ∀ q r t, R q r t → 0 ≤ q ∧ q ≤ 1125899906842624 ∧ 0 ≤ r ∧ r < c ∧ 0 ≤ t ∧ t ≤ 1125899906842624
  half : ∀ q r t, R q r t → 0 < t → 2 * (t / 2) ≤ t
  one : ∀ q r t, R q r t → 0 < t → (a / t) % 2 = 1 → (1125899906842624 < 2 * q + b / c + (2 * r + b % c) / c → Big) ∧ (2 * q + b / c + (2 * r + b % c) / c ≤ 1125899906842624 → R (2 * q + b / c + (2 * r + b % c) / c) ((2 * r + b % c) % c) (t / 2))
  zero : ∀ q r t, R q r t → 0 < t → (a / t) % 2 ≠ 1 → (1125899906842624 < 2 * q + 2 * r / c → Big) ∧ (2 * q + 2 * r / c ≤ 1125899906842624 → R (2 * q + 2 * r / c) (2 * r % c) (t / 2))

theorem i64_in' {x : Int} (h1 : -9223372036854775808 ≤ x) (h2 : x ≤ 9223372036854775807) : IntKind.i64.wrap x = x := by rw [IntKind.wrap_i64]; omega

set_option maxRecDepth 100000 in
set_option maxHeartbeats 1000000 in
theorem refRatio_walk (a b c BC BM : Int) (R : Int → Int → Int → Prop) (V : Value) (w : World) (a0 : 0 ≤ a) (b0 : 0 ≤ b) (c0 : 1 ≤ c) (a1 : a ≤ 1125899906842624) (b1 : b ≤ 1125899906842624) (c1 : c ≤ 1125899906842624)
    (EBC : IntKind.i64.wrap (b.tdiv c) = BC) (EBM : b.tmod c = BM) (hBC : b / c = BC) (hBM : b % c = BM) (bc0 : 0 ≤ BC) (bc1 : BC ≤ 1125899906842624) (bm0 : 0 ≤ BM) (bm1 : BM < c)
    (hR : RStep a b c R (V = pairV 0 12)) (hend : ∀ q r, R q r 0 → V = pairV q 0) (st : Hid (R 0 0 1125899906842624)) :
    Calls Tryd.prog 20 #[.int .i64 a, .int .i64 b, .int .i64 c] w fun e w' => e = .returned V ∧ ∃ n, w' = w.drewN n := by
  have hend := Lib.hid hend
  have hBC := Lib.hid hBC
  have hBM := Lib.hid hBM
  go_enter Tryd.func20, Tryd.ntmps20
  go_wp2
  go_loopw [8, 9, 10] (fun x y z wr => ∃ q r t : Int, x = .int .i64 q ∧ y = .int .i64 r ∧ z = .int .i64 t ∧ Hid (R q r t) ∧ ∃ n, wr = w.drewN n) (fun _ _ z _ => (intOf z).toNat)
  case atStart => exact ⟨0, 0, _, rfl, rfl, rfl, st, 0, rfl⟩
  case round =>
    obtain ⟨q, r, t, rfl, rfl, rfl, T, n, rfl⟩ := hrel
    clear st
    obtain ⟨t1, t2, t3, t4, t5, t6⟩ := hR.bnd q r t T.out
    by_cases ht : 0 < t
    · obtain ⟨ab, EA0⟩ : ∃ ab, a / t = ab := ⟨_, rfl⟩
      have ab0 : 0 ≤ ab := by rw [← EA0]; exact Int.ediv_nonneg a0 t5
      have ab1 : ab ≤ a := by rw [← EA0]; exact Int.ediv_le_self _ a0
      have EA : IntKind.i64.wrap (a.tdiv t) = ab := by rw [Int.tdiv_eq_ediv_of_nonneg a0, EA0]; exact i64_in' (by omega) (by omega)
      have EA0 := Lib.hid EA0
      by_cases h1 : ab % 2 = 1
      · have h1' : (ab % 2 == 1) = true := by simpa using h1
        have hs := hR.one q r t T.out ht (by rw [EA0.out]; exact h1)
        rw [hBC.out, hBM.out] at hs
        have EW1 : IntKind.i64.wrap (2 * q + BC) = 2 * q + BC := i64_in' (by omega) (by omega)
        have EW2 : IntKind.i64.wrap (2 * r + BM) = 2 * r + BM := i64_in' (by omega) (by omega)
        obtain ⟨D, hD⟩ : ∃ D, (2 * r + BM) / c = D := ⟨_, rfl⟩
        obtain ⟨M, hM⟩ : ∃ M, (2 * r + BM) % c = M := ⟨_, rfl⟩
        rw [hD, hM] at hs
        have D0 : 0 ≤ D := by rw [← hD]; exact Int.ediv_nonneg (by omega) (by omega)
        have D1 : D ≤ 2 * r + BM := by rw [← hD]; exact Int.ediv_le_self _ (by omega)
        have ED : IntKind.i64.wrap ((2 * r + BM).tdiv c) = D := by rw [Int.tdiv_eq_ediv_of_nonneg (by omega), hD]; exact i64_in' (by omega) (by omega)
        have EM : (2 * r + BM).tmod c = M := by rw [Int.tmod_eq_emod_of_nonneg (by omega), hM]
        have EW3 : IntKind.i64.wrap (2 * q + BC + D) = 2 * q + BC + D := i64_in' (by omega) (by omega)
        have hs := Lib.hid hs
        clear h1 hD hM
        by_cases hq : 2 * q + BC + D ≤ 1125899906842624
        · have T' := Lib.hid (hs.out.2 hq)
          clear hs
          go_wp2
          go_quiet (fail)
          go_wp2
          go_quiet (fail)
          go_wp2
          exact ⟨⟨_, _, _, rfl, rfl, rfl, T', _, rfl⟩, by simp [intOf]; omega⟩
        · have hB := Lib.hid (hs.out.1 (by omega))
          clear hs
          go_wp2
          go_quiet (fail)
          go_wp2
          go_quiet (fail)
          go_wp2
          go_ret2
          exact ⟨congrArg Ending.returned hB.out.symm, _, rfl⟩
      · have h1' : (ab % 2 == 1) = false := by simpa using h1
        have hs := hR.zero q r t T.out ht (by rw [EA0.out]; exact h1)
        obtain ⟨D, hD⟩ : ∃ D, 2 * r / c = D := ⟨_, rfl⟩
        obtain ⟨M, hM⟩ : ∃ M, 2 * r % c = M := ⟨_, rfl⟩
        rw [hD, hM] at hs
        have D0 : 0 ≤ D := by rw [← hD]; exact Int.ediv_nonneg (by omega) (by omega)
        have D1 : D ≤ 2 * r := by rw [← hD]; exact Int.ediv_le_self _ (by omega)
        have ED : IntKind.i64.wrap ((2 * r).tdiv c) = D := by rw [Int.tdiv_eq_ediv_of_nonneg (by omega), hD]; exact i64_in' (by omega) (by omega)
        have EM : (2 * r).tmod c = M := by rw [Int.tmod_eq_emod_of_nonneg (by omega), hM]
        have EW3 : IntKind.i64.wrap (2 * q + D) = 2 * q + D := i64_in' (by omega) (by omega)
        have hs := Lib.hid hs
        clear h1 hD hM
        by_cases hq : 2 * q + D ≤ 1125899906842624
        · have T' := Lib.hid (hs.out.2 hq)
          clear hs
          go_wp2
          go_quiet (fail)
          go_wp2
          exact ⟨⟨_, _, _, rfl, rfl, rfl, T', _, rfl⟩, by simp [intOf]; omega⟩
        · have hB := Lib.hid (hs.out.1 (by omega))
          clear hs
          go_wp2
          go_quiet (fail)
          go_wp2
          go_ret2
          exact ⟨congrArg Ending.returned hB.out.symm, _, rfl⟩
    · obtain rfl : t = 0 := by omega
      have hE := Lib.hid (hend.out q r T.out)
      go_wp2
      go_ret2
      exact ⟨congrArg Ending.returned hE.out.symm, n, rfl⟩

/-- How far the reference has come: the upper bits of a, their product with b divided by c. -/
def RInv (a b c : Int) (q r t : Int) : Prop :=
  0 ≤ q ∧ q ≤ 1125899906842624 ∧ 0 ≤ r ∧ r < c ∧ 0 ≤ t ∧ t ≤ 1125899906842624 ∧ ∃ p, q * c + r = p * b ∧ 0 ≤ p ∧ p ≤ a ∧ (t = 0 ∧ p = a ∨ 0 < t ∧ p = a / (2 * t) ∧ ∃ k : Nat, t = 2 ^ k)

def ratV (a b c : Int) : Value := if a * b / c ≤ 1125899906842624 then pairV (a * b / c) 0 else pairV 0 12

theorem ratV_end {a b c q r : Int} (h : RInv a b c q r 0) : ratV a b c = pairV q 0 := by
  obtain ⟨h1, h2, h3, h4, _, _, p, hp, _, _, h5⟩ := h
  have e : p = a := by
    rcases h5 with ⟨_, e⟩ | ⟨e, _⟩
    · exact e
    · omega
  subst e
  have hq : p * b / c = q := by
    rw [← hp, Int.add_comm, Int.add_mul_ediv_right _ _ (by omega), Int.ediv_eq_zero_of_lt h3 h4, Int.zero_add]
  unfold ratV
  rw [hq, if_pos h2]

/-- A quotient that is too great stays too great. -/
theorem ratV_big {a b c q r p : Int} (h1 : 1125899906842624 < q) (h2 : q * c + r = p * b) (h3 : 0 ≤ r) (hc : 0 < c) (hp : p ≤ a) (hb : 0 ≤ b) : ratV a b c = pairV 0 12 := by
  unfold ratV
  rw [if_neg]
  have h4 : p * b ≤ a * b := Int.mul_le_mul_of_nonneg_right hp hb
  have h5 : q ≤ a * b / c := by
    rw [Int.le_ediv_iff_mul_le hc]
    omega
  omega

theorem prefix_one {a t : Int} (ht : 0 < t) : a / t = 2 * (a / (2 * t)) + a / t % 2 := by
  have e : a / (2 * t) = a / t / 2 := by rw [Int.mul_comm, Int.ediv_ediv_of_nonneg (by omega)]
  rw [e]
  omega

theorem half_pow {t : Int} {k : Nat} (h : t = 2 ^ k) : (k = 0 ∧ t = 1) ∨ (∃ j, k = j + 1 ∧ t / 2 = 2 ^ j ∧ t = 2 * (t / 2)) := by
  cases k with
  | zero => exact Or.inl ⟨rfl, by simpa using h⟩
  | succ j =>
    right
    have e : t = 2 * 2 ^ j := by rw [h, Int.pow_succ, Int.mul_comm]
    exact ⟨j, rfl, by omega, by omega⟩

/-- One round, whatever the bit: p' the prefix with one bit more. -/
theorem rinv_next {a b c q r t d : Int} (a0 : 0 ≤ a) (b0 : 0 ≤ b) (c0 : 1 ≤ c) (h : RInv a b c q r t) (ht : 0 < t) (hd : a / t % 2 = d)
    (q2 r2 : Int) (hqr : q2 * c + r2 = (2 * q) * c + 2 * r + d * b) (r0 : 0 ≤ r2) (r1 : r2 < c) (q0 : 0 ≤ q2) :
    (1125899906842624 < q2 → ratV a b c = pairV 0 12) ∧ (q2 ≤ 1125899906842624 → RInv a b c q2 r2 (t / 2)) := by
  obtain ⟨h1, h2, h3, h4, h5, h6, p, hp, p0, pa, hc⟩ := h
  obtain ⟨_, hpa, k, hk⟩ : 0 < t ∧ p = a / (2 * t) ∧ ∃ k : Nat, t = 2 ^ k := by
    rcases hc with ⟨e, _⟩ | hc
    · omega
    · exact hc
  have hx := prefix_one (a := a) ht
  rw [← hpa, hd] at hx
  have hprod : q2 * c + r2 = (2 * p + d) * b := by
    rw [hqr, Int.add_mul, Int.mul_assoc 2 p b, ← hp, Int.mul_add, Int.mul_assoc 2 q c]
  have hle : 2 * p + d ≤ a := by rw [← hx]; exact Int.ediv_le_self _ a0
  have h0 : 0 ≤ 2 * p + d := by rw [← hx]; exact Int.ediv_nonneg a0 (by omega)
  refine ⟨fun hb => ratV_big hb hprod r0 (by omega) hle b0, fun hb => ⟨q0, hb, r0, r1, by omega, by omega, 2 * p + d, hprod, h0, hle, ?_⟩⟩
  rcases half_pow hk with ⟨_, e⟩ | ⟨j, _, e1, e2⟩
  · left
    subst e
    refine ⟨by omega, ?_⟩
    rw [← hx, Int.ediv_one]
  · right
    have : 0 < t / 2 := by omega
    exact ⟨this, by rw [← hx, ← e2], j, e1⟩

theorem div_step {x c : Int} (hc : 0 < c) : x / c * c + x % c = x ∧ 0 ≤ x % c ∧ x % c < c :=
  ⟨by have := Int.mul_ediv_add_emod x c; rw [Int.mul_comm] at this; exact this, Int.emod_nonneg _ (by omega), Int.emod_lt_of_pos _ hc⟩

theorem rstep (a b c : Int) (a0 : 0 ≤ a) (b0 : 0 ≤ b) (c0 : 1 ≤ c) : RStep a b c (RInv a b c) (ratV a b c = pairV 0 12) := by
  refine ⟨fun q r t h => ⟨h.1, h.2.1, h.2.2.1, h.2.2.2.1, h.2.2.2.2.1, h.2.2.2.2.2.1⟩, fun q r t _ _ => by omega, fun q r t h ht h1 => ?_, fun q r t h ht h1 => ?_⟩
  · obtain ⟨e1, e2, e3⟩ := div_step (x := b) (c := c) (by omega)
    obtain ⟨f1, f2, f3⟩ := div_step (x := 2 * r + b % c) (c := c) (by omega)
    have hr := h.2.2.1
    have hq := h.1
    have g1 : 0 ≤ b / c := Int.ediv_nonneg b0 (by omega)
    have g2 : 0 ≤ (2 * r + b % c) / c := Int.ediv_nonneg (by omega) (by omega)
    exact rinv_next a0 b0 c0 h ht h1 _ _ (by rw [Int.add_mul, Int.add_mul]; omega) f2 f3 (by omega)
  · obtain ⟨f1, f2, f3⟩ := div_step (x := 2 * r) (c := c) (by omega)
    have hr := h.2.2.1
    have hq := h.1
    have g2 : 0 ≤ 2 * r / c := Int.ediv_nonneg (by omega) (by omega)
    have hd : a / t % 2 = 0 := by omega
    exact rinv_next a0 b0 c0 h ht hd _ _ (by rw [Int.add_mul]; omega) f2 f3 (by omega)

def ratOk (a b c : Int) : Bool := decide (0 ≤ a ∧ 0 ≤ b ∧ 1 ≤ c ∧ a ≤ 1125899906842624 ∧ b ≤ 1125899906842624 ∧ c ≤ 1125899906842624)
def ratioV (a b c : Int) : Value := if ratOk a b c then ratV a b c else pairV 0 1
theorem ratioV_pair (a b c : Int) : ∃ v e, ratioV a b c = pairV v e := by
  unfold ratioV ratV
  split
  · split
    · exact ⟨_, _, rfl⟩
    · exact ⟨_, _, rfl⟩
  · exact ⟨_, _, rfl⟩
theorem ratOk_not {a b c : Int} (h : ratOk a b c = false) : a < 0 ∨ (0 ≤ a ∧ b < 0) ∨ (0 ≤ a ∧ 0 ≤ b ∧ c < 1) ∨ (0 ≤ a ∧ 0 ≤ b ∧ 1 ≤ c ∧ 1125899906842624 < a) ∨ (0 ≤ a ∧ 0 ≤ b ∧ 1 ≤ c ∧ a ≤ 1125899906842624 ∧ 1125899906842624 < b) ∨ (0 ≤ a ∧ 0 ≤ b ∧ 1 ≤ c ∧ a ≤ 1125899906842624 ∧ b ≤ 1125899906842624 ∧ 1125899906842624 < c) := by
  have := of_decide_eq_false h
  omega
theorem inR_yes {x : Int} (h1 : -1125899906842624 ≤ x) (h2 : x ≤ 1125899906842624) : inR x = true := decide_eq_true ⟨h1, h2⟩
theorem inR_no {x : Int} (h1 : 1125899906842624 < x) : inR x = false := decide_eq_false (by omega)

theorem refRatio_any (a b c : Int) (w : World) : Calls Tryd.prog 20 #[.int .i64 a, .int .i64 b, .int .i64 c] w fun e w' => e = .returned (ratioV a b c) ∧ ∃ n, w' = w.drewN n := by
  rcases hk : ratOk a b c with _ | _
  · have hv : Hid (ratioV a b c = pairV 0 1) := by show ratioV a b c = _; simp [ratioV, hk]
    rw [hv.out]
    have hn := ratOk_not hk
    clear hk hv
    rcases hn with h | ⟨_, h⟩ | ⟨_, _, h⟩ | ⟨_, _, _, h⟩ | ⟨_, _, _, _, h⟩ | ⟨_, _, _, _, _, h⟩
    all_goals
      go_enter Tryd.func20, Tryd.ntmps20
      go_wp2
      go_ret2
      exact ⟨rfl, 0, rfl⟩
  · have hv : ratioV a b c = ratV a b c := by simp [ratioV, hk]
    rw [hv]
    obtain ⟨a0, b0, c0, a1, b1, c1⟩ := of_decide_eq_true hk
    obtain ⟨e1, e2, e3⟩ := div_step (x := b) (c := c) (by omega)
    have g1 : 0 ≤ b / c := Int.ediv_nonneg b0 (by omega)
    have g2 : b / c ≤ b := Int.ediv_le_self _ b0
    exact refRatio_walk a b c _ _ (RInv a b c) _ w a0 b0 c0 a1 b1 c1 (by rw [Int.tdiv_eq_ediv_of_nonneg b0]; exact i64_in' (by omega) (by omega)) (Int.tmod_eq_emod_of_nonneg b0) rfl rfl g1 (by omega) e2 e3
      (rstep a b c a0 b0 c0) (fun q r h => ratV_end h)
      (Lib.hid ⟨by omega, by omega, by omega, by omega, by omega, by omega, 0, by omega, by omega, a0, Or.inr ⟨by omega, (Int.ediv_eq_zero_of_lt a0 (by omega)).symm, 50, by decide⟩⟩)

theorem ratio_any (a b c : Int) (w : World) : Calls Tryd.prog 19 #[.int .i64 a, .int .i64 b, .int .i64 c] w fun e w' => e = .returned (ratioV a b c) ∧ ∃ n, w' = w.drewN n := by
  rcases hk : ratOk a b c with _ | _
  · have hv : Hid (ratioV a b c = pairV 0 1) := by show ratioV a b c = _; simp [ratioV, hk]
    rw [hv.out]
    have hn := ratOk_not hk
    clear hk hv
    rcases hn with h | ⟨_, h⟩ | ⟨_, _, h⟩ | ⟨_, _, _, h⟩ | ⟨_, _, _, k1, h⟩ | ⟨_, _, _, k1, k2, h⟩
    case inr.inr.inr.inl => have i1 := inR_no h; go_enter Tryd.func19, Tryd.ntmps19; go_wp2_with (go_at_call 30; refine (inRange_any _ _).mono ?_; rintro e w' ⟨rfl, rfl⟩); go_ret2; exact ⟨rfl, 0, rfl⟩
    case inr.inr.inr.inr.inl => have i1 := inR_yes (x := a) (by omega) k1; have i2 := inR_no h; go_enter Tryd.func19, Tryd.ntmps19; go_wp2_with (go_at_call 30; refine (inRange_any _ _).mono ?_; rintro e w' ⟨rfl, rfl⟩); go_ret2; exact ⟨rfl, 0, rfl⟩
    case inr.inr.inr.inr.inr => have i1 := inR_yes (x := a) (by omega) k1; have i2 := inR_yes (x := b) (by omega) k2; have i3 := inR_no h; go_enter Tryd.func19, Tryd.ntmps19; go_wp2_with (go_at_call 30; refine (inRange_any _ _).mono ?_; rintro e w' ⟨rfl, rfl⟩); go_ret2; exact ⟨rfl, 0, rfl⟩
    all_goals
      go_enter Tryd.func19, Tryd.ntmps19
      go_wp2
      go_ret2
      exact ⟨rfl, 0, rfl⟩
  · have hv : ratioV a b c = ratV a b c := by simp [ratioV, hk]
    rw [hv]
    obtain ⟨a0, b0, c0, a1, b1, c1⟩ := of_decide_eq_true hk
    have i1 := inR_yes (x := a) (by omega) a1
    have i2 := inR_yes (x := b) (by omega) b1
    have i3 := inR_yes (x := c) (by omega) c1
    have hq := fun w => quot a.toNat b.toNat c.toNat 0 w (by omega) (by omega) (by omega) (by omega) (by omega)
    have hl : lim ((a.toNat * b.toNat + 0) / c.toNat) = ratV a b c := by
      unfold lim ratV
      have e : (((a.toNat * b.toNat + 0) / c.toNat : Nat) : Int) = a * b / c := by
        rw [Int.natCast_ediv, Nat.add_zero, Int.natCast_mul, Int.toNat_of_nonneg a0, Int.toNat_of_nonneg b0, Int.toNat_of_nonneg (by omega)]
      rw [e]
      rfl
    rw [hl, Int.toNat_of_nonneg a0, Int.toNat_of_nonneg b0, Int.toNat_of_nonneg (show 0 ≤ c by omega)] at hq
    obtain ⟨v, e, hp⟩ : ∃ v e, ratV a b c = pairV v e := by
      unfold ratV
      split <;> exact ⟨_, _, rfl⟩
    rw [hp] at hq ⊢
    have hq : Hid (∀ w, Calls Tryd.prog 35 #[.int .u64 a, .int .u64 b, .int .u64 c, .int .u64 0] w fun e' w' => e' = .returned (.tuple #[.int .i64 v, .int .i64 e]) ∧ ∃ n, w' = w.drewN n) := hq
    have u1 : IntKind.u64.wrap a = a := by rw [IntKind.wrap_u64]; omega
    have u2 : IntKind.u64.wrap b = b := by rw [IntKind.wrap_u64]; omega
    have u3 : IntKind.u64.wrap c = c := by rw [IntKind.wrap_u64]; omega
    clear hp hl hv hk
    go_enter Tryd.func19, Tryd.ntmps19
    go_wp2_with (first | (go_at_call 30; refine (inRange_any _ _).mono ?_; rintro e w' ⟨rfl, rfl⟩) | (go_at_call 35; refine (hq.out _).mono ?_; rintro e w' ⟨rfl, n, rfl⟩))
    go_ret2
    exact ⟨rfl, n, rfl⟩
end Go.Proofs.YtleddfceigmlmaaDoor
