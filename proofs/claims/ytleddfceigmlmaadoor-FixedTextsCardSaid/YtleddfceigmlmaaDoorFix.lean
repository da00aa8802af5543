/- The walks of fixed.quotient and fixed.nearest: the exact quotient of a product. -/
import Derived.Test.YtleddfceigmlmaaDoorDivAll
import Derived.Shelf.Spec.BitsCarry
namespace Go.Proofs.YtleddfceigmlmaaDoor
open Go.RowKit PlainDiv Go.Shelf

def addRen : Ren := ⟨fun | 25 => 53 | n => n, fun | 22 => 46 | n => n, fun | n => n⟩
theorem addLays : Lays7.n25 Tryd.prog addRen := {
  mixed := by kernel_rfl
  f25 := Tryd.func53.trans (congrArg some (by kernel_rfl))
  t22 := Tryd.underlying46
  a22 := Tryd.isAgg46
  z22 := Tryd.sizeOf46
  v22 := Tryd.zeroValue46
  i22 := by kernel_rfl }
theorem add64_0 (x y : Int) (hx : 0 ≤ x) (hy : 0 ≤ y) (w : World) : (callFunc 53 #[.int .u64 x, .int .u64 y, .int .u64 0]).run Tryd.prog w =
    .ok (.value (.tuple #[.int .u64 ((x + y) % 18446744073709551616), .int .u64 ((x + y) / 18446744073709551616)])) w := by
  obtain ⟨x, rfl⟩ := Int.eq_ofNat_of_zero_le hx
  obtain ⟨y, rfl⟩ := Int.eq_ofNat_of_zero_le hy
  refine (Any7.bits_Add64 addLays x y 0 (by omega) w).trans ?_
  congr 5 <;> omega

/-- The end of 'quotient' where the quotient is too great for the limit. -/
theorem quot_high (a b c x h l h2 l2 cy : Int) (w : World) (hmul : Hid (Calls Tryd.prog 52 #[.int .u64 a, .int .u64 b] w fun e w' => e = .returned (.tuple #[.int .u64 h, .int .u64 l]) ∧ w' = w))
    (l0 : 0 ≤ l) (x0 : 0 ≤ x) (E1 : (l + x) % 18446744073709551616 = l2) (E2 : (l + x) / 18446744073709551616 = cy) (E3 : IntKind.u64.wrap (h + cy) = h2) (hc : c ≤ h2) :
    Calls Tryd.prog 35 #[.int .u64 a, .int .u64 b, .int .u64 c, .int .u64 x] w fun e w' => e = .returned (.tuple #[.int .i64 0, .int .i64 12]) ∧ ∃ n, w' = w.drewN n := by
  have ha := add64_0 l x l0 x0
  rw [E1, E2] at ha
  clear E1 E2
  go_enter Tryd.func35, Tryd.ntmps35
  go_wp2_with (first | (go_at_call 52; refine hmul.out.mono ?_; rintro e w' ⟨rfl, rfl⟩))
  go_ret2
  exact ⟨rfl, 0, rfl⟩
theorem quot_low (a b c x h l h2 l2 cy q r : Int) (w : World) (hmul : Hid (Calls Tryd.prog 52 #[.int .u64 a, .int .u64 b] w fun e w' => e = .returned (.tuple #[.int .u64 h, .int .u64 l]) ∧ w' = w))
    (hdiv : Hid (Calls Tryd.prog 54 #[.int .u64 h2, .int .u64 l2, .int .u64 c] w fun e w' => e = .returned (.tuple #[.int .u64 q, .int .u64 r]) ∧ ∃ n, w' = w.drewN n))
    (l0 : 0 ≤ l) (x0 : 0 ≤ x) (E1 : (l + x) % 18446744073709551616 = l2) (E2 : (l + x) / 18446744073709551616 = cy) (E3 : IntKind.u64.wrap (h + cy) = h2) (hc : h2 < c) (q0 : 0 ≤ q) :
    Calls Tryd.prog 35 #[.int .u64 a, .int .u64 b, .int .u64 c, .int .u64 x] w fun e w' => e = .returned (if q ≤ 1125899906842624 then .tuple #[.int .i64 q, .int .i64 0] else .tuple #[.int .i64 0, .int .i64 12]) ∧ ∃ n, w' = w.drewN n := by
  have ha := add64_0 l x l0 x0
  rw [E1, E2] at ha
  clear E1 E2
  by_cases hq : q ≤ 1125899906842624
  · have hfin : Hid ((if q ≤ 1125899906842624 then (.tuple #[.int .i64 q, .int .i64 0] : Value) else .tuple #[.int .i64 0, .int .i64 12]) = .tuple #[.int .i64 q, .int .i64 0]) := if_pos hq
    rw [hfin.out]
    go_enter Tryd.func35, Tryd.ntmps35
    go_wp2_with (first | (go_at_call 52; refine hmul.out.mono ?_; rintro e w' ⟨rfl, rfl⟩) | (go_at_call 54; refine hdiv.out.mono ?_; rintro e w' ⟨rfl, n, rfl⟩))
    go_ret2
    exact ⟨rfl, n, rfl⟩
  · have hfin : Hid ((if q ≤ 1125899906842624 then (.tuple #[.int .i64 q, .int .i64 0] : Value) else .tuple #[.int .i64 0, .int .i64 12]) = .tuple #[.int .i64 0, .int .i64 12]) := if_neg hq
    rw [hfin.out]
    go_enter Tryd.func35, Tryd.ntmps35
    go_wp2_with (first | (go_at_call 52; refine hmul.out.mono ?_; rintro e w' ⟨rfl, rfl⟩) | (go_at_call 54; refine hdiv.out.mono ?_; rintro e w' ⟨rfl, n, rfl⟩))
    go_ret2
    exact ⟨rfl, n, rfl⟩

/-- The limit put on an exact quotient. -/
def lim (q : Nat) : Value := if (q : Int) ≤ 1125899906842624 then .tuple #[.int .i64 q, .int .i64 0] else .tuple #[.int .i64 0, .int .i64 12]

theorem quot (a b c x : Nat) (w : World) (ha : a ≤ 1125899906842624) (hb : b ≤ 1125899906842624) (hc : 0 < c) (hc2 : c ≤ 1125899906842624) (hx : x ≤ 1125899906842624) :
    Calls Tryd.prog 35 #[.int .u64 a, .int .u64 b, .int .u64 c, .int .u64 x] w fun e w' => e = .returned (lim ((a * b + x) / c)) ∧ ∃ n, w' = w.drewN n := by
  have hm := Lib.hid (Tryd.bits_Mul64 a b (by omega) (by omega) w)
  have hab : a * b ≤ 1267650600228229401496703205376 := Nat.mul_le_mul ha hb
  unfold lim
  generalize a * b = p at *
  have e1 : (((p % 18446744073709551616 : Nat) : Int) + (x : Int)) % 18446744073709551616 = (((p + x) % 18446744073709551616 : Nat) : Int) := by omega
  have e3 : IntKind.u64.wrap (((p / 18446744073709551616 : Nat) : Int) + (((p % 18446744073709551616 : Nat) : Int) + (x : Int)) / 18446744073709551616) = (((p + x) / 18446744073709551616 : Nat) : Int) := by
    rw [IntKind.wrap_u64]; omega
  have hdm := Nat.div_add_mod (p + x) 18446744073709551616
  have hlt := Nat.mod_lt (p + x) (show 0 < 18446744073709551616 by omega)
  rcases Nat.lt_or_ge ((p + x) / 18446744073709551616) c with h | h
  · have hd := div64 ((p + x) / 18446744073709551616) ((p + x) % 18446744073709551616) c w h (by omega) hlt
    rw [Nat.mul_comm ((p + x) / 18446744073709551616), hdm] at hd
    exact quot_low a b c x _ _ _ _ _ _ _ w hm (Lib.hid hd) (by omega) (by omega) e1 rfl e3 (by omega) (Int.natCast_nonneg _)
  · have hq : 18446744073709551616 ≤ (p + x) / c := by
      rw [Nat.le_div_iff_mul_le hc]
      omega
    refine (quot_high a b c x _ _ _ _ _ w hm (by omega) (by omega) e1 rfl e3 (by omega)).mono fun e w' ⟨h1, h2⟩ => ⟨?_, h2⟩
    rw [h1, if_neg (by omega)]

theorem mag_any (x : Int) (w : World) (h1 : -9223372036854775808 ≤ x) (h2 : x < 9223372036854775808) :
    Calls Tryd.prog 49 #[.int .i64 x] w fun e w' => e = .returned (.int .u64 (x.natAbs : Int)) ∧ w = w' := by
  by_cases h : x < 0
  · have e1 : IntKind.u64.wrap (-(IntKind.u64.wrap x)) = (x.natAbs : Int) := by rw [IntKind.wrap_u64, IntKind.wrap_u64]; omega
    go_enter Tryd.func49, Tryd.ntmps49
    go_wp2
    go_ret
    exact ⟨rfl, rfl⟩
  · have e1 : IntKind.u64.wrap x = (x.natAbs : Int) := by rw [IntKind.wrap_u64]; omega
    go_enter Tryd.func49, Tryd.ntmps49
    go_wp2
    go_ret
    exact ⟨rfl, rfl⟩

/-- The exact quotient a * b / c, rounded to the nearest number, halves away from zero. -/
def nearQ (a b c : Int) : Nat := (a.natAbs * b.natAbs + c.natAbs / 2) / c.natAbs
def negs (a b c : Int) : Bool := (decide (a < 0) != decide (b < 0)) != decide (c < 0)
def nearV (a b c : Int) : Value := if (nearQ a b c : Int) ≤ 1125899906842624 then .tuple #[.int .i64 (if negs a b c then -(nearQ a b c : Int) else nearQ a b c), .int .i64 0] else .tuple #[.int .i64 0, .int .i64 12]

theorem nearest_any (a b c : Int) (w : World) (a1 : -1125899906842624 ≤ a) (a2 : a ≤ 1125899906842624) (b1 : -1125899906842624 ≤ b) (b2 : b ≤ 1125899906842624) (c1 : -1125899906842624 ≤ c) (c2 : c ≤ 1125899906842624) (c0 : c ≠ 0) :
    Calls Tryd.prog 32 #[.int .i64 a, .int .i64 b, .int .i64 c] w fun e w' => e = .returned (nearV a b c) ∧ ∃ n, w' = w.drewN n := by
  have hq := fun w => quot a.natAbs b.natAbs c.natAbs (c.natAbs / 2) w (by omega) (by omega) (by omega) (by omega) (by omega)
  have hx : ((c.natAbs : Nat) : Int) / 2 = ((c.natAbs / 2 : Nat) : Int) := by omega
  have hN : Hid (nearV a b c = if (nearQ a b c : Int) ≤ 1125899906842624 then .tuple #[.int .i64 (if negs a b c then -(nearQ a b c : Int) else nearQ a b c), .int .i64 0] else .tuple #[.int .i64 0, .int .i64 12]) := rfl
  have hq : Hid (∀ w, Calls Tryd.prog 35 #[.int .u64 (a.natAbs : Int), .int .u64 (b.natAbs : Int), .int .u64 (c.natAbs : Int), .int .u64 ((c.natAbs / 2 : Nat) : Int)] w fun e w' => e = .returned (if (nearQ a b c : Int) ≤ 1125899906842624 then .tuple #[.int .i64 (nearQ a b c), .int .i64 0] else .tuple #[.int .i64 0, .int .i64 12]) ∧ ∃ n, w' = w.drewN n) := hq
  have hneg : Hid (negs a b c = ((decide (a < 0) != decide (b < 0)) != decide (c < 0))) := rfl
  rw [hN.out]
  have hq0 : 0 ≤ (nearQ a b c : Int) := Int.natCast_nonneg _
  generalize (nearQ a b c : Int) = q at *
  obtain ⟨ch, hch⟩ : ∃ ch : Nat, c.natAbs / 2 = ch := ⟨_, rfl⟩
  rw [hch] at hx hq
  clear hN hch
  by_cases hq1 : q ≤ 1125899906842624
  · rw [if_pos hq1]
    have hq : Hid (∀ w, Calls Tryd.prog 35 #[.int .u64 (a.natAbs : Int), .int .u64 (b.natAbs : Int), .int .u64 (c.natAbs : Int), .int .u64 (ch : Int)] w fun e w' => e = .returned (.tuple #[.int .i64 q, .int .i64 0]) ∧ ∃ n, w' = w.drewN n) :=
      fun w => (hq.out w).mono fun e w' ⟨g1, g2⟩ => ⟨by rw [g1, if_pos hq1], g2⟩
    rcases ha : decide (a < 0) with _ | _ <;> rcases hb : decide (b < 0) with _ | _ <;> rcases hc : decide (c < 0) with _ | _
    all_goals
      rw [ha, hb, hc] at hneg
      rw [show negs a b c = _ from hneg.out]
      clear hneg
      go_enter Tryd.func32, Tryd.ntmps32
      go_wp2_with (first | (go_at_call 49; refine (mag_any _ _ (by omega) (by omega)).mono ?_; rintro e w' ⟨rfl, rfl⟩) | (go_at_call 35; refine (hq.out _).mono ?_; rintro e w' ⟨rfl, n, rfl⟩))
      go_ret2
      exact ⟨by simp, n, rfl⟩
  · rw [if_neg hq1]
    have hq : Hid (∀ w, Calls Tryd.prog 35 #[.int .u64 (a.natAbs : Int), .int .u64 (b.natAbs : Int), .int .u64 (c.natAbs : Int), .int .u64 (ch : Int)] w fun e w' => e = .returned (.tuple #[.int .i64 0, .int .i64 12]) ∧ ∃ n, w' = w.drewN n) :=
      fun w => (hq.out w).mono fun e w' ⟨g1, g2⟩ => ⟨by rw [g1, if_neg hq1], g2⟩
    clear hneg hq1
    rcases ha : decide (a < 0) with _ | _ <;> rcases hb : decide (b < 0) with _ | _ <;> rcases hc : decide (c < 0) with _ | _
    all_goals
      go_enter Tryd.func32, Tryd.ntmps32
      go_wp2_with (first | (go_at_call 49; refine (mag_any _ _ (by omega) (by omega)).mono ?_; rintro e w' ⟨rfl, rfl⟩) | (go_at_call 35; refine (hq.out _).mono ?_; rintro e w' ⟨rfl, n, rfl⟩))
      go_ret2
      exact ⟨rfl, n, rfl⟩
end Go.Proofs.YtleddfceigmlmaaDoor
