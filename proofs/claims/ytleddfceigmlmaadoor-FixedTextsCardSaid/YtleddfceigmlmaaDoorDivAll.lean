/- math/bits.Div64's contract: for hi < y it returns the quotient and the remainder of hi * 2^64 + lo by y. -/
import Derived.Test.YtleddfceigmlmaaDoorDiv
import Derived.Lib.ItoaNum
import Derived.Laws.BitsAllLaws
namespace Go.Proofs.YtleddfceigmlmaaDoor
open Go.RowKit PlainDiv

theorem bitLen_pos {y : Nat} (h0 : 0 < y) (h : y < 18446744073709551616) : 1 ≤ Lib.bitLen y ∧ Lib.bitLen y ≤ 64 ∧ 2 ^ (Lib.bitLen y - 1) ≤ y ∧ y < 2 ^ Lib.bitLen y := by
  have h1 := Lib.bitLenAux_bounds 64 y (by simpa using h) (by omega)
  have h2 := Lib.bitLen_le y 64 (by omega) (by simpa using h)
  exact ⟨h1.1, h2, h1.2⟩

theorem shifted {y s : Nat} (h0 : 0 < y) (h : y < 18446744073709551616) (hs : s + Lib.bitLen y = 64) : 9223372036854775808 ≤ y * 2 ^ s ∧ y * 2 ^ s < 18446744073709551616 := by
  obtain ⟨h1, h2, h3, h4⟩ := bitLen_pos h0 h
  have e1 : 2 ^ (Lib.bitLen y - 1) * 2 ^ s = 9223372036854775808 := by
    rw [← Nat.pow_add, show Lib.bitLen y - 1 + s = 63 by omega]
  have e2 : 2 ^ Lib.bitLen y * 2 ^ s = 18446744073709551616 := by
    rw [← Nat.pow_add, show Lib.bitLen y + s = 64 by omega]
  constructor
  · rw [← e1]; exact Nat.mul_le_mul_right _ h3
  · rw [← e2]; exact Nat.mul_lt_mul_of_pos_right h4 (Nat.two_pow_pos s)

theorem pow_cast (a s : Nat) : (a : Int) * 2 ^ s = ((a * 2 ^ s : Nat) : Int) := by
  rw [Int.natCast_mul, Int.natCast_pow]; rfl

theorem wrap_mod (a : Nat) : IntKind.u64.wrap (a : Int) = ((a % 18446744073709551616 : Nat) : Int) := by rw [IntKind.wrap_u64]; omega

theorem or_join {hi lo s : Nat} (hs : s ≤ 64) (hh : hi * 2 ^ s < 18446744073709551616) (hl : lo < 18446744073709551616) :
    bits .or .u64 (IntKind.u64.wrap ((hi : Int) * 2 ^ s)) ((lo : Int) / 2 ^ (64 - s)) = ((hi * 2 ^ s + lo / 2 ^ (64 - s) : Nat) : Int) := by
  have e : (lo : Int) / 2 ^ (64 - s) = ((lo / 2 ^ (64 - s) : Nat) : Int) := by rw [Int.natCast_ediv, Int.natCast_pow]; rfl
  have hd : lo / 2 ^ (64 - s) < 2 ^ s := by
    rw [Nat.div_lt_iff_lt_mul (Nat.two_pow_pos _), ← Nat.pow_add, show s + (64 - s) = 64 by omega]
    exact hl
  have hd2 := Nat.div_le_self lo (2 ^ (64 - s))
  rw [pow_cast, wrap_mod, e, Nat.mod_eq_of_lt hh, u64_or_nat _ _ hh (Nat.lt_of_le_of_lt hd2 hl), nat_join s _ _ (Nat.mul_mod_left _ _) hd]

theorem top_word {hi lo s : Nat} (hs : s ≤ 64) : (hi * 18446744073709551616 + lo) * 2 ^ s = (hi * 2 ^ s + lo / 2 ^ (64 - s)) * 18446744073709551616 + (lo * 2 ^ s) % 18446744073709551616 := by
  have e : lo * 2 ^ s / 18446744073709551616 = lo / 2 ^ (64 - s) := by
    have e2 : (18446744073709551616 : Nat) = 2 ^ (64 - s) * 2 ^ s := by rw [← Nat.pow_add, show 64 - s + s = 64 by omega]
    rw [e2, Nat.mul_div_mul_right _ _ (Nat.two_pow_pos s)]
  have hm := Nat.div_add_mod (lo * 2 ^ s) 18446744073709551616
  rw [e] at hm
  rw [Nat.add_mul, Nat.add_mul, Nat.mul_right_comm]
  omega

theorem sub_wrap {u u1 q Y r : Nat} (h : q * Y + r = u * 4294967296 + u1) (hr : r < 18446744073709551616) :
    IntKind.u64.wrap (IntKind.u64.wrap (IntKind.u64.wrap ((u : Int) * 4294967296) + (u1 : Int)) - IntKind.u64.wrap ((q : Int) * (Y : Int))) = (r : Int) := by
  rw [← Int.natCast_mul]
  generalize q * Y = p at *
  simp only [IntKind.wrap_u64]
  omega

theorem split_word {n u L : Nat} (h : n = u * 18446744073709551616 + L) : n = u * 18446744073709551616 + L / 4294967296 * 4294967296 + L % 4294967296 := by
  have e := Nat.div_add_mod' L 4294967296
  exact h.trans ((congrArg (u * 18446744073709551616 + ·) e.symm).trans (Nat.add_assoc _ _ _).symm)

theorem mask (Y : Nat) (h : Y < 18446744073709551616) : bits .and .u64 (Y : Int) 4294967295 = ((Y % 4294967296 : Nat) : Int) := by
  have h1 := u64_and_nat Y 4294967295 h (by omega)
  have e : Y &&& 4294967295 = Y % 4294967296 := Nat.and_two_pow_sub_one_eq_mod Y 32
  rw [e] at h1
  exact h1

set_option maxRecDepth 100000 in
/-- Div64, where the upper word is not 0. -/
theorem div64_big (hi lo y : Nat) (w : World) (h0 : 0 < hi) (h1 : hi < y) (h2 : y < 18446744073709551616) (h4 : lo < 18446744073709551616) :
    Calls Tryd.prog 54 #[.int .u64 hi, .int .u64 lo, .int .u64 y] w fun e w' => e = .returned (.tuple #[.int .u64 (((hi * 18446744073709551616 + lo) / y : Nat) : Int), .int .u64 (((hi * 18446744073709551616 + lo) % y : Nat) : Int)]) ∧ w = w' := by
  obtain ⟨b1, b2, b3, b4⟩ := bitLen_pos (y := y) (by omega) h2
  obtain ⟨s, hs⟩ : ∃ s, s + Lib.bitLen y = 64 := ⟨64 - Lib.bitLen y, by omega⟩
  obtain ⟨Y, hY⟩ : ∃ Y, y * 2 ^ s = Y := ⟨_, rfl⟩
  obtain ⟨y1, y2⟩ := shifted (by omega) h2 hs
  rw [hY] at y1 y2
  have hp := Nat.two_pow_pos s
  have hh : hi * 2 ^ s < Y := by rw [← hY]; exact Nat.mul_lt_mul_of_pos_right h1 hp
  have hu := or_join (hi := hi) (lo := lo) (s := s) (by omega) (by omega) h4
  have ht := top_word (hi := hi) (lo := lo) (s := s) (by omega)
  have hEY : IntKind.u64.wrap ((y : Int) * 2 ^ s) = (Y : Int) := by rw [pow_cast, hY, wrap_mod, Nat.mod_eq_of_lt y2]
  have hEL : IntKind.u64.wrap ((lo : Int) * 2 ^ s) = ((lo * 2 ^ s % 18446744073709551616 : Nat) : Int) := by rw [pow_cast, wrap_mod]
  have hL : lo * 2 ^ s % 18446744073709551616 < 18446744073709551616 := Nat.mod_lt _ (by omega)
  have hn : (hi * 18446744073709551616 + lo) * 2 ^ s < Y * 18446744073709551616 := by
    rw [← hY, Nat.mul_right_comm]
    refine Nat.mul_lt_mul_of_pos_right ?_ hp
    omega
  obtain ⟨n, hN⟩ : ∃ n, hi * 18446744073709551616 + lo = n := ⟨_, rfl⟩
  rw [hN] at hn ht ⊢
  obtain ⟨nS, hNS⟩ : ∃ nS, n * 2 ^ s = nS := ⟨_, rfl⟩
  rw [hNS] at hn ht
  generalize lo * 2 ^ s % 18446744073709551616 = L at *
  generalize hi * 2 ^ s + lo / 2 ^ (64 - s) = u at *
  have d1 : Digit u (L / 4294967296) Y (Y / 4294967296) (Y % 4294967296) :=
    ⟨by omega, by omega, by omega, by omega, by omega, by omega⟩
  have r1 := d1.rest
  have d2 : Digit (rst u (L / 4294967296) Y) (L % 4294967296) Y (Y / 4294967296) (Y % 4294967296) :=
    ⟨by omega, by omega, by omega, by omega, r1.2, by omega⟩
  have r2 := d2.rest
  have hw := whole (n := n) (y := y) (s := s) (Y := Y) (u := u) (u1 := L / 4294967296) (u0 := L % 4294967296) hY.symm (hNS.trans (split_word ht)) (by omega)
  obtain ⟨s1, s2, s3, s4⟩ := d1.start
  obtain ⟨t1, t2, t3, t4⟩ := d2.start
  have ub : u < 18446744073709551616 := Nat.lt_trans d1.hu y2
  have rb : rst u (L / 4294967296) Y < 18446744073709551616 := Nat.lt_trans r1.2 y2
  have k1 := guess (n := u) (d := Y / 4294967296) ub
  have k2 := guess (n := rst u (L / 4294967296) Y) (d := Y / 4294967296) rb
  have q1 := d1.lt
  have q2 := d2.lt
  refine (div64_walk s (Lib.bitLen y) hi lo y Y ((Y / 4294967296 : Nat) : Int) ((Y % 4294967296 : Nat) : Int) u L ((L / 4294967296 : Nat) : Int) ((L % 4294967296 : Nat) : Int)
    (dig u (L / 4294967296) Y) (rst u (L / 4294967296) Y) (dig (rst u (L / 4294967296) Y) (L % 4294967296) Y) (rst (rst u (L / 4294967296) Y) (L % 4294967296) Y)
    ((u / (Y / 4294967296) : Nat) : Int) ((u % (Y / 4294967296) : Nat) : Int) ((rst u (L / 4294967296) Y / (Y / 4294967296) : Nat) : Int) ((rst u (L / 4294967296) Y % (Y / 4294967296) : Nat) : Int)
    _ _ w (by omega) (by omega) (by omega) hs (by omega) ?lz hEY (by omega) (mask Y y2) hu hEL (by omega) (mask L hL) ?q1 ?r1 (sub_wrap r1.1 rb) ?q2 ?r2 (sub_wrap r2.1 (Nat.lt_trans r2.2 y2))
    (by omega) (by omega) (by omega) (by omega) (by omega) (by omega) (by omega) (by omega) (by omega) (by omega) (by omega) (by omega) (by omega) (by omega) (by omega) (by omega) d1.step d2.step
    (by omega) (by omega) (by omega) (by omega) (Lib.hid (inv_start s1 s3)) (by omega) (by omega) (by omega) (by omega) (Lib.hid (inv_start t1 t3))).mono ?_
  case lz =>
    have := Tryd.bits_LeadingZeros64 (y : Int) w (by omega) (by omega)
    simpa using this
  case q1 => rw [IntKind.wrap_u64, Int.tdiv_eq_ediv_of_nonneg (by omega)]; exact k1.1
  case r1 => rw [IntKind.wrap_u64, IntKind.wrap_u64]; exact k1.2
  case q2 => rw [IntKind.wrap_u64, Int.tdiv_eq_ediv_of_nonneg (by omega)]; exact k2.1
  case r2 => rw [IntKind.wrap_u64, IntKind.wrap_u64]; exact k2.2
  rintro e w' ⟨rfl, rfl⟩
  refine ⟨?_, rfl⟩
  rw [← hw.1, ← hw.2, Int.natCast_add, Int.natCast_mul, Int.natCast_ediv _ (2 ^ s), Int.natCast_pow]
  rfl

/-- Div64 at every hi < y. -/
theorem div64 (hi lo y : Nat) (w : World) (h1 : hi < y) (h2 : y < 18446744073709551616) (h4 : lo < 18446744073709551616) :
    Calls Tryd.prog 54 #[.int .u64 hi, .int .u64 lo, .int .u64 y] w fun e w' => e = .returned (.tuple #[.int .u64 (((hi * 18446744073709551616 + lo) / y : Nat) : Int), .int .u64 (((hi * 18446744073709551616 + lo) % y : Nat) : Int)]) ∧ ∃ n, w' = w.drewN n := by
  rcases Nat.eq_zero_or_pos hi with rfl | h0
  · have h := div64_small lo y w h1 h2 h4
    simpa using h
  · exact (div64_big hi lo y w h0 h1 h2 h4).mono fun e w' ⟨a, b⟩ => ⟨a, 0, b.symm⟩
end Go.Proofs.YtleddfceigmlmaaDoor
