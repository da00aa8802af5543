/- Plain arithmetic under the division of a two-word number by a word (Knuth's algorithm D with two digits of 32 bits). Imports no program. -/
namespace Go.Proofs.YtleddfceigmlmaaDoor.PlainDiv

theorem digit_exit {u u1 y yh yl q r K : Nat} (hy : y = yh * K + yl) (hu : q * yh + r = u) (h : q * yl ≤ K * r + u1) : q * y ≤ u * K + u1 := by
  subst hy; subst hu
  rw [Nat.mul_add, Nat.add_mul]
  have e1 : q * (yh * K) = q * yh * K := by rw [Nat.mul_assoc]
  have e2 : r * K = K * r := Nat.mul_comm _ _
  omega
theorem digit_lower {u u1 y yh yl q r K : Nat} (hy : y = yh * K + yl) (hu : q * yh + r = u) (h : K * r + u1 < q * yl) : u * K + u1 < q * y := by
  subst hy; subst hu
  rw [Nat.mul_add, Nat.add_mul]
  have e1 : q * (yh * K) = q * yh * K := by rw [Nat.mul_assoc]
  have e2 : r * K = K * r := Nat.mul_comm _ _
  omega

/-- What holds of one digit: the number u * K + u1, the divisor y = yh * K + yl, K = 2^32. -/
structure Digit (u u1 y yh yl : Nat) : Prop where
  hy : y = yh * 4294967296 + yl
  hl : yl < 4294967296
  h1 : 2147483648 ≤ yh
  h2 : yh < 4294967296
  hu : u < y
  hu1 : u1 < 4294967296

def dig (u u1 y : Nat) : Nat := (u * 4294967296 + u1) / y
def rst (u u1 y : Nat) : Nat := (u * 4294967296 + u1) % y

theorem Digit.pos {u u1 y yh yl : Nat} (d : Digit u u1 y yh yl) : 0 < y := Nat.lt_of_le_of_lt (Nat.zero_le _) d.hu
theorem Digit.lt {u u1 y yh yl : Nat} (d : Digit u u1 y yh yl) : dig u u1 y < 4294967296 := by
  have h := d.hu1
  have hu := d.hu
  unfold dig
  rw [Nat.div_lt_iff_lt_mul d.pos]
  have : (u + 1) * 4294967296 ≤ y * 4294967296 := Nat.mul_le_mul_right _ hu
  omega
theorem Digit.le_of {u u1 y yh yl q r : Nat} (d : Digit u u1 y yh yl) (hq : q * yh + r = u) (h : q * yl ≤ 4294967296 * r + u1) : q ≤ dig u u1 y := by
  unfold dig
  rw [Nat.le_div_iff_mul_le d.pos]
  exact digit_exit d.hy hq h
theorem Digit.lt_of {u u1 y yh yl q r : Nat} (d : Digit u u1 y yh yl) (hq : q * yh + r = u) (h : 4294967296 * r + u1 < q * yl) : dig u u1 y < q := by
  unfold dig
  rw [Nat.div_lt_iff_lt_mul d.pos]
  exact digit_lower d.hy hq h
theorem Digit.exit {u u1 y yh yl q r : Nat} (d : Digit u u1 y yh yl) (hq : q * yh + r = u) (hd : dig u u1 y ≤ q) (h : q * yl ≤ 4294967296 * r + u1) : q = dig u u1 y :=
  Nat.le_antisymm (d.le_of hq h) hd
theorem Digit.small {u u1 y yh yl q : Nat} (d : Digit u u1 y yh yl) (h : q < 4294967296) : q * yl < 18446744073709551616 := by
  have := Nat.mul_le_mul (show q ≤ 4294967295 by omega) (show yl ≤ 4294967295 by have := d.hl; omega)
  omega
theorem Digit.exit2 {u u1 y yh yl q r : Nat} (d : Digit u u1 y yh yl) (hq : q * yh + r = u) (hd : dig u u1 y ≤ q) (hk : q ≤ 4294967296) (h : 4294967296 ≤ r) : q = dig u u1 y := by
  refine d.exit hq hd ?_
  have := Nat.mul_le_mul hk (Nat.le_of_lt d.hl)
  omega
theorem step_sum {u yh q r : Nat} (hq : q * yh + r = u) (h : 1 ≤ q) : (q - 1) * yh + (r + yh) = u := by
  obtain ⟨k, rfl⟩ : ∃ k, q = k + 1 := ⟨q - 1, by omega⟩
  rw [Nat.add_sub_cancel, ← hq, Nat.add_mul]
  omega
/-- The first guess. -/
theorem Digit.start {u u1 y yh yl : Nat} (d : Digit u u1 y yh yl) : u / yh * yh + u % yh = u ∧ u % yh < 4294967296 ∧ dig u u1 y ≤ u / yh ∧ u / yh ≤ 4294967297 := by
  have h1 := d.h1; have h2 := d.h2; have hl := d.hl; have hu := d.hu; have hy := d.hy; have hu1 := d.hu1
  have hm := Nat.div_add_mod u yh
  have hlt := Nat.mod_lt u (show 0 < yh by omega)
  rw [Nat.mul_comm] at hm
  refine ⟨hm, by omega, ?_, ?_⟩
  · rcases Nat.lt_or_ge (u / yh) (dig u u1 y) with h | h
    · -- then (u / yh + 1) * y ≤ u * K + u1, so (u / yh + 1) * yh ≤ u
      exfalso
      have h' : u / yh + 1 ≤ dig u u1 y := h
      unfold dig at h'
      rw [Nat.le_div_iff_mul_le d.pos, hy, Nat.mul_add, ← Nat.mul_assoc, Nat.add_mul (u / yh) 1 yh] at h'
      generalize u / yh * yh = p at *
      generalize (u / yh + 1) * yl = p2 at *
      omega
    · exact h
  · have h3 : u / yh < 4294967298 := by
      rw [Nat.div_lt_iff_lt_mul (by omega)]
      omega
    omega
theorem Digit.rest {u u1 y yh yl : Nat} (d : Digit u u1 y yh yl) : dig u u1 y * y + rst u u1 y = u * 4294967296 + u1 ∧ rst u u1 y < y := by
  unfold dig rst
  rw [Nat.mul_comm]
  exact ⟨Nat.div_add_mod _ _, Nat.mod_lt _ d.pos⟩

/- The same over Int, as the walk spells it. -/
def Inv (u yh : Nat) (D : Nat) (q r : Int) : Prop := q.toNat * yh + r.toNat = u ∧ D ≤ q.toNat
theorem Digit.iexit {u u1 y yh yl : Nat} {q r : Int} (d : Digit u u1 y yh yl) (h0 : 0 ≤ q) (hr : 0 ≤ r) (hi : Inv u yh (dig u u1 y) q r) (h : q * yl ≤ 4294967296 * r + u1) : q = dig u u1 y := by
  obtain ⟨n, rfl⟩ := Int.eq_ofNat_of_zero_le h0
  obtain ⟨m, rfl⟩ := Int.eq_ofNat_of_zero_le hr
  unfold Inv at hi
  simp only [Int.toNat_natCast] at hi
  have h' : n * yl ≤ 4294967296 * m + u1 := by
    rw [← Int.natCast_mul] at h
    omega
  have := d.exit hi.1 hi.2 h'
  omega
theorem Digit.iexit2 {u u1 y yh yl : Nat} {q r : Int} (d : Digit u u1 y yh yl) (h0 : 0 ≤ q) (hr : 4294967296 ≤ r) (hi : Inv u yh (dig u u1 y) q r) (h : q ≤ 4294967296) : q = dig u u1 y := by
  obtain ⟨n, rfl⟩ := Int.eq_ofNat_of_zero_le h0
  obtain ⟨m, rfl⟩ := Int.eq_ofNat_of_zero_le (show 0 ≤ r by omega)
  unfold Inv at hi
  simp only [Int.toNat_natCast] at hi
  have := d.exit2 hi.1 hi.2 (by omega) (by omega)
  omega
theorem Digit.ilt {u u1 y yh yl : Nat} {q r : Int} (d : Digit u u1 y yh yl) (h0 : 0 ≤ q) (hr : 0 ≤ r) (hi : Inv u yh (dig u u1 y) q r) (h : 4294967296 * r + u1 < q * yl) : Inv u yh (dig u u1 y) (q - 1) (r + yh) ∧ 1 ≤ q := by
  obtain ⟨n, rfl⟩ := Int.eq_ofNat_of_zero_le h0
  obtain ⟨m, rfl⟩ := Int.eq_ofNat_of_zero_le hr
  unfold Inv at hi ⊢
  simp only [Int.toNat_natCast] at hi
  have h' : 4294967296 * m + u1 < n * yl := by
    rw [← Int.natCast_mul] at h
    omega
  have hlt := d.lt_of hi.1 h'
  have hs := step_sum hi.1 (show 1 ≤ n by omega)
  rw [show ((n : Int) - 1).toNat = n - 1 by omega, show ((m : Int) + (yh : Int)).toNat = m + yh by omega]
  exact ⟨⟨hs, by omega⟩, by omega⟩
theorem Digit.ibig {u u1 y yh yl : Nat} {q r : Int} (d : Digit u u1 y yh yl) (hr : 0 ≤ r) (hi : Inv u yh (dig u u1 y) q r) (h : 4294967296 ≤ q) : Inv u yh (dig u u1 y) (q - 1) (r + yh) := by
  obtain ⟨n, rfl⟩ := Int.eq_ofNat_of_zero_le (show 0 ≤ q by omega)
  obtain ⟨m, rfl⟩ := Int.eq_ofNat_of_zero_le hr
  unfold Inv at hi ⊢
  simp only [Int.toNat_natCast] at hi
  have hlt := d.lt
  have hs := step_sum hi.1 (show 1 ≤ n by omega)
  rw [show ((n : Int) - 1).toNat = n - 1 by omega, show ((m : Int) + (yh : Int)).toNat = m + yh by omega]
  exact ⟨hs, by omega⟩
theorem Digit.ismall {u u1 y yh yl : Nat} {q : Int} (d : Digit u u1 y yh yl) (h0 : 0 ≤ q) (h : q < 4294967296) : 0 ≤ q * yl ∧ q * yl < 18446744073709551616 := by
  obtain ⟨n, rfl⟩ := Int.eq_ofNat_of_zero_le h0
  have := d.small (q := n) (by omega)
  rw [← Int.natCast_mul]
  omega

theorem guess {n d : Nat} (h2 : n < 18446744073709551616) :
    ((n : Int) / (d : Int)) % 18446744073709551616 = ((n / d : Nat) : Int) ∧ ((n : Int) - (((n / d : Nat) : Int) * (d : Int)) % 18446744073709551616) % 18446744073709551616 = ((n % d : Nat) : Int) := by
  have hm := Nat.div_add_mod n d
  have h3 := Nat.div_le_self n d
  rw [Nat.mul_comm] at hm
  rw [← Int.natCast_ediv, ← Int.natCast_mul]
  generalize n / d * d = p at *
  generalize n / d = q at *
  generalize n % d = r at *
  omega
theorem inv_start {u yh D : Nat} (h1 : u / yh * yh + u % yh = u) (h2 : D ≤ u / yh) : Inv u yh D ((u / yh : Nat) : Int) ((u % yh : Nat) : Int) := by
  unfold Inv
  generalize u / yh = q at *
  generalize u % yh = r at *
  simp only [Int.toNat_natCast]
  exact ⟨h1, h2⟩

/-- What the walk of one digit's loop asks, over Int alone. -/
structure Step (u1 yh yl Q : Int) (R : Int → Int → Prop) : Prop where
  exit : ∀ q r, 0 ≤ q → 0 ≤ r → R q r → q * yl ≤ 4294967296 * r + u1 → q = Q
  exit2 : ∀ q r, 0 ≤ q → 4294967296 ≤ r → R q r → q ≤ 4294967296 → q = Q
  lower : ∀ q r, 0 ≤ q → 0 ≤ r → R q r → 4294967296 * r + u1 < q * yl → R (q - 1) (r + yh) ∧ 1 ≤ q
  big : ∀ q r, 0 ≤ r → R q r → 4294967296 ≤ q → R (q - 1) (r + yh)
  small : ∀ q, 0 ≤ q → q < 4294967296 → 0 ≤ q * yl ∧ q * yl < 18446744073709551616
theorem Digit.step {u u1 y yh yl : Nat} (d : Digit u u1 y yh yl) : Step u1 yh yl (dig u u1 y) (Inv u yh (dig u u1 y)) :=
  ⟨fun _ _ a b c e => d.iexit a b c e, fun _ _ a b c e => d.iexit2 a b c e, fun _ _ a b c e => d.ilt a b c e, fun _ _ a b c => d.ibig a b c, fun _ a b => d.ismall a b⟩

theorem unshift {n y S Y Q R : Nat} (hY : Y = y * S) (key : n * S = Q * Y + R) (h : R < Y) : Q = n / y ∧ R / S = n % y := by
  have hp : 0 < S := by
    rcases Nat.eq_zero_or_pos S with e | e
    · subst e; simp at hY; omega
    · exact e
  have hyp : 0 < y := by
    rcases Nat.eq_zero_or_pos y with e | e
    · subst e; simp at hY; omega
    · exact e
  have hdiv : R = R / S * S := by
    have h0 : (n * S) % S = 0 := Nat.mul_mod_left _ _
    rw [key, hY, ← Nat.mul_assoc, Nat.add_comm, Nat.add_mul_mod_self_right] at h0
    have := Nat.div_add_mod R S
    rw [h0, Nat.mul_comm] at this
    omega
  have hn : n = Q * y + R / S := by
    apply Nat.eq_of_mul_eq_mul_right hp
    rw [key, Nat.add_mul, ← hdiv, hY, Nat.mul_assoc]
  have hlt : R / S < y := by
    rw [Nat.div_lt_iff_lt_mul hp, ← hY]
    exact h
  constructor
  · rw [hn, Nat.mul_comm, Nat.mul_add_div hyp, Nat.div_eq_of_lt hlt, Nat.add_zero]
  · rw [hn, Nat.mul_comm, Nat.mul_add_mod, Nat.mod_eq_of_lt hlt]

/-- The digits together: the quotient and the remainder of the number by the divisor before it was shifted. -/
theorem whole {n y s Y u u1 u0 : Nat} (hY : Y = y * 2 ^ s) (hU : n * 2 ^ s = u * 18446744073709551616 + u1 * 4294967296 + u0) (hYp : 0 < Y) :
    dig u u1 Y * 4294967296 + dig (rst u u1 Y) u0 Y = n / y ∧ rst (rst u u1 Y) u0 Y / 2 ^ s = n % y := by
  have e1 : dig u u1 Y * Y + rst u u1 Y = u * 4294967296 + u1 := by
    unfold dig rst
    rw [Nat.mul_comm]
    exact Nat.div_add_mod _ _
  have e2 : dig (rst u u1 Y) u0 Y * Y + rst (rst u u1 Y) u0 Y = rst u u1 Y * 4294967296 + u0 := by
    show (rst u u1 Y * 4294967296 + u0) / Y * Y + (rst u u1 Y * 4294967296 + u0) % Y = _
    rw [Nat.mul_comm]
    exact Nat.div_add_mod _ _
  have e3 : rst (rst u u1 Y) u0 Y < Y := Nat.mod_lt _ hYp
  refine unshift hY ?_ e3
  rw [hU, Nat.add_mul, Nat.mul_right_comm]
  omega

end Go.Proofs.YtleddfceigmlmaaDoor.PlainDiv
