/- The checksum as a function on lists of bytes: half a byte at a time is eight steps of one bit; one changed byte changes it. Plain mathematics. -/
import Derived.Test.YtlgjddmghmgmmaaDoorPlain
namespace Go.Proofs.YtlgjddmghmgmmaaDoor

def step (r : Nat) : Nat := if r % 2 = 1 then (r / 2) ^^^ 2197175160 else r / 2
def stepN : Nat → Nat → Nat
  | 0, r => r
  | k + 1, r => stepN k (step r)
def reg : Nat → List UInt8 → Nat
  | r, [] => r
  | r, c :: l => reg (stepN 8 (r ^^^ c.toNat)) l
def crc (l : List UInt8) : Nat := reg 4294967295 l ^^^ 4294967295

theorem stepN_succ : ∀ k r, stepN (k + 1) r = step (stepN k r)
  | 0, r => rfl
  | k + 1, r => by
    show stepN (k + 1) (step r) = step (stepN k (step r))
    exact stepN_succ k (step r)
theorem stepN_add (j : Nat) : ∀ k r, stepN (k + j) r = stepN k (stepN j r)
  | 0, r => by rw [Nat.zero_add]; rfl
  | k + 1, r => by rw [show k + 1 + j = (k + j) + 1 by omega, stepN_succ, stepN_add j k, stepN_succ]
theorem step_lt {r : Nat} (h : r < 4294967296) : step r < 4294967296 := by
  unfold step
  split
  · exact Nat.xor_lt_two_pow (n := 32) (by omega) (by omega)
  · omega
theorem stepN_lt : ∀ (k : Nat) {r : Nat}, r < 4294967296 → stepN k r < 4294967296
  | 0, _, h => h
  | k + 1, _, h => stepN_lt k (step_lt h)
theorem byte_lt32 (c : UInt8) : c.toNat < 4294967296 := by have := UInt8.toNat_lt c; omega
theorem xor_lt32 {a b : Nat} (ha : a < 4294967296) (hb : b < 4294967296) : a ^^^ b < 4294967296 := Nat.xor_lt_two_pow (n := 32) (by omega) (by omega)
theorem reg_lt : ∀ (l : List UInt8) {r : Nat}, r < 4294967296 → reg r l < 4294967296
  | [], _, h => h
  | c :: l, _, h => reg_lt l (stepN_lt 8 (xor_lt32 h (byte_lt32 c)))
theorem full_lt : (4294967295 : Nat) < 4294967296 := Nat.lt_succ_self _
theorem crc_lt (l : List UInt8) : crc l < 4294967296 := xor_lt32 (reg_lt l full_lt) full_lt
theorem reg_append : ∀ (a b : List UInt8) (r : Nat), reg r (a ++ b) = reg (reg r a) b
  | [], _, _ => rfl
  | c :: a, b, r => reg_append a b (stepN 8 (r ^^^ c.toNat))

theorem xor_half (a b : Nat) : (a ^^^ b) / 2 = a / 2 ^^^ b / 2 := by
  apply Nat.eq_of_testBit_eq
  intro i
  rw [Nat.testBit_div_two, Nat.testBit_xor, Nat.testBit_xor, Nat.testBit_div_two, Nat.testBit_div_two]
theorem xor_bit (a b : Nat) : (a ^^^ b) % 2 = (a % 2 + b % 2) % 2 := by
  have h := Nat.xor_mod_two_eq_one (a := a) (b := b)
  by_cases hc : (a ^^^ b) % 2 = 1 <;> by_cases ha : a % 2 = 1 <;> by_cases hb : b % 2 = 1 <;> simp only [hc, ha, hb, iff_true, not_true, not_false_eq_true, iff_false] at h <;> omega
theorem step_xor (a b : Nat) : step (a ^^^ b) = step a ^^^ step b := by
  unfold step
  have h := xor_bit a b
  rw [xor_half]
  by_cases ha : a % 2 = 1 <;> by_cases hb : b % 2 = 1
  · rw [if_neg (by omega), if_pos ha, if_pos hb]
    rw [Nat.xor_assoc, ← Nat.xor_assoc 2197175160, Nat.xor_comm 2197175160, Nat.xor_assoc (b / 2), Nat.xor_self, Nat.xor_zero]
  · rw [if_pos (by omega), if_pos ha, if_neg hb, Nat.xor_assoc, Nat.xor_comm (b / 2), ← Nat.xor_assoc]
  · rw [if_pos (by omega), if_neg ha, if_pos hb, Nat.xor_assoc]
  · rw [if_neg (by omega), if_neg ha, if_neg hb]
theorem stepN_xor : ∀ (k a b : Nat), stepN k (a ^^^ b) = stepN k a ^^^ stepN k b
  | 0, _, _ => rfl
  | k + 1, a, b => by rw [stepN, step_xor, stepN_xor k]; rfl
theorem step_twice (q : Nat) : step (2 * q) = q := by
  unfold step
  rw [if_neg (by omega)]
  omega
theorem split16 (r : Nat) : r = (16 * (r / 16)) ^^^ (r % 16) := by
  apply Nat.eq_of_testBit_eq
  intro i
  have h1 : 16 * (r / 16) = 2 ^ 4 * (r / 2 ^ 4) := by rfl
  have h2 : r % 16 = r % 2 ^ 4 := by rfl
  rw [Nat.testBit_xor, h1, h2, Nat.testBit_two_pow_mul, Nat.testBit_mod_two_pow, Nat.testBit_div_two_pow]
  by_cases hi : 4 ≤ i
  · simp [hi, show ¬ i < 4 by omega]
  · simp [hi, show i < 4 by omega]
/-- Four steps at once. -/
theorem four (r : Nat) : stepN 4 r = (r / 16) ^^^ stepN 4 (r % 16) := by
  have h : stepN 4 (16 * (r / 16)) = r / 16 := by
    rw [show 16 * (r / 16) = 2 * (2 * (2 * (2 * (r / 16)))) by omega]
    show step (step (step (step _))) = _
    rw [step_twice, step_twice, step_twice, step_twice]
  have h2 : stepN 4 r = stepN 4 ((16 * (r / 16)) ^^^ (r % 16)) := by rw [← split16]
  rw [h2, stepN_xor, h]

/-- The table of the program. -/
def steps : List Int := [0, 274646895, 549293790, 820201905, 1098587580, 1361435347, 1640403810, 1905808397, 2197175160, 2460548119, 2722870694, 2987750089, 3280807620, 3553878443, 3811616794, 4084100981]
theorem steps_len : steps.length = 16 := rfl
theorem steps_all : ∀ i : Fin 16, steps.getD i.val 0 = ((stepN 4 i.val : Nat) : Int) := by decide +kernel
theorem steps_at {i : Nat} (h : i < 16) : steps.getD i 0 = ((stepN 4 i : Nat) : Int) := steps_all ⟨i, h⟩

/-! ### One changed byte changes the checksum -/
theorem xor_cancel {a b c : Nat} (h : a ^^^ c = b ^^^ c) : a = b := by
  have := congrArg (· ^^^ c) h
  simpa [Nat.xor_assoc, Nat.xor_self, Nat.xor_zero] using this
theorem odd_high {q : Nat} (h : q < 2147483648) : (q ^^^ 2197175160).testBit 31 = true := by
  rw [Nat.testBit_xor, Nat.testBit_lt_two_pow (i := 31) (by omega)]
  decide
theorem even_low {q : Nat} (h : q < 2147483648) : q.testBit 31 = false := Nat.testBit_lt_two_pow (i := 31) (by omega)
theorem step_inj {a b : Nat} (ha : a < 4294967296) (hb : b < 4294967296) (h : step a = step b) : a = b := by
  unfold step at h
  by_cases h1 : a % 2 = 1 <;> by_cases h2 : b % 2 = 1
  · rw [if_pos h1, if_pos h2] at h
    have := xor_cancel h
    omega
  · rw [if_pos h1, if_neg h2] at h
    have k1 := odd_high (q := a / 2) (by omega)
    have k2 := even_low (q := b / 2) (by omega)
    rw [h, k2] at k1
    cases k1
  · rw [if_neg h1, if_pos h2] at h
    have k1 := odd_high (q := b / 2) (by omega)
    have k2 := even_low (q := a / 2) (by omega)
    rw [h, k1] at k2
    cases k2
  · rw [if_neg h1, if_neg h2] at h
    omega
theorem stepN_inj : ∀ (k : Nat) {a b : Nat}, a < 4294967296 → b < 4294967296 → stepN k a = stepN k b → a = b
  | 0, _, _, _, _, h => h
  | k + 1, _, _, ha, hb, h => step_inj ha hb (stepN_inj k (step_lt ha) (step_lt hb) h)
theorem reg_inj : ∀ (l : List UInt8) {a b : Nat}, a < 4294967296 → b < 4294967296 → reg a l = reg b l → a = b
  | [], _, _, _, _, h => h
  | c :: l, _, _, ha, hb, h => xor_cancel (stepN_inj 8 (xor_lt32 ha (byte_lt32 c)) (xor_lt32 hb (byte_lt32 c)) (reg_inj l (stepN_lt 8 (xor_lt32 ha (byte_lt32 c))) (stepN_lt 8 (xor_lt32 hb (byte_lt32 c))) h))
theorem crc_changed (m1 m2 : List UInt8) {c d : UInt8} (h : c ≠ d) : crc (m1 ++ c :: m2) ≠ crc (m1 ++ d :: m2) := by
  intro he
  have h1 := xor_cancel he
  rw [reg_append, reg_append] at h1
  have hr := reg_lt m1 full_lt
  have k := fun x : UInt8 => xor_lt32 hr (byte_lt32 x)
  have h2 := stepN_inj 8 (k c) (k d) (reg_inj m2 (stepN_lt 8 (k c)) (stepN_lt 8 (k d)) h1)
  rw [Nat.xor_comm _ c.toNat, Nat.xor_comm _ d.toNat] at h2
  exact h (UInt8.toNat_inj.1 (xor_cancel h2))

/-! ### Four bytes, the highest one first -/
def be4 (r : Nat) : List UInt8 := [UInt8.ofNat (r / 16777216), UInt8.ofNat (r / 65536), UInt8.ofNat (r / 256), UInt8.ofNat r]
theorem be4_len (r : Nat) : (be4 r).length = 4 := rfl
theorem be4_inj {r s : Nat} (hr : r < 4294967296) (hs : s < 4294967296) (h : be4 r = be4 s) : r = s := by
  unfold be4 at h
  simp only [List.cons.injEq, and_true] at h
  obtain ⟨h1, h2, h3, h4⟩ := h
  have k := fun {a b : Nat} (e : UInt8.ofNat a = UInt8.ofNat b) => congrArg UInt8.toNat e
  have k1 := k h1
  have k2 := k h2
  have k3 := k h3
  have k4 := k h4
  simp only [UInt8.toNat_ofNat'] at k1 k2 k3 k4
  omega
end Go.Proofs.YtlgjddmghmgmmaaDoor
