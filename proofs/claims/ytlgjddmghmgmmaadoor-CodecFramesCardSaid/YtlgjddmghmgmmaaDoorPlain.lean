/- Varints as lists of bytes: what is read of them, what is put, and that the two fit. Plain mathematics. -/
import Derived.WalkKit
namespace Go.Proofs.YtlgjddmghmgmmaaDoor

/-- How many leading bytes have the highest bit. -/
def pre : List UInt8 → Nat
  | [] => 0
  | c :: l => if 128 ≤ c.toNat then pre l + 1 else 0
theorem pre_le : ∀ l, pre l ≤ l.length
  | [] => Nat.le_refl _
  | c :: l => by
    unfold pre
    have := pre_le l
    split
    · simpa using this
    · simp
theorem pre_hi : ∀ {l : List UInt8} {i : Nat}, i < pre l → ∃ h : i < l.length, 128 ≤ l[i].toNat
  | [], i, h => absurd h (by simp [pre])
  | c :: l, 0, h => by
    unfold pre at h
    split at h
    · exact ⟨by simp, by simpa⟩
    · omega
  | c :: l, i + 1, h => by
    unfold pre at h
    split at h
    · obtain ⟨h1, h2⟩ := pre_hi (l := l) (i := i) (by omega)
      exact ⟨by simpa using h1, by simpa using h2⟩
    · omega
theorem pre_at : ∀ {l : List UInt8} (h : pre l < l.length), l[pre l].toNat < 128
  | [], h => absurd h (by simp)
  | c :: l, h => by
    by_cases hc : 128 ≤ c.toNat
    · have e : pre (c :: l) = pre l + 1 := by simp [pre, hc]
      have h' : pre l < l.length := by rw [e] at h; simpa using h
      have := pre_at h'
      simpa [e] using this
    · have e : pre (c :: l) = 0 := by simp [pre, hc]
      simp [e]
      omega
theorem pre_gt {l : List UInt8} {k : Nat} (hk : k ≤ pre l) (h : k < l.length) (h1 : 128 ≤ l[k].toNat) : k + 1 ≤ pre l := by
  rcases Nat.lt_or_ge k (pre l) with h2 | h2
  · omega
  · have e : pre l = k := by omega
    have := pre_at (l := l) (by omega)
    simp [e] at this
    omega
theorem pre_eq {l : List UInt8} {k : Nat} (hk : k ≤ pre l) (h : k < l.length) (h1 : l[k].toNat < 128) : pre l = k := by
  rcases Nat.lt_or_ge k (pre l) with h2 | h2
  · obtain ⟨_, h3⟩ := pre_hi h2
    omega
  · omega

/-- The number of groups of seven bits. -/
def val : List UInt8 → Nat
  | [] => 0
  | c :: l => c.toNat % 128 + 128 * val l
theorem val_lt : ∀ l : List UInt8, val l < 128 ^ l.length
  | [] => by simp [val]
  | c :: l => by
    have := val_lt l
    rw [val, List.length_cons, Nat.pow_succ]
    have h := Nat.mod_lt c.toNat (show 128 > 0 by decide)
    omega
theorem val_snoc : ∀ (l : List UInt8) (c : UInt8), val (l ++ [c]) = val l + c.toNat % 128 * 128 ^ l.length
  | [], c => by simp [val]
  | d :: l, c => by
    rw [List.cons_append, val, val_snoc l c, val, List.length_cons, Nat.pow_succ, Nat.mul_add, ← Nat.add_assoc]
    congr 1
    rw [Nat.mul_left_comm, Nat.mul_comm 128]

def gE (l : List UInt8) : Nat := if 9 ≤ pre l then 4 else if pre l = l.length then 5 else if l[pre l]?.getD 0 = 0 ∧ 0 < pre l then 3 else 0
def gN (l : List UInt8) : Nat := if gE l = 0 then val (l.take (pre l + 1)) else 0
def gK (l : List UInt8) : Nat := if gE l = 0 then pre l + 1 else 0

theorem gE_zero {l : List UInt8} (h : gE l = 0) : pre l < 9 ∧ pre l < l.length ∧ (l[pre l]?.getD 0 = 0 → pre l = 0) := by
  unfold gE at h
  have := pre_le l
  split at h
  · omega
  · split at h
    · omega
    · split at h
      · omega
      · rename_i h1 h2 h3
        exact ⟨by omega, by omega, fun h4 => by
          rcases Nat.eq_zero_or_pos (pre l) with h5 | h5
          · exact h5
          · exact absurd ⟨h4, h5⟩ h3⟩
theorem gE_le (l : List UInt8) : gE l ≤ 5 := by unfold gE; split <;> (try split) <;> (try split) <;> omega
theorem gK_eq {l : List UInt8} (h : gE l = 0) : gK l = pre l + 1 := by unfold gK; rw [if_pos h]
theorem gN_eq {l : List UInt8} (h : gE l = 0) : gN l = val (l.take (pre l + 1)) := by unfold gN; rw [if_pos h]
theorem gK_bad {l : List UInt8} (h : gE l ≠ 0) : gK l = 0 := by unfold gK; rw [if_neg h]
theorem gN_bad {l : List UInt8} (h : gE l ≠ 0) : gN l = 0 := by unfold gN; rw [if_neg h]
theorem gK_le (l : List UInt8) : gK l ≤ l.length ∧ gK l ≤ 9 := by
  by_cases h : gE l = 0
  · have := gE_zero h
    rw [gK_eq h]
    omega
  · rw [gK_bad h]
    omega
theorem gK_pos {l : List UInt8} (h : gE l = 0) : 1 ≤ gK l := by rw [gK_eq h]; omega
theorem gN_lt (l : List UInt8) : gN l < 9223372036854775808 := by
  by_cases h : gE l = 0
  · have h1 := gE_zero h
    rw [gN_eq h]
    refine Nat.lt_of_lt_of_le (val_lt _) ?_
    rw [show (9223372036854775808 : Nat) = 128 ^ 9 by decide]
    exact Nat.pow_le_pow_right (by decide) (by rw [List.length_take]; omega)
  · rw [gN_bad h]
    decide

/-- The varint. -/
def put (n : Nat) : List UInt8 := if n < 128 then [UInt8.ofNat n] else UInt8.ofNat (n % 128 + 128) :: put (n / 128)
termination_by n
decreasing_by omega
theorem put_small {n : Nat} (h : n < 128) : put n = [UInt8.ofNat n] := by rw [put, if_pos h]
theorem put_large {n : Nat} (h : 128 ≤ n) : put n = UInt8.ofNat (n % 128 + 128) :: put (n / 128) := by rw [put, if_neg (by omega)]
theorem ofNat_toNat {n : Nat} (h : n < 256) : (UInt8.ofNat n).toNat = n := by
  rw [UInt8.toNat_ofNat']
  exact Nat.mod_eq_of_lt (by simpa using h)
theorem put_len : ∀ (k n : Nat), n < 128 ^ (k + 1) → (put n).length ≤ k + 1
  | 0, n, h => by rw [put_small (by simpa using h)]; simp
  | k + 1, n, h => by
    by_cases h1 : n < 128
    · rw [put_small h1]; simp
    · rw [put_large (by omega), List.length_cons]
      have := put_len k (n / 128) (by
        rw [Nat.pow_succ] at h
        exact Nat.div_lt_of_lt_mul (by rw [Nat.mul_comm]; exact h))
      omega
theorem put_nine {n : Nat} (h : n < 9223372036854775808) : (put n).length ≤ 9 := put_len 8 n (by rw [show 128 ^ (8 + 1) = 9223372036854775808 by decide]; exact h)
theorem put_pos (n : Nat) : 1 ≤ (put n).length := by
  by_cases h : n < 128
  · rw [put_small h]; simp
  · rw [put_large (by omega)]; simp
theorem pre_put (r : List UInt8) : ∀ n : Nat, pre (put n ++ r) + 1 = (put n).length := by
  intro n
  induction n using Nat.strongRecOn with
  | ind n ih =>
    by_cases h : n < 128
    · rw [put_small h]
      have := ofNat_toNat (n := n) (by omega)
      simp only [List.cons_append, pre, this, List.length_cons, List.length_nil]
      rw [if_neg (by omega)]
    · rw [put_large (by omega)]
      have h1 := ofNat_toNat (n := n % 128 + 128) (by omega)
      have h2 := ih (n / 128) (by omega)
      simp only [List.cons_append, pre, h1, List.length_cons]
      rw [if_pos (by omega)]
      omega
theorem val_put : ∀ n : Nat, val (put n) = n := by
  intro n
  induction n using Nat.strongRecOn with
  | ind n ih =>
    by_cases h : n < 128
    · rw [put_small h]
      have := ofNat_toNat (n := n) (by omega)
      simp only [val, this]
      omega
    · rw [put_large (by omega)]
      have h1 := ofNat_toNat (n := n % 128 + 128) (by omega)
      have h2 := ih (n / 128) (by omega)
      simp only [val, h1, h2]
      omega
theorem last_put (r : List UInt8) : ∀ n : Nat, 128 ≤ n → (put n ++ r)[(put n).length - 1]?.getD 0 ≠ 0 := by
  intro n
  induction n using Nat.strongRecOn with
  | ind n ih =>
    intro h
    rw [put_large h, List.length_cons, Nat.add_sub_cancel, List.cons_append]
    by_cases h1 : n / 128 < 128
    · rw [put_small h1]
      have h2 := ofNat_toNat (n := n / 128) (by omega)
      simp only [List.length_cons, List.length_nil, List.cons_append]
      intro h3
      have h4 : (UInt8.ofNat (n / 128)).toNat = 0 := by
        have : UInt8.ofNat (n / 128) = 0 := by simpa using h3
        rw [this]; rfl
      omega
    · have h2 := ih (n / 128) (by omega) (by omega)
      have h3 := put_pos (n / 128)
      obtain ⟨k, hk⟩ : ∃ k, (put (n / 128)).length = k + 1 := ⟨_, (Nat.sub_add_cancel h3).symm⟩
      rw [hk] at h2 ⊢
      simpa using h2

/-- What was put is read back. -/
theorem get_put (r : List UInt8) {n : Nat} (h : n < 9223372036854775808) : gE (put n ++ r) = 0 ∧ gN (put n ++ r) = n ∧ gK (put n ++ r) = (put n).length := by
  have h1 := pre_put r n
  have h9 := put_nine h
  have he : gE (put n ++ r) = 0 := by
    unfold gE
    rw [if_neg (by omega), if_neg (by rw [List.length_append]; omega), if_neg]
    rintro ⟨h2, h3⟩
    by_cases hs : n < 128
    · rw [put_small hs] at h1
      simp only [List.length_cons, List.length_nil] at h1
      rw [put_small hs] at h3
      omega
    · refine last_put r n (by omega) ?_
      rw [← h1, Nat.add_sub_cancel]
      exact h2
  refine ⟨he, ?_, ?_⟩
  · rw [gN_eq he, h1, List.take_left, val_put]
  · rw [gK_eq he, h1]

theorem put_val : ∀ (m : List UInt8) (c : UInt8), (∀ d ∈ m, 128 ≤ d.toNat) → c.toNat < 128 → (c = 0 → m = []) → put (val (m ++ [c])) = m ++ [c]
  | [], c, _, hc, _ => by
    have e : val ([] ++ [c]) = c.toNat := by simp [val]; omega
    rw [e, put_small hc]
    simp
  | d :: m, c, hm, hc, h0 => by
    have hd := hm d (by simp)
    have hd2 := UInt8.toNat_lt d
    have hc0 : c ≠ 0 := fun h => by simpa using h0 h
    have ih := put_val m c (fun x hx => hm x (by simp [hx])) hc (fun h => absurd h hc0)
    have hpos : 1 ≤ val (m ++ [c]) := by
      rw [val_snoc]
      have h1 : 1 ≤ c.toNat := by
        rcases Nat.eq_zero_or_pos c.toNat with h | h
        · exact absurd (UInt8.toNat_inj.1 (by simpa using h)) hc0
        · exact h
      have h2 := Nat.pow_pos (n := m.length) (show 0 < 128 by decide)
      rw [Nat.mod_eq_of_lt hc]
      have := Nat.mul_le_mul h1 h2
      omega
    rw [List.cons_append, val, put_large (by omega), show (d.toNat % 128 + 128 * val (m ++ [c])) / 128 = val (m ++ [c]) by omega, ih,
      show (d.toNat % 128 + 128 * val (m ++ [c])) % 128 + 128 = d.toNat by omega, UInt8.ofNat_toNat]

/-- What is read was put in the only possible form. -/
theorem put_get {l : List UInt8} (h : gE l = 0) : put (gN l) = l.take (gK l) := by
  obtain ⟨h1, h2, h3⟩ := gE_zero h
  rw [gN_eq h, gK_eq h, List.take_succ_eq_append_getElem h2]
  refine put_val _ _ (fun d hd => ?_) (pre_at h2) (fun h4 => ?_)
  · obtain ⟨i, hi, rfl⟩ := List.getElem_of_mem hd
    rw [List.length_take] at hi
    obtain ⟨_, h5⟩ := pre_hi (l := l) (i := i) (by omega)
    simpa using h5
  · have := h3 (by rw [List.getElem?_eq_getElem h2]; simpa using h4)
    simp [this]
theorem gN_le_put {l : List UInt8} (h : gE l = 0) : (put (gN l)).length = gK l := by
  rw [put_get h, List.length_take]
  have := (gK_le l).1
  omega
end Go.Proofs.YtlgjddmghmgmmaaDoor
