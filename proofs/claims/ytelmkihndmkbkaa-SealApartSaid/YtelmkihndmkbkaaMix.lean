/- Mix as a bijection of the numbers below 2^64; keys; blocks and tags of bytes. Plain mathematics. -/
import Derived.WalkKit
namespace Go.Proofs.Ytelmkihndmkbkaa

theorem xor_cancel64 {a b c : Nat} (h : a ^^^ c = b ^^^ c) : a = b := by
  have := congrArg (· ^^^ c) h
  simpa [Nat.xor_assoc, Nat.xor_self, Nat.xor_zero] using this
theorem xor_cancel_left {a b c : Nat} (h : c ^^^ a = c ^^^ b) : a = b := by
  rw [Nat.xor_comm c a, Nat.xor_comm c b] at h
  exact xor_cancel64 h
theorem lt64 {a b : Nat} (ha : a < 18446744073709551616) (hb : b < 18446744073709551616) : a ^^^ b < 18446744073709551616 := Nat.xor_lt_two_pow (n := 64) (by omega) (by omega)

/-! ### x XOR (x >> k) -/
def xs (k x : Nat) : Nat := x ^^^ x / 2 ^ k
theorem xs_lt {k x : Nat} (h : x < 18446744073709551616) : xs k x < 18446744073709551616 := lt64 h (Nat.lt_of_le_of_lt (Nat.div_le_self _ _) h)
theorem xs_inj {k x y : Nat} (hk : 0 < k) (h : xs k x = xs k y) : x = y := by
  unfold xs at h
  have e : (x ^^^ y) = (x ^^^ y) / 2 ^ k := by
    rw [Nat.xor_div_two_pow]
    have h1 : (x ^^^ x / 2 ^ k) ^^^ (y ^^^ x / 2 ^ k) = (y ^^^ y / 2 ^ k) ^^^ (y ^^^ x / 2 ^ k) := by rw [h]
    have h2 : (x ^^^ x / 2 ^ k) ^^^ (y ^^^ x / 2 ^ k) = x ^^^ y := by
      rw [Nat.xor_comm y, ← Nat.xor_assoc, Nat.xor_assoc x, Nat.xor_self, Nat.xor_zero]
    have h3 : (y ^^^ y / 2 ^ k) ^^^ (y ^^^ x / 2 ^ k) = x / 2 ^ k ^^^ y / 2 ^ k := by
      rw [Nat.xor_comm y (y / 2 ^ k), Nat.xor_assoc, ← Nat.xor_assoc y, Nat.xor_self, Nat.zero_xor, Nat.xor_comm]
    rw [h2, h3] at h1
    exact h1
  have h0 : x ^^^ y = 0 := by
    rcases Nat.eq_zero_or_pos (x ^^^ y) with h0 | h0
    · exact h0
    · have := Nat.div_lt_self h0 (Nat.one_lt_two_pow (by omega) : 1 < 2 ^ k)
      omega
  have := congrArg (· ^^^ y) h0
  simpa [Nat.xor_assoc, Nat.xor_self, Nat.xor_zero] using this

/-! ### Times an odd number -/
theorem mul_back {c d q : Nat} (h : c * d = 18446744073709551616 * q + 1) {a : Nat} (ha : a < 18446744073709551616) : a * c % 18446744073709551616 * d % 18446744073709551616 = a := by
  rw [Nat.mod_mul_mod, Nat.mul_assoc, h, Nat.mul_add, Nat.mul_one, Nat.mul_left_comm, Nat.mul_add_mod]
  exact Nat.mod_eq_of_lt ha
/-- A product modulo 2^64. -/
def mulm (c a : Nat) : Nat := a * c % 18446744073709551616
theorem mulm_lt (c a : Nat) : mulm c a < 18446744073709551616 := Nat.mod_lt _ (by decide)
theorem mulm_inj {c d q : Nat} (h : c * d = 18446744073709551616 * q + 1) {a b : Nat} (ha : a < 18446744073709551616) (hb : b < 18446744073709551616) (he : mulm c a = mulm c b) : a = b := by
  unfold mulm at he
  have h1 := mul_back h ha
  have h2 := mul_back h hb
  rw [he] at h1
  exact h1.symm.trans h2
theorem odd1 : 13787848793156543929 * 10871156337175269513 = 18446744073709551616 * 8125545580553827436 + 1 := by decide
theorem odd2 : 10723151780598845931 * 3573116690164977347 = 18446744073709551616 * 2077064247507883091 + 1 := by decide
theorem odd3 : 11400714819323198485 * 17428512612931826493 = 18446744073709551616 * 10771413168148108919 + 1 := by decide

def mix (x : Nat) : Nat := xs 31 (mulm 10723151780598845931 (xs 27 (mulm 13787848793156543929 (xs 30 x))))
theorem mix_lt (x : Nat) : mix x < 18446744073709551616 := by
  unfold mix
  exact xs_lt (mulm_lt _ _)
theorem mix_inj {x y : Nat} (hx : x < 18446744073709551616) (hy : y < 18446744073709551616) (h : mix x = mix y) : x = y := by
  unfold mix at h
  have h1 := xs_inj (k := 31) (by omega) h
  have h2 := mulm_inj odd2 (xs_lt (mulm_lt _ _)) (xs_lt (mulm_lt _ _)) h1
  have h3 := xs_inj (k := 27) (by omega) h2
  have h4 := mulm_inj odd1 (xs_lt hx) (xs_lt hy) h3
  exact xs_inj (k := 30) (by omega) h4

/-! ### Keys -/
def addm (a b : Nat) : Nat := (a + b) % 18446744073709551616
theorem addm_lt (a b : Nat) : addm a b < 18446744073709551616 := Nat.mod_lt _ (by decide)
theorem addm_inj {m a b : Nat} (ha : a < 18446744073709551616) (hb : b < 18446744073709551616) (h : addm m a = addm m b) : a = b := by
  unfold addm at h
  omega
def key (m i : Nat) : Nat := mix (addm m (mulm 11400714819323198485 i))
theorem key_inj {m i j : Nat} (hi : i < 18446744073709551616) (hj : j < 18446744073709551616) (h : key m i = key m j) : i = j := by
  unfold key at h
  have h1 := mix_inj (addm_lt _ _) (addm_lt _ _) h
  exact mulm_inj odd3 hi hj (addm_inj (mulm_lt _ _) (mulm_lt _ _) h1)
theorem key_lt (m i : Nat) : key m i < 18446744073709551616 := mix_lt _

/-! ### Blocks -/
def blk : List UInt8 → Nat
  | [] => 0
  | c :: l => c.toNat + 256 * blk l
theorem blk_lt : ∀ l : List UInt8, blk l < 256 ^ l.length
  | [] => by simp [blk]
  | c :: l => by
    have h1 := blk_lt l
    have h2 := UInt8.toNat_lt c
    rw [blk, List.length_cons, Nat.pow_succ]
    omega
theorem blk_lt64 {l : List UInt8} (h : l.length ≤ 8) : blk l < 18446744073709551616 := by
  refine Nat.lt_of_lt_of_le (blk_lt l) ?_
  rw [show (18446744073709551616 : Nat) = 256 ^ 8 by decide]
  exact Nat.pow_le_pow_right (by decide) h
theorem blk_inj : ∀ {a b : List UInt8}, a.length = b.length → blk a = blk b → a = b
  | [], [], _, _ => rfl
  | [], _ :: _, h, _ => by simp at h
  | _ :: _, [], h, _ => by simp at h
  | c :: a, d :: b, h, he => by
    have h1 := UInt8.toNat_lt c
    have h2 := UInt8.toNat_lt d
    rw [blk, blk] at he
    have e1 : c = d := UInt8.toNat_inj.1 (by omega)
    have e2 : a = b := blk_inj (by simpa using h) (by omega)
    rw [e1, e2]
theorem blk_zero : ∀ l : List UInt8, blk (l ++ [0]) = blk l
  | [] => rfl
  | c :: l => by rw [List.cons_append, blk, blk, blk_zero l]
theorem blk_snoc : ∀ (l : List UInt8) (c : UInt8), blk (l ++ [c]) = blk l + c.toNat * 256 ^ l.length
  | [], c => by simp [blk]
  | d :: l, c => by
    rw [List.cons_append, blk, blk_snoc l c, blk, List.length_cons, Nat.pow_succ, Nat.mul_add, ← Nat.add_assoc]
    congr 1
    rw [Nat.mul_left_comm, Nat.mul_comm 256]

/-! ### Tags -/
def tagL (h : Nat) (l : List UInt8) : Nat := if _ : l = [] then h else tagL (mix (h ^^^ blk (l.take 8))) (l.drop 8)
termination_by l.length
decreasing_by
  rw [List.length_drop]
  have := List.length_pos_iff.2 ‹_›
  omega
theorem tagL_nil (h : Nat) : tagL h [] = h := by rw [tagL, dif_pos rfl]
theorem tagL_step (h : Nat) {l : List UInt8} (hl : 0 < l.length) : tagL h l = tagL (mix (h ^^^ blk (l.take 8))) (l.drop 8) := by
  rw [tagL, dif_neg (List.length_pos_iff.1 hl)]
def tag (k : Nat) (l : List UInt8) : Nat := mix (tagL (mix k) l ^^^ l.length)
theorem take8 (l : List UInt8) : (l.take 8).length ≤ 8 := by rw [List.length_take]; omega
theorem tagL_lt : ∀ (n : Nat) {l : List UInt8} {h : Nat}, l.length ≤ n → h < 18446744073709551616 → tagL h l < 18446744073709551616
  | n, l, h, hn, hh => by
    rcases Nat.eq_zero_or_pos l.length with h0 | h0
    · rw [List.length_eq_zero_iff.1 h0, tagL_nil]
      exact hh
    · match n with
      | 0 => omega
      | n + 1 =>
        rw [tagL_step h h0]
        exact tagL_lt n (by rw [List.length_drop]; omega) (mix_lt _)
theorem tagL_inj : ∀ (n : Nat) {l : List UInt8} {a b : Nat}, l.length ≤ n → a < 18446744073709551616 → b < 18446744073709551616 → tagL a l = tagL b l → a = b
  | n, l, a, b, hn, ha, hb, h => by
    rcases Nat.eq_zero_or_pos l.length with h0 | h0
    · rw [List.length_eq_zero_iff.1 h0, tagL_nil, tagL_nil] at h
      exact h
    · match n with
      | 0 => omega
      | n + 1 =>
        rw [tagL_step a h0, tagL_step b h0] at h
        have hB := blk_lt64 (take8 l)
        have h1 := tagL_inj n (by rw [List.length_drop]; omega) (mix_lt _) (mix_lt _) h
        exact xor_cancel64 (mix_inj (lt64 ha hB) (lt64 hb hB) h1)
theorem tagL_append : ∀ (n : Nat) {p r : List UInt8} {h : Nat}, p.length ≤ n → p.length % 8 = 0 → tagL h (p ++ r) = tagL (tagL h p) r
  | n, p, r, h, hn, h8 => by
    rcases Nat.eq_zero_or_pos p.length with h0 | h0
    · rw [List.length_eq_zero_iff.1 h0, tagL_nil, List.nil_append]
    · match n with
      | 0 => omega
      | n + 1 =>
        have h9 : 8 ≤ p.length := by omega
        rw [tagL_step h h0, tagL_step h (by rw [List.length_append]; omega), List.take_append_of_le_length h9, List.drop_append_of_le_length h9]
        exact tagL_append n (by rw [List.length_drop]; omega) (by rw [List.length_drop]; omega)
theorem tag_lt (k : Nat) (l : List UInt8) : tag k l < 18446744073709551616 := mix_lt _
theorem len64 {l : List UInt8} (h : l.length ≤ 9223372036854775807) : l.length < 18446744073709551616 := by omega
/-- Different keys: different tags. -/
theorem tag_key {a b : Nat} {l : List UInt8} (hl : l.length ≤ 9223372036854775807) (ha : a < 18446744073709551616) (hb : b < 18446744073709551616) (h : tag a l = tag b l) : a = b := by
  have h1 := xor_cancel64 (mix_inj (lt64 (tagL_lt _ (Nat.le_refl _) (mix_lt a)) (len64 hl)) (lt64 (tagL_lt _ (Nat.le_refl _) (mix_lt b)) (len64 hl)) h)
  exact mix_inj ha hb (tagL_inj _ (Nat.le_refl _) (mix_lt _) (mix_lt _) h1)
/-- A change within one block changes the tag. -/
theorem tag_block {k : Nat} {p q q' s : List UInt8} (hl : (p ++ (q ++ s)).length ≤ 9223372036854775807) (hp : p.length % 8 = 0) (hq : q.length = q'.length) (h0 : 0 < q.length) (h8 : q.length ≤ 8) (hs : q.length = 8 ∨ s = []) (hne : q ≠ q') :
    tag k (p ++ (q ++ s)) ≠ tag k (p ++ (q' ++ s)) := by
  intro h
  have hlen : (p ++ (q ++ s)).length = (p ++ (q' ++ s)).length := by simp [hq]
  have hl2 := hl
  rw [hlen] at hl2
  unfold tag at h
  rw [← hlen] at h
  have h1 := xor_cancel64 (mix_inj (lt64 (tagL_lt _ (Nat.le_refl _) (mix_lt k)) (len64 hl)) (lt64 (tagL_lt _ (Nat.le_refl _) (mix_lt k)) (len64 hl)) h)
  rw [tagL_append _ (Nat.le_refl _) hp, tagL_append _ (Nat.le_refl _) hp] at h1
  have tk : ∀ x : List UInt8, x.length = q.length → (x ++ s).take 8 = x := fun x hx => by
    rcases hs with e | e
    · rw [List.take_append_of_le_length (by omega), List.take_of_length_le (by omega)]
    · rw [e, List.append_nil, List.take_of_length_le (by omega)]
  have dp : ∀ x : List UInt8, x.length = q.length → (x ++ s).drop 8 = s := fun x hx => by
    rcases hs with e | e
    · rw [List.drop_append_of_le_length (by omega), List.drop_of_length_le (by omega), List.nil_append]
    · rw [e, List.append_nil, List.drop_of_length_le (by omega)]
  rw [tagL_step (l := q ++ s) _ (by rw [List.length_append]; omega), tagL_step (l := q' ++ s) _ (by rw [List.length_append]; omega), tk q rfl, tk q' hq.symm, dp q rfl, dp q' hq.symm] at h1
  have hT := tagL_lt _ (Nat.le_refl p.length) (mix_lt k)
  have h2 := tagL_inj _ (Nat.le_refl _) (mix_lt _) (mix_lt _) h1
  have h3 := xor_cancel_left (mix_inj (lt64 hT (blk_lt64 h8)) (lt64 hT (blk_lt64 (by omega))) h2)
  exact hne (blk_inj hq h3)
/-- A zero byte that belongs to the last block changes no block. -/
theorem tagL_zero {h : Nat} {l : List UInt8} (hl : l.length % 8 ≠ 0) : tagL h (l ++ [0]) = tagL h l := by
  obtain ⟨p, r, e, hp, hr⟩ : ∃ p r : List UInt8, l = p ++ r ∧ p.length % 8 = 0 ∧ r.length = l.length % 8 := by
    refine ⟨l.take (l.length / 8 * 8), l.drop (l.length / 8 * 8), (List.take_append_drop _ _).symm, ?_, ?_⟩
    · rw [List.length_take]; omega
    · rw [List.length_drop]; omega
  have hr8 : r.length < 8 := by omega
  have hz : (r ++ [(0 : UInt8)]).length = r.length + 1 := by simp
  rw [e, List.append_assoc, tagL_append _ (Nat.le_refl _) hp, tagL_append _ (Nat.le_refl _) hp, tagL_step (l := r ++ [0]) _ (by omega), tagL_step (l := r) _ (by omega),
    List.take_of_length_le (by omega), List.drop_of_length_le (by omega), List.take_of_length_le (by omega), List.drop_of_length_le (by omega), blk_zero]
/-- The same blocks, another length: another tag. -/
theorem tag_len {k : Nat} {a b : List UInt8} (ha : a.length ≤ 9223372036854775807) (hb : b.length ≤ 9223372036854775807) (h : tagL (mix k) a = tagL (mix k) b) (hne : a.length ≠ b.length) : tag k a ≠ tag k b := by
  intro he
  unfold tag at he
  rw [h] at he
  have hT := tagL_lt _ (Nat.le_refl b.length) (mix_lt k)
  exact hne (xor_cancel_left (mix_inj (lt64 hT (len64 ha)) (lt64 hT (len64 hb)) he))
end Go.Proofs.Ytelmkihndmkbkaa
