/- A change within one block: while it is being made, and what it means for the tag. -/
import Derived.Test.YtelmkihndmkbkaaRow
namespace Go.Proofs.Ytelmkihndmkbkaa
open Go.RowKit

/-- The copy o of l, changed in the block at a, up to the byte k of it; b: whether something changed. -/
def Chg (l : List UInt8) (a k : Nat) (o : List UInt8) (b : Bool) : Prop :=
  o.length = l.length ∧ o.take a = l.take a ∧ o.drop (a + k) = l.drop (a + k) ∧ (b = true ↔ o ≠ l)
theorem chg_zero (l : List UInt8) (a : Nat) : Chg l a 0 l false := ⟨rfl, rfl, rfl, by simp⟩
theorem bx_of_drop {l o : List UInt8} {i : Nat} (h : o.drop i = l.drop i) : bx o i = bx l i := by
  have h1 := bx_drop o i 0
  have h2 := bx_drop l i 0
  rw [Nat.add_zero] at h1 h2
  rw [← h1, ← h2, h]
theorem split_at {l o : List UInt8} {i : Nat} (h : i < l.length) (hl : o.length = l.length) (h1 : o.take i = l.take i) (h2 : bx o i = bx l i) (h3 : o.drop (i + 1) = l.drop (i + 1)) : o = l := by
  have e1 := List.take_append_drop i o
  have e2 := List.take_append_drop i l
  rw [← e1, ← e2, h1]
  congr 1
  rw [List.drop_eq_getElem_cons h, List.drop_eq_getElem_cons (by omega : i < o.length), h3]
  congr 1
  rw [bx_at h, bx_at (by omega : i < o.length)] at h2
  exact UInt8.toNat_inj.1 h2
theorem bx_set {o : List UInt8} {i y : Nat} (h : i < o.length) (hy : y < 256) : bx (o.set i (UInt8.ofNat y)) i = y := by
  rw [bx_at (by rw [List.length_set]; exact h), List.getElem_set_self]
  exact ofNat_toNat hy
theorem xor_same {x c : Nat} (h : x ^^^ c = x) : c = 0 := by
  have := congrArg (x ^^^ ·) h
  simpa [← Nat.xor_assoc, Nat.xor_self, Nat.zero_xor] using this
theorem chg_next {l o : List UInt8} {a k c y : Nat} {b : Bool} (h : Chg l a k o b) (hk : a + k < l.length) (hc : c < 256) (hy : bx o (a + k) ^^^ c = y) : Chg l a (k + 1) (o.set (a + k) (UInt8.ofNat y)) (b || decide (c ≠ 0)) := by
  obtain ⟨h1, h2, h3, h4⟩ := h
  have hy2 : y < 256 := by rw [← hy]; exact Nat.xor_lt_two_pow (n := 8) (bx_lt _ _) (by omega)
  have hbx := bx_of_drop h3
  have hd : ∀ n, n = a + (k + 1) → (o.set (a + k) (UInt8.ofNat y)).drop n = l.drop n := fun n hn => by
    rw [List.drop_set_of_lt (by omega)]
    have := congrArg (List.drop 1) h3
    rw [List.drop_drop, List.drop_drop] at this
    rw [hn]
    exact this
  refine ⟨by rw [List.length_set, h1], ?_, hd _ rfl, ?_⟩
  · rw [List.take_set_of_le (by omega), h2]
  · have hself := bx_set (o := o) (i := a + k) (y := y) (by omega) hy2
    constructor
    · intro hb he
      rw [Bool.or_eq_true, decide_eq_true_eq] at hb
      have e1 : bx l (a + k) = y := by rw [← hself, he]
      have hc0 : c = 0 := by
        refine xor_same (x := bx o (a + k)) ?_
        rw [hy, hbx, e1]
      rcases hb with hb | hb
      · refine h4.1 hb (split_at hk h1 ?_ hbx ?_)
        · have := congrArg (List.take (a + k)) he
          rwa [List.take_set_of_le (Nat.le_refl _)] at this
        · have := congrArg (List.drop 1) h3
          rwa [List.drop_drop, List.drop_drop] at this
      · exact hb hc0
    · intro hne
      rw [Bool.or_eq_true, decide_eq_true_eq]
      rcases Classical.em (o = l) with ho | ho
      · refine .inr fun hc0 => hne (split_at hk (by rw [List.length_set, h1]) ?_ ?_ (hd _ rfl))
        · rw [List.take_set_of_le (Nat.le_refl _), ho]
        · rw [hself, ← hbx, ← hy, hc0, Nat.xor_zero]
      · exact .inl (h4.2 ho)
/-- A change within one block: another tag, exactly if something changed. -/
theorem chg_tag {l o : List UInt8} {a k key : Nat} {b : Bool} (h : Chg l a k o b) (ha : a < l.length) (h8 : a % 8 = 0) (hk : k ≤ 8) (he : k = 8 ∨ l.length ≤ a + k) (hl : l.length ≤ 500) : (tag key l = tag key o ↔ b = false) := by
  obtain ⟨h1, h2, h3, h4⟩ := h
  have hd : o.drop (a + 8) = l.drop (a + 8) := by
    rcases he with rfl | he
    · exact h3
    · rw [List.drop_eq_nil_of_le (by omega), List.drop_eq_nil_of_le (by omega)]
  have parts : ∀ x : List UInt8, x = x.take a ++ ((x.drop a).take 8 ++ x.drop (a + 8)) := fun x => by
    rw [← List.drop_drop, List.take_append_drop, List.take_append_drop]
  have hlen : ∀ x : List UInt8, x.length = l.length → ((x.drop a).take 8).length = min 8 (l.length - a) := fun x hx => by
    rw [List.length_take, List.length_drop, hx]
  constructor
  · intro ht
    cases b with
    | false => rfl
    | true =>
      have hne := h4.1 rfl
      refine absurd ?_ (tag_block (k := key) (p := l.take a) (q := (l.drop a).take 8) (q' := (o.drop a).take 8) (s := l.drop (a + 8)) ?_ ?_ ?_ ?_ ?_ ?_ ?_)
      · rw [← parts l, ht]
        conv => lhs; rw [parts o]
        rw [h2, hd]
      · rw [← parts l]; omega
      · rw [List.length_take]; omega
      · rw [hlen l rfl, hlen o h1]
      · rw [hlen l rfl]; omega
      · rw [hlen l rfl]; omega
      · rw [hlen l rfl]
        by_cases h : 8 ≤ l.length - a
        · exact .inl (by omega)
        · exact .inr (List.drop_eq_nil_of_le (by omega))
      · intro hq
        refine hne ?_
        rw [parts l, parts o, h2, hd, hq]
  · rintro rfl
    rcases Classical.em (o = l) with ho | ho
    · rw [ho]
    · exact absurd (h4.2 ho) (by simp)
theorem set8 {l : List UInt8} {i x : Nat} (hx : x < 256) : (cells8 l).set i (.int .u8 (x : Int)) = cells8 (l.set i (UInt8.ofNat x)) := by
  simp [cells8, List.map_set, Nat.mod_eq_of_lt hx]
end Go.Proofs.Ytelmkihndmkbkaa
