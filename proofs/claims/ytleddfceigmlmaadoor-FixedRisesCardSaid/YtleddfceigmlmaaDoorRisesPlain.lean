/- The value of a piecewise linear function lies between its least and greatest Y, and rises if the Y do: in plain words. -/
import Derived.Test.YtleddfceigmlmaaDoorAtC
namespace Go.Proofs.YtleddfceigmlmaaDoor
open Go.RowKit

def isVal (n : Nat) (X Y : Nat → Int) (x v : Int) : Prop :=
  (x ≤ X 0 ∧ v = Y 0) ∨ (X (n - 1) ≤ x ∧ v = Y (n - 1)) ∨ ∃ m, m + 1 < n ∧ X m ≤ x ∧ x < X (m + 1) ∧ v = Y m + (Y (m + 1) - Y m) * (x - X m) / (X (m + 1) - X m)
theorem val_of {n : Nat} {X Y : Nat → Int} (hv : valid n X Y) (x : Int) : ∃ v, atV n X Y x = pairV v 0 ∧ isVal n X Y x v := by
  by_cases h0 : x ≤ X 0
  · exact ⟨_, atV_low hv h0, Or.inl ⟨h0, rfl⟩⟩
  · by_cases h1 : X (n - 1) ≤ x
    · exact ⟨_, atV_high hv h1, Or.inr (Or.inl ⟨h1, rfl⟩)⟩
    · have hr := rises hv
      have hn := hv.1
      have hc := cnt_le n X x
      have a0 := (cnt_iff (x := x) hr 0 (by omega)).1 (by omega)
      have a1 : ¬ n - 1 < cnt n X x := fun q => h1 ((cnt_iff (x := x) hr (n - 1) (by omega)).2 q)
      obtain ⟨m, hm⟩ : ∃ m, cnt n X x = m + 1 := ⟨cnt n X x - 1, by omega⟩
      have b0 := (cnt_iff (x := x) hr m (by omega)).2 (by omega)
      have b1 : ¬ X (m + 1) ≤ x := fun q => by have := (cnt_iff (x := x) hr (m + 1) (by omega)).1 q; omega
      have hmn : m + 1 < n := by omega
      exact ⟨_, (atV_mid hv hmn b0 (by omega)).2, Or.inr (Or.inr ⟨m, hmn, b0, by omega, rfl⟩)⟩
/-- A part of a step lies between nothing and the step. -/
theorem part_between {D b c : Int} (hb : 0 ≤ b) (hbc : b ≤ c) (hc : 0 < c) : (0 ≤ D → 0 ≤ D * b / c ∧ D * b / c ≤ D) ∧ (D ≤ 0 → D ≤ D * b / c ∧ D * b / c ≤ 0) := by
  constructor
  · intro hD
    exact ⟨Int.ediv_nonneg (Int.mul_nonneg hD hb) (by omega), Int.ediv_le_of_le_mul hc (Int.mul_le_mul_of_nonneg_left hbc hD)⟩
  · intro hD
    refine ⟨Int.le_ediv_of_mul_le hc (Int.mul_le_mul_of_nonpos_left hD hbc), Int.ediv_le_of_le_mul hc ?_⟩
    rw [Int.zero_mul]
    exact Int.mul_nonpos_of_nonpos_of_nonneg hD hb
theorem val_bounds {n : Nat} {X Y : Nat → Int} {x v lo hi : Int} (hv : valid n X Y) (h : ∀ i, i < n → lo ≤ Y i ∧ Y i ≤ hi) (hx : isVal n X Y x v) : lo ≤ v ∧ v ≤ hi := by
  have hn := hv.1
  rcases hx with ⟨_, rfl⟩ | ⟨_, rfl⟩ | ⟨m, hm, h1, h2, rfl⟩
  · exact h 0 (by omega)
  · exact h (n - 1) (by omega)
  · have a := h m (by omega)
    have b := h (m + 1) hm
    obtain ⟨p1, p2⟩ := part_between (D := Y (m + 1) - Y m) (b := x - X m) (c := X (m + 1) - X m) (by omega) (by omega) (by omega)
    rcases Int.le_total 0 (Y (m + 1) - Y m) with g | g
    · have := p1 g
      generalize (Y (m + 1) - Y m) * (x - X m) / (X (m + 1) - X m) = q at *
      omega
    · have := p2 g
      generalize (Y (m + 1) - Y m) * (x - X m) / (X (m + 1) - X m) = q at *
      omega
theorem ys_rise {n : Nat} {Y : Nat → Int} (hr : ∀ i, i + 1 < n → Y i ≤ Y (i + 1)) : ∀ i j, i ≤ j → j < n → Y i ≤ Y j := by
  intro i j hij hj
  induction j with
  | zero =>
    obtain rfl : i = 0 := by omega
    exact Int.le_refl _
  | succ j ih =>
    rcases Nat.lt_or_ge j i with h | h
    · obtain rfl : i = j + 1 := by omega
      exact Int.le_refl _
    · exact Int.le_trans (ih h (by omega)) (hr j hj)
theorem val_mono {n : Nat} {X Y : Nat → Int} {x y a b : Int} (hv : valid n X Y) (hr : ∀ i, i + 1 < n → Y i ≤ Y (i + 1)) (hxy : x ≤ y) (ha : isVal n X Y x a) (hb : isVal n X Y y b) : a ≤ b := by
  have hn := hv.1
  have hY := ys_rise hr
  have hX := rises hv
  have hall : ∀ i, i < n → Y 0 ≤ Y i ∧ Y i ≤ Y (n - 1) := fun i hi => ⟨hY 0 i (by omega) hi, hY i (n - 1) (by omega) (by omega)⟩
  have ba := val_bounds hv hall ha
  have bb := val_bounds hv hall hb
  rcases ha with ⟨_, rfl⟩ | ⟨h1, rfl⟩ | ⟨m, hm, h1, h2, rfl⟩
  · exact bb.1
  · rcases hb with ⟨g, rfl⟩ | ⟨_, rfl⟩ | ⟨k, hk, g1, g2, rfl⟩
    · -- x = y = X 0 = X (n-1): one point
      rcases Nat.lt_or_ge 1 n with q | q
      · have := (hv.2.2 (n - 1) (by omega)).2.2 (by omega)
        have := hX 0 (n - 1 - 1) (by omega) (by omega)
        omega
      · obtain rfl : n = 1 := by omega
        exact Int.le_refl _
    · exact Int.le_refl _
    · have := hX (k + 1) (n - 1) (by omega) (by omega)
      omega
  · rcases hb with ⟨g, rfl⟩ | ⟨_, rfl⟩ | ⟨k, hk, g1, g2, rfl⟩
    · have h3 := hX 0 m (by omega) (by omega)
      have e : x - X m = 0 := by omega
      rcases Nat.eq_zero_or_pos m with q | q
      · subst q
        rw [e, Int.mul_zero, Int.zero_ediv]
        omega
      · have := (hv.2.2 m (by omega)).2.2 q
        have := hX 0 (m - 1) (by omega) (by omega)
        omega
    · exact ba.2
    · obtain ⟨p1, _⟩ := part_between (D := Y (m + 1) - Y m) (b := x - X m) (c := X (m + 1) - X m) (by omega) (by omega) (by omega)
      obtain ⟨q1, _⟩ := part_between (D := Y (k + 1) - Y k) (b := y - X k) (c := X (k + 1) - X k) (by omega) (by omega) (by omega)
      have p := p1 (by have := hr m hm; omega)
      have q := q1 (by have := hr k hk; omega)
      rcases Nat.lt_trichotomy m k with g | g | g
      · have := hY (m + 1) k (by omega) (by omega)
        generalize (Y (m + 1) - Y m) * (x - X m) / (X (m + 1) - X m) = u at *
        generalize (Y (k + 1) - Y k) * (y - X k) / (X (k + 1) - X k) = v at *
        omega
      · subst g
        have h3 : (Y (m + 1) - Y m) * (x - X m) ≤ (Y (m + 1) - Y m) * (y - X m) := Int.mul_le_mul_of_nonneg_left (by omega) (by have := hr m hm; omega)
        have h4 := Int.ediv_le_ediv (show 0 < X (m + 1) - X m by omega) h3
        generalize (Y (m + 1) - Y m) * (x - X m) / (X (m + 1) - X m) = u at *
        generalize (Y (m + 1) - Y m) * (y - X m) / (X (m + 1) - X m) = v at *
        omega
      · have := hX (k + 1) m (by omega) (by omega)
        omega
end Go.Proofs.YtleddfceigmlmaaDoor
