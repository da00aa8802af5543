/- What the reference's Parse computes is what Parse computes, over lists of bytes. -/
import Derived.Test.YtleddfceigmlmaaDoorRefParse
import Derived.Test.YtleddfceigmlmaaDoorBackPlain
namespace Go.Proofs.YtleddfceigmlmaaDoor
open Go.RowKit

def finV (neg : Bool) (n : Nat) : Value := if neg then (if n = 0 then pairV 0 3 else pairV (-(n : Int)) 0) else pairV n 0
def refL (neg : Bool) (u : List UInt8) : Value :=
  if digN u < 1 ∨ 10 < digN u ∨ (1 < digN u ∧ u.headD 0 = 48) then pairV 0 3
  else if u.drop (digN u) = [] then finV neg (1000 * valN (u.take (digN u)))
  else if (u.drop (digN u)).headD 0 ≠ 46 ∨ (u.drop (digN u)).length < 2 ∨ 4 < (u.drop (digN u)).length ∨ digN (u.drop (digN u)).tail ≠ (u.drop (digN u)).length - 1 then pairV 0 3
  else finV neg (1000 * valN (u.take (digN u)) + valN (((u.drop (digN u)).tail ++ [48, 48]).take 3))

theorem digN_split (u : List UInt8) : (u.take (digN u)).all isD = true ∧ (u.drop (digN u) = [] ∨ ∃ c r, u.drop (digN u) = c :: r ∧ isD c = false) := by
  induction u with
  | nil => exact ⟨rfl, Or.inl rfl⟩
  | cons c u ih =>
    rcases h : isD c with _ | _
    · have e : digN (c :: u) = 0 := by unfold digN; rw [List.takeWhile_cons, h]; rfl
      rw [e]
      exact ⟨rfl, Or.inr ⟨c, u, rfl, h⟩⟩
    · have e : digN (c :: u) = digN u + 1 := by unfold digN; rw [List.takeWhile_cons, h]; simp
      rw [e, List.take_succ_cons, List.drop_succ_cons, List.all_cons, h]
      exact ⟨by rw [ih.1]; rfl, ih.2⟩
theorem digN_all {l : List UInt8} : digN l = l.length ↔ l.all isD = true := by
  constructor
  · intro h
    have := (digN_split l).1
    rwa [h, List.take_length] at this
  · intro h
    exact Nat.le_antisymm (digN_le l) (digN_take (k := l.length) (by rwa [List.take_length]) (Nat.le_refl _))
theorem fold_three {l : List UInt8} (hl : l.length = 3) (acc : Nat) : l.foldl (fun a c => 10 * a + (c.toNat - 48)) acc = 1000 * acc + valN l := by
  match l, hl with
  | [a, b, c], _ =>
    show 10 * (10 * (10 * acc + (a.toNat - 48)) + (b.toNat - 48)) + (c.toNat - 48) = 1000 * acc + (10 * (10 * (10 * 0 + (a.toNat - 48)) + (b.toNat - 48)) + (c.toNat - 48))
    omega
theorem val_app {w t : List UInt8} (hl : t.length = 3) : valN (w ++ t) = 1000 * valN w + valN t := by
  unfold valN
  rw [List.foldl_append]
  exact fold_three hl _
/-- The whole part of a text without a point, or with one behind a byte that is no digit, is none. -/
theorem cut_bad {w r : List UInt8} {c : UInt8} (hw : w.all isD = true) (hc : isD c = false) (h46 : c ≠ 46) : wholeOk (Lib.cut (w ++ c :: r) [46]).1 = false := by
  have hin : ∀ i : Nat, (Lib.indexByte (w ++ c :: r) 46 = (i : Int)) → w.length < i := by
    intro i hi
    obtain ⟨a1, a2⟩ := Lib.indexByte_some hi
    rcases Nat.lt_trichotomy i w.length with h | h | h
    · rw [List.getElem?_append_left h] at a1
      have hm := List.mem_of_getElem? a1
      exact absurd rfl (dig_ne hw 46 hm)
    · subst h
      rw [List.getElem?_append_right (Nat.le_refl _), Nat.sub_self] at a1
      exact absurd (Option.some.inj a1) h46
    · exact h
  have hbad : ∀ l : List UInt8, c ∈ l → wholeOk l = false := by
    intro l hl
    have : l.all isD = false := by
      rw [← Bool.not_eq_true, List.all_eq_true]
      intro h
      rw [h c hl] at hc
      cases hc
    unfold wholeOk areD
    rw [this, Bool.and_false, Bool.false_and]
  unfold Lib.cut
  split
  · rename_i h
    rw [Lib.index_one] at h ⊢
    obtain ⟨i, hi⟩ := Int.eq_ofNat_of_zero_le h
    have := hin i hi
    apply hbad
    show c ∈ (w ++ c :: r).take (Lib.indexByte (w ++ c :: r) 46).toNat
    rw [hi, Int.toNat_natCast]
    rw [List.take_append]
    obtain ⟨j, hj⟩ : ∃ j, i - w.length = j + 1 := ⟨i - w.length - 1, by omega⟩
    rw [hj, List.take_succ_cons]
    simp
  · exact hbad _ (by simp)
theorem cut_none {u : List UInt8} (h : u.all isD = true) : Lib.cut u [46] = (u, [], false) := by
  unfold Lib.cut
  rw [Lib.index_one, if_neg]
  intro h0
  obtain ⟨i, hi⟩ := Int.eq_ofNat_of_zero_le h0
  obtain ⟨a1, _⟩ := Lib.indexByte_some hi
  exact absurd rfl (dig_ne h 46 (List.mem_of_getElem? a1))
theorem wholeOk_iff {w : List UInt8} (h : w.all isD = true) : wholeOk w = true ↔ ¬ (w.length < 1 ∨ 10 < w.length ∨ (1 < w.length ∧ w.headD 0 = 48)) := by
  unfold wholeOk areD
  rw [h, Bool.and_true, Bool.and_eq_true, decide_eq_true_eq, Bool.or_eq_true, decide_eq_true_eq, bne_iff_ne]
  constructor
  · rintro ⟨⟨a, b⟩, c⟩ (d | d | ⟨d, e⟩)
    · omega
    · omega
    · rcases c with c | c
      · omega
      · exact c e
  · intro hn
    refine ⟨⟨by omega, by omega⟩, ?_⟩
    by_cases h1 : w.length = 1
    · exact Or.inl h1
    · exact Or.inr (fun e => hn (Or.inr (Or.inr ⟨by omega, e⟩)))
theorem head_take {u : List UInt8} {k : Nat} (h : 1 ≤ k) : (u.take k).headD 0 = u.headD 0 := by
  cases u with
  | nil => simp
  | cons c u =>
    obtain ⟨j, rfl⟩ : ∃ j, k = j + 1 := ⟨k - 1, by omega⟩
    rfl
theorem parse_ref (l : List UInt8) : parseV l = refL (Lib.hasPrefix l [45]) (Lib.trimPrefix l [45]) := by
  unfold parseV
  generalize Lib.hasPrefix l [45] = neg
  generalize Lib.trimPrefix l [45] = u
  obtain ⟨h1, h2⟩ := digN_split u
  have hl : (u.take (digN u)).length = digN u := by rw [List.length_take]; have := digN_le u; omega
  have hu : u.take (digN u) ++ u.drop (digN u) = u := List.take_append_drop _ _
  have hwo := wholeOk_iff h1
  rw [hl] at hwo
  have hcond : (digN u < 1 ∨ 10 < digN u ∨ (1 < digN u ∧ (u.take (digN u)).headD 0 = 48)) ↔ (digN u < 1 ∨ 10 < digN u ∨ (1 < digN u ∧ u.headD 0 = 48)) := by
    constructor
    · rintro (a | a | ⟨a, b⟩)
      · exact Or.inl a
      · exact Or.inr (Or.inl a)
      · exact Or.inr (Or.inr ⟨a, by rw [head_take (by omega)] at b; exact b⟩)
    · rintro (a | a | ⟨a, b⟩)
      · exact Or.inl a
      · exact Or.inr (Or.inl a)
      · exact Or.inr (Or.inr ⟨a, by rw [head_take (by omega)]; exact b⟩)
  rw [hcond] at hwo
  unfold refL
  rcases h2 with h2 | ⟨c, r, h2, hc⟩
  · -- no rest
    have hall : u.all isD = true := by rw [← hu, h2, List.append_nil]; exact h1
    have hut : u.take (digN u) = u := by rw [h2, List.append_nil] at hu; exact hu
    rw [cut_none hall, h2, if_pos (show ([] : List UInt8) = [] from rfl)]
    rw [hut] at hwo
    simp only [Bool.not_false, Bool.true_or, Bool.and_true]
    by_cases hb : digN u < 1 ∨ 10 < digN u ∨ (1 < digN u ∧ u.headD 0 = 48)
    · have : wholeOk u = false := by rw [← Bool.not_eq_true]; exact fun h => (hwo.1 h) hb
      rw [this, if_neg (by decide), if_pos hb]
    · rw [hwo.2 hb, if_pos rfl, if_neg hb, hut]
      have e : ([] ++ [48, 48, 48] : List UInt8).take 3 = [48, 48, 48] := rfl
      rw [e, val_app rfl]
      rfl
  · by_cases h46 : c = 46
    · subst h46
      have hcut : Lib.cut u [46] = (u.take (digN u), r, true) := by
        conv => lhs; rw [← hu, h2]
        exact cut_point (dig_ne h1)
      rw [hcut, h2, if_neg (show ¬ (46 :: r : List UInt8) = [] by simp)]
      simp only [Bool.not_true, Bool.false_or]
      have hr : (¬ ((46 :: r : List UInt8).headD 0 ≠ 46 ∨ (46 :: r : List UInt8).length < 2 ∨ 4 < (46 :: r : List UInt8).length ∨ digN (46 :: r : List UInt8).tail ≠ (46 :: r : List UInt8).length - 1)) ↔ areD r 3 = true := by
        have e1 : (46 :: r : List UInt8).headD 0 = 46 := rfl
        have e2 : (46 :: r : List UInt8).tail = r := rfl
        have e3 : (46 :: r : List UInt8).length = r.length + 1 := rfl
        rw [e1, e2, e3]
        unfold areD
        rw [Bool.and_eq_true, decide_eq_true_eq, ← digN_all]
        simp only [ne_eq, not_true_eq_false, false_or]
        omega
      by_cases hb : digN u < 1 ∨ 10 < digN u ∨ (1 < digN u ∧ u.headD 0 = 48)
      · have : wholeOk (u.take (digN u)) = false := by rw [← Bool.not_eq_true]; exact fun h => (hwo.1 h) hb
        rw [this, if_pos hb, Bool.false_and, if_neg (by decide)]
      · rw [hwo.2 hb, if_neg hb, Bool.true_and]
        by_cases hf : areD r 3 = true
        · have hlr := areD_parts hf
          have et : (r ++ [48, 48, 48]).take 3 = (r ++ [48, 48]).take 3 := by
            have : r ++ [48, 48, 48] = (r ++ [48, 48]) ++ [48] := by simp
            rw [this, List.take_append_of_le_length (by rw [List.length_append]; simp; omega)]
          have e3 : ((r ++ [48, 48]).take 3).length = 3 := by
            rw [List.length_take, List.length_append]; simp; omega
          rw [if_pos hf, if_neg (hr.2 hf), et, val_app e3]
          rfl
        · rw [if_neg hf, if_pos (by exact Classical.not_not.1 (fun h => hf (hr.1 h)))]
    · have hbad : wholeOk (Lib.cut u [46]).1 = false := by
        have := cut_bad (r := r) h1 hc h46
        rwa [← h2, hu] at this
      rw [hbad, Bool.false_and, if_neg (by decide), h2, if_neg (show ¬ (c :: r) = [] by simp)]
      by_cases hb : digN u < 1 ∨ 10 < digN u ∨ (1 < digN u ∧ u.headD 0 = 48)
      · rw [if_pos hb]
      · rw [if_neg hb, if_pos (Or.inl (show (c :: r).headD 0 ≠ 46 from h46))]
end Go.Proofs.YtleddfceigmlmaaDoor
