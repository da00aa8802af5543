/- The plain mathematics of Length: a length is a number of times. -/
import Derived.Test.YtlkindlbllbmgaaMinusP
namespace Go.Proofs.Ytlkindlbllbmgaa

def lenL : List Iv → Int
  | [] => 0
  | p :: l => (p.2 - p.1) + lenL l
theorem lenL_append : ∀ (l m : List Iv), lenL (l ++ m) = lenL l + lenL m
  | [], m => by simp [lenL]
  | p :: l, m => by rw [List.cons_append, lenL, lenL, lenL_append l m]; omega
theorem lenL_snoc (l : List Iv) (p : Iv) : lenL (l ++ [p]) = lenL l + (p.2 - p.1) := by rw [lenL_append, lenL, lenL]; omega

noncomputable def cnt (S : Int → Prop) : Nat → Int
  | 0 => 0
  | n + 1 => cnt S n + @ite _ (S n) (Classical.propDecidable _) 1 0
theorem cnt_yes {S : Int → Prop} {n : Nat} (h : S n) : cnt S (n + 1) = cnt S n + 1 := by rw [cnt, if_pos h]
theorem cnt_no {S : Int → Prop} {n : Nat} (h : ¬ S n) : cnt S (n + 1) = cnt S n := by rw [cnt, if_neg h]; omega
theorem cnt_congr {S T : Int → Prop} (h : ∀ t, S t ↔ T t) : ∀ n, cnt S n = cnt T n
  | 0 => rfl
  | n + 1 => by
    rcases Classical.em (S n) with c | c
    · rw [cnt_yes c, cnt_yes ((h n).1 c), cnt_congr h n]
    · rw [cnt_no c, cnt_no (fun d => c ((h n).2 d)), cnt_congr h n]
theorem cnt_or_and (S T : Int → Prop) : ∀ n, cnt S n + cnt T n = cnt (fun t => S t ∨ T t) n + cnt (fun t => S t ∧ T t) n
  | 0 => rfl
  | n + 1 => by
    have h := cnt_or_and S T n
    rcases Classical.em (S n) with c | c <;> rcases Classical.em (T n) with d | d
    · rw [cnt_yes c, cnt_yes d, cnt_yes (S := fun t => S t ∨ T t) (.inl c), cnt_yes (S := fun t => S t ∧ T t) ⟨c, d⟩]; omega
    · rw [cnt_yes c, cnt_no d, cnt_yes (S := fun t => S t ∨ T t) (.inl c), cnt_no (S := fun t => S t ∧ T t) (fun k => d k.2)]; omega
    · rw [cnt_no c, cnt_yes d, cnt_yes (S := fun t => S t ∨ T t) (.inr d), cnt_no (S := fun t => S t ∧ T t) (fun k => c k.1)]; omega
    · rw [cnt_no c, cnt_no d, cnt_no (S := fun t => S t ∨ T t) (fun k => k.elim c d), cnt_no (S := fun t => S t ∧ T t) (fun k => c k.1)]; omega
theorem cnt_zero {S : Int → Prop} (h : ∀ t, ¬ S t) : ∀ n, cnt S n = 0
  | 0 => rfl
  | n + 1 => by rw [cnt_no (h n), cnt_zero h n]
theorem cnt_mono {S T : Int → Prop} (h : ∀ t, S t → T t) : ∀ n, cnt S n ≤ cnt T n
  | 0 => Int.le_refl _
  | n + 1 => by
    have k := cnt_mono h n
    rcases Classical.em (S n) with c | c
    · rw [cnt_yes c, cnt_yes (h n c)]; omega
    · rcases Classical.em (T n) with d | d
      · rw [cnt_no c, cnt_yes d]; omega
      · rw [cnt_no c, cnt_no d]; omega
theorem cnt_bd (S : Int → Prop) : ∀ n, 0 ≤ cnt S n ∧ cnt S n ≤ n
  | 0 => ⟨Int.le_refl _, Int.le_refl _⟩
  | n + 1 => by
    have k := cnt_bd S n
    rcases Classical.em (S n) with c | c
    · rw [cnt_yes c]; omega
    · rw [cnt_no c]; omega
theorem cnt_iv (a b : Int) (h0 : 0 ≤ a) (h1 : a ≤ b) : ∀ n : Nat, cnt (fun t => a ≤ t ∧ t < b) n = if (n : Int) ≤ a then 0 else if (n : Int) ≤ b then n - a else b - a
  | 0 => by rw [if_pos (by omega)]; rfl
  | n + 1 => by
    have k := cnt_iv a b h0 h1 n
    rcases Classical.em (a ≤ (n : Int) ∧ (n : Int) < b) with c | c
    · rw [cnt_yes (S := fun t => a ≤ t ∧ t < b) c, k, if_neg (show ¬ ((n + 1 : Nat) : Int) ≤ a by omega), if_pos (show ((n + 1 : Nat) : Int) ≤ b by omega)]
      split
      · omega
      · rw [if_pos (by omega)]; omega
    · rw [cnt_no (S := fun t => a ≤ t ∧ t < b) c, k]
      rcases Int.lt_or_le (n : Int) a with d | d
      · rw [if_pos (by omega), if_pos (by omega)]
      · rw [if_neg (show ¬ ((n + 1 : Nat) : Int) ≤ a by omega), if_neg (show ¬ ((n + 1 : Nat) : Int) ≤ b by omega)]
        split
        · omega
        · split <;> omega
theorem lenL_cnt : ∀ {m : List Iv}, plainL m → lenL m = cnt (cov m) 20000000
  | [], _ => by rw [cnt_zero (fun t => cov_nil t)]; rfl
  | p :: l, h => by
    obtain ⟨⟨o1, o2, o3⟩, hl, hq⟩ := plain_cons.1 h
    have e : ∀ t, cov (p :: l) t ↔ (p.1 ≤ t ∧ t < p.2) ∨ cov l t := fun t => by
      rw [cov_cons]
      unfold inIv
      constructor
      · rintro (c | c)
        · exact .inl ⟨c.2.2.1, c.2.2.2⟩
        · exact .inr c
      · rintro (c | c)
        · exact .inl ⟨o1, o3, c.1, c.2⟩
        · exact .inr c
    have k := cnt_or_and (fun t => p.1 ≤ t ∧ t < p.2) (cov l) 20000000
    rw [cnt_zero (S := fun t => (p.1 ≤ t ∧ t < p.2) ∧ cov l t) (fun t ⟨c1, q, c2, c3⟩ => by
      have := hq q c2
      have := c3.2.2.1
      omega), cnt_iv p.1 p.2 o1 (by omega), if_neg (by omega), ← cnt_congr e, ← lenL_cnt hl] at k
    rw [lenL]
    split at k <;> omega
theorem lenL_bd {m : List Iv} (h : plainL m) : 0 ≤ lenL m ∧ lenL m ≤ 20000000 := by
  rw [lenL_cnt h]
  exact cnt_bd _ 20000000
theorem len_sets {ma mb mo mc : List Iv} {S T : Int → Prop} (ha : isSet ma S) (hb : isSet mb T) (ho : isSet mo (fun t => S t ∨ T t)) (hc : isSet mc (fun t => S t ∧ T t)) : lenL ma + lenL mb = lenL mo + lenL mc ∧ lenL mc ≤ lenL ma := by
  rw [lenL_cnt ha.1, lenL_cnt hb.1, lenL_cnt ho.1, lenL_cnt hc.1, cnt_congr ha.2, cnt_congr hb.2, cnt_congr ho.2, cnt_congr hc.2]
  exact ⟨cnt_or_and S T _, cnt_mono (fun t h => h.1) _⟩
/-- The first k intervals are no longer than all. -/
theorem lenL_take {m : List Iv} (h : plainL m) (k : Nat) : 0 ≤ lenL (m.take k) ∧ lenL (m.take k) ≤ 20000000 :=
  lenL_bd ⟨fun p hp => h.1 p (List.mem_of_mem_take hp), h.2.sublist (List.take_sublist k m)⟩
end Go.Proofs.Ytlkindlbllbmgaa
