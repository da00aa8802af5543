/- Sets of times as lists of intervals: the plain mathematics: the form in which no two intervals touch is unique. -/
import Derived.WalkKit
namespace Go.Proofs.Ytlkindlbllbmgaa

abbrev Iv := Int × Int
def inIv (p : Iv) (t : Int) : Prop := 0 ≤ p.1 ∧ p.2 ≤ 20000000 ∧ p.1 ≤ t ∧ t < p.2
def cov (l : List Iv) (t : Int) : Prop := ∃ p, p ∈ l ∧ inIv p t
def okP (p : Iv) : Prop := 0 ≤ p.1 ∧ p.1 < p.2 ∧ p.2 ≤ 20000000
def plainL (l : List Iv) : Prop := (∀ p, p ∈ l → okP p) ∧ l.Pairwise (fun p q => p.2 < q.1)
/-- m is the set S in the form of Merge. -/
def isSet (m : List Iv) (S : Int → Prop) : Prop := plainL m ∧ ∀ t, cov m t ↔ S t

theorem cov_nil (t : Int) : ¬ cov [] t := fun ⟨_, h, _⟩ => absurd h List.not_mem_nil
theorem cov_cons {p : Iv} {l : List Iv} {t : Int} : cov (p :: l) t ↔ inIv p t ∨ cov l t := by
  constructor
  · rintro ⟨q, hq, hi⟩
    rcases List.mem_cons.1 hq with rfl | h
    · exact .inl hi
    · exact .inr ⟨q, h, hi⟩
  · rintro (h | ⟨q, hq, hi⟩)
    · exact ⟨p, List.mem_cons_self, h⟩
    · exact ⟨q, List.mem_cons_of_mem _ hq, hi⟩
theorem cov_append {l m : List Iv} {t : Int} : cov (l ++ m) t ↔ cov l t ∨ cov m t := by
  constructor
  · rintro ⟨q, hq, hi⟩
    rcases List.mem_append.1 hq with h | h
    · exact .inl ⟨q, h, hi⟩
    · exact .inr ⟨q, h, hi⟩
  · rintro (⟨q, hq, hi⟩ | ⟨q, hq, hi⟩)
    · exact ⟨q, List.mem_append_left _ hq, hi⟩
    · exact ⟨q, List.mem_append_right _ hq, hi⟩
theorem cov_one {p : Iv} {t : Int} : cov [p] t ↔ inIv p t := by rw [cov_cons]; exact ⟨fun h => h.elim id fun h => absurd h (cov_nil t), .inl⟩
theorem cov_snoc {p : Iv} {l : List Iv} {t : Int} : cov (l ++ [p]) t ↔ cov l t ∨ inIv p t := by rw [cov_append, cov_one]

theorem plain_nil : plainL [] := ⟨fun _ h => absurd h List.not_mem_nil, List.Pairwise.nil⟩
theorem plain_cons {p : Iv} {l : List Iv} : plainL (p :: l) ↔ okP p ∧ plainL l ∧ ∀ q, q ∈ l → p.2 < q.1 := by
  unfold plainL
  rw [List.pairwise_cons]
  constructor
  · rintro ⟨h1, h2, h3⟩
    exact ⟨h1 p List.mem_cons_self, ⟨fun q hq => h1 q (List.mem_cons_of_mem _ hq), h3⟩, h2⟩
  · rintro ⟨h1, ⟨h2, h3⟩, h4⟩
    refine ⟨fun q hq => ?_, h4, h3⟩
    rcases List.mem_cons.1 hq with rfl | h
    · exact h1
    · exact h2 q h
theorem plain_snoc {p : Iv} {l : List Iv} (h : plainL l) (hp : okP p) (hl : ∀ q, q ∈ l → q.2 < p.1) : plainL (l ++ [p]) := by
  refine ⟨fun q hq => ?_, ?_⟩
  · rcases List.mem_append.1 hq with h' | h'
    · exact h.1 q h'
    · rw [List.mem_singleton] at h'; subst h'; exact hp
  · rw [List.pairwise_append]
    refine ⟨h.2, List.pairwise_singleton _ _, fun a ha b hb => ?_⟩
    rw [List.mem_singleton] at hb; subst hb; exact hl a ha
theorem plain_of_snoc {p : Iv} {l : List Iv} (h : plainL (l ++ [p])) : plainL l ∧ okP p ∧ ∀ q, q ∈ l → q.2 < p.1 := by
  obtain ⟨h1, h2⟩ := h
  rw [List.pairwise_append] at h2
  exact ⟨⟨fun q hq => h1 q (List.mem_append_left _ hq), h2.1⟩, h1 p (by simp), fun q hq => h2.2.2 q hq p (by simp)⟩

theorem plain_low : ∀ {l : List Iv} {b : Int}, plainL l → (∀ p, p ∈ l → b ≤ p.1) → b ≤ 20000000 → (l.length : Int) ≤ 20000000 - b
  | [], b, _, _, h => by simp; omega
  | p :: l, b, h, hb, _ => by
    obtain ⟨⟨o1, o2, o3⟩, hl, hq⟩ := plain_cons.1 h
    have hb1 := hb p List.mem_cons_self
    have := plain_low (b := p.2) hl (fun q hq' => by have := hq q hq'; omega) o3
    simp only [List.length_cons, Int.natCast_add, Int.natCast_one]
    omega
theorem plain_len {l : List Iv} (h : plainL l) : l.length ≤ 20000000 := by
  have := plain_low (b := 0) h (fun p hp => (h.1 p hp).1) (by omega)
  omega

theorem plain_head {p : Iv} {l : List Iv} (h : plainL (p :: l)) {t : Int} (ht : cov (p :: l) t) : p.1 ≤ t := by
  obtain ⟨⟨_, o2, _⟩, _, hq⟩ := plain_cons.1 h
  rcases cov_cons.1 ht with h1 | ⟨q, hq', h1⟩
  · exact h1.2.2.1
  · have := hq q hq'
    have := h1.2.2.1
    omega
theorem cov_first {p : Iv} {l : List Iv} (h : plainL (p :: l)) : cov (p :: l) p.1 := by
  obtain ⟨⟨o1, o2, o3⟩, _, _⟩ := plain_cons.1 h
  exact cov_cons.2 (.inl ⟨o1, o3, Int.le_refl _, o2⟩)
theorem plain_end {p : Iv} {l : List Iv} (h : plainL (p :: l)) : ¬ cov (p :: l) p.2 := by
  obtain ⟨_, _, hq⟩ := plain_cons.1 h
  intro ht
  rcases cov_cons.1 ht with h1 | ⟨q, hq', h1⟩
  · have := h1.2.2.2; omega
  · have := hq q hq'
    have := h1.2.2.1
    omega

theorem plain_unique : ∀ {l m : List Iv}, plainL l → plainL m → (∀ t, cov l t ↔ cov m t) → l = m
  | [], [], _, _, _ => rfl
  | [], q :: m, _, hm, h => absurd ((h q.1).2 (cov_first hm)) (cov_nil _)
  | p :: l, [], hl, _, h => absurd ((h p.1).1 (cov_first hl)) (cov_nil _)
  | p :: l, q :: m, hl, hm, h => by
    have a1 := plain_head hm ((h p.1).1 (cov_first hl))
    have a2 := plain_head hl ((h q.1).2 (cov_first hm))
    obtain ⟨⟨o1, o2, o3⟩, hl', hlq⟩ := plain_cons.1 hl
    obtain ⟨⟨r1, r2, r3⟩, hm', hmq⟩ := plain_cons.1 hm
    have e1 : p.1 = q.1 := by omega
    have b1 : q.2 ≤ p.2 := by
      rcases Int.lt_or_le p.2 q.2 with hlt | hle
      · exact absurd ((h p.2).2 (cov_cons.2 (.inl ⟨r1, r3, by omega, hlt⟩))) (plain_end hl)
      · exact hle
    have b2 : p.2 ≤ q.2 := by
      rcases Int.lt_or_le q.2 p.2 with hlt | hle
      · exact absurd ((h q.2).1 (cov_cons.2 (.inl ⟨o1, o3, by omega, hlt⟩))) (plain_end hm)
      · exact hle
    have e : p = q := Prod.ext e1 (by omega)
    subst e
    have hrest : l = m := plain_unique hl' hm' fun t => by
      constructor
      · intro ht
        rcases cov_cons.1 ((h t).1 (cov_cons.2 (.inr ht))) with h1 | h1
        · obtain ⟨q', hq', h2⟩ := ht
          have := hlq q' hq'
          have := h2.2.2.1
          have := h1.2.2.2
          omega
        · exact h1
      · intro ht
        rcases cov_cons.1 ((h t).2 (cov_cons.2 (.inr ht))) with h1 | h1
        · obtain ⟨q', hq', h2⟩ := ht
          have := hmq q' hq'
          have := h2.2.2.1
          have := h1.2.2.2
          omega
        · exact h1
    rw [hrest]
theorem isSet_unique {m n : List Iv} {S : Int → Prop} (h1 : isSet m S) (h2 : isSet n S) : m = n :=
  plain_unique h1.1 h2.1 fun t => (h1.2 t).trans (h2.2 t).symm
theorem isSet_congr {m : List Iv} {S T : Int → Prop} (h : isSet m S) (e : ∀ t, S t ↔ T t) : isSet m T := ⟨h.1, fun t => (h.2 t).trans (e t)⟩
theorem isSet_self {m : List Iv} (h : plainL m) : isSet m (cov m) := ⟨h, fun _ => Iff.rfl⟩
theorem isSet_empty {m : List Iv} {S : Int → Prop} (h : isSet m S) (hS : ∀ t, ¬ S t) : m = [] :=
  isSet_unique h ⟨plain_nil, fun t => ⟨fun k => absurd k (cov_nil t), fun k => absurd k (hS t)⟩⟩

/-! ### Sorted by From, merged -/
/-- One step: the next interval is joined to the last one where they touch. -/
def mstep (m : List Iv) (v : Iv) : List Iv :=
  match m.getLast? with
  | some q => if v.1 ≤ q.2 then m.dropLast ++ [(q.1, max q.2 v.2)] else m ++ [v]
  | none => [v]
def merge (s : List Iv) : List Iv := s.foldl mstep []
theorem mstep_nil (v : Iv) : mstep [] v = [v] := rfl
theorem mstep_join {m : List Iv} {q v : Iv} (h : v.1 ≤ q.2) : mstep (m ++ [q]) v = m ++ [(q.1, max q.2 v.2)] := by
  simp [mstep, h]
theorem mstep_new {m : List Iv} {q v : Iv} (h : ¬ v.1 ≤ q.2) : mstep (m ++ [q]) v = m ++ [q] ++ [v] := by
  simp [mstep, h]
theorem merge_snoc (s : List Iv) (v : Iv) : merge (s ++ [v]) = mstep (merge s) v := by simp [merge, List.foldl_append]

/-- What holds of the merged intervals of a list sorted by From, below x. -/
structure MInv (s m : List Iv) (x : Int) : Prop where
  plain : plainL m
  cov : ∀ t, cov m t ↔ cov s t
  low : ∀ q, q ∈ m → q.1 ≤ x

theorem MInv.step {s m : List Iv} {x : Int} {v : Iv} (h : MInv s m x) (hv : okP v) (hx : x ≤ v.1) : MInv (s ++ [v]) (mstep m v) v.1 := by
  obtain ⟨v1, v2, v3⟩ := hv
  rcases List.eq_nil_or_concat m with rfl | ⟨m', q, rfl⟩
  · rw [mstep_nil]
    refine ⟨plain_cons.2 ⟨⟨v1, v2, v3⟩, plain_nil, fun _ h => by cases h⟩, fun t => ?_, fun q hq => ?_⟩
    · rw [cov_snoc, cov_one, ← h.cov t]
      exact ⟨.inr, fun k => k.elim (fun k => absurd k (cov_nil t)) id⟩
    · rw [List.mem_singleton] at hq; subst hq; exact Int.le_refl _
  · rw [List.concat_eq_append] at h ⊢
    obtain ⟨hp, ⟨q1, q2, q3⟩, hq⟩ := plain_of_snoc h.plain
    have hqx := h.low q (by simp)
    by_cases hj : v.1 ≤ q.2
    · rw [mstep_join hj]
      have hmax : q.2 ≤ max q.2 v.2 ∧ v.2 ≤ max q.2 v.2 ∧ (max q.2 v.2 = q.2 ∨ max q.2 v.2 = v.2) := by omega
      refine ⟨plain_snoc hp ⟨q1, by show q.1 < max q.2 v.2; omega, by show max q.2 v.2 ≤ _; omega⟩ hq, fun t => ?_, fun r hr => ?_⟩
      · rw [cov_snoc, cov_snoc, ← h.cov t, cov_snoc]
        have e : inIv (q.1, max q.2 v.2) t ↔ inIv q t ∨ inIv v t := by
          unfold inIv
          simp only
          omega
        rw [e, or_assoc]
      · rcases List.mem_append.1 hr with h' | h'
        · have := h.low r (List.mem_append_left _ h'); omega
        · rw [List.mem_singleton] at h'; subst h'; show q.1 ≤ v.1; omega
    · rw [mstep_new hj]
      refine ⟨plain_snoc h.plain ⟨v1, v2, v3⟩ (fun r hr => ?_), fun t => ?_, fun r hr => ?_⟩
      · rcases List.mem_append.1 hr with h' | h'
        · have := hq r h'; omega
        · rw [List.mem_singleton] at h'; subst h'; omega
      · rw [cov_snoc, cov_snoc (l := s), ← h.cov t]
      · rcases List.mem_append.1 hr with h' | h'
        · have := h.low r h'; omega
        · rw [List.mem_singleton] at h'; subst h'; exact Int.le_refl _

theorem merge_inv : ∀ (n : Nat) (s : List Iv), s.length = n → (∀ p, p ∈ s → okP p) → s.Pairwise (fun p q => p.1 ≤ q.1) → ∀ x, (∀ p, p ∈ s → p.1 ≤ x) → MInv s (merge s) x
  | 0, s, hn, _, _, x, _ => by
    obtain rfl : s = [] := List.length_eq_zero_iff.1 hn
    exact ⟨plain_nil, fun t => Iff.rfl, fun q h => by cases h⟩
  | n + 1, s, hn, hok, hs, x, hx => by
    rcases List.eq_nil_or_concat s with rfl | ⟨s', v, rfl⟩
    · simp at hn
    · rw [List.concat_eq_append] at *
      rw [List.pairwise_append] at hs
      rw [merge_snoc]
      have h := merge_inv n s' (by simpa using hn) (fun p hp => hok p (List.mem_append_left _ hp)) hs.1 v.1 (fun p hp => hs.2.2 p hp v (by simp))
      have k := h.step (hok v (by simp)) (Int.le_refl _)
      exact ⟨k.plain, k.cov, fun q hq => Int.le_trans (k.low q hq) (hx v (by simp))⟩

theorem merge_isSet {s : List Iv} (hok : ∀ p, p ∈ s → okP p) (hs : s.Pairwise (fun p q => p.1 ≤ q.1)) : isSet (merge s) (cov s) := by
  have hb : ∀ p, p ∈ s → p.1 ≤ 20000000 := fun p hp => by have := hok p hp; unfold okP at this; omega
  have h := merge_inv _ s rfl hok hs 20000000 hb
  exact ⟨h.plain, h.cov⟩
theorem merge_len : ∀ (n : Nat) (s : List Iv), s.length = n → (merge s).length ≤ n
  | 0, s, hn => by
    obtain rfl : s = [] := List.length_eq_zero_iff.1 hn
    exact Nat.le_refl _
  | n + 1, s, hn => by
    rcases List.eq_nil_or_concat s with rfl | ⟨s', v, rfl⟩
    · simp at hn
    · rw [List.concat_eq_append, merge_snoc]
      have h := merge_len n s' (by simpa using hn)
      rcases List.eq_nil_or_concat (merge s') with e | ⟨m', q, e⟩
      · rw [e, mstep_nil]; simp
      · rw [List.concat_eq_append] at e
        rw [e] at h ⊢
        simp only [List.length_append, List.length_cons, List.length_nil] at h
        by_cases hj : v.1 ≤ q.2
        · rw [mstep_join hj]; simp; omega
        · rw [mstep_new hj]; simp; omega

/-- What 'sorted' keeps. -/
def keepB (p : Iv) : Bool := decide (0 ≤ p.1 ∧ p.1 < p.2 ∧ p.2 ≤ 20000000)
theorem keepB_true {p : Iv} : keepB p = true ↔ okP p := by unfold keepB okP; rw [decide_eq_true_eq]
theorem cov_keep (l : List Iv) (t : Int) : cov (l.filter keepB) t ↔ cov l t := by
  constructor
  · rintro ⟨p, hp, hi⟩
    exact ⟨p, (List.mem_filter.1 hp).1, hi⟩
  · rintro ⟨p, hp, hi⟩
    refine ⟨p, List.mem_filter.2 ⟨hp, keepB_true.2 ?_⟩, hi⟩
    unfold inIv at hi
    unfold okP
    omega
theorem cov_perm {l m : List Iv} (h : l.Perm m) (t : Int) : cov l t ↔ cov m t :=
  ⟨fun ⟨p, hp, hi⟩ => ⟨p, h.mem_iff.1 hp, hi⟩, fun ⟨p, hp, hi⟩ => ⟨p, h.mem_iff.2 hp, hi⟩⟩
theorem merged {l s : List Iv} (h : s.Perm (l.filter keepB)) (hs : s.Pairwise (fun p q => p.1 ≤ q.1)) : isSet (merge s) (cov l) :=
  isSet_congr (merge_isSet (fun _ hp => keepB_true.1 (List.mem_filter.1 (h.mem_iff.1 hp)).2) hs) fun t => (cov_perm h t).trans (cov_keep l t)
end Go.Proofs.Ytlkindlbllbmgaa
