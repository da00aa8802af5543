/- The plain mathematics of Minus: the walk over two lists in Merge's form, and the reference's walk over the ends. -/
import Derived.Test.YtlkindlbllbmgaaSets
namespace Go.Proofs.Ytlkindlbllbmgaa

/-- Ahead of a's interval k: what has been laid out, and which of b's intervals (those before j) lie behind. -/
structure Outer (A B : List Iv) (k j : Nat) (out : List Iv) : Prop where
  plain : plainL out
  cv : ∀ t, cov out t ↔ cov (A.take k) t ∧ ¬ cov B t
  out : ∀ p, p ∈ A.drop k → ∀ q, q ∈ out → q.2 < p.1
  past : ∀ p, p ∈ A.drop k → ∀ t, p.1 ≤ t → (cov B t ↔ cov (B.drop j) t)
/-- Within a's interval v (number k), of which all times below f are done. -/
structure Inner (A B : List Iv) (k j : Nat) (v : Iv) (out : List Iv) (f : Int) : Prop where
  plain : plainL out
  cv : ∀ t, cov out t ↔ (cov (A.take k) t ∨ v.1 ≤ t ∧ t < f) ∧ ¬ cov B t
  lo : v.1 ≤ f
  hi : f ≤ v.2
  out : ∀ q, q ∈ out → q.2 < f
  past : ∀ t, f ≤ t → (cov B t ↔ cov (B.drop j) t)

section
variable {A B : List Iv} {k j : Nat} {v b : Iv} {out T : List Iv} {f : Int}

theorem Outer.start (A B : List Iv) : Outer A B 0 0 [] :=
  ⟨plain_nil, fun t => ⟨fun h => absurd h (cov_nil t), fun h => absurd h.1 (cov_nil t)⟩, fun _ _ _ h => absurd h List.not_mem_nil, fun _ _ _ _ => Iff.rfl⟩
theorem drop_at (hk : k < A.length) : A.drop k = A[k] :: A.drop (k + 1) := List.drop_eq_getElem_cons hk
theorem Outer.inner (h : Outer A B k j out) (hA : plainL A) (hk : k < A.length) : Inner A B k j A[k] out A[k].1 := by
  have hm : A[k] ∈ A.drop k := by rw [drop_at hk]; exact List.mem_cons_self
  refine ⟨h.plain, fun t => ?_, Int.le_refl _, Int.le_of_lt (hA.1 _ (List.getElem_mem hk)).2.1, h.out _ hm, h.past _ hm⟩
  rw [h.cv t]
  constructor
  · exact fun ⟨a, c⟩ => ⟨.inl a, c⟩
  · rintro ⟨a | a, c⟩
    · exact ⟨a, c⟩
    · omega
theorem after_k (hA : plainL A) (hk : k < A.length) {p : Iv} (hp : p ∈ A.drop (k + 1)) : A[k].2 < p.1 := by
  have h := hA.2.sublist (List.drop_sublist k A)
  rw [drop_at hk, List.pairwise_cons] at h
  exact h.1 p hp
theorem cov_take_succ (hA : plainL A) (hk : k < A.length) (t : Int) : cov (A.take (k + 1)) t ↔ cov (A.take k) t ∨ A[k].1 ≤ t ∧ t < A[k].2 := by
  rw [List.take_succ_eq_append_getElem hk, cov_snoc]
  obtain ⟨o1, o2, o3⟩ := hA.1 _ (List.getElem_mem hk)
  unfold inIv
  constructor
  · rintro (h | h)
    · exact .inl h
    · exact .inr ⟨h.2.2.1, h.2.2.2⟩
  · rintro (h | h)
    · exact .inl h
    · exact .inr ⟨o1, o3, h.1, h.2⟩
theorem outer_next (hA : plainL A) (hk : k < A.length) (hp : plainL out) (hc : ∀ t, cov out t ↔ (cov (A.take k) t ∨ A[k].1 ≤ t ∧ t < A[k].2) ∧ ¬ cov B t)
    (ho : ∀ q, q ∈ out → q.2 ≤ A[k].2) (hb : ∀ t, A[k].2 ≤ t → (cov B t ↔ cov (B.drop j) t)) : Outer A B (k + 1) j out :=
  ⟨hp, fun t => by rw [hc t, cov_take_succ hA hk], fun p hp' q hq => by have := after_k hA hk hp'; have := ho q hq; omega,
    fun p hp' t ht => hb t (by have := after_k hA hk hp'; omega)⟩

/-- b's next interval, of which T are the later ones. -/
theorem head_cov (hB : plainL B) (hj : B.drop j = b :: T) : okP b ∧ (∀ t, cov (b :: T) t ↔ b.1 ≤ t ∧ t < b.2 ∨ cov T t) ∧ (∀ t, cov T t → b.2 < t) ∧ B.drop (j + 1) = T := by
  have h : plainL (b :: T) := by
    rw [← hj]
    exact ⟨fun p hp => hB.1 p (List.mem_of_mem_drop hp), hB.2.sublist (List.drop_sublist j B)⟩
  obtain ⟨⟨o1, o2, o3⟩, hT, hq⟩ := plain_cons.1 h
  refine ⟨⟨o1, o2, o3⟩, fun t => ?_, fun t ⟨p, hp, hi⟩ => ?_, ?_⟩
  · rw [cov_cons]
    unfold inIv
    constructor
    · rintro (h | h)
      · exact .inl ⟨h.2.2.1, h.2.2.2⟩
      · exact .inr h
    · rintro (h | h)
      · exact .inl ⟨o1, o3, h.1, h.2⟩
      · exact .inr h
  · have := hq p hp
    have := hi.2.2.1
    omega
  · rw [← List.drop_drop, hj]; rfl

theorem Inner.cut (h : Inner A B k j v out f) (hB : plainL B) (hv : okP v) (hj : B.drop j = b :: T) (hb : b.1 < v.2) (hf : f < b.1) :
    (b.2 ≤ v.2 → Inner A B k (j + 1) v (out ++ [(f, b.1)]) b.2) ∧
    (v.2 < b.2 → plainL (out ++ [(f, b.1)]) ∧ (∀ t, cov (out ++ [(f, b.1)]) t ↔ (cov (A.take k) t ∨ v.1 ≤ t ∧ t < v.2) ∧ ¬ cov B t) ∧ (∀ q, q ∈ out ++ [(f, b.1)] → q.2 ≤ v.2)) := by
  obtain ⟨⟨b1, b2, b3⟩, hcb, hT, hd⟩ := head_cov hB hj
  obtain ⟨v1, v2, v3⟩ := hv
  have hlo := h.lo
  have hhi := h.hi
  have hpl : plainL (out ++ [(f, b.1)]) := plain_snoc h.plain ⟨by show 0 ≤ f; omega, hf, by show b.1 ≤ _; omega⟩ h.out
  have hin : ∀ t, inIv (f, b.1) t ↔ f ≤ t ∧ t < b.1 := fun t => by unfold inIv; simp only; omega
  have key : ∀ t g, (g = b.2 ∨ g = v.2) → g ≤ b.2 → g ≤ v.2 → b.1 < g → (cov (out ++ [(f, b.1)]) t ↔ (cov (A.take k) t ∨ v.1 ≤ t ∧ t < g) ∧ ¬ cov B t) := by
    intro t g _ g1 g2 g3
    rw [cov_snoc, h.cv t, hin]
    rcases Int.lt_or_le t f with c | c
    · constructor
      · rintro (⟨c1 | c1, c2⟩ | c1)
        · exact ⟨.inl c1, c2⟩
        · exact ⟨.inr ⟨c1.1, by omega⟩, c2⟩
        · omega
      · rintro ⟨c1 | c1, c2⟩
        · exact .inl ⟨.inl c1, c2⟩
        · exact .inl ⟨.inr ⟨c1.1, c⟩, c2⟩
    · rw [h.past t c, hj, hcb t]
      constructor
      · rintro (⟨c1 | c1, c2⟩ | c1)
        · exact ⟨.inl c1, c2⟩
        · omega
        · exact ⟨.inr ⟨by omega, by omega⟩, fun c2 => c2.elim (fun c2 => by omega) (fun c2 => by have := hT t c2; omega)⟩
      · rintro ⟨c1 | c1, c2⟩
        · exact .inl ⟨.inl c1, c2⟩
        · refine .inr ⟨c, ?_⟩
          rcases Int.lt_or_le t b.1 with d | d
          · exact d
          · exact absurd (.inl ⟨d, by omega⟩) c2
  refine ⟨fun hle => ⟨hpl, fun t => key t b.2 (.inl rfl) (Int.le_refl _) hle b2, by omega, hle, fun q hq => ?_, fun t ht => ?_⟩, fun hlt => ⟨hpl, fun t => key t v.2 (.inr rfl) (by omega) (Int.le_refl _) hb, fun q hq => ?_⟩⟩
  · rcases List.mem_append.1 hq with h' | h'
    · have := h.out q h'; omega
    · rw [List.mem_singleton] at h'; subst h'; exact b2
  · rw [h.past t (by omega), hj, hcb t, hd]
    exact ⟨fun c => c.elim (fun c => by omega) id, .inr⟩
  · rcases List.mem_append.1 hq with h' | h'
    · have := h.out q h'; omega
    · rw [List.mem_singleton] at h'; subst h'; exact Int.le_of_lt hb

theorem Inner.skip (h : Inner A B k j v out f) (hB : plainL B) (hj : B.drop j = b :: T) (hf : b.1 ≤ f) :
    (max f b.2 ≤ v.2 → Inner A B k (j + 1) v out (max f b.2)) ∧
    (v.2 < max f b.2 → (∀ t, cov out t ↔ (cov (A.take k) t ∨ v.1 ≤ t ∧ t < v.2) ∧ ¬ cov B t)) := by
  obtain ⟨⟨b1, b2, b3⟩, hcb, hT, hd⟩ := head_cov hB hj
  have hlo := h.lo
  have hhi := h.hi
  have hm : f ≤ max f b.2 ∧ b.2 ≤ max f b.2 ∧ (max f b.2 = f ∨ max f b.2 = b.2) := by omega
  generalize max f b.2 = g at *
  have key : ∀ t x, f ≤ x → (x ≤ f ∨ x ≤ b.2) → (cov out t ↔ (cov (A.take k) t ∨ v.1 ≤ t ∧ t < x) ∧ ¬ cov B t) := by
    intro t x x1 x2
    rw [h.cv t]
    rcases Int.lt_or_le t f with c | c
    · constructor
      · rintro ⟨c1 | c1, c2⟩
        · exact ⟨.inl c1, c2⟩
        · exact ⟨.inr ⟨c1.1, by omega⟩, c2⟩
      · rintro ⟨c1 | c1, c2⟩
        · exact ⟨.inl c1, c2⟩
        · exact ⟨.inr ⟨c1.1, c⟩, c2⟩
    · rw [h.past t c, hj, hcb t]
      constructor
      · rintro ⟨c1 | c1, c2⟩
        · exact ⟨.inl c1, c2⟩
        · omega
      · rintro ⟨c1 | c1, c2⟩
        · exact ⟨.inl c1, c2⟩
        · exact absurd (.inl ⟨by omega, by omega⟩) c2
  refine ⟨fun hle => ⟨h.plain, fun t => key t g (by omega) (by omega), by omega, hle, fun q hq => by have := h.out q hq; omega, fun t ht => ?_⟩, fun hlt t => key t v.2 hhi (by omega)⟩
  rw [h.past t (by omega), hj, hcb t, hd]
  exact ⟨fun c => c.elim (fun c => by omega) id, .inr⟩

/-- Nothing of b lies in the rest of v. -/
def restFree (B : List Iv) (j : Nat) (x : Int) : Prop := ∀ t, t < x → ¬ cov (B.drop j) t
theorem restFree_nil {x : Int} (h : B.length ≤ j) : restFree B j x := fun t _ => by rw [List.drop_eq_nil_of_le h]; exact cov_nil t
theorem restFree_cons {x : Int} (hB : plainL B) (hj : B.drop j = b :: T) (h : x ≤ b.1) : restFree B j x := fun t ht => by
  obtain ⟨⟨b1, b2, b3⟩, hcb, hT, hd⟩ := head_cov hB hj
  rw [hj, hcb t]
  rintro (c | c)
  · omega
  · have := hT t c; omega
theorem Inner.rest (h : Inner A B k j v out f) (hv : okP v) (hr : restFree B j v.2) (hf : f < v.2) :
    plainL (out ++ [(f, v.2)]) ∧ (∀ t, cov (out ++ [(f, v.2)]) t ↔ (cov (A.take k) t ∨ v.1 ≤ t ∧ t < v.2) ∧ ¬ cov B t) ∧ (∀ q, q ∈ out ++ [(f, v.2)] → q.2 ≤ v.2) := by
  obtain ⟨v1, v2, v3⟩ := hv
  have hlo := h.lo
  refine ⟨plain_snoc h.plain ⟨by show 0 ≤ f; omega, hf, v3⟩ h.out, fun t => ?_, fun q hq => ?_⟩
  · have hin : inIv (f, v.2) t ↔ f ≤ t ∧ t < v.2 := by unfold inIv; simp only; omega
    rw [cov_snoc, h.cv t, hin]
    constructor
    · rintro (⟨c1 | c1, c2⟩ | c1)
      · exact ⟨.inl c1, c2⟩
      · exact ⟨.inr ⟨c1.1, by omega⟩, c2⟩
      · exact ⟨.inr ⟨by omega, c1.2⟩, fun c2 => hr t c1.2 ((h.past t c1.1).1 c2)⟩
    · rintro ⟨c1 | c1, c2⟩
      · exact .inl ⟨.inl c1, c2⟩
      · rcases Int.lt_or_le t f with c | c
        · exact .inl ⟨.inr ⟨c1.1, c⟩, c2⟩
        · exact .inr ⟨c, c1.2⟩
  · rcases List.mem_append.1 hq with h' | h'
    · have := h.out q h'; omega
    · rw [List.mem_singleton] at h'; subst h'; exact Int.le_refl _
theorem Inner.full (h : Inner A B k j v out f) (hf : ¬ f < v.2) : ∀ t, cov out t ↔ (cov (A.take k) t ∨ v.1 ≤ t ∧ t < v.2) ∧ ¬ cov B t := fun t => by
  rw [h.cv t, show f = v.2 from Int.le_antisymm h.hi (Int.not_lt.1 hf)]
theorem Outer.done (h : Outer A B k j out) (hk : A.length ≤ k) : isSet out (fun t => cov A t ∧ ¬ cov B t) :=
  ⟨h.plain, fun t => by rw [h.cv t, List.take_of_length_le hk]⟩

/-- From within v to behind it: the four ways. -/
theorem Inner.next (hA : plainL A) (hk : k < A.length) (h : Inner A B k j A[k] out f) {o : List Iv} (hp : plainL o) (hc : ∀ t, cov o t ↔ (cov (A.take k) t ∨ A[k].1 ≤ t ∧ t < A[k].2) ∧ ¬ cov B t)
    (ho : ∀ q, q ∈ o → q.2 ≤ A[k].2) : Outer A B (k + 1) j o :=
  outer_next hA hk hp hc ho fun t ht => h.past t (by have := h.hi; omega)
end

/-! ### The reference -/
def valP (p : Iv) : Prop := 0 ≤ p.1 ∧ p.1 ≤ p.2 ∧ p.2 ≤ 20000000
def hasP (a b : List Iv) (t : Int) : Prop := cov a t ∧ ¬ cov b t
/-- E are the ends of the valid intervals of a and b. -/
structure Ends (a b : List Iv) (E : List Int) : Prop where
  mem : ∀ p, p ∈ a ∨ p ∈ b → valP p → p.1 ∈ E ∧ p.2 ∈ E
  bd : ∀ e, e ∈ E → 0 ≤ e ∧ e ≤ 20000000
/-- u is the least number of E that is greater than n. -/
def nextE (E : List Int) (n u : Int) : Prop := u ∈ E ∧ n < u ∧ ∀ e, e ∈ E → n < e → u ≤ e
def noE (E : List Int) (n : Int) : Prop := ∀ e, e ∈ E → e ≤ n
theorem nextE_unique {E : List Int} {n u v : Int} (h : nextE E n u) (k : nextE E n v) : u = v := by
  have := h.2.2 v k.1 k.2.1
  have := k.2.2 u h.1 h.2.1
  omega

section
variable {a b : List Iv} {E : List Int}
theorem val_of_in {p : Iv} {t : Int} (h : inIv p t) : valP p := by unfold inIv at h; unfold valP; omega
theorem cov_same (h : ∀ p, p ∈ a → valP p → p.1 ∈ E ∧ p.2 ∈ E) {t s : Int} (hts : t ≤ s) (hno : ∀ e, e ∈ E → ¬ (t < e ∧ e ≤ s)) : cov a t ↔ cov a s := by
  constructor
  · rintro ⟨p, hp, hi⟩
    obtain ⟨h1, h2⟩ := h p hp (val_of_in hi)
    have n2 := hno _ h2
    unfold inIv at hi
    exact ⟨p, hp, by unfold inIv; omega⟩
  · rintro ⟨p, hp, hi⟩
    obtain ⟨h1, h2⟩ := h p hp (val_of_in hi)
    have n1 := hno _ h1
    unfold inIv at hi
    exact ⟨p, hp, by unfold inIv; omega⟩
theorem has_same (h : Ends a b E) {t s : Int} (hts : t ≤ s) (hno : ∀ e, e ∈ E → ¬ (t < e ∧ e ≤ s)) : hasP a b t ↔ hasP a b s := by
  unfold hasP
  rw [cov_same (fun p hp => h.mem p (.inl hp)) hts hno, cov_same (fun p hp => h.mem p (.inr hp)) hts hno]
theorem has_bd {t : Int} (h : hasP a b t) : 0 ≤ t ∧ t < 20000000 := by
  obtain ⟨⟨p, _, hi⟩, _⟩ := h
  unfold inIv at hi
  omega
theorem has_low (h : Ends a b E) {t s : Int} (ht : nextE E (-1) t) (hs : s < t) : ¬ hasP a b s := by
  rintro ⟨⟨p, hp, hi⟩, _⟩
  obtain ⟨h1, _⟩ := h.mem p (.inl hp) (val_of_in hi)
  unfold inIv at hi
  have := ht.2.2 _ h1 (by omega)
  omega
theorem has_up (h : Ends a b E) {t : Int} (ht : hasP a b t) : ¬ noE E t := by
  obtain ⟨⟨p, hp, hi⟩, _⟩ := ht
  obtain ⟨_, h2⟩ := h.mem p (.inl hp) (val_of_in hi)
  unfold inIv at hi
  intro hn
  have := hn _ h2
  omega
theorem has_none (h : Ends a b E) (hn : noE E (-1)) (s : Int) : ¬ hasP a b s := by
  rintro ⟨⟨p, hp, hi⟩, _⟩
  obtain ⟨h1, _⟩ := h.mem p (.inl hp) (val_of_in hi)
  unfold inIv at hi
  have := hn _ h1
  omega

/-- Ahead of the end t: the times before t are laid out. -/
structure RInv (a b : List Iv) (E : List Int) (out : List Iv) (t : Int) : Prop where
  plain : plainL out
  cv : ∀ s, cov out s ↔ hasP a b s ∧ s < t
  mem : t ∈ E
  open_ : hasP a b (t - 1) → ∃ o q, out = o ++ [q] ∧ q.2 = t
  shut : ¬ hasP a b (t - 1) → ∀ q, q ∈ out → q.2 < t

theorem RInv.start (h : Ends a b E) {t : Int} (ht : nextE E (-1) t) : RInv a b E [] t :=
  ⟨plain_nil, fun s => ⟨fun k => absurd k (cov_nil s), fun k => absurd k.1 (has_low h ht k.2)⟩, ht.1, fun k => absurd k (has_low h ht (by omega)), fun _ _ k => absurd k List.not_mem_nil⟩

variable {out : List Iv} {t u : Int}
theorem RInv.le (h : RInv a b E out t) {q : Iv} (hq : q ∈ out) : q.2 ≤ t := by
  rcases Classical.em (hasP a b (t - 1)) with c | c
  · obtain ⟨o, r, rfl, hr⟩ := h.open_ c
    rcases List.mem_append.1 hq with h' | h'
    · have := (plain_of_snoc h.plain).2.2 q h'
      have := (plain_of_snoc h.plain).2.1
      unfold okP at this
      omega
    · rw [List.mem_singleton] at h'; subst h'; omega
  · exact Int.le_of_lt (h.shut c q hq)
theorem between (h : Ends a b E) (hu : nextE E t u) {s : Int} (h1 : t ≤ s) (h2 : s < u) : hasP a b s ↔ hasP a b t :=
  (has_same h h1 fun e he hh => by have := hu.2.2 e he hh.1; omega).symm

/-- A new interval is opened at t. -/
theorem RInv.opened (h : RInv a b E out t) (hE : Ends a b E) (hu : nextE E t u) (ht : hasP a b t) (hb : ¬ hasP a b (t - 1)) : RInv a b E (out ++ [(t, u)]) u := by
  have b1 := hE.bd t h.mem
  have b2 := hE.bd u hu.1
  have b3 := hu.2.1
  refine ⟨plain_snoc h.plain ⟨b1.1, b3, b2.2⟩ (h.shut hb), fun s => ?_, hu.1, fun _ => ⟨out, _, rfl, rfl⟩, fun c => absurd ((between hE hu (by omega) (by omega)).2 ht) c⟩
  rw [cov_snoc, h.cv s]
  have hin : inIv (t, u) s ↔ t ≤ s ∧ s < u := by unfold inIv; simp only; omega
  rw [hin]
  constructor
  · rintro (c | c)
    · exact ⟨c.1, by omega⟩
    · exact ⟨(between hE hu c.1 c.2).2 ht, c.2⟩
  · rintro ⟨c1, c2⟩
    rcases Int.lt_or_le s t with d | d
    · exact .inl ⟨c1, d⟩
    · exact .inr ⟨d, c2⟩
/-- The last interval goes on. -/
theorem RInv.longer {o : List Iv} {q : Iv} (h : RInv a b E (o ++ [q]) t) (hq : q.2 = t) (hE : Ends a b E) (hu : nextE E t u) (ht : hasP a b t) : RInv a b E (o ++ [(q.1, u)]) u := by
  have b2 := hE.bd u hu.1
  have b3 := hu.2.1
  obtain ⟨p1, ⟨p2, p3, p4⟩, p5⟩ := plain_of_snoc h.plain
  refine ⟨plain_snoc p1 ⟨p2, by show q.1 < u; omega, b2.2⟩ p5, fun s => ?_, hu.1, fun _ => ⟨o, _, rfl, rfl⟩, fun c => absurd ((between hE hu (by omega) (by omega)).2 ht) c⟩
  have k := h.cv s
  rw [cov_snoc] at k ⊢
  have hin : inIv (q.1, u) s ↔ inIv q s ∨ (t ≤ s ∧ s < u) := by unfold inIv; simp only; omega
  rw [hin, ← or_assoc, k]
  constructor
  · rintro (c | c)
    · exact ⟨c.1, by omega⟩
    · exact ⟨(between hE hu c.1 c.2).2 ht, c.2⟩
  · rintro ⟨c1, c2⟩
    rcases Int.lt_or_le s t with d | d
    · exact .inl ⟨c1, d⟩
    · exact .inr ⟨d, c2⟩
theorem RInv.passed (h : RInv a b E out t) (hE : Ends a b E) (hu : nextE E t u) (ht : ¬ hasP a b t) : RInv a b E out u := by
  have b3 := hu.2.1
  refine ⟨h.plain, fun s => ?_, hu.1, fun c => absurd ((between hE hu (by omega) (by omega)).1 c) ht, fun _ q hq => by have := h.le hq; omega⟩
  rw [h.cv s]
  constructor
  · exact fun c => ⟨c.1, by omega⟩
  · rintro ⟨c1, c2⟩
    rcases Int.lt_or_le s t with d | d
    · exact ⟨c1, d⟩
    · exact absurd ((between hE hu d c2).1 c1) ht
theorem RInv.done (h : RInv a b E out t) (hE : Ends a b E) (hn : noE E t) (ht : ¬ hasP a b t) : isSet out (hasP a b) :=
  ⟨h.plain, fun s => by
    rw [h.cv s]
    refine ⟨fun c => c.1, fun c => ⟨c, ?_⟩⟩
    rcases Int.lt_or_le s t with d | d
    · exact d
    · exact absurd ((has_same hE d fun e he hh => by have := hn e he; omega).2 c) ht⟩
theorem none_set (h : Ends a b E) (hn : noE E (-1)) : isSet [] (hasP a b) := ⟨plain_nil, fun s => ⟨fun k => absurd k (cov_nil s), fun k => absurd k (has_none h hn s)⟩⟩
end
end Go.Proofs.Ytlkindlbllbmgaa
