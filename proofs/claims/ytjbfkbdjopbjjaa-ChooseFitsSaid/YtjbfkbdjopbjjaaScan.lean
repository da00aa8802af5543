/- All choices, one after another; a choice of the items without one of them. Plain mathematics. -/
import Derived.Test.YtjbfkbdjopbjjaaChoice
namespace Go.Proofs.Ytjbfkbdjopbjjaa

/-! ### The choice that a number's bits name -/
def bitsL (i : Nat) (n : Nat) : List Int := if n = 0 then [] else if n % 2 = 1 then (i : Int) :: bitsL (i + 1) (n / 2) else bitsL (i + 1) (n / 2)
termination_by n
decreasing_by all_goals omega
theorem bits_zero (i : Nat) : bitsL i 0 = [] := by rw [bitsL, if_pos rfl]
theorem bits_odd {i n : Nat} (h : n % 2 = 1) : bitsL i n = (i : Int) :: bitsL (i + 1) (n / 2) := by rw [bitsL, if_neg (by omega), if_pos h]
theorem bits_even {i n : Nat} (h : n % 2 = 0) : bitsL i n = bitsL (i + 1) (n / 2) := by
  by_cases h0 : n = 0
  · subst h0; rw [bits_zero, Nat.zero_div, bits_zero]
  · rw [bitsL, if_neg h0, if_neg (by omega)]
theorem bits_in : ∀ (m : Nat) {n i : Nat}, n < 2 ^ m → (bitsL i n).Pairwise (· < ·) ∧ ∀ x ∈ bitsL i n, (i : Int) ≤ x ∧ x < (i : Int) + m
  | 0, n, i, h => by
    have : n = 0 := by simpa using h
    subst this
    rw [bits_zero]
    exact ⟨.nil, fun x h => by cases h⟩
  | m + 1, n, i, h => by
    obtain ⟨h1, h2⟩ := bits_in m (n := n / 2) (i := i + 1) (by rw [Nat.pow_succ] at h; omega)
    by_cases hn : n % 2 = 1
    · rw [bits_odd hn]
      refine ⟨List.pairwise_cons.2 ⟨fun y hy => by have := h2 y hy; omega, h1⟩, fun x hx => ?_⟩
      rcases List.mem_cons.1 hx with rfl | hx
      · omega
      · have := h2 x hx; omega
    · rw [bits_even (by omega)]
      exact ⟨h1, fun x hx => by have := h2 x hx; omega⟩
theorem bits_all : ∀ (m : Nat) {i : Nat} {c : List Int}, c.Pairwise (· < ·) → (∀ x ∈ c, (i : Int) ≤ x ∧ x < (i : Int) + m) → ∃ n, n < 2 ^ m ∧ bitsL i n = c
  | 0, i, c, _, hb => by
    cases c with
    | nil => exact ⟨0, by simp, bits_zero i⟩
    | cons y d => have := hb y (List.mem_cons_self ..); omega
  | m + 1, i, c, hp, hb => by
    cases c with
    | nil => exact ⟨0, Nat.two_pow_pos _, bits_zero i⟩
    | cons y d =>
      have hp' := List.pairwise_cons.1 hp
      have hy := hb y (List.mem_cons_self ..)
      by_cases hyi : y = i
      · obtain ⟨n, h1, h2⟩ := bits_all m (i := i + 1) (c := d) hp'.2 (fun x hx => by have := hp'.1 x hx; have := hb x (List.mem_cons_of_mem _ hx); omega)
        refine ⟨2 * n + 1, by rw [Nat.pow_succ]; omega, ?_⟩
        rw [bits_odd (by omega), show (2 * n + 1) / 2 = n by omega, h2, hyi]
      · obtain ⟨n, h1, h2⟩ := bits_all m (i := i + 1) (c := y :: d) hp (fun x hx => by
          have := hb x hx
          rcases List.mem_cons.1 hx with rfl | hx
          · omega
          · have := hp'.1 x hx; omega)
        refine ⟨2 * n, by rw [Nat.pow_succ]; omega, ?_⟩
        rw [bits_even (by omega), show 2 * n / 2 = n by omega, h2]
theorem bits_ch {m n : Nat} (h : n < 2 ^ m) : Ch m (bitsL 0 n) := by
  obtain ⟨h1, h2⟩ := bits_in m (n := n) (i := 0) h
  exact ⟨h1, fun x hx => by have := h2 x hx; omega⟩
theorem ch_bits {m : Nat} {c : List Int} (h : Ch m c) : ∃ n, n < 2 ^ m ∧ bitsL 0 n = c := bits_all m h.1 (fun x hx => by have := h.2 x hx; omega)
/-! ### The scan of all choices -/
structure Scan (l : List It) (a b : Int) (N : Nat) (found : Bool) (best : List Int) (most : Int) : Prop where
  no : found = false → best = [] ∧ ∀ n, n < N → ¬ Fit l (bitsL 0 n) a b
  yes : found = true → Fit l best a b ∧ most = sK (iV l) best ∧ ∀ n, n < N → Fit l (bitsL 0 n) a b → sK (iV l) (bitsL 0 n) ≤ most ∧ (sK (iV l) (bitsL 0 n) = most → lessL (bitsL 0 n) best = false)
section
variable {l : List It} {a b most : Int} {N : Nat} {found : Bool} {best : List Int}
theorem scan_zero (l : List It) (a b m : Int) : Scan l a b 0 false [] m := ⟨fun _ => ⟨rfl, fun n h => by omega⟩, fun h => by cases h⟩
theorem scan_skip (h : Scan l a b N found best most) (hf : ¬ Fit l (bitsL 0 N) a b) : Scan l a b (N + 1) found best most := by
  refine ⟨fun e => ⟨(h.no e).1, fun n hn => ?_⟩, fun e => ⟨(h.yes e).1, (h.yes e).2.1, fun n hn hfn => ?_⟩⟩
  · by_cases hnN : n = N
    · subst hnN; exact hf
    · exact (h.no e).2 n (by omega)
  · by_cases hnN : n = N
    · subst hnN; exact absurd hfn hf
    · exact (h.yes e).2.2 n (by omega) hfn
theorem scan_take (h : Scan l a b N found best most) (hf : Fit l (bitsL 0 N) a b) (hw : found = false ∨ most < sK (iV l) (bitsL 0 N) ∨ (sK (iV l) (bitsL 0 N) = most ∧ lessL (bitsL 0 N) best = true)) : Scan l a b (N + 1) true (bitsL 0 N) (sK (iV l) (bitsL 0 N)) := by
  refine ⟨fun e => (by cases e), fun _ => ⟨hf, rfl, fun n hn hfn => ?_⟩⟩
  by_cases hnN : n = N
  · subst hnN; exact ⟨Int.le_refl _, fun _ => less_self _⟩
  · cases hfo : found with
    | false => exact absurd hfn ((h.no hfo).2 n (by omega))
    | true =>
      obtain ⟨h1, h2⟩ := (h.yes hfo).2.2 n (by omega) hfn
      rcases hw with hw | hw | ⟨hw, hl⟩
      · rw [hfo] at hw; cases hw
      · exact ⟨by omega, fun e => by omega⟩
      · exact ⟨by omega, fun e => less_keep (h2 (by omega)) hl⟩
theorem scan_keep (h : Scan l a b N true best most) (hw : sK (iV l) (bitsL 0 N) < most ∨ (sK (iV l) (bitsL 0 N) = most ∧ lessL (bitsL 0 N) best = false)) : Scan l a b (N + 1) true best most := by
  refine ⟨fun e => (by cases e), fun e => ⟨(h.yes e).1, (h.yes e).2.1, fun n hn hfn => ?_⟩⟩
  by_cases hnN : n = N
  · subst hnN
    rcases hw with hw | ⟨hw, hl⟩
    · exact ⟨by omega, fun e => by omega⟩
    · exact ⟨by omega, fun _ => hl⟩
  · exact (h.yes e).2.2 n (by omega) hfn
theorem scan_end (h : Scan l a b (2 ^ l.length) found best most) : Bst l a b best := by
  cases found with
  | false =>
    obtain ⟨h1, h2⟩ := h.no rfl
    have hn : ∀ c, ¬ Fit l c a b := fun c hc => by
      obtain ⟨n, hn, rfl⟩ := ch_bits hc.1
      exact h2 n hn hc
    exact ⟨fun _ => h1, fun ⟨c, hc⟩ => absurd hc (hn c), fun c hc => absurd hc (hn c)⟩
  | true =>
    obtain ⟨h1, h2, h3⟩ := h.yes rfl
    refine ⟨fun hn => absurd h1 (hn _), fun _ => h1, fun c hc => ?_⟩
    obtain ⟨n, hn, rfl⟩ := ch_bits hc.1
    rw [← h2]
    exact h3 n hn hc
end
/-! ### Without one of the items -/
def upI (k : Nat) (x : Int) : Int := if (k : Int) ≤ x then x + 1 else x
def downI (k : Nat) (x : Int) : Int := if (k : Int) < x then x - 1 else x
theorem upI_lt {k : Nat} (x y : Int) (h : x < y) : upI k x < upI k y := by unfold upI; split <;> split <;> omega
theorem up_down {k : Nat} {x : Int} (h : x ≠ k) : upI k (downI k x) = x := by unfold upI downI; split <;> split <;> omega
theorem map_up_down {k : Nat} {c : List Int} (h : (k : Int) ∉ c) : (c.map (downI k)).map (upI k) = c := by
  rw [List.map_map]
  conv => rhs; rw [← List.map_id c]
  refine List.map_congr_left fun x hx => ?_
  exact up_down (fun e => h (e ▸ hx))
def drop1 (l : List It) (k : Nat) : List It := l.take k ++ l.drop (k + 1)
theorem drop1_len {l : List It} {k : Nat} (h : k < l.length) : (drop1 l k).length + 1 = l.length := by unfold drop1; rw [List.length_append, List.length_take, List.length_drop]; omega
theorem drop1_at {l : List It} {k i : Nat} (h : k < l.length) : (drop1 l k)[i]? = if i < k then l[i]? else l[i + 1]? := by
  unfold drop1
  by_cases hik : i < k
  · rw [if_pos hik, List.getElem?_append_left (by rw [List.length_take]; omega), List.getElem?_take, if_pos hik]
  · rw [if_neg hik, List.getElem?_append_right (by rw [List.length_take]; omega), List.getElem?_drop, List.length_take]
    congr 1
    omega
theorem drop1_sums {l : List It} {k : Nat} (h : k < l.length) {x : Int} (hx : 0 ≤ x) : iA l (upI k x).toNat = iA (drop1 l k) x.toNat ∧ iB l (upI k x).toNat = iB (drop1 l k) x.toNat ∧ iV l (upI k x).toNat = iV (drop1 l k) x.toNat := by
  have e : l[(upI k x).toNat]? = (drop1 l k)[x.toNat]? := by
    rw [drop1_at h]
    unfold upI
    by_cases hk : (k : Int) ≤ x
    · rw [if_pos hk, if_neg (by omega)]; congr 1; omega
    · rw [if_neg hk, if_pos (by omega)]
  unfold iA iB iV
  rw [e]
  exact ⟨rfl, rfl, rfl⟩
theorem ch_up {l : List It} {k : Nat} (h : k < l.length) {d : List Int} : Ch l.length (d.map (upI k)) ↔ Ch (drop1 l k).length d := by
  have hl := drop1_len h
  unfold Ch
  rw [List.pairwise_map]
  constructor
  · rintro ⟨h1, h2⟩
    refine ⟨h1.imp (fun {x y} hxy => ?_), fun x hx => ?_⟩
    · rcases Int.lt_trichotomy x y with h | h | h
      · exact h
      · rw [h] at hxy; omega
      · have := upI_lt (k := k) y x h; omega
    · have := h2 _ (List.mem_map_of_mem hx)
      unfold upI at this
      split at this <;> omega
  · rintro ⟨h1, h2⟩
    refine ⟨h1.imp (fun {x y} hxy => upI_lt x y hxy), fun x hx => ?_⟩
    obtain ⟨y, hy, rfl⟩ := List.mem_map.1 hx
    have := h2 y hy
    unfold upI
    split <;> omega
theorem sums_up {l : List It} {k : Nat} (h : k < l.length) {d : List Int} (hd : Ch (drop1 l k).length d) : sK (iA l) (d.map (upI k)) = sK (iA (drop1 l k)) d ∧ sK (iB l) (d.map (upI k)) = sK (iB (drop1 l k)) d ∧ sK (iV l) (d.map (upI k)) = sK (iV (drop1 l k)) d :=
  ⟨sK_map fun x hx => (drop1_sums h (hd.2 x hx).1).1, sK_map fun x hx => (drop1_sums h (hd.2 x hx).1).2.1, sK_map fun x hx => (drop1_sums h (hd.2 x hx).1).2.2⟩
theorem fit_up {l : List It} {k : Nat} (h : k < l.length) {d : List Int} {a b : Int} : Fit l (d.map (upI k)) a b ↔ Fit (drop1 l k) d a b := by
  unfold Fit
  rw [ch_up h]
  constructor
  · rintro ⟨h1, h2⟩
    obtain ⟨s1, s2, _⟩ := sums_up h h1
    rw [s1, s2] at h2
    exact ⟨h1, h2⟩
  · rintro ⟨h1, h2⟩
    obtain ⟨s1, s2, _⟩ := sums_up h h1
    rw [s1, s2]
    exact ⟨h1, h2⟩
theorem Bst.drops {l : List It} (hr : Rt l) {k : Nat} (hk : k < l.length) {a b : Int} {x : List Int} (hx : Bst l a b x) (hn : (k : Int) ∉ x) : Bst (drop1 l k) a b (x.map (downI k)) := by
  have hxu := map_up_down hn
  refine ⟨fun h => ?_, fun ⟨d, hd⟩ => ?_, fun d hd => ?_⟩
  · rw [hx.nil' (fun c hc => h [] (fit_nil.2 (fit_some hr hc)))]
    rfl
  · rw [← fit_up hk, hxu]
    exact hx.fit ⟨_, (fit_up hk).2 hd⟩
  · have hy : Ch (drop1 l k).length (x.map (downI k)) := by rw [← ch_up hk, hxu]; exact hx.ch
    obtain ⟨h1, h2⟩ := hx.top _ ((fit_up hk).2 hd)
    have e1 := (sums_up hk hd.1).2.2
    have e2 := (sums_up hk hy).2.2
    rw [hxu] at e2
    rw [e1] at h1 h2
    rw [e2] at h1 h2
    refine ⟨h1, fun e => ?_⟩
    rw [← less_map (s := upI k) upI_lt, hxu]
    exact h2 e
theorem rt_drop {l : List It} (hr : Rt l) {k : Nat} : Rt (drop1 l k) := by
  unfold drop1
  refine ⟨by rw [List.length_append, List.length_take, List.length_drop]; have := hr.1; omega, fun e he => ?_⟩
  rcases List.mem_append.1 he with h | h
  · exact hr.2 e (List.mem_of_mem_take h)
  · exact hr.2 e (List.mem_of_mem_drop h)
end Go.Proofs.Ytjbfkbdjopbjjaa
