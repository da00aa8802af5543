/- The search in the rest of a flow, and the way that it finds. Plain mathematics. -/
import Derived.Test.YtdemnbbofigcdaaFlowM
import Derived.Test.YtdemnbbofigcdaaHas
namespace Go.Proofs.Ytdemnbbofigcdaa

theorem ix_left {S : List Int} {x : Int} {j : Nat} (h : j < S.length) : ix (S ++ [x]) j = ix S j := by
  unfold ix
  rw [List.getElem?_append_left h]
theorem ix_last (S : List Int) (x : Int) : ix (S ++ [x]) S.length = x := by
  unfold ix
  rw [List.getElem?_append_right (Nat.le_refl _), Nat.sub_self]
  rfl
theorem mem_ix {S : List Int} {x : Int} (h : x ∈ S) : ∃ j, j < S.length ∧ ix S j = x := by
  obtain ⟨j, hj, rfl⟩ := List.mem_iff_getElem.1 h
  exact ⟨j, hj, ix_at hj⟩
theorem ix_inj {S : List Int} (h : S.Nodup) {i j : Nat} (hi : i < S.length) (hj : j < S.length) (e : ix S i = ix S j) : i = j := by
  rw [ix_at hi, ix_at hj] at e
  exact (List.getElem_inj h).1 e
structure Srch (l : List Ed) (f : List Int) (s : Int) (S V : List Int) (i k : Nat) : Prop where
  len : V.length = S.length
  pos : 0 < S.length
  head : ix S 0 = s
  v0 : ix V 0 = 0
  nodup : S.Nodup
  rs : ∀ j, j < S.length → Rs l f s (ix S j)
  via : ∀ j, 0 < j → j < S.length → idx (ix V j) < l.length ∧ ix V j ≠ 0 ∧ hdE l (ix V j) = ix S j ∧ 0 < room l f (ix V j) ∧ ∃ a, a < j ∧ ix S a = tlE l (ix V j)
  done : ∀ j q, (j < i ∨ j = i ∧ q < k) → q < l.length → j < S.length → (eF l q = ix S j → ix f q < eC l q → eT l q ∈ S) ∧ (eT l q = ix S j → 0 < ix f q → eF l q ∈ S)
theorem srch_start (l : List Ed) (f : List Int) (s : Int) : Srch l f s [s] [0] 0 0 := by
  refine ⟨rfl, by simp, rfl, rfl, (by simp), fun j hj => ?_, fun j h0 hj => ?_, fun j q h => ?_⟩
  · obtain rfl : j = 0 := by simpa using hj
    exact .base
  · simp at hj; omega
  · omega
theorem srch_add {l : List Ed} {f S V : List Int} {s x v : Int} {i k : Nat} (h : Srch l f s S V i k) (hi : i < S.length) (hx : x ∉ S) (h1 : idx v < l.length) (h2 : v ≠ 0) (h3 : hdE l v = x) (h4 : 0 < room l f v) (h5 : tlE l v = ix S i) (hr : Rs l f s x) :
    Srch l f s (S ++ [x]) (V ++ [v]) i k := by
  have hlen := h.len
  have hpos := h.pos
  refine ⟨by rw [List.length_append, List.length_append, hlen]; rfl, by rw [List.length_append]; omega, by rw [ix_left h.pos]; exact h.head, by rw [ix_left (by omega)]; exact h.v0, ?_, fun j hj => ?_, fun j h0 hj => ?_, fun j q hjq hq hj => ?_⟩
  · rw [List.nodup_append]
    refine ⟨h.nodup, (by simp), fun a ha b hb e => ?_⟩
    rw [List.mem_singleton] at hb
    exact hx (by rw [← hb, ← e]; exact ha)
  · rw [List.length_append, List.length_singleton] at hj
    by_cases hjS : j < S.length
    · rw [ix_left hjS]; exact h.rs j hjS
    · obtain rfl : j = S.length := by omega
      rw [ix_last]; exact hr
  · rw [List.length_append, List.length_singleton] at hj
    by_cases hjS : j < S.length
    · rw [ix_left hjS, ix_left (by omega)]
      obtain ⟨a1, a2, a3, a4, a, ha, a5⟩ := h.via j h0 hjS
      exact ⟨a1, a2, a3, a4, a, ha, by rw [ix_left (by omega)]; exact a5⟩
    · obtain rfl : j = S.length := by omega
      have e : ix (V ++ [v]) S.length = v := by rw [← hlen]; exact ix_last V v
      rw [e, ix_last]
      exact ⟨h1, h2, h3, h4, i, hi, by rw [ix_left hi]; exact h5.symm⟩
  · have hjS : j < S.length := by omega
    rw [ix_left hjS]
    obtain ⟨d1, d2⟩ := h.done j q hjq hq hjS
    exact ⟨fun a b => List.mem_append_left _ (d1 a b), fun a b => List.mem_append_left _ (d2 a b)⟩
theorem idx_f (k : Nat) : idx ((k : Int) + 1) = k := by unfold idx; omega
theorem idx_b (k : Nat) : idx (-(k : Int) - 1) = k := by unfold idx; omega
theorem srch_fwd {l : List Ed} {f S V : List Int} {s : Int} {i k : Nat} (h : Srch l f s S V i k) (hi : i < S.length) (hk : k < l.length) (h1 : eF l k = ix S i) (h2 : ix f k < eC l k) (h3 : eT l k ∉ S) : Srch l f s (S ++ [eT l k]) (V ++ [(k : Int) + 1]) i k := by
  have hp : (0 : Int) < (k : Int) + 1 := by omega
  refine srch_add h hi h3 (by rw [idx_f]; exact hk) (by omega) ?_ ?_ ?_ (.fwd hk (by rw [h1]; exact h.rs i hi) h2)
  · unfold hdE; rw [if_pos hp, idx_f]
  · unfold room; rw [if_pos hp, idx_f]; omega
  · unfold tlE; rw [if_pos hp, idx_f]; exact h1
theorem srch_bwd {l : List Ed} {f S V : List Int} {s : Int} {i k : Nat} (h : Srch l f s S V i k) (hi : i < S.length) (hk : k < l.length) (h1 : eT l k = ix S i) (h2 : 0 < ix f k) (h3 : eF l k ∉ S) : Srch l f s (S ++ [eF l k]) (V ++ [-(k : Int) - 1]) i k := by
  have hp : ¬ (0 : Int) < -(k : Int) - 1 := by omega
  refine srch_add h hi h3 (by rw [idx_b]; exact hk) (by omega) ?_ ?_ ?_ (.bwd hk (by rw [h1]; exact h.rs i hi) h2)
  · unfold hdE; rw [if_neg hp, idx_b]
  · unfold room; rw [if_neg hp, idx_b]; exact h2
  · unfold tlE; rw [if_neg hp, idx_b]; exact h1
theorem srch_step {l : List Ed} {f S V : List Int} {s : Int} {i k : Nat} (h : Srch l f s S V i k) (h1 : eF l k = ix S i → ix f k < eC l k → eT l k ∈ S) (h2 : eT l k = ix S i → 0 < ix f k → eF l k ∈ S) : Srch l f s S V i (k + 1) := by
  refine ⟨h.len, h.pos, h.head, h.v0, h.nodup, h.rs, h.via, fun j q hjq hq hj => ?_⟩
  by_cases hn : j = i ∧ q = k
  · obtain ⟨rfl, rfl⟩ := hn
    exact ⟨h1, h2⟩
  · exact h.done j q (by omega) hq hj
theorem srch_row {l : List Ed} {f S V : List Int} {s : Int} {i : Nat} (h : Srch l f s S V i l.length) : Srch l f s S V (i + 1) 0 :=
  ⟨h.len, h.pos, h.head, h.v0, h.nodup, h.rs, h.via, fun j q hjq hq hj => h.done j q (by omega) hq hj⟩
theorem srch_end {l : List Ed} {f S V : List Int} {s : Int} (h : Srch l f s S V S.length 0) {x : Int} : x ∈ S ↔ Rs l f s x := by
  constructor
  · intro hx
    obtain ⟨j, hj, rfl⟩ := mem_ix hx
    exact h.rs j hj
  · intro hr
    induction hr with
    | base => rw [← h.head]; exact ix_mem h.pos
    | @fwd k hk _ hlt ih =>
      obtain ⟨j, hj, e⟩ := mem_ix ih
      exact (h.done j k (.inl hj) hk hj).1 e.symm hlt
    | @bwd k hk _ hlt ih =>
      obtain ⟨j, hj, e⟩ := mem_ix ih
      exact (h.done j k (.inl hj) hk hj).2 e.symm hlt
theorem rs_node {l : List Ed} {f : List Int} {s x : Int} (h : Rs l f s x) : x = s ∨ x ∈ nodesL l := by
  cases h with
  | base => exact .inl rfl
  | fwd hk _ _ => exact .inr (mem_nodes.2 ⟨_, e_mem hk, .inr rfl⟩)
  | bwd hk _ _ => exact .inr (mem_nodes.2 ⟨_, e_mem hk, .inl rfl⟩)
theorem srch_len {l : List Ed} {f S V : List Int} {s : Int} {i k : Nat} (h : Srch l f s S V i k) : S.length ≤ 2 * l.length + 1 := by
  have h1 := nodup_len h.nodup (b := s :: nodesL l) fun x hx => by
    obtain ⟨j, hj, rfl⟩ := mem_ix hx
    rcases rs_node (h.rs j hj) with e | e
    · rw [e]; exact List.mem_cons_self ..
    · exact List.mem_cons_of_mem _ e
  have h2 := nodes_len l
  rw [List.length_cons] at h1
  omega
theorem srch_r1 {l : List Ed} {f S V : List Int} {s : Int} {i k : Nat} (h : Srch l f s S V i k) (hi : i < S.length) (hk : k < l.length) (h1 : eF l k = ix S i) (h2 : ix f k < eC l k) (h3 : eT l k ∉ S) : Srch l f s (S ++ [eT l k]) (V ++ [(k : Int) + 1]) i (k + 1) :=
  srch_step (srch_fwd h hi hk h1 h2 h3) (fun _ _ => List.mem_append_right _ (List.mem_singleton.2 rfl)) (fun e _ => by
    rw [ix_left hi] at e
    exact absurd (by rw [e]; exact ix_mem hi) h3)
theorem srch_r2 {l : List Ed} {f S V : List Int} {s : Int} {i k : Nat} (h : Srch l f s S V i k) (hi : i < S.length) (hk : k < l.length) (h1 : eT l k = ix S i) (h2 : 0 < ix f k) (h3 : eF l k ∉ S) : Srch l f s (S ++ [eF l k]) (V ++ [-(k : Int) - 1]) i (k + 1) :=
  srch_step (srch_bwd h hi hk h1 h2 h3) (fun e _ => by
    rw [ix_left hi] at e
    exact absurd (by rw [e]; exact ix_mem hi) h3) (fun _ _ => List.mem_append_right _ (List.mem_singleton.2 rfl))
/-- No edge is used twice. -/
theorem via_inj {l : List Ed} {f S V : List Int} {s : Int} {i k : Nat} (h : Srch l f s S V i k) {a b : Nat} (ha0 : 0 < a) (ha : a < S.length) (hb0 : 0 < b) (hb : b < S.length) (e : idx (ix V a) = idx (ix V b)) : a = b := by
  obtain ⟨_, a2, a3, _, p, hp, a5⟩ := h.via a ha0 ha
  obtain ⟨_, b2, b3, _, q, hq, b5⟩ := h.via b hb0 hb
  unfold hdE at a3 b3
  unfold tlE at a5 b5
  by_cases h1 : 0 < ix V a
  · rw [if_pos h1] at a3 a5
    by_cases h2 : 0 < ix V b
    · rw [if_pos h2] at b3 b5
      exact ix_inj h.nodup ha hb (by rw [← a3, ← b3, e])
    · rw [if_neg h2] at b3 b5
      have e1 := ix_inj h.nodup (show p < S.length by omega) hb (by rw [a5, ← b3, e])
      have e2 := ix_inj h.nodup (show q < S.length by omega) ha (by rw [b5, ← a3, e])
      omega
  · rw [if_neg h1] at a3 a5
    by_cases h2 : 0 < ix V b
    · rw [if_pos h2] at b3 b5
      have e1 := ix_inj h.nodup (show p < S.length by omega) hb (by rw [a5, ← b3, e])
      have e2 := ix_inj h.nodup (show q < S.length by omega) ha (by rw [b5, ← a3, e])
      omega
    · rw [if_neg h2] at b3 b5
      exact ix_inj h.nodup ha hb (by rw [← a3, ← b3, e])

/-! ### The way back -/
theorem way_snoc {l : List Ed} {v : Int} : ∀ {W : List Int} {a b : Int}, Way l W a b → hdE l v = b → idx v < l.length → Way l (W ++ [v]) a (tlE l v)
  | [], a, b, h, h1, h2 => by
    obtain rfl : a = b := h
    exact ⟨h1, h2, rfl⟩
  | x :: W, a, b, h, h1, h2 => ⟨h.1, h.2.1, way_snoc h.2.2 h1 h2⟩
/-- On the way back from t: what is found, before the nodes from index n - 1 down are looked at; c is the node looked for. -/
structure Back (l : List Ed) (f S V : List Int) (t c : Int) (W : List Int) (n : Nat) : Prop where
  way : Way l W t c
  room : ∀ x ∈ W, idx x < l.length ∧ 0 < room l f x
  from' : ∀ x ∈ W, ∃ j, n ≤ j ∧ 0 < j ∧ j < S.length ∧ ix V j = x
  nodup : (W.map idx).Nodup
  at' : c ∈ S → ∃ j, j < S.length ∧ ix S j = c ∧ (j < n ∨ j = 0)
theorem back_start {l : List Ed} {f S V : List Int} {t : Int} : Back l f S V t t [] S.length :=
  ⟨rfl, (fun _ h => by cases h), (fun _ h => by cases h), List.nodup_nil, fun h => by
    obtain ⟨j, hj, e⟩ := mem_ix h
    exact ⟨j, hj, e, .inl hj⟩⟩
theorem back_skip {l : List Ed} {f S V W : List Int} {s t c : Int} {i k n : Nat} (hS : Srch l f s S V i k) (h : Back l f S V t c W (n + 1)) (hn : n < S.length) (hne : ix S n ≠ c ∨ ix V n = 0) : Back l f S V t c W n := by
  refine ⟨h.way, h.room, fun x hx => ?_, h.nodup, fun hc => ?_⟩
  · obtain ⟨j, h1, h2⟩ := h.from' x hx
    exact ⟨j, by omega, h2⟩
  · obtain ⟨j, h1, h2, h3⟩ := h.at' hc
    refine ⟨j, h1, h2, ?_⟩
    by_cases hj0 : j = 0
    · exact .inr hj0
    · rcases h3 with h3 | h3
      · by_cases hjn : j = n
        · rcases hne with hne | hne
          · exact absurd (by rw [← hjn]; exact h2) hne
          · exact absurd hne (hS.via n (by omega) hn).2.1
        · exact .inl (by omega)
      · exact .inr h3
theorem back_take {l : List Ed} {f S V W : List Int} {s t c : Int} {i k n : Nat} (hS : Srch l f s S V i k) (h : Back l f S V t c W (n + 1)) (hn : n < S.length) (he : ix S n = c) (hv : ix V n ≠ 0) : Back l f S V t (tlE l (ix V n)) (W ++ [ix V n]) n := by
  have hn0 : 0 < n := by
    rcases Nat.eq_zero_or_pos n with h0 | h0
    · rw [h0] at hv; exact absurd hS.v0 hv
    · exact h0
  obtain ⟨v1, v2, v3, v4, a, ha, v5⟩ := hS.via n hn0 hn
  refine ⟨way_snoc h.way (v3.trans he) v1, fun x hx => ?_, fun x hx => ?_, ?_, fun _ => ⟨a, by omega, v5, .inl ha⟩⟩
  · rcases List.mem_append.1 hx with hx | hx
    · exact h.room x hx
    · rw [List.mem_singleton] at hx
      rw [hx]
      exact ⟨v1, v4⟩
  · rcases List.mem_append.1 hx with hx | hx
    · obtain ⟨j, h1, h2⟩ := h.from' x hx
      exact ⟨j, by omega, h2⟩
    · rw [List.mem_singleton] at hx
      exact ⟨n, Nat.le_refl _, hn0, hn, hx.symm⟩
  · rw [List.map_append, List.nodup_append]
    refine ⟨h.nodup, by simp, fun p hp q hq e => ?_⟩
    obtain ⟨x, hx, rfl⟩ := List.mem_map.1 hp
    have hq : q = idx (ix V n) := by simpa using hq
    obtain ⟨j, j1, j2, j3, rfl⟩ := h.from' x hx
    have := via_inj hS j2 j3 hn0 hn (e.trans hq)
    omega
/-- At the end: a way to t where it was found, none where it was not. -/
theorem back_end {l : List Ed} {f S V W : List Int} {s t c : Int} {i k : Nat} (hS : Srch l f s S V i k) (h : Back l f S V t c W 0) (hc : c ∈ S) : c = s := by
  obtain ⟨j, _, h2, h3⟩ := h.at' hc
  have : j = 0 := by omega
  rw [this, hS.head] at h2
  exact h2.symm
end Go.Proofs.Ytdemnbbofigcdaa
