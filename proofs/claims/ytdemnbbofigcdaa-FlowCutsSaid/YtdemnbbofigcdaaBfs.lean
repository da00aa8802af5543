/- The links of a node, the package's search, the way back by the links. Plain mathematics. -/
import Derived.Test.YtdemnbbofigcdaaSrch
namespace Go.Proofs.Ytdemnbbofigcdaa

/-! ### The links of a node -/
/-- Those of the first n edges: k + 1 along the edge k, -(k + 1) against it. -/
def lkN (l : List Ed) : Nat → Int → List Int
  | 0, _ => []
  | n + 1, a => lkN l n a ++ ((if eF l n = a then [(n : Int) + 1] else []) ++ (if eT l n = a then [-(n : Int) - 1] else []))
theorem lk_mem {l : List Ed} {a x : Int} : ∀ {n : Nat}, x ∈ lkN l n a → idx x < n ∧ x ≠ 0 ∧ tlE l x = a
  | 0, h => by cases h
  | n + 1, h => by
    rw [lkN, List.mem_append, List.mem_append] at h
    rcases h with h | h | h
    · obtain ⟨h1, h2⟩ := lk_mem h
      exact ⟨by omega, h2⟩
    · split at h
      · rename_i he
        rw [List.mem_singleton] at h
        subst h
        refine ⟨by rw [idx_f]; omega, by omega, ?_⟩
        unfold tlE
        rw [if_pos (by omega), idx_f]
        exact he
      · cases h
    · split at h
      · rename_i he
        rw [List.mem_singleton] at h
        subst h
        refine ⟨by rw [idx_b]; omega, by omega, ?_⟩
        unfold tlE
        rw [if_neg (by omega), idx_b]
        exact he
      · cases h
theorem lk_fwd {l : List Ed} {k : Nat} : ∀ {n : Nat}, k < n → (k : Int) + 1 ∈ lkN l n (eF l k)
  | 0, h => absurd h (by omega)
  | n + 1, h => by
    rw [lkN, List.mem_append, List.mem_append]
    by_cases hk : k = n
    · subst hk
      exact .inr (.inl (by simp))
    · exact .inl (lk_fwd (by omega))
theorem lk_bwd {l : List Ed} {k : Nat} : ∀ {n : Nat}, k < n → -(k : Int) - 1 ∈ lkN l n (eT l k)
  | 0, h => absurd h (by omega)
  | n + 1, h => by
    rw [lkN, List.mem_append, List.mem_append]
    by_cases hk : k = n
    · subst hk
      exact .inr (.inr (by simp))
    · exact .inl (lk_bwd (by omega))
theorem lk_len (l : List Ed) (a : Int) : ∀ n : Nat, (lkN l n a).length ≤ 2 * n
  | 0 => Nat.le_refl _
  | n + 1 => by
    have := lk_len l a n
    rw [lkN, List.length_append, List.length_append]
    split <;> split <;> simp <;> omega

/-! ### The search -/
structure Bfs (l : List Ed) (f : List Int) (s : Int) (S V : List Int) (i q : Nat) : Prop where
  b : Srch l f s S V 0 0
  done : ∀ j x, (j < i ∧ x ∈ lkN l l.length (ix S j) ∨ j = i ∧ x ∈ (lkN l l.length (ix S j)).take q) → j < S.length → 0 < room l f x → hdE l x ∈ S
theorem srch_add0 {l : List Ed} {f S V : List Int} {s x v : Int} {a : Nat} (h : Srch l f s S V 0 0) (ha : a < S.length) (hx : x ∉ S) (h1 : idx v < l.length) (h2 : v ≠ 0) (h3 : hdE l v = x) (h4 : 0 < room l f v) (h5 : tlE l v = ix S a) :
    Srch l f s (S ++ [x]) (V ++ [v]) 0 0 := by
  have hlen := h.len
  have hpos := h.pos
  have hr : Rs l f s x := by
    have hra := h.rs a ha
    rw [← h5] at hra
    rw [← h3]
    unfold hdE tlE room at *
    by_cases hv : 0 < v
    · rw [if_pos hv] at h4 hra ⊢
      exact .fwd h1 hra (by omega)
    · rw [if_neg hv] at h4 hra ⊢
      exact .bwd h1 hra h4
  refine ⟨by rw [List.length_append, List.length_append, hlen]; rfl, by rw [List.length_append]; omega, by rw [ix_left h.pos]; exact h.head, by rw [ix_left (by omega)]; exact h.v0, ?_, fun j hj => ?_, fun j h0 hj => ?_, fun j q hjq => by omega⟩
  · rw [List.nodup_append]
    refine ⟨h.nodup, (by simp), fun a ha b hb e => ?_⟩
    rw [List.mem_singleton] at hb
    exact hx (by rw [← hb, ← e]; exact ha)
  · rw [List.length_append, List.length_singleton] at hj
    by_cases hjS : j < S.length
    · rw [ix_left hjS]; exact h.rs j hjS
    · obtain rfl : j = S.length := by omega
      rw [ix_last]; exact hr
  · rw [List.length_append, List.length_singleton] at hj
    by_cases hjS : j < S.length
    · rw [ix_left hjS, ix_left (by omega)]
      obtain ⟨a1, a2, a3, a4, a, ha, a5⟩ := h.via j h0 hjS
      exact ⟨a1, a2, a3, a4, a, ha, by rw [ix_left (by omega)]; exact a5⟩
    · obtain rfl : j = S.length := by omega
      have e : ix (V ++ [v]) S.length = v := by rw [← hlen]; exact ix_last V v
      rw [e, ix_last]
      exact ⟨h1, h2, h3, h4, a, ha, by rw [ix_left ha]; exact h5.symm⟩
theorem bfs_start (l : List Ed) (f : List Int) (s : Int) : Bfs l f s [s] [0] 0 0 :=
  ⟨srch_start l f s, fun j x h => by
    rcases h with h | ⟨_, h⟩
    · omega
    · rw [List.take_zero] at h
      cases h⟩
theorem mem_take_ix {L : List Int} {q : Nat} (hq : q < L.length) {x : Int} (h : x ∈ L.take (q + 1)) : x ∈ L.take q ∨ x = ix L q := by
  rw [List.take_succ_eq_append_getElem hq, List.mem_append, List.mem_singleton] at h
  rcases h with h | h
  · exact .inl h
  · exact .inr (by rw [h, ix_at hq])
theorem bfs_skip {l : List Ed} {f S V : List Int} {s n : Int} {i q : Nat} (h : Bfs l f s S V i q) (hi : ix S i = n) (hq : q < (lkN l l.length n).length) (hx : hdE l (ix (lkN l l.length n) q) ∈ S ∨ room l f (ix (lkN l l.length n) q) ≤ 0) : Bfs l f s S V i (q + 1) :=
  ⟨h.b, fun j y hy hj hr => by
    rcases hy with hy | ⟨rfl, hy⟩
    · exact h.done j y (.inl hy) hj hr
    · rw [hi] at hy
      rcases mem_take_ix hq hy with hy | rfl
      · exact h.done j y (.inr ⟨rfl, by rw [hi]; exact hy⟩) hj hr
      · rcases hx with hx | hx
        · exact hx
        · omega⟩
theorem bfs_add {l : List Ed} {f S V : List Int} {s n : Int} {i q : Nat} (h : Bfs l f s S V i q) (hiS : i < S.length) (hi : ix S i = n) (hq : q < (lkN l l.length n).length) (hx : hdE l (ix (lkN l l.length n) q) ∉ S) (hr : 0 < room l f (ix (lkN l l.length n) q)) :
    Bfs l f s (S ++ [hdE l (ix (lkN l l.length n) q)]) (V ++ [ix (lkN l l.length n) q]) i (q + 1) := by
  obtain ⟨m1, m2, m3⟩ := lk_mem (ix_mem hq)
  refine ⟨srch_add0 h.b hiS hx m1 m2 rfl hr (m3.trans hi.symm), fun j y hy hj hr2 => ?_⟩
  have hjS : j < S.length := by
    rcases hy with hy | hy <;> omega
  rw [ix_left hjS] at hy
  rcases hy with hy | ⟨rfl, hy⟩
  · exact List.mem_append_left _ (h.done j y (.inl hy) hjS hr2)
  · rw [hi] at hy
    rcases mem_take_ix hq hy with hy | rfl
    · exact List.mem_append_left _ (h.done j y (.inr ⟨rfl, by rw [hi]; exact hy⟩) hjS hr2)
    · exact List.mem_append_right _ (List.mem_singleton.2 rfl)
theorem bfs_row {l : List Ed} {f S V : List Int} {s n : Int} {i : Nat} (h : Bfs l f s S V i (lkN l l.length n).length) (hi : ix S i = n) : Bfs l f s S V (i + 1) 0 :=
  ⟨h.b, fun j y hy hj hr => by
    rcases hy with ⟨hji, hy⟩ | ⟨_, hy⟩
    · by_cases hjn : j = i
      · subst hjn
        exact h.done j y (.inr ⟨rfl, by rw [hi, List.take_length]; rw [hi] at hy; exact hy⟩) hj hr
      · exact h.done j y (.inl ⟨by omega, hy⟩) hj hr
    · rw [List.take_zero] at hy
      cases hy⟩
theorem bfs_end {l : List Ed} {f S V : List Int} {s : Int} (h : Bfs l f s S V S.length 0) {x : Int} (hr : Rs l f s x) : x ∈ S := by
  induction hr with
  | base => rw [← h.b.head]; exact ix_mem h.b.pos
  | @fwd k hk _ hlt ih =>
    obtain ⟨j, hj, e⟩ := mem_ix ih
    have hp : (0 : Int) < (k : Int) + 1 := by omega
    have := h.done j ((k : Int) + 1) (.inl ⟨hj, by rw [e]; exact lk_fwd hk⟩) hj (by unfold room; rw [if_pos hp, idx_f]; omega)
    unfold hdE at this
    rw [if_pos hp, idx_f] at this
    exact this
  | @bwd k hk _ hlt ih =>
    obtain ⟨j, hj, e⟩ := mem_ix ih
    have hp : ¬ (0 : Int) < -(k : Int) - 1 := by omega
    have := h.done j (-(k : Int) - 1) (.inl ⟨hj, by rw [e]; exact lk_bwd hk⟩) hj (by unfold room; rw [if_neg hp, idx_b]; exact hlt)
    unfold hdE at this
    rw [if_neg hp, idx_b] at this
    exact this

/-! ### What led to each node -/
structure Last (S V : List Int) (lf : Int → Option Int) : Prop where
  at' : ∀ j, j < S.length → lf (ix S j) = some (ix V j)
  out : ∀ a, a ∉ S → lf a = none
def updK (lf : Int → Option Int) (a x : Int) : Int → Option Int := fun b => if b = a then some x else lf b
theorem last_start (s : Int) : Last [s] [0] (updK (fun _ => none) s 0) :=
  ⟨fun j hj => by
    obtain rfl : j = 0 := by simpa using hj
    unfold updK
    exact if_pos rfl, fun a ha => by
    unfold updK
    exact if_neg (fun e => ha (by rw [e]; exact List.mem_singleton.2 rfl))⟩
theorem last_add {S V : List Int} {lf : Int → Option Int} {x v : Int} (h : Last S V lf) (hl : V.length = S.length) (hx : x ∉ S) : Last (S ++ [x]) (V ++ [v]) (updK lf x v) :=
  ⟨fun j hj => by
    rw [List.length_append, List.length_singleton] at hj
    unfold updK
    by_cases hjS : j < S.length
    · rw [ix_left hjS, ix_left (by omega), if_neg (fun e => hx (by rw [← e]; exact ix_mem hjS))]
      exact h.at' j hjS
    · obtain rfl : j = S.length := by omega
      rw [ix_last, if_pos rfl, ← hl, ix_last], fun a ha => by
    rw [List.mem_append, List.mem_singleton] at ha
    unfold updK
    rw [if_neg (fun e => ha (.inr e))]
    exact h.out a (fun e => ha (.inl e))⟩
theorem last_some {S V : List Int} {lf : Int → Option Int} (h : Last S V lf) (a : Int) : (lf a).isSome = true ↔ a ∈ S := by
  constructor
  · intro hs
    apply Classical.byContradiction
    intro ha
    rw [h.out a ha] at hs
    cases hs
  · intro ha
    obtain ⟨j, hj, rfl⟩ := mem_ix ha
    rw [h.at' j hj]
    rfl

/-! ### The way back -/
def Chain (l : List Ed) (lf : Int → Option Int) (s : Int) : List Int → Int → Prop
  | [], a => a = s
  | x :: W, a => a ≠ s ∧ lf a = some x ∧ x ≠ 0 ∧ idx x < l.length ∧ hdE l x = a ∧ Chain l lf s W (tlE l x)
theorem chain_way {l : List Ed} {lf : Int → Option Int} {s : Int} : ∀ {W : List Int} {a : Int}, Chain l lf s W a → Way l W a s
  | [], _, h => h
  | _ :: _, _, h => ⟨h.2.2.2.2.1, h.2.2.2.1, chain_way h.2.2.2.2.2⟩
theorem chain_ex {l : List Ed} {f S V : List Int} {s : Int} {lf : Int → Option Int} (h : Srch l f s S V 0 0) (hL : Last S V lf) : ∀ (j : Nat), j < S.length →
    ∃ W, Chain l lf s W (ix S j) ∧ (∀ x ∈ W, ∃ p, 0 < p ∧ p ≤ j ∧ ix V p = x) ∧ (W.map idx).Nodup := by
  intro j
  induction j using Nat.strongRecOn with
  | ind j ih =>
    intro hj
    by_cases h0 : j = 0
    · subst h0
      exact ⟨[], h.head, (fun x hx => by cases hx), List.nodup_nil⟩
    · obtain ⟨v1, v2, v3, v4, a, ha, v5⟩ := h.via j (by omega) hj
      obtain ⟨W, w1, w2, w3⟩ := ih a ha (by omega)
      refine ⟨ix V j :: W, ⟨fun e => ?_, hL.at' j hj, v2, v1, v3, by rw [← v5]; exact w1⟩, fun x hx => ?_, ?_⟩
      · rw [← h.head] at e
        exact h0 (ix_inj h.nodup hj h.pos e)
      · rcases List.mem_cons.1 hx with rfl | hx
        · exact ⟨j, by omega, Nat.le_refl _, rfl⟩
        · obtain ⟨p, p1, p2, p3⟩ := w2 x hx
          exact ⟨p, p1, by omega, p3⟩
      · rw [List.map_cons, List.nodup_cons]
        refine ⟨fun hm => ?_, w3⟩
        obtain ⟨x, hx, he⟩ := List.mem_map.1 hm
        obtain ⟨p, p1, p2, rfl⟩ := w2 x hx
        have := via_inj h p1 (by omega) (show 0 < j by omega) hj he
        omega
/-- A way to the node that was found, along which more could flow. -/
theorem chain_to {l : List Ed} {f S V : List Int} {s t : Int} {lf : Int → Option Int} (h : Srch l f s S V 0 0) (hL : Last S V lf) (ht : t ∈ S) :
    ∃ W, Chain l lf s W t ∧ (∀ x ∈ W, idx x < l.length ∧ 0 < room l f x) ∧ (W.map idx).Nodup := by
  obtain ⟨j, hj, rfl⟩ := mem_ix ht
  obtain ⟨W, w1, w2, w3⟩ := chain_ex h hL j hj
  refine ⟨W, w1, fun x hx => ?_, w3⟩
  obtain ⟨p, p1, p2, rfl⟩ := w2 x hx
  obtain ⟨v1, _, _, v4, _⟩ := h.via p p1 (by omega)
  exact ⟨v1, v4⟩
/-- The least room along a way. -/
def minR (l : List Ed) (f : List Int) : Int → List Int → Int
  | d, [] => d
  | d, x :: W => minR l f (min d (room l f x)) W
theorem minR_le (l : List Ed) (f : List Int) : ∀ (W : List Int) (d : Int), minR l f d W ≤ d ∧ ∀ x ∈ W, minR l f d W ≤ room l f x
  | [], d => ⟨Int.le_refl _, fun _ h => by cases h⟩
  | x :: W, d => by
    obtain ⟨h1, h2⟩ := minR_le l f W (min d (room l f x))
    refine ⟨by rw [minR]; omega, fun y hy => ?_⟩
    rw [minR]
    rcases List.mem_cons.1 hy with rfl | hy
    · omega
    · exact h2 y hy
theorem minR_pos (l : List Ed) (f : List Int) : ∀ (W : List Int) (d : Int), 0 < d → (∀ x ∈ W, 0 < room l f x) → 0 < minR l f d W
  | [], _, h, _ => h
  | x :: W, d, h, hx => by
    rw [minR]
    refine minR_pos l f W _ ?_ (fun y hy => hx y (List.mem_cons_of_mem _ hy))
    have := hx x (List.mem_cons_self ..)
    omega
end Go.Proofs.Ytdemnbbofigcdaa
