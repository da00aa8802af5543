/- What an order of the nodes is good for: each edge leads forward; there is none exactly if there is a loop. Plain mathematics. -/
import Derived.Test.YtlaklfiodmnocaaRefOrder
namespace Go.Proofs.Ytlaklfiodmnocaa

theorem filter_lt {P Q : Int → Bool} {u : Int} : ∀ {U : List Int}, (∀ x ∈ U, P x = true → Q x = true) → u ∈ U → Q u = true → P u = false → (U.filter P).length < (U.filter Q).length
  | [], _, h, _, _ => by cases h
  | x :: U, hPQ, hu, hq, hp => by
    have hle : (U.filter P).length ≤ (U.filter Q).length := by
      have key : ∀ V : List Int, (∀ x ∈ V, P x = true → Q x = true) → (V.filter P).length ≤ (V.filter Q).length := by
        intro V
        induction V with
        | nil => intro _; simp
        | cons y V ih =>
          intro h
          have h1 := ih fun z hz => h z (List.mem_cons_of_mem _ hz)
          rw [List.filter_cons, List.filter_cons]
          by_cases hy : P y = true
          · rw [if_pos hy, if_pos (h y (List.mem_cons_self ..) hy)]
            simpa using h1
          · rw [if_neg hy]
            split
            · simp only [List.length_cons]; omega
            · exact h1
      exact key U fun z hz => hPQ z (List.mem_cons_of_mem _ hz)
    rw [List.filter_cons, List.filter_cons]
    rcases List.mem_cons.1 hu with rfl | hu
    · rw [if_pos hq, if_neg (by rw [hp]; decide)]
      simp only [List.length_cons]
      omega
    · have h1 := filter_lt (fun z hz => hPQ z (List.mem_cons_of_mem _ hz)) hu hq hp
      by_cases hx : P x = true
      · rw [if_pos hx, if_pos (hPQ x (List.mem_cons_self ..) hx)]
        simpa using h1
      · rw [if_neg hx]
        split
        · simp only [List.length_cons]; omega
        · exact h1
/-- Where each one of a list has an edge from another one of it, there is a loop. -/
theorem loop_of {l : List Ed} {U : List Int} {u : Int} (hu : u ∈ U) (h : ∀ x ∈ U, ∃ e ∈ l, e.to = x ∧ e.frm ∈ U) : ∃ e ∈ l, Rch l e.to e.frm := by
  rcases Classical.em (∃ e ∈ l, Rch l e.to e.frm) with hl | hl
  · exact hl
  · exfalso
    have key : ∀ (m : Nat) (x : Int), x ∈ U → (U.filter fun v => @decide (Rch l v x) (Classical.propDecidable _)).length < m → False := by
      intro m
      induction m with
      | zero => intro x _ hm; omega
      | succ m ih =>
        intro x hx hm
        obtain ⟨e, he, rfl, hf⟩ := h x hx
        refine ih e.frm hf (Nat.lt_of_lt_of_le (filter_lt (u := e.to) ?_ hx ?_ ?_) (Nat.lt_succ_iff.1 hm))
        · intro v _ hv
          have hv := @of_decide_eq_true _ (Classical.propDecidable _) hv
          exact @decide_eq_true _ (Classical.propDecidable _) (hv.snoc he)
        · exact @decide_eq_true _ (Classical.propDecidable _) (.refl _)
        · exact @decide_eq_false _ (Classical.propDecidable _) (fun hr => hl ⟨e, he, hr⟩)
    exact key _ u hu (Nat.lt_succ_self _)
/-- What holds of the nodes that were placed. -/
def Placed (l : List Ed) (N o : List Int) : Prop := o.Nodup ∧ (∀ x ∈ o, x ∈ N) ∧ ∀ k, k < o.length → ∀ e ∈ l, e.to = ix o k → e.frm ∈ o.take k
theorem placed_nil (l : List Ed) (N : List Int) : Placed l N [] := ⟨List.nodup_nil, (fun _ h => by cases h), fun k hk => absurd hk (by simp)⟩
theorem pick_facts {l : List Ed} {N o : List Int} {n : Int} (h : pick l N o = some n) : n ∈ N ∧ n ∉ o ∧ ∀ e ∈ l, e.to = n → e.frm ∈ o := by
  unfold pick at h
  have h1 := List.find?_some h
  have h2 := List.mem_of_find?_eq_some h
  unfold pickB at h1
  rw [Bool.and_eq_true] at h1
  refine ⟨h2, fun hm => ?_, freeB_of h1.2⟩
  rw [hasB_true hm] at h1
  exact absurd h1.1 (by decide)
theorem ix_append_left {a b : List Int} {k : Nat} (h : k < a.length) : ix (a ++ b) k = ix a k := by
  unfold ix
  rw [List.getElem?_append_left h]
theorem ix_append_one {a : List Int} {n : Int} : ix (a ++ [n]) a.length = n := by
  unfold ix
  rw [List.getElem?_append_right (Nat.le_refl _), Nat.sub_self]
  rfl
theorem placed_step {l : List Ed} {N o : List Int} {n : Int} (h : Placed l N o) (hp : pick l N o = some n) : Placed l N (o ++ [n]) := by
  obtain ⟨h1, h2, h3⟩ := h
  obtain ⟨p1, p2, p3⟩ := pick_facts hp
  refine ⟨?_, fun x hx => ?_, fun k hk e he ht => ?_⟩
  · rw [List.nodup_append]
    refine ⟨h1, by simp, fun x hx y hy => ?_⟩
    rw [List.mem_singleton] at hy
    rw [hy]
    exact fun e => p2 (e ▸ hx)
  · rcases List.mem_append.1 hx with hx | hx
    · exact h2 x hx
    · rw [List.mem_singleton] at hx
      rw [hx]
      exact p1
  · rw [List.length_append, List.length_singleton] at hk
    rcases Nat.lt_or_ge k o.length with hlt | hge
    · rw [ix_append_left hlt] at ht
      rw [List.take_append_of_le_length (by omega)]
      exact h3 k hlt e he ht
    · obtain rfl : k = o.length := by omega
      rw [ix_append_one] at ht
      rw [List.take_append_of_le_length (Nat.le_refl _), List.take_length]
      exact p3 e he ht
theorem ordGo_facts {l : List Ed} {N : List Int} : ∀ (k : Nat) {o r : List Int}, Placed l N o → ordGo l N k o = some r → Placed l N r ∧ r.length = o.length + k
  | 0, o, r, h, hr => by
    rw [ordGo] at hr
    injection hr with hr
    rw [← hr]
    exact ⟨h, rfl⟩
  | k + 1, o, r, h, hr => by
    rw [ordGo] at hr
    rcases hp : pick l N o with _ | n
    · rw [hp] at hr
      cases hr
    · rw [hp] at hr
      obtain ⟨a, b⟩ := ordGo_facts k (placed_step h hp) hr
      rw [List.length_append, List.length_singleton] at b
      exact ⟨a, by omega⟩
theorem ordGo_stuck {l : List Ed} {N : List Int} : ∀ (k : Nat) {o : List Int}, Placed l N o → o.length + k = N.length → ordGo l N k o = none → ∃ p : List Int, Placed l N p ∧ p.length < N.length ∧ pick l N p = none
  | 0, o, _, _, hr => by
    rw [ordGo] at hr
    cases hr
  | k + 1, o, h, hk, hr => by
    rw [ordGo] at hr
    rcases hp : pick l N o with _ | n
    · exact ⟨o, h, by omega, hp⟩
    · rw [hp] at hr
      exact ordGo_stuck k (placed_step h hp) (by rw [List.length_append, List.length_singleton]; omega) hr
theorem plc_nodup {o : List Int} (h : o.Nodup) {k : Nat} (hk : k < o.length) : plc o (ix o k) = k := by
  refine plc_at hk (fun hm => ?_) rfl
  obtain ⟨j, hj, he⟩ := List.mem_iff_getElem.1 hm
  rw [List.length_take] at hj
  rw [List.getElem_take, ix_at hk] at he
  exact (List.pairwise_iff_getElem.1 h) j k (by omega) hk (by omega) he
theorem plc_lt_take {o : List Int} {n : Int} {k : Nat} (h : n ∈ o.take k) : 0 ≤ plc o n ∧ plc o n < k := by
  obtain ⟨j, hj, he⟩ := List.mem_iff_getElem.1 h
  rw [List.length_take] at hj
  -- the first place of n is at most j
  have key : ∀ (o : List Int) (j : Nat) (hj : j < o.length), o[j] = n → 0 ≤ plc o n ∧ plc o n ≤ j := by
    intro o
    induction o with
    | nil => intro j hj _; exact absurd hj (by simp)
    | cons x o ih =>
      intro j hj h
      rw [plc]
      by_cases hx : x = n
      · rw [if_pos hx]; omega
      · rw [if_neg hx]
        match j, hj, h with
        | 0, _, h => exact absurd h hx
        | j + 1, hj, h =>
          have := ih j (by simpa using hj) (by simpa using h)
          rw [if_neg (by omega)]
          omega
  rw [List.getElem_take] at he
  have := key o j (by omega) he
  omega
/-- A list that holds each node once holds all of them, if it is as long. -/
theorem full_mem {N r : List Int} (hr : r.Nodup) (hs : ∀ x ∈ r, x ∈ N) (hl : r.length = N.length) {x : Int} (hx : x ∈ N) : x ∈ r := by
  rcases Classical.em (x ∈ r) with h | h
  · exact h
  · have h1 : (x :: r).Nodup := List.nodup_cons.2 ⟨h, hr⟩
    have := nodup_len h1 (b := N) fun y hy => by
      rcases List.mem_cons.1 hy with rfl | hy
      · exact hx
      · exact hs y hy
    rw [List.length_cons] at this
    omega
/-- An order: each node once, each edge forward. -/
theorem ord_facts {l : List Ed} {r : List Int} (h : ordL l = some r) : r.Nodup ∧ (∀ x, x ∈ r ↔ x ∈ nodesL l) ∧ r.length = (nodesL l).length ∧ ∀ e ∈ l, 0 ≤ plc r e.frm ∧ plc r e.frm < plc r e.to := by
  obtain ⟨⟨h1, h2, h3⟩, h4⟩ := ordGo_facts _ (placed_nil l (nodesL l)) h
  rw [List.length_nil, Nat.zero_add] at h4
  refine ⟨h1, fun x => ⟨h2 x, full_mem h1 h2 h4⟩, h4, fun e he => ?_⟩
  have ht : e.to ∈ r := full_mem h1 h2 h4 (mem_nodes.2 ⟨e, he, .inr rfl⟩)
  obtain ⟨k, hk, hke⟩ := List.mem_iff_getElem.1 ht
  have hix : ix r k = e.to := by rw [ix_at hk]; exact hke
  have hf := h3 k hk e he hix.symm
  have := plc_nodup h1 hk
  rw [hix] at this
  have h5 := plc_lt_take hf
  omega
theorem ord_rch {l : List Ed} {r : List Int} (h : ∀ e ∈ l, plc r e.frm < plc r e.to) {a b : Int} (hr : Rch l a b) : plc r a ≤ plc r b := by
  induction hr with
  | refl _ => exact Int.le_refl _
  | step he _ ih =>
    have := h _ he
    omega
/-- There is no order exactly if there is a loop. -/
theorem ord_none {l : List Ed} : ordL l = none ↔ ∃ e ∈ l, Rch l e.to e.frm := by
  constructor
  · intro h
    obtain ⟨p, ⟨p1, p2, p3⟩, p4, p5⟩ := ordGo_stuck _ (placed_nil l (nodesL l)) (by simp) h
    -- the nodes that were not placed
    obtain ⟨u, hu1, hu2⟩ : ∃ u ∈ nodesL l, u ∉ p := by
      rcases Classical.em (∃ u ∈ nodesL l, u ∉ p) with h | h
      · exact h
      · have := nodup_len (inc_nodup (nodes_inc l)) (b := p) fun x hx => by
          rcases Classical.em (x ∈ p) with hm | hm
          · exact hm
          · exact absurd ⟨x, hx, hm⟩ h
        omega
    refine loop_of (U := (nodesL l).filter fun x => !hasB p x) (u := u) ?_ ?_
    · rw [List.mem_filter]
      exact ⟨hu1, by rw [hasB_false hu2]; rfl⟩
    · intro x hx
      rw [List.mem_filter] at hx
      have hxp : x ∉ p := fun hm => by rw [hasB_true hm] at hx; exact absurd hx.2 (by decide)
      unfold pick at p5
      rw [List.find?_eq_none] at p5
      have hb := p5 x hx.1
      rw [pickB_out hxp] at hb
      unfold freeB at hb
      rw [decide_eq_true_eq] at hb
      rcases Classical.em (∃ e ∈ l, e.to = x ∧ e.frm ∉ p) with ⟨e, he, ht, hf⟩ | hn
      · refine ⟨e, he, ht, ?_⟩
        rw [List.mem_filter]
        exact ⟨mem_nodes.2 ⟨e, he, .inl rfl⟩, by rw [hasB_false hf]; rfl⟩
      · refine absurd (fun e he ht => ?_) hb
        rcases Classical.em (e.frm ∈ p) with hm | hm
        · exact hm
        · exact absurd ⟨e, he, ht, hm⟩ hn
  · rintro ⟨e, he, hr⟩
    rcases h : ordL l with _ | r
    · rfl
    · obtain ⟨_, _, _, hf⟩ := ord_facts h
      have h1 := ord_rch (fun e he => (hf e he).2) hr
      have h2 := (hf e he).2
      omega
end Go.Proofs.Ytlaklfiodmnocaa
