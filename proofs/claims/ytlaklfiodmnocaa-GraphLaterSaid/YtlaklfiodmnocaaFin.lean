/- What the last laws say: a path read from its edges' names; the best path's facts; edges turned round; fewer edges. Plain mathematics. -/
import Derived.Test.YtlaklfiodmnocaaSameEq
namespace Go.Proofs.Ytlaklfiodmnocaa

theorem least {P : Nat → Prop} (n : Nat) (h : P n) : ∃ m, P m ∧ ∀ k, P k → m ≤ k := by
  induction n using Nat.strongRecOn with
  | ind n ih =>
    rcases Classical.em (∃ m, m < n ∧ P m) with ⟨m, hm, hp⟩ | hn
    · exact ih m hm hp
    · exact ⟨n, h, fun k hk => by
        rcases Nat.lt_or_ge k n with hlt | hge
        · exact absurd ⟨k, hlt, hk⟩ hn
        · exact hge⟩
theorem grph_cost {l : List Ed} (hg : Grph l) : ∀ e ∈ l, 0 ≤ e.cost := fun e he => (hg.2.1 e he).2.2.2.2.1
/-- Wherever there is a path, there is a best one. -/
theorem best_ex {l : List Ed} (hc : ∀ e ∈ l, 0 ≤ e.cost) {t x : Int} (h : Rch l x t) : ∃ c k, Best l t x c k := by
  obtain ⟨p, p1, p2⟩ := rch_path h
  obtain ⟨m, ⟨q, q1, q2, q3⟩, hm⟩ := least (P := fun m => ∃ p, Sub p l ∧ Pth p x t ∧ (cst p).toNat = m) _ ⟨p, p1, p2, rfl⟩
  obtain ⟨k, ⟨r, r1, r2, r3, r4⟩, hk⟩ := least (P := fun k => ∃ p, Sub p l ∧ Pth p x t ∧ (cst p).toNat = m ∧ p.length = k) _ ⟨q, q1, q2, q3, rfl⟩
  refine ⟨m, k, ⟨r, r1, r2, by have := cst_nonneg hc r1; omega, r4⟩, fun s s1 s2 => ?_⟩
  have a := hm _ ⟨s, s1, s2, rfl⟩
  have b := cst_nonneg hc s1
  unfold le2
  rcases Nat.lt_or_ge m (cst s).toNat with hlt | hge
  · omega
  · have := hk _ ⟨s, s1, s2, by omega, rfl⟩
    omega
theorem shK_iff {l : List Ed} (hg : Grph l) {a b : Int} : shK l a b = true ↔ Rch l a b := by
  constructor
  · intro h
    rcases Classical.em (Rch l a b) with hr | hr
    · exact hr
    · rw [(sh_none hr).2.2] at h
      cases h
  · intro h
    obtain ⟨c, k, hb⟩ := best_ex (grph_cost hg) h
    exact (sh_some hb).2.2
theorem mem_reach1 {l : List Ed} {a x : Int} : x ∈ reachL l [a] ↔ Rch l a x := by
  rw [mem_reach]
  constructor
  · rintro ⟨b, hb, h⟩
    rw [List.mem_singleton] at hb
    rw [← hb]
    exact h
  · intro h
    exact ⟨a, List.mem_singleton.2 rfl, h⟩
theorem mem_back1 {l : List Ed} {a x : Int} : x ∈ backL l [a] ↔ Rch l x a := by
  rw [mem_back]
  constructor
  · rintro ⟨b, hb, h⟩
    rw [List.mem_singleton] at hb
    rw [← hb]
    exact h
  · intro h
    exact ⟨a, List.mem_singleton.2 rfl, h⟩
theorem has_reach {l : List Ed} (hg : Grph l) (a b : Int) : hasB (reachL l [a]) b = shK l a b := by
  rw [Bool.eq_iff_iff, hasB_iff, mem_reach1, shK_iff hg]
theorem has_back {l : List Ed} (hg : Grph l) (a b : Int) : hasB (backL l [b]) a = shK l a b := by
  rw [Bool.eq_iff_iff, hasB_iff, mem_back1, shK_iff hg]
/-! ### A path read from its edges' names -/
theorem findE_in : ∀ {l : List Ed} {e : Ed}, (l.map Ed.id).Nodup → e ∈ l → findE l e.id = some e
  | [], _, _, he => by cases he
  | y :: l, e, hn, he => by
    rw [List.map_cons, List.nodup_cons] at hn
    unfold findE
    rw [List.find?_cons]
    rcases List.mem_cons.1 he with rfl | he
    · simp
    · have hb : (y.id == e.id) = false := beq_eq_false_iff_ne.2 fun h => hn.1 (h ▸ List.mem_map_of_mem he)
      rw [hb]
      exact findE_in hn.2 he
theorem wlk_of {l : List Ed} (hn : (l.map Ed.id).Nodup) : ∀ {p : List Ed} {a t n : Int}, Sub p l → Pth p a t → wlk l (p.map Ed.id) n a t = (n + cst p, true)
  | [], a, t, n, _, h => by
    have h : a = t := h
    rw [List.map_nil, wlk, decide_eq_true h, cst, Int.add_zero]
  | e :: p, a, t, n, hs, h => by
    obtain ⟨h1, h2⟩ := sub_cons.1 hs
    rw [List.map_cons, wlk, findE_in hn h1]
    show (if e.frm = a then wlk l (p.map Ed.id) (n + e.cost) e.to t else (0, false)) = _
    rw [if_pos h.1, wlk_of hn h2 h.2, cst, Int.add_assoc]
theorem wlk_path {l : List Ed} : ∀ {p : List Int} {a t n k : Int}, wlk l p n a t = (k, true) → ∃ q, Sub q l ∧ Pth q a t ∧ q.length = p.length ∧ k = n + cst q
  | [], a, t, n, k, h => by
    rw [wlk] at h
    injection h with h1 h2
    have h3 : a = t := of_decide_eq_true h2
    exact ⟨[], (fun _ h => by cases h), h3, rfl, by rw [cst]; omega⟩
  | i :: p, a, t, n, k, h => by
    rw [wlk] at h
    rcases hf : findE l i with _ | e
    · rw [hf] at h
      simp at h
    · rw [hf] at h
      simp only at h
      by_cases he : e.frm = a
      · rw [if_pos he] at h
        obtain ⟨q, q1, q2, q3, q4⟩ := wlk_path h
        exact ⟨e :: q, sub_cons.2 ⟨(findE_mem hf).1, q1⟩, ⟨he, q2⟩, by simp [q3], by rw [cst]; omega⟩
      · rw [if_neg he] at h
        simp at h
theorem sh_walk {l : List Ed} (hg : Grph l) {a b : Int} (h : shK l a b = true) : wlk l (shP l a b) 0 a b = (shC l a b, true) := by
  obtain ⟨c, k, hb⟩ := best_ex (grph_cost hg) ((shK_iff hg).1 h)
  obtain ⟨e1, e2, _⟩ := sh_some hb
  obtain ⟨p1, p2, p3, _⟩ := path_facts k hb
  rw [e1, e2, wlk_of hg.2.2 p1 p2, p3, Int.zero_add]
theorem sh_empty {l : List Ed} (hg : Grph l) {a b : Int} (h : shK l a b = false) : shP l a b = [] ∧ shC l a b = 0 := by
  have hr : ¬ Rch l a b := fun hr => by
    rw [(shK_iff hg).2 hr] at h
    cases h
  exact ⟨(sh_none hr).1, (sh_none hr).2.1⟩
theorem sh_least {l : List Ed} (hg : Grph l) {a b k : Int} {o : List Int} (h : wlk l o 0 a b = (k, true)) : shK l a b = true ∧ (shC l a b < k ∨ shC l a b = k ∧ (shP l a b).length ≤ o.length) := by
  obtain ⟨q, q1, q2, q3, q4⟩ := wlk_path h
  obtain ⟨c, j, hb⟩ := best_ex (grph_cost hg) (path_rch q1 q2)
  obtain ⟨e1, e2, e3⟩ := sh_some hb
  refine ⟨e3, ?_⟩
  have hm := hb.2 q q1 q2
  rw [e1, e2, List.length_map, (path_facts j hb).2.2.2]
  unfold le2 at hm
  omega
/-! ### Edges turned round -/
theorem turn_grph {l : List Ed} (hg : Grph l) : Grph (l.map turn) := by
  refine ⟨by rw [List.length_map]; exact hg.1, fun e he => ?_, ?_⟩
  · obtain ⟨x, hx, rfl⟩ := List.mem_map.1 he
    obtain ⟨h1, h2, h3, h4, h5, h6⟩ := hg.2.1 x hx
    exact ⟨h3, h4, h1, h2, h5, h6⟩
  · rw [List.map_map]
    exact hg.2.2
theorem sub_turned {l p : List Ed} (h : Sub p l) : Sub (p.reverse.map turn) (l.map turn) := fun e he => by
  obtain ⟨x, hx, rfl⟩ := List.mem_map.1 he
  exact List.mem_map_of_mem (h x (List.mem_reverse.1 hx))
theorem best_turned {l : List Ed} {t x c : Int} {k : Nat} (h : Best l t x c k) : Best (l.map turn) x t c k := by
  obtain ⟨⟨p, p1, p2, p3, p4⟩, hm⟩ := h
  refine ⟨⟨p.reverse.map turn, sub_turned p1, (pth_turned p2).1, (pth_turned p2).2.trans p3, by rw [List.length_map, List.length_reverse, p4]⟩, fun q q1 q2 => ?_⟩
  have h1 := sub_turned q1
  rw [map_turn] at h1
  have h2 := hm _ h1 (pth_turned q2).1
  rwa [(pth_turned q2).2, List.length_map, List.length_reverse] at h2
theorem sh_turned {l : List Ed} (hg : Grph l) (a b : Int) : shC (l.map turn) b a = shC l a b ∧ shK (l.map turn) b a = shK l a b := by
  rcases Classical.em (Rch l a b) with hr | hr
  · obtain ⟨c, k, hb⟩ := best_ex (grph_cost hg) hr
    obtain ⟨_, e2, e3⟩ := sh_some hb
    obtain ⟨_, f2, f3⟩ := sh_some (best_turned hb)
    exact ⟨f2.trans e2.symm, f3.trans e3.symm⟩
  · obtain ⟨_, e2, e3⟩ := sh_none hr
    obtain ⟨_, f2, f3⟩ := sh_none (l := l.map turn) (fun h => hr (rch_turned.1 h))
    exact ⟨f2.trans e2.symm, f3.trans e3.symm⟩
theorem reach_set {l : List Ed} {f g : List Int} (h : ∀ x, x ∈ f ↔ x ∈ g) : reachL l f = reachL l g := by
  refine inc_ext (reach_inc _ _) (reach_inc _ _) fun x => ?_
  rw [mem_reach, mem_reach]
  exact ⟨fun ⟨a, h1, h2⟩ => ⟨a, (h a).1 h1, h2⟩, fun ⟨a, h1, h2⟩ => ⟨a, (h a).2 h1, h2⟩⟩
theorem back_turned (l : List Ed) (a b : Int) : backL l [a, b] = reachL (l.map turn) [b, a, b] := by
  refine reach_set fun x => ?_
  simp only [List.mem_cons, List.not_mem_nil, or_false]
  omega
theorem mem_reach2 {l : List Ed} {a b x : Int} : x ∈ reachL l [a, b] ↔ x ∈ reachL l [a] ∨ x ∈ reachL l [b] := by
  rw [mem_reach1, mem_reach1, mem_reach]
  constructor
  · rintro ⟨y, hy, h⟩
    simp only [List.mem_cons, List.not_mem_nil, or_false] at hy
    rcases hy with rfl | rfl
    · exact .inl h
    · exact .inr h
  · rintro (h | h)
    · exact ⟨a, by simp, h⟩
    · exact ⟨b, by simp, h⟩
theorem inc_ix {l : List Int} (h : Inc l) {k : Nat} (hk : k + 1 < l.length) : ix l k < ix l (k + 1) := by
  rw [ix_at (by omega), ix_at hk]
  exact (List.pairwise_iff_getElem.1 h) k (k + 1) (by omega) hk (by omega)
/-! ### Fewer edges -/
theorem wo_sub {l : List Ed} {ids : List Int} : ∀ e ∈ wo l ids, e ∈ l := fun _ he => (List.mem_filter.1 he).1
theorem wo_grph {l : List Ed} (hg : Grph l) (ids : List Int) : Grph (wo l ids) :=
  ⟨Nat.le_trans (List.length_filter_le _ _) hg.1, fun e he => hg.2.1 e (wo_sub e he), List.Nodup.sublist (List.filter_sublist.map Ed.id) hg.2.2⟩
theorem reach_fewer {l : List Ed} {ids f : List Int} {x : Int} (h : x ∈ reachL (wo l ids) f) : x ∈ reachL l f := by
  rw [mem_reach] at h ⊢
  obtain ⟨a, h1, h2⟩ := h
  exact ⟨a, h1, h2.mono wo_sub⟩
theorem sh_fewer {l : List Ed} (hg : Grph l) {ids : List Int} {a b : Int} (h : shK (wo l ids) a b = true) : shK l a b = true ∧ shC l a b ≤ shC (wo l ids) a b := by
  have hr := (shK_iff (wo_grph hg ids)).1 h
  obtain ⟨c, k, hb⟩ := best_ex (grph_cost (wo_grph hg ids)) hr
  obtain ⟨d, j, hb2⟩ := best_ex (grph_cost hg) (hr.mono wo_sub)
  refine ⟨(sh_some hb2).2.2, ?_⟩
  rw [(sh_some hb2).2.1, (sh_some hb).2.1]
  have := best_fewer wo_sub hb hb2
  unfold le2 at this
  omega
/-! ### Orders -/
/-- Among the first edges one begins where its end leads. -/
noncomputable def loopB (l : List Ed) (k : Nat) : Bool := @decide (∃ e ∈ l.take k, Rch l e.to e.frm) (Classical.propDecidable _)
theorem loopB_zero (l : List Ed) : loopB l 0 = false := @decide_eq_false _ (Classical.propDecidable _) (by simp)
theorem loopB_succ {l : List Ed} {k : Nat} (hk : k < l.length) : loopB l (k + 1) = (loopB l k || hasB (reachL l [eT l k]) (eF l k)) := by
  rw [Bool.eq_iff_iff, Bool.or_eq_true, hasB_iff, mem_reach1]
  unfold loopB
  rw [@decide_eq_true_iff _ (Classical.propDecidable _), @decide_eq_true_iff _ (Classical.propDecidable _)]
  constructor
  · rintro ⟨e, he, hr⟩
    rcases (mem_takeE hk).1 he with h | rfl
    · exact .inl ⟨e, h, hr⟩
    · exact .inr hr
  · rintro (⟨e, he, hr⟩ | hr)
    · exact ⟨e, (mem_takeE hk).2 (.inl he), hr⟩
    · exact ⟨_, (mem_takeE hk).2 (.inr rfl), hr⟩
theorem loopB_end {l : List Ed} : loopB l l.length = true ↔ ordL l = none := by
  unfold loopB
  rw [@decide_eq_true_iff _ (Classical.propDecidable _), List.take_length, ord_none]
end Go.Proofs.Ytlaklfiodmnocaa
