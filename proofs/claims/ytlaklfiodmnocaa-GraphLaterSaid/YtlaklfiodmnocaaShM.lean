/- The best path that is taken, edge by edge, at the least positions. Plain mathematics. -/
import Derived.Test.YtlaklfiodmnocaaLabM
namespace Go.Proofs.Ytlaklfiodmnocaa

noncomputable def isBest (l : List Ed) (t x c : Int) (k : Nat) : Bool := @decide (Best l t x c k) (Classical.propDecidable _)
theorem isBest_iff {l : List Ed} {t x c : Int} {k : Nat} : isBest l t x c k = true ↔ Best l t x c k := @decide_eq_true_iff _ (Classical.propDecidable _)
/-- The edge at the least position that begins a best path. -/
noncomputable def nextE (l : List Ed) (t x c : Int) (k : Nat) : Option Ed := l.find? fun e => decide (e.frm = x) && isBest l t e.to (c - e.cost) k
noncomputable def path (l : List Ed) (t : Int) : Nat → Int → Int → List Ed
  | 0, _, _ => []
  | k + 1, x, c => match nextE l t x c k with
    | some e => e :: path l t k e.to (c - e.cost)
    | none => []
theorem next_some {l : List Ed} {t x c : Int} {k : Nat} (h : Best l t x c (k + 1)) : ∃ e, nextE l t x c k = some e ∧ e ∈ l ∧ e.frm = x ∧ Best l t e.to (c - e.cost) k := by
  obtain ⟨e, he, hf, hb⟩ := best_next h
  rcases hn : nextE l t x c k with _ | e2
  · unfold nextE at hn
    rw [List.find?_eq_none] at hn
    have := hn e he
    rw [decide_eq_true hf, isBest_iff.2 hb] at this
    exact absurd rfl this
  · have h1 := List.find?_some hn
    have h2 := List.mem_of_find?_eq_some hn
    rw [Bool.and_eq_true, decide_eq_true_eq, isBest_iff] at h1
    exact ⟨e2, rfl, h2, h1.1, h1.2⟩
theorem path_step {l : List Ed} {t x c : Int} {k : Nat} {e : Ed} (h : nextE l t x c k = some e) : path l t (k + 1) x c = e :: path l t k e.to (c - e.cost) := by
  rw [path, h]
theorem path_facts {l : List Ed} {t : Int} : ∀ (k : Nat) {x c : Int}, Best l t x c k → Sub (path l t k x c) l ∧ Pth (path l t k x c) x t ∧ cst (path l t k x c) = c ∧ (path l t k x c).length = k
  | 0, x, c, h => by
    obtain ⟨⟨p, p1, p2, p3, p4⟩, _⟩ := h
    have hp : p = [] := List.length_eq_zero_iff.1 p4
    subst hp
    exact ⟨(fun _ h => by cases h), p2, p3, rfl⟩
  | k + 1, x, c, h => by
    obtain ⟨e, h1, h2, h3, h4⟩ := next_some h
    obtain ⟨q1, q2, q3, q4⟩ := path_facts k h4
    rw [path_step h1]
    refine ⟨sub_cons.2 ⟨h2, q1⟩, ⟨h3, q2⟩, ?_, by rw [List.length_cons, q4]⟩
    rw [cst, q3]
    omega
/-- What a best path costs and how many edges it has. -/
noncomputable def bestOf (l : List Ed) (t x : Int) : Option (Int × Nat) :=
  @dite _ (∃ q : Int × Nat, Best l t x q.1 q.2) (Classical.propDecidable _) (fun h => some h.choose) (fun _ => none)
theorem bestOf_some {l : List Ed} {t x c : Int} {k : Nat} (h : Best l t x c k) : bestOf l t x = some (c, k) := by
  unfold bestOf
  have hx : ∃ q : Int × Nat, Best l t x q.1 q.2 := ⟨(c, k), h⟩
  rw [dif_pos hx]
  obtain ⟨h1, h2⟩ := Best.unique hx.choose_spec h
  congr 1
  exact Prod.ext h1 h2
theorem best_rch {l : List Ed} {t x c : Int} {k : Nat} (h : Best l t x c k) : Rch l x t := by
  obtain ⟨⟨p, p1, p2, _⟩, _⟩ := h
  exact path_rch p1 p2
theorem bestOf_none {l : List Ed} {t x : Int} (h : ¬ Rch l x t) : bestOf l t x = none := by
  unfold bestOf
  rw [dif_neg]
  rintro ⟨q, hq⟩
  exact h (best_rch hq)
theorem bestOf_of {l : List Ed} {t x c : Int} {k : Nat} (h : bestOf l t x = some (c, k)) : Best l t x c k := by
  unfold bestOf at h
  by_cases hx : ∃ q : Int × Nat, Best l t x q.1 q.2
  · rw [dif_pos hx] at h
    injection h with h
    have := hx.choose_spec
    rw [h] at this
    exact this
  · rw [dif_neg hx] at h
    cases h
/-- What Shortest hands back. -/
noncomputable def shP (l : List Ed) (a b : Int) : List Int := match bestOf l b a with
  | none => []
  | some (c, k) => (path l b k a c).map Ed.id
noncomputable def shC (l : List Ed) (a b : Int) : Int := match bestOf l b a with
  | none => 0
  | some (c, _) => c
noncomputable def shK (l : List Ed) (a b : Int) : Bool := match bestOf l b a with
  | none => false
  | some _ => true
theorem sh_some {l : List Ed} {a b c : Int} {k : Nat} (h : Best l b a c k) : shP l a b = (path l b k a c).map Ed.id ∧ shC l a b = c ∧ shK l a b = true := by
  unfold shP shC shK
  rw [bestOf_some h]
  exact ⟨rfl, rfl, rfl⟩
theorem sh_none {l : List Ed} {a b : Int} (h : ¬ Rch l a b) : shP l a b = [] ∧ shC l a b = 0 ∧ shK l a b = false := by
  unfold shP shC shK
  rw [bestOf_none h]
  exact ⟨rfl, rfl, rfl⟩
/-- A graph has a best path wherever it has one: the labels at the end show it. -/
theorem best_of_labels {l : List Ed} {t : Int} {L : List Lb} (h : Lok l t L) (hs : Stable l L) (x : Int) : (∃ (c : Int) (k : Nat), findL L x = ⟨x, c, k, true⟩ ∧ Best l t x c k) ∨ (findL L x = ⟨x, 0, 0, false⟩ ∧ ¬ Rch l x t) := by
  obtain ⟨h1, h2⟩ := lok_best h hs x
  cases ho : (findL L x).ok with
  | true =>
    obtain ⟨p, p1, p2, p3, p4, _⟩ := h.sound x ho
    have hf : findL L x = ⟨x, (findL L x).cost, (p.length : Int), true⟩ := by
      have hnode := find_node L x
      cases hg : findL L x with
      | mk a b c d =>
        rw [hg] at ho hnode p4
        simp only at ho hnode p4
        rw [hnode, ho, ← p4]
    exact .inl ⟨_, _, hf, (h1 _ _).2 hf⟩
  | false =>
    right
    have hr := h.rest x ho
    have hf : findL L x = ⟨x, 0, 0, false⟩ := by
      have hnode := find_node L x
      cases hg : findL L x with
      | mk a b c d =>
        rw [hg] at ho hnode hr
        simp only at ho hnode hr
        rw [hnode, ho, hr.1, hr.2]
    exact ⟨hf, h2.2 hf⟩
/-- When the label through an edge is the one at hand. -/
theorem thr_eq {l : List Ed} {t x c : Int} {k : Nat} {L : List Lb} {e : Ed} (h : Lok l t L) (hs : Stable l L) : thrL e (findL L e.to) = ⟨x, c, ((k + 1 : Nat) : Int), true⟩ ↔ (decide (e.frm = x) && isBest l t e.to (c - e.cost) k) = true := by
  rw [Bool.and_eq_true, decide_eq_true_eq, isBest_iff, (lok_best h hs e.to).1]
  have hn := find_node L e.to
  cases hg : findL L e.to with
  | mk a b d f =>
    rw [hg] at hn
    simp only at hn
    subst hn
    unfold thrL
    simp only [Lb.mk.injEq, true_and]
    constructor
    · rintro ⟨h1, h2, h3, h4⟩
      exact ⟨h1, by omega, by omega, h4⟩
    · rintro ⟨h1, h2, h3, h4⟩
      exact ⟨h1, by omega, by omega, h4⟩
theorem nextE_at {l : List Ed} {t x c : Int} {k i : Nat} (hi : i < l.length) (h : ∀ e ∈ l.take i, (decide (e.frm = x) && isBest l t e.to (c - e.cost) k) = false) (hx : (decide (eF l i = x) && isBest l t (eT l i) (c - eC l i) k) = true) : nextE l t x c k = some ⟨eI l i, eF l i, eT l i, eC l i⟩ := by
  unfold nextE
  rw [List.find?_eq_some_iff_append]
  exact ⟨hx, l.take i, l.drop (i + 1), by rw [← drop_e hi, List.take_append_drop], fun a ha => by rw [h a ha]; rfl⟩
theorem nonext_step {l : List Ed} {t x c : Int} {k i : Nat} (hi : i < l.length) (h : ∀ e ∈ l.take i, (decide (e.frm = x) && isBest l t e.to (c - e.cost) k) = false) (hx : (decide (eF l i = x) && isBest l t (eT l i) (c - eC l i) k) = false) : ∀ e ∈ l.take (i + 1), (decide (e.frm = x) && isBest l t e.to (c - e.cost) k) = false := fun e he => by
  rcases (mem_takeE hi).1 he with h1 | rfl
  · exact h e h1
  · exact hx
/-- There is an edge to take. -/
theorem next_found {l : List Ed} {t x c : Int} {k : Nat} (hb : Best l t x c (k + 1)) (h : ∀ e ∈ l.take l.length, (decide (e.frm = x) && isBest l t e.to (c - e.cost) k) = false) : False := by
  obtain ⟨e, h1, h2, h3, h4⟩ := next_some hb
  rw [List.take_length] at h
  have := h e h2
  rw [decide_eq_true h3, isBest_iff.2 h4] at this
  cases this
end Go.Proofs.Ytlaklfiodmnocaa
