/- The order of the nodes as the package finds it: for how many edges each node waits. Plain mathematics over values. -/
import Derived.Test.YtlaklfiodmnocaaOrderM
import Derived.Test.YtlaklfiodmnocaaReachG
namespace Go.Proofs.Ytlaklfiodmnocaa
open Go.RowKit

/-- How many edges lead to a node from one that is not in o. -/
def cntN (l : List Ed) (o : List Int) (i : Int) : Nat := (l.filter fun e => decide (e.to = i) && !hasB o e.frm).length
theorem cntN_cons (e : Ed) (l : List Ed) (o : List Int) (i : Int) : cntN (e :: l) o i = (if e.to = i ∧ e.frm ∉ o then 1 else 0) + cntN l o i := by
  unfold cntN
  rw [List.filter_cons]
  by_cases h1 : e.to = i
  · by_cases h2 : e.frm ∈ o
    · simp [h1, h2, hasB_true h2]
    · simp [h1, h2, hasB_false h2]
      omega
  · simp [h1]
theorem cntN_zero {o : List Int} {i : Int} : ∀ {l : List Ed}, cntN l o i = 0 ↔ ∀ e ∈ l, e.to = i → e.frm ∈ o
  | [] => by simp [cntN]
  | e :: l => by
    rw [cntN_cons]
    constructor
    · intro h
      have h1 : cntN l o i = 0 := by omega
      have ih := cntN_zero.1 h1
      intro e2 he ht
      rcases List.mem_cons.1 he with rfl | he
      · rcases Classical.em (e2.frm ∈ o) with h2 | h2
        · exact h2
        · rw [if_pos ⟨ht, h2⟩] at h
          omega
      · exact ih e2 he ht
    · intro h
      rw [if_neg (fun h2 => h2.2 (h e (List.mem_cons_self ..) h2.1)), cntN_zero.2 (fun e2 he => h e2 (List.mem_cons_of_mem _ he))]
theorem cntN_snoc {o : List Int} {n i : Int} (hn : n ∉ o) : ∀ (l : List Ed), cntN l o i = cntN l (o ++ [n]) i + (tgt l n).count i
  | [] => by simp [cntN, tgt]
  | e :: l => by
    have ih := cntN_snoc (i := i) hn l
    rw [cntN_cons, cntN_cons]
    have ht : (tgt (e :: l) n).count i = (if e.frm = n ∧ e.to = i then 1 else 0) + (tgt l n).count i := by
      unfold tgt
      rw [List.filter_cons]
      by_cases h1 : e.frm = n
      · rw [if_pos (by simp [h1]), List.map_cons, List.count_cons]
        by_cases h2 : e.to = i
        · simp [h1, h2]; omega
        · simp [h1, h2]
      · rw [if_neg (by simp [h1]), if_neg (fun h => h1 h.1)]
        omega
    rw [ht]
    by_cases h1 : e.to = i
    · by_cases h2 : e.frm = n
      · have h3 : e.frm ∉ o := by rw [h2]; exact hn
        rw [if_pos ⟨h1, h3⟩, if_neg (fun h => h.2 (by rw [h2]; simp)), if_pos ⟨h2, h1⟩]
        omega
      · by_cases h3 : e.frm ∈ o
        · rw [if_neg (fun h => h.2 h3), if_neg (fun h => h.2 (List.mem_append_left _ h3)), if_neg (fun h => h2 h.1)]
          omega
        · rw [if_pos ⟨h1, h3⟩, if_pos ⟨h1, fun h => by rcases List.mem_append.1 h with h | h; exact h3 h; simp at h; exact h2 h⟩, if_neg (fun h => h2 h.1)]
          omega
    · rw [if_neg (fun h => h1 h.1), if_neg (fun h => h1 h.1), if_neg (fun h => h1 h.2)]
      omega
theorem cntN_le (l : List Ed) (o : List Int) (i : Int) : cntN l o i ≤ l.length := List.length_filter_le ..
theorem tgt_count (l : List Ed) (n i : Int) : (tgt l n).count i ≤ l.length := Nat.le_trans List.count_le_length (tgt_len l n)
/-- What a node still waits for, as the map holds it: the edges from nodes that are not placed, and those of T. -/
def wm (l : List Ed) (o T : List Int) : Int → Option Value := fun i => if i ∈ nodesL l ∧ i ∉ o then some (.int .i64 ((cntN l o i + T.count i : Nat) : Int)) else none
theorem wm_in {l : List Ed} {o T : List Int} {i : Int} (h : i ∈ nodesL l ∧ i ∉ o) : wm l o T i = some (.int .i64 ((cntN l o i + T.count i : Nat) : Int)) := if_pos h
structure Kahn (l : List Ed) (o F T : List Int) : Prop where
  placed : Placed l (nodesL l) o
  inc : Inc F
  mem : ∀ x, x ∈ F ↔ x ∈ nodesL l ∧ x ∉ o ∧ cntN l o x + T.count x = 0
  goes : ∀ t ∈ T, t ∈ nodesL l ∧ t ∉ o
theorem kahn_dec {l : List Ed} {o F T : List Int} {t : Int} (h : Kahn l o F (t :: T)) : wm l o (t :: T) t = some (.int .i64 ((cntN l o t + T.count t + 1 : Nat) : Int)) ∧ upd (wm l o (t :: T)) t (.int .i64 ((cntN l o t + T.count t : Nat) : Int)) = wm l o T := by
  have hg := h.goes t (List.mem_cons_self ..)
  refine ⟨?_, ?_⟩
  · rw [wm_in hg, List.count_cons_self]
    rfl
  · funext i
    unfold upd
    by_cases hi : i = t
    · rw [if_pos hi, hi, wm_in hg]
    · rw [if_neg hi]
      unfold wm
      by_cases hin : i ∈ nodesL l ∧ i ∉ o
      · rw [if_pos hin, if_pos hin, List.count_cons_of_ne (fun e => hi e.symm)]
      · rw [if_neg hin, if_neg hin]
theorem kahn_free {l : List Ed} {o F T : List Int} {t : Int} (h : Kahn l o F (t :: T)) (hp : cntN l o t + T.count t = 0) : t ∉ F ∧ Kahn l o (ins t F) T := by
  have hg := h.goes t (List.mem_cons_self ..)
  refine ⟨fun hm => ?_, h.placed, ins_inc h.inc, fun x => ?_, fun x hx => h.goes x (List.mem_cons_of_mem _ hx)⟩
  · have := ((h.mem t).1 hm).2.2
    rw [List.count_cons_self] at this
    omega
  · rw [mem_ins]
    by_cases hx : x = t
    · subst hx
      exact ⟨fun _ => ⟨hg.1, hg.2, hp⟩, fun _ => .inl rfl⟩
    · rw [h.mem x, List.count_cons_of_ne (fun e => hx e.symm)]
      constructor
      · rintro (h1 | h1)
        · exact absurd h1 hx
        · exact h1
      · exact .inr
theorem kahn_wait {l : List Ed} {o F T : List Int} {t : Int} (h : Kahn l o F (t :: T)) (hp : cntN l o t + T.count t ≠ 0) : Kahn l o F T := by
  refine ⟨h.placed, h.inc, fun x => ?_, fun x hx => h.goes x (List.mem_cons_of_mem _ hx)⟩
  rw [h.mem x]
  by_cases hx : x = t
  · subst hx
    rw [List.count_cons_self]
    constructor
    · rintro ⟨_, _, h3⟩; omega
    · rintro ⟨_, _, h3⟩; exact absurd h3 hp
  · rw [List.count_cons_of_ne (fun e => hx e.symm)]
theorem find_least {P : Int → Bool} {n : Int} : ∀ {N : List Int}, Inc N → n ∈ N → P n = true → (∀ x ∈ N, P x = true → n ≤ x) → N.find? P = some n
  | [], _, h, _, _ => by cases h
  | x :: N, hi, hn, hp, hl => by
    rw [List.find?_cons]
    rcases hx : P x with _ | _
    · simp only
      rcases List.mem_cons.1 hn with rfl | hn
      · rw [hp] at hx; cases hx
      · exact find_least (inc_cons.1 hi).2 hn hp (fun y hy => hl y (List.mem_cons_of_mem _ hy))
    · simp only
      have h1 := hl x (List.mem_cons_self ..) hx
      rcases List.mem_cons.1 hn with rfl | hn
      · rfl
      · have := (inc_cons.1 hi).1 n hn
        omega
theorem kahn_pick {l : List Ed} {o F : List Int} {n : Int} (h : Kahn l o (n :: F) []) : pick l (nodesL l) o = some n := by
  obtain ⟨h1, h2, h3⟩ := (h.mem n).1 (List.mem_cons_self ..)
  unfold pick
  refine find_least (nodes_inc l) h1 ?_ (fun x hx hpx => ?_)
  · rw [pickB_out h2]
    exact freeB_true (cntN_zero.1 (by omega))
  · have hxo : x ∉ o := fun hm => by rw [pickB_in hm] at hpx; cases hpx
    rw [pickB_out hxo] at hpx
    have hxF : x ∈ n :: F := (h.mem x).2 ⟨hx, hxo, by rw [cntN_zero.2 (freeB_of hpx)]; rfl⟩
    rcases List.mem_cons.1 hxF with rfl | hxF
    · exact Int.le_refl _
    · have := (inc_cons.1 h.inc).1 x hxF
      omega
theorem kahn_lt {l : List Ed} {o F : List Int} {n : Int} (h : Kahn l o (n :: F) []) : o.length < (nodesL l).length := by
  obtain ⟨h1, h2, _⟩ := (h.mem n).1 (List.mem_cons_self ..)
  have := nodup_len (List.nodup_cons.2 ⟨h2, h.placed.1⟩) (b := nodesL l) fun x hx => by
    rcases List.mem_cons.1 hx with rfl | hx
    · exact h1
    · exact h.placed.2.1 x hx
  rw [List.length_cons] at this
  omega
theorem kahn_next {l : List Ed} {o F : List Int} {n : Int} (h : Kahn l o (n :: F) []) : del (wm l o []) n = wm l (o ++ [n]) (tgt l n) ∧ Kahn l (o ++ [n]) F (tgt l n) := by
  obtain ⟨h1, h2, h3⟩ := (h.mem n).1 (List.mem_cons_self ..)
  have hin := inc_cons.1 h.inc
  refine ⟨?_, placed_step h.placed (kahn_pick h), hin.2, fun x => ?_, fun t ht => ?_⟩
  · funext i
    unfold del wm
    by_cases hi : i = n
    · rw [if_pos hi, if_neg (fun hh => hh.2 (by rw [hi]; simp))]
    · rw [if_neg hi]
      by_cases hin : i ∈ nodesL l ∧ i ∉ o
      · rw [if_pos hin, if_pos ⟨hin.1, fun hm => by rcases List.mem_append.1 hm with hm | hm; exact hin.2 hm; simp at hm; exact hi hm⟩, cntN_snoc h2 l]
        simp
      · rw [if_neg hin, if_neg (fun hh => hin ⟨hh.1, fun hm => hh.2 (List.mem_append_left _ hm)⟩)]
  · rw [← cntN_snoc h2 l]
    have hx := h.mem x
    rw [List.count_nil, Nat.add_zero] at hx
    constructor
    · intro hm
      have h4 := hx.1 (List.mem_cons_of_mem _ hm)
      refine ⟨h4.1, fun hh => ?_, h4.2.2⟩
      rcases List.mem_append.1 hh with hh | hh
      · exact h4.2.1 hh
      · simp at hh
        have := hin.1 x hm
        omega
    · rintro ⟨h4, h5, h6⟩
      rcases List.mem_cons.1 (hx.2 ⟨h4, fun hm => h5 (List.mem_append_left _ hm), h6⟩) with h7 | h7
      · exact absurd (by rw [h7]; simp) h5
      · exact h7
  · obtain ⟨e, he, hf, rfl⟩ := mem_tgt.1 ht
    refine ⟨mem_nodes.2 ⟨e, he, .inr rfl⟩, fun hm => ?_⟩
    have hno : e.to ∈ o → False := fun hm => by
      obtain ⟨k, hk, hke⟩ := List.mem_iff_getElem.1 hm
      have := h.placed.2.2 k hk e he (by rw [ix_at hk]; exact hke.symm)
      rw [hf] at this
      exact h2 (List.mem_of_mem_take this)
    rcases List.mem_append.1 hm with hm | hm
    · exact hno hm
    · simp at hm
      -- an edge from n to itself
      have h7 := (cntN_zero (l := l) (o := o) (i := n)).1 (by omega) e he hm
      rw [hf] at h7
      exact h2 h7
theorem kahn_none {l : List Ed} {o : List Int} (h : Kahn l o [] []) : pick l (nodesL l) o = none := by
  unfold pick
  rw [List.find?_eq_none]
  intro x hx hpx
  have hxo : x ∉ o := fun hm => by rw [pickB_in hm] at hpx; cases hpx
  rw [pickB_out hxo] at hpx
  exact absurd ((h.mem x).2 ⟨hx, hxo, by rw [cntN_zero.2 (freeB_of hpx)]; rfl⟩) (by simp)
theorem kahn_all {l : List Ed} {o : List Int} (h : Kahn l o [] []) : (∀ i, wm l o [] i = none) ↔ (nodesL l).length ≤ o.length := by
  constructor
  · intro hn
    refine nodup_len (inc_nodup (nodes_inc l)) fun x hx => ?_
    rcases Classical.em (x ∈ o) with h1 | h1
    · exact h1
    · have := hn x
      rw [wm_in ⟨hx, h1⟩] at this
      cases this
  · intro hl i
    unfold wm
    rw [if_neg]
    rintro ⟨h1, h2⟩
    have := nodup_len (List.nodup_cons.2 ⟨h2, h.placed.1⟩) (b := nodesL l) fun x hx => by
      rcases List.mem_cons.1 hx with rfl | hx
      · exact h1
      · exact h.placed.2.1 x hx
    rw [List.length_cons] at this
    omega
/-- The first free nodes. -/
theorem kahn_start (l : List Ed) : Kahn l [] ((nodesL l).filter fun n => decide (cntN l [] n = 0)) [] := by
  refine ⟨placed_nil l _, (nodes_inc l).filter _, fun x => ?_, by simp⟩
  rw [List.mem_filter, decide_eq_true_eq]
  simp
end Go.Proofs.Ytlaklfiodmnocaa
