/- Labels that are improved edge by edge: what holds of them on the way, and at the end. Plain mathematics. -/
import Derived.Test.YtlaklfiodmnocaaLab
namespace Go.Proofs.Ytlaklfiodmnocaa

/-- At least as good, on ints. -/
def leI (c k d j : Int) : Prop := c < d ∨ c = d ∧ k ≤ j
theorem leI_trans {c k d j e i : Int} (h : leI c k d j) (h2 : leI d j e i) : leI c k e i := by unfold leI at *; omega

theorem find_cons (y : Lb) (L : List Lb) (n : Int) : findL (y :: L) n = if y.node = n then y else findL L n := by
  unfold findL
  by_cases h : y.node = n
  · rw [if_pos h, List.find?_cons_of_pos (p := fun x : Lb => x.node == n) (beq_iff_eq.2 h)]
    rfl
  · rw [if_neg h, List.find?_cons_of_neg (p := fun x : Lb => x.node == n) (by simp [h])]
theorem find_nil (n : Int) : findL [] n = ⟨n, 0, 0, false⟩ := rfl
theorem find_node : ∀ (L : List Lb) (n : Int), (findL L n).node = n
  | [], _ => rfl
  | y :: L, n => by
    rw [find_cons]
    split
    · assumption
    · exact find_node L n
theorem find_out {L : List Lb} {n : Int} (h : n ∉ L.map Lb.node) : findL L n = ⟨n, 0, 0, false⟩ :=
  findL_not fun _ hx e => h (e ▸ List.mem_map_of_mem hx)
theorem find_ix : ∀ {L : List Lb} {j : Nat}, j < L.length → (L.map Lb.node).Nodup → findL L (lx L j).node = lx L j
  | [], _, h, _ => absurd h (by simp)
  | y :: L, 0, _, _ => by rw [find_cons]; exact if_pos rfl
  | y :: L, j + 1, h, hn => by
    rw [List.map_cons, List.nodup_cons] at hn
    have hl : lx (y :: L) (j + 1) = lx L j := rfl
    have hj : j < L.length := by simpa using h
    rw [hl, find_cons, if_neg, find_ix hj hn.2]
    intro e
    refine hn.1 (e ▸ List.mem_map_of_mem ?_)
    rw [lx_at hj]
    exact List.getElem_mem hj
theorem find_set : ∀ {L : List Lb} {j : Nat} {x : Lb}, j < L.length → (L.map Lb.node).Nodup → (lx L j).node = x.node → ∀ z, findL (L.set j x) z = if z = x.node then x else findL L z
  | [], _, _, h, _, _, _ => absurd h (by simp)
  | y :: L, 0, x, _, hn, hx, z => by
    have hx : y.node = x.node := hx
    rw [List.set_cons_zero, find_cons, find_cons]
    by_cases hz : z = x.node
    · rw [if_pos hz.symm, if_pos hz]
    · rw [if_neg (fun e => hz e.symm), if_neg hz, if_neg (fun e => hz (e.symm.trans hx))]
  | y :: L, j + 1, x, h, hn, hx, z => by
    rw [List.map_cons, List.nodup_cons] at hn
    have hj : j < L.length := by simpa using h
    have hx : (lx L j).node = x.node := hx
    have hne : ¬ y.node = x.node := fun e => by
      refine hn.1 ?_
      rw [e, ← hx, lx_at hj]
      exact List.mem_map_of_mem (List.getElem_mem hj)
    rw [List.set_cons_succ, find_cons, find_cons, find_set hj hn.2 hx]
    by_cases hy : y.node = z
    · rw [if_pos hy, if_pos hy, if_neg (fun e => hne (hy.trans e))]
    · rw [if_neg hy, if_neg hy]
theorem map_set_node : ∀ {L : List Lb} {j : Nat} {x : Lb}, j < L.length → (lx L j).node = x.node → (L.set j x).map Lb.node = L.map Lb.node
  | [], _, _, h, _ => absurd h (by simp)
  | y :: L, 0, x, _, hx => by
    have hx : y.node = x.node := hx
    rw [List.set_cons_zero, List.map_cons, List.map_cons, hx]
  | y :: L, j + 1, x, h, hx => by
    have hj : j < L.length := by simpa using h
    rw [List.set_cons_succ, List.map_cons, List.map_cons, map_set_node hj hx]

/-- A path that a label stands for: no start twice, and each start's label is at least as good as the rest of the path. -/
def Wit (l : List Ed) (t : Int) (L : List Lb) (x c k : Int) : Prop :=
  ∃ p, Sub p l ∧ Pth p x t ∧ cst p = c ∧ (p.length : Int) = k ∧ (p.map Ed.frm).Nodup ∧ ∀ q e r, p = q ++ e :: r → (findL L e.frm).ok = true ∧ leI (findL L e.frm).cost (findL L e.frm).edges (cst (e :: r)) (r.length + 1)
/-- What holds of the labels on the way. -/
structure Lok (l : List Ed) (t : Int) (L : List Lb) : Prop where
  nodes : L.map Lb.node = ins t (nodesL l)
  zero : findL L t = ⟨t, 0, 0, true⟩
  sound : ∀ x, (findL L x).ok = true → Wit l t L x (findL L x).cost (findL L x).edges
  rest : ∀ x, (findL L x).ok = false → (findL L x).cost = 0 ∧ (findL L x).edges = 0
theorem Lok.nodup {l : List Ed} {t : Int} {L : List Lb} (h : Lok l t L) : (L.map Lb.node).Nodup := by
  rw [h.nodes]
  exact inc_nodup (ins_inc (nodes_inc l))
theorem Lok.len {l : List Ed} {t : Int} {L : List Lb} (h : Lok l t L) (hl : l.length ≤ 200) : L.length ≤ 401 := by
  have h1 := congrArg List.length h.nodes
  rw [List.length_map] at h1
  have h2 := ins_len (n := t) (l := nodesL l)
  have h3 := nodes_len l
  omega
theorem wit_bound {l : List Ed} {t x c k : Int} {L : List Lb} (hg : Grph l) (h : Wit l t L x c k) : 0 ≤ c ∧ c ≤ 1000000 * k ∧ 0 ≤ k ∧ k ≤ 400 := by
  obtain ⟨p, p1, p2, rfl, rfl, p3, _⟩ := h
  have hlen := nodup_len p3 (b := nodesL l) fun y hy => by
    obtain ⟨e, he, rfl⟩ := List.mem_map.1 hy
    exact mem_nodes.2 ⟨e, p1 e he, .inl rfl⟩
  rw [List.length_map] at hlen
  have := nodes_len l
  have hg1 := hg.1
  exact ⟨cst_nonneg (fun e he => (hg.2.1 e he).2.2.2.2.1) p1, cst_le (fun e he => (hg.2.1 e he).2.2.2.2.2) p1, by omega, by omega⟩
theorem Lok.bound {l : List Ed} {t : Int} {L : List Lb} (hg : Grph l) (h : Lok l t L) (x : Int) : 0 ≤ (findL L x).cost ∧ (findL L x).cost ≤ 400000000 ∧ 0 ≤ (findL L x).edges ∧ (findL L x).edges ≤ 400 := by
  cases hx : (findL L x).ok with
  | true =>
    have := wit_bound hg (h.sound x hx)
    omega
  | false =>
    have := h.rest x hx
    omega
theorem lessB_of {a b : Lb} (h : lessB a b = true) : a.ok = true ∧ (b.ok = true → a.cost < b.cost ∨ a.cost = b.cost ∧ a.edges < b.edges) := by
  unfold lessB at h
  split at h
  · rename_i h2
    exact ⟨h2.1, fun _ => of_decide_eq_true h⟩
  · rename_i h2
    rw [Bool.and_eq_true] at h
    refine ⟨h.1, fun hb => ?_⟩
    rw [hb] at h
    exact absurd h.2 (by decide)
theorem lessB_not {a b : Lb} (h : lessB a b = false) (ha : a.ok = true) : b.ok = true ∧ leI b.cost b.edges a.cost a.edges := by
  unfold lessB at h
  split at h
  · rename_i h2
    have := of_decide_eq_false h
    refine ⟨h2.2, ?_⟩
    unfold leI
    omega
  · rename_i h2
    rw [ha] at h h2
    cases hb : b.ok with
    | true => exact absurd ⟨rfl, hb⟩ h2
    | false => rw [hb] at h; exact absurd h (by decide)
/-- An edge that improves a label. -/
theorem Lok.step {l : List Ed} {t : Int} {L : List Lb} {e : Ed} {j : Nat} (hg : Grph l) (h : Lok l t L) (he : e ∈ l) (hj : j < L.length) (hn : (lx L j).node = e.frm) (hlt : lessB (thrL e (findL L e.to)) (lx L j) = true) : Lok l t (L.set j (thrL e (findL L e.to))) := by
  have hold : lx L j = findL L e.frm := by rw [← hn]; exact (find_ix hj h.nodup).symm
  obtain ⟨a1, a2⟩ := lessB_of hlt
  rw [hold] at a2
  have hset := find_set (x := thrL e (findL L e.to)) hj h.nodup hn
  have hok : (findL L e.to).ok = true := a1
  obtain ⟨hc0, hc1⟩ := (hg.2.1 e he).2.2.2.2
  -- labels only get better
  have hbetter : ∀ z, (findL L z).ok = true → (findL (L.set j (thrL e (findL L e.to))) z).ok = true ∧ leI (findL (L.set j (thrL e (findL L e.to))) z).cost (findL (L.set j (thrL e (findL L e.to))) z).edges (findL L z).cost (findL L z).edges := fun z hz => by
    rw [hset z]
    by_cases hze : z = (thrL e (findL L e.to)).node
    · rw [if_pos hze]
      have hze : z = e.frm := hze
      rw [hze] at hz ⊢
      refine ⟨a1, ?_⟩
      have := a2 hz
      unfold leI
      omega
    · rw [if_neg hze]
      exact ⟨hz, .inr ⟨rfl, Int.le_refl _⟩⟩
  have hwit : ∀ {x c k}, Wit l t L x c k → Wit l t (L.set j (thrL e (findL L e.to))) x c k := fun ⟨p, p1, p2, p3, p4, p5, p6⟩ => ⟨p, p1, p2, p3, p4, p5, fun q f r hp => by
    obtain ⟨b1, b2⟩ := p6 q f r hp
    obtain ⟨b3, b4⟩ := hbetter _ b1
    exact ⟨b3, leI_trans b4 b2⟩⟩
  obtain ⟨p, p1, p2, p3, p4, p5, p6⟩ := h.sound e.to hok
  -- the new path begins at a node that the old one doesn't leave
  have hnew : e.frm ∉ p.map Ed.frm := fun hm => by
    obtain ⟨f, hf, hfe⟩ := List.mem_map.1 hm
    obtain ⟨q, r, rfl⟩ := List.append_of_mem hf
    obtain ⟨b1, b2⟩ := p6 q f r rfl
    rw [hfe] at b1 b2
    have b3 := a2 b1
    have hq : Sub q l := fun x hx => p1 x (List.mem_append_left _ hx)
    have b4 := cst_nonneg (fun e he => (hg.2.1 e he).2.2.2.2.1) hq
    rw [cst_append] at p3
    rw [List.length_append, List.length_cons] at p4
    simp only [thrL] at b3
    unfold leI at b2
    omega
  have hself : findL (L.set j (thrL e (findL L e.to))) e.frm = thrL e (findL L e.to) := by
    rw [hset e.frm]
    exact if_pos rfl
  refine ⟨by rw [map_set_node hj hn, h.nodes], ?_, fun x hx => ?_, fun x hx => ?_⟩
  · rw [hset t]
    by_cases ht : t = (thrL e (findL L e.to)).node
    · exfalso
      have ht : t = e.frm := ht
      have b := a2 (by rw [← ht, h.zero])
      rw [← ht, h.zero] at b
      have := wit_bound hg (h.sound e.to hok)
      simp only [thrL] at b
      omega
    · rw [if_neg ht]
      exact h.zero
  · by_cases hxe : x = e.frm
    · subst hxe
      rw [hself]
      refine ⟨e :: p, sub_cons.2 ⟨he, p1⟩, ⟨rfl, p2⟩, ?_, ?_, ?_, fun q f r hp => ?_⟩
      · rw [cst, p3]
        simp only [thrL]
        omega
      · rw [List.length_cons]
        simp only [thrL]
        omega
      · rw [List.map_cons, List.nodup_cons]
        exact ⟨hnew, p5⟩
      · match q, hp with
        | [], hp =>
          injection hp with h1 h2
          subst h1 h2
          rw [hself]
          refine ⟨a1, ?_⟩
          rw [cst, p3]
          simp only [thrL]
          unfold leI
          omega
        | _ :: q, hp =>
          injection hp with _ h2
          obtain ⟨b1, b2⟩ := p6 q f r h2
          obtain ⟨b3, b4⟩ := hbetter _ b1
          exact ⟨b3, leI_trans b4 b2⟩
    · have e1 : findL (L.set j (thrL e (findL L e.to))) x = findL L x := by
        rw [hset x]
        exact if_neg hxe
      rw [e1] at hx ⊢
      exact hwit (h.sound x hx)
  · by_cases hxe : x = e.frm
    · subst hxe
      rw [hself] at hx
      rw [a1] at hx
      cases hx
    · have e1 : findL (L.set j (thrL e (findL L e.to))) x = findL L x := by
        rw [hset x]
        exact if_neg hxe
      rw [e1] at hx ⊢
      exact h.rest x hx
/-- The labels at the beginning. -/
def startL (t : Int) (N : List Int) : List Lb := N.map fun n => ⟨n, 0, 0, decide (n = t)⟩
theorem find_start {t : Int} : ∀ {N : List Int} {x : Int}, x ∈ N → findL (startL t N) x = ⟨x, 0, 0, decide (x = t)⟩
  | y :: N, x, h => by
    unfold startL
    rw [List.map_cons, find_cons]
    by_cases hy : y = x
    · rw [if_pos hy, hy]
    · rw [if_neg hy]
      exact find_start (N := N) (by
        rcases List.mem_cons.1 h with e | h
        · exact absurd e.symm hy
        · exact h)
theorem start_nodes (t : Int) (N : List Int) : (startL t N).map Lb.node = N := by
  unfold startL
  rw [List.map_map]
  exact (List.map_congr_left fun _ _ => rfl).trans (List.map_id N)
theorem lok_start (l : List Ed) (t : Int) : Lok l t (startL t (ins t (nodesL l))) := by
  have hmem : t ∈ ins t (nodesL l) := mem_ins.2 (.inl rfl)
  have hz : findL (startL t (ins t (nodesL l))) t = ⟨t, 0, 0, true⟩ := by rw [find_start hmem, decide_eq_true rfl]
  refine ⟨start_nodes _ _, hz, fun x hx => ?_, fun x _ => ?_⟩
  · by_cases hm : x ∈ ins t (nodesL l)
    · rw [find_start hm] at hx ⊢
      have hxt : x = t := of_decide_eq_true hx
      subst hxt
      exact ⟨[], (fun _ h => by cases h), rfl, rfl, rfl, List.nodup_nil, fun q e r h => absurd h (by simp)⟩
    · rw [find_out (by rw [start_nodes]; exact hm)] at hx
      cases hx
  · by_cases hm : x ∈ ins t (nodesL l)
    · rw [find_start hm]
      exact ⟨rfl, rfl⟩
    · rw [find_out (by rw [start_nodes]; exact hm)]
      exact ⟨rfl, rfl⟩
/-- No edge improves a label. -/
def Stable (l : List Ed) (L : List Lb) : Prop := ∀ e ∈ l, lessB (thrL e (findL L e.to)) (findL L e.frm) = false
/-- The labels at the end are those of the best paths. -/
theorem lok_best {l : List Ed} {t : Int} {L : List Lb} (h : Lok l t L) (hs : Stable l L) (x : Int) :
    (∀ (c : Int) (k : Nat), Best l t x c k ↔ findL L x = ⟨x, c, k, true⟩) ∧ (¬ Rch l x t ↔ findL L x = ⟨x, 0, 0, false⟩) := by
  let lab : Int → Option (Int × Nat) := fun y => if (findL L y).ok = true then some ((findL L y).cost, (findL L y).edges.toNat) else none
  have hlab : ∀ y c k, lab y = some (c, k) ↔ findL L y = ⟨y, c, k, true⟩ := fun y c k => by
    show (if (findL L y).ok = true then some ((findL L y).cost, (findL L y).edges.toNat) else none) = some (c, k) ↔ _
    cases ho : (findL L y).ok with
    | false =>
      constructor
      · intro e; simp at e
      · intro e; rw [e] at ho; cases ho
    | true =>
      rw [if_pos rfl]
      obtain ⟨p, _, _, _, p4, _⟩ := h.sound y ho
      have hnode := find_node L y
      constructor
      · intro e
        injection e with e
        injection e with e1 e2
        cases hf : findL L y with
        | mk a b c' d =>
          rw [hf] at ho hnode e1 e2 p4
          simp only at ho hnode e1 e2 p4
          rw [hnode, ← e1, ho, ← e2]
          congr 1
          omega
      · intro e
        rw [e]
        rfl
  have key := labels_are (l := l) (t := t) (lab := lab) ⟨0, 0, (hlab t 0 0).2 h.zero, .inr ⟨rfl, Nat.le_refl _⟩⟩
    (fun y c k hy => by
      have hf := (hlab y c k).1 hy
      obtain ⟨p, p1, p2, p3, p4, _⟩ := h.sound y (by rw [hf])
      rw [hf] at p3 p4
      exact ⟨p, p1, p2, p3, by have : (p.length : Int) = (k : Int) := p4; omega⟩)
    (fun e he c k hy => by
      have hf := (hlab e.to c k).1 hy
      have hst := hs e he
      rw [hf] at hst
      obtain ⟨b1, b2⟩ := lessB_not hst rfl
      obtain ⟨p, _, _, _, p4, _⟩ := h.sound e.frm b1
      refine ⟨(findL L e.frm).cost, p.length, (hlab _ _ _).2 ?_, ?_⟩
      · have hnode := find_node L e.frm
        cases hg : findL L e.frm with
        | mk a b c' d =>
          rw [hg] at b1 hnode p4
          simp only at b1 hnode p4
          rw [hnode, b1, ← p4]
      · unfold leI thrL at b2
        simp only at b2
        unfold le2
        omega) x
  refine ⟨fun c k => (key.1 c k).symm.trans (hlab x c k), key.2.symm.trans ?_⟩
  show (if (findL L x).ok = true then some ((findL L x).cost, (findL L x).edges.toNat) else none) = none ↔ _
  cases ho : (findL L x).ok with
  | true =>
    constructor
    · intro e; simp at e
    · intro e; rw [e] at ho; cases ho
  | false =>
    constructor
    · intro _
      have h1 := h.rest x ho
      have hnode := find_node L x
      cases hg : findL L x with
      | mk a b c' d =>
        rw [hg] at ho hnode h1
        simp only at ho hnode h1
        rw [hnode, h1.1, h1.2, ho]
    · intro _; rfl

/-! ### The measure -/
def muB (y : Lb) : Nat := if y.ok = true then (y.cost * 1000 + y.edges).toNat else 1000000000000
def muL (L : List Lb) : Nat := (L.map muB).sum
theorem muL_set : ∀ {L : List Lb} {j : Nat} {x : Lb}, j < L.length → muB x < muB (lx L j) → muL (L.set j x) < muL L
  | [], _, _, h, _ => absurd h (by simp)
  | y :: L, 0, x, _, h => by
    have h : muB x < muB y := h
    unfold muL
    rw [List.set_cons_zero, List.map_cons, List.map_cons, List.sum_cons, List.sum_cons]
    omega
  | y :: L, j + 1, x, hj, h => by
    have := muL_set (L := L) (j := j) (x := x) (by simpa using hj) h
    unfold muL at *
    rw [List.set_cons_succ, List.map_cons, List.map_cons, List.sum_cons, List.sum_cons]
    omega
theorem muB_step {l : List Ed} {t : Int} {L : List Lb} {e : Ed} {j : Nat} (hg : Grph l) (h : Lok l t L) (he : e ∈ l) (hj : j < L.length) (hn : (lx L j).node = e.frm) (hlt : lessB (thrL e (findL L e.to)) (lx L j) = true) : muB (thrL e (findL L e.to)) < muB (lx L j) := by
  have hold : lx L j = findL L e.frm := by rw [← hn]; exact (find_ix hj h.nodup).symm
  obtain ⟨a1, a2⟩ := lessB_of hlt
  have b1 := h.bound hg e.to
  have b2 := h.bound hg e.frm
  rw [← hold] at b2
  obtain ⟨hc0, hc1⟩ := (hg.2.1 e he).2.2.2.2
  unfold muB
  rw [if_pos a1]
  simp only [thrL] at *
  by_cases ho : (lx L j).ok = true
  · have := a2 ho
    rw [if_pos ho]
    omega
  · rw [if_neg ho]
    omega
end Go.Proofs.Ytlaklfiodmnocaa
