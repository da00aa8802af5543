/- Directed graphs: what can be reached, increasing lists, paths and best labels. Plain mathematics. -/
import Derived.WalkKit
namespace Go.Proofs.Ytdemnbbofigcdaa

structure Ed where
  id : Int
  frm : Int
  to : Int
  cost : Int
deriving DecidableEq

/-! ### Reaching -/
inductive Rch (l : List Ed) : Int → Int → Prop
  | refl (a : Int) : Rch l a a
  | step {e : Ed} {b : Int} : e ∈ l → Rch l e.to b → Rch l e.frm b
theorem Rch.edge {l : List Ed} {e : Ed} (h : e ∈ l) : Rch l e.frm e.to := .step h (.refl _)
theorem Rch.trans {l : List Ed} {a b c : Int} (h : Rch l a b) (k : Rch l b c) : Rch l a c := by
  induction h with
  | refl _ => exact k
  | step he _ ih => exact .step he (ih k)
theorem Rch.snoc {l : List Ed} {a : Int} {e : Ed} (h : Rch l a e.frm) (he : e ∈ l) : Rch l a e.to := h.trans (.edge he)
/-- What is closed under the edges holds what is reached. -/
theorem Rch.closed {l : List Ed} {S : Int → Prop} (hS : ∀ e ∈ l, S e.frm → S e.to) {a b : Int} (h : Rch l a b) (ha : S a) : S b := by
  induction h with
  | refl _ => exact ha
  | step he _ ih => exact ih (hS _ he ha)
theorem Rch.mono {l m : List Ed} (hm : ∀ e ∈ l, e ∈ m) {a b : Int} (h : Rch l a b) : Rch m a b := by
  induction h with
  | refl a => exact .refl a
  | step he _ ih => exact .step (hm _ he) ih
/-- The end of what is reached is the start or the end of an edge. -/
theorem Rch.last {l : List Ed} {a b : Int} (h : Rch l a b) : a = b ∨ ∃ e ∈ l, e.to = b := by
  induction h with
  | refl _ => exact .inl rfl
  | @step e b he _ ih =>
    rcases ih with h | h
    · exact .inr ⟨e, he, h⟩
    · exact .inr h
def turn (e : Ed) : Ed := ⟨e.id, e.to, e.frm, e.cost⟩
theorem turn_turn (e : Ed) : turn (turn e) = e := rfl
theorem Rch.turned {l : List Ed} {a b : Int} (h : Rch l a b) : Rch (l.map turn) b a := by
  induction h with
  | refl a => exact .refl a
  | @step e b he _ ih =>
    have : turn e ∈ l.map turn := List.mem_map_of_mem he
    exact ih.trans (Rch.edge this)
theorem map_turn (l : List Ed) : (l.map turn).map turn = l := by
  rw [List.map_map]
  exact (List.map_congr_left fun e _ => turn_turn e).trans (List.map_id l)
theorem rch_turned {l : List Ed} {a b : Int} : Rch (l.map turn) a b ↔ Rch l b a := by
  refine ⟨fun h => ?_, fun h => h.turned⟩
  have := h.turned
  rwa [map_turn] at this
/-- What can be reached from a list of numbers. -/
def inReach (l : List Ed) (from_ : List Int) (x : Int) : Prop := ∃ a ∈ from_, Rch l a x

/-! ### Increasing lists -/
def Inc (l : List Int) : Prop := l.Pairwise (· < ·)
theorem inc_cons {a : Int} {l : List Int} : Inc (a :: l) ↔ (∀ x ∈ l, a < x) ∧ Inc l := List.pairwise_cons
theorem inc_ext : ∀ {a b : List Int}, Inc a → Inc b → (∀ x, x ∈ a ↔ x ∈ b) → a = b
  | [], [], _, _, _ => rfl
  | [], y :: b, _, _, h => absurd ((h y).2 (by simp)) (by simp)
  | x :: a, [], _, _, h => absurd ((h x).1 (by simp)) (by simp)
  | x :: a, y :: b, ha, hb, h => by
    obtain ⟨ha1, ha2⟩ := inc_cons.1 ha
    obtain ⟨hb1, hb2⟩ := inc_cons.1 hb
    have hxy : x = y := by
      have h1 := (h x).1 (by simp)
      have h2 := (h y).2 (by simp)
      rcases List.mem_cons.1 h1 with e | m1
      · exact e
      · rcases List.mem_cons.1 h2 with e | m2
        · exact e.symm
        · have := ha1 y m2
          have := hb1 x m1
          omega
    subst hxy
    have := inc_ext ha2 hb2 (fun z => by
      constructor
      · intro hz
        rcases List.mem_cons.1 ((h z).1 (List.mem_cons_of_mem _ hz)) with e | m
        · have := ha1 z hz
          omega
        · exact m
      · intro hz
        rcases List.mem_cons.1 ((h z).2 (List.mem_cons_of_mem _ hz)) with e | m
        · have := hb1 z hz
          omega
        · exact m)
    rw [this]
/-- An increasing list with a number that it may have already. -/
def ins (n : Int) : List Int → List Int
  | [] => [n]
  | x :: l => if x < n then x :: ins n l else if x = n then x :: l else n :: x :: l
theorem mem_ins {n x : Int} : ∀ {l : List Int}, x ∈ ins n l ↔ x = n ∨ x ∈ l
  | [] => by simp [ins]
  | y :: l => by
    unfold ins
    split
    · rw [List.mem_cons, mem_ins, List.mem_cons]
      exact ⟨fun h => by rcases h with h | h | h <;> simp [h], fun h => by rcases h with h | h | h <;> simp [h]⟩
    · split
      · rename_i h
        subst h
        simp
      · simp
theorem ins_inc {n : Int} : ∀ {l : List Int}, Inc l → Inc (ins n l)
  | [], _ => by simp [ins, Inc]
  | y :: l, h => by
    obtain ⟨h1, h2⟩ := inc_cons.1 h
    unfold ins
    split
    · rename_i hy
      refine inc_cons.2 ⟨fun x hx => ?_, ins_inc h2⟩
      rcases mem_ins.1 hx with rfl | hx
      · exact hy
      · exact h1 x hx
    · split
      · exact h
      · rename_i hy hne
        refine inc_cons.2 ⟨fun x hx => ?_, h⟩
        rcases List.mem_cons.1 hx with rfl | hx
        · omega
        · have := h1 x hx
          omega
theorem ins_len {n : Int} : ∀ {l : List Int}, (ins n l).length ≤ l.length + 1
  | [] => by simp [ins]
  | y :: l => by
    have := ins_len (n := n) (l := l)
    unfold ins
    split
    · simpa using this
    · split <;> simp
theorem ins_same {n : Int} : ∀ {l : List Int}, Inc l → n ∈ l → ins n l = l
  | [], _, h => by simp at h
  | y :: l, h, hn => by
    obtain ⟨h1, h2⟩ := inc_cons.1 h
    unfold ins
    split
    · rename_i hy
      rcases List.mem_cons.1 hn with e | hn
      · omega
      · rw [ins_same h2 hn]
    · split
      · rfl
      · rename_i hy hne
        rcases List.mem_cons.1 hn with e | hn
        · exact absurd e.symm hne
        · have := h1 n hn
          omega
theorem ins_longer {n : Int} {l : List Int} (hn : n ∉ l) : (ins n l).length = l.length + 1 := by
  induction l with
  | nil => rfl
  | cons y l ih =>
    have h1 : n ∉ l := fun h => hn (List.mem_cons_of_mem _ h)
    have h2 : y ≠ n := fun h => hn (by simp [h])
    unfold ins
    split
    · rw [List.length_cons, ih h1, List.length_cons]
    · rfl
theorem inc_nodup {l : List Int} (h : Inc l) : l.Nodup := h.imp (fun h => by omega)

/-! ### Paths -/
def Pth : List Ed → Int → Int → Prop
  | [], a, b => a = b
  | e :: p, a, b => e.frm = a ∧ Pth p e.to b
def cst : List Ed → Int
  | [] => 0
  | e :: p => e.cost + cst p
def Sub (p l : List Ed) : Prop := ∀ e ∈ p, e ∈ l
theorem sub_cons {e : Ed} {p l : List Ed} : Sub (e :: p) l ↔ e ∈ l ∧ Sub p l := by simp [Sub]
theorem pth_append : ∀ {p q : List Ed} {a b c : Int}, Pth p a b → Pth q b c → Pth (p ++ q) a c
  | [], _, _, _, _, h, k => by rw [show _ = _ from h]; exact k
  | e :: p, q, a, b, c, h, k => ⟨h.1, pth_append h.2 k⟩
theorem cst_append : ∀ p q : List Ed, cst (p ++ q) = cst p + cst q
  | [], q => by simp [cst]
  | e :: p, q => by rw [List.cons_append, cst, cst_append p q, cst]; omega
theorem cst_nonneg {l : List Ed} (hc : ∀ e ∈ l, 0 ≤ e.cost) : ∀ {p : List Ed}, Sub p l → 0 ≤ cst p
  | [], _ => Int.le_refl _
  | e :: p, h => by
    obtain ⟨h1, h2⟩ := sub_cons.1 h
    have := hc e h1
    have := cst_nonneg hc h2
    rw [cst]
    omega
theorem cst_le {l : List Ed} {m : Int} (hc : ∀ e ∈ l, e.cost ≤ m) : ∀ {p : List Ed}, Sub p l → cst p ≤ m * p.length
  | [], _ => by simp [cst]
  | e :: p, h => by
    obtain ⟨h1, h2⟩ := sub_cons.1 h
    have h3 := hc e h1
    have h4 := cst_le hc h2
    rw [cst, List.length_cons, Int.natCast_add, Int.mul_add]
    omega
theorem rch_path {l : List Ed} {a b : Int} (h : Rch l a b) : ∃ p, Sub p l ∧ Pth p a b := by
  induction h with
  | refl a => exact ⟨[], (fun _ h => by cases h), rfl⟩
  | @step e b he _ ih =>
    obtain ⟨p, h1, h2⟩ := ih
    exact ⟨e :: p, sub_cons.2 ⟨he, h1⟩, rfl, h2⟩
theorem path_rch {l : List Ed} : ∀ {p : List Ed} {a b : Int}, Sub p l → Pth p a b → Rch l a b
  | [], a, _, _, h => by rw [← (h : a = _)]; exact .refl a
  | e :: p, a, b, hs, h => by
    obtain ⟨h1, h2⟩ := sub_cons.1 hs
    rw [← h.1]
    exact .step h1 (path_rch h2 h.2)

/-! ### Labels: what a best path costs, and how many edges it has -/
/-- A label is at least as good as another one. -/
def le2 (c : Int) (k : Nat) (d : Int) (j : Nat) : Prop := c < d ∨ c = d ∧ k ≤ j
theorem le2_trans {c d e : Int} {i j k : Nat} (h : le2 c i d j) (h2 : le2 d j e k) : le2 c i e k := by unfold le2 at *; omega
theorem le2_add {c d x : Int} {i j : Nat} (h : le2 c i d j) : le2 (c + x) (i + 1) (d + x) (j + 1) := by unfold le2 at *; omega
theorem le2_anti {c d : Int} {i j : Nat} (h : le2 c i d j) (h2 : le2 d j c i) : c = d ∧ i = j := by unfold le2 at *; omega
def Has2 (l : List Ed) (t x c : Int) (k : Nat) : Prop := ∃ p, Sub p l ∧ Pth p x t ∧ cst p = c ∧ p.length = k
def Best (l : List Ed) (t x c : Int) (k : Nat) : Prop := Has2 l t x c k ∧ ∀ p, Sub p l → Pth p x t → le2 c k (cst p) p.length
theorem Best.unique {l : List Ed} {t x c d : Int} {i j : Nat} (h : Best l t x c i) (h2 : Best l t x d j) : c = d ∧ i = j := by
  obtain ⟨⟨p, a1, a2, rfl, rfl⟩, ha⟩ := h
  obtain ⟨⟨q, b1, b2, rfl, rfl⟩, hb⟩ := h2
  exact le2_anti (ha q b1 b2) (hb p a1 a2)
theorem best_self {l : List Ed} (hc : ∀ e ∈ l, 0 ≤ e.cost) (t : Int) : Best l t t 0 0 :=
  ⟨⟨[], (fun _ h => by cases h), rfl, rfl, rfl⟩, fun p hs _ => by have := cst_nonneg hc hs; unfold le2; omega⟩
theorem Has2.cons {l : List Ed} {t c : Int} {k : Nat} {e : Ed} (he : e ∈ l) (h : Has2 l t e.to c k) : Has2 l t e.frm (c + e.cost) (k + 1) := by
  obtain ⟨p, h1, h2, h3, h4⟩ := h
  exact ⟨e :: p, sub_cons.2 ⟨he, h1⟩, ⟨rfl, h2⟩, by rw [cst, h3]; omega, by rw [List.length_cons, h4]⟩
/-- Labels that are those of paths, with that of the target, which no edge improves, are the best ones. -/
theorem labels_best {l : List Ed} {t : Int} {lab : Int → Option (Int × Nat)} (h0 : ∃ c k, lab t = some (c, k) ∧ le2 c k 0 0) (hs : ∀ x c k, lab x = some (c, k) → Has2 l t x c k)
    (hstab : ∀ e ∈ l, ∀ c k, lab e.to = some (c, k) → ∃ d j, lab e.frm = some (d, j) ∧ le2 d j (c + e.cost) (k + 1)) :
    ∀ {p : List Ed} {x : Int}, Sub p l → Pth p x t → ∃ c k, lab x = some (c, k) ∧ le2 c k (cst p) p.length
  | [], x, _, h => by
    obtain rfl : x = t := h
    exact h0
  | e :: p, x, hsub, h => by
    obtain ⟨h1, h2⟩ := sub_cons.1 hsub
    obtain ⟨rfl, h3⟩ := h
    obtain ⟨c, k, e1, e2⟩ := labels_best h0 hs hstab h2 h3
    obtain ⟨d, j, e3, e4⟩ := hstab e h1 c k e1
    refine ⟨d, j, e3, ?_⟩
    have h5 := le2_trans e4 (le2_add (x := e.cost) e2)
    rw [cst, List.length_cons, Int.add_comm]
    exact h5
theorem labels_are {l : List Ed} {t : Int} {lab : Int → Option (Int × Nat)} (h0 : ∃ c k, lab t = some (c, k) ∧ le2 c k 0 0) (hs : ∀ x c k, lab x = some (c, k) → Has2 l t x c k)
    (hstab : ∀ e ∈ l, ∀ c k, lab e.to = some (c, k) → ∃ d j, lab e.frm = some (d, j) ∧ le2 d j (c + e.cost) (k + 1)) (x : Int) :
    (∀ c k, lab x = some (c, k) ↔ Best l t x c k) ∧ (lab x = none ↔ ¬ Rch l x t) := by
  have hb := @labels_best l t lab h0 hs hstab
  have h1 : ∀ c k, lab x = some (c, k) → Best l t x c k := fun c k h => ⟨hs x c k h, fun p p1 p2 => by
    obtain ⟨d, j, e1, e2⟩ := hb p1 p2
    rw [h] at e1
    injection e1 with e1
    injection e1 with e3 e4
    subst e3 e4
    exact e2⟩
  refine ⟨fun c k => ⟨h1 c k, fun h => ?_⟩, fun h hr => ?_, fun h => ?_⟩
  · obtain ⟨⟨p, p1, p2, _, _⟩, _⟩ := id h
    obtain ⟨d, j, e1, _⟩ := hb p1 p2
    obtain ⟨rfl, rfl⟩ := h.unique (h1 d j e1)
    exact e1
  · obtain ⟨p, p1, p2⟩ := rch_path hr
    obtain ⟨d, j, e1, _⟩ := hb p1 p2
    rw [h] at e1
    cases e1
  · cases hl : lab x with
    | none => rfl
    | some v =>
      obtain ⟨p, p1, p2, _⟩ := hs x v.1 v.2 hl
      exact absurd (path_rch p1 p2) h
/-- A best path's first edge leads to a best path. -/
theorem best_next {l : List Ed} {t x c : Int} {k : Nat} (h : Best l t x c (k + 1)) : ∃ e ∈ l, e.frm = x ∧ Best l t e.to (c - e.cost) k := by
  obtain ⟨⟨p, p1, p2, p3, p4⟩, hmin⟩ := h
  match p, p4 with
  | e :: p, p4 =>
    obtain ⟨h1, h2⟩ := sub_cons.1 p1
    have hl : p.length = k := by simpa using p4
    rw [cst] at p3
    refine ⟨e, h1, p2.1, ⟨⟨p, h2, p2.2, by omega, hl⟩, fun q q1 q2 => ?_⟩⟩
    have := hmin (e :: q) (sub_cons.2 ⟨h1, q1⟩) ⟨p2.1, q2⟩
    rw [cst, List.length_cons] at this
    unfold le2 at *
    omega
/-- With an edge whose label is the best one. -/
theorem best_through {l : List Ed} {t c d : Int} {k j : Nat} {e : Ed} (he : e ∈ l) (h : Best l t e.frm c k) (h2 : Best l t e.to d j) : le2 c k (d + e.cost) (j + 1) := by
  obtain ⟨p, p1, p2, p3, p4⟩ := Has2.cons he h2.1
  have := h.2 p p1 p2
  rw [p3, p4] at this
  exact this
/-- Fewer edges make no path better. -/
theorem best_fewer {l m : List Ed} (hm : ∀ e ∈ l, e ∈ m) {t x c d : Int} {k j : Nat} (h : Best l t x c k) (h2 : Best m t x d j) : le2 d j c k := by
  obtain ⟨⟨p, p1, p2, rfl, rfl⟩, _⟩ := h
  exact h2.2 p (fun e he => hm e (p1 e he)) p2
/-- A path turned round. -/
theorem pth_turned : ∀ {p : List Ed} {a b : Int}, Pth p a b → Pth (p.reverse.map turn) b a ∧ cst (p.reverse.map turn) = cst p
  | [], _, _, h => ⟨Eq.symm h, rfl⟩
  | e :: p, a, b, h => by
    obtain ⟨h1, h2⟩ := pth_turned h.2
    rw [List.reverse_cons, List.map_append]
    refine ⟨pth_append h1 ⟨rfl, h.1⟩, ?_⟩
    rw [cst_append, h2]
    simp only [List.map_cons, List.map_nil, cst, turn]
    omega
end Go.Proofs.Ytdemnbbofigcdaa
