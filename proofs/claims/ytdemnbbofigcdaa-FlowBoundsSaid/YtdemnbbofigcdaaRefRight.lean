/- The reference's Right: is a list of edges a graph? -/
import Derived.Test.YtdemnbbofigcdaaBack
namespace Go.Proofs.Ytdemnbbofigcdaa
open Go.RowKit

def Rng (e : Ed) : Prop := 0 ≤ e.frm ∧ e.frm ≤ 9999 ∧ 0 ≤ e.to ∧ e.to ≤ 9999 ∧ 0 ≤ e.cost ∧ e.cost ≤ 1000000
instance (e : Ed) : Decidable (Rng e) := by unfold Rng; infer_instance
def rgo : List Ed → List Ed → Nat
  | _, [] => 0
  | s, e :: l => if ¬ Rng e then 2 else if e.id ∈ s.map Ed.id then 7 else rgo (s ++ [e]) l
def rightN (l : List Ed) : Nat := if 200 < l.length then 4 else rgo [] l
theorem drop_e {l : List Ed} {k : Nat} (h : k < l.length) : l.drop k = ⟨eI l k, eF l k, eT l k, eC l k⟩ :: l.drop (k + 1) := by
  rw [List.drop_eq_getElem_cons h, e_eta h]
theorem take_e {l : List Ed} {k : Nat} (h : k < l.length) : l.take (k + 1) = l.take k ++ [⟨eI l k, eF l k, eT l k, eC l k⟩] := by
  rw [List.take_succ_eq_append_getElem h, e_eta h]
theorem rgo_bad {l : List Ed} {k : Nat} (h : k < l.length) (hb : ¬ Rng ⟨eI l k, eF l k, eT l k, eC l k⟩) : rgo (l.take k) (l.drop k) = 2 := by
  rw [drop_e h, rgo, if_pos hb]
theorem rgo_twice {l : List Ed} {k : Nat} (h : k < l.length) (hb : Rng ⟨eI l k, eF l k, eT l k, eC l k⟩) (hd : eI l k ∈ (l.take k).map Ed.id) : rgo (l.take k) (l.drop k) = 7 := by
  rw [drop_e h, rgo, if_neg (fun h => h hb), if_pos hd]
theorem rgo_next {l : List Ed} {k : Nat} (h : k < l.length) (hb : Rng ⟨eI l k, eF l k, eT l k, eC l k⟩) (hd : eI l k ∉ (l.take k).map Ed.id) : rgo (l.take k) (l.drop k) = rgo (l.take (k + 1)) (l.drop (k + 1)) := by
  rw [drop_e h, rgo, if_neg (fun h => h hb), if_neg hd, take_e h]
theorem rgo_end {l : List Ed} {k : Nat} (h : k = l.length) : rgo (l.take k) (l.drop k) = 0 := by
  rw [h, List.drop_length, rgo]
theorem mem_ids {l : List Ed} {k : Nat} (h : k < l.length) {x : Int} : x ∈ (l.take (k + 1)).map Ed.id ↔ x ∈ (l.take k).map Ed.id ∨ eI l k = x := by
  rw [take_e h, List.map_append, List.mem_append]
  constructor
  · rintro (h | h)
    · exact .inl h
    · simp at h
      exact .inr h.symm
  · rintro (h | h)
    · exact .inl h
    · exact .inr (by simp [h])
theorem rgo_zero : ∀ {l s : List Ed}, rgo s l = 0 ↔ (∀ e ∈ l, Rng e) ∧ (∀ e ∈ l, e.id ∉ s.map Ed.id) ∧ (l.map Ed.id).Nodup
  | [], s => by simp [rgo]
  | e :: l, s => by
    rw [rgo]
    by_cases h1 : Rng e
    · rw [if_neg (fun h => h h1)]
      by_cases h2 : e.id ∈ s.map Ed.id
      · rw [if_pos h2]
        constructor
        · intro h; omega
        · rintro ⟨_, h, _⟩
          exact absurd h2 (h e (List.mem_cons_self ..))
      · rw [if_neg h2, rgo_zero]
        rw [List.map_cons, List.nodup_cons]
        constructor
        · rintro ⟨a, b, c⟩
          refine ⟨fun x hx => ?_, fun x hx => ?_, fun hm => ?_, c⟩
          · rcases List.mem_cons.1 hx with rfl | hx
            · exact h1
            · exact a x hx
          · rcases List.mem_cons.1 hx with rfl | hx
            · exact h2
            · exact fun hm => b x hx (by rw [List.map_append]; exact List.mem_append_left _ hm)
          · obtain ⟨x, hx, hxe⟩ := List.mem_map.1 hm
            exact b x hx (by rw [List.map_append]; exact List.mem_append_right _ (by simp [hxe]))
        · rintro ⟨a, b, c, d⟩
          refine ⟨fun x hx => a x (List.mem_cons_of_mem _ hx), fun x hx hm => ?_, d⟩
          rw [List.map_append] at hm
          rcases List.mem_append.1 hm with hm | hm
          · exact b x (List.mem_cons_of_mem _ hx) hm
          · simp at hm
            exact c (List.mem_map.2 ⟨x, hx, hm⟩)
    · rw [if_pos h1]
      constructor
      · intro h; omega
      · rintro ⟨h, _⟩
        exact absurd (h e (List.mem_cons_self ..)) h1
/-- A graph. -/
def Grph (l : List Ed) : Prop := l.length ≤ 200 ∧ (∀ e ∈ l, Rng e) ∧ (l.map Ed.id).Nodup
theorem right_iff {l : List Ed} : rightN l = 0 ↔ Grph l := by
  unfold rightN Grph
  split
  · constructor
    · intro h; omega
    · rintro ⟨h, _⟩; omega
  · rw [rgo_zero]
    constructor
    · rintro ⟨a, _, c⟩
      exact ⟨by omega, a, c⟩
    · rintro ⟨_, a, c⟩
      exact ⟨a, fun _ _ => by simp, c⟩
theorem right_short {l : List Ed} (h : ¬ 200 < l.length) : rightN l = rgo [] l := if_neg h
theorem box_four {w w1 : World} {T : TypeId} {v0 v1 v2 v3 : Value} (b : Below (w.alloc (.cells #[v0, v1, v2, v3] T)).heap.size (w.alloc (.cells #[v0, v1, v2, v3] T)) w1) :
    w1.cell? ⟨w.heap.size, 0, none⟩ = some v0 ∧ w1.cell? ⟨w.heap.size, 1, none⟩ = some v1 ∧ w1.cell? ⟨w.heap.size, 2, none⟩ = some v2 ∧ w1.cell? ⟨w.heap.size, 3, none⟩ = some v3 := by
  have h : ∀ i u, #[v0, v1, v2, v3].toList[i]? = some u → w1.cell? ⟨w.heap.size, i, none⟩ = some u := fun i u hu => by
    have := World.news_of_block (heap_alloc_new w (.cells #[v0, v1, v2, v3] T)) i u hu
    rw [add_pos] at this
    exact (b.cell (by simp)).trans this
  exact ⟨h 0 _ rfl, h 1 _ rfl, h 2 _ rfl, h 3 _ rfl⟩

end Go.Proofs.Ytdemnbbofigcdaa
