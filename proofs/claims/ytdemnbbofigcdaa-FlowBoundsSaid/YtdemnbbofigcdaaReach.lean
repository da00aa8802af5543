/- The reference's Reach and Back. -/
import Derived.Test.YtdemnbbofigcdaaNodes
namespace Go.Proofs.Ytdemnbbofigcdaa
open Go.RowKit

/-- The numbers of a list, increasing, each once. -/
def sortU (l : List Int) : List Int := l.foldl (fun o x => ins x o) []
theorem sortU_step {l : List Int} {k : Nat} (h : k < l.length) : sortU (l.take (k + 1)) = ins (ix l k) (sortU (l.take k)) := by
  unfold sortU
  rw [List.take_succ_eq_append_getElem h, List.foldl_append, ix_at h]
  rfl
theorem sortU_gen : ∀ (l : List Int) (o : List Int), Inc o → Inc (l.foldl (fun o x => ins x o) o) ∧ ∀ x, x ∈ l.foldl (fun o x => ins x o) o ↔ x ∈ o ∨ x ∈ l
  | [], o, h => ⟨h, fun x => by simp⟩
  | y :: l, o, h => by
    obtain ⟨h1, h2⟩ := sortU_gen l (ins y o) (ins_inc h)
    refine ⟨h1, fun x => ?_⟩
    rw [List.foldl_cons, h2, mem_ins, List.mem_cons]
    constructor
    · rintro ((rfl | h) | h)
      · exact .inr (.inl rfl)
      · exact .inl h
      · exact .inr (.inr h)
    · rintro (h | rfl | h)
      · exact .inl (.inr h)
      · exact .inl (.inl rfl)
      · exact .inr h
theorem sortU_inc (l : List Int) : Inc (sortU l) := (sortU_gen l [] List.Pairwise.nil).1
theorem mem_sortU {l : List Int} {x : Int} : x ∈ sortU l ↔ x ∈ l := by
  have := (sortU_gen l [] List.Pairwise.nil).2 x
  unfold sortU
  simpa using this
theorem sortU_len : ∀ l : List Int, (sortU l).length ≤ l.length := by
  have key : ∀ (l : List Int) (o : List Int), (l.foldl (fun o x => ins x o) o).length ≤ o.length + l.length := by
    intro l
    induction l with
    | nil => intro o; simp
    | cons e l ih =>
      intro o
      have h1 := ih (ins e o)
      have h3 := ins_len (n := e) (l := o)
      rw [List.foldl_cons, List.length_cons]
      omega
  intro l
  have := key l []
  unfold sortU
  simpa using this
theorem nodup_len : ∀ {a b : List Int}, a.Nodup → (∀ x ∈ a, x ∈ b) → a.length ≤ b.length
  | [], _, _, _ => by simp
  | x :: a, b, h, hs => by
    have hx := hs x (List.mem_cons_self ..)
    obtain ⟨h1, h2⟩ := List.nodup_cons.1 h
    have h3 : a.length ≤ (b.erase x).length := nodup_len h2 fun y hy => by
      have hne : y ≠ x := fun e => h1 (e ▸ hy)
      exact (List.mem_erase_of_ne hne).2 (hs y (List.mem_cons_of_mem _ hy))
    have h4 := List.length_erase_of_mem hx
    have h5 := List.length_pos_of_mem hx
    rw [List.length_cons]
    omega
/-- What can be reached, as the function hands it back. -/
noncomputable def reachL (l : List Ed) (from_ : List Int) : List Int := sortU ((from_ ++ l.map Ed.to).filter fun x => @decide (inReach l from_ x) (Classical.propDecidable _))
theorem reach_inc (l : List Ed) (f : List Int) : Inc (reachL l f) := sortU_inc _
theorem mem_reach {l : List Ed} {f : List Int} {x : Int} : x ∈ reachL l f ↔ inReach l f x := by
  unfold reachL
  rw [mem_sortU, List.mem_filter]
  constructor
  · rintro ⟨_, h⟩
    exact @of_decide_eq_true _ (Classical.propDecidable _) h
  · intro h
    refine ⟨?_, @decide_eq_true _ (Classical.propDecidable _) h⟩
    obtain ⟨a, ha, hr⟩ := h
    rw [List.mem_append, List.mem_map]
    rcases hr.last with rfl | ⟨e, he, rfl⟩
    · exact .inl ha
    · exact .inr ⟨e, he, rfl⟩
/-- What has been found so far. -/
def Found (l : List Ed) (f o : List Int) : Prop := Inc o ∧ (∀ x ∈ o, inReach l f x) ∧ ∀ x ∈ f, x ∈ o
def Closed (l : List Ed) (o : List Int) : Prop := ∀ e ∈ l, e.frm ∈ o → e.to ∈ o
theorem found_start (l : List Ed) (f : List Int) : Found l f (sortU f) :=
  ⟨sortU_inc f, fun x hx => ⟨x, mem_sortU.1 hx, .refl x⟩, fun _ hx => mem_sortU.2 hx⟩
theorem found_step {l : List Ed} {f o : List Int} {e : Ed} (h : Found l f o) (he : e ∈ l) (hf : e.frm ∈ o) : Found l f (ins e.to o) := by
  obtain ⟨h1, h2, h3⟩ := h
  refine ⟨ins_inc h1, fun x hx => ?_, fun x hx => mem_ins.2 (.inr (h3 x hx))⟩
  rcases mem_ins.1 hx with rfl | hx
  · obtain ⟨a, ha, hr⟩ := h2 _ hf
    exact ⟨a, ha, hr.snoc he⟩
  · exact h2 x hx
theorem found_len {l : List Ed} {f o : List Int} (h : Found l f o) : o.length ≤ f.length + l.length := by
  have := nodup_len (b := f ++ l.map Ed.to) (inc_nodup h.1) fun x hx => by
    obtain ⟨a, ha, hr⟩ := h.2.1 x hx
    rw [List.mem_append, List.mem_map]
    rcases hr.last with rfl | ⟨e, he, rfl⟩
    · exact .inl ha
    · exact .inr ⟨e, he, rfl⟩
  simpa using this
theorem found_end {l : List Ed} {f o : List Int} (h : Found l f o) (hc : Closed l o) : o = reachL l f := by
  refine inc_ext h.1 (reach_inc l f) fun x => ?_
  rw [mem_reach]
  refine ⟨h.2.1 x, ?_⟩
  rintro ⟨a, ha, hr⟩
  exact hr.closed (S := fun y => y ∈ o) hc (h.2.2 a ha)
/-- Within a pass: what stood there at its beginning (p), and what stands there now. -/
def Pass (l : List Ed) (f p : List Int) (k : Nat) (o : List Int) : Prop := Found l f o ∧ p.length ≤ o.length ∧ (o.length = p.length → o = p ∧ ∀ e ∈ l.take k, e.frm ∈ p → e.to ∈ p)
theorem pass_zero {l : List Ed} {f p : List Int} (h : Found l f p) : Pass l f p 0 p := ⟨h, Nat.le_refl _, fun _ => ⟨rfl, by simp⟩⟩
theorem mem_takeE {l : List Ed} {k : Nat} (hk : k < l.length) {e : Ed} : e ∈ l.take (k + 1) ↔ e ∈ l.take k ∨ e = ⟨eI l k, eF l k, eT l k, eC l k⟩ := by
  rw [List.take_succ_eq_append_getElem hk, List.mem_append, List.mem_singleton, e_eta hk]
theorem e_mem {l : List Ed} {k : Nat} (hk : k < l.length) : (⟨eI l k, eF l k, eT l k, eC l k⟩ : Ed) ∈ l := by
  rw [← e_eta hk]
  exact List.getElem_mem hk
theorem pass_no {l : List Ed} {f p o : List Int} {k : Nat} (h : Pass l f p k o) (hk : k < l.length) (hn : eF l k ∉ o) : Pass l f p (k + 1) o := by
  obtain ⟨h1, h2, h3⟩ := h
  refine ⟨h1, h2, fun hl => ?_⟩
  obtain ⟨h4, h5⟩ := h3 hl
  refine ⟨h4, fun e he hf => ?_⟩
  rcases (mem_takeE hk).1 he with h6 | rfl
  · exact h5 e h6 hf
  · exact absurd (h4 ▸ hf) hn
theorem pass_yes {l : List Ed} {f p o : List Int} {k : Nat} (h : Pass l f p k o) (hk : k < l.length) (hn : eF l k ∈ o) : Pass l f p (k + 1) (ins (eT l k) o) := by
  obtain ⟨h1, h2, h3⟩ := h
  have hf := found_step h1 (e_mem hk) hn
  rcases Classical.em (eT l k ∈ o) with ht | ht
  · have e := ins_same h1.1 ht
    refine ⟨hf, by show _ ≤ (ins (eT l k) o).length; rw [e]; exact h2, fun hl => ?_⟩
    have hl : (ins (eT l k) o).length = p.length := hl
    rw [e] at hl
    obtain ⟨h4, h5⟩ := h3 hl
    refine ⟨e.trans h4, fun e2 he hf2 => ?_⟩
    rcases (mem_takeE hk).1 he with h6 | rfl
    · exact h5 e2 h6 hf2
    · exact h4 ▸ ht
  · have e := ins_longer ht
    exact ⟨hf, by show _ ≤ (ins (eT l k) o).length; omega, fun hl => by have hl : (ins (eT l k) o).length = p.length := hl; omega⟩
theorem pass_end {l : List Ed} {f p o : List Int} (h : Pass l f p l.length o) (hl : o.length = p.length) : Closed l o := by
  obtain ⟨h4, h5⟩ := h.2.2 hl
  rw [List.take_length] at h5
  rw [h4]
  exact h5

end Go.Proofs.Ytdemnbbofigcdaa
