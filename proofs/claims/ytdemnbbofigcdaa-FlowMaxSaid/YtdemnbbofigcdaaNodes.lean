/- The reference's Nodes and Back's parts: the nodes in increasing order. -/
import Derived.Test.YtdemnbbofigcdaaTurned
namespace Go.Proofs.Ytdemnbbofigcdaa
open Go.RowKit

def nodesL (l : List Ed) : List Int := l.foldl (fun o e => ins e.to (ins e.frm o)) []
theorem nodes_step {l : List Ed} {k : Nat} (h : k < l.length) : nodesL (l.take (k + 1)) = ins (eT l k) (ins (eF l k) (nodesL (l.take k))) := by
  unfold nodesL
  rw [List.take_succ_eq_append_getElem h, List.foldl_append, e_eta h]
  rfl
theorem nodes_gen : ∀ (l : List Ed) (o : List Int), Inc o → Inc (l.foldl (fun o e => ins e.to (ins e.frm o)) o) ∧ ∀ x, x ∈ l.foldl (fun o e => ins e.to (ins e.frm o)) o ↔ x ∈ o ∨ ∃ e ∈ l, x = e.frm ∨ x = e.to
  | [], o, h => ⟨h, fun x => by simp⟩
  | e :: l, o, h => by
    obtain ⟨h1, h2⟩ := nodes_gen l (ins e.to (ins e.frm o)) (ins_inc (ins_inc h))
    refine ⟨h1, fun x => ?_⟩
    rw [List.foldl_cons, h2, mem_ins, mem_ins]
    constructor
    · rintro ((rfl | rfl | hx) | ⟨f, hf, hx⟩)
      · exact .inr ⟨e, List.mem_cons_self .., .inr rfl⟩
      · exact .inr ⟨e, List.mem_cons_self .., .inl rfl⟩
      · exact .inl hx
      · exact .inr ⟨f, List.mem_cons_of_mem _ hf, hx⟩
    · rintro (hx | ⟨f, hf, hx⟩)
      · exact .inl (.inr (.inr hx))
      · rcases List.mem_cons.1 hf with rfl | hf
        · rcases hx with rfl | rfl
          · exact .inl (.inr (.inl rfl))
          · exact .inl (.inl rfl)
        · exact .inr ⟨f, hf, hx⟩
theorem nodes_inc (l : List Ed) : Inc (nodesL l) := (nodes_gen l [] List.Pairwise.nil).1
theorem mem_nodes {l : List Ed} {x : Int} : x ∈ nodesL l ↔ ∃ e ∈ l, x = e.frm ∨ x = e.to := by
  have := (nodes_gen l [] List.Pairwise.nil).2 x
  unfold nodesL
  simpa using this
theorem nodes_len : ∀ l : List Ed, (nodesL l).length ≤ 2 * l.length := by
  have key : ∀ (l : List Ed) (o : List Int), (l.foldl (fun o e => ins e.to (ins e.frm o)) o).length ≤ o.length + 2 * l.length := by
    intro l
    induction l with
    | nil => intro o; simp
    | cons e l ih =>
      intro o
      have h1 := ih (ins e.to (ins e.frm o))
      have h2 := ins_len (n := e.to) (l := ins e.frm o)
      have h3 := ins_len (n := e.frm) (l := o)
      rw [List.foldl_cons, List.length_cons]
      omega
  intro l
  have := key l []
  simpa [nodesL] using this

end Go.Proofs.Ytdemnbbofigcdaa
