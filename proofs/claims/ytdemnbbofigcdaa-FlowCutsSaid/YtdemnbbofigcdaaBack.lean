/- The reference's Back, free, Without. -/
import Derived.Test.YtdemnbbofigcdaaReach
namespace Go.Proofs.Ytdemnbbofigcdaa
open Go.RowKit

noncomputable def backL (l : List Ed) (t : List Int) : List Int := reachL (l.map turn) t
theorem back_inc (l : List Ed) (f : List Int) : Inc (backL l f) := reach_inc _ _
theorem mem_back {l : List Ed} {f : List Int} {x : Int} : x ∈ backL l f ↔ ∃ a ∈ f, Rch l x a := by
  unfold backL
  rw [mem_reach]
  unfold inReach
  simp only [rch_turned]
/-- Does no edge lead to a node from one that was not placed? -/
def freeB (l : List Ed) (o : List Int) (n : Int) : Bool := decide (∀ e ∈ l, e.to = n → e.frm ∈ o)
theorem freeB_true {l : List Ed} {o : List Int} {n : Int} (h : ∀ e ∈ l, e.to = n → e.frm ∈ o) : freeB l o n = true := decide_eq_true h
theorem freeB_of {l : List Ed} {o : List Int} {n : Int} (h : freeB l o n = true) : ∀ e ∈ l, e.to = n → e.frm ∈ o := of_decide_eq_true h
theorem freeB_at {l : List Ed} {o : List Int} {n : Int} {k : Nat} (hk : k < l.length) (h1 : eT l k = n) (h2 : eF l k ∉ o) : freeB l o n = false := decide_eq_false fun h => h2 (h _ (e_mem hk) h1)
def Free1 (l : List Ed) (o : List Int) (n : Int) (k : Nat) : Prop := ∀ e ∈ l.take k, e.to = n → e.frm ∈ o
theorem free1_step {l : List Ed} {o : List Int} {n : Int} {k : Nat} (h : Free1 l o n k) (hk : k < l.length) (h2 : eT l k = n → eF l k ∈ o) : Free1 l o n (k + 1) := fun e he ht => by
  rcases (mem_takeE hk).1 he with h3 | rfl
  · exact h e h3 ht
  · exact h2 ht

/-- The edges whose ID is not listed. -/
def wo (l : List Ed) (ids : List Int) : List Ed := l.filter fun e => !hasB ids e.id
theorem wo_yes {l : List Ed} {ids : List Int} {k : Nat} (hk : k < l.length) (h : eI l k ∉ ids) : wo (l.take (k + 1)) ids = wo (l.take k) ids ++ [⟨eI l k, eF l k, eT l k, eC l k⟩] := by
  unfold wo
  rw [List.take_succ_eq_append_getElem hk, List.filter_append, e_eta hk]
  simp [hasB_false h]
theorem wo_no {l : List Ed} {ids : List Int} {k : Nat} (hk : k < l.length) (h : eI l k ∈ ids) : wo (l.take (k + 1)) ids = wo (l.take k) ids := by
  unfold wo
  rw [List.take_succ_eq_append_getElem hk, List.filter_append, e_eta hk]
  simp [hasB_true h]

end Go.Proofs.Ytdemnbbofigcdaa
