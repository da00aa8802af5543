/- The reference's put: an increasing list with a number that it may have already. -/
import Derived.Test.YtdemnbbofigcdaaApp
namespace Go.Proofs.Ytdemnbbofigcdaa
open Go.RowKit

theorem ins_split {n : Int} : ∀ {a : List Int} (b : List Int), (∀ x ∈ a, x < n) → ins n (a ++ b) = a ++ ins n b
  | [], _, _ => rfl
  | x :: a, b, h => by
    have h1 : x < n := h x (List.mem_cons_self ..)
    rw [List.cons_append, ins, if_pos h1, ins_split b (fun y hy => h y (List.mem_cons_of_mem _ hy)), List.cons_append]
/-- While a number is being put: what stands there. -/
def PutAt (n : Int) (l : List Int) (k : Nat) (o : List Int) (b : Bool) : Prop :=
  o.length ≤ k + 1 ∧ (b = false → o = l.take k ∧ ∀ x ∈ l.take k, x < n) ∧ (b = true → o ++ l.drop k = ins n l)
theorem putAt_zero (n : Int) (l : List Int) : PutAt n l 0 [] false := ⟨by simp, fun _ => ⟨rfl, by simp⟩, fun h => by cases h⟩
theorem drop_ix {l : List Int} {k : Nat} (h : k < l.length) : l.drop k = ix l k :: l.drop (k + 1) := by
  rw [List.drop_eq_getElem_cons h, ix_at h]
theorem take_ix {l : List Int} {k : Nat} (h : k < l.length) : l.take (k + 1) = l.take k ++ [ix l k] := by
  rw [List.take_succ_eq_append_getElem h, ix_at h]
theorem putAt_done {n : Int} {l o : List Int} {k : Nat} (h : PutAt n l k o true) (hk : k < l.length) : PutAt n l (k + 1) (o ++ [ix l k]) true := by
  refine ⟨by rw [List.length_append]; have := h.1; simp only [List.length_singleton]; omega, (fun h => by cases h), fun _ => ?_⟩
  rw [← h.2.2 rfl, drop_ix hk, List.append_assoc]
  rfl
theorem putAt_small {n : Int} {l o : List Int} {k : Nat} (h : PutAt n l k o false) (hk : k < l.length) (hx : ix l k < n) : PutAt n l (k + 1) (o ++ [ix l k]) false := by
  obtain ⟨h1, h2⟩ := h.2.1 rfl
  refine ⟨by rw [List.length_append]; have := h.1; simp only [List.length_singleton]; omega, fun _ => ⟨by rw [h1, take_ix hk], fun x hm => ?_⟩, fun h => by cases h⟩
  rcases (mem_take_succ hk).1 hm with h3 | h3
  · exact h2 x h3
  · omega
theorem putAt_eq {n : Int} {l o : List Int} {k : Nat} (h : PutAt n l k o false) (hk : k < l.length) (hx : ix l k = n) : PutAt n l (k + 1) (o ++ [ix l k]) true := by
  obtain ⟨h1, h2⟩ := h.2.1 rfl
  refine ⟨by rw [List.length_append]; have := h.1; simp only [List.length_singleton]; omega, (fun h => by cases h), fun _ => ?_⟩
  have e : ins n l = ins n (l.take k ++ l.drop k) := by rw [List.take_append_drop]
  rw [e, ins_split _ h2, drop_ix hk, ins, if_neg (by omega), if_pos hx, h1, List.append_assoc]
  rfl
theorem putAt_great {n : Int} {l o : List Int} {k : Nat} (h : PutAt n l k o false) (hk : k < l.length) (hx : n < ix l k) : PutAt n l (k + 1) (o ++ [n] ++ [ix l k]) true := by
  obtain ⟨h1, h2⟩ := h.2.1 rfl
  have hl : o.length ≤ k := by rw [h1, List.length_take]; omega
  refine ⟨by simp only [List.length_append, List.length_singleton]; omega, (fun h => by cases h), fun _ => ?_⟩
  have e : ins n l = ins n (l.take k ++ l.drop k) := by rw [List.take_append_drop]
  rw [e, ins_split _ h2, drop_ix hk, ins, if_neg (by omega), if_neg (by omega), h1, List.append_assoc, List.append_assoc]
  rfl
theorem putAt_end {n : Int} {l o : List Int} {k : Nat} (h : PutAt n l k o true) (hk : k = l.length) : o = ins n l := by
  rw [← h.2.2 rfl, hk, List.drop_length, List.append_nil]
theorem putAt_last {n : Int} {l o : List Int} {k : Nat} (h : PutAt n l k o false) (hk : k = l.length) : o ++ [n] = ins n l := by
  obtain ⟨h1, h2⟩ := h.2.1 rfl
  rw [hk, List.take_length] at h1 h2
  have := ins_split (n := n) (a := l) [] h2
  rw [List.append_nil] at this
  rw [this, h1]
  rfl
/-- A row of the call's own that is handed back. -/
def MadeI' (W : World) (l : List Int) (e : Ending) (w' : World) : Prop := ∃ A c, e = .returned (.slice A l.length c) ∧ OwnI w' W.heap.size A c l ∧ Below W.heap.size W w'

end Go.Proofs.Ytdemnbbofigcdaa
