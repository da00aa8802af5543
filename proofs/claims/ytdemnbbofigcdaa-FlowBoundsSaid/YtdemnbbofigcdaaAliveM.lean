/- The examples of the chapter, in mathematics. -/
import Derived.Test.YtdemnbbofigcdaaCutG
import Derived.Test.YtdemnbbofigcdaaValidR
namespace Go.Proofs.Ytdemnbbofigcdaa

def smp : List Ed := [⟨1, 1, 2, 3⟩, ⟨2, 1, 3, 2⟩, ⟨3, 2, 3, 2⟩, ⟨4, 2, 4, 1⟩, ⟨5, 3, 4, 5⟩]
theorem smp_grph : Grph smp := by
  refine ⟨by decide, ?_, by decide⟩
  intro e he
  have : ∀ e ∈ smp, 0 ≤ e.frm ∧ e.frm ≤ 9999 ∧ 0 ≤ e.to ∧ e.to ≤ 9999 ∧ 0 ≤ e.cost ∧ e.cost ≤ 1000000 := by decide
  exact this e he
/-- A set that nothing leaves holds what is reached. -/
theorem rs_in {l : List Ed} {f : List Int} {s x : Int} {S : List Int} (hs : s ∈ S) (hc : ∀ k, k < l.length → (eF l k ∈ S → ix f k < eC l k → eT l k ∈ S) ∧ (eT l k ∈ S → 0 < ix f k → eF l k ∈ S)) (h : Rs l f s x) : x ∈ S := by
  induction h with
  | base => exact hs
  | fwd hk _ hlt ih => exact (hc _ hk).1 ih hlt
  | bwd hk _ hlt ih => exact (hc _ hk).2 ih hlt
theorem ex_flow : IsFlow smp [3, 2, 2, 1, 4] 1 4 := flow_ends (by decide) (by decide) (by decide)
theorem ex_no14 : ¬ Rs smp [3, 2, 2, 1, 4] 1 4 := fun h => by
  have := rs_in (S := [1]) (by decide) (by decide) h
  revert this
  decide
theorem ex_no41 : ¬ Rs smp (List.replicate smp.length 0) 4 1 := fun h => by
  have := rs_in (S := [4]) (by decide) (by decide) h
  revert this
  decide
theorem ex_no19 : ¬ Rs smp (List.replicate smp.length 0) 1 9 := fun h => by
  have := rs_in (S := [1, 2, 3, 4]) (by decide) (by decide) h
  revert this
  decide
theorem val14 {f : List Int} (h : IsFlow smp f 1 4) (hn : ¬ Rs smp f 1 4) : net smp f 1 = 5 := (rs_value h hn ex_flow ex_no14).trans (by decide)
theorem val41 {f : List Int} (h : IsFlow smp f 4 1) (hn : ¬ Rs smp f 4 1) : net smp f 4 = 0 := (rs_value h hn (zeros_flow smp_grph 4 1) ex_no41).trans (by decide)
theorem val19 {f : List Int} (h : IsFlow smp f 1 9) (hn : ¬ Rs smp f 1 9) : net smp f 1 = 0 := (rs_value h hn (zeros_flow smp_grph 1 9) ex_no19).trans (by decide)
theorem rsB_is {l : List Ed} {f g : List Int} {s t : Int} {S : List Int} (h : IsFlow l f s t) (hn : ¬ Rs l f s t) (h2 : IsFlow l g s t) (hn2 : ¬ Rs l g s t) (hS : ∀ x, Rs l g s x ↔ x ∈ S) : ∀ x, RsB l f s x = decide (x ∈ S) := fun x => by
  have : Rs l f s x ↔ x ∈ S := (rs_same h hn h2 hn2 x).trans (hS x)
  cases hx : decide (x ∈ S) with
  | true => exact rsB_iff.2 (this.2 (of_decide_eq_true hx))
  | false => exact rsB_not.2 (fun h => of_decide_eq_false hx (this.1 h))
theorem cut14 {f : List Int} (h : IsFlow smp f 1 4) (hn : ¬ Rs smp f 1 4) : cutN smp (RsB smp f 1) smp.length = [0, 1] := by
  rw [cutN_congr (rsB_is h hn ex_flow ex_no14 (S := [1]) (fun x => ⟨rs_in (by decide) (by decide), fun hx => by rw [List.mem_singleton.1 hx]; exact .base⟩))]
  decide
theorem cut41 {f : List Int} (h : IsFlow smp f 4 1) (hn : ¬ Rs smp f 4 1) : cutN smp (RsB smp f 4) smp.length = [] := by
  rw [cutN_congr (rsB_is h hn (zeros_flow smp_grph 4 1) ex_no41 (S := [4]) (fun x => ⟨rs_in (by decide) (by decide), fun hx => by rw [List.mem_singleton.1 hx]; exact .base⟩))]
  decide
theorem ex_r19 : ∀ x, x ∈ [1, 2, 3, 4] → Rs smp (List.replicate smp.length 0) 1 x := by
  have h1 : Rs smp (List.replicate smp.length 0) 1 1 := .base
  have h2 : Rs smp (List.replicate smp.length 0) 1 2 := .fwd (k := 0) (by decide) h1 (by decide)
  have h3 : Rs smp (List.replicate smp.length 0) 1 3 := .fwd (k := 1) (by decide) h1 (by decide)
  have h4 : Rs smp (List.replicate smp.length 0) 1 4 := .fwd (k := 3) (by decide) h2 (by decide)
  intro x hx
  simp only [List.mem_cons, List.not_mem_nil, or_false] at hx
  rcases hx with rfl | rfl | rfl | rfl
  · exact h1
  · exact h2
  · exact h3
  · exact h4
theorem cut19 {f : List Int} (h : IsFlow smp f 1 9) (hn : ¬ Rs smp f 1 9) : cutN smp (RsB smp f 1) smp.length = [] := by
  rw [cutN_congr (rsB_is h hn (zeros_flow smp_grph 1 9) ex_no19 (S := [1, 2, 3, 4]) (fun x => ⟨rs_in (by decide) (by decide), ex_r19 x⟩))]
  decide
theorem v1 : vB smp [3, 2, 2, 1, 4] 1 4 = true := vB_iff.2 ex_flow
theorem v2 : vB smp [3, 2, 2, 1, 3] 1 4 = false := vB_not.2 fun h => absurd (h.bal 3 (by decide) (by decide)) (by decide)
theorem v3 : vB smp [3, 2, 2, 1, 1] 1 3 = false := vB_not.2 fun h => absurd (h.bal 4 (by decide) (by decide)) (by decide)
theorem net14 : net smp [3, 2, 2, 1, 4] 1 = 5 := by decide
end Go.Proofs.Ytdemnbbofigcdaa
