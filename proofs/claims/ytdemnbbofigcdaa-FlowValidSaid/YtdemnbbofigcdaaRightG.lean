/- The package's Right. -/
import Derived.Test.YtdemnbbofigcdaaMapV
import Derived.Test.YtdemnbbofigcdaaRefRight
namespace Go.Proofs.Ytdemnbbofigcdaa
open Go.RowKit

theorem zeroB (w : World) : (zeroValue 4).run Try.prog w = .ok (.bool false) w := by kernel_rfl
/-- The IDs that were met, as a map holds them. -/
def idm (l : List Ed) (k : Nat) : Int → Option Value := fun i => if i ∈ (l.take k).map Ed.id then some (.bool true) else none
theorem idm_zero (l : List Ed) : idm l 0 = fun _ => none := by funext i; unfold idm; simp
theorem idm_succ {l : List Ed} {k : Nat} (h : k < l.length) : upd (idm l k) (eI l k) (.bool true) = idm l (k + 1) := by
  funext i
  unfold upd idm
  by_cases hi : i = eI l k
  · rw [if_pos hi, if_pos ((mem_ids h).2 (.inr hi.symm))]
  · rw [if_neg hi]
    by_cases hm : i ∈ (l.take k).map Ed.id
    · rw [if_pos hm, if_pos ((mem_ids h).2 (.inl hm))]
    · rw [if_neg hm, if_neg]
      intro h1
      rcases (mem_ids h).1 h1 with h2 | h2
      · exact hm h2
      · exact hi h2.symm
theorem idm_in {l : List Ed} {k : Nat} {i : Int} (h : i ∈ (l.take k).map Ed.id) (z : Value) : (idm l k i).getD z = .bool true := by unfold idm; rw [if_pos h]; rfl
theorem idm_out {l : List Ed} {k : Nat} {i : Int} (h : i ∉ (l.take k).map Ed.id) (z : Value) : (idm l k i).getD z = z := by unfold idm; rw [if_neg h]; rfl

end Go.Proofs.Ytdemnbbofigcdaa
