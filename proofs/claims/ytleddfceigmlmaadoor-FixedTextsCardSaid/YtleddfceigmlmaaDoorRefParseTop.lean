/- The reference's Parse returns 'parseV', as Parse does. -/
import Derived.Test.YtleddfceigmlmaaDoorRefParseAll
import Derived.ChangeMaps5
namespace Go.Proofs.YtleddfceigmlmaaDoor
open Go.RowKit

theorem prefix_not {l : List UInt8} (h : l.headD 0 ≠ 45) : Lib.hasPrefix l [45] = false := by
  unfold Lib.hasPrefix
  cases l with
  | nil => rfl
  | cons c l =>
    have hne : ((45 : UInt8) == c) = false := by
      rw [beq_eq_false_iff_ne]
      exact fun e => h e.symm
    simp [List.isPrefixOf, hne]
theorem refParse_any (s : ByteArray) (w : World) (h60 : s.size ≤ 60) :
    Calls Tryd.prog 26 #[.string s] w fun e w' => e = .returned (parseV s.data.toList) ∧ w = w' := by
  rw [parse_ref]
  have hl : s.data.toList.length = s.size := by simp
  by_cases h : ∃ h : 0 < s.size, (s[0].toNat : Int) = 45
  · obtain ⟨hs0, h45⟩ := h
    have hh : s.data.toList.headD 0 = 45 := by rw [head_ba hs0]; exact byte_is (n := 45) rfl h45
    have hp : Lib.hasPrefix s.data.toList [45] = true := by
      revert hh
      cases s.data.toList with
      | nil => exact fun h => absurd h (by decide)
      | cons c l =>
        intro hh
        obtain rfl : c = 45 := hh
        unfold Lib.hasPrefix
        simp [List.isPrefixOf]
    have ht : Lib.trimPrefix s.data.toList [45] = (s.extract 1 s.size).data.toList := by
      unfold Lib.trimPrefix
      rw [hp, if_pos rfl, Lib.extract_data, List.take_of_length_le (by rw [List.length_drop]; omega)]
      rfl
    rw [hp, ht]
    exact refParse_neg s _ w h60 hs0 h45 rfl
  · have hp : Lib.hasPrefix s.data.toList [45] = false := by
      apply prefix_not
      rcases Nat.eq_zero_or_pos s.size with hz | hz
      · rw [List.length_eq_zero_iff.1 (show s.data.toList.length = 0 by omega)]
        decide
      · rw [head_ba hz]
        exact byte_not (n := 45) rfl (fun e => h ⟨hz, e⟩)
    have ht : Lib.trimPrefix s.data.toList [45] = s.data.toList := by
      unfold Lib.trimPrefix
      rw [hp, if_neg (by decide)]
    rw [hp, ht]
    rcases Nat.eq_zero_or_pos s.size with hz | hz
    · exact refParse_empty s w hz
    · exact refParse_pos s w h60 hz (fun e => h ⟨hz, e⟩)
end Go.Proofs.YtleddfceigmlmaaDoor
