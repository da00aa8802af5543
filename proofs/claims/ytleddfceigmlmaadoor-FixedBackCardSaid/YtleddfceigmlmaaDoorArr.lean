/- An argument [3]int by value, opened. -/
import Derived.Test.YtleddfceigmlmaaDoorEnvLaw
import Derived.Lib.SmallJoins
namespace Go.Proofs.YtleddfceigmlmaaDoor
open Go.RowKit Go.ChangeShapes Go.WideShapes
section
variable {H : Type} {enc : TypeId × Value → H} {P : Program} {w : World} {base : Nat} {spare : Nat → Bool} {held : Bool}
theorem okWide_array {t e : TypeId} {n : Nat} {v : Value} {r : Reach} {b : Nat} (ht : P.underlying t = some (.array n e)) (h : Value.okWide P w r b t v) : ∃ cs, v = .agg cs ∧ cs.size = P.cellsOf t := by
  simp only [Value.okWide, ht] at h
  obtain ⟨cs, h1, h2, _⟩ := h
  exact ⟨cs, h1, h2⟩
theorem open_arr3 {t e : TypeId} {v : Value} {d : DataW H} {p : List MemPlace} {r : Reach} {b0 : Nat} (ht : P.underlying t = some (.array 3 e)) (he : P.underlying e = some (.int .i64)) (hce : P.cellsOf e = 1) (hct : P.cellsOf t = 3)
    (hok : Value.okWide P w r b0 t v) (h : DataW.Trod enc P w base spare held t v d p) :
    ∃ a b c : Int, v = .agg #[.int .i64 a, .int .i64 b, .int .i64 c] ∧ (Lit.int .i64 a).wf = true ∧ (Lit.int .i64 b).wf = true ∧ (Lit.int .i64 c).wf = true := by
  obtain ⟨cs, rfl, hsz⟩ := okWide_array ht hok
  obtain ⟨l⟩ := cs
  match l, hsz.trans hct with
  | [c0, c1, c2], _ =>
    obtain ⟨fuel, hf⟩ := h
    obtain ⟨xs, m, _, _, _, hl, hi⟩ := DataW.trod_array ht hf
    have one : ∀ i (hi' : i < 3) (c : Value), (([c0, c1, c2] : List Value).drop i).take 1 = [c] → ∃ a : Int, c = .int .i64 a ∧ (Lit.int .i64 a).wf = true := by
      intro i hi' c hc
      have h1 := hi i hi'
      rw [hce, Nat.mul_one] at h1
      have hx : xs[i]? = some (xs[i]'(by omega)) := List.getElem?_eq_getElem (by omega)
      rw [hx] at h1
      have h2 : DataW.trod enc P w base spare held m e [c] = some (xs[i]'(by omega)) := by rw [← hc]; exact h1
      obtain ⟨a, ha, _, hwf⟩ := DataW.trod_int he h2
      exact ⟨a, by simpa using ha, hwf⟩
    obtain ⟨a, rfl, ha⟩ := one 0 (by omega) c0 rfl
    obtain ⟨b, rfl, hb⟩ := one 1 (by omega) c1 rfl
    obtain ⟨c, rfl, hc⟩ := one 2 (by omega) c2 rfl
    exact ⟨a, b, c, rfl, ha, hb, hc⟩
end
end Go.Proofs.YtleddfceigmlmaaDoor
