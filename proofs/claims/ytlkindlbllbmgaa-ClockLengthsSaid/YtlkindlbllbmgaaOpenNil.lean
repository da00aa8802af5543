/- A slice of intervals that comes in, and what is known of it where it is nil; the set of two lists together. -/
import Derived.Test.YtlkindlbllbmgaaLaw
import Derived.Test.YtlkindlbllbmgaaAlive
namespace Go.Proofs.Ytlkindlbllbmgaa
open Go.RowKit Go.ChangeShapes Go.WideShapes Go.Deep

theorem open_ivs_nil {H : Type} {enc : TypeId × Value → H} {w : World} {v : Value} {d : DataW H} {p : List MemPlace} {r : Reach} {b0 : Nat} (hok : Value.okWide Try.prog w r b0 30 v) (h : DataW.Trod enc Try.prog w 0 (fun _ => true) true 30 v d p) :
    ∃ (A : Option Addr) (cap : Nat) (l : List Iv), v = .slice A l.length cap ∧ l.length ≤ 9223372036854775807 ∧ (A = none → l = [] ∧ cap = 0) ∧ Ivs w w.heap.size A l := by
  obtain ⟨fuel, hf⟩ := h
  obtain ⟨a0, len, cap, rfl⟩ := okWide_slice Try.underlying30 hok
  rcases open_slice_fields Try.underlying30 Try.underlying38 (by kernel_rfl) (by kernel_rfl) hf with ⟨hcs, _⟩ | ⟨a, len', cap', m, D, Pl, hcs, _, hl, hm, hmm, _, hi⟩
  · simp [Value.cells] at hcs
    obtain ⟨rfl, rfl, rfl⟩ := hcs
    exact ⟨none, 0, [], rfl, by simp, fun _ => ⟨rfl, rfl⟩, Ivs.none_⟩
  · simp [Value.cells] at hcs
    obtain ⟨rfl, rfl, rfl⟩ := hcs
    have hm' : m = cap := by simpa using hmm
    subst hm'
    have hcell : ∀ i, i < len → ∃ q : Iv, w.cell? (a.add (i * 2)) = some (.int .i64 q.1) ∧ w.cell? (a.add (i * 2 + 1)) = some (.int .i64 q.2) := by
      intro i hi'
      obtain ⟨ys, n, _, _, _, hf⟩ := hi i (by omega)
      obtain ⟨v0, y0, c0, _, t0⟩ := hf 0 _ rfl
      obtain ⟨v1, y1, c1, _, t1⟩ := hf 1 _ rfl
      obtain ⟨x, hx, _⟩ := DataW.trod_int Try.underlying3 t0
      obtain ⟨y, hy, _⟩ := DataW.trod_int Try.underlying3 t1
      obtain rfl : v0 = .int .i64 x := by simpa using hx
      obtain rfl : v1 = .int .i64 y := by simpa using hy
      exact ⟨(x, y), c0, c1⟩
    refine ⟨some a, m, (List.range len).map (fun i => if h : i < len then (hcell i h).choose else (0, 0)), by simp, by simp; unfold maxLen at hm; omega, (fun h => absurd h (by simp)), fun hn => ⟨a, rfl, ?_, fun i hi' => ?_⟩⟩
    · obtain ⟨q, c0, _⟩ := hcell 0 (by simpa using hn)
      have := World.block_lt_of_cell? _ _ c0
      rwa [block_of_add] at this
    · have hi2 : i < len := by simpa using hi'
      obtain ⟨c0, c1⟩ := (hcell i hi2).choose_spec
      unfold lx ly
      rw [getD_map _ _ _ hi2, dif_pos hi2]
      exact ⟨c0, by rw [← add_next a i 2 0]; exact c1⟩
/-- What an append takes of a slice that came in. -/
theorem src_ivs {w : World} {A : Option Addr} {l : List Iv} {c : Nat} (h : Ivs w w.heap.size A l) (hn : A = none → l = [] ∧ c = 0) : Src w 2 (.slice A l.length c) l.length (cellsL l) := by
  refine ⟨cellsL_len l, ?_⟩
  cases A with
  | none =>
    obtain ⟨rfl, rfl⟩ := hn rfl
    exact .inl ⟨rfl, rfl⟩
  | some ad =>
    refine .inr ⟨ad, c, rfl, fun j u hj => ?_⟩
    have hjl : j < l.length * 2 := by
      rcases Nat.lt_or_ge j (l.length * 2) with k | k
      · exact k
      · rw [List.getElem?_eq_none (by rw [cellsL_len]; exact k)] at hj; cases hj
    obtain ⟨i, hi⟩ : ∃ i, j = i * 2 ∨ j = i * 2 + 1 := ⟨j / 2, by omega⟩
    have hil : i < l.length := by omega
    obtain ⟨ad', e, _, hc⟩ := h (by omega)
    injection e with e
    subst e
    obtain ⟨c0, c1⟩ := hc i hil
    obtain ⟨k0, k1⟩ := cellsL_at l i hil
    rw [lx_at hil] at c0
    rw [ly_at hil] at c1
    rcases hi with rfl | rfl
    · rw [k0] at hj
      injection hj with hj
      rw [← hj]; exact c0
    · rw [k1] at hj
      injection hj with hj
      rw [← hj, add_next ad i 2 0]; exact c1
end Go.Proofs.Ytlkindlbllbmgaa
