/- The arguments of the laws, opened. -/
import Derived.Test.YtjbfkbdjopbjjaaLaw
import Derived.Test.YtjbfkbdjopbjjaaRightR
import Derived.Deep.Slices
import Derived.Deep.Fields
import Derived.OpenShut
import Derived.Lib.SmallJoins
import Derived.HandedShaped
import Derived.SizedLaws
namespace Go.Proofs.Ytjbfkbdjopbjjaa
open Go.RowKit Go.ChangeShapes Go.WideShapes Go.Deep

def WfL (l : List Int) : Prop := ∀ x ∈ l, (Lit.int .i64 x).wf = true
/-- The cells of a slice of integers that came in. -/
theorem rd_in {w : World} {a : Addr} {len cap : Nat} {k : IntKind} {zs : List Int} (hl : len ≤ cap) (hz : zs.length = cap) (hc : ∀ i, i < zs.length → w.cell? (a.add i) = some (.int k (zs.getD i 0))) : Rd w w.heap.size (some a) cap ((zs.take len).map (Value.int k)) := by
  refine ⟨by rw [List.length_map, List.length_take]; omega, (fun h => by cases h), fun hn => ⟨a, rfl, ?_, fun i u hu => ?_⟩⟩
  · have h0 := hc 0 (by rw [List.length_map, List.length_take] at hn; omega)
    have := World.block_lt_of_cell? _ _ h0
    rwa [block_of_add] at this
  · rw [List.getElem?_map, List.getElem?_take] at hu
    split at hu
    · obtain ⟨x, hx, rfl⟩ := Option.map_eq_some_iff.1 hu
      have hi := (List.getElem?_eq_some_iff.1 hx).1
      rw [hc i hi]
      simp [List.getD, hx]
    · cases hu
section
variable {H : Type} {enc : TypeId × Value → H} {w : World} {base : Nat} {held : Bool} {v : Value} {d : DataW H} {p : List MemPlace} {r : Reach} {b0 : Nat}
theorem open_is_rd (h : DataW.Trod enc Try.prog w base (fun _ => true) held 27 v d p) (hs : ∃ a l c, v = .slice a l c) :
    ∃ (A : Option Addr) (c : Nat) (l : List Int), v = .slice A l.length c ∧ c ≤ maxLen ∧ Rd w w.heap.size A c (cellsI l) ∧ WfL l := by
  obtain ⟨a0, len, cap, rfl⟩ := hs
  obtain ⟨fuel, hf⟩ := h
  rcases open_ints Try.underlying27 Try.underlying3 (by kernel_rfl) hf with ⟨hcs, _⟩ | ⟨a, len', cap', zs, hcs, _, hl, hm, hz, _, hcell, hwz⟩
  · simp [Value.cells] at hcs
    obtain ⟨rfl, rfl, rfl⟩ := hcs
    exact ⟨none, 0, [], rfl, Nat.zero_le _, Rd.none_, fun _ h => (by cases h)⟩
  · simp [Value.cells] at hcs
    obtain ⟨rfl, rfl, rfl⟩ := hcs
    simp only [if_true] at hz
    have hr := rd_in hl hz hcell
    exact ⟨some a, cap, zs.take len, by rw [List.length_take, Nat.min_eq_left (by omega)], hm, hr, fun x hx => hwz x (List.mem_of_mem_take hx)⟩
/-- A slice of structs of one-cell fields: each element's cells. -/
theorem open_slice_fields {P : Program} {sp : Nat → Bool} {t e : TypeId} {fs : Array Field} {fuel : Nat} {cs : List Value} {x : DataW H × List MemPlace} (ht : P.underlying t = some (.slice e)) (he : P.underlying e = some (.struct fs))
    (hone : oneCellFields P fs = true) (hC : P.cellsOf e = fs.size) (h : DataW.trod enc P w base sp held fuel t cs = some x) :
    (cs = [.slice none 0 0] ∧ x = (.nil, [])) ∨
    ∃ (a : Addr) (len cap m : Nat), cs = [.slice (some a) len cap] ∧ len ≤ cap ∧ cap ≤ maxLen ∧ m = (if sp a.block then cap else len) ∧
      ∀ i, i < m → ∀ (j : Nat) (f : Field), fs[j]? = some f → ∃ (n : Nat) (v : Value) (y : DataW H × List MemPlace), w.cell? (a.add (i * fs.size + j)) = some v ∧ DataW.trod enc P w base sp held n f.type [v] = some y := by
  rcases open_slice ht h with h0 | ⟨a, len, cap, m, n, D, Pl, hcs, hb, hl, hm, hmm, hx, hi⟩
  · exact .inl h0
  · refine .inr ⟨a, len, cap, m, hcs, hl, hm, hmm, fun i him j f hj => ?_⟩
    obtain ⟨cs', hc, ht'⟩ := hi i him
    rw [hC] at hc
    obtain ⟨ys, n', hn', hy, hlen, hyl, hf⟩ := DataW.trod_struct he ht'
    obtain ⟨_, hcl, hat⟩ := World.cells?_some hc
    obtain ⟨ho, hk⟩ := hone_of hone j f hj
    have hjl : j < fs.size := (Array.getElem?_eq_some_iff.1 hj).1
    have hcell := hat j hjl
    have hv : cs'[j]? = some (cs'[j]'(by omega)) := List.getElem?_eq_getElem (by omega)
    have h1 := hf j f hj
    rw [ho, hk] at h1
    have hone' : (cs'.drop j).take 1 = [cs'[j]'(by omega)] := by
      rw [List.drop_eq_getElem_cons (by omega)]
      rfl
    rw [hone'] at h1
    have hys : ys[j]? = some (ys[j]'(by omega)) := List.getElem?_eq_getElem (by omega)
    refine ⟨n', _, _, ?_, h1.trans hys⟩
    rw [← Go.Deep.add_add, hcell, hv]
theorem open_its_nil (h : DataW.Trod enc Try.prog w base (fun _ => true) held 22 v d p) (hs : ∃ a l c, v = .slice a l c) :
    ∃ (A : Option Addr) (c : Nat) (l : List It), v = .slice A l.length c ∧ l.length ≤ 9223372036854775807 ∧ l.length ≤ c ∧ Its w w.heap.size A l ∧ (A = none → c = 0) := by
  obtain ⟨a0, len, cap, rfl⟩ := hs
  obtain ⟨fuel, hf⟩ := h
  rcases open_slice_fields Try.underlying22 Try.underlying42 (by kernel_rfl) (by kernel_rfl) hf with ⟨hcs, _⟩ | ⟨a, len', cap', m, hcs, hl, hm, hmm, hi⟩
  · simp [Value.cells] at hcs
    obtain ⟨rfl, rfl, rfl⟩ := hcs
    exact ⟨none, 0, [], rfl, by simp, Nat.le_refl _, Its.none_, fun _ => rfl⟩
  · simp [Value.cells] at hcs
    obtain ⟨rfl, rfl, rfl⟩ := hcs
    have hm' : m = cap := by simpa using hmm
    subst hm'
    have hcell : ∀ i, i < len → ∃ q : It, At3 w (a.add (i * 3)) (.int .i64 q.a) (.int .i64 q.b) (.int .i64 q.v) := by
      intro i hi'
      obtain ⟨n0, v0, y0, c0, t0⟩ := hi i (by omega) 0 _ rfl
      obtain ⟨n1, v1, y1, c1, t1⟩ := hi i (by omega) 1 _ rfl
      obtain ⟨n2, v2, y2, c2, t2⟩ := hi i (by omega) 2 _ rfl
      obtain ⟨x0, hx0, _⟩ := DataW.trod_int Try.underlying3 t0
      obtain ⟨x1, hx1, _⟩ := DataW.trod_int Try.underlying3 t1
      obtain ⟨x2, hx2, _⟩ := DataW.trod_int Try.underlying3 t2
      obtain rfl : v0 = .int .i64 x0 := by simpa using hx0
      obtain rfl : v1 = .int .i64 x1 := by simpa using hx1
      obtain rfl : v2 = .int .i64 x2 := by simpa using hx2
      have e1 := add_next a i 3 0
      have e2 := add_next a i 3 1
      have c1 : w.cell? (a.add (i * 3 + (0 + 1))) = _ := c1
      have c2 : w.cell? (a.add (i * 3 + (1 + 1))) = _ := c2
      rw [e1] at c1
      rw [e2] at c2
      exact ⟨⟨x0, x1, x2⟩, c0, c1, c2⟩
    have hex : ∃ l : List It, l.length = len ∧ ∀ i, i < len → At3 w (a.add (i * 3)) (.int .i64 (iA l i)) (.int .i64 (iB l i)) (.int .i64 (iV l i)) := by
      refine ⟨(List.range len).map (fun i => if h : i < len then (hcell i h).choose else ⟨0, 0, 0⟩), by simp, fun i hi' => ?_⟩
      have hsp := (hcell i hi').choose_spec
      unfold iA iB iV
      simp only [List.getElem?_map, List.getElem?_range hi', Option.map_some, Option.getD_some, dif_pos hi']
      exact hsp
    obtain ⟨l, hll, hat⟩ := hex
    refine ⟨some a, m, l, by rw [hll], by unfold maxLen at hm; omega, by omega, fun hn => ⟨a, rfl, ?_, fun i hi' => hat i (by omega)⟩, fun h => by cases h⟩
    have := World.block_lt_of_cell? _ _ (hat 0 (by omega)).1
    rwa [block_of_add] at this
theorem open_its (h : DataW.Trod enc Try.prog w base (fun _ => true) held 22 v d p) (hs : ∃ a l c, v = .slice a l c) :
    ∃ (A : Option Addr) (c : Nat) (l : List It), v = .slice A l.length c ∧ l.length ≤ 9223372036854775807 ∧ l.length ≤ c ∧ Its w w.heap.size A l := by
  obtain ⟨A, c, l, h1, h2, h3, h4, _⟩ := open_its_nil h hs
  exact ⟨A, c, l, h1, h2, h3, h4⟩
/-- A struct of one-cell fields by value: each field's cell and reading. -/
theorem open_fields {P : Program} {base : Nat} {sp : Nat → Bool} {held : Bool} {t : TypeId} {fs : Array Field} (hs : P.underlying t = some (.struct fs)) (hone : oneCellFields P fs = true) (hC : P.cellsOf t = fs.size)
    (hv : Value.okWide P w r b0 t v) (h : DataW.Trod enc P w base sp held t v d p) :
    ∃ l : List Value, v = .agg l.toArray ∧ l.length = fs.size ∧ ∀ (i : Nat) (f : Field), fs[i]? = some f → ∃ (c : Value) (y : DataW H × List MemPlace) (n : Nat), l[i]? = some c ∧ DataW.trod enc P w base sp held n f.type [c] = some y := by
  obtain ⟨cs, rfl, hsz⟩ := okWide_struct hs hv
  obtain ⟨fuel, hf⟩ := h
  obtain ⟨xs, n, _, _, _, hlen, hg⟩ := DataW.trod_struct hs hf
  refine ⟨cs.toList, by simp, by simp; omega, fun i f hi => ?_⟩
  obtain ⟨ho, hk⟩ := hone_of hone i f hi
  have hil : i < fs.size := (Array.getElem?_eq_some_iff.1 hi).1
  have hic : i < cs.toList.length := by simp; omega
  have h1 := hg i f hi
  rw [ho, hk] at h1
  have hx : xs[i]? = some (xs[i]'(by omega)) := List.getElem?_eq_getElem (by omega)
  have hone' : ((Value.agg cs).cells.toList.drop i).take 1 = [cs.toList[i]] := by
    show (cs.toList.drop i).take 1 = _
    rw [List.drop_eq_getElem_cons hic]
    rfl
  rw [hone', hx] at h1
  exact ⟨_, _, n, List.getElem?_eq_getElem hic, h1⟩
theorem open_item (hv : Value.okWide Try.prog w r b0 42 v) (h : DataW.Trod enc Try.prog w base (fun _ => true) held 42 v d p) :
    ∃ a b c : Int, v = .agg #[.int .i64 a, .int .i64 b, .int .i64 c] ∧ (Lit.int .i64 a).wf = true ∧ (Lit.int .i64 b).wf = true ∧ (Lit.int .i64 c).wf = true := by
  obtain ⟨l, rfl, hlen, hf⟩ := open_fields Try.underlying42 (by kernel_rfl) (by kernel_rfl) hv h
  obtain ⟨c0, y0, n0, h0, t0⟩ := hf 0 _ rfl
  obtain ⟨c1, y1, n1, h1, t1⟩ := hf 1 _ rfl
  obtain ⟨c2, y2, n2, h2, t2⟩ := hf 2 _ rfl
  obtain ⟨a, e0, _, w0⟩ := DataW.trod_int Try.underlying3 t0
  obtain rfl : c0 = .int .i64 a := by simpa using e0
  obtain ⟨b, e1, _, w1⟩ := DataW.trod_int Try.underlying3 t1
  obtain rfl : c1 = .int .i64 b := by simpa using e1
  obtain ⟨c, e2, _, w2⟩ := DataW.trod_int Try.underlying3 t2
  obtain rfl : c2 = .int .i64 c := by simpa using e2
  refine ⟨a, b, c, ?_, w0, w1, w2⟩
  have hl3 : l.length = 3 := hlen
  match l, hl3 with
  | [a0, a1, a2], _ =>
    simp at h0 h1 h2
    subst h0 h1 h2
    rfl
/-- What the reach says of an argument's capacity. -/
theorem cap_sized {sz : Nat} {ts : List TypeId} {ds : List (DataW H)} (hsz : (DataW.weightsEach Try.prog ts ds).all (· ≤ reachBytes) = true) {j : Nat} {t e : TypeId} (ht : ts[j]? = some t) (hd : ds[j]? = some d) (hu : Try.prog.underlying t = some (.slice e)) (hb : Try.prog.bytesOf e = sz)
    {A : Option Addr} {n c : Nat} (h : DataW.Trod enc Try.prog w base (fun _ => true) held t (.slice A n c) d p) : c * sz ≤ 140737488351232 := by
  obtain ⟨fuel, hf⟩ := h
  rcases DataW.trod_slice hu hf with ⟨hcs, _⟩ | ⟨a, len, cap, elems, rest, n', _, hcs, hx, _, hl, _, he, _, hr, _⟩
  · simp [Value.cells] at hcs
    obtain ⟨_, _, rfl⟩ := hcs
    omega
  · simp [Value.cells] at hcs
    obtain ⟨_, _, rfl⟩ := hcs
    injection hx with hx _
    subst hx
    have k := sized_slice hsz ht hd hu
    rw [hb, List.length_map, List.length_map, he, (hr rfl).1, show len + (c - len) = c by omega] at k
    exact k
end
end Go.Proofs.Ytjbfkbdjopbjjaa
