/- Slices of intervals and of hours in memory: what they read as; a slice that comes in as an argument; a slice of the call's own. -/
import Derived.Test.YtlkindlbllbmgaaBits
import Derived.Deep.Slices
import Derived.Deep.Fields
import Derived.OpenShut
import Derived.OwnWalk
namespace Go.Proofs.Ytlkindlbllbmgaa
open Go.RowKit Go.ChangeShapes Go.WideShapes Go.Deep

theorem block_of_add (a : Addr) (n : Nat) : (a.add n).block = a.block := by unfold Addr.add; split <;> rfl
theorem add_0 (a : Addr) : a.add 0 = a := rfl
theorem below_drewN {B : Nat} {a w : World} (h : Below B a w) (n : Nat) : Below B a (w.drewN n) := ⟨h.os, h.tape, h.output, h.size, h.block⟩

/-- The ends of interval i. -/
def lx (l : List Iv) (i : Nat) : Int := (l[i]?.getD (0, 0)).1
def ly (l : List Iv) (i : Nat) : Int := (l[i]?.getD (0, 0)).2
theorem lx_at {l : List Iv} {i : Nat} (h : i < l.length) : lx l i = l[i].1 := by unfold lx; rw [List.getElem?_eq_getElem h]; rfl
theorem ly_at {l : List Iv} {i : Nat} (h : i < l.length) : ly l i = l[i].2 := by unfold ly; rw [List.getElem?_eq_getElem h]; rfl
theorem lxy_at {l : List Iv} {i : Nat} (h : i < l.length) : (lx l i, ly l i) = l[i] := by rw [lx_at h, ly_at h]
/-- A slice that reads as the intervals l, below block B. -/
def Ivs (w : World) (B : Nat) (A : Option Addr) (l : List Iv) : Prop :=
  0 < l.length → ∃ ad, A = some ad ∧ ad.block < B ∧ ∀ i, i < l.length → w.cell? (ad.add (i * 2)) = some (.int .i64 (lx l i)) ∧ w.cell? { block := (ad.add (i * 2)).block, off := (ad.add (i * 2)).off + 1 } = some (.int .i64 (ly l i))
theorem Ivs.keep {w w' : World} {B : Nat} {A : Option Addr} {l : List Iv} (h : Ivs w B A l) (hk : ∀ p : Addr, p.block < B → w'.cell? p = w.cell? p) : Ivs w' B A l := fun hn => by
  obtain ⟨ad, e, hl, hc⟩ := h hn
  exact ⟨ad, e, hl, fun i hi => ⟨(hk _ (by rw [block_of_add]; exact hl)).trans (hc i hi).1, (hk _ (by show (ad.add (i * 2)).block < B; rw [block_of_add]; exact hl)).trans (hc i hi).2⟩⟩
theorem Ivs.below {w w' : World} {B : Nat} {A : Option Addr} {l : List Iv} (h : Ivs w B A l) (hb : Below B w w') : Ivs w' B A l := h.keep fun _ hp => hb.cell hp
theorem Ivs.more {w : World} {B B' : Nat} {A : Option Addr} {l : List Iv} (h : Ivs w B A l) (hB : B ≤ B') : Ivs w B' A l := fun hn => by
  obtain ⟨ad, e, hl, hc⟩ := h hn
  exact ⟨ad, e, Nat.lt_of_lt_of_le hl hB, hc⟩
theorem Ivs.none_ {w : World} {B : Nat} {A : Option Addr} : Ivs w B A [] := fun h => absurd h (by simp)

def hd (l : List Hr) (i : Nat) : Int := (l[i]?.getD (0, 0, 0)).1
def hf (l : List Hr) (i : Nat) : Int := (l[i]?.getD (0, 0, 0)).2.1
def ht (l : List Hr) (i : Nat) : Int := (l[i]?.getD (0, 0, 0)).2.2
theorem h_at {l : List Hr} {i : Nat} (h : i < l.length) : (hd l i, hf l i, ht l i) = l[i] := by unfold hd hf ht; rw [List.getElem?_eq_getElem h]; rfl
def Hrs (w : World) (B : Nat) (A : Option Addr) (l : List Hr) : Prop :=
  0 < l.length → ∃ ad, A = some ad ∧ ad.block < B ∧ ∀ i, i < l.length → w.cell? (ad.add (i * 3)) = some (.int .i64 (hd l i)) ∧ w.cell? { block := (ad.add (i * 3)).block, off := (ad.add (i * 3)).off + 1 } = some (.int .i64 (hf l i)) ∧
    w.cell? { block := (ad.add (i * 3)).block, off := (ad.add (i * 3)).off + 2 } = some (.int .i64 (ht l i))
theorem Hrs.keep {w w' : World} {B : Nat} {A : Option Addr} {l : List Hr} (h : Hrs w B A l) (hk : ∀ p : Addr, p.block < B → w'.cell? p = w.cell? p) : Hrs w' B A l := fun hn => by
  obtain ⟨ad, e, hl, hc⟩ := h hn
  have hb : ∀ i, (ad.add (i * 3)).block < B := fun i => by rw [block_of_add]; exact hl
  exact ⟨ad, e, hl, fun i hi => ⟨(hk _ (hb i)).trans (hc i hi).1, (hk ⟨(ad.add (i * 3)).block, (ad.add (i * 3)).off + 1, _⟩ (hb i)).trans (hc i hi).2.1, (hk ⟨(ad.add (i * 3)).block, (ad.add (i * 3)).off + 2, _⟩ (hb i)).trans (hc i hi).2.2⟩⟩
theorem Hrs.below {w w' : World} {B : Nat} {A : Option Addr} {l : List Hr} (h : Hrs w B A l) (hb : Below B w w') : Hrs w' B A l := h.keep fun _ hp => hb.cell hp
theorem Hrs.more {w : World} {B B' : Nat} {A : Option Addr} {l : List Hr} (h : Hrs w B A l) (hB : B ≤ B') : Hrs w B' A l := fun hn => by
  obtain ⟨ad, e, hl, hc⟩ := h hn
  exact ⟨ad, e, Nat.lt_of_lt_of_le hl hB, hc⟩
theorem Hrs.none_ {w : World} {B : Nat} {A : Option Addr} : Hrs w B A [] := fun h => absurd h (by simp)

/-! ### A slice of the call's own -/
def cellsL : List Iv → List Value
  | [] => []
  | p :: l => .int .i64 p.1 :: .int .i64 p.2 :: cellsL l
theorem cellsL_len : ∀ l : List Iv, (cellsL l).length = l.length * 2
  | [] => rfl
  | p :: l => by rw [cellsL, List.length_cons, List.length_cons, cellsL_len l, List.length_cons]; omega
theorem cellsL_append : ∀ l m : List Iv, cellsL (l ++ m) = cellsL l ++ cellsL m
  | [], m => rfl
  | p :: l, m => by rw [List.cons_append, cellsL, cellsL, cellsL_append l m]; rfl
theorem cellsL_at : ∀ (l : List Iv) (i : Nat) (h : i < l.length), (cellsL l)[i * 2]? = some (.int .i64 l[i].1) ∧ (cellsL l)[i * 2 + 1]? = some (.int .i64 l[i].2)
  | p :: l, 0, _ => ⟨rfl, rfl⟩
  | p :: l, i + 1, h => by
    have k := cellsL_at l i (by simpa using h)
    rw [cellsL, show (i + 1) * 2 = i * 2 + 1 + 1 by omega]
    simpa using k
theorem cellsL_snoc_set (o : List Iv) (q : Iv) (y : Int) : (cellsL (o ++ [q])).set (o.length * 2 + 1) (.int .i64 y) = cellsL (o ++ [(q.1, y)]) := by
  rw [cellsL_append, cellsL_append, List.set_append_right _ _ (by rw [cellsL_len]; omega), cellsL_len]
  simp [cellsL]
theorem cellsL_one (l : List Iv) : ∀ u, u ∈ cellsL l → u.oneCell' = true := by
  induction l with
  | nil => intro u h; cases h
  | cons p l ih =>
    intro u h
    rw [cellsL] at h
    rcases List.mem_cons.1 h with rfl | h
    · rfl
    · rcases List.mem_cons.1 h with rfl | h
      · rfl
      · exact ih u h
theorem add_pos (g j : Nat) : (⟨g, 0, none⟩ : Addr).add j = ⟨g, j, none⟩ := by unfold Addr.add; split <;> simp_all

/-- What the call owns reads as the list. -/
theorem own_ivs {w : World} {base e n cap : Nat} {A : Option Addr} {l : List Iv} (h : w.ownsRow base e 2 (.slice A n cap) n (cellsL l)) : n = l.length ∧ Ivs w w.heap.size A l := by
  have hn : n = l.length := by have := h.1; rw [cellsL_len] at this; omega
  refine ⟨hn, fun hpos => ?_⟩
  rcases h.2 with ⟨hv, h0⟩ | ⟨g, cap', cur, hv, _, hg, _⟩
  · omega
  · injection hv with hA
    subst hA
    refine ⟨_, rfl, (Array.getElem?_eq_some_iff.1 hg).1, fun i hi => ?_⟩
    have hc := h.cells (g := g) rfl
    obtain ⟨c0, c1⟩ := cellsL_at l i hi
    have k0 := hc _ _ c0
    have k1 := hc _ _ c1
    rw [add_pos] at k0 k1
    rw [add_pos, lx_at hi, ly_at hi]
    exact ⟨k0, k1⟩

/-! ### A slice that comes in -/
section
variable {H : Type} {enc : TypeId × Value → H} {P : Program} {w : World} {base : Nat} {spare : Nat → Bool} {held : Bool}
/-- A slice of structs of one-cell fields: each element's cells, and each field's own reading. -/
theorem open_slice_fields {t e : TypeId} {fs : Array Field} {fuel : Nat} {cs : List Value} {x : DataW H × List MemPlace} (ht : P.underlying t = some (.slice e)) (he : P.underlying e = some (.struct fs))
    (hone : oneCellFields P fs = true) (hC : P.cellsOf e = fs.size) (h : DataW.trod enc P w base spare held fuel t cs = some x) :
    (cs = [.slice none 0 0] ∧ x = (.nil, [])) ∨
    ∃ (a : Addr) (len cap m : Nat) (D : Nat → DataW H) (Pl : Nat → List MemPlace), cs = [.slice (some a) len cap] ∧ base ≤ a.block ∧ len ≤ cap ∧ cap ≤ maxLen ∧ m = (if spare a.block then cap else len) ∧
      x = (.slice ((List.range len).map D) ((List.range (m - len)).map fun j => D (len + j)), MemPlace.row a (m * fs.size) ++ (List.range m).flatMap Pl) ∧
      ∀ i, i < m → ∃ (ys : List (DataW H × List MemPlace)) (n : Nat), D i = .agg (ys.map (·.1)) ∧ Pl i = ys.flatMap (·.2) ∧ ys.length = fs.size ∧
        ∀ (j : Nat) (f : Field), fs[j]? = some f → ∃ (v : Value) (y : DataW H × List MemPlace), w.cell? (a.add (i * fs.size + j)) = some v ∧ ys[j]? = some y ∧ DataW.trod enc P w base spare held n f.type [v] = some y := by
  rcases open_slice ht h with h0 | ⟨a, len, cap, m, n, D, Pl, hcs, hb, hl, hm, hmm, hx, hi⟩
  · exact .inl h0
  · refine .inr ⟨a, len, cap, m, D, Pl, hcs, hb, hl, hm, hmm, by rw [hC] at hx; exact hx, fun i him => ?_⟩
    obtain ⟨cs', hc, ht'⟩ := hi i him
    rw [hC] at hc
    obtain ⟨ys, n', hn', hy, hlen, hyl, hf⟩ := DataW.trod_struct he ht'
    obtain ⟨_, hcl, hat⟩ := World.cells?_some hc
    simp only [Prod.mk.injEq] at hy
    refine ⟨ys, n', hy.1, hy.2, hyl, fun j f hj => ?_⟩
    obtain ⟨ho, hk⟩ := hone_of hone j f hj
    have hjl : j < fs.size := (Array.getElem?_eq_some_iff.1 hj).1
    have hcell := hat j hjl
    have hv : cs'[j]? = some (cs'[j]'(by omega)) := List.getElem?_eq_getElem (by omega)
    have h1 := hf j f hj
    rw [ho, hk] at h1
    have hone' : (cs'.drop j).take 1 = [cs'[j]'(by omega)] := by
      rw [List.drop_eq_getElem_cons (by omega)]
      rfl
    rw [hone'] at h1
    have hys : ys[j]? = some (ys[j]'(by omega)) := List.getElem?_eq_getElem (by omega)
    refine ⟨_, _, ?_, hys, h1.trans hys⟩
    rw [← Go.Deep.add_add, hcell, hv]
end
theorem add_next (a : Addr) (i k j : Nat) : a.add (i * k + (j + 1)) = { block := (a.add (i * k)).block, off := (a.add (i * k)).off + (j + 1) } := by
  unfold Addr.add
  by_cases h : i * k = 0
  · rw [if_pos h, if_neg (by omega), h]
    simp
  · rw [if_neg h, if_neg (by omega)]
    simp [Nat.add_assoc]
theorem getD_map (f : Nat → Iv) (n i : Nat) (h : i < n) : (((List.range n).map f)[i]?.getD (0, 0)) = f i := by simp [h]
theorem getD_map3 (f : Nat → Hr) (n i : Nat) (h : i < n) : (((List.range n).map f)[i]?.getD (0, 0, 0)) = f i := by simp [h]

theorem open_ivs {H : Type} {enc : TypeId × Value → H} {w : World} {v : Value} {d : DataW H} {p : List MemPlace} {r : Reach} {b0 : Nat} (hok : Value.okWide Try.prog w r b0 30 v) (h : DataW.Trod enc Try.prog w 0 (fun _ => true) true 30 v d p) :
    ∃ (A : Option Addr) (cap : Nat) (l : List Iv), v = .slice A l.length cap ∧ l.length ≤ 9223372036854775807 ∧ Ivs w w.heap.size A l := by
  obtain ⟨fuel, hf⟩ := h
  obtain ⟨a0, len, cap, rfl⟩ := okWide_slice Try.underlying30 hok
  rcases open_slice_fields Try.underlying30 Try.underlying38 (by kernel_rfl) (by kernel_rfl) hf with ⟨hcs, _⟩ | ⟨a, len', cap', m, D, Pl, hcs, _, hl, hm, hmm, _, hi⟩
  · simp [Value.cells] at hcs
    obtain ⟨rfl, rfl, rfl⟩ := hcs
    exact ⟨none, 0, [], rfl, by simp, Ivs.none_⟩
  · simp [Value.cells] at hcs
    obtain ⟨rfl, rfl, rfl⟩ := hcs
    have hm' : m = cap := by simpa using hmm
    subst hm'
    have hcell : ∀ i, i < len → ∃ q : Iv, w.cell? (a.add (i * 2)) = some (.int .i64 q.1) ∧ w.cell? (a.add (i * 2 + 1)) = some (.int .i64 q.2) := by
      intro i hi'
      obtain ⟨ys, n, _, _, _, hf⟩ := hi i (by omega)
      obtain ⟨v0, y0, c0, _, t0⟩ := hf 0 _ rfl
      obtain ⟨v1, y1, c1, _, t1⟩ := hf 1 _ rfl
      obtain ⟨x, hx, _⟩ := DataW.trod_int Try.underlying3 t0
      obtain ⟨y, hy, _⟩ := DataW.trod_int Try.underlying3 t1
      obtain rfl : v0 = .int .i64 x := by simpa using hx
      obtain rfl : v1 = .int .i64 y := by simpa using hy
      exact ⟨(x, y), c0, c1⟩
    refine ⟨some a, m, (List.range len).map (fun i => if h : i < len then (hcell i h).choose else (0, 0)), by simp, by simp; unfold maxLen at hm; omega, fun hn => ⟨a, rfl, ?_, fun i hi' => ?_⟩⟩
    · obtain ⟨q, c0, _⟩ := hcell 0 (by simpa using hn)
      have := World.block_lt_of_cell? _ _ c0
      rwa [block_of_add] at this
    · have hi2 : i < len := by simpa using hi'
      obtain ⟨c0, c1⟩ := (hcell i hi2).choose_spec
      unfold lx ly
      rw [getD_map _ _ _ hi2, dif_pos hi2]
      exact ⟨c0, by rw [← add_next a i 2 0]; exact c1⟩
theorem open_hrs {H : Type} {enc : TypeId × Value → H} {w : World} {v : Value} {d : DataW H} {p : List MemPlace} {r : Reach} {b0 : Nat} (hok : Value.okWide Try.prog w r b0 25 v) (h : DataW.Trod enc Try.prog w 0 (fun _ => true) true 25 v d p) :
    ∃ (A : Option Addr) (cap : Nat) (l : List Hr), v = .slice A l.length cap ∧ l.length ≤ 9223372036854775807 ∧ Hrs w w.heap.size A l := by
  obtain ⟨fuel, hfu⟩ := h
  obtain ⟨a0, len, cap, rfl⟩ := okWide_slice Try.underlying25 hok
  rcases open_slice_fields Try.underlying25 Try.underlying42 (by kernel_rfl) (by kernel_rfl) hfu with ⟨hcs, _⟩ | ⟨a, len', cap', m, D, Pl, hcs, _, hl, hm, hmm, _, hi⟩
  · simp [Value.cells] at hcs
    obtain ⟨rfl, rfl, rfl⟩ := hcs
    exact ⟨none, 0, [], rfl, by simp, Hrs.none_⟩
  · simp [Value.cells] at hcs
    obtain ⟨rfl, rfl, rfl⟩ := hcs
    have hm' : m = cap := by simpa using hmm
    subst hm'
    have hcell : ∀ i, i < len → ∃ q : Hr, w.cell? (a.add (i * 3)) = some (.int .i64 q.1) ∧ w.cell? (a.add (i * 3 + 1)) = some (.int .i64 q.2.1) ∧ w.cell? (a.add (i * 3 + 2)) = some (.int .i64 q.2.2) := by
      intro i hi'
      obtain ⟨ys, n, _, _, _, hg⟩ := hi i (by omega)
      obtain ⟨v0, y0, c0, _, t0⟩ := hg 0 _ rfl
      obtain ⟨v1, y1, c1, _, t1⟩ := hg 1 _ rfl
      obtain ⟨v2, y2, c2, _, t2⟩ := hg 2 _ rfl
      obtain ⟨x, hx, _⟩ := DataW.trod_int Try.underlying3 t0
      obtain ⟨y, hy, _⟩ := DataW.trod_int Try.underlying3 t1
      obtain ⟨z, hz, _⟩ := DataW.trod_int Try.underlying3 t2
      obtain rfl : v0 = .int .i64 x := by simpa using hx
      obtain rfl : v1 = .int .i64 y := by simpa using hy
      obtain rfl : v2 = .int .i64 z := by simpa using hz
      exact ⟨(x, y, z), c0, c1, c2⟩
    refine ⟨some a, m, (List.range len).map (fun i => if h : i < len then (hcell i h).choose else (0, 0, 0)), by simp, by simp; unfold maxLen at hm; omega, fun hn => ⟨a, rfl, ?_, fun i hi' => ?_⟩⟩
    · obtain ⟨q, c0, _⟩ := hcell 0 (by simpa using hn)
      have := World.block_lt_of_cell? _ _ c0
      rwa [block_of_add] at this
    · have hi2 : i < len := by simpa using hi'
      obtain ⟨c0, c1, c2⟩ := (hcell i hi2).choose_spec
      unfold hd hf ht
      rw [getD_map3 _ _ _ hi2, dif_pos hi2]
      exact ⟨c0, by rw [← add_next a i 3 0]; exact c1, by rw [← add_next a i 3 1]; exact c2⟩
end Go.Proofs.Ytlkindlbllbmgaa
