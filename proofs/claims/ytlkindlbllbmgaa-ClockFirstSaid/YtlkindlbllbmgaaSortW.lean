/- The world behind slices.SortFunc at a slice of intervals that the call owns. -/
import Derived.Test.YtlkindlbllbmgaaCoverR
namespace Go.Proofs.Ytlkindlbllbmgaa
open Go.RowKit Go.Sort

def encIv (x : Iv) : List Value := [.int .i64 x.1, .int .i64 x.2]
theorem encIv_len (x : Iv) : (encIv x).length = 2 := rfl
theorem encIv_one (x : Iv) : ∀ v ∈ encIv x, v.oneCell' = true := fun v hv => by
  simp [encIv] at hv
  rcases hv with rfl | rfl <;> rfl
theorem flat_at (l : List Iv) (j : Nat) (h : j < l.length * 2) : (cellsL l)[j]? = some ((encIv l.toArray[j / 2]!)[j % 2]!) := by
  obtain ⟨i, hj⟩ : ∃ i, j = i * 2 ∨ j = i * 2 + 1 := ⟨j / 2, by omega⟩
  have hi : i < l.length := by omega
  obtain ⟨c0, c1⟩ := cellsL_at l i hi
  have e : l.toArray[i]! = l[i] := by simp [hi]
  rcases hj with rfl | rfl
  · rw [c0, show i * 2 / 2 = i by omega, show i * 2 % 2 = 0 by omega, e]
    simp [encIv]
  · rw [c1, show (i * 2 + 1) / 2 = i by omega, show (i * 2 + 1) % 2 = 1 by omega, e]
    simp [encIv]
theorem holds_own {w : World} {base e g cap : Nat} {l : List Iv} (h : w.ownsRow base e 2 (.slice (some ⟨g, 0, none⟩) l.length cap) l.length (cellsL l)) : HoldsK encIv 2 w g 0 l.toArray := by
  intro j hj
  rw [size_flatK] at hj
  have hj' : j < l.length * 2 := by simpa using hj
  refine ⟨?_, by rw [Nat.zero_add]; exact h.frozenAt j⟩
  rw [Nat.zero_add, h.cellAt j hj', flat_at l j hj', get_flatK _ _ _ _ hj]
  rfl
theorem sorted_ivs {w : World} {g n : Nat} {d d' : Array Iv} {os : Array Obj} (hH : HoldsK encIv 2 w g 0 d) (hg : g < w.heap.size) (hs : d'.size = d.size) :
    Ivs (sortWorldK encIv 2 w g 0 n d' os) (sortWorldK encIv 2 w g 0 n d' os).heap.size (some ⟨g, 0, none⟩) d'.toList := fun hpos => by
  have h1 : HoldsK encIv 2 (putRowK encIv 2 (Sort.ahead w n) g 0 d') g 0 d' := holdsK_putRowK _ _ _ _ _ _ _ (holdsK_ahead _ _ _ _ _ _ _ hH) hs
  have hsz : (putRowK encIv 2 (Sort.ahead w n) g 0 d').heap.size = w.heap.size := by simp [putRowK, putRow, mapBlock, Sort.ahead]
  have h2 : HoldsK encIv 2 (sortWorldK encIv 2 w g 0 n d' os) g 0 d' := holdsK_grow _ _ _ _ _ _ _ (by rw [hsz]; exact hg) h1
  have hlt : g < (sortWorldK encIv 2 w g 0 n d' os).heap.size := by
    unfold sortWorldK grow
    show g < (_ ++ os).size
    rw [Array.size_append, hsz]
    omega
  refine ⟨_, rfl, hlt, fun i hi => ?_⟩
  have hi' : i < d'.size := by simpa using hi
  have c0 := (h2.cell (i := i) (c := 0) hi' (by omega)).1
  have c1 := (h2.cell (i := i) (c := 1) hi' (by omega)).1
  rw [Nat.zero_add] at c0 c1
  rw [add_pos, lx_at hi, ly_at hi]
  have e : d'[i]! = d'.toList[i] := by simp [hi']
  rw [e] at c0 c1
  exact ⟨c0, c1⟩
theorem sorted_below {w : World} {B g n : Nat} {d' : Array Iv} {os : Array Obj} (hB : B ≤ g) (hw : B ≤ w.heap.size) : Below B w (sortWorldK encIv 2 w g 0 n d' os) := by
  refine ⟨rfl, rfl, rfl, ?_, fun k hk => ?_⟩
  · unfold sortWorldK grow
    show _ ≤ (_ ++ os).size
    rw [Array.size_append]
    simp [putRowK, putRow, mapBlock, Sort.ahead]
  · unfold sortWorldK
    rw [heap_grow_old _ _ (by simp [putRowK, putRow, mapBlock, Sort.ahead]; omega)]
    have : g ≠ k := by omega
    simp [putRowK, putRow, mapBlock, Sort.ahead, Array.getElem?_modify, this]

theorem perm_of {d d' : Array Iv} (h : PermIn 0 d.size d d') : d'.size = d.size ∧ d'.toList.Perm d.toList := by
  obtain ⟨h1, _, h3⟩ := h
  refine ⟨h1, ?_⟩
  have e1 : d'.extract 0 d.size = d' := by rw [← h1]; simp
  have e2 : d.extract 0 d.size = d := by simp
  rw [e1, e2] at h3
  exact h3
theorem lt_of_cf (x y : Iv) : ltOf (fun x y : Iv => Lib.compareInt x.1 y.1) x y = decide (x.1 < y.1) := by
  unfold ltOf Lib.compareInt
  by_cases h1 : x.1 < y.1
  · simp [h1]
  · by_cases h2 : y.1 < x.1 <;> simp [h1, h2]
theorem swo_cf : SWO (ltOf fun x y : Iv => Lib.compareInt x.1 y.1) where
  irrefl x := by rw [lt_of_cf]; simp
  trans x y z h1 h2 := by rw [lt_of_cf] at *; simp at *; omega
  ntrans x y z h1 h2 := by rw [lt_of_cf] at *; simp at *; omega
theorem sorted_of {d : Array Iv} {n : Nat} (hn : n = d.size) (h : SortedIn (ltOf fun x y : Iv => Lib.compareInt x.1 y.1) 0 n d) : d.toList.Pairwise (fun p q => p.1 ≤ q.1) := by
  subst hn
  rw [List.pairwise_iff_getElem]
  intro i j hi hj hij
  have k := h i j (Nat.zero_le _) hij (by simpa using hj)
  rw [lt_of_cf, decide_eq_false_iff_not] at k
  have e1 : d[i]! = d.toList[i] := by simp at hi; simp [hi]
  have e2 : d[j]! = d.toList[j] := by simp at hj; simp [hj]
  rw [e1, e2] at k
  omega
end Go.Proofs.Ytlkindlbllbmgaa
