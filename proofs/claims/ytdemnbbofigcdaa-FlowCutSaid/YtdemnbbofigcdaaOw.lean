/- Slices over rows of the call's own, from whatever cell on: what they read as; append, copy, slicing. -/
import Derived.Test.YtdemnbbofigcdaaMapV
import Derived.Test.YtdemnbbofigcdaaApp
import Derived.Laws.CopyOwn
import Derived.Laws.Externs
namespace Go.Proofs.Ytdemnbbofigcdaa
open Go.RowKit

/-- A slice of n elements of s cells each, over a row of the call's own. -/
def Ow (w : World) (base : Nat) (e : TypeId) (s : Nat) (A : Option Addr) (n cap : Nat) (xs : List Value) : Prop :=
  xs.length = n * s ∧ ((A = none ∧ n = 0 ∧ cap = 0) ∨ ∃ g off pre post, A = some ⟨g, off, none⟩ ∧ base ≤ g ∧ w.heap[g]? = some (.cells (pre ++ (xs ++ post)).toArray e (0, 0)) ∧ pre.length = off ∧ n ≤ cap ∧ cap ≤ maxLen ∧ (cap - n) * s ≤ post.length)
def blk (A : Option Addr) : Option Nat := A.map (·.block)
theorem blk_some (g o : Nat) : blk (some ⟨g, o, none⟩) = some g := rfl
theorem blk_none : blk none = none := rfl
section
variable {w w' : World} {base n cap s : Nat} {e : TypeId} {A : Option Addr} {xs : List Value}
theorem ow_nil (w : World) (base : Nat) (e : TypeId) (s : Nat) : Ow w base e s none 0 0 [] := ⟨by simp, .inl ⟨rfl, rfl, rfl⟩⟩
theorem Ow.kept {row : Option Nat} (h : Ow w base e s A n cap xs) (hg : w.grownBy w' row) (hne : blk A = none ∨ blk A ≠ row) : Ow w' base e s A n cap xs := by
  refine ⟨h.1, ?_⟩
  rcases h.2 with h1 | ⟨g, off, pre, post, rfl, hb, hgg, rest⟩
  · exact .inl h1
  · refine .inr ⟨g, off, pre, post, rfl, hb, ?_, rest⟩
    rw [hg.block g (Array.getElem?_eq_some_iff.1 hgg).1 (by simpa [blk] using hne)]
    exact hgg
theorem Ow.alloc (h : Ow w base e s A n cap xs) (o : Obj) : Ow (w.alloc o) base e s A n cap xs := h.kept (World.grownBy_alloc w o none) (by cases hv : blk A <;> simp)
theorem Ow.drew (h : Ow w base e s A n cap xs) : Ow w.drew base e s A n cap xs := h
theorem Ow.drewN (h : Ow w base e s A n cap xs) (k : Nat) : Ow (w.drewN k) base e s A n cap xs := h
theorem Ow.up (h : Ow w base e s A n cap xs) (hb : Below w.heap.size w w') : Ow w' base e s A n cap xs :=
  h.kept (row := none) ⟨hb.os, hb.tape, hb.output, hb.size, fun k hk _ => hb.block k hk⟩ (by cases hv : blk A <;> simp)
theorem Ow.less {base' : Nat} (h : Ow w base e s A n cap xs) (hb : base' ≤ base) : Ow w base' e s A n cap xs := by
  refine ⟨h.1, ?_⟩
  rcases h.2 with h1 | ⟨g, off, pre, post, h1, h2, h3⟩
  · exact .inl h1
  · exact .inr ⟨g, off, pre, post, h1, by omega, h3⟩
theorem Ow.lt (h : Ow w base e s A n cap xs) : ∀ k, blk A = some k → base ≤ k ∧ k < w.heap.size := by
  intro k hk
  rcases h.2 with ⟨rfl, _⟩ | ⟨g, off, pre, post, rfl, h2, h3, _⟩
  · cases hk
  · injection hk with hk
    have hk : g = k := hk
    subst hk
    exact ⟨h2, (Array.getElem?_eq_some_iff.1 h3).1⟩
theorem Ow.capp (h : Ow w base e s A n cap xs) : n ≤ cap ∧ (A = none → cap = 0) := by
  rcases h.2 with ⟨rfl, rfl, rfl⟩ | ⟨g, off, pre, post, rfl, _, _, _, h4, _⟩
  · exact ⟨Nat.le_refl _, fun _ => rfl⟩
  · exact ⟨h4, fun h => by cases h⟩
theorem Ow.ne_map {b k : Nat} {m : Int → Option Value} (h : Ow w base e s A n cap xs) (hm : MapV w b k m) : some b ≠ blk A := by
  rcases h.2 with ⟨rfl, _⟩ | ⟨g, off, pre, post, rfl, _, h3, _⟩
  · intro h; cases h
  · intro h
    injection h with h
    exact hm.ne_cells h3 h
theorem add_at (g o j : Nat) : (⟨g, o, none⟩ : Addr).add j = ⟨g, o + j, none⟩ := by unfold Addr.add; split <;> simp_all
/-- Its elements' cells. -/
theorem Ow.cells (h : Ow w base e s A n cap xs) {ad : Addr} (hA : A = some ad) : ∀ j u, xs[j]? = some u → w.cell? (ad.add j) = some u := by
  intro j u hu
  rcases h.2 with ⟨rfl, _⟩ | ⟨g, off, pre, post, rfl, _, h3, h4, _⟩
  · cases hA
  · injection hA with hA
    subst hA
    have hj := (List.getElem?_eq_some_iff.1 hu).1
    rw [add_at, cell_of_row w g _ _ e (0, 0) h3, List.getElem?_toArray, List.getElem?_append_right (by omega), show off + j - pre.length = j by omega, List.getElem?_append_left hj]
    exact hu
theorem Ow.rd (h : Ow w base e 1 A n cap xs) : Rd w w.heap.size A cap xs := by
  have hl := h.1
  refine ⟨by have := h.capp.1; omega, h.capp.2, fun hn => ?_⟩
  rcases h.2 with ⟨rfl, h0, _⟩ | ⟨g, off, pre, post, rfl, _, h3, _⟩
  · omega
  · exact ⟨_, rfl, (Array.getElem?_eq_some_iff.1 h3).1, h.cells rfl⟩
theorem Ow.of_own {A : Option Addr} (h : w.ownsRow base e s (.slice A n cap) n xs) : Ow w base e s A n cap xs := by
  refine ⟨h.1, ?_⟩
  rcases h.2 with ⟨hv, h0⟩ | ⟨g, cap', cur, hv, h1, h2, h3, h4, h5, h6⟩
  · injection hv with a b c
    exact .inl ⟨a, h0, c⟩
  · injection hv with a b c
    subst c
    refine .inr ⟨g, 0, [], cur.toList.drop (n * s), a, h1, ?_, rfl, h3, h4, ?_⟩
    · rw [List.nil_append, ← h6, List.take_append_drop]
      exact h2
    · rw [List.length_drop, Array.length_toList, h5, Nat.sub_mul]
      omega
theorem Ow.own {c : Nat} (h : Ow w base e s (some ⟨c, 0, none⟩) n cap xs) (hx : ∀ pre post, w.heap[c]? = some (.cells (pre ++ (xs ++ post)).toArray e (0, 0)) → pre.length = 0 → post.length = (cap - n) * s) : w.ownsRow base e s (.slice (some ⟨c, 0, none⟩) n cap) n xs := by
  refine ⟨h.1, ?_⟩
  rcases h.2 with ⟨h1, _⟩ | ⟨g, off, pre, post, h1, h2, h3, h4, h5, h6, h7⟩
  · cases h1
  · injection h1 with h1
    injection h1 with h1 h0
    subst h1 h0
    have hl := hx pre post h3 h4
    have hp : pre = [] := List.eq_nil_of_length_eq_zero h4
    subst hp
    have hle := Nat.mul_le_mul_right s h5
    refine .inr ⟨_, cap, _, rfl, h2, h3, h5, h6, ?_, ?_⟩
    · rw [List.size_toArray, List.nil_append, List.length_append, h.1, hl, Nat.sub_mul]
      omega
    · rw [List.nil_append, ← h.1, List.take_left]
/-- s[1:]. -/
theorem Ow.tail (h : Ow w base e s A n cap xs) (hn : 0 < n) : Ow w base e s (if cap = 1 then A else A.map (·.add s)) (n - 1) (cap - 1) (xs.drop s) := by
  have hl := h.1
  have hs : s ≤ n * s := Nat.le_mul_of_pos_left s hn
  refine ⟨by rw [List.length_drop, hl, Nat.sub_mul, Nat.one_mul], ?_⟩
  rcases h.2 with ⟨_, h0, _⟩ | ⟨g, off, pre, post, rfl, h2, h3, h4, h5, h6, h7⟩
  · omega
  · split
    · rename_i hc
      subst hc
      obtain rfl : n = 1 := by omega
      have hx : xs.drop s = [] := List.drop_eq_nil_of_le (by omega)
      rw [hx]
      exact .inr ⟨g, off, pre, xs ++ post, rfl, h2, by simpa using h3, h4, Nat.le_refl _, by unfold maxLen at *; omega, by simp⟩
    · refine .inr ⟨g, off + s, pre ++ xs.take s, post, by rw [Option.map_some, add_at], h2, ?_, by rw [List.length_append, List.length_take, Nat.min_eq_left (by omega)]; omega, by omega, by unfold maxLen at *; omega, by rw [show cap - 1 - (n - 1) = cap - n by omega]; exact h7⟩
      rw [List.append_assoc, ← List.append_assoc (xs.take s), List.take_append_drop]
      exact h3
/-- s[:k]. -/
theorem Ow.init {k : Nat} (h : Ow w base e s A n cap xs) (hk : k ≤ n) : Ow w base e s A k cap (xs.take (k * s)) := by
  have hl := h.1
  have hs : k * s ≤ n * s := Nat.mul_le_mul_right s hk
  refine ⟨by rw [List.length_take, hl, Nat.min_eq_left hs], ?_⟩
  rcases h.2 with ⟨h1, h0, hc⟩ | ⟨g, off, pre, post, rfl, h2, h3, h4, h5, h6, h7⟩
  · exact .inl ⟨h1, by omega, hc⟩
  · refine .inr ⟨g, off, pre, xs.drop (k * s) ++ post, rfl, h2, ?_, h4, by omega, h6, ?_⟩
    · rw [← List.append_assoc (xs.take (k * s)), List.take_append_drop]
      exact h3
    · rw [List.length_append, List.length_drop, hl]
      have e1 : (cap - k) * s = (cap - n) * s + (n - k) * s := by rw [← Nat.add_mul]; congr 1; omega
      have e2 : (n - k) * s = n * s - k * s := Nat.sub_mul ..
      omega
end

/-! ### append -/
section
variable {P : Program} (w : World)
theorem run_append_room_at (t ty e : TypeId) (i : TypeInfo) (ht : P.underlying t = some (.slice e)) (hi : P.info? e = some i) (g off sLen sCap : Nat) (cur : Array Value) (hg : w.heap[g]? = some (.cells cur e (0, 0)))
    (a : Addr) (m c : Nat) (news : List Value) (hl : news.length = m * i.size) (hnews : ∀ j u, news[j]? = some u → w.cell? (a.add j) = some u) (h1 : ∀ u ∈ news, u.oneCell' = true) (hroom : sLen + m ≤ sCap) (hfit : off + sLen * i.size + news.length ≤ cur.size) :
    (Builtin.append_ #[t, t] ty #[.slice (some ⟨g, off, none⟩) sLen sCap, .slice (some a) m c]).run P w =
      .ok (.slice (some ⟨g, off, none⟩) (sLen + m) sCap) (w.setRow g (cur.toList.take (off + sLen * i.size) ++ news ++ cur.toList.drop (off + sLen * i.size + news.length)).toArray) := by
  have hf := run_firstCells_some (P := P) w i.size m a m c news hl hnews
  have hst := run_storeCells_at P g (off + sLen * i.size) e news 0 cur w hg (by simpa using hfit) h1
  simp only [Nat.add_zero] at hst
  simp [Builtin.append_, run_underlying ht, sizeOf, typeInfo, hi, Builtin.lenOf, hroom, hf, Addr.add_lit, hst]
theorem grown_setRow {g : Nat} (cs : Array Value) : w.grownBy (w.setRow g cs) (some g) := ⟨rfl, rfl, rfl, by simp, fun k _ hk => setRow_other w g k _ (fun e => hk (by simp [e]))⟩
theorem run_append_ow (base : Nat) (t ty e : TypeId) (i : TypeInfo) (z : Value) (s bytes : Nat) (ht : P.underlying t = some (.slice e)) (hi : P.info? e = some i) (hz : i.zero = some z)
    (hsize : i.size = s) (hby : i.bytes = bytes) (hzs : z.cells.size = s) (A : Option Addr) (n cap : Nat) (xs : List Value) (hown : Ow w base e s A n cap xs)
    (v2 : Value) (m : Nat) (news : List Value) (hsrc : Feed s w v2 m news) (h1 : ∀ u ∈ news, u.oneCell' = true) (h63 : n + m ≤ maxLen) (hbytes : (n + m) * bytes ≤ 140737488355328) (hbase : base ≤ w.heap.size) :
    ∃ A' cap' w', (Builtin.append_ #[t, t] ty #[.slice A n cap, v2]).run P w = .ok (.slice A' (n + m) cap') w' ∧ Ow w' base e s A' (n + m) cap' (xs ++ news) ∧ w.grownBy w' (blk A) ∧ (blk A' = blk A ∨ blk A' = some w.heap.size) := by
  subst hsize
  subst hby
  have hsmall : n + m ≤ 9223372036854775807 := by simp only [maxLen] at h63; omega
  obtain ⟨hl, hsrc⟩ := hsrc
  have hlen : (xs ++ news).length = (n + m) * i.size := by rw [List.length_append, hown.1, hl, Nat.add_mul]
  have grown : ∀ (old : Nat) (row : Option Nat), Ow (w.drew.alloc (.cells (xs.toArray ++ news.toArray ++ Builtin.zeroCells z.cells (grownCap w (n + m) old e - (n + m))) e)) base e i.size (some ⟨w.heap.size, 0, none⟩) (n + m) (grownCap w (n + m) old e) (xs ++ news) ∧
      w.grownBy (w.drew.alloc (.cells (xs.toArray ++ news.toArray ++ Builtin.zeroCells z.cells (grownCap w (n + m) old e - (n + m))) e)) row := by
    intro old row
    refine ⟨⟨hlen, .inr ⟨w.heap.size, 0, [], (Builtin.zeroCells z.cells (grownCap w (n + m) old e - (n + m))).toList, rfl, hbase, ?_, rfl, grownCap_ge .., grownCap_le_maxLen w (n + m) old e h63, ?_⟩⟩, ⟨rfl, rfl, rfl, by simp, fun k hk _ => (Below.heap_alloc w.drew _ k hk)⟩⟩
    · have := heap_alloc_new w.drew (.cells (xs.toArray ++ news.toArray ++ Builtin.zeroCells z.cells (grownCap w (n + m) old e - (n + m))) e)
      have e1 : w.drew.heap.size = w.heap.size := rfl
      rw [e1] at this
      rw [this]
      congr 2
      apply Array.ext'
      simp
    · rw [Array.length_toList, size_zeroCells, hzs]
      exact Nat.le_refl _
  rcases hsrc with ⟨rfl, rfl⟩ | ⟨ad, c, rfl, hc⟩
  · obtain rfl : news = [] := List.eq_nil_of_length_eq_zero (by simpa using hl)
    refine ⟨A, cap, w, ?_, by simpa using hown, World.grownBy.refl w _, .inl rfl⟩
    rcases hown.2 with ⟨rfl, rfl, rfl⟩ | ⟨g, off, pre, post, rfl, _, h3, _, h5, _⟩
    · simp [Builtin.append_, run_underlying ht, sizeOf, typeInfo, hi, Builtin.lenOf, Builtin.firstCells]
    · simp [Builtin.append_, run_underlying ht, sizeOf, typeInfo, hi, Builtin.lenOf, Builtin.firstCells, h5, storeCells]
  · rcases hown.2 with ⟨rfl, rfl, rfl⟩ | ⟨g, off, pre, post, rfl, hb, h3, h4, h5, h6, h7⟩
    · have hx : xs = [] := List.eq_nil_of_length_eq_zero (by simpa using hown.1)
      subst hx
      by_cases hm : m = 0
      · subst hm
        obtain rfl : news = [] := List.eq_nil_of_length_eq_zero (by simpa using hl)
        refine ⟨none, 0, w, ?_, ow_nil w base e i.size, World.grownBy.refl w _, .inl rfl⟩
        simp [Builtin.append_, run_underlying ht, sizeOf, typeInfo, hi, Builtin.lenOf, Builtin.firstCells, loadCells, loadCellsFrom]
      · have hr := run_append_nil (P := P) w t ty e i z ht hi hz ad m c news hl hc (by omega) (by omega) (by have hb := hbytes; simp only [Nat.zero_add] at hb; omega)
        have hgr := grown 0 (blk none)
        simp only [Nat.zero_add, List.nil_append, Array.empty_append] at hgr ⊢
        exact ⟨_, _, _, hr, hgr.1, hgr.2, .inr rfl⟩
    · by_cases hroom : n + m ≤ cap
      · have hfit : off + n * i.size + news.length ≤ (pre ++ (xs ++ post)).toArray.size := by
          rw [List.size_toArray, List.length_append, List.length_append, hown.1, hl]
          have : m * i.size ≤ (cap - n) * i.size := Nat.mul_le_mul_right _ (by omega)
          omega
        have hr := run_append_room_at (P := P) w t ty e i ht hi g off n cap _ h3 ad m c news hl hc h1 hroom hfit
        have ecur : (pre ++ (xs ++ post)).take (off + n * i.size) ++ news ++ (pre ++ (xs ++ post)).drop (off + n * i.size + news.length) = pre ++ ((xs ++ news) ++ post.drop news.length) := by
          have a1 : (pre ++ (xs ++ post)).take (off + n * i.size) = pre ++ xs := by
            rw [← List.append_assoc, List.take_append_of_le_length (by rw [List.length_append, hown.1]; omega), List.take_of_length_le (by rw [List.length_append, hown.1]; omega)]
          have a2 : (pre ++ (xs ++ post)).drop (off + n * i.size + news.length) = post.drop news.length := by
            rw [← List.append_assoc, List.drop_append, List.drop_eq_nil_of_le (by rw [List.length_append, hown.1]; omega), List.nil_append, List.length_append, hown.1]
            congr 1
            omega
          rw [a1, a2, List.append_assoc, List.append_assoc, List.append_assoc]
        rw [List.toList_toArray] at hr
        rw [ecur] at hr
        refine ⟨_, _, _, hr, ⟨hlen, .inr ⟨g, off, pre, post.drop news.length, rfl, hb, setRow_heap w g _ _ e _ h3, h4, hroom, h6, ?_⟩⟩, grown_setRow w _, .inl rfl⟩
        rw [List.length_drop, hl, show cap - (n + m) = cap - n - m by omega, Nat.sub_mul]
        omega
      · have hr := run_append_grow (P := P) w t ty e i z ht hi hz ⟨g, off, none⟩ n cap xs hown.1 (hown.cells rfl) ad m c news hl hc (by omega) (by omega) (growslice_fits (by omega) hbytes)
        have hgr := grown cap (blk (some ⟨g, off, none⟩))
        exact ⟨_, _, _, hr, hgr.1, hgr.2, .inr rfl⟩
end
theorem wpList_append_ow {P : Program} {w : World} {ops : Array Oper} {rest : List Oper} {o : Oper} {a : Act} {Q : Exit → Act → World → Prop} (hgd : o.guard = none) (x y : Operand) (t : TypeId)
    (ho : o.op = .call { callee := .builtin .append, args := #[x, y], argTypes := #[t, t] })
    (base : Nat) (e : TypeId) (i : TypeInfo) (z : Value) (s bytes : Nat) (ht : P.underlying t = some (.slice e)) (hi : P.info? e = some i) (hz : i.zero = some z)
    (hsize : i.size = s) (hby : i.bytes = bytes) (hzs : z.cells.size = s) (A : Option Addr) (n cap : Nat) (xs : List Value) (hx : a.eval x = .slice A n cap) (hown : Ow w base e s A n cap xs)
    (v2 : Value) (m : Nat) (news : List Value) (hy : a.eval y = v2) (hsrc : Feed s w v2 m news) (h1 : ∀ u ∈ news, u.oneCell' = true) (h63 : n + m ≤ maxLen) (hbytes : (n + m) * bytes ≤ 140737488355328) (hbase : base ≤ w.heap.size)
    (h : ∀ A' cap' w', Ow w' base e s A' (n + m) cap' (xs ++ news) → w.grownBy w' (blk A) → (blk A' = blk A ∨ blk A' = some w.heap.size) → wpList P ops Q rest (a.put o.dst (.slice A' (n + m) cap')) w') : wpList P ops Q (o :: rest) a w := by
  refine wpList_plain hgd fun K hK => ?_
  obtain ⟨A', cap', w', hr, h2, h3, h4⟩ := run_append_ow (P := P) w base t o.type e i z s bytes ht hi hz hsize hby hzs A n cap xs hown v2 m news hsrc h1 h63 hbytes hbase
  unfold Oper.wp execOp
  simp only [ho, resolve, invoke, builtin, Sem.run_bind, Sem.run_pure, Result.andThen_ok, List.map_toArray, List.map_cons, List.map_nil, hx, hy, hr]
  exact hK _ _ (h A' cap' w' h2 h3 h4)
end Go.Proofs.Ytdemnbbofigcdaa
