/- Slices of ints and of items in memory: what they read as; rows of the call's own; what an append takes. -/
import Derived.Test.YtjbfkbdjopbjjaaScan
import Derived.Test.YtjbfkbdjopbjjaaProg
import Derived.Laws.AppendOwnNone
import Derived.Deep.AppendLies
import Derived.OwnWalk
import Derived.Below
import Derived.Deep.Draws
import Derived.WalkKit
import Derived.Lib.Hide
namespace Go.Proofs.Ytjbfkbdjopbjjaa
open Go.RowKit

theorem block_of_add (a : Addr) (n : Nat) : (a.add n).block = a.block := by unfold Addr.add; split <;> rfl
theorem add_of_add (a : Addr) (i j : Nat) : (a.add i).add j = a.add (i + j) := by
  unfold Addr.add
  by_cases hi : i = 0 <;> by_cases hj : j = 0 <;> simp [hi, hj, Nat.add_assoc]
theorem add_pos (g j : Nat) : (⟨g, 0, none⟩ : Addr).add j = ⟨g, j, none⟩ := by unfold Addr.add; split <;> simp_all
theorem below_drewN {B : Nat} {a w : World} (h : Below B a w) (n : Nat) : Below B a (w.drewN n) := ⟨h.os, h.tape, h.output, h.size, h.block⟩
theorem own_shape {w : World} {base e size n : Nat} {v : Value} {xs : List Value} (h : w.ownsRow base e size v n xs) : ∃ A cap, v = .slice A n cap ∧ n ≤ cap ∧ (A = none → cap = 0) := by
  rcases h.2 with ⟨rfl, rfl⟩ | ⟨g, cap, cur, rfl, _, _, h1, _⟩
  · exact ⟨none, 0, rfl, Nat.le_refl _, fun _ => rfl⟩
  · exact ⟨_, cap, rfl, h1, fun h => by cases h⟩
theorem own_addr {w : World} {base e size n cap : Nat} {A : Option Addr} {xs : List Value} (h : w.ownsRow base e size (.slice A n cap) n xs) (hn : 0 < n) : ∃ g, A = some ⟨g, 0, none⟩ ∧ base ≤ g ∧ g < w.heap.size := by
  rcases h.2 with ⟨_, rfl⟩ | ⟨g, cap, cur, hv, hb, hg, _⟩
  · omega
  · injection hv with h1
    exact ⟨g, h1, hb, (Array.getElem?_eq_some_iff.1 hg).1⟩
/-- What is owned stays where nothing below the heap's size turns. -/
theorem own_below {w w' : World} {base e size n : Nat} {v : Value} {xs : List Value} (h : w.ownsRow base e size v n xs) (hb : Below w.heap.size w w') : w'.ownsRow base e size v n xs :=
  h.kept (row := none) ⟨hb.os, hb.tape, hb.output, hb.size, fun k hk _ => hb.block k hk⟩ (by cases hv : v.ownBlock <;> simp)
theorem own_drewN {w : World} {base e size n : Nat} {v : Value} {xs : List Value} (h : w.ownsRow base e size v n xs) (k : Nat) : (w.drewN k).ownsRow base e size v n xs := h
theorem own_less {w : World} {base base' e size n : Nat} {v : Value} {xs : List Value} (h : w.ownsRow base e size v n xs) (hb : base' ≤ base) : w.ownsRow base' e size v n xs := by
  refine ⟨h.1, ?_⟩
  rcases h.2 with h1 | ⟨g, cap, cur, h1, h2, h3⟩
  · exact .inl h1
  · exact .inr ⟨g, cap, cur, h1, by omega, h3⟩

/-! ### Cells -/
def cellsI (l : List Int) : List Value := l.map fun n => Value.int .i64 n
theorem cellsI_len (l : List Int) : (cellsI l).length = l.length := by simp [cellsI]
theorem cellsI_append (a b : List Int) : cellsI (a ++ b) = cellsI a ++ cellsI b := by simp [cellsI]
theorem cellsI_at {l : List Int} {i : Nat} (h : i < l.length) : (cellsI l)[i]? = some (.int .i64 l[i]) := by simp [cellsI, h]
theorem cellsI_one (l : List Int) : ∀ u ∈ cellsI l, u.oneCell' = true := fun u hu => by
  obtain ⟨_, _, rfl⟩ := List.mem_map.1 hu
  rfl

/-- A slice that reads as the cells xs, below block B; where it is nil its capacity is 0. -/
def Rd (w : World) (B : Nat) (A : Option Addr) (c : Nat) (xs : List Value) : Prop :=
  xs.length ≤ c ∧ (A = none → c = 0) ∧ (0 < xs.length → ∃ ad, A = some ad ∧ ad.block < B ∧ ∀ i u, xs[i]? = some u → w.cell? (ad.add i) = some u)
section
variable {w w' : World} {B B' c : Nat} {A : Option Addr} {xs : List Value}
theorem Rd.keep (h : Rd w B A c xs) (hk : ∀ p : Addr, p.block < B → w'.cell? p = w.cell? p) : Rd w' B A c xs :=
  ⟨h.1, h.2.1, fun hn => by
    obtain ⟨ad, e, hl, hc⟩ := h.2.2 hn
    exact ⟨ad, e, hl, fun i u hu => (hk _ (by rw [block_of_add]; exact hl)).trans (hc i u hu)⟩⟩
theorem Rd.below (h : Rd w B A c xs) (hb : Below B w w') : Rd w' B A c xs := h.keep fun _ hp => hb.cell hp
theorem Rd.more (h : Rd w B A c xs) (hB : B ≤ B') : Rd w B' A c xs :=
  ⟨h.1, h.2.1, fun hn => by
    obtain ⟨ad, e, hl, hc⟩ := h.2.2 hn
    exact ⟨ad, e, by omega, hc⟩⟩
theorem Rd.none_ : Rd w B none 0 [] := ⟨Nat.le_refl _, fun _ => rfl, fun h => absurd h (by simp)⟩
theorem Rd.get (h : Rd w B A c xs) {k : Nat} {u : Value} (hu : xs[k]? = some u) : ∃ ad, A = some ad ∧ ad.block < B ∧ w.cell? (ad.add k) = some u := by
  obtain ⟨ad, e, hl, hc⟩ := h.2.2 (by have := (List.getElem?_eq_some_iff.1 hu).1; omega)
  exact ⟨ad, e, hl, hc k u hu⟩
/-- b[:k]. -/
theorem Rd.take (h : Rd w B A c xs) (k : Nat) : Rd w B A c (xs.take k) :=
  ⟨by rw [List.length_take]; have := h.1; omega, h.2.1, fun hn => by
    obtain ⟨ad, e, hl, hc⟩ := h.2.2 (by rw [List.length_take] at hn; omega)
    refine ⟨ad, e, hl, fun i u hu => hc i u ?_⟩
    rw [List.getElem?_take] at hu
    split at hu
    · exact hu
    · cases hu⟩
/-- b[k:]. -/
theorem Rd.drop (h : Rd w B A c xs) {k : Nat} (hk : k ≤ xs.length) : Rd w B (if c = k then A else A.map (·.add k)) (c - k) (xs.drop k) := by
  have hc := h.1
  refine ⟨by rw [List.length_drop]; omega, fun hn => ?_, fun hn => ?_⟩
  · split at hn
    · rename_i he; omega
    · cases A with
      | none => have := h.2.1 rfl; omega
      | some a => cases hn
  · rw [List.length_drop] at hn
    obtain ⟨ad, rfl, hl, hcell⟩ := h.2.2 (by omega)
    rw [if_neg (by omega)]
    refine ⟨ad.add k, rfl, by rw [block_of_add]; exact hl, fun i u hu => ?_⟩
    rw [add_of_add]
    exact hcell _ u (by rw [← hu, List.getElem?_drop])
theorem Rd.of_own {base e n : Nat} (h : w.ownsRow base e 1 (.slice A n c) n xs) : Rd w w.heap.size A c xs := by
  have hl := h.1
  obtain ⟨A', c', hv, h1, h2⟩ := own_shape h
  injection hv with e1 e2 e3
  subst e1 e3
  refine ⟨by omega, h2, fun hn => ?_⟩
  obtain ⟨g, rfl, hg, hlt⟩ := own_addr h (by omega)
  exact ⟨_, rfl, hlt, h.cells (g := g) rfl⟩
end

/-- What an append takes: nil, or cells at an address, s to an element. -/
def Feed (s : Nat) (w : World) (x : Value) (m : Nat) (news : List Value) : Prop :=
  news.length = m * s ∧ ((x = .slice none 0 0 ∧ m = 0) ∨ ∃ ad c, x = .slice (some ad) m c ∧ ∀ j u, news[j]? = some u → w.cell? (ad.add j) = some u)
theorem Rd.feed {w : World} {B c : Nat} {A : Option Addr} {xs : List Value} (h : Rd w B A c xs) : Feed 1 w (.slice A xs.length c) xs.length xs := by
  refine ⟨(Nat.mul_one _).symm, ?_⟩
  cases A with
  | none =>
    have h0 := h.2.1 rfl
    have h1 := h.1
    have h2 : xs.length = 0 := by omega
    exact .inl ⟨by rw [h0, h2], h2⟩
  | some ad =>
    refine .inr ⟨ad, c, rfl, fun j u hu => ?_⟩
    obtain ⟨ad', h1, _, h2⟩ := h.get hu
    injection h1 with h1
    subst h1
    exact h2
theorem Rd.feedI {w : World} {B c : Nat} {A : Option Addr} {l : List Int} (h : Rd w B A c (cellsI l)) : Feed 1 w (.slice A l.length c) l.length (cellsI l) := by
  have := h.feed
  rwa [cellsI_len] at this
theorem feed_new {w : World} {cs : Array Value} {T : TypeId} {n s : Nat} (hn : cs.size = n * s) : Feed s (w.alloc (.cells cs T)) (.slice (some ⟨w.heap.size, 0, none⟩) n n) n cs.toList :=
  ⟨by simpa using hn, .inr ⟨_, _, rfl, World.news_of_block (heap_alloc_new w _)⟩⟩
theorem wpList_append_feed {P : Program} (w : World) {ops : Array Oper} {rest : List Oper} {o : Oper} {a : Act} {Q : Exit → Act → World → Prop} (hgd : o.guard = none) (s x : Operand) (t : TypeId)
    (ho : o.op = .call { callee := .builtin .append, args := #[s, x], argTypes := #[t, t] })
    (base : Nat) (e : TypeId) (i : TypeInfo) (z : Value) (size bytes : Nat) (ht : P.underlying t = some (.slice e)) (hi : P.info? e = some i) (hz : i.zero = some z)
    (hsize : i.size = size) (hby : i.bytes = bytes) (hzs : z.cells.size = size) (hsz : 0 < size)
    (v : Value) (n : Nat) (xs : List Value) (hs : a.eval s = v) (hown : w.ownsRow base e size v n xs)
    (v2 : Value) (m : Nat) (news : List Value) (hx : a.eval x = v2) (hsrc : Feed size w v2 m news) (h1 : ∀ u ∈ news, u.oneCell' = true)
    (h63 : n + m ≤ maxLen) (hbytes : (n + m) * bytes ≤ 140737488355328) (hbase : base ≤ w.heap.size)
    (h : ∀ A' c' w', w'.ownsRow base e size (.slice A' (n + m) c') (n + m) (xs ++ news) → w.grownBy w' v.ownBlock → wpList P ops Q rest (a.put o.dst (.slice A' (n + m) c')) w') : wpList P ops Q (o :: rest) a w := by
  have fin : ∀ v' w', w'.ownsRow base e size v' (n + m) (xs ++ news) → w.grownBy w' v.ownBlock → wpList P ops Q rest (a.put o.dst v') w' := fun v' w' h1 h2 => by
    obtain ⟨A', c', rfl, _⟩ := own_shape h1
    exact h A' c' w' h1 h2
  obtain ⟨hl, hc⟩ := hsrc
  rcases hc with ⟨rfl, rfl⟩ | ⟨ad, c, rfl, hc⟩
  · obtain rfl : news = [] := List.eq_nil_of_length_eq_zero (by simpa using hl)
    exact wpList_append_own_none hgd s x t ho base e i size ht hi v n xs hs hown hx (fin v w (by simpa using hown) (World.grownBy.refl w _))
  · exact wpList_append_own w hgd s x t ho base e i z size bytes ht hi hz hsize hby hzs hsz v n xs hs hown ad m c news hx hl hc h1 h63 hbytes hbase (fun v' w' a b _ => fin v' w' a b)
theorem below_grown {B base e n size : Nat} {W w w' : World} {v : Value} {xs : List Value} (h : Below B W w) (ho : w.ownsRow base e size v n xs) (hg : w.grownBy w' v.ownBlock) (hb : B ≤ base) (hB : B ≤ w.heap.size) : Below B W w' :=
  h.grown hg hB (fun k hk => Nat.le_trans hb (ho.lt k hk).1)

theorem info_i64 : (Try.prog.info? 3).map (fun i => (i.zero, i.size, i.bytes)) = some (some (.int .i64 0), 1, 8) := by kernel_rfl

/-- Ints of the call's own, in a row from block base on; below base nothing turns. -/
def MadeI (W : World) (base : Nat) (l : List Int) (e : Ending) (w' : World) : Prop :=
  ∃ A c, e = .returned (.slice A l.length c) ∧ w'.ownsRow base 3 1 (.slice A l.length c) l.length (cellsI l) ∧ Below base W w'
/-! ### Items -/
theorem i_at {l : List It} {i : Nat} (h : i < l.length) : iA l i = l[i].a ∧ iB l i = l[i].b ∧ iV l i = l[i].v := by
  unfold iA iB iV
  rw [List.getElem?_eq_getElem h]
  exact ⟨rfl, rfl, rfl⟩
def cellsT : List It → List Value
  | [] => []
  | e :: l => .int .i64 e.a :: .int .i64 e.b :: .int .i64 e.v :: cellsT l
theorem cellsT_len : ∀ l : List It, (cellsT l).length = l.length * 3
  | [] => rfl
  | e :: l => by rw [cellsT, List.length_cons, List.length_cons, List.length_cons, cellsT_len l, List.length_cons]; omega
theorem cellsT_append : ∀ l m : List It, cellsT (l ++ m) = cellsT l ++ cellsT m
  | [], m => rfl
  | e :: l, m => by rw [List.cons_append, cellsT, cellsT, cellsT_append l m]; rfl
theorem cellsT_one : ∀ l : List It, ∀ u ∈ cellsT l, u.oneCell' = true
  | [], _, h => by cases h
  | e :: l, u, h => by
    rw [cellsT] at h
    simp only [List.mem_cons] at h
    rcases h with rfl | rfl | rfl | h
    · rfl
    · rfl
    · rfl
    · exact cellsT_one l u h
theorem cellsT_at : ∀ (l : List It) (i : Nat) (h : i < l.length), (cellsT l)[i * 3]? = some (.int .i64 l[i].a) ∧ (cellsT l)[i * 3 + 1]? = some (.int .i64 l[i].b) ∧ (cellsT l)[i * 3 + 2]? = some (.int .i64 l[i].v)
  | e :: l, 0, _ => ⟨rfl, rfl, rfl⟩
  | e :: l, i + 1, h => by
    have k := cellsT_at l i (by simpa using h)
    rw [cellsT, show (i + 1) * 3 = i * 3 + 1 + 1 + 1 by omega]
    simpa using k
theorem add_next (a : Addr) (i k j : Nat) : a.add (i * k + (j + 1)) = { block := (a.add (i * k)).block, off := (a.add (i * k)).off + (j + 1) } := by
  unfold Addr.add
  by_cases h : i * k = 0
  · rw [if_pos h, if_neg (by omega), h]
    simp
  · rw [if_neg h, if_neg (by omega)]
    simp [Nat.add_assoc]
/-- The cells of one element of three fields. -/
def At3 (w : World) (p : Addr) (a b c : Value) : Prop := w.cell? p = some a ∧ w.cell? { block := p.block, off := p.off + 1 } = some b ∧ w.cell? { block := p.block, off := p.off + 2 } = some c
theorem At3.keep {w w' : World} {p : Addr} {a b c : Value} {B : Nat} (h : At3 w p a b c) (hl : p.block < B) (hk : ∀ q : Addr, q.block < B → w'.cell? q = w.cell? q) : At3 w' p a b c :=
  ⟨(hk p hl).trans h.1, (hk ⟨p.block, p.off + 1, none⟩ hl).trans h.2.1, (hk ⟨p.block, p.off + 2, none⟩ hl).trans h.2.2⟩
/-- A slice that reads as the items l, below block B; where it is nil, there are none. -/
def Its (w : World) (B : Nat) (A : Option Addr) (l : List It) : Prop :=
  0 < l.length → ∃ ad, A = some ad ∧ ad.block < B ∧ ∀ i, i < l.length → At3 w (ad.add (i * 3)) (.int .i64 (iA l i)) (.int .i64 (iB l i)) (.int .i64 (iV l i))
theorem Its.keep {w w' : World} {B : Nat} {A : Option Addr} {l : List It} (h : Its w B A l) (hk : ∀ p : Addr, p.block < B → w'.cell? p = w.cell? p) : Its w' B A l := fun hn => by
  obtain ⟨ad, e, hl, hc⟩ := h hn
  exact ⟨ad, e, hl, fun i hi => (hc i hi).keep (by rw [block_of_add]; exact hl) hk⟩
theorem Its.below {w w' : World} {B : Nat} {A : Option Addr} {l : List It} (h : Its w B A l) (hb : Below B w w') : Its w' B A l := h.keep fun _ hp => hb.cell hp
theorem Its.more {w : World} {B B' : Nat} {A : Option Addr} {l : List It} (h : Its w B A l) (hB : B ≤ B') : Its w B' A l := fun hn => by
  obtain ⟨ad, e, hl, hc⟩ := h hn
  exact ⟨ad, e, Nat.lt_of_lt_of_le hl hB, hc⟩
theorem Its.none_ {w : World} {B : Nat} {A : Option Addr} : Its w B A [] := fun h => absurd h (by simp)
theorem Its.up {w w' : World} {A : Option Addr} {l : List It} (h : Its w w.heap.size A l) (b : Below w.heap.size w w') : Its w' w'.heap.size A l := (h.below b).more b.size
theorem Rd.up {w w' : World} {A : Option Addr} {c : Nat} {xs : List Value} (h : Rd w w.heap.size A c xs) (b : Below w.heap.size w w') : Rd w' w'.heap.size A c xs := (h.below b).more b.size
theorem Its.get {w : World} {B : Nat} {A : Option Addr} {l : List It} (h : Its w B A l) {k : Nat} (hk : k < l.length) :
    ∃ ad, A = some ad ∧ ad.block < B ∧ At3 w (ad.add (k * 3)) (.int .i64 (iA l k)) (.int .i64 (iB l k)) (.int .i64 (iV l k)) := by
  obtain ⟨ad, e, hl, hc⟩ := h (by omega)
  exact ⟨ad, e, hl, hc k hk⟩
/-- What the call owns reads as the list. -/
theorem own_its {w : World} {base e n cap : Nat} {A : Option Addr} {l : List It} (h : w.ownsRow base e 3 (.slice A n cap) n (cellsT l)) : n = l.length ∧ Its w w.heap.size A l := by
  have hn : n = l.length := by have := h.1; rw [cellsT_len] at this; omega
  refine ⟨hn, fun hpos => ?_⟩
  rcases h.2 with ⟨hv, h0⟩ | ⟨g, cap', cur, hv, _, hg, _⟩
  · omega
  · injection hv with hA
    subst hA
    refine ⟨_, rfl, (Array.getElem?_eq_some_iff.1 hg).1, fun i hi => ?_⟩
    have hc := h.cells (g := g) rfl
    obtain ⟨c0, c1, c2⟩ := cellsT_at l i hi
    obtain ⟨e0, e1, e2⟩ := i_at hi
    have k0 := hc _ _ c0
    have k1 := hc _ _ c1
    have k2 := hc _ _ c2
    rw [add_next] at k1 k2
    rw [e0, e1, e2]
    exact ⟨k0, k1, k2⟩
theorem info_it : (Try.prog.info? 42).map (fun i => (i.zero, i.size, i.bytes)) = some (some (.agg #[.int .i64 0, .int .i64 0, .int .i64 0]), 3, 24) := by kernel_rfl
/-- Element i. -/
def ix (l : List Int) (i : Nat) : Int := l[i]?.getD 0
theorem ix_at {l : List Int} {i : Nat} (h : i < l.length) : ix l i = l[i] := by unfold ix; rw [List.getElem?_eq_getElem h]; rfl
theorem cellsI_ix {l : List Int} {i : Nat} (h : i < l.length) : (cellsI l)[i]? = some (.int .i64 (ix l i)) := by rw [cellsI_at h, ix_at h]
end Go.Proofs.Ytjbfkbdjopbjjaa
