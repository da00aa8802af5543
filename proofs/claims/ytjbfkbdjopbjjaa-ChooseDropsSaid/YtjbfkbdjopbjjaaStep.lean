/- Appending in a region that draws: to a row of the call's own, from any source. Rows of items. -/
import Derived.Test.YtjbfkbdjopbjjaaHelp
import Derived.WalkSpells
namespace Go.Proofs.Ytjbfkbdjopbjjaa
open Go.RowKit

/-- As wpList_append_feed, at the operation alone. -/
theorem step_append_feed {P : Program} (w : World) {ops : Array Oper} {o : Oper} {a : Act} {K : Act → World → Prop} {Q : Exit → Act → World → Prop} {E : Prop} (hgd : o.guard = none) (s x : Operand) (t : TypeId)
    (ho : o.op = .call { callee := .builtin .append, args := #[s, x], argTypes := #[t, t] })
    (base : Nat) (e : TypeId) (i : TypeInfo) (z : Value) (size bytes : Nat) (ht : P.underlying t = some (.slice e)) (hi : P.info? e = some i) (hz : i.zero = some z)
    (hsize : i.size = size) (hby : i.bytes = bytes) (hzs : z.cells.size = size) (hsz : 0 < size)
    (v : Value) (n : Nat) (xs : List Value) (hs : a.eval s = v) (hown : w.ownsRow base e size v n xs)
    (v2 : Value) (m : Nat) (news : List Value) (hx : a.eval x = v2) (hsrc : Feed size w v2 m news) (h1 : ∀ u ∈ news, u.oneCell' = true)
    (h63 : n + m ≤ maxLen) (hbytes : (n + m) * bytes ≤ 140737488355328) (hbase : base ≤ w.heap.size)
    (h : ∀ A' c' w', w'.ownsRow base e size (.slice A' (n + m) c') (n + m) (xs ++ news) → w.grownBy w' v.ownBlock → K (a.put o.dst (.slice A' (n + m) c')) w') :
    if Region.wanted o (yielded ops a.tmps) = true then Oper.wp P o a w K Q else E := by
  have hw : Region.wanted o (yielded ops a.tmps) = true := by simp [Region.wanted, hgd]
  rw [if_pos hw]
  have fin : ∀ v' w', w'.ownsRow base e size v' (n + m) (xs ++ news) → w.grownBy w' v.ownBlock → K (a.put o.dst v') w' := fun v' w' h1 h2 => by
    obtain ⟨A', c', rfl, _⟩ := own_shape h1
    exact h A' c' w' h1 h2
  obtain ⟨hl, hc⟩ := hsrc
  rcases hc with ⟨rfl, rfl⟩ | ⟨ad, c, rfl, hc⟩
  · obtain rfl : news = [] := List.eq_nil_of_length_eq_zero (by simpa using hl)
    have hrun := run_append_owned_none (P := P) (w := w) base t o.type e i size ht hi v n xs hown
    unfold Oper.wp
    simp [execOp, ho, resolve, invoke, builtin, hs, hx, hrun, Result.andThen]
    exact fin v w (by simpa using hown) (World.grownBy.refl w _)
  · exact wp_append_own w s x t ho base e i z size bytes ht hi hz hsize hby hzs hsz v n xs hs hown ad m c news hx hl hc h1 h63 hbytes hbase (fun v' w' a b _ => fin v' w' a b)
/-! ### Rows of items -/
/-- A row of the call's own that reads as the items l. -/
def OwnT (w : World) (base : Nat) (A : Option Addr) (c : Nat) (l : List It) : Prop := w.ownsRow base 42 3 (.slice A l.length c) l.length (cellsT l)
theorem OwnT.its {w : World} {base c : Nat} {A : Option Addr} {l : List It} (h : OwnT w base A c l) : Its w w.heap.size A l := (own_its h).2
theorem OwnT.cap {w : World} {base c : Nat} {A : Option Addr} {l : List It} (h : OwnT w base A c l) : l.length ≤ c := by
  obtain ⟨A', c', hv, h1, _⟩ := own_shape h
  injection hv with _ _ e
  omega
theorem OwnT.up {w w' : World} {base c : Nat} {A : Option Addr} {l : List It} (h : OwnT w base A c l) (b : Below w.heap.size w w') : OwnT w' base A c l := own_below h b
theorem OwnT.drew {w : World} {base c : Nat} {A : Option Addr} {l : List It} (h : OwnT w base A c l) : OwnT w.drew base A c l := h
theorem ownT_empty (w : World) {base : Nat} (hb : base ≤ w.heap.size) : OwnT (w.alloc (.cells #[] 42)) base (some ⟨w.heap.size, 0, none⟩) 0 [] := World.ownsRow_lit w #[] 0 hb (by unfold maxLen; omega) rfl
theorem own_joinT {w : World} {base c : Nat} {A : Option Addr} {l m : List It} (h : w.ownsRow base 42 3 (.slice A (l.length + m.length) c) (l.length + m.length) (cellsT l ++ cellsT m)) : OwnT w base A c (l ++ m) := by
  unfold OwnT
  rw [List.length_append, cellsT_append]
  exact h
theorem cells_row {l : List It} {w : World} {ad : Addr} (h : ∀ i, i < l.length → At3 w (ad.add (i * 3)) (.int .i64 (iA l i)) (.int .i64 (iB l i)) (.int .i64 (iV l i))) : ∀ j u, (cellsT l)[j]? = some u → w.cell? (ad.add j) = some u := by
  intro j u hu
  have hj := (List.getElem?_eq_some_iff.1 hu).1
  rw [cellsT_len] at hj
  have hi : j / 3 < l.length := by omega
  obtain ⟨c0, c1, c2⟩ := cellsT_at l (j / 3) hi
  obtain ⟨e0, e1, e2⟩ := i_at hi
  obtain ⟨k0, k1, k2⟩ := h (j / 3) hi
  have hr : j % 3 = 0 ∨ j % 3 = 1 ∨ j % 3 = 2 := by omega
  rcases hr with hr | hr | hr
  · have : j = j / 3 * 3 := by omega
    rw [this] at hu ⊢
    rw [c0] at hu
    injection hu with hu
    rw [← hu, ← e0]
    exact k0
  · have : j = j / 3 * 3 + (0 + 1) := by omega
    rw [this] at hu ⊢
    rw [show j / 3 * 3 + (0 + 1) = j / 3 * 3 + 1 by omega, c1] at hu
    injection hu with hu
    rw [add_next, ← hu, ← e1]
    exact k1
  · have : j = j / 3 * 3 + (1 + 1) := by omega
    rw [this] at hu ⊢
    rw [show j / 3 * 3 + (1 + 1) = j / 3 * 3 + 2 by omega, c2] at hu
    injection hu with hu
    rw [add_next, ← hu, ← e2]
    exact k2
/-- What an append takes of items that came in. -/
theorem its_feed {w : World} {A : Option Addr} {l : List It} {c B : Nat} (h : Its w B A l) (hn : A = none → c = 0) (hc : l.length ≤ c) : Feed 3 w (.slice A l.length c) l.length (cellsT l) := by
  refine ⟨cellsT_len l, ?_⟩
  cases A with
  | none =>
    have h0 := hn rfl
    have h1 : l.length = 0 := by omega
    exact .inl ⟨by rw [h0, h1], h1⟩
  | some ad =>
    refine .inr ⟨ad, c, rfl, cells_row fun i hi => ?_⟩
    obtain ⟨ad', e, _, h'⟩ := h.get hi
    injection e with e
    subst e
    exact h'
theorem feed_grown {w w' : World} {g m c : Nat} {news : List Value} {row : Option Nat} (h : Feed 3 w (.slice (some ⟨g, 0, none⟩) m c) m news) (hg : w.grownBy w' row) (hl : g < w.heap.size) (hr : row ≠ some g) : Feed 3 w' (.slice (some ⟨g, 0, none⟩) m c) m news := by
  obtain ⟨h1, h2⟩ := h
  refine ⟨h1, ?_⟩
  rcases h2 with ⟨h2, _⟩ | ⟨ad, c', h2, h3⟩
  · cases h2
  · injection h2 with e1 _ e3
    injection e1 with e1
    subst e1 e3
    exact .inr ⟨_, _, rfl, fun j u hu => (World.cell?_of_block (hg.block _ (by rw [block_of_add]; exact hl) (by rw [block_of_add]; exact fun e => hr e.symm))).trans (h3 j u hu)⟩
theorem step_app_T (w : World) {ops : Array Oper} {o : Oper} {a : Act} {K : Act → World → Prop} {Q : Exit → Act → World → Prop} {E : Prop} (hgd : o.guard = none) (s x : Operand)
    (ho : o.op = .call { callee := .builtin .append, args := #[s, x], argTypes := #[22, 22] }) {base c k : Nat} {A : Option Addr} {l m : List It} {v2 : Value}
    (hs : a.eval s = .slice A l.length c) (hx : a.eval x = v2) (hown : OwnT w base A c l) (hsrc : Feed 3 w v2 m.length (cellsT m)) (hk : k = l.length + m.length) (hl : k * 24 ≤ 140737488355328) (hbase : base ≤ w.heap.size)
    (h : ∀ A' c' w', OwnT w' base A' c' (l ++ m) → w.grownBy w' (Value.slice A l.length c).ownBlock → K (a.put o.dst (.slice A' k c')) w') :
    if Region.wanted o (yielded ops a.tmps) = true then Oper.wp Try.prog o a w K Q else E := by
  obtain ⟨i0, hi, hz0, hz1, hz2⟩ := info_parts info_it
  subst hk
  exact step_append_feed w hgd s x 22 ho base 42 i0 (.agg #[.int .i64 0, .int .i64 0, .int .i64 0]) 3 24 Try.underlying22 hi hz0 hz1 hz2 rfl (by decide) _ l.length (cellsT l) hs hown _ m.length (cellsT m) hx hsrc (cellsT_one m) (by unfold maxLen; omega) (by omega) hbase (fun A' c' w' h1 h2 => h A' c' w' (own_joinT h1) h2)
theorem item_feed (w : World) (e : It) : Feed 3 (w.alloc (.cells #[.int .i64 e.a, .int .i64 e.b, .int .i64 e.v] 42)) (.slice (some ⟨w.heap.size, 0, none⟩) 1 1) 1 (cellsT [e]) := feed_new (cs := #[.int .i64 e.a, .int .i64 e.b, .int .i64 e.v]) rfl
theorem Feed.drew {s m : Nat} {w : World} {x : Value} {news : List Value} (h : Feed s w x m news) : Feed s w.drew x m news := h
theorem Feed.alloc {s m g c : Nat} {w : World} {news : List Value} (h : Feed s w (.slice (some ⟨g, 0, none⟩) m c) m news) (hl : g < w.heap.size) (o : Obj) : Feed s (w.alloc o) (.slice (some ⟨g, 0, none⟩) m c) m news := by
  obtain ⟨h1, h2⟩ := h
  refine ⟨h1, ?_⟩
  rcases h2 with ⟨h2, _⟩ | ⟨ad, c', h2, h3⟩
  · cases h2
  · injection h2 with e1 _ e3
    injection e1 with e1
    subst e1 e3
    exact .inr ⟨_, _, rfl, fun j u hu => ((below_new w o).cell (by rw [block_of_add]; exact hl)).trans (h3 j u hu)⟩
theorem i_take {l : List It} {k i : Nat} (h : i < k) : iA (l.take k) i = iA l i ∧ iB (l.take k) i = iB l i ∧ iV (l.take k) i = iV l i := by
  unfold iA iB iV
  rw [List.getElem?_take, if_pos h]
  exact ⟨rfl, rfl, rfl⟩
theorem i_drop {l : List It} {k i : Nat} : iA (l.drop k) i = iA l (k + i) ∧ iB (l.drop k) i = iB l (k + i) ∧ iV (l.drop k) i = iV l (k + i) := by
  unfold iA iB iV
  rw [List.getElem?_drop]
  exact ⟨rfl, rfl, rfl⟩
/-- l[:k], as an append takes it. -/
theorem feed_take {w : World} {B c k n : Nat} {ad : Addr} {l m : List It} (h : Its w B (some ad) l) (hk : k ≤ l.length) (hm : l.take k = m) (hn : m.length = n) (hkn : n = k) : Feed 3 w (.slice (some ad) k c) n (cellsT m) := by
  subst hm
  subst hkn
  refine ⟨by rw [cellsT_len, hn], .inr ⟨ad, c, rfl, cells_row fun i hi => ?_⟩⟩
  rw [hn] at hi
  obtain ⟨ad', e, _, h'⟩ := h.get (k := i) (by omega)
  injection e with e
  subst e
  obtain ⟨e1, e2, e3⟩ := i_take (l := l) hi
  rw [e1, e2, e3]
  exact h'
/-- l[k:], as an append takes it. -/
theorem feed_drop {w : World} {B c k n q : Nat} {ad ad' : Addr} {l m : List It} (h : Its w B (some ad) l) (hk : k ≤ l.length) (hm : l.drop k = m) (hn : m.length = n) (hq : q = n) (ha : n = 0 ∨ ad' = ad.add (k * 3)) : Feed 3 w (.slice (some ad') q c) n (cellsT m) := by
  subst hm
  subst hq
  refine ⟨by rw [cellsT_len, hn], .inr ⟨ad', c, rfl, cells_row fun i hi => ?_⟩⟩
  have hi' := hi
  rw [List.length_drop] at hi'
  obtain rfl := ha.resolve_left (by omega)
  obtain ⟨ad2, e, _, h'⟩ := h.get (k := k + i) (by omega)
  injection e with e
  subst e
  obtain ⟨e1, e2, e3⟩ := i_drop (l := l) (k := k) (i := i)
  rw [e1, e2, e3, add_of_add, show k * 3 + i * 3 = (k + i) * 3 by rw [Nat.add_mul]]
  exact h'
/-! ### Without one item -/
theorem down_next {x : List Int} {k i : Nat} (h : i < x.length) : (x.take (i + 1)).map (downI k) = (x.take i).map (downI k) ++ [downI k (ix x i)] := by
  rw [List.take_succ_eq_append_getElem h, List.map_append, ix_at h]
  rfl
theorem out_next {x : List Int} {k : Int} {i : Nat} (h : i < x.length) (h1 : k ∉ x.take i) (h2 : ix x i ≠ k) : k ∉ x.take (i + 1) := by
  rw [List.take_succ_eq_append_getElem h, List.mem_append, List.mem_singleton, ← ix_at h]
  rintro (h3 | h3)
  · exact h1 h3
  · exact h2 h3.symm
theorem down_hi {k : Nat} {y : Int} (h : (k : Int) < y) : downI k y = y - 1 := by unfold downI; rw [if_pos h]
theorem down_lo {k : Nat} {y : Int} (h : ¬ (k : Int) < y) : downI k y = y := by unfold downI; rw [if_neg h]
theorem same_self {A B : Option Addr} {a : List Int} {c d : Nat} {w : World} (ha : Rd w w.heap.size A c (cellsI a)) (hb : Rd w w.heap.size B d (cellsI a)) (hm : a.length ≤ 12) :
    Calls Try.prog 20 #[.slice A a.length c, .slice B a.length d] w fun e w' => e = .returned (.bool true) ∧ Below w.heap.size w w' := by
  have h := same_any A B a a c d w ha hb (by omega) (by omega)
  rwa [eqL_true rfl] at h
end Go.Proofs.Ytjbfkbdjopbjjaa
