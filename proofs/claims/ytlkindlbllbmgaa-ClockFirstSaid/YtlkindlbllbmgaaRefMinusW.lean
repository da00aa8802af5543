/- For the reference's Minus: the last interval of a list that the call owns; what stays. -/
import Derived.Test.YtlkindlbllbmgaaEnds
import Derived.Laws.AppendOwnNone
namespace Go.Proofs.Ytlkindlbllbmgaa
open Go.RowKit

section
variable {w : World} {base e n : Nat} {v : Value} {o : List Iv} {q : Iv} {a2 : Addr} {cap : Nat}
theorem own_last (h : w.ownsRow base e 2 v n (cellsL (o ++ [q]))) : ∃ a2 cap, v = .slice (some a2) (o.length + 1) cap ∧ n = o.length + 1 ∧ base ≤ a2.block ∧ a2 = ⟨a2.block, 0, none⟩ := by
  have hn : n = o.length + 1 := by
    have := h.1
    rw [cellsL_len] at this
    simp at this
    omega
  subst hn
  obtain ⟨A, cap, rfl, _⟩ := own_shape h
  obtain ⟨g, rfl, hg, _⟩ := own_addr h (by omega)
  exact ⟨⟨g, 0, none⟩, cap, rfl, rfl, hg, rfl⟩
theorem last_cell (ha : a2 = ⟨a2.block, 0, none⟩) (h : w.ownsRow base e 2 (.slice (some a2) (o.length + 1) cap) (o.length + 1) (cellsL (o ++ [q]))) :
    w.cell? { block := (a2.add (o.length * 2)).block, off := (a2.add (o.length * 2)).off + 1 } = some (.int .i64 q.2) ∧ w.frozen? { block := (a2.add (o.length * 2)).block, off := (a2.add (o.length * 2)).off + 1 } = false := by
  rw [ha] at h ⊢
  rw [add_pos]
  refine ⟨?_, h.frozenAt _⟩
  rw [h.cellAt _ (by show o.length * 2 + 1 < _; omega)]
  have := (cellsL_at (o ++ [q]) o.length (by simp)).2
  simpa using this
theorem last_set (ha : a2 = ⟨a2.block, 0, none⟩) (h : w.ownsRow base e 2 (.slice (some a2) (o.length + 1) cap) (o.length + 1) (cellsL (o ++ [q]))) (y : Int) :
    (w.setCell { block := (a2.add (o.length * 2)).block, off := (a2.add (o.length * 2)).off + 1 } (.int .i64 y)).ownsRow base e 2 (.slice (some a2) (o.length + 1) cap) (o.length + 1) (cellsL (o ++ [(q.1, y)])) := by
  rw [ha] at h ⊢
  exact own_set h y
end

/-- What an append takes: nil, or cells at an address. -/
def Src (w : World) (size : Nat) (x : Value) (m : Nat) (news : List Value) : Prop :=
  news.length = m * size ∧ ((x = .slice none 0 0 ∧ m = 0) ∨ ∃ ad c, x = .slice (some ad) m c ∧ ∀ j u, news[j]? = some u → w.cell? (ad.add j) = some u)
theorem src_own {w : World} {base e size n : Nat} {v : Value} {xs : List Value} (h : w.ownsRow base e size v n xs) : Src w size v n xs := by
  refine ⟨h.1, ?_⟩
  rcases h.2 with h2 | ⟨g, cap, cur, rfl, _⟩
  · exact .inl h2
  · exact .inr ⟨_, cap, rfl, h.cells (g := g) rfl⟩
theorem wpList_append_src {P : Program} (w : World) {ops : Array Oper} {rest : List Oper} {o : Oper} {a : Act} {Q : Exit → Act → World → Prop} (hgd : o.guard = none) (s x : Operand) (t : TypeId)
    (ho : o.op = .call { callee := .builtin .append, args := #[s, x], argTypes := #[t, t] })
    (base : Nat) (e : TypeId) (i : TypeInfo) (z : Value) (size bytes : Nat) (ht : P.underlying t = some (.slice e)) (hi : P.info? e = some i) (hz : i.zero = some z)
    (hsize : i.size = size) (hby : i.bytes = bytes) (hzs : z.cells.size = size) (hsz : 0 < size)
    (v : Value) (n : Nat) (xs : List Value) (hs : a.eval s = v) (hown : w.ownsRow base e size v n xs)
    (v2 : Value) (m : Nat) (news : List Value) (hx : a.eval x = v2) (hsrc : Src w size v2 m news) (h1 : ∀ u ∈ news, u.oneCell' = true)
    (h63 : n + m ≤ maxLen) (hbytes : (n + m) * bytes ≤ 140737488355328) (hbase : base ≤ w.heap.size)
    (h : ∀ v' w', w'.ownsRow base e size v' (n + m) (xs ++ news) → w.grownBy w' v.ownBlock → wpList P ops Q rest (a.put o.dst v') w') : wpList P ops Q (o :: rest) a w := by
  obtain ⟨hl, hc⟩ := hsrc
  rcases hc with ⟨rfl, rfl⟩ | ⟨ad, c, rfl, hc⟩
  · obtain rfl : news = [] := List.eq_nil_of_length_eq_zero (by simpa using hl)
    exact wpList_append_own_none hgd s x t ho base e i size ht hi v n xs hs hown hx (h v w (by simpa using hown) (World.grownBy.refl w _))
  · exact wpList_append_own w hgd s x t ho base e i z size bytes ht hi hz hsize hby hzs hsz v n xs hs hown ad m c news hx hl hc h1 h63 hbytes hbase (fun v' w' a b _ => h v' w' a b)
theorem ints_one (E : List Int) : ∀ u ∈ E.map (Value.int .i64), u.oneCell' = true := fun u hu => by
  rw [List.mem_map] at hu
  obtain ⟨x, _, rfl⟩ := hu
  rfl

theorem ints_of {w : World} {base e : Nat} {v : Value} {a b : List Iv} {E : List Int} (h : w.ownsRow base e 1 v ((endsL a).length + (endsL b).length) ((endsL a).map (Value.int .i64) ++ (endsL b).map (Value.int .i64))) (hE : endsL a ++ endsL b = E) :
    ∃ A c, v = .slice A E.length c ∧ Ints w w.heap.size A E := by
  subst hE
  rw [← List.map_append, ← List.length_append] at h
  obtain ⟨A, c, rfl, _⟩ := own_shape h
  exact ⟨A, c, rfl, (own_ints h).2⟩

/-- The measure: how far the ends reach, while there are more. -/
def mB : Value → Value → Nat
  | .bool true, t => 20000001 - (intOf t).toNat
  | _, _ => 0
theorem mB_lt {a b : List Iv} {E : List Int} (hE : Ends a b E) {t : Int} (ht : t ∈ E) : mB (.bool (aftB E t)) (.int .i64 (aftU E t)) < mB (.bool true) (.int .i64 t) := by
  have b1 := hE.bd t ht
  cases h : aftB E t
  · show 0 < 20000001 - t.toNat
    omega
  · have k := aftB_of h
    have b2 := hE.bd _ k.1
    have := k.2.1
    show 20000001 - (aftU E t).toNat < 20000001 - t.toNat
    omega
/-- The reference's loop: what has been laid out ahead of t, or all of it. -/
def RL (a b : List Iv) (E : List Int) (out : List Iv) (t : Int) (m : Bool) : Prop := (m = true → RInv a b E out t) ∧ (m = false → isSet out (hasP a b))
section
variable {a b : List Iv} {E : List Int} {out o : List Iv} {t : Int} {q : Iv}
theorem RL.start (hE : Ends a b E) : RL a b E [] (aftU E (-1)) (aftB E (-1)) := ⟨fun h => RInv.start hE (aftB_of h), fun h => none_set hE (aftB_not h)⟩
theorem RL.passed (hE : Ends a b E) (h : RInv a b E out t) (ht : ¬ hasP a b t) : RL a b E out (aftU E t) (aftB E t) := ⟨fun k => h.passed hE (aftB_of k) ht, fun k => h.done hE (aftB_not k) ht⟩
theorem RL.opened (hE : Ends a b E) (h : RInv a b E out t) (ht : hasP a b t) (hb : ¬ hasP a b (t - 1)) : RL a b E (out ++ [(t, aftU E t)]) (aftU E t) (aftB E t) :=
  ⟨fun k => h.opened hE (aftB_of k) ht hb, fun k => absurd (aftB_not k) (has_up hE ht)⟩
theorem RL.longer (hE : Ends a b E) (h : RInv a b E (o ++ [q]) t) (hq : q.2 = t) (ht : hasP a b t) : RL a b E (o ++ [(q.1, aftU E t)]) (aftU E t) (aftB E t) :=
  ⟨fun k => h.longer hq hE (aftB_of k) ht, fun k => absurd (aftB_not k) (has_up hE ht)⟩
end
end Go.Proofs.Ytlkindlbllbmgaa
