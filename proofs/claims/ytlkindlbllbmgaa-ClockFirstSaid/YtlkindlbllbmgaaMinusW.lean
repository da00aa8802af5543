/- For Minus: an append that says where its row lies; a block of two cells that is known whole; a list cut at its head. -/
import Derived.Test.YtlkindlbllbmgaaLength
import Derived.ArgAppend
namespace Go.Proofs.Ytlkindlbllbmgaa
open Go.RowKit

theorem ownsRow_mono {w : World} {b c e size n : Nat} {v : Value} {xs : List Value} (h : w.ownsRow c e size v n xs) (hb : b ≤ c) : w.ownsRow b e size v n xs := by
  refine ⟨h.1, ?_⟩
  rcases h.2 with h2 | ⟨g, cap, cur, hv, hg, r⟩
  · exact .inl h2
  · exact .inr ⟨g, cap, cur, hv, Nat.le_trans hb hg, r⟩
/-- The appended row is the old one, or new. -/
def NewRow (w : World) (v v' : Value) : Prop := ∀ k, v'.ownBlock = some k → v.ownBlock = some k ∨ w.heap.size ≤ k
theorem wpList_append_apart {P : Program} (w : World) {ops : Array Oper} {rest : List Oper} {o : Oper} {a : Act} {Q : Exit → Act → World → Prop} (hgd : o.guard = none) (s x : Operand) (t : TypeId)
    (ho : o.op = .call { callee := .builtin .append, args := #[s, x], argTypes := #[t, t] })
    (base : Nat) (e : TypeId) (i : TypeInfo) (z : Value) (size bytes : Nat) (ht : P.underlying t = some (.slice e)) (hi : P.info? e = some i) (hz : i.zero = some z)
    (hsize : i.size = size) (hby : i.bytes = bytes) (hzs : z.cells.size = size) (hsz : 0 < size)
    (v : Value) (n : Nat) (xs : List Value) (hs : a.eval s = v) (hown : w.ownsRow base e size v n xs)
    (ad : Addr) (m c : Nat) (news : List Value) (hx : a.eval x = .slice (some ad) m c) (hl : news.length = m * size) (hnews : ∀ j u, news[j]? = some u → w.cell? (ad.add j) = some u) (h1 : ∀ u ∈ news, u.oneCell' = true)
    (h63 : n + m ≤ maxLen) (hbytes : (n + m) * bytes ≤ 140737488355328) (hbase : base ≤ w.heap.size)
    (h : ∀ v' w', w'.ownsRow base e size v' (n + m) (xs ++ news) → w.grownBy w' v.ownBlock → NewRow w v v' → wpList P ops Q rest (a.put o.dst v') w') : wpList P ops Q (o :: rest) a w := by
  have run : ∀ ty, ∃ v' w', (Builtin.append_ #[t, t] ty #[v, .slice (some ad) m c]).run P w = .ok v' w' ∧ w'.ownsRow base e size v' (n + m) (xs ++ news) ∧ w.grownBy w' v.ownBlock ∧ NewRow w v v' := by
    intro ty
    rcases hown.2 with ⟨rfl, rfl⟩ | ⟨g, cap, cur, rfl, hbg, hg, hnc, hcm, hcs, htake⟩
    · have hx0 : xs = [] := List.eq_nil_of_length_eq_zero (by simpa using hown.1)
      subst hx0
      obtain ⟨v', w', r1, r2, r3, _⟩ := run_append_own (P := P) w w.heap.size t ty e i z size bytes ht hi hz hsize hby hzs hsz _ 0 [] (World.ownsRow_nil w _ e size) ad m c news hl hnews h1 h63 hbytes (Nat.le_refl _)
      exact ⟨v', w', r1, ownsRow_mono r2 hbase, r3, fun k hk => .inr (r2.lt k hk).1⟩
    · by_cases hroom : n + m ≤ cap
      · obtain ⟨w', r1, r2, r3⟩ := run_append_fits (P := P) w base t ty e i size ht hi hsize g n cap xs hown ad m c news hl hnews h1 hroom
        exact ⟨_, w', r1, r2, r3, fun k hk => .inl hk⟩
      · obtain ⟨v', w', r1, r2, r3⟩ := run_append_arg_grows (P := P) w t ty e i z size bytes ht hi hz hsize hby hzs hsz ⟨g, 0, none⟩ n cap xs hown.1 (hown.cells (g := g) rfl) ad m c news hl hnews (by omega) h63 hbytes
        exact ⟨v', w', r1, ownsRow_mono r2 hbase, ⟨r3.os, r3.tape, r3.output, r3.size, fun k hk _ => r3.block k hk (by simp)⟩, fun k hk => .inr (r2.lt k hk).1⟩
  refine wpList_plain hgd fun K hK => ?_
  obtain ⟨v', w', hr, h2, h3, h4⟩ := run o.type
  unfold Oper.wp execOp
  simp only [ho, resolve, invoke, builtin, Sem.run_bind, Sem.run_pure, Result.andThen_ok, List.map_toArray, List.map_cons, List.map_nil, hs, hx, hr]
  exact hK _ _ (h v' w' h2 h3 h4)

/-- A block that is just two cells. -/
def Two (w : World) (g : Nat) (x y : Value) : Prop := w.heap[g]? = some (.cells #[x, y] 38 (0, 0))
section
variable {w w' : World} {g : Nat} {x y : Value}
theorem Two.lt (h : Two w g x y) : g < w.heap.size := (Array.getElem?_eq_some_iff.1 h).1
theorem Two.cell0 (h : Two w g x y) : w.cell? ⟨g, 0, none⟩ = some x := by rw [cell_of_row w g 0 _ _ _ h]; rfl
theorem Two.cell1 (h : Two w g x y) : w.cell? ⟨g, 1, none⟩ = some y := by rw [cell_of_row w g 1 _ _ _ h]; rfl
theorem Two.free0 (h : Two w g x y) : w.frozen? ⟨g, 0, none⟩ = false := frozen_of_row w g 0 _ _ h
theorem Two.new (w : World) (x y : Value) : Two (w.alloc (.cells #[x, y] 38)) w.heap.size x y := heap_alloc_new w _
theorem Two.drewN (h : Two w g x y) (n : Nat) : Two (w.drewN n) g x y := h
theorem Two.alloc (h : Two w g x y) (o : Obj) : Two (w.alloc o) g x y := (Below.heap_alloc w o g h.lt).trans h
theorem Two.set0 (h : Two w g x y) (u : Value) : Two (w.setCell ⟨g, 0, none⟩ u) g u y := heap_setCell_same w g 0 _ _ u h
theorem Two.grown (h : Two w g x y) {row : Option Nat} (hb : w.grownBy w' row) (hg : row ≠ some g) : Two w' g x y := (hb.block g h.lt (Ne.symm hg)).trans h
end
theorem own_setCell {w : World} {base e size n g j : Nat} {v u : Value} {xs : List Value} (h : w.ownsRow base e size v n xs) (hg : v.ownBlock ≠ some g) : (w.setCell ⟨g, j, none⟩ u).ownsRow base e size v n xs := by
  refine ⟨h.1, ?_⟩
  rcases h.2 with h2 | ⟨k, cap, cur, rfl, hk, hh, r⟩
  · exact .inl h2
  · refine .inr ⟨k, cap, cur, rfl, hk, ?_, r⟩
    rw [Below.heap_setCell _ _ _ _ (fun e => hg (by rw [e]; rfl))]
    exact hh

theorem add_of_add (a : Addr) (i j : Nat) : (a.add i).add j = a.add (i + j) := by
  unfold Addr.add
  by_cases hi : i = 0 <;> by_cases hj : j = 0 <;> simp [hi, hj, Nat.add_assoc]
/-- A list's cells behind its head. -/
theorem Ivs.tail {w : World} {B : Nat} {a : Addr} {b : Iv} {T : List Iv} (h : Ivs w B (some a) (b :: T)) : Ivs w B (some (a.add 2)) T := fun hT => by
  obtain ⟨ad, e, hl, hc⟩ := h (by simp)
  injection e with e
  subst e
  refine ⟨_, rfl, by rw [block_of_add]; exact hl, fun i hi => ?_⟩
  have k := hc (i + 1) (by simp; omega)
  rw [add_of_add, show 2 + i * 2 = (i + 1) * 2 by omega]
  exact k
theorem Ivs.head {w : World} {A : Option Addr} {b : Iv} {T : List Iv} (h : Ivs w w.heap.size A (b :: T)) :
    ∃ a, A = some a ∧ ∀ wr, Below w.heap.size w wr → wr.cell? a = some (.int .i64 b.1) ∧ wr.cell? { block := a.block, off := a.off + 1 } = some (.int .i64 b.2) := by
  obtain ⟨a, e, hc⟩ := h.get (k := 0) (by simp)
  refine ⟨a, e, fun wr hb => ?_⟩
  have := hc wr hb
  rw [Nat.zero_mul, add_0] at this
  exact this
def lenOf : Value → Nat | .slice _ n _ => n | _ => 0
/-- The slice of b's intervals from j on. -/
def Tk (w2 : World) (B : List Iv) (j : Nat) (tk : Value) : Prop := ∃ At n ct, tk = .slice At n ct ∧ Hid (n + j = B.length) ∧ Hid (Ivs w2 w2.heap.size At (B.drop j)) ∧ n ≤ ct
theorem drop_cons {B : List Iv} {j n : Nat} (h : n + 1 + j = B.length) : ∃ b T, B.drop j = b :: T ∧ B.drop (j + 1) = T := by
  have hj : j < B.length := by omega
  exact ⟨B[j], B.drop (j + 1), List.drop_eq_getElem_cons hj, rfl⟩
end Go.Proofs.Ytlkindlbllbmgaa
