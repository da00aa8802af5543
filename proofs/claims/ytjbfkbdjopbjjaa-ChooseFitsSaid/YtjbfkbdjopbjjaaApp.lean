/- Appending one number to a row of the call's own. -/
import Derived.Test.YtjbfkbdjopbjjaaMem
namespace Go.Proofs.Ytjbfkbdjopbjjaa
open Go.RowKit

/-- A row of the call's own that reads as the numbers l. -/
def OwnI (w : World) (base : Nat) (A : Option Addr) (c : Nat) (l : List Int) : Prop := w.ownsRow base 3 1 (.slice A l.length c) l.length (cellsI l)
theorem ownI_nil (w : World) (base : Nat) : OwnI w base none 0 [] := World.ownsRow_nil _ _ _ _
theorem OwnI.rd {w : World} {base c : Nat} {A : Option Addr} {l : List Int} (h : OwnI w base A c l) : Rd w w.heap.size A c (cellsI l) := Rd.of_own h
theorem OwnI.up {w w' : World} {base c : Nat} {A : Option Addr} {l : List Int} (h : OwnI w base A c l) (b : Below w.heap.size w w') : OwnI w' base A c l := own_below h b
theorem OwnI.drewN {w : World} {base c : Nat} {A : Option Addr} {l : List Int} (h : OwnI w base A c l) (n : Nat) : OwnI (w.drewN n) base A c l := h
theorem OwnI.less {w : World} {base base' c : Nat} {A : Option Addr} {l : List Int} (h : OwnI w base A c l) (hb : base' ≤ base) : OwnI w base' A c l := own_less h hb
theorem one_i64 {x : Int} {u : Value} (h : u ∈ #[Value.int .i64 x].toList) : u.oneCell' = true := by
  simp at h
  subst h
  rfl
theorem wpList_app_int {W w : World} {ops : Array Oper} {rest : List Oper} {o : Oper} {a : Act} {Q : Exit → Act → World → Prop} (hgd : o.guard = none) (s x : Operand)
    (ho : o.op = .call { callee := .builtin .append, args := #[s, x], argTypes := #[27, 27] }) {base c : Nat} {A : Option Addr} {l : List Int} {y : Int} {T : TypeId}
    (hs : a.eval s = .slice A l.length c) (hx : a.eval x = .slice (some ⟨w.heap.size, 0, none⟩) 1 1) (hown : OwnI w base A c l) (hB : Below base W w) (hbase : base ≤ W.heap.size) (hl : l.length ≤ 1000000000)
    (h : ∀ A' c' w', OwnI w' base A' c' (l ++ [y]) → Below base W w' → wpList Try.prog ops Q rest (a.put o.dst (.slice A' (l.length + 1) c')) w') : wpList Try.prog ops Q (o :: rest) a (w.alloc (.cells #[.int .i64 y] T)) := by
  obtain ⟨i0, hi, hz0, hz1, hz2⟩ := info_parts info_i64
  have hsz : base ≤ (w.alloc (.cells #[.int .i64 y] T)).heap.size := by have := hB.size; simp; omega
  refine wpList_append_feed _ hgd s x 27 ho base 3 i0 (.int .i64 0) 1 8 Try.underlying27 hi hz0 hz1 hz2 rfl (by decide) _ l.length (cellsI l) hs (World.ownsRow.alloc hown _) _ 1 _ hx (feed_new rfl) (fun u hu => one_i64 hu) (by unfold maxLen; omega) (by omega) hsz ?_
  intro A' c' w' h1 h2
  refine h A' c' w' ?_ (below_grown (hB.alloc (Nat.le_trans hbase hB.size) _) (World.ownsRow.alloc hown _) h2 (Nat.le_refl _) hsz)
  unfold OwnI
  rw [List.length_append, cellsI_append]
  exact h1
end Go.Proofs.Ytjbfkbdjopbjjaa
