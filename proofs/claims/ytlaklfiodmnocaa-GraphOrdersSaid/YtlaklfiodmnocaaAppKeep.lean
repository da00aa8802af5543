/- Appending a number leaves the boxes of the call as they are. -/
import Derived.Test.YtlaklfiodmnocaaShM
import Derived.Test.YtlaklfiodmnocaaLabels
namespace Go.Proofs.Ytlaklfiodmnocaa
open Go.RowKit

theorem ownBlock_none (n c : Nat) : (Value.slice none n c).ownBlock = none := rfl
theorem ownBlock_some (ad : Addr) (n c : Nat) : (Value.slice (some ad) n c).ownBlock = some ad.block := rfl
theorem grown_cell {w w' : World} {o : Obj} {A : Option Addr} {n c : Nat} (hg : (w.alloc o).grownBy w' (Value.slice A n c).ownBlock) {p : Addr} (hp : p.block < w.heap.size) (hA : ∀ ad, A = some ad → ad.block ≠ p.block) : w'.cell? p = w.cell? p ∧ w'.frozen? p = w.frozen? p := by
  have hb : w'.heap[p.block]? = w.heap[p.block]? := by
    refine (hg.block p.block (by simp; omega) ?_).trans (Below.heap_alloc _ _ _ hp)
    cases A with
    | none => rw [ownBlock_none]; intro h; cases h
    | some ad =>
      rw [ownBlock_some]
      intro h
      injection h with h
      exact hA ad rfl h.symm
  exact ⟨World.cell?_of_block hb, World.frozen?_of_block hb⟩
theorem wpList_app_int_lies {W w : World} {ops : Array Oper} {rest : List Oper} {o : Oper} {a : Act} {Q : Exit → Act → World → Prop} (hgd : o.guard = none) (s x : Operand)
    (ho : o.op = .call { callee := .builtin .append, args := #[s, x], argTypes := #[27, 27] }) {base c : Nat} {A : Option Addr} {l : List Int} {y : Int} {T : TypeId}
    (hs : a.eval s = .slice A l.length c) (hx : a.eval x = .slice (some ⟨w.heap.size, 0, none⟩) 1 1) (hown : OwnI w base A c l) (hB : Below base W w) (hbase : base ≤ W.heap.size) (hl : l.length ≤ 1000000000)
    (h : ∀ g c' w', OwnI w' base (some ⟨g, 0, none⟩) c' (l ++ [y]) → Below base W w' → (∀ p : Addr, p.block < w.heap.size → (∀ ad, A = some ad → ad.block ≠ p.block) → w'.cell? p = w.cell? p ∧ w'.frozen? p = w.frozen? p) →
      ((∃ ad, A = some ad ∧ ad.block = g) ∨ w.heap.size ≤ g) → w.heap.size ≤ w'.heap.size → wpList Try.prog ops Q rest (a.put o.dst (.slice (some ⟨g, 0, none⟩) (l.length + 1) c')) w') : wpList Try.prog ops Q (o :: rest) a (w.alloc (.cells #[.int .i64 y] T)) := by
  obtain ⟨i0, hi, hz0, hz1, hz2⟩ := info_parts info_i64
  have hsz : base ≤ (w.alloc (.cells #[.int .i64 y] T)).heap.size := by have := hB.size; simp; omega
  refine wpList_append_lies _ hgd s x 27 ho base 3 i0 (.int .i64 0) 1 8 Try.underlying27 hi hz0 hz1 hz2 rfl (by decide) _ l.length (cellsI l) hs (World.ownsRow.alloc hown _) ⟨w.heap.size, 0, none⟩ 1 1 [.int .i64 y] hx (by rfl) (fun j u hj => (World.news_of_block (w := w.alloc _) (heap_alloc_new w _) j u hj)) (fun u hu => one_i64 (x := y) hu) (by decide) (by unfold maxLen; omega) (by omega) hsz _ rfl ?_
  intro g c' w' h1 h2 h3 h4
  refine h g c' w' ?_ (below_grown (hB.alloc (Nat.le_trans hbase hB.size) _) (World.ownsRow.alloc hown _) h2 (Nat.le_refl _) hsz) (fun p hp hA => grown_cell h2 hp hA) ?_ (Nat.le_trans (by simp) h2.size)
  · unfold OwnI
    rw [List.length_append, cellsI_append]
    exact h1
  · rcases h3 with h3 | h3
    · left
      cases A with
      | none => rw [ownBlock_none] at h3; cases h3
      | some ad =>
        rw [ownBlock_some] at h3
        injection h3 with h3
        exact ⟨ad, rfl, h3⟩
    · right
      rw [h3]
      simp
/-- What is owned stays where another block's cells are stored. -/
theorem own_put4 {w : World} {base c g o : Nat} {ad : Addr} {l : List Int} {x : Lb} (h : OwnI w base (some ad) c l) (hne : ad.block ≠ g) : OwnI (put4 w g o x) base (some ad) c l := by
  refine World.ownsRow.kept h (row := some g) ⟨?_, ?_, ?_, ?_, fun k hk hk2 => ?_⟩ (.inr ?_)
  · exact (below_put4 (B := 0) (Below.refl 0 w) (Nat.zero_le _) o x).os
  · exact (below_put4 (B := 0) (Below.refl 0 w) (Nat.zero_le _) o x).tape
  · exact (below_put4 (B := 0) (Below.refl 0 w) (Nat.zero_le _) o x).output
  · exact (below_put4 (B := 0) (Below.refl 0 w) (Nat.zero_le _) o x).size
  · have hkg : k ≠ g := fun e => hk2 (by rw [e])
    unfold put4
    rw [Below.heap_setCell _ _ _ _ hkg, Below.heap_setCell _ _ _ _ hkg, Below.heap_setCell _ _ _ _ hkg, Below.heap_setCell _ _ _ _ hkg]
  · rw [ownBlock_some]
    intro e
    injection e with e
    exact hne e
theorem put4_size (w : World) (g o : Nat) (x : Lb) : (put4 w g o x).heap.size = w.heap.size := by
  simp [put4, World.setCell]
end Go.Proofs.Ytlaklfiodmnocaa
