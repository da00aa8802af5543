/- The reference's turned: the edges with From and To exchanged; appending in a region that draws. -/
import Derived.Test.YtdemnbbofigcdaaPut
import Derived.Deep.RegionHeld3
import Derived.Deep.AppendLies
import Derived.WalkSpells
namespace Go.Proofs.Ytdemnbbofigcdaa
open Go.RowKit

theorem step_app_ed {W w : World} {ops : Array Oper} {o : Oper} {a : Act} {K : Act → World → Prop} {Q : Exit → Act → World → Prop} {E : Prop} (hgd : o.guard = none) (s x : Operand)
    (ho : o.op = .call { callee := .builtin .append, args := #[s, x], argTypes := #[22, 22] }) {base c : Nat} {A : Option Addr} {l : List Ed} (e : Ed) {T : TypeId}
    (hs : a.eval s = .slice A l.length c) (hx : a.eval x = .slice (some ⟨w.heap.size, 0, none⟩) 1 1) (hown : OwnE w base A c l) (hB : Below base W w) (hbase : base ≤ W.heap.size) (hl : l.length ≤ 1000000000)
    (h : ∀ g c' w', OwnE w' base (some ⟨g, 0, none⟩) c' (l ++ [e]) → Below base W w' → K (a.put o.dst (.slice (some ⟨g, 0, none⟩) (l.length + 1) c')) w') :
    if Region.wanted o (yielded ops a.tmps) = true then Oper.wp Try.prog o a ((w.alloc (.cells #[.int .i64 e.id, .int .i64 e.frm, .int .i64 e.to, .int .i64 e.cost] T)).drew) K Q else E := by
  obtain ⟨i0, hi, hz0, hz1, hz2⟩ := info_parts info_ed
  have hsz : base ≤ ((w.alloc (.cells #[.int .i64 e.id, .int .i64 e.frm, .int .i64 e.to, .int .i64 e.cost] T)).drew).heap.size := by have := hB.size; show _ ≤ (w.alloc _).heap.size; simp; omega
  refine step_append_lies _ hgd s x 22 ho base 33 i0 (.agg #[.int .i64 0, .int .i64 0, .int .i64 0, .int .i64 0]) 4 32 Try.underlying22 hi hz0 hz1 hz2 rfl (by decide) _ l.length (cellsE l) hs (World.ownsRow.drew (World.ownsRow.alloc hown _)) ⟨w.heap.size, 0, none⟩ 1 1 [.int .i64 e.id, .int .i64 e.frm, .int .i64 e.to, .int .i64 e.cost] hx (by rfl) (fun j u hj => (World.news_of_block (w := w.alloc _) (heap_alloc_new w _) j u hj)) (fun u hu => four_i64 (a := e.id) (b := e.frm) (c := e.to) (d := e.cost) hu) (by decide) (by unfold maxLen; omega) (by omega) hsz _ rfl ?_
  intro g c' w' h1 h2 _ _
  refine h g c' w' ?_ (below_grown (Below.drew (hB.alloc (Nat.le_trans hbase hB.size) _)) (World.ownsRow.drew (World.ownsRow.alloc hown _)) h2 (Nat.le_refl _) hsz)
  unfold OwnE
  rw [List.length_append, cellsE_append]
  exact h1
theorem step_app_ed0 {W w : World} {ops : Array Oper} {o : Oper} {a : Act} {K : Act → World → Prop} {Q : Exit → Act → World → Prop} {E : Prop} (hgd : o.guard = none) (s x : Operand)
    (ho : o.op = .call { callee := .builtin .append, args := #[s, x], argTypes := #[22, 22] }) {base c : Nat} {A : Option Addr} {l : List Ed} (e : Ed) {T : TypeId}
    (hs : a.eval s = .slice A l.length c) (hx : a.eval x = .slice (some ⟨w.heap.size, 0, none⟩) 1 1) (hown : OwnE w base A c l) (hB : Below base W w) (hbase : base ≤ W.heap.size) (hl : l.length ≤ 1000000000)
    (h : ∀ g c' w', OwnE w' base (some ⟨g, 0, none⟩) c' (l ++ [e]) → Below base W w' → K (a.put o.dst (.slice (some ⟨g, 0, none⟩) (l.length + 1) c')) w') :
    if Region.wanted o (yielded ops a.tmps) = true then Oper.wp Try.prog o a (w.alloc (.cells #[.int .i64 e.id, .int .i64 e.frm, .int .i64 e.to, .int .i64 e.cost] T)) K Q else E := by
  obtain ⟨i0, hi, hz0, hz1, hz2⟩ := info_parts info_ed
  have hsz : base ≤ (w.alloc (.cells #[.int .i64 e.id, .int .i64 e.frm, .int .i64 e.to, .int .i64 e.cost] T)).heap.size := by have := hB.size; simp; omega
  refine step_append_lies _ hgd s x 22 ho base 33 i0 (.agg #[.int .i64 0, .int .i64 0, .int .i64 0, .int .i64 0]) 4 32 Try.underlying22 hi hz0 hz1 hz2 rfl (by decide) _ l.length (cellsE l) hs (World.ownsRow.alloc hown _) ⟨w.heap.size, 0, none⟩ 1 1 [.int .i64 e.id, .int .i64 e.frm, .int .i64 e.to, .int .i64 e.cost] hx (by rfl) (fun j u hj => World.news_of_block (heap_alloc_new w _) j u hj) (fun u hu => four_i64 (a := e.id) (b := e.frm) (c := e.to) (d := e.cost) hu) (by decide) (by unfold maxLen; omega) (by omega) hsz _ rfl ?_
  intro g c' w' h1 h2 _ _
  refine h g c' w' ?_ (below_grown (hB.alloc (Nat.le_trans hbase hB.size) _) (World.ownsRow.alloc hown _) h2 (Nat.le_refl _) hsz)
  unfold OwnE
  rw [List.length_append, cellsE_append]
  exact h1
theorem turn_take {l : List Ed} {k : Nat} (h : k < l.length) : (l.take (k + 1)).map turn = (l.take k).map turn ++ [⟨eI l k, eT l k, eF l k, eC l k⟩] := by
  rw [List.take_succ_eq_append_getElem h, List.map_append, e_eta h]
  rfl
/-- Edges of the call's own that are handed back. -/
def MadeE' (W : World) (l : List Ed) (e : Ending) (w' : World) : Prop := ∃ A c, e = .returned (.slice A l.length c) ∧ OwnE w' W.heap.size A c l ∧ Below W.heap.size W w'

end Go.Proofs.Ytdemnbbofigcdaa
