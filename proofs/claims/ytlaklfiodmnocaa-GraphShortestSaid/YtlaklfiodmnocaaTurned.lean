/- The reference's turned: the edges with From and To exchanged; appending in a region that draws. -/
import Derived.Test.YtlaklfiodmnocaaPut
import Derived.Deep.RegionHeld3
import Derived.Deep.AppendLies
import Derived.WalkSpells
namespace Go.Proofs.Ytlaklfiodmnocaa
open Go.RowKit

theorem step_app_ed {W w : World} {ops : Array Oper} {o : Oper} {a : Act} {K : Act → World → Prop} {Q : Exit → Act → World → Prop} {E : Prop} (hgd : o.guard = none) (s x : Operand)
    (ho : o.op = .call { callee := .builtin .append, args := #[s, x], argTypes := #[22, 22] }) {base c : Nat} {A : Option Addr} {l : List Ed} (e : Ed) {T : TypeId}
    (hs : a.eval s = .slice A l.length c) (hx : a.eval x = .slice (some ⟨w.heap.size, 0, none⟩) 1 1) (hown : OwnE w base A c l) (hB : Below base W w) (hbase : base ≤ W.heap.size) (hl : l.length ≤ 1000000000)
    (h : ∀ g c' w', OwnE w' base (some ⟨g, 0, none⟩) c' (l ++ [e]) → Below base W w' → K (a.put o.dst (.slice (some ⟨g, 0, none⟩) (l.length + 1) c')) w') :
    if Region.wanted o (yielded ops a.tmps) = true then Oper.wp Try.prog o a ((w.alloc (.cells #[.int .i64 e.id, .int .i64 e.frm, .int .i64 e.to, .int .i64 e.cost] T)).drew) K Q else E := by
  obtain ⟨i0, hi, hz0, hz1, hz2⟩ := info_parts info_ed
  have hsz : base ≤ ((w.alloc (.cells #[.int .i64 e.id, .int .i64 e.frm, .int .i64 e.to, .int .i64 e.cost] T)).drew).heap.size := by have := hB.size; show _ ≤ (w.alloc _).heap.size; simp; omega
  refine step_append_lies _ hgd s x 22 ho base 42 i0 (.agg #[.int .i64 0, .int .i64 0, .int .i64 0, .int .i64 0]) 4 32 Try.underlying22 hi hz0 hz1 hz2 rfl (by decide) _ l.length (cellsE l) hs (World.ownsRow.drew (World.ownsRow.alloc hown _)) ⟨w.heap.size, 0, none⟩ 1 1 [.int .i64 e.id, .int .i64 e.frm, .int .i64 e.to, .int .i64 e.cost] hx (by rfl) (fun j u hj => (World.news_of_block (w := w.alloc _) (heap_alloc_new w _) j u hj)) (fun u hu => four_i64 (a := e.id) (b := e.frm) (c := e.to) (d := e.cost) hu) (by decide) (by unfold maxLen; omega) (by omega) hsz _ rfl ?_
  intro g c' w' h1 h2 _ _
  refine h g c' w' ?_ (below_grown (Below.drew (hB.alloc (Nat.le_trans hbase hB.size) _)) (World.ownsRow.drew (World.ownsRow.alloc hown _)) h2 (Nat.le_refl _) hsz)
  unfold OwnE
  rw [List.length_append, cellsE_append]
  exact h1
theorem step_app_ed0 {W w : World} {ops : Array Oper} {o : Oper} {a : Act} {K : Act → World → Prop} {Q : Exit → Act → World → Prop} {E : Prop} (hgd : o.guard = none) (s x : Operand)
    (ho : o.op = .call { callee := .builtin .append, args := #[s, x], argTypes := #[22, 22] }) {base c : Nat} {A : Option Addr} {l : List Ed} (e : Ed) {T : TypeId}
    (hs : a.eval s = .slice A l.length c) (hx : a.eval x = .slice (some ⟨w.heap.size, 0, none⟩) 1 1) (hown : OwnE w base A c l) (hB : Below base W w) (hbase : base ≤ W.heap.size) (hl : l.length ≤ 1000000000)
    (h : ∀ g c' w', OwnE w' base (some ⟨g, 0, none⟩) c' (l ++ [e]) → Below base W w' → K (a.put o.dst (.slice (some ⟨g, 0, none⟩) (l.length + 1) c')) w') :
    if Region.wanted o (yielded ops a.tmps) = true then Oper.wp Try.prog o a (w.alloc (.cells #[.int .i64 e.id, .int .i64 e.frm, .int .i64 e.to, .int .i64 e.cost] T)) K Q else E := by
  obtain ⟨i0, hi, hz0, hz1, hz2⟩ := info_parts info_ed
  have hsz : base ≤ (w.alloc (.cells #[.int .i64 e.id, .int .i64 e.frm, .int .i64 e.to, .int .i64 e.cost] T)).heap.size := by have := hB.size; simp; omega
  refine step_append_lies _ hgd s x 22 ho base 42 i0 (.agg #[.int .i64 0, .int .i64 0, .int .i64 0, .int .i64 0]) 4 32 Try.underlying22 hi hz0 hz1 hz2 rfl (by decide) _ l.length (cellsE l) hs (World.ownsRow.alloc hown _) ⟨w.heap.size, 0, none⟩ 1 1 [.int .i64 e.id, .int .i64 e.frm, .int .i64 e.to, .int .i64 e.cost] hx (by rfl) (fun j u hj => World.news_of_block (heap_alloc_new w _) j u hj) (fun u hu => four_i64 (a := e.id) (b := e.frm) (c := e.to) (d := e.cost) hu) (by decide) (by unfold maxLen; omega) (by omega) hsz _ rfl ?_
  intro g c' w' h1 h2 _ _
  refine h g c' w' ?_ (below_grown (hB.alloc (Nat.le_trans hbase hB.size) _) (World.ownsRow.alloc hown _) h2 (Nat.le_refl _) hsz)
  unfold OwnE
  rw [List.length_append, cellsE_append]
  exact h1
theorem turn_take {l : List Ed} {k : Nat} (h : k < l.length) : (l.take (k + 1)).map turn = (l.take k).map turn ++ [⟨eI l k, eT l k, eF l k, eC l k⟩] := by
  rw [List.take_succ_eq_append_getElem h, List.map_append, e_eta h]
  rfl
/-- Edges of the call's own that are handed back. -/
def MadeE' (W : World) (l : List Ed) (e : Ending) (w' : World) : Prop := ∃ A c, e = .returned (.slice A l.length c) ∧ OwnE w' W.heap.size A c l ∧ Below W.heap.size W w'

set_option maxRecDepth 100000 in
set_option maxHeartbeats 4000000 in
theorem turned_any (A : Option Addr) (l : List Ed) (c : Nat) (w : World) (hp : Es w w.heap.size A l) (hmax : l.length ≤ 10000000) :
    Calls Try.prog 38 #[.slice A l.length c] w (MadeE' w (l.map turn)) := by
  have hP := Lib.hid hp
  clear hp
  go_enter Try.func38, Try.ntmps38
  go_wp2
  go_loopw [3, 4] (fun v i wr => ∃ (k : Nat) (A' : Option Addr) (c' : Nat) (o : List Ed), k ≤ l.length ∧ o.length = k ∧ i = .int .i64 k ∧ v = .slice A' o.length c' ∧ Hid (OwnE wr w.heap.size A' c' o) ∧ Hid (Below w.heap.size w wr) ∧ Hid ((l.take k).map turn = o)) (fun _ i _ => l.length - (intOf i).toNat)
  case atStart => exact ⟨0, none, 0, [], by omega, rfl, rfl, rfl, Lib.hid (ownE_nil _ _), Lib.hid (Below.refl _ _), Lib.hid rfl⟩
  case round =>
    obtain ⟨k, A', c', o, hk, hok, rfl, rfl, hO, hB, hT⟩ := hrel
    by_cases hlt : k < l.length
    · obtain ⟨ad, rfl, hab, c0⟩ := hP.out.get hlt
      have hC := Lib.hid (fun (wr2 : World) (h : Below w.heap.size w wr2) => c0.keep (by rw [block_of_add]; exact hab) (fun q hq => h.cell hq))
      obtain ⟨x0, x1, x2, x3⟩ := hC.out wr hB.out
      have hN := Lib.hid (turn_take hlt)
      rw [hT.out] at hN
      generalize eI l k = y0 at *
      generalize eF l k = y1 at *
      generalize eT l k = y2 at *
      generalize eC l k = y3 at *
      have hol : o.length ≤ 1000000000 := by omega
      have hOk := Lib.hid hok
      clear c0 hT hP hok
      go_wp2
      go_region_held3 (fun w' => w'.cell? (ad.add (k * 4)) = some (.int .i64 y0) ∧ w'.cell? { block := (ad.add (k * 4)).block, off := (ad.add (k * 4)).off + 1 } = some (.int .i64 y1) ∧ w'.cell? { block := (ad.add (k * 4)).block, off := (ad.add (k * 4)).off + 2 } = some (.int .i64 y2) ∧ w'.cell? { block := (ad.add (k * 4)).block, off := (ad.add (k * 4)).off + 3 } = some (.int .i64 y3))
        (first
          | exact ⟨x0, x1, x2, x3⟩
          | exact hC.out _ D3.out
          | exact hC.out _ (Below.drew (hB.out.alloc hB.out.size _))
          | go_keep)
        ((refine step_app_ed (by rfl) _ _ (by rfl) ⟨y0, y2, y1, y3⟩ (by rfl) (by rfl) hO.out hB.out (Nat.le_refl _) hol ?_; intro gg c3 w3 h3 d3; (have H3 := Lib.hid h3); (have D3 := Lib.hid d3); clear h3 d3))
      go_wp2
      exact ⟨⟨k + 1, _, c3, _, by omega, by rw [List.length_append, hOk.out]; rfl, by go_num, by rw [List.length_append]; rfl, H3, D3, hN⟩, by simp [intOf]; omega⟩
    · obtain rfl : k = l.length := by omega
      have hE : Hid (o = l.map turn) := Lib.hid (by have := hT.out; rw [List.take_length] at this; exact this.symm)
      clear hT hP
      go_wp2
      go_ret
      rw [← hE.out]
      exact ⟨A', c', rfl, hO.out, hB.out⟩
end Go.Proofs.Ytlaklfiodmnocaa
