/- The reference's labels. -/
import Derived.Test.YtlaklfiodmnocaaLabM
import Derived.BigRegion
import Derived.Deep.CutRange
namespace Go.Proofs.Ytlaklfiodmnocaa
open Go.RowKit

def OwnB (w : World) (base : Nat) (A : Option Addr) (c : Nat) (L : List Lb) : Prop := w.ownsRow base 74 4 (.slice A L.length c) L.length (cellsB L)
theorem ownB_nil (w : World) (base : Nat) : OwnB w base none 0 [] := World.ownsRow_nil _ _ _ _
theorem OwnB.ls {w : World} {base c : Nat} {A : Option Addr} {L : List Lb} (h : OwnB w base A c L) : Ls w w.heap.size A L := own_ls h
theorem OwnB.up {w w' : World} {base c : Nat} {A : Option Addr} {L : List Lb} (h : OwnB w base A c L) (b : Below w.heap.size w w') : OwnB w' base A c L := own_below h b
theorem OwnB.less {w : World} {base base' c : Nat} {A : Option Addr} {L : List Lb} (h : OwnB w base A c L) (hb : base' ≤ base) : OwnB w base' A c L := own_less h hb
theorem info_lb : (Try.prog.info? 74).map (fun i => (i.zero, i.size, i.bytes)) = some (some (.agg #[.int .i64 0, .int .i64 0, .int .i64 0, .bool false]), 4, 32) := by kernel_rfl
theorem four_lb {a b c : Int} {d : Bool} {u : Value} (h : u ∈ #[Value.int .i64 a, .int .i64 b, .int .i64 c, .bool d].toList) : u.oneCell' = true := by
  simp at h
  rcases h with rfl | rfl | rfl | rfl <;> rfl
theorem step_app_lb {W w : World} {ops : Array Oper} {o : Oper} {a : Act} {K : Act → World → Prop} {Q : Exit → Act → World → Prop} {E : Prop} (hgd : o.guard = none) (s x : Operand)
    (ho : o.op = .call { callee := .builtin .append, args := #[s, x], argTypes := #[71, 71] }) {base c : Nat} {A : Option Addr} {l : List Lb} (e : Lb) {T : TypeId}
    (hs : a.eval s = .slice A l.length c) (hx : a.eval x = .slice (some ⟨w.heap.size, 0, none⟩) 1 1) (hown : OwnB w base A c l) (hB : Below base W w) (hbase : base ≤ W.heap.size) (hl : l.length ≤ 1000000000)
    (h : ∀ g c' w', OwnB w' base (some ⟨g, 0, none⟩) c' (l ++ [e]) → Below base W w' → K (a.put o.dst (.slice (some ⟨g, 0, none⟩) (l.length + 1) c')) w') :
    if Region.wanted o (yielded ops a.tmps) = true then Oper.wp Try.prog o a ((w.alloc (.cells #[.int .i64 e.node, .int .i64 e.cost, .int .i64 e.edges, .bool e.ok] T)).drew) K Q else E := by
  obtain ⟨i0, hi, hz0, hz1, hz2⟩ := info_parts info_lb
  have hsz : base ≤ ((w.alloc (.cells #[.int .i64 e.node, .int .i64 e.cost, .int .i64 e.edges, .bool e.ok] T)).drew).heap.size := by have := hB.size; show _ ≤ (w.alloc _).heap.size; simp; omega
  refine step_append_lies _ hgd s x 71 ho base 74 i0 (.agg #[.int .i64 0, .int .i64 0, .int .i64 0, .bool false]) 4 32 Try.underlying71 hi hz0 hz1 hz2 rfl (by decide) _ l.length (cellsB l) hs (World.ownsRow.drew (World.ownsRow.alloc hown _)) ⟨w.heap.size, 0, none⟩ 1 1 [.int .i64 e.node, .int .i64 e.cost, .int .i64 e.edges, .bool e.ok] hx (by rfl) (fun j u hj => (World.news_of_block (w := w.alloc _) (heap_alloc_new w _) j u hj)) (fun u hu => four_lb (a := e.node) (b := e.cost) (c := e.edges) (d := e.ok) hu) (by decide) (by unfold maxLen; omega) (by omega) hsz _ rfl ?_
  intro g c' w' h1 h2 _ _
  refine h g c' w' ?_ (below_grown (Below.drew (hB.alloc (Nat.le_trans hbase hB.size) _)) (World.ownsRow.drew (World.ownsRow.alloc hown _)) h2 (Nat.le_refl _) hsz)
  unfold OwnB
  rw [List.length_append, cellsB_append]
  exact h1
theorem start_step {t : Int} {N : List Int} {k : Nat} (h : k < N.length) : startL t (N.take (k + 1)) = startL t (N.take k) ++ [⟨ix N k, 0, 0, decide (ix N k = t)⟩] := by
  unfold startL
  rw [take_ix h, List.map_append]
  rfl
theorem start_len (t : Int) (N : List Int) : (startL t N).length = N.length := by unfold startL; rw [List.length_map]
theorem cell_lt {w : World} {p : Addr} {v : Value} (h : w.cell? p = some v) : p.block < w.heap.size := World.block_lt_of_cell? _ _ h
theorem box_frozen {w w1 : World} {T : TypeId} {v0 v1 v2 v3 : Value} (b : Below (w.alloc (.cells #[v0, v1, v2, v3] T)).heap.size (w.alloc (.cells #[v0, v1, v2, v3] T)) w1) (j : Nat) : w1.frozen? ⟨w.heap.size, j, none⟩ = false :=
  (b.frozen (by simp)).trans (by simp)
/-- Four cells stored one after the other. -/
theorem set4 {B g : Nat} {a w : World} (h : Below B a w) (hg : B ≤ g) (v0 v1 v2 v3 : Value) : Below B a ((((w.setCell ⟨g, 0, none⟩ v0).setCell ⟨g, 1, none⟩ v1).setCell ⟨g, 2, none⟩ v2).setCell ⟨g, 3, none⟩ v3) :=
  Below.setCell (Below.setCell (Below.setCell (Below.setCell h (p := ⟨g, 0, none⟩) hg v0) (p := ⟨g, 1, none⟩) hg v1) (p := ⟨g, 2, none⟩) hg v2) (p := ⟨g, 3, none⟩) hg v3
theorem set4_at {g : Nat} {w : World} {o0 o1 o2 o3 : Value} (z0 : w.cell? ⟨g, 0, none⟩ = some o0) (z1 : w.cell? ⟨g, 1, none⟩ = some o1) (z2 : w.cell? ⟨g, 2, none⟩ = some o2) (z3 : w.cell? ⟨g, 3, none⟩ = some o3) (v0 v1 v2 v3 : Value) :
    At4 ((((w.setCell ⟨g, 0, none⟩ v0).setCell ⟨g, 1, none⟩ v1).setCell ⟨g, 2, none⟩ v2).setCell ⟨g, 3, none⟩ v3) ⟨g, 0, none⟩ v0 v1 v2 v3 := by
  have n01 : (⟨g, 0, none⟩ : Addr) ≠ ⟨g, 1, none⟩ := by simp
  have n02 : (⟨g, 0, none⟩ : Addr) ≠ ⟨g, 2, none⟩ := by simp
  have n03 : (⟨g, 0, none⟩ : Addr) ≠ ⟨g, 3, none⟩ := by simp
  have n12 : (⟨g, 1, none⟩ : Addr) ≠ ⟨g, 2, none⟩ := by simp
  have n13 : (⟨g, 1, none⟩ : Addr) ≠ ⟨g, 3, none⟩ := by simp
  have n23 : (⟨g, 2, none⟩ : Addr) ≠ ⟨g, 3, none⟩ := by simp
  refine ⟨?_, ?_, ?_, ?_⟩
  · rw [World.cell?_setCell_other _ _ _ _ n03.symm, World.cell?_setCell_other _ _ _ _ n02.symm, World.cell?_setCell_other _ _ _ _ n01.symm]
    exact World.cell?_setCell_same _ _ _ z0
  · show World.cell? _ ⟨g, 1, none⟩ = _
    rw [World.cell?_setCell_other _ _ _ _ n13.symm, World.cell?_setCell_other _ _ _ _ n12.symm]
    exact World.cell?_setCell_same _ _ _ ((World.cell?_setCell_other _ _ _ _ n01).trans z1)
  · show World.cell? _ ⟨g, 2, none⟩ = _
    rw [World.cell?_setCell_other _ _ _ _ n23.symm]
    exact World.cell?_setCell_same _ _ _ ((World.cell?_setCell_other _ _ _ _ n12).trans ((World.cell?_setCell_other _ _ _ _ n02).trans z2))
  · show World.cell? _ ⟨g, 3, none⟩ = _
    exact World.cell?_setCell_same _ _ _ ((World.cell?_setCell_other _ _ _ _ n23).trans ((World.cell?_setCell_other _ _ _ _ n13).trans ((World.cell?_setCell_other _ _ _ _ n03).trans z3)))
theorem below_undrew {a w : World} (h : Below a.drew.heap.size a.drew w) : Below a.heap.size a w := ⟨h.os, h.tape, h.output, h.size, h.block⟩
theorem cellsB_set : ∀ {L : List Lb} {k : Nat} {x : Lb}, k < L.length → ((((cellsB L).set (k * 4) (.int .i64 x.node)).set (k * 4 + 1) (.int .i64 x.cost)).set (k * 4 + 2) (.int .i64 x.edges)).set (k * 4 + 3) (.bool x.ok) = cellsB (L.set k x)
  | [], _, _, h => absurd h (by simp)
  | y :: L, 0, x, _ => rfl
  | y :: L, k + 1, x, h => by
    have := cellsB_set (L := L) (k := k) (x := x) (by simpa using h)
    rw [List.set_cons_succ, cellsB, cellsB, ← this, show (k + 1) * 4 = k * 4 + 1 + 1 + 1 + 1 by omega]
    rfl
/-- A label stored into a row of the call's own. -/
def put4 (w : World) (g o : Nat) (x : Lb) : World := (((w.setCell ⟨g, o, none⟩ (.int .i64 x.node)).setCell ⟨g, o + 1, none⟩ (.int .i64 x.cost)).setCell ⟨g, o + 2, none⟩ (.int .i64 x.edges)).setCell ⟨g, o + 3, none⟩ (.bool x.ok)
theorem own_store {w : World} {base c k g : Nat} {L : List Lb} {x : Lb} (h : OwnB w base (some ⟨g, 0, none⟩) c L) (hk : k < L.length) : OwnB (put4 w g (k * 4) x) base (some ⟨g, 0, none⟩) c (L.set k x) := by
  unfold OwnB at h ⊢
  rw [← cellsB_set hk, List.length_set]
  exact ((((World.ownsRow.stored h (k * 4) (.int .i64 x.node)).1.stored (k * 4 + 1) (.int .i64 x.cost)).1.stored (k * 4 + 2) (.int .i64 x.edges)).1.stored (k * 4 + 3) (.bool x.ok)).1
theorem below_put4 {B g : Nat} {a w : World} (h : Below B a w) (hg : B ≤ g) (o : Nat) (x : Lb) : Below B a (put4 w g o x) :=
  Below.setCell (Below.setCell (Below.setCell (Below.setCell h (p := ⟨g, o, none⟩) hg _) (p := ⟨g, o + 1, none⟩) hg _) (p := ⟨g, o + 2, none⟩) hg _) (p := ⟨g, o + 3, none⟩) hg _
theorem put4_cell {w : World} {g o : Nat} {x : Lb} {q : Addr} (h : ¬ g = q.block) : (put4 w g o x).cell? q = w.cell? q := by
  have ne : ∀ n, (⟨g, n, none⟩ : Addr) ≠ q := fun n e => h (by rw [← e])
  unfold put4
  rw [World.cell?_setCell_other _ _ _ _ (ne _), World.cell?_setCell_other _ _ _ _ (ne _), World.cell?_setCell_other _ _ _ _ (ne _), World.cell?_setCell_other _ _ _ _ (ne _)]
theorem put4_keep {w : World} {g o : Nat} {x : Lb} {p : Addr} {v0 v1 v2 v3 : Value} (h : At4 w p v0 v1 v2 v3) (hg : ¬ g = p.block) : At4 (put4 w g o x) p v0 v1 v2 v3 :=
  ⟨(put4_cell hg).trans h.1, (put4_cell (q := ⟨p.block, p.off + 1, none⟩) hg).trans h.2.1, (put4_cell (q := ⟨p.block, p.off + 2, none⟩) hg).trans h.2.2.1, (put4_cell (q := ⟨p.block, p.off + 3, none⟩) hg).trans h.2.2.2⟩
/-- What labels hands back. -/
def LabPost (W : World) (l : List Ed) (t : Int) (e : Ending) (w' : World) : Prop :=
  ∃ A c L, e = .returned (.slice A L.length c) ∧ OwnB w' W.heap.size A c L ∧ Lok l t L ∧ Stable l L ∧ Below W.heap.size W w'

/-! ### The measure, read off the memory -/
def cN : Option Value → Int
  | some (.int _ n) => n
  | _ => 0
def cOk : Option Value → Bool
  | some (.bool b) => b
  | _ => false
def muW (g n : Nat) (w : World) : Nat := ((List.range n).map fun i => muB ⟨0, cN (w.cell? ⟨g, i * 4 + 1, none⟩), cN (w.cell? ⟨g, i * 4 + 2, none⟩), cOk (w.cell? ⟨g, i * 4 + 3, none⟩)⟩).sum
theorem muW_own {w : World} {base g c : Nat} {L : List Lb} (h : OwnB w base (some ⟨g, 0, none⟩) c L) : muW g L.length w = muL L := by
  unfold muW muL
  congr 1
  refine List.ext_getElem (by simp) fun i h1 h2 => ?_
  have hi : i < L.length := by simpa using h1
  have hc := World.ownsRow.cells h (g := g) rfl
  obtain ⟨_, c1, c2, c3⟩ := cellsB_at L i hi
  have k1 := hc _ _ c1
  have k2 := hc _ _ c2
  have k3 := hc _ _ c3
  rw [add_pos] at k1 k2 k3
  rw [List.getElem_map, List.getElem_map, List.getElem_range, k1, k2, k3]
  rfl
def mB (g n : Nat) (v : Value) (w : World) : Nat := match v with
  | .bool true => muW g n w + 1
  | _ => 0
theorem mB_lt {g n m : Nat} {b : Bool} {w w' : World} (hm : muW g n w = m) (h : b = true → muW g n w' < m) : mB g n (.bool b) w' < mB g n (.bool true) w := by
  cases b with
  | false => show 0 < muW g n w + 1; omega
  | true =>
    have := h rfl
    show muW g n w' + 1 < muW g n w + 1
    omega
/-- Within a pass over the edges. -/
def PassB (l : List Ed) (t : Int) (L : List Lb) (i : Nat) (b : Bool) (L2 : List Lb) : Prop :=
  Lok l t L2 ∧ L2.length = L.length ∧ (b = false → L2 = L ∧ ∀ e ∈ l.take i, lessB (thrL e (findL L e.to)) (findL L e.frm) = false) ∧ (b = true → muL L2 < muL L)
/-- Within a pass over the labels, for one edge: x is offered to the label at j. -/
def Offer (L : List Lb) (x : Lb) (j k : Nat) (b : Bool) (b2 : Bool) (L2 : List Lb) : Prop :=
  (k ≤ j → L2 = L ∧ b2 = b) ∧ (j < k → (lessB x (lx L j) = true → L2 = L.set j x ∧ b2 = true) ∧ (lessB x (lx L j) = false → L2 = L ∧ b2 = b))
theorem offer_zero (L : List Lb) (x : Lb) (j : Nat) (b : Bool) : Offer L x j 0 b b L := ⟨fun _ => ⟨rfl, rfl⟩, fun h => absurd h (by omega)⟩
theorem offer_other {L L2 : List Lb} {x : Lb} {j k : Nat} {b b2 : Bool} (h : Offer L x j k b b2 L2) (hk : k ≠ j) : Offer L x j (k + 1) b b2 L2 :=
  ⟨fun h1 => h.1 (by omega), fun h1 => h.2 (by omega)⟩
theorem offer_no {L L2 : List Lb} {x : Lb} {j : Nat} {b b2 : Bool} (h : Offer L x j j b b2 L2) (hl : lessB x (lx L j) = false) : Offer L x j (j + 1) b b2 L2 :=
  ⟨fun h1 => absurd h1 (by omega), fun _ => ⟨(fun h2 => by rw [hl] at h2; cases h2), fun _ => h.1 (Nat.le_refl _)⟩⟩
theorem offer_yes {L L2 : List Lb} {x : Lb} {j : Nat} {b b2 : Bool} (h : Offer L x j j b b2 L2) (hl : lessB x (lx L j) = true) : Offer L x j (j + 1) b true (L2.set j x) :=
  ⟨fun h1 => absurd h1 (by omega), fun _ => ⟨fun _ => ⟨by rw [(h.1 (Nat.le_refl _)).1], rfl⟩, (fun h2 => by rw [hl] at h2; cases h2)⟩⟩
theorem lx_set_ne {L : List Lb} {x : Lb} {j k : Nat} (h : k ≠ j) : lx (L.set j x) k = lx L k := by
  unfold lx
  rw [List.getElem?_set_ne (fun e => h e.symm)]
theorem lx_inj {L : List Lb} (hn : (L.map Lb.node).Nodup) {j k : Nat} (hj : j < L.length) (hk : k < L.length) (h : (lx L j).node = (lx L k).node) : j = k := by
  rw [lx_at hj, lx_at hk] at h
  rcases Nat.lt_trichotomy j k with c | c | c
  · refine absurd ?_ ((List.pairwise_iff_getElem.1 hn) j k (by simpa using hj) (by simpa using hk) c)
    simpa using h
  · exact c
  · refine absurd ?_ ((List.pairwise_iff_getElem.1 hn) k j (by simpa using hk) (by simpa using hj) c)
    simpa using h.symm
/-- What stands at k, while x is offered. -/
theorem offer_at {L L2 : List Lb} {x : Lb} {j k : Nat} {b b2 : Bool} (h : Offer L x j k b b2 L2) (hn : (L.map Lb.node).Nodup) (hj : j < L.length) (hx : (lx L j).node = x.node) (hk : k < L.length) : lx L2 k = lx L k ∧ ((lx L k).node = x.node ↔ k = j) := by
  refine ⟨?_, ⟨fun he => lx_inj hn hk hj (he.trans hx.symm), fun he => by rw [he]; exact hx⟩⟩
  rcases Nat.lt_or_ge j k with c | c
  · obtain ⟨h1, h2⟩ := h.2 c
    cases hl : lessB x (lx L j) with
    | true =>
      rw [(h1 hl).1]
      exact lx_set_ne (by omega)
    | false => rw [(h2 hl).1]
  · rw [(h.1 c).1]
theorem offer_len {L L2 : List Lb} {x : Lb} {j k : Nat} {b b2 : Bool} (h : Offer L x j k b b2 L2) : L2.length = L.length := by
  rcases Nat.lt_or_ge j k with c | c
  · obtain ⟨h1, h2⟩ := h.2 c
    cases hl : lessB x (lx L j) with
    | true => rw [(h1 hl).1, List.length_set]
    | false => rw [(h2 hl).1]
  · rw [(h.1 c).1]
/-- One edge done. -/
theorem pass_edge {l : List Ed} {t : Int} {L L1 L2 : List Lb} {i j : Nat} {b b2 : Bool} (hg : Grph l) (h : PassB l t L i b L1) (hi : i < l.length) (hj : j < L1.length) (hn : (lx L1 j).node = eF l i)
    (ho : Offer L1 (thrL ⟨eI l i, eF l i, eT l i, eC l i⟩ (findL L1 (eT l i))) j L1.length b b2 L2) : PassB l t L (i + 1) b2 L2 := by
  obtain ⟨h1, h2, h3, h4⟩ := h
  have he := e_mem hi
  obtain ⟨o1, o2⟩ := ho.2 hj
  have hold : lx L1 j = findL L1 (eF l i) := by rw [← hn]; exact (find_ix hj h1.nodup).symm
  cases hl : lessB (thrL ⟨eI l i, eF l i, eT l i, eC l i⟩ (findL L1 (eT l i))) (lx L1 j) with
  | true =>
    obtain ⟨rfl, rfl⟩ := o1 hl
    refine ⟨h1.step hg he hj hn hl, by rw [List.length_set, h2], (fun h => by cases h), fun _ => ?_⟩
    have hm := muL_set (x := thrL ⟨eI l i, eF l i, eT l i, eC l i⟩ (findL L1 (eT l i))) hj (muB_step hg h1 he hj hn hl)
    cases b with
    | false =>
      rw [(h3 rfl).1] at hm ⊢
      exact hm
    | true => exact Nat.lt_trans hm (h4 rfl)
  | false =>
    obtain ⟨rfl, rfl⟩ := o2 hl
    refine ⟨h1, h2, fun hb => ?_, h4⟩
    obtain ⟨q1, q2⟩ := h3 hb
    refine ⟨q1, fun e hm => ?_⟩
    rcases (mem_takeE hi).1 hm with h5 | rfl
    · exact q2 e h5
    · rw [hold, q1] at hl
      exact hl
theorem pass_begin {l : List Ed} {t : Int} {L : List Lb} (h : Lok l t L) : PassB l t L 0 false L := ⟨h, rfl, fun _ => ⟨rfl, by simp⟩, fun h => by cases h⟩
theorem pass_stable {l : List Ed} {t : Int} {L L2 : List Lb} (h : PassB l t L l.length false L2) : Stable l L2 := by
  obtain ⟨_, _, h3, _⟩ := h
  obtain ⟨e, q⟩ := h3 rfl
  rw [List.take_length] at q
  rw [e]
  exact q
/-- The place of a node among the labels. -/
theorem lab_place {l : List Ed} {t : Int} {L : List Lb} {i : Nat} (h : Lok l t L) (hi : i < l.length) : ∃ j, j < L.length ∧ (lx L j).node = eF l i := by
  have hm : eF l i ∈ L.map Lb.node := by
    rw [h.nodes, mem_ins]
    exact .inr (mem_nodes.2 ⟨_, e_mem hi, .inl rfl⟩)
  obtain ⟨y, hy, hye⟩ := List.mem_map.1 hm
  obtain ⟨j, hj, rfl⟩ := List.mem_iff_getElem.1 hy
  exact ⟨j, hj, by rw [lx_at hj]; exact hye⟩

set_option maxRecDepth 100000 in
set_option maxHeartbeats 8000000 in
theorem labels_any (A : Option Addr) (l : List Ed) (c : Nat) (t : Int) (w : World) (hp : Es w w.heap.size A l) (hg : Grph l) :
    Calls Try.prog 46 #[.slice A l.length c, .int .i64 t] w (LabPost w l t) := by
  have hgl := hg.1
  have hNl := nodes_len l
  have k1 := Lib.hid (nodes_any A l c w hp (by omega))
  have k2 := Lib.hid (fun (W : World) (A2 : Option Addr) (c2 : Nat) (h : Rd W W.heap.size A2 c2 (cellsI (nodesL l))) => put_any A2 (nodesL l) c2 t W h (by omega))
  have hil := ins_len (n := t) (l := nodesL l)
  have hSt := Lib.hid (lok_start l t)
  have htn := Lib.hid (mem_ins.2 (.inl rfl) : t ∈ ins t (nodesL l))
  generalize ins t (nodesL l) = N at *
  generalize nodesL l = N0 at *
  have hNm : N.length ≤ 401 := by omega
  have hP := Lib.hid hp
  have hG := Lib.hid hg
  clear hp hg hil hNl
  go_enter Try.func46, Try.ntmps46
  go_wp2_with (first
    | (go_at_call 43; (with_reducible refine (k1.out).mono ?_); rintro e w1 ⟨A1, c1, rfl, h1, b1⟩; (have H1 := Lib.hid h1); (have B1 := Lib.hid b1); clear h1 b1)
    | (go_at_call 36; (with_reducible refine (k2.out _ A1 c1 ?_).mono ?_); (exact H1.out.rd); rintro e w2 ⟨A2, c2, rfl, h2, b2⟩; (have H2 := Lib.hid h2); (have B2 := Lib.hid (B1.out.trans (b2.mono B1.out.size))); clear h2 b2))
  clear k1 k2
  go_loopw [6, 7] (fun v i wr => ∃ (k : Nat) (A' : Option Addr) (c' : Nat) (o : List Lb), k ≤ N.length ∧ o.length = k ∧ i = .int .i64 k ∧ v = .slice A' o.length c' ∧ Hid (OwnB wr w2.heap.size A' c' o) ∧ Hid (Below w2.heap.size w2 wr) ∧ Hid (startL t (N.take k) = o)) (fun _ i _ => N.length - (intOf i).toNat)
  case atStart => exact ⟨0, none, 0, [], by omega, rfl, rfl, rfl, Lib.hid (ownB_nil _ _), Lib.hid (Below.refl _ _), Lib.hid rfl⟩
  case round =>
    obtain ⟨k, A', c', o, hk, hok, rfl, rfl, hO, hB, hT⟩ := hrel
    by_cases hlt : k < N.length
    · obtain ⟨ad, hA2, hab, c0⟩ := H2.out.rd.get (cellsI_ix hlt)
      subst hA2
      have hC := Lib.hid (fun (wr2 : World) (h : Below w2.heap.size w2 wr2) => (h.cell (p := ad.add k) (by rw [block_of_add]; exact hab)).trans c0)
      have x0 := hC.out wr hB.out
      have hN := Lib.hid (start_step (t := t) hlt)
      rw [hT.out] at hN
      generalize ix N k = x at *
      have hol : o.length ≤ 1000000000 := by omega
      have hOk := Lib.hid hok
      clear c0 hT hP hok hSt htn hG
      by_cases hx : x = t
      · subst hx
        rw [decide_eq_true rfl] at hN
        by_cases hk0 : k = 0
        all_goals
          first
            | (subst hk0; have x0 : wr.cell? ad = some (.int .i64 x) := x0; have hC : Hid (∀ wr2, Below w2.heap.size w2 wr2 → wr2.cell? ad = some (.int .i64 x)) := hC; clear hk)
            | skip
          go_wp2
          first
            | (go_region_held3 (fun w' => w'.cell? ad = some (.int .i64 x))
                (first
                  | exact x0
                  | exact hC.out _ D3.out
                  | exact hC.out _ (Below.drew (hB.out.alloc hB.out.size _))
                  | go_keep)
                ((refine step_app_lb (by rfl) _ _ (by rfl) ⟨x, 0, 0, true⟩ (by rfl) (by rfl) hO.out hB.out (Nat.le_refl _) hol ?_; intro gg c3 w3 h3 d3; (have H3 := Lib.hid h3); (have D3 := Lib.hid d3); clear h3 d3)))
            | (go_region_held3 (fun w' => w'.cell? (ad.add k) = some (.int .i64 x))
                (first
                  | exact x0
                  | exact hC.out _ D3.out
                  | exact hC.out _ (Below.drew (hB.out.alloc hB.out.size _))
                  | go_keep)
                ((refine step_app_lb (by rfl) _ _ (by rfl) ⟨x, 0, 0, true⟩ (by rfl) (by rfl) hO.out hB.out (Nat.le_refl _) hol ?_; intro gg c3 w3 h3 d3; (have H3 := Lib.hid h3); (have D3 := Lib.hid d3); clear h3 d3)))
          go_wp2
          first
            | exact ⟨⟨1, _, c3, _, by omega, by rw [List.length_append, hOk.out]; rfl, rfl, by rw [List.length_append]; rfl, H3, D3, hN⟩, by simp [intOf]; omega⟩
            | exact ⟨⟨k + 1, _, c3, _, by omega, by rw [List.length_append, hOk.out]; rfl, by go_num, by rw [List.length_append]; rfl, H3, D3, hN⟩, by simp [intOf]; omega⟩
      · rw [decide_eq_false hx] at hN
        have hbx := beq_eq_false_iff_ne.2 hx
        by_cases hk0 : k = 0
        all_goals
          first
            | (subst hk0; have x0 : wr.cell? ad = some (.int .i64 x) := x0; have hC : Hid (∀ wr2, Below w2.heap.size w2 wr2 → wr2.cell? ad = some (.int .i64 x)) := hC; clear hk)
            | skip
          go_wp2
          first
            | (go_region_held3 (fun w' => w'.cell? ad = some (.int .i64 x))
                (first
                  | exact x0
                  | exact hC.out _ D3.out
                  | exact hC.out _ (Below.drew (hB.out.alloc hB.out.size _))
                  | go_keep)
                ((refine step_app_lb (by rfl) _ _ (by rfl) ⟨x, 0, 0, false⟩ (by rfl) (by rfl) hO.out hB.out (Nat.le_refl _) hol ?_; intro gg c3 w3 h3 d3; (have H3 := Lib.hid h3); (have D3 := Lib.hid d3); clear h3 d3)))
            | (go_region_held3 (fun w' => w'.cell? (ad.add k) = some (.int .i64 x))
                (first
                  | exact x0
                  | exact hC.out _ D3.out
                  | exact hC.out _ (Below.drew (hB.out.alloc hB.out.size _))
                  | go_keep)
                ((refine step_app_lb (by rfl) _ _ (by rfl) ⟨x, 0, 0, false⟩ (by rfl) (by rfl) hO.out hB.out (Nat.le_refl _) hol ?_; intro gg c3 w3 h3 d3; (have H3 := Lib.hid h3); (have D3 := Lib.hid d3); clear h3 d3)))
          go_wp2
          first
            | exact ⟨⟨1, _, c3, _, by omega, by rw [List.length_append, hOk.out]; rfl, rfl, by rw [List.length_append]; rfl, H3, D3, hN⟩, by simp [intOf]; omega⟩
            | exact ⟨⟨k + 1, _, c3, _, by omega, by rw [List.length_append, hOk.out]; rfl, by go_num, by rw [List.length_append]; rfl, H3, D3, hN⟩, by simp [intOf]; omega⟩
    · obtain rfl : k = N.length := by omega
      have hL : Hid (Lok l t o) := Lib.hid (by have := hT.out; rw [List.take_length] at this; rw [← this]; exact hSt.out)
      have hol2 := start_len t N
      have hol3 : o.length = N.length := by have := hT.out; rw [List.take_length] at this; rw [← this, hol2]
      have hN0 : 0 < N.length := by have := htn.out; rcases N with _ | _ <;> simp at *
      clear hol2 hT hSt htn
      obtain ⟨g, hA, hg1, hg2⟩ := own_addr hO.out (by omega)
      obtain ⟨ra, hra⟩ : ∃ ra : Addr, ra = ⟨g, 0, none⟩ := ⟨_, rfl⟩
      rw [← hra] at hA
      subst hA
      have hRA := Lib.hid hra
      clear hra hok hg2
      obtain ⟨w0, rfl⟩ : ∃ w0, w0 = wr := ⟨wr, rfl⟩
      obtain ⟨n, hn⟩ : ∃ n, o.length = n := ⟨_, rfl⟩
      rw [hn]
      have hNn := Lib.hid hn
      have hn4 : n ≤ 401 := by omega
      clear hlt hk
      go_wp2
      go_loopw [8] (fun v wr => ∃ (b : Bool) (L : List Lb), v = .bool b ∧ L.length = n ∧ Hid (OwnB wr w2.heap.size (some ra) c' L) ∧ Hid (Below w2.heap.size w2 wr) ∧ Hid (Lok l t L) ∧ Hid (b = false → Stable l L)) (fun v wr => mB g n v wr)
      case atStart => exact ⟨true, o, rfl, hn, hO, hB, hL, Lib.hid (fun h => by cases h)⟩
      case round =>
        obtain ⟨b, L, rfl, hLn, hO1, hB1, hL1, hS1⟩ := hrel
        clear hO hB hL
        cases b with
        | true =>
          have hmu := Lib.hid (muW_own (by rw [← hRA.out]; exact hO1.out))
          have hLn2 := Lib.hid hLn
          obtain ⟨w3, rfl⟩ : ∃ w3, w3 = wr := ⟨wr, rfl⟩
          clear hS1 hLn
          go_wp2
          go_loopw [8, 9] (fun v i wr => ∃ (i' : Nat) (b : Bool) (L2 : List Lb), i' ≤ l.length ∧ i = .int .i64 i' ∧ v = .bool b ∧ L2.length = n ∧ Hid (OwnB wr w2.heap.size (some ra) c' L2) ∧ Hid (Below w2.heap.size w2 wr) ∧ Hid (PassB l t L i' b L2)) (fun _ i _ => l.length - (intOf i).toNat)
          case atStart => exact ⟨0, false, L, by omega, rfl, rfl, hLn2.out, hO1, hB1, Lib.hid (pass_begin hL1.out)⟩
          case round =>
            obtain ⟨i, b, L1, hi, rfl, rfl, hL1n, hO2, hB2, hT⟩ := hrel
            clear hO1 hB1 hL1
            by_cases hlt : i < l.length
            · obtain ⟨ad, rfl, hab, c0⟩ := hP.out.get hlt
              have hC := Lib.hid (fun (wr2 : World) (h : Below w.heap.size w wr2) => c0.keep (by rw [block_of_add]; exact hab) (fun q hq => h.cell hq))
              have hBw := Lib.hid (B2.out.trans (hB2.out.mono B2.out.size))
              obtain ⟨x0, x1, x2, x3⟩ := hC.out wr hBw.out
              have hLok := Lib.hid hT.out.1
              obtain ⟨j, hj, hjn⟩ := lab_place hLok.out hlt
              have hbd := hLok.out.bound hG.out (eT l i)
              have hrg := (hG.out.2.1 _ (e_mem hlt)).2.2.2.2
              have kF := fun (W : World) (h : Ls W W.heap.size (some ra) L1) => find_any (some ra) L1 c' (eT l i) W h (by omega)
              have kT := fun (W : World) => through_any ⟨eI l i, eF l i, eT l i, eC l i⟩ (findL L1 (eT l i)) W hbd.1 (by omega) hrg.1 hrg.2 hbd.2.2.1 (by omega)
              have hPE := Lib.hid (fun (b2 : Bool) (L2 : List Lb) => pass_edge (b2 := b2) (L2 := L2) hG.out hT.out hlt hj hjn)
              rw [hL1n] at kF
              simp only at kT
              obtain ⟨x, hx⟩ : ∃ x, thrL ⟨eI l i, eF l i, eT l i, eC l i⟩ (findL L1 (eT l i)) = x := ⟨_, rfl⟩
              rw [hx] at kT hPE
              have hxn : eF l i = x.node := by rw [← hx]; rfl
              have hFr := Lib.hid hjn
              clear hx hT hbd hrg c0 hjn
              generalize lbV (findL L1 (eT l i)) = vf at *
              generalize eI l i = y0 at *
              generalize eF l i = y1 at *
              generalize eT l i = y2 at *
              generalize eC l i = y3 at *
              subst hxn
              obtain ⟨xn, xc, xe, xo⟩ := x
              unfold lbV at kT
              simp only at kT hPE hFr x1
              have KF := Lib.hid kF
              have KT := Lib.hid kT
              clear kF kT hP
              go_upto_region 13 with fail
              go_cut [10] from 37 to 80 (fun s wx => ∃ bx : Addr, s = .pointer (some bx) ∧ At4 wx bx (.int .i64 xn) (.int .i64 xc) (.int .i64 xe) (.bool xo) ∧ bx.spot = none ∧ wr.heap.size ≤ bx.block ∧ bx.block < wx.heap.size ∧ Below wr.heap.size wr wx)
              case first =>
                go_region_held3 (fun w' => w'.cell? (ad.add (i * 4)) = some (.int .i64 y0) ∧ w'.cell? { block := (ad.add (i * 4)).block, off := (ad.add (i * 4)).off + 1 } = some (.int .i64 xn) ∧ w'.cell? { block := (ad.add (i * 4)).block, off := (ad.add (i * 4)).off + 2 } = some (.int .i64 y2) ∧ w'.cell? { block := (ad.add (i * 4)).block, off := (ad.add (i * 4)).off + 3 } = some (.int .i64 y3))
                  (first
                    | exact ⟨x0, x1, x2, x3⟩
                    | exact hC.out _ E5.out
                    | exact hC.out _ E4.out
                    | exact hC.out _ (E5.out.alloc E5.out.size _)
                    | exact hC.out _ (Below.drew (E5.out.alloc E5.out.size _))
                    | exact hC.out _ (E4.out.alloc E4.out.size _)
                    | exact hC.out _ (hBw.out.alloc hBw.out.size _)
                    | exact hC.out _ (Below.drew (hBw.out.alloc hBw.out.size _))
                    | exact hC.out _ (Below.drew hBw.out)
                    | exact hC.out _ (set4 E5.out E4.out.size _ _ _ _)
                    | exact hC.out _ (set4 E5.out hBw.out.size _ _ _ _)
                    | go_keep)
                  (first
                    | (go_at_call 47; (with_reducible refine (KF.out _ ?_).mono ?_); (exact hO2.out.ls.up (Below.drew (Below.refl _ _))); rintro e w4 ⟨rfl, b4⟩; (have D4 : Hid (Below wr.heap.size wr w4) := Lib.hid ((Below.drew (Below.refl wr.heap.size wr)).trans b4)); (have E4 := Lib.hid (hBw.out.trans (D4.out.mono hBw.out.size))); clear b4)
                    | (go_at_call 47; (with_reducible refine (KF.out _ ?_).mono ?_); (exact hO2.out.ls.up (Below.drew ((Below.refl _ _).alloc (Nat.le_refl _) _))); rintro e w4 ⟨rfl, b4⟩; (have D4 : Hid (Below wr.heap.size wr w4) := Lib.hid ((Below.drew ((Below.refl wr.heap.size wr).alloc (Nat.le_refl _) _)).trans (b4.mono (by show _ ≤ (wr.alloc _).heap.size; simp)))); (have E4 := Lib.hid (hBw.out.trans (D4.out.mono hBw.out.size))); (obtain ⟨z0, z1, z2, z3⟩ := box_four (w := wr) (w1 := w4) (below_undrew b4)); (have zf := box_frozen (w := wr) (w1 := w4) (below_undrew b4)); clear b4)
                    | (go_at_call 48; (with_reducible refine (KT.out _).mono ?_); rintro e w5 ⟨rfl, b5⟩; (have D5 : Hid (Below wr.heap.size wr w5) := Lib.hid (D4.out.trans (b5.mono D4.out.size))); (have E5 := Lib.hid (hBw.out.trans (D5.out.mono hBw.out.size))); (try ((replace zf := fun j => (b5.frozen (p := ⟨wr.heap.size, j, none⟩) (show wr.heap.size < w4.heap.size from cell_lt z0)).trans (zf j)); (replace z0 := (b5.cell (cell_lt z0)).trans z0); (replace z1 := (b5.cell (cell_lt z1)).trans z1); (replace z2 := (b5.cell (cell_lt z2)).trans z2); (replace z3 := (b5.cell (cell_lt z3)).trans z3))); clear b5)
                    | (go_at_call 48; (with_reducible refine (KT.out _).mono ?_); rintro e w5 ⟨rfl, b5⟩; (have D5 : Hid (Below wr.heap.size wr w5) := Lib.hid ((D4.out.alloc D4.out.size _).trans (b5.mono (Nat.le_trans D4.out.size (by simp))))); (have E5 := Lib.hid (hBw.out.trans (D5.out.mono hBw.out.size))); (obtain ⟨z0, z1, z2, z3⟩ := box_four (w := w4) (w1 := w5) b5); (have zf := box_frozen (w := w4) (w1 := w5) b5); clear b5))
                all_goals
                  go_wp2_with fail
                  go_meet
                  first
                    | exact ⟨_, rfl, box_four (Below.refl (w5.alloc (.cells #[.int .i64 xn, .int .i64 xc, .int .i64 xe, .bool xo] 74)).heap.size _), rfl, D5.out.size, by simp, D5.out.alloc D5.out.size _⟩
                    | exact ⟨_, rfl, set4_at z0 z1 z2 z3 _ _ _ _, rfl, D4.out.size, Nat.lt_of_lt_of_le (cell_lt z0) (set4 (B := 0) (Below.refl 0 w5) (Nat.zero_le _) _ _ _ _).size, set4 D5.out D4.out.size _ _ _ _⟩
                    | exact ⟨_, rfl, set4_at z0 z1 z2 z3 _ _ _ _, rfl, Nat.le_refl _, Nat.lt_of_lt_of_le (cell_lt z0) (set4 (B := 0) (Below.refl 0 w5) (Nat.zero_le _) _ _ _ _).size, set4 D5.out (Nat.le_refl _) _ _ _ _⟩
              case rest =>
                obtain ⟨bx, rfl, hx4, hsp, hbx1, hbx2, hb6⟩ := hcut
                obtain ⟨w6, rfl⟩ : ∃ w6, w6 = wc := ⟨wc, rfl⟩
                have hO6 := Lib.hid (hO2.out.up hb6)
                have hB6 := Lib.hid (hB2.out.trans (hb6.mono hB2.out.size))
                have hX6 := Lib.hid hx4
                have hgb : Hid (¬ g = bx.block) := Lib.hid (by
                  have h1 := hRA.out
                  subst h1
                  have := own_addr hO2.out (by omega)
                  obtain ⟨g2, e2, _, h2⟩ := this
                  injection e2 with e2
                  injection e2 with e2
                  omega)
                have hnd := Lib.hid hLok.out.nodup
                clear hx4 hbx1 hbx2 hb6 hO2 hB2 hLok KF KT x0 x1 x2 x3
                go_wp2
                go_loopw [8, 11] (fun v i wr => ∃ (k : Nat) (b2 : Bool) (L2 : List Lb), k ≤ n ∧ i = .int .i64 k ∧ v = .bool b2 ∧ Hid (OwnB wr w2.heap.size (some ra) c' L2) ∧ Hid (Below w2.heap.size w2 wr) ∧ Hid (At4 wr bx (.int .i64 xn) (.int .i64 xc) (.int .i64 xe) (.bool xo)) ∧ Hid (Offer L1 ⟨xn, xc, xe, xo⟩ j k b b2 L2)) (fun _ i _ => n - (intOf i).toNat)
                case atStart => exact ⟨0, b, L1, by omega, rfl, rfl, hO6, hB6, hX6, Lib.hid (offer_zero _ _ _ _)⟩
                case round =>
                  obtain ⟨k, b2, L2, hk, rfl, rfl, hO7, hB7, hX7, hF⟩ := hrel
                  clear hO6 hB6 hX6
                  by_cases hkn : k < n
                  · have hl2 := offer_len hF.out
                    obtain ⟨h1, h2⟩ := offer_at hF.out hnd.out hj hFr.out (show k < L1.length by omega)
                    obtain ⟨ra', hra', _, t0, t1, t2, t3⟩ := hO7.out.ls.get (k := k) (by omega)
                    obtain rfl : ra = ra' := Option.some.inj hra'
                    clear hra'
                    rw [h1] at t0 t1 t2 t3
                    obtain ⟨s0, s1, s2, s3⟩ := hX7.out
                    by_cases hkj : k = j
                    · have hye := Lib.hid (fun (h : lessB ⟨xn, xc, xe, xo⟩ (lx L1 j) = true) => offer_yes (hkj ▸ hF.out) h)
                      have hno := Lib.hid (fun (h : lessB ⟨xn, xc, xe, xo⟩ (lx L1 j) = false) => offer_no (hkj ▸ hF.out) h)
                      have hzn : (lx L1 k).node = xn := h2.2 hkj
                      have hzl : lx L1 k = lx L1 j := by rw [hkj]
                      have kL := fun (W : World) => less_any ⟨xn, xc, xe, xo⟩ (lx L1 j) W
                      rw [hzl] at t0 t1 t2 t3 hzn
                      have hlk : k < L2.length := by omega
                      have hl1 := Lib.hid hl2
                      generalize lx L1 j = z at *
                      obtain ⟨zn, zc, ze, zo⟩ := z
                      simp only at hzn t0 t1 t2 t3
                      subst hzn
                      unfold lbV at kL
                      simp only at kL
                      have hK := Lib.hid hkj
                      have hS0 := Lib.hid (show 0 < n by omega)
                      clear h1 h2 hzl hPE hC hF hkj hnd hFr
                      go_upto_region 17 with fail
                      go_cut [76] from 55 to 80 (fun s wx => s = .bool (lessB ⟨zn, xc, xe, xo⟩ ⟨zn, zc, ze, zo⟩) ∧ Below wr.heap.size wr wx)
                      case first =>
                        have KL := Lib.hid kL
                        have hC2 := Lib.hid (fun (wr2 : World) (h : Below wr.heap.size wr wr2) => (show (wr2.cell? bx = some (.int .i64 zn) ∧ wr2.cell? { block := bx.block, off := bx.off + 1 } = some (.int .i64 xc) ∧ wr2.cell? { block := bx.block, off := bx.off + 2 } = some (.int .i64 xe) ∧ wr2.cell? { block := bx.block, off := bx.off + 3 } = some (.bool xo)) ∧ wr2.cell? (ra.add (k * 4)) = some (.int .i64 zn) ∧ wr2.cell? { block := (ra.add (k * 4)).block, off := (ra.add (k * 4)).off + 1 } = some (.int .i64 zc) ∧ wr2.cell? { block := (ra.add (k * 4)).block, off := (ra.add (k * 4)).off + 2 } = some (.int .i64 ze) ∧ wr2.cell? { block := (ra.add (k * 4)).block, off := (ra.add (k * 4)).off + 3 } = some (.bool zo) from
                          ⟨At4.keep ⟨s0, s1, s2, s3⟩ (cell_lt s0) (fun q hq => h.cell hq), At4.keep ⟨t0, t1, t2, t3⟩ (cell_lt t0) (fun q hq => h.cell hq)⟩))
                        clear kL
                        go_region_held3 (fun w' => (w'.cell? bx = some (.int .i64 zn) ∧ w'.cell? { block := bx.block, off := bx.off + 1 } = some (.int .i64 xc) ∧ w'.cell? { block := bx.block, off := bx.off + 2 } = some (.int .i64 xe) ∧ w'.cell? { block := bx.block, off := bx.off + 3 } = some (.bool xo)) ∧ w'.cell? (ra.add (k * 4)) = some (.int .i64 zn) ∧ w'.cell? { block := (ra.add (k * 4)).block, off := (ra.add (k * 4)).off + 1 } = some (.int .i64 zc) ∧ w'.cell? { block := (ra.add (k * 4)).block, off := (ra.add (k * 4)).off + 2 } = some (.int .i64 ze) ∧ w'.cell? { block := (ra.add (k * 4)).block, off := (ra.add (k * 4)).off + 3 } = some (.bool zo))
                          (first
                            | exact ⟨⟨s0, s1, s2, s3⟩, t0, t1, t2, t3⟩
                            | exact hC2.out _ D9.out
                            | exact hC2.out _ (Below.drew (Below.refl _ _))
                            | go_keep)
                          (first
                            | (go_at_call 62; (with_reducible refine (KL.out _).mono ?_); rintro e w9 ⟨rfl, b9⟩; (have D9 : Hid (Below wr.heap.size wr w9) := Lib.hid ((Below.drew (Below.refl wr.heap.size wr)).trans b9)); clear b9))
                        all_goals
                          go_wp2_with fail
                          go_meet
                          exact ⟨rfl, D9.out⟩
                      case rest =>
                        obtain ⟨rfl, hb9⟩ := hcut
                        obtain ⟨w9, rfl⟩ : ∃ w9, w9 = wc := ⟨wc, rfl⟩
                        have hO9 := Lib.hid (hO7.out.up hb9)
                        have hB9 := Lib.hid (hB7.out.trans (hb9.mono hB7.out.size))
                        have hX9 := Lib.hid (At4.keep hX7.out (cell_lt s0) (fun q hq => hb9.cell hq))
                        have hT9 := At4.keep ⟨t0, t1, t2, t3⟩ (cell_lt t0) (fun q hq => hb9.cell hq)
                        clear s0 s1 s2 s3 t0 t1 t2 t3 kL hb9 hO7 hB7 hX7
                        rcases hlb : lessB ⟨zn, xc, xe, xo⟩ ⟨zn, zc, ze, zo⟩ with _ | _
                        · have hF2 : Hid (Offer L1 ⟨zn, xc, xe, xo⟩ j (k + 1) b b2 L2) := Lib.hid (by rw [hK.out]; exact hno.out hlb)
                          clear hT9 hye hno hlb
                          go_wp2
                          exact ⟨⟨k + 1, b2, L2, by omega, by go_num, rfl, hO9, hB9, hX9, hF2⟩, by simp [intOf]; omega⟩
                        · have hF2 : Hid (Offer L1 ⟨zn, xc, xe, xo⟩ j (k + 1) b true (L2.set k ⟨zn, xc, xe, xo⟩)) := Lib.hid (by rw [hK.out]; exact hye.out hlb)
                          have hra := hRA.out
                          have hO10 : Hid (OwnB (put4 w9 g (k * 4) ⟨zn, xc, xe, xo⟩) w2.heap.size (some ra) c' (L2.set k ⟨zn, xc, xe, xo⟩)) := Lib.hid (by
                            have h := hO9.out
                            rw [hra] at h ⊢
                            exact own_store h hlk)
                          have hB10 := Lib.hid (below_put4 hB9.out hg1 (k * 4) ⟨zn, xc, xe, xo⟩)
                          have hX10 := Lib.hid (put4_keep (o := k * 4) (x := ⟨zn, xc, xe, xo⟩) hX9.out hgb.out)
                          have hpa : ra.add (k * 4) = ⟨g, k * 4, none⟩ := by rw [hra, add_pos]
                          rw [hpa] at hT9
                          obtain ⟨t0, t1, t2, t3⟩ := hT9
                          have f0 : ∀ o, w9.frozen? ⟨g, o, none⟩ = false := fun o => by
                            have h := hO9.out
                            rw [hra] at h
                            exact World.ownsRow.frozenAt h o
                          obtain ⟨s0, s1, s2, s3⟩ := hX9.out
                          clear hye hno hlb hra
                          go_wp2
                          exact ⟨⟨k + 1, true, _, by omega, by go_num, rfl, hO10, hB10, hX10, hF2⟩, by simp [intOf]; omega⟩
                    · have hne : ¬ (lx L1 k).node = xn := fun e => hkj (h2.1 e)
                      have hF2 := Lib.hid (offer_other hF.out hkj)
                      generalize lx L1 k = z at *
                      have hd := decide_eq_false hne
                      have hbq := beq_eq_false_iff_ne.2 hne
                      clear hF h1 h2 hPE hC
                      go_wp2
                      go_quiet (fail)
                      go_wp2
                      exact ⟨⟨k + 1, b2, L2, by omega, by go_num, rfl, hO7, Lib.hid (below_drewN hB7.out _), hX7, hF2⟩, by simp [intOf]; omega⟩
                  · have hN := Lib.hid (hPE.out b2 L2 (by rw [hL1n, show n = k by omega]; exact hF.out))
                    have hl2 : L2.length = n := by rw [offer_len hF.out, hL1n]
                    clear hF hPE hC
                    go_wp2
                    exact ⟨⟨i + 1, b2, L2, by omega, by go_num, rfl, hl2, hO7, hB7, hN⟩, by simp [intOf]; omega⟩
            · obtain rfl : i = l.length := by omega
              have hR := Lib.hid hT.out.1
              have hS : Hid (b = false → Stable l L1) := Lib.hid (fun h => pass_stable (h ▸ hT.out))
              have hM : Hid (mB g n (.bool b) wr < mB g n (.bool true) w3) := Lib.hid (mB_lt (m := muL L) (by rw [← hLn2.out]; exact hmu.out) (fun h => by
                have h1 := muW_own (c := c') (L := L1) (base := w2.heap.size) (w := wr) (g := g) (by rw [← hRA.out]; exact hO2.out)
                rw [hL1n] at h1
                rw [h1]
                exact hT.out.2.2.2 h))
              clear hT hP hmu
              go_wp2
              exact ⟨⟨b, L1, rfl, hL1n, hO2, hB2, hR, hS⟩, hM.out⟩
        | false =>
          have hE : Hid (LabPost w l t (.returned (.slice (some ra) L.length c')) wr) := Lib.hid ⟨some ra, c', L, rfl, hO1.out.less B2.out.size, hL1.out, hS1.out rfl, B2.out.trans (hB1.out.mono B2.out.size)⟩
          clear hL1 hS1 hP
          go_wp2
          go_ret
          rw [hLn] at hE
          exact hE.out
end Go.Proofs.Ytlaklfiodmnocaa
