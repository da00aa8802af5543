/- The package's Without. -/
import Derived.Test.YtdemnbbofigcdaaClone
import Derived.Test.YtdemnbbofigcdaaCmp
import Derived.Test.YtdemnbbofigcdaaBoxes
import Derived.Test.YtdemnbbofigcdaaInsL
namespace Go.Proofs.Ytdemnbbofigcdaa
open Go.RowKit

/-! ### clear -/
theorem zero_one {z : Array Value} (h : ∀ v ∈ z.toList, v.oneCell' = true) (hz : 0 < z.size) (n : Nat) : ∀ v ∈ (Builtin.zeroCells z n).toList, v.oneCell' = true := fun v hv => by
  unfold Builtin.zeroCells at hv
  rw [Array.toList_map, List.mem_map] at hv
  obtain ⟨i, _, rfl⟩ := hv
  have hlt : i % z.size < z.size := Nat.mod_lt _ hz
  rw [getElem!_pos z _ hlt]
  exact h _ (by simp)
theorem run_clear_row {P : Program} (w : World) (t ty e : TypeId) (i : TypeInfo) (z : Value) (ht : P.underlying t = some (.slice e)) (hi : P.info? e = some i) (hz : i.zero = some z) (hzs : 0 < z.cells.size) (hz1 : ∀ v ∈ z.cells.toList, v.oneCell' = true)
    (g o n cap : Nat) (cur : Array Value) (te : TypeId) (hg : w.heap[g]? = some (.cells cur te (0, 0))) (hn : 0 < n) (hfit : o + n * z.cells.size ≤ cur.size) :
    (Builtin.clear_ #[t] ty #[.slice (some ⟨g, o, none⟩) n cap]).run P w = .ok (.tuple #[]) (w.setRow g (cur.toList.take o ++ (Builtin.zeroCells z.cells n).toList ++ cur.toList.drop (o + n * z.cells.size)).toArray) := by
  obtain ⟨m, rfl⟩ : ∃ m, n = m + 1 := ⟨n - 1, by omega⟩
  have hl : (Builtin.zeroCells z.cells (m + 1)).toList.length = (m + 1) * z.cells.size := by rw [Array.length_toList, size_zeroCells]
  have hst := run_storeCells_at P g o te (Builtin.zeroCells z.cells (m + 1)).toList 0 cur w hg (by rw [hl]; simpa using hfit) (zero_one hz1 hzs _)
  rw [hl] at hst
  simp only [Nat.add_zero] at hst
  simp [Builtin.clear_, run_underlying ht, zeroValue, typeInfo, hi, hz, hst]
theorem wpList_clear_row {P : Program} {w : World} {ops : Array Oper} {rest : List Oper} {op : Oper} {a : Act} {Q : Exit → Act → World → Prop} (hgd : op.guard = none) (x : Operand) (t : TypeId)
    (ho : op.op = .call { callee := .builtin .clear, args := #[x], argTypes := #[t] }) (e : TypeId) (i : TypeInfo) (z : Value) (ht : P.underlying t = some (.slice e)) (hi : P.info? e = some i) (hz : i.zero = some z) (hzs : 0 < z.cells.size) (hz1 : ∀ v ∈ z.cells.toList, v.oneCell' = true)
    (g o n cap : Nat) (cur : Array Value) (te : TypeId) (hx : a.eval x = .slice (some ⟨g, o, none⟩) n cap) (hg : w.heap[g]? = some (.cells cur te (0, 0))) (hn : 0 < n) (hfit : o + n * z.cells.size ≤ cur.size)
    (h : ∀ w' cur', w'.heap[g]? = some (.cells cur' te (0, 0)) → cur'.size = cur.size → cur'.toList.take o = cur.toList.take o → w.grownBy w' (some g) → w'.heap.size = w.heap.size → wpList P ops Q rest (a.put op.dst (.tuple #[])) w') : wpList P ops Q (op :: rest) a w := by
  refine wpList_plain hgd fun K hK => ?_
  have hrun := run_clear_row (P := P) w t op.type e i z ht hi hz hzs hz1 g o n cap cur te hg hn hfit
  unfold Oper.wp
  simp [execOp, ho, resolve, invoke, builtin, hx, hrun, Result.andThen]
  have hl : (Builtin.zeroCells z.cells n).toList.length = n * z.cells.size := by rw [Array.length_toList, size_zeroCells]
  have ht1 : (cur.toList.take o).length = o := by rw [List.length_take, Array.length_toList]; omega
  refine hK _ _ (h _ (cur.toList.take o ++ (Builtin.zeroCells z.cells n).toList ++ cur.toList.drop (o + n * z.cells.size)).toArray ?_ ?_ ?_ ?_ ?_)
  · have := setRow_heap w g cur (cur.toList.take o ++ (Builtin.zeroCells z.cells n).toList ++ cur.toList.drop (o + n * z.cells.size)).toArray te (0, 0) hg
    simpa using this
  · rw [List.size_toArray, List.length_append, List.length_append, ht1, hl, List.length_drop, Array.length_toList]
    omega
  · rw [List.toList_toArray, List.append_assoc, List.take_append_of_le_length (by omega), List.take_of_length_le (by omega)]
  · have := grown_setRow w (g := g) (cur.toList.take o ++ (Builtin.zeroCells z.cells n).toList ++ cur.toList.drop (o + n * z.cells.size)).toArray
    simpa using this
  · simp

/-! ### The edges, one of them changed -/
theorem cellsE_set : ∀ {L : List Ed} {k : Nat} {x : Ed}, k < L.length → ((((cellsE L).set (k * 4) (.int .i64 x.id)).set (k * 4 + 1) (.int .i64 x.frm)).set (k * 4 + 2) (.int .i64 x.to)).set (k * 4 + 3) (.int .i64 x.cost) = cellsE (L.set k x)
  | [], _, _, h => absurd h (by simp)
  | y :: L, 0, x, _ => rfl
  | y :: L, k + 1, x, h => by
    have := cellsE_set (L := L) (k := k) (x := x) (by simpa using h)
    rw [List.set_cons_succ, cellsE, cellsE, ← this, show (k + 1) * 4 = k * 4 + 1 + 1 + 1 + 1 by omega]
    rfl
def putE (w : World) (g o : Nat) (x : Ed) : World := (((w.setCell ⟨g, o, none⟩ (.int .i64 x.id)).setCell ⟨g, o + 1, none⟩ (.int .i64 x.frm)).setCell ⟨g, o + 2, none⟩ (.int .i64 x.to)).setCell ⟨g, o + 3, none⟩ (.int .i64 x.cost)
theorem own_storeE {w : World} {base c k g : Nat} {L : List Ed} {x : Ed} (h : OwnE w base (some ⟨g, 0, none⟩) c L) (hk : k < L.length) : OwnE (putE w g (k * 4) x) base (some ⟨g, 0, none⟩) c (L.set k x) := by
  unfold OwnE at h ⊢
  rw [← cellsE_set hk, List.length_set]
  exact ((((World.ownsRow.stored h (k * 4) (.int .i64 x.id)).1.stored (k * 4 + 1) (.int .i64 x.frm)).1.stored (k * 4 + 2) (.int .i64 x.to)).1.stored (k * 4 + 3) (.int .i64 x.cost)).1
theorem below_putE {B g : Nat} {a w : World} (h : Below B a w) (hg : B ≤ g) (o : Nat) (x : Ed) : Below B a (putE w g o x) :=
  Below.setCell (Below.setCell (Below.setCell (Below.setCell h (p := ⟨g, o, none⟩) hg _) (p := ⟨g, o + 1, none⟩) hg _) (p := ⟨g, o + 2, none⟩) hg _) (p := ⟨g, o + 3, none⟩) hg _
theorem ownE_head {w : World} {base c : Nat} {A : Option Addr} {L : List Ed} (h : OwnE w base A c L) (hl : 0 < L.length) : ∃ g, A = some ⟨g, 0, none⟩ ∧ base ≤ g ∧ g < w.heap.size := own_addr h hl

/-! ### The closure -/
set_option maxRecDepth 100000 in
set_option maxHeartbeats 1000000 in
theorem del_any (e : Ed) (gb : Nat) (B : Option Addr) (f : List Int) (d : Nat) (w : World) (hb : w.cell? ⟨gb, 0, none⟩ = some (.slice B f.length d)) (hf : Rd w w.heap.size B d (cellsI f)) (hm : f.length ≤ 1000000) :
    Calls Try.prog 44 #[.agg #[.int .i64 e.id, .int .i64 e.frm, .int .i64 e.to, .int .i64 e.cost], .pointer (some ⟨gb, 0, none⟩)] w fun r w' => r = .returned (.bool (hasB f e.id)) ∧ Below w.heap.size w w' := by
  obtain ⟨e0, e1, e2, e3⟩ := e
  simp only
  have b1 := (Below.refl w.heap.size w).alloc (Nat.le_refl _) (.cells #[.int .i64 e0, .int .i64 e1, .int .i64 e2, .int .i64 e3] 33)
  have k1 := Lib.hid (contains_any B f d e0 (w.alloc (.cells #[.int .i64 e0, .int .i64 e1, .int .i64 e2, .int .i64 e3] 33)) (hf.up b1) (by omega))
  have hb2 := (b1.cell (p := ⟨gb, 0, none⟩) (World.block_lt_of_cell? _ _ hb)).trans hb
  have B1 := Lib.hid b1
  clear hb hf b1
  go_enter Try.func44, Try.ntmps44
  go_wp2_with (go_at_call 35; (with_reducible refine (k1.out).mono ?_); rintro e wq ⟨rfl, rfl⟩)
  go_ret
  exact ⟨rfl, B1.out⟩

/-- The first edge that is taken out, or -1. -/
def IdxPost (l : List Ed) (f : List Int) (W : World) (r : Ending) (w' : World) : Prop :=
  ∃ z : Int, r = .returned (.int .i64 z) ∧ Below W.heap.size W w' ∧ ((∃ k : Nat, z = k ∧ k < l.length ∧ (∀ i, i < k → eI l i ∉ f) ∧ eI l k ∈ f) ∨ (z = -1 ∧ ∀ i, i < l.length → eI l i ∉ f))
set_option maxRecDepth 100000 in
set_option maxHeartbeats 2000000 in
theorem idx_any (A B : Option Addr) (l : List Ed) (f : List Int) (c d gb : Nat) (w : World) (hp : Es w w.heap.size A l) (hb : w.cell? ⟨gb, 0, none⟩ = some (.slice B f.length d)) (hf : Rd w w.heap.size B d (cellsI f)) (hm : f.length ≤ 1000000) (hl : l.length ≤ 1000000) :
    Calls Try.prog 53 #[.slice A l.length c, .func (.func 44) #[] #[.pointer (some ⟨gb, 0, none⟩)]] w (IdxPost l f w) := by
  have hP := Lib.hid hp
  have kd := Lib.hid (fun (e : Ed) (W : World) (b : Below w.heap.size w W) => del_any e gb B f d W ((b.cell (p := ⟨gb, 0, none⟩) (World.block_lt_of_cell? _ _ hb)).trans hb) (hf.up b) hm)
  have hyes : Hid (∀ (k : Nat) (W : World), Below w.heap.size w W → k < l.length → (∀ i, i < k → eI l i ∉ f) → eI l k ∈ f → IdxPost l f w (.returned (.int .i64 (k : Int))) W) := Lib.hid (fun k W b h1 h2 h3 => ⟨_, rfl, b, .inl ⟨k, rfl, h1, h2, h3⟩⟩)
  have hno : Hid (∀ (W : World), Below w.heap.size w W → (∀ i, i < l.length → eI l i ∉ f) → IdxPost l f w (.returned (.int .i64 (-1))) W) := Lib.hid (fun W b h1 => ⟨_, rfl, b, .inr ⟨rfl, h1⟩⟩)
  obtain ⟨goal, hgo⟩ : ∃ goal, IdxPost l f w = goal := ⟨_, rfl⟩
  rw [hgo] at hyes hno ⊢
  clear hp hb hf hgo
  go_enter Try.func53, Try.ntmps53
  go_wp2
  go_loopw [8] (fun i wr => ∃ k : Nat, k ≤ l.length ∧ i = .int .i64 k ∧ Hid (Below w.heap.size w wr) ∧ Hid (∀ i, i < k → eI l i ∉ f)) (fun i _ => l.length - (intOf i).toNat)
  case atStart => exact ⟨0, by omega, rfl, Lib.hid (Below.refl _ _), Lib.hid (by omega)⟩
  case round =>
    obtain ⟨k, hk, rfl, hB, hN⟩ := hrel
    by_cases hlt : k < l.length
    · obtain ⟨ad, rfl, hab, x0, x1, x2, x3⟩ := (hP.out.below hB.out).get hlt
      have k1 := kd.out ⟨eI l k, eF l k, eT l k, eC l k⟩ wr hB.out
      simp only at k1
      by_cases hmem : eI l k ∈ f
      · have hR := Lib.hid (fun (W : World) (hW : Below w.heap.size w W) => hyes.out k W hW hlt hN.out hmem)
        rw [hasB_true hmem] at k1
        generalize eI l k = y0 at *
        generalize eF l k = y1 at *
        generalize eT l k = y2 at *
        generalize eC l k = y3 at *
        have K1 := Lib.hid k1
        clear k1 hmem hN hP kd hyes hno
        go_wp2_with (go_at_call 44; (with_reducible refine (K1.out).mono ?_); rintro e w2 ⟨rfl, b2⟩; (have B2 := Lib.hid (hB.out.trans (b2.mono hB.out.size))); clear b2)
        exact hR.out _ B2.out
      · have hR : Hid (∀ i, i < k + 1 → eI l i ∉ f) := Lib.hid (fun i hi => by
          rcases Nat.lt_or_ge i k with h1 | h1
          · exact hN.out i h1
          · obtain rfl : i = k := by omega
            exact hmem)
        rw [hasB_false hmem] at k1
        generalize eI l k = y0 at *
        generalize eF l k = y1 at *
        generalize eT l k = y2 at *
        generalize eC l k = y3 at *
        have K1 := Lib.hid k1
        clear k1 hmem hN hP kd hyes hno
        go_wp2_with (go_at_call 44; (with_reducible refine (K1.out).mono ?_); rintro e w2 ⟨rfl, b2⟩; (have B2 := Lib.hid (hB.out.trans (b2.mono hB.out.size))); clear b2)
        exact ⟨⟨k + 1, by omega, by go_num, B2, hR⟩, by simp [intOf]; omega⟩
    · obtain rfl : k = l.length := by omega
      have hR := Lib.hid (hno.out wr hB.out hN.out)
      clear hN hP kd hyes hno
      go_wp2
      exact hR.out

/-! ### DeleteFunc -/
theorem wo_all {l : List Ed} {f : List Int} (h : ∀ i, i < l.length → eI l i ∉ f) : wo l f = l := by
  unfold wo
  rw [List.filter_eq_self]
  intro e he
  obtain ⟨i, hi, rfl⟩ := List.mem_iff_getElem.1 he
  have h1 := h i hi
  rw [(e_at hi).1] at h1
  rw [hasB_false h1]
  rfl
theorem take_ids {l : List Ed} {f : List Int} {k : Nat} (hk : k ≤ l.length) (h : ∀ i, i < k → eI l i ∉ f) : wo (l.take k) f = l.take k := by
  refine wo_all fun i hi => ?_
  rw [List.length_take] at hi
  have h1 := h i (by omega)
  unfold eI at h1 ⊢
  rw [List.getElem?_take, if_pos (by omega)]
  exact h1
/-- While edges are being taken out: what stands in the row. -/
structure Cur (l : List Ed) (f : List Int) (i j : Nat) (cur : List Ed) : Prop where
  len : cur.length = l.length
  lt : i < j
  le : j ≤ l.length
  front : cur.take i = wo (l.take j) f
  back : cur.drop j = l.drop j
theorem cur_start {l : List Ed} {f : List Int} {k : Nat} (hk : k < l.length) (h : ∀ i, i < k → eI l i ∉ f) (hm : eI l k ∈ f) : Cur l f k (k + 1) l :=
  ⟨rfl, by omega, by omega, by rw [wo_no hk hm, take_ids (by omega) h], rfl⟩
theorem cur_at {l cur : List Ed} {f : List Int} {i j : Nat} (h : Cur l f i j cur) (_ : j < l.length) : eI cur j = eI l j ∧ eF cur j = eF l j ∧ eT cur j = eT l j ∧ eC cur j = eC l j := by
  have e : cur[j]? = l[j]? := by
    have := congrArg (fun x => x[0]?) h.back
    simpa [List.getElem?_drop] using this
  unfold eI eF eT eC
  rw [e]
  exact ⟨rfl, rfl, rfl, rfl⟩
theorem cur_skip {l cur : List Ed} {f : List Int} {i j : Nat} (h : Cur l f i j cur) (hj : j < l.length) (hm : eI l j ∈ f) : Cur l f i (j + 1) cur :=
  ⟨h.len, by have := h.lt; omega, by omega, by rw [wo_no hj hm]; exact h.front, by rw [← List.drop_drop, h.back, List.drop_drop]⟩
theorem cur_keep {l cur : List Ed} {f : List Int} {i j : Nat} (h : Cur l f i j cur) (hj : j < l.length) (hm : eI l j ∉ f) : Cur l f (i + 1) (j + 1) (cur.set i ⟨eI l j, eF l j, eT l j, eC l j⟩) := by
  have hl := h.len
  have hlt := h.lt
  refine ⟨by rw [List.length_set]; exact hl, by omega, by omega, ?_, ?_⟩
  · rw [wo_yes hj hm, ← h.front, List.take_succ_eq_append_getElem (by rw [List.length_set]; omega), List.getElem_set_self, List.take_set_of_le (Nat.le_refl _)]
  · rw [List.drop_set_of_lt (by omega), ← List.drop_drop, h.back, List.drop_drop]
theorem cur_end {l cur : List Ed} {f : List Int} {i : Nat} (h : Cur l f i l.length cur) : cur.take i = wo l f := by
  have := h.front
  rwa [List.take_length] at this
theorem ownE_clear {w w' : World} {base c g i : Nat} {cur : List Ed} {c0 c1 : Array Value} (h : OwnE w base (some ⟨g, 0, none⟩) c cur) (hi : i ≤ cur.length) (h0 : w.heap[g]? = some (.cells c0 33 (0, 0))) (h1 : w'.heap[g]? = some (.cells c1 33 (0, 0))) (hs : c1.size = c0.size) (ht : c1.toList.take (i * 4) = c0.toList.take (i * 4)) :
    OwnE w' base (some ⟨g, 0, none⟩) c (cur.take i) := by
  have hl : (cur.take i).length = i := by rw [List.length_take, Nat.min_eq_left hi]
  refine ⟨by rw [cellsE_len, hl], .inr ?_⟩
  rcases h.2 with ⟨hv, _⟩ | ⟨g', cap', cu, hv, hb, hg, h3, h4, h5, h6⟩
  · cases hv
  · injection hv with hv1 hv2 hv3
    injection hv1 with hv1
    injection hv1 with hv1
    subst hv1 hv3
    rw [hg] at h0
    injection h0 with h0
    injection h0 with h0
    subst h0
    refine ⟨g, c, c1, by rw [hl], hb, h1, by omega, h4, by rw [hs, h5], ?_⟩
    rw [hl, ht]
    have e1 : cellsE cur = cu.toList.take (cur.length * 4) := h6.symm
    have e2 : cellsE (cur.take i) = (cellsE cur).take (i * 4) := by
      have h2 : cellsE cur = cellsE (cur.take i) ++ cellsE (cur.drop i) := by rw [← cellsE_append, List.take_append_drop]
      rw [h2, List.take_append_of_le_length (by rw [cellsE_len, hl]; omega)]
      exact (List.take_of_length_le (by rw [cellsE_len, hl]; omega)).symm
    rw [e2, e1, List.take_take, Nat.min_eq_left (by omega)]
theorem ownE_row {w : World} {base c g : Nat} {cur : List Ed} (h : OwnE w base (some ⟨g, 0, none⟩) c cur) : ∃ c0 : Array Value, w.heap[g]? = some (.cells c0 33 (0, 0)) ∧ c0.size = c * 4 ∧ cur.length ≤ c := by
  rcases h.2 with ⟨hv, _⟩ | ⟨g', cap', cu, hv, hb, hg, h3, h4, h5, h6⟩
  · cases hv
  · injection hv with hv1 hv2 hv3
    injection hv1 with hv1
    injection hv1 with hv1
    subst hv1 hv3
    exact ⟨cu, hg, h5, h3⟩
def DelPost (W : World) (base : Nat) (A : Option Addr) (c : Nat) (r : List Ed) (e : Ending) (w' : World) : Prop := e = .returned (.slice A r.length c) ∧ OwnE w' base A c r ∧ Below base W w'
set_option maxRecDepth 100000 in
set_option maxHeartbeats 4000000 in
theorem dfun_any (A B : Option Addr) (l : List Ed) (f : List Int) (c d gb base : Nat) (w : World) (ho : OwnE w base A c l) (hbase : base ≤ w.heap.size) (hgb : gb < base) (hb : w.cell? ⟨gb, 0, none⟩ = some (.slice B f.length d)) (hf : Rd w base B d (cellsI f)) (hm : f.length ≤ 1000000) (hl : l.length ≤ 1000000) :
    Calls Try.prog 42 #[.slice A l.length c, .func (.func 44) #[] #[.pointer (some ⟨gb, 0, none⟩)]] w (DelPost w base A c (wo l f)) := by
  have k1 := Lib.hid (idx_any A B l f c d gb w ho.es hb (hf.more hbase) hm hl)
  have kd := Lib.hid (fun (e : Ed) (W : World) (b : Below base w W) => del_any e gb B f d W ((b.cell (p := ⟨gb, 0, none⟩) hgb).trans hb) ((hf.below b).more (Nat.le_trans hbase b.size)) hm)
  have hO := Lib.hid ho
  obtain ⟨goal, hgo⟩ : ∃ goal, DelPost w base A c (wo l f) = goal := ⟨_, rfl⟩
  have hfin : Hid (∀ (W : World), OwnE W base A c (wo l f) → Below base w W → goal (.returned (.slice A (wo l f).length c)) W) := Lib.hid (fun W h1 h2 => by rw [← hgo]; exact ⟨rfl, h1, h2⟩)
  rw [hgo]
  clear ho hb hf hgo
  go_enter Try.func42, Try.ntmps42
  go_upto_region 2 with (go_at_call 53; (with_reducible refine (k1.out).mono ?_); rintro e w1 ⟨z, rfl, b1, h1⟩; (have B1 := Lib.hid (b1.mono hbase)); (have O1 := Lib.hid (OwnE.up hO.out b1)); (have HZ := Lib.hid h1); clear b1 h1)
  rcases HZ.out with ⟨k, rfl, hk, h2, h3⟩ | ⟨rfl, h2⟩
  · have hC := Lib.hid (cur_start hk h2 h3)
    obtain ⟨g, rfl, hg1, hg2⟩ := ownE_head O1.out (by omega)
    have hkm : ((k : Int) == -1) = false := beq_eq_false_iff_ne.2 (by omega)
    clear HZ k1 h2 h3 hg2 hO
    obtain ⟨i0, hin, hz0, hz1, hz2⟩ := info_parts info_ed
    have hIn := Lib.hid hin
    have hZ0 := Lib.hid hz0
    have hkj := Lib.hid (show ((k : Int) + 1) = ((k + 1 : Nat) : Int) by omega)
    clear hin hz0 hz1 hz2
    go_wp2
    go_loopw [5, 6] (fun a b wr => ∃ (i j : Nat) (cur : List Ed), a = .int .i64 i ∧ b = .int .i64 j ∧ Hid (Cur l f i j cur) ∧ Hid (OwnE wr base (some ⟨g, 0, none⟩) c cur) ∧ Hid (Below base w wr)) (fun _ b _ => l.length - (intOf b).toNat)
    case atStart => exact ⟨k, k + 1, l, rfl, by rw [hkj.out], hC, O1, B1⟩
    case round =>
      obtain ⟨i, j, cur, rfl, rfl, hU, hO, hB⟩ := hrel
      clear hC O1 B1 hkj hkm
      have hjl := hU.out.le
      have hij := hU.out.lt
      have hcl := hU.out.len
      by_cases hlt : j < l.length
      · obtain ⟨ad, e1, _, hA⟩ := hO.out.es.get (k := j) (by omega)
        injection e1 with e1
        subst e1
        obtain ⟨q0, q1, q2, q3⟩ := cur_at hU.out hlt
        rw [q0, q1, q2, q3, add_pos] at hA
        have k1 := kd.out ⟨eI l j, eF l j, eT l j, eC l j⟩ (wr.alloc (.cells #[.int .i64 (eI l j), .int .i64 (eF l j), .int .i64 (eT l j), .int .i64 (eC l j)] 33)) (hB.out.alloc (Nat.le_trans hbase hB.out.size) _)
        simp only at k1
        by_cases hmem : eI l j ∈ f
        · have hN := Lib.hid (cur_skip hU.out hlt hmem)
          rw [hasB_true hmem] at k1
          generalize eI l j = y0 at *
          generalize eF l j = y1 at *
          generalize eT l j = y2 at *
          generalize eC l j = y3 at *
          have K1 := Lib.hid k1
          have hO2 := Lib.hid (OwnE.up hO.out ((Below.refl _ _).alloc (Nat.le_refl _) (.cells #[.int .i64 y0, .int .i64 y1, .int .i64 y2, .int .i64 y3] 33)))
          have hB2 := Lib.hid (hB.out.alloc (Nat.le_trans hbase hB.out.size) (.cells #[.int .i64 y0, .int .i64 y1, .int .i64 y2, .int .i64 y3] 33))
          obtain ⟨x0, x1, x2, x3⟩ := hA
          have hJl := Lib.hid hlt
          clear k1 hmem hU kd hfin q0 q1 q2 q3 hcl hO hB
          go_wp2_with (go_at_call 44; (with_reducible refine (K1.out).mono ?_); rintro e w2 ⟨rfl, b2⟩; (have D2 := Lib.hid b2); clear b2)
          exact ⟨⟨i, j + 1, cur, rfl, by go_num, hN, Lib.hid (OwnE.up hO2.out D2.out), Lib.hid (hB2.out.trans (D2.out.mono (Nat.le_trans hbase hB2.out.size)))⟩, by have := hJl.out; simp [intOf]; omega⟩
        · have hN := Lib.hid (cur_keep hU.out hlt hmem)
          rw [hasB_false hmem] at k1
          obtain ⟨ad2, e2, _, hA2⟩ := hO.out.es.get (k := i) (by omega)
          injection e2 with e2
          subst e2
          rw [add_pos] at hA2
          have hic := Lib.hid (show i < cur.length by omega)
          generalize eI l j = y0 at *
          generalize eF l j = y1 at *
          generalize eT l j = y2 at *
          generalize eC l j = y3 at *
          have K1 := Lib.hid k1
          have hO2 := Lib.hid (OwnE.up hO.out ((Below.refl _ _).alloc (Nat.le_refl _) (.cells #[.int .i64 y0, .int .i64 y1, .int .i64 y2, .int .i64 y3] 33)))
          have hB2 := Lib.hid (hB.out.alloc (Nat.le_trans hbase hB.out.size) (.cells #[.int .i64 y0, .int .i64 y1, .int .i64 y2, .int .i64 y3] 33))
          have hgl : Hid (g < wr.heap.size) := Lib.hid (Array.getElem?_eq_some_iff.1 (ownE_row hO.out).choose_spec.1).1
          have hA3 : Hid (At4 (wr.alloc (.cells #[.int .i64 y0, .int .i64 y1, .int .i64 y2, .int .i64 y3] 33)) ⟨g, i * 4, none⟩ (.int .i64 (eI cur i)) (.int .i64 (eF cur i)) (.int .i64 (eT cur i)) (.int .i64 (eC cur i))) := Lib.hid (hA2.keep (B := wr.heap.size) hgl.out (fun q hq => ((Below.refl wr.heap.size wr).alloc (Nat.le_refl _) _).cell hq))
          generalize eI cur i = u0 at *
          generalize eF cur i = u1 at *
          generalize eT cur i = u2 at *
          generalize eC cur i = u3 at *
          obtain ⟨x0, x1, x2, x3⟩ := hA
          have hJl := Lib.hid hlt
          clear k1 hmem hU kd hfin q0 q1 q2 q3 hcl hO hB hA2
          go_wp2_with (go_at_call 44; (with_reducible refine (K1.out).mono ?_); rintro e w2 ⟨rfl, b2⟩; (have D2 := Lib.hid b2); (obtain ⟨s0, s1, s2, s3⟩ := box_four b2); (obtain ⟨t0, t1, t2, t3⟩ := hA3.out.keep (B := (wr.alloc (.cells #[.int .i64 y0, .int .i64 y1, .int .i64 y2, .int .i64 y3] 33)).heap.size) (by have := hgl.out; simp; omega) (fun q hq => b2.cell hq)); (have f0 : ∀ o, w2.frozen? ⟨g, o, none⟩ = false := fun o => World.ownsRow.frozenAt (OwnE.up hO2.out b2) o); clear b2)
          have hO3 := Lib.hid (own_storeE (x := ⟨y0, y1, y2, y3⟩) (OwnE.up hO2.out D2.out) hic.out)
          have hB3 := Lib.hid (below_putE (hB2.out.trans (D2.out.mono (Nat.le_trans hbase hB2.out.size))) hg1 (i * 4) ⟨y0, y1, y2, y3⟩)
          exact ⟨⟨i + 1, j + 1, _, by go_num, by go_num, hN, hO3, hB3⟩, by have := hJl.out; simp [intOf]; omega⟩
      · obtain rfl : j = l.length := by omega
        have hE := cur_end hU.out
        obtain ⟨c0, r1, r2, r3⟩ := ownE_row hO.out
        have hci : ¬ c = i := by omega
        have hni : 0 < l.length - i := by omega
        have hwl : (wo l f).length = i := by rw [← hE, List.length_take]; omega
        have hcl2 : Hid (i ≤ cur.length) := Lib.hid (by omega)
        have hR1 := Lib.hid r1
        have hR2 := Lib.hid r2
        have hR3 := Lib.hid (show l.length ≤ c by omega)
        rw [hwl] at hfin
        have hEE := Lib.hid hE
        have hil : (i : Int) ≤ (l.length : Int) := by omega
        have hlc : (l.length : Int) ≤ (c : Int) := by omega
        clear hU hcl kd r1 r2 r3 hE hwl
        go_wp2_with ((with_reducible refine wpList_clear_row rfl (.tmp 38) 22 rfl 33 i0 (.agg #[.int .i64 0, .int .i64 0, .int .i64 0, .int .i64 0]) Try.underlying22 hIn.out hZ0.out ?_ ?_ g (i * 4) (l.length - i) _ c0 33 rfl hR1.out hni ?_ ?_); (exact (by decide : 0 < 4)); (intro v hv; exact four_i64 (a := 0) (b := 0) (c := 0) (d := 0) hv); (show i * 4 + (l.length - i) * 4 ≤ c0.size; rw [hR2.out]; have := hR3.out; omega); intro w3 c1 h1 h2 h3 h4 h5; (have O3 := Lib.hid (ownE_clear hO.out hcl2.out hR1.out h1 h2 h3)); (have B3 := Lib.hid (hB.out.grown h4 (Nat.le_trans hbase hB.out.size) (fun q hq => by cases hq; exact hg1))); clear h1 h2 h3 h4 h5)
        exact hfin.out _ (by have := O3.out; rw [hEE.out] at this; exact this) B3.out
  · have hw := wo_all h2
    rw [hw] at hfin
    have hE := Lib.hid (hfin.out _ O1.out B1.out)
    clear HZ k1 kd h2 hfin hw
    go_wp2
    exact hE.out

set_option maxRecDepth 100000 in
set_option maxHeartbeats 2000000 in
theorem gWithout_any (A B : Option Addr) (l : List Ed) (f : List Int) (c d : Nat) (w : World) (hp : Es w w.heap.size A l) (hq : Rd w w.heap.size B d (cellsI f)) (hg : Grph l) (hmf : f.length ≤ 1000) :
    Calls Try.prog 24 #[.slice A l.length c, .slice B f.length d] w (MadeE' w (wo l f)) := by
  have hl := hg.1
  have b1 := (Below.refl w.heap.size w).alloc (Nat.le_refl _) (.cells #[.slice B f.length d] 23)
  have k1 := Lib.hid (clone_ed A l c (w.alloc (.cells #[.slice B f.length d] 23)) (hp.up b1) (by omega))
  have hbx : (w.alloc (.cells #[.slice B f.length d] 23)).cell? ⟨w.heap.size, 0, none⟩ = some (.slice B f.length d) := World.news_of_block (heap_alloc_new w (.cells #[.slice B f.length d] 23)) 0 _ rfl
  have hrd := hq.up b1
  have hsz : (w.alloc (.cells #[.slice B f.length d] 23)).heap.size = w.heap.size + 1 := by simp
  have k2 := Lib.hid (fun (A2 : Option Addr) (c2 : Nat) (W : World) (ho : OwnE W (w.alloc (.cells #[.slice B f.length d] 23)).heap.size A2 c2 l) (b : Below (w.alloc (.cells #[.slice B f.length d] 23)).heap.size (w.alloc (.cells #[.slice B f.length d] 23)) W) =>
    dfun_any A2 B l f c2 d w.heap.size _ W ho b.size (by rw [hsz]; omega) ((b.cell (p := ⟨w.heap.size, 0, none⟩) (by rw [hsz]; exact Nat.lt_succ_self _)).trans hbx) (hrd.below b) (by omega) (by omega))
  have B1 := Lib.hid b1
  clear hp hq hg b1 hbx hrd hsz
  go_enter Try.func24, Try.ntmps24
  go_wp2_with (first
    | (go_at_call 43; (with_reducible refine (k1.out).mono ?_); rintro e w2 ⟨A2, c2, rfl, h2, b2⟩; (have H2 := Lib.hid h2); (have B2 := Lib.hid b2); clear h2 b2)
    | (go_at_call 42; (with_reducible refine (k2.out A2 c2 w2 H2.out B2.out).mono ?_); rintro e w3 ⟨rfl, h3, b3⟩; (have H3 := Lib.hid h3); (have B3 := Lib.hid b3); clear h3 b3))
  go_ret
  exact ⟨A2, c2, rfl, H3.out.less B1.out.size, B1.out.trans ((B2.out.trans B3.out).mono B1.out.size)⟩
end Go.Proofs.Ytdemnbbofigcdaa
