/- Maps keyed by ints that the call itself makes: what they hold, key by key; the laws of their operations. -/
import Derived.Test.YtdemnbbofigcdaaGraph
import Derived.Test.YtdemnbbofigcdaaProg
import Derived.Maps.OwnSet
import Derived.Lib.Hide
import Derived.WalkKit
import Derived.OwnWalk
import Derived.Below
import Derived.Deep.Draws
namespace Go.Proofs.Ytdemnbbofigcdaa
open Go.RowKit Go.MapKept Go.ChangeMaps Go.Maps

/-- Block b is a map of at most n entries that holds m. -/
def MapV (w : World) (b n : Nat) (m : Int → Option Value) : Prop :=
  ∃ es clock, w.heap[b]? = some (.map es clock) ∧ Stamped es clock ∧ es.size ≤ n ∧ (∀ x ∈ es.toList, ∃ i, x.key = .int .i64 i ∧ m i = some x.val) ∧ ∀ i v, m i = some v → ∃ x ∈ es.toList, x.key = .int .i64 i
def upd (m : Int → Option Value) (k : Int) (v : Value) : Int → Option Value := fun i => if i = k then some v else m i
def del (m : Int → Option Value) (k : Int) : Int → Option Value := fun i => if i = k then none else m i
theorem mapV_made (w : World) : MapV (w.alloc (.map #[] 0)) w.heap.size 0 (fun _ => none) :=
  ⟨#[], 0, (heap_alloc w _).1, stamped_empty 0, Nat.le_refl _, by simp, by simp⟩
section
variable {w w' : World} {b n : Nat} {m : Int → Option Value}
theorem MapV.kept (h : MapV w b n m) (hb : w'.heap[b]? = w.heap[b]?) : MapV w' b n m := by
  obtain ⟨es, clock, h1, h2⟩ := h
  exact ⟨es, clock, hb.trans h1, h2⟩
theorem MapV.lt (h : MapV w b n m) : b < w.heap.size := by
  obtain ⟨es, clock, h1, _⟩ := h
  exact (Array.getElem?_eq_some_iff.1 h1).1
theorem MapV.more {n' : Nat} (h : MapV w b n m) (hn : n ≤ n') : MapV w b n' m := by
  obtain ⟨es, clock, h1, h2, h3, h4⟩ := h
  exact ⟨es, clock, h1, h2, Nat.le_trans h3 hn, h4⟩
theorem MapV.alloc (h : MapV w b n m) (o : Obj) : MapV (w.alloc o) b n m := h.kept (Below.heap_alloc _ _ _ h.lt)
theorem MapV.drew (h : MapV w b n m) : MapV w.drew b n m := h
theorem MapV.drewN (h : MapV w b n m) (k : Nat) : MapV (w.drewN k) b n m := h
theorem MapV.grown {row : Option Nat} (h : MapV w b n m) (hg : w.grownBy w' row) (hne : some b ≠ row) : MapV w' b n m := h.kept (hg.block b h.lt hne)
theorem MapV.below {B : Nat} (h : MapV w b n m) (hg : Below B w w') (hb : b < B) : MapV w' b n m := h.kept (hg.block b hb)
/-- A cell's block is no map's. -/
theorem MapV.ne_cell (h : MapV w b n m) {a : Addr} {v : Value} (hc : w.cell? a = some v) : b ≠ a.block := fun e => by
  obtain ⟨es, clock, h1, _⟩ := h
  rw [e] at h1
  simp [World.cell?, h1] at hc
theorem MapV.ne_cells (h : MapV w b n m) {g : Nat} {cs : Array Value} {t : TypeId} {f : Nat × Nat} (hc : w.heap[g]? = some (.cells cs t f)) : b ≠ g := fun e => by
  obtain ⟨es, clock, h1, _⟩ := h
  rw [e, hc] at h1
  cases h1
theorem MapV.setCell (h : MapV w b n m) {a : Addr} (ha : b ≠ a.block) (u : Value) : MapV (w.setCell a u) b n m := h.kept (Below.heap_setCell _ _ _ _ ha)
variable {P : Program} {t k e : TypeId}
theorem MapV.find (h : MapV w b n m) (hk : P.underlying k = some (.int .i64)) (i : Int) : ∃ es clock, w.heap[b]? = some (.map es clock) ∧ Stamped es clock ∧ es.size ≤ n ∧
    (∀ x ∈ es.toList, ∃ i, x.key = .int .i64 i ∧ m i = some x.val) ∧ (∀ i v, m i = some v → ∃ x ∈ es.toList, x.key = .int .i64 i) ∧
    ((m i = none ∧ (∀ W : World, (Instr.findKey k (.int .i64 i) es.toList).run P W = .ok none W) ∧ ∀ x ∈ es.toList, x.key ≠ .int .i64 i) ∨
      ∃ j x, m i = some x.val ∧ (∀ W : World, (Instr.findKey k (.int .i64 i) es.toList).run P W = .ok (some (j, x.val)) W) ∧ es.toList[j]? = some x ∧ x.key = .int .i64 i) := by
  obtain ⟨es, clock, h1, h2, h3, h4, h5⟩ := h
  refine ⟨es, clock, h1, h2, h3, h4, h5, ?_⟩
  have hI : IsKey (.int .i64) (.int .i64 i) := rfl
  have hks : ∀ x ∈ es.toList, IsKey (.int .i64) x.key := fun x hx => by
    obtain ⟨a, ha, _⟩ := h4 x hx
    rw [ha]
    rfl
  rcases findNow_spec hI es.toList 0 hks with ⟨f1, f2⟩ | ⟨j, x, f1, f2, f3⟩
  · refine .inl ⟨?_, fun W => run_findKey hk f1, f2⟩
    rcases hm : m i with _ | v
    · rfl
    · obtain ⟨x, hx, hxk⟩ := h5 i v hm
      exact absurd hxk (f2 x hx)
  · refine .inr ⟨j, x, ?_, fun W => run_findKey hk (by simpa using f1), f2, f3⟩
    obtain ⟨a, ha, hma⟩ := h4 x (List.mem_of_getElem? f2)
    rw [f3] at ha
    injection ha with _ ha
    rw [ha]
    exact hma
theorem MapV.look (h : MapV w b n m) (ht : P.underlying t = some (.map k e)) (hk : P.underlying k = some (.int .i64)) {z : Value} (hz : (zeroValue e).run P w = .ok z w) (i : Int) :
    (Instr.lookup t (.map (some b)) (.int .i64 i) false).run P w = .ok ((m i).getD z) w := by
  obtain ⟨es, clock, h1, h2, h3, h4, h5, hf⟩ := h.find hk i
  have hc := fun em => run_checkKey (w := w) hk (show IsKey (.int .i64) (.int .i64 i) from rfl) em 9999
  rcases hf with ⟨hm, hr, _⟩ | ⟨j, x, hm, hr, _⟩
  · simp [Instr.lookup, run_underlying ht, MapKept.run_getObj_map h1, hc, hr, hz, hm, Result.andThen]
  · simp [Instr.lookup, run_underlying ht, MapKept.run_getObj_map h1, hc, hr, hm, Result.andThen]
theorem MapV.look_ok (h : MapV w b n m) (ht : P.underlying t = some (.map k e)) (hk : P.underlying k = some (.int .i64)) {z : Value} (hz : (zeroValue e).run P w = .ok z w) (i : Int) :
    (Instr.lookup t (.map (some b)) (.int .i64 i) true).run P w = .ok (.tuple #[(m i).getD z, .bool (m i).isSome]) w := by
  obtain ⟨es, clock, h1, h2, h3, h4, h5, hf⟩ := h.find hk i
  have hc := fun em => run_checkKey (w := w) hk (show IsKey (.int .i64) (.int .i64 i) from rfl) em 9999
  rcases hf with ⟨hm, hr, _⟩ | ⟨j, x, hm, hr, _⟩
  · simp [Instr.lookup, run_underlying ht, MapKept.run_getObj_map h1, hc, hr, hz, hm, Result.andThen]
  · simp [Instr.lookup, run_underlying ht, MapKept.run_getObj_map h1, hc, hr, hm, Result.andThen]
theorem set_grown {es : Array MapEntry} {clock : Nat} (hb : w.heap[b]? = some (.map es clock)) (o : Obj) : w.grownBy (setBlock w b o) (some b) ∧ (setBlock w b o).heap.size = w.heap.size :=
  ⟨⟨rfl, rfl, rfl, by simp [setBlock], fun _ _ hi => heap_setBlock_other hb _ (fun e => hi (by rw [e]))⟩, by simp [setBlock]⟩
theorem MapV.put (h : MapV w b n m) (ht : P.underlying t = some (.map k e)) (hk : P.underlying k = some (.int .i64)) (i : Int) (v : Value) :
    ∃ w', (Instr.mapUpdate t (.map (some b)) (.int .i64 i) v).run P w = .ok () w' ∧ MapV w' b (n + 1) (upd m i v) ∧ w.grownBy w' (some b) ∧ w'.heap.size = w.heap.size := by
  obtain ⟨es, clock, h1, h2, h3, h4, h5, hf⟩ := h.find hk i
  have hc := fun em => run_checkKey (w := w) hk (show IsKey (.int .i64) (.int .i64 i) from rfl) em 9999
  rcases hf with ⟨hm, hr, hne⟩ | ⟨j, x, hm, hr, hj, hx⟩
  · refine ⟨setBlock w b (.map (es.push ⟨.int .i64 i, v, clock⟩) (clock + 1)), ?_, ⟨_, _, heap_setBlock_same h1 _, stamped_push h2 hne, by simp; omega, ?_, ?_⟩, (set_grown h1 _).1, (set_grown h1 _).2⟩
    · simp [Instr.mapUpdate, run_underlying ht, MapKept.run_getObj_map h1, hc, hr, MapKept.run_setObj_map _ h1, Result.andThen, setBlock]
    · intro y hy
      simp only [Array.toList_push, List.mem_append, List.mem_singleton] at hy
      rcases hy with hy | rfl
      · obtain ⟨a, ha, hma⟩ := h4 y hy
        refine ⟨a, ha, ?_⟩
        unfold upd
        rw [if_neg (fun e => hne y hy (by rw [ha, e]))]
        exact hma
      · exact ⟨i, rfl, by unfold upd; rw [if_pos rfl]⟩
    · intro a u hu
      simp only [Array.toList_push, List.mem_append, List.mem_singleton]
      unfold upd at hu
      split at hu
      · rename_i he
        exact ⟨_, .inr rfl, by rw [he]⟩
      · obtain ⟨y, hy, hk2⟩ := h5 a u hu
        exact ⟨y, .inl hy, hk2⟩
  · have hjA : es[j]? = some x := by simpa using hj
    have hjl : j < es.toList.length := (List.getElem?_eq_some_iff.1 hj).1
    have hkeyf : ∀ e', es[j]? = some e' → ({ e' with key := .int .i64 i, val := v } : MapEntry).key = e'.key := fun e' he' => by rw [hjA] at he'; cases he'; exact hx.symm
    have hlist : (es.modify j (fun e' => { e' with key := .int .i64 i, val := v })).toList = es.toList.set j { x with key := .int .i64 i, val := v } := by rw [Array.toList_modify, modify_eq_set _ _ _ _ hj]
    refine ⟨setBlock w b (.map (es.modify j (fun e' => { e' with key := .int .i64 i, val := v })) clock), ?_, ⟨_, _, heap_setBlock_same h1 _, stamped_modify h2 _ _ (fun _ _ => rfl) (fun e' _ he' => hkeyf e' he'), by simp; omega, ?_, ?_⟩, (set_grown h1 _).1, (set_grown h1 _).2⟩
    · simp [Instr.mapUpdate, run_underlying ht, MapKept.run_getObj_map h1, hc, hr, hjA, hx, MapKept.run_keyThatStays (show IsKey (.int .i64) (.int .i64 i) from rfl), MapKept.run_setObj_map _ h1, Result.andThen, setBlock]
    · intro y hy
      rw [hlist] at hy
      obtain ⟨q, hq, ey⟩ := List.getElem_of_mem hy
      rw [List.getElem_set] at ey
      split at ey
      · rw [← ey]
        exact ⟨i, rfl, by unfold upd; rw [if_pos rfl]⟩
      · rename_i hne
        have hq' : q < es.toList.length := by simpa using hq
        have hy' : y ∈ es.toList := ey ▸ List.getElem_mem hq'
        obtain ⟨a, ha, hma⟩ := h4 y hy'
        refine ⟨a, ha, ?_⟩
        unfold upd
        rw [if_neg ?_]
        · exact hma
        · intro e1
          have hp := (stamped_iff es clock).1 h2 |>.2.2
          rw [List.pairwise_iff_getElem] at hp
          have hjx : es.toList[j] = x := (List.getElem?_eq_some_iff.1 hj).2
          rcases Nat.lt_or_ge j q with hlt | hge
          · exact hp j q hjl hq' hlt (by rw [hjx, ey, hx, ha, e1])
          · exact hp q j hq' hjl (by omega) (by rw [hjx, ey, hx, ha, e1])
    · intro a u hu
      rw [hlist]
      unfold upd at hu
      split at hu
      · rename_i he
        exact ⟨{ x with key := .int .i64 i, val := v }, List.mem_iff_getElem.2 ⟨j, by simpa using hjl, by simp⟩, by rw [he]⟩
      · rename_i hne
        obtain ⟨y, hy, hk2⟩ := h5 a u hu
        obtain ⟨q, hq, ey⟩ := List.getElem_of_mem hy
        refine ⟨y, List.mem_iff_getElem.2 ⟨q, by simpa using hq, ?_⟩, hk2⟩
        rw [List.getElem_set, if_neg ?_]
        · exact ey
        · intro e1
          subst e1
          have hjx : es.toList[j] = x := (List.getElem?_eq_some_iff.1 hj).2
          rw [hjx] at ey
          rw [← ey, hx] at hk2
          injection hk2 with _ hk2
          exact hne hk2.symm
theorem MapV.drop (h : MapV w b n m) (ht : P.underlying t = some (.map k e)) (hk : P.underlying k = some (.int .i64)) (i : Int) (ty : TypeId) :
    ∃ w', (Builtin.delete_ #[t, k] ty #[.map (some b), .int .i64 i]).run P w = .ok (.tuple #[]) w' ∧ MapV w' b n (del m i) ∧ w.grownBy w' (some b) ∧ w'.heap.size = w.heap.size := by
  obtain ⟨es, clock, h1, h2, h3, h4, h5, hf⟩ := h.find hk i
  have hc := fun em => run_checkKey (w := w) hk (show IsKey (.int .i64) (.int .i64 i) from rfl) em 9999
  rcases hf with ⟨hm, hr, hne⟩ | ⟨j, x, hm, hr, hj, hx⟩
  · refine ⟨setBlock w b (.map es clock), ?_, ⟨_, _, heap_setBlock_same h1 _, h2, h3, ?_, ?_⟩, (set_grown h1 _).1, (set_grown h1 _).2⟩
    · simp [Builtin.delete_, run_underlying ht, MapKept.run_getObj_map h1, hc, hr, MapKept.run_setObj_map _ h1, Result.andThen, setBlock]
    · intro y hy
      obtain ⟨a, ha, hma⟩ := h4 y hy
      refine ⟨a, ha, ?_⟩
      unfold del
      rw [if_neg (fun e => hne y hy (by rw [ha, e]))]
      exact hma
    · intro a u hu
      unfold del at hu
      split at hu
      · cases hu
      · exact h5 a u hu
  · have hjl : j < es.toList.length := (List.getElem?_eq_some_iff.1 hj).1
    have hjs : j < es.size := by simpa using hjl
    have hjx : es.toList[j] = x := (List.getElem?_eq_some_iff.1 hj).2
    have hp := (stamped_iff es clock).1 h2 |>.2.2
    rw [List.pairwise_iff_getElem] at hp
    have hsub : (es.eraseIdxIfInBounds j).toList = es.toList.eraseIdx j := by
      unfold Array.eraseIdxIfInBounds
      rw [dif_pos hjs]
      simp
    refine ⟨setBlock w b (.map (es.eraseIdxIfInBounds j) clock), ?_, ⟨_, _, heap_setBlock_same h1 _, stamped_erase h2 j, Nat.le_trans (MapFrom.size_erase es j) h3, ?_, ?_⟩, (set_grown h1 _).1, (set_grown h1 _).2⟩
    · simp [Builtin.delete_, run_underlying ht, MapKept.run_getObj_map h1, hc, hr, MapKept.run_setObj_map _ h1, Result.andThen, setBlock]
    · intro y hy
      rw [hsub, List.mem_eraseIdx_iff_getElem?] at hy
      obtain ⟨q, hqj, hqy⟩ := hy
      have hq : q < es.toList.length := (List.getElem?_eq_some_iff.1 hqy).1
      have hqe : es.toList[q] = y := (List.getElem?_eq_some_iff.1 hqy).2
      obtain ⟨a, ha, hma⟩ := h4 y (List.mem_of_getElem? hqy)
      refine ⟨a, ha, ?_⟩
      unfold del
      rw [if_neg ?_]
      · exact hma
      · intro e1
        rcases Nat.lt_or_ge j q with hlt | hge
        · exact hp j q hjl hq hlt (by rw [hjx, hqe, hx, ha, e1])
        · exact hp q j hq hjl (by omega) (by rw [hjx, hqe, hx, ha, e1])
    · intro a u hu
      unfold del at hu
      split at hu
      · cases hu
      · rename_i hne
        obtain ⟨y, hy, hk2⟩ := h5 a u hu
        obtain ⟨q, hq, ey⟩ := List.getElem_of_mem hy
        refine ⟨y, ?_, hk2⟩
        rw [hsub, List.mem_eraseIdx_iff_getElem?]
        refine ⟨q, ?_, by rw [List.getElem?_eq_getElem hq, ey]⟩
        intro e1
        subst e1
        rw [hjx] at ey
        rw [← ey, hx] at hk2
        injection hk2 with _ hk2
        exact hne hk2.symm
theorem MapV.len (h : MapV w b n m) (ht : P.underlying t = some (.map k e)) (ty : TypeId) :
    ∃ s : Nat, (Builtin.len_ #[t] ty #[.map (some b)]).run P w = .ok (.int .i64 (s : Int)) w ∧ s ≤ n ∧ (s = 0 ↔ ∀ i, m i = none) := by
  obtain ⟨es, clock, h1, h2, h3, h4, h5⟩ := h
  refine ⟨es.size, by simp [Builtin.len_, run_underlying ht, MapKept.run_getObj_map h1, goInt, Result.andThen], h3, ?_⟩
  constructor
  · intro hz i
    rcases hm : m i with _ | v
    · rfl
    · obtain ⟨x, hx, _⟩ := h5 i v hm
      have : 0 < es.toList.length := List.length_pos_of_mem hx
      simp at this
      omega
  · intro hz
    rcases he : es.toList with _ | ⟨x, l⟩
    · have := congrArg List.length he
      simpa using this
    · obtain ⟨a, _, hma⟩ := h4 x (by rw [he]; exact List.mem_cons_self ..)
      rw [hz a] at hma
      cases hma
end

/-! ### At the operations -/
section
variable {P : Program} {w : World} {ops : Array Oper} {rest : List Oper} {o : Oper} {a : Act} {Q : Exit → Act → World → Prop} {t k e : TypeId} {b n : Nat} {m : Int → Option Value} {i : Int}
theorem wpList_lookup_v (hg : o.guard = none) (x y : Operand) (hop : o.op = Op.lookup t x y false) (ht : P.underlying t = some (.map k e)) (hk : P.underlying k = some (.int .i64)) {z : Value} (hz : (zeroValue e).run P w = .ok z w)
    (hm : a.eval x = .map (some b)) (hx : a.eval y = .int .i64 i) (h : MapV w b n m) (hK : wpList P ops Q rest (a.put o.dst ((m i).getD z)) w) : wpList P ops Q (o :: rest) a w := by
  refine wpList_plain hg fun K' hK' => ?_
  have hrun := h.look ht hk hz i
  unfold Oper.wp
  simp [execOp, hop, hm, hx, hrun, Result.andThen]
  exact hK' _ _ hK
theorem wpList_lookup_ok_v (hg : o.guard = none) (x y : Operand) (hop : o.op = Op.lookup t x y true) (ht : P.underlying t = some (.map k e)) (hk : P.underlying k = some (.int .i64)) {z : Value} (hz : (zeroValue e).run P w = .ok z w)
    (hm : a.eval x = .map (some b)) (hx : a.eval y = .int .i64 i) (h : MapV w b n m) (hK : wpList P ops Q rest (a.put o.dst (.tuple #[(m i).getD z, .bool (m i).isSome])) w) : wpList P ops Q (o :: rest) a w := by
  refine wpList_plain hg fun K' hK' => ?_
  have hrun := h.look_ok ht hk hz i
  unfold Oper.wp
  simp [execOp, hop, hm, hx, hrun, Result.andThen]
  exact hK' _ _ hK
theorem wpList_mapUpdate_v (hg : o.guard = none) (x y u : Operand) (hop : o.op = Op.mapUpdate t x y u) (ht : P.underlying t = some (.map k e)) (hk : P.underlying k = some (.int .i64)) {v : Value}
    (hm : a.eval x = .map (some b)) (hx : a.eval y = .int .i64 i) (hv : a.eval u = v) (h : MapV w b n m)
    (hK : ∀ w', MapV w' b (n + 1) (upd m i v) → w.grownBy w' (some b) → w'.heap.size = w.heap.size → wpList P ops Q rest (a.put o.dst undef) w') : wpList P ops Q (o :: rest) a w := by
  refine wpList_plain hg fun K' hK' => ?_
  obtain ⟨w', hrun, r1, r2, r3⟩ := h.put ht hk i v
  unfold Oper.wp
  simp [execOp, hop, hm, hx, hv, hrun, Result.andThen]
  exact hK' _ _ (hK w' r1 r2 r3)
theorem wpList_delete_v (hg : o.guard = none) (x y : Operand) (hop : o.op = Op.call { callee := Callee.builtin Builtin.delete, args := #[x, y], argTypes := #[t, k] }) (ht : P.underlying t = some (.map k e)) (hk : P.underlying k = some (.int .i64))
    (hm : a.eval x = .map (some b)) (hx : a.eval y = .int .i64 i) (h : MapV w b n m)
    (hK : ∀ w', MapV w' b n (del m i) → w.grownBy w' (some b) → w'.heap.size = w.heap.size → wpList P ops Q rest (a.put o.dst (.tuple #[])) w') : wpList P ops Q (o :: rest) a w := by
  refine wpList_plain hg fun K' hK' => ?_
  obtain ⟨w', hrun, r1, r2, r3⟩ := h.drop ht hk i o.type
  unfold Oper.wp
  simp [execOp, hop, resolve, invoke, builtin, hm, hx, hrun, Result.andThen]
  exact hK' _ _ (hK w' r1 r2 r3)
theorem wpList_len_v (hg : o.guard = none) (x : Operand) (hop : o.op = Op.call { callee := Callee.builtin Builtin.len, args := #[x], argTypes := #[t] }) (ht : P.underlying t = some (.map k e))
    (hm : a.eval x = .map (some b)) (h : MapV w b n m) (hK : ∀ s : Nat, s ≤ n → (s = 0 ↔ ∀ i, m i = none) → wpList P ops Q rest (a.put o.dst (.int .i64 (s : Int))) w) : wpList P ops Q (o :: rest) a w := by
  refine wpList_plain hg fun K' hK' => ?_
  obtain ⟨s, hrun, r1, r2⟩ := h.len ht o.type
  unfold Oper.wp
  simp [execOp, hop, resolve, invoke, builtin, hm, hrun, Result.andThen]
  exact hK' _ _ (hK s r1 r2)
end
end Go.Proofs.Ytdemnbbofigcdaa
