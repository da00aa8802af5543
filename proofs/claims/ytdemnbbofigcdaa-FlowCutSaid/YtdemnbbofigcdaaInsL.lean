/- What slices.Insert's own operations do: append of fresh zero elements that do not fit, copy onto a row that is known whole, overlaps of two blocks. -/
import Derived.Test.YtdemnbbofigcdaaOw
import Derived.Deep.RegionLaw
namespace Go.Proofs.Ytdemnbbofigcdaa
open Go.RowKit

section
variable {P : Program} (w : World)
theorem run_append_make (t ti ty e : TypeId) (i : TypeInfo) (z : Value) (ht : P.underlying t = some (.slice e)) (hti : P.underlying ti = some (.int .i64)) (hi : P.info? e = some i) (hz : i.zero = some z)
    (b : Addr) (sLen sCap : Nat) (olds : List Value) (hlo : olds.length = sLen * i.size) (holds : ∀ j v, olds[j]? = some v → w.cell? (b.add j) = some v) (hsz : 0 < i.size)
    (l : Nat) (h0 : 0 < l) (hg : sCap < sLen + l) (h63 : sLen + l ≤ 1000000000) (hb : (sLen + l) * i.bytes ≤ 140737488355328) :
    (Builtin.append_ #[t, ti] ty #[.slice (some b) sLen sCap, .int .i64 (l : Int)]).run P w =
      .ok (.slice (some ⟨w.heap.size, 0, none⟩) (sLen + l) (grownCap w (sLen + l) sCap e)) (w.drew.alloc (.cells (olds.toArray ++ Builtin.zeroCells z.cells l ++ Builtin.zeroCells z.cells (grownCap w (sLen + l) sCap e - (sLen + l))) e)) := by
  have hn : ¬ (sLen + l ≤ sCap) := by omega
  have h63' : ¬ (9223372036854775807 < ((sLen : Int) + (l : Int))) := by omega
  have hwr : IntKind.i64.wrap (l : Int) = (l : Int) := IntWalk.i64_in _ (by omega)
  have hlb : l * i.bytes ≤ (sLen + l) * i.bytes := Nat.mul_le_mul_right _ (by omega)
  have h48a : ¬ (281474976710656 < (l : Int) * (i.bytes : Int)) := by
    have h1 : l * i.bytes ≤ 140737488355328 := Nat.le_trans hlb hb
    have h2 : ((l * i.bytes : Nat) : Int) ≤ ((140737488355328 : Nat) : Int) := Int.ofNat_le.2 h1
    rw [Int.natCast_mul] at h2
    omega
  have hfit : Builtin.nextslicecap (sLen + l) sCap * i.bytes ≤ 281474976710656 := growslice_fits (by omega) hb
  have h48' : ¬ (281474976710656 < Builtin.nextslicecap (sLen + l) sCap * i.bytes) := by omega
  have hlz : ¬ ((l : Int) < 0) := by omega
  have hls : ¬ (l * i.size = 0) := Nat.ne_of_gt (Nat.mul_pos h0 hsz)
  have hfo := run_firstCells_some (P := P) w.drew i.size sLen b sLen sCap olds hlo (by simpa using holds)
  simp [Builtin.append_, run_underlying ht, run_underlying hti, sizeOf, typeInfo, zeroValue, hi, hz, asInt, asIntOf, hwr, hlz, h48a, hn, h63', h48', Question.forced, hfo, hls, newRow, grownCap]
/-- copy onto a row that is known whole. -/
theorem run_copy_cells (dT sT ty e : TypeId) (i : TypeInfo) (hu : P.underlying dT = some (.slice e)) (hi : P.info? e = some i) (g off dLen dCap : Nat) (cur : Array Value) (t : TypeId) (hg : w.heap[g]? = some (.cells cur t (0, 0)))
    (ad : Addr) (sLen sCap m : Nat) (hm : Nat.min sLen dLen = m) (cs : List Value) (hn : cs.length = m * i.size) (hsrc : ∀ j v, cs[j]? = some v → w.cell? (ad.add j) = some v) (hfit : off + cs.length ≤ cur.size) (h1 : ∀ v ∈ cs, v.oneCell' = true) :
    (Builtin.copy_ #[dT, sT] ty #[.slice (some ⟨g, off, none⟩) dLen dCap, .slice (some ad) sLen sCap]).run P w = .ok (goInt m) (w.setRow g (splice cur.toList off cs).toArray) := by
  have hf := run_firstCells_some (P := P) w i.size m ad sLen sCap cs hn hsrc
  have hst := run_storeCells_at P g off t cs 0 cur w hg (by simpa using hfit) h1
  simp only [Nat.add_zero] at hst
  have hm2 : sLen.min dLen = m := hm
  simp [Builtin.copy_, run_underlying hu, sizeOf, typeInfo, hi, Builtin.lenOf, hm2, hf, hst, splice]
theorem wpList_copy_cells {ops : Array Oper} {rest : List Oper} {o : Oper} {a : Act} {Q : Exit → Act → World → Prop} (hgd : o.guard = none) (d s : Operand) (dT sT : TypeId)
    (ho : o.op = .call { callee := .builtin .copy, args := #[d, s], argTypes := #[dT, sT] }) (e : TypeId) (i : TypeInfo) (hu : P.underlying dT = some (.slice e)) (hi : P.info? e = some i) (g off dLen dCap : Nat) (cur : List Value) (t : TypeId)
    (ad : Addr) (sLen sCap m : Nat) (hd : a.eval d = .slice (some ⟨g, off, none⟩) dLen dCap) (hs : a.eval s = .slice (some ad) sLen sCap) (hg : w.heap[g]? = some (.cells cur.toArray t (0, 0))) (hm : Nat.min sLen dLen = m) (cs : List Value) (hn : cs.length = m * i.size)
    (hsrc : ∀ j v, cs[j]? = some v → w.cell? (ad.add j) = some v) (hfit : off + cs.length ≤ cur.length) (h1 : ∀ v ∈ cs, v.oneCell' = true)
    (h : ∀ w', w'.heap[g]? = some (.cells (splice cur off cs).toArray t (0, 0)) → w.grownBy w' (some g) → w'.heap.size = w.heap.size → wpList P ops Q rest (a.put o.dst (.int .i64 (m : Int))) w') : wpList P ops Q (o :: rest) a w := by
  refine wpList_plain hgd fun K hK => ?_
  have hrun := run_copy_cells (P := P) w dT sT o.type e i hu hi g off dLen dCap cur.toArray t hg ad sLen sCap m hm cs hn hsrc (by simpa using hfit) h1
  unfold Oper.wp
  simp [execOp, ho, resolve, invoke, builtin, hd, hs, hrun, Result.andThen]
  exact hK _ _ (h _ (setRow_heap w g _ _ t _ hg) (grown_setRow w _) (by simp))
theorem step_copy_cells {ops : Array Oper} {o : Oper} {a : Act} {K : Act → World → Prop} {Q : Exit → Act → World → Prop} {E : Prop} (hgd : o.guard = none) (d s : Operand) (dT sT : TypeId)
    (ho : o.op = .call { callee := .builtin .copy, args := #[d, s], argTypes := #[dT, sT] }) (e : TypeId) (i : TypeInfo) (hu : P.underlying dT = some (.slice e)) (hi : P.info? e = some i) (g off dLen dCap : Nat) (cur : List Value) (t : TypeId)
    (ad : Addr) (sLen sCap m : Nat) (hd : a.eval d = .slice (some ⟨g, off, none⟩) dLen dCap) (hs : a.eval s = .slice (some ad) sLen sCap) (hg : w.heap[g]? = some (.cells cur.toArray t (0, 0))) (hm : Nat.min sLen dLen = m) (cs : List Value) (hn : cs.length = m * i.size)
    (hsrc : ∀ j v, cs[j]? = some v → w.cell? (ad.add j) = some v) (hfit : off + cs.length ≤ cur.length) (h1 : ∀ v ∈ cs, v.oneCell' = true)
    (h : ∀ w', w'.heap[g]? = some (.cells (splice cur off cs).toArray t (0, 0)) → w.grownBy w' (some g) → w'.heap.size = w.heap.size → K (a.put o.dst (.int .i64 (m : Int))) w') :
    if Region.wanted o (yielded ops a.tmps) = true then Oper.wp P o a w K Q else E := by
  have hw : Region.wanted o (yielded ops a.tmps) = true := by simp [Region.wanted, hgd]
  rw [if_pos hw]
  have hrun := run_copy_cells (P := P) w dT sT o.type e i hu hi g off dLen dCap cur.toArray t hg ad sLen sCap m hm cs hn hsrc (by simpa using hfit) h1
  unfold Oper.wp
  simp [execOp, ho, resolve, invoke, builtin, hd, hs, hrun, Result.andThen]
  exact h _ (setRow_heap w g _ _ t _ hg) (grown_setRow w _) (by simp)
theorem wpList_append_make {ops : Array Oper} {rest : List Oper} {o : Oper} {a : Act} {Q : Exit → Act → World → Prop} (hgd : o.guard = none) (x y : Operand) (t ti e : TypeId)
    (ho : o.op = .call { callee := .builtin .append, args := #[x, y], argTypes := #[t, ti] }) (i : TypeInfo) (z : Value) (ht : P.underlying t = some (.slice e)) (hti : P.underlying ti = some (.int .i64)) (hi : P.info? e = some i) (hz : i.zero = some z)
    (b : Addr) (sLen sCap : Nat) (olds : List Value) (hx : a.eval x = .slice (some b) sLen sCap) (hlo : olds.length = sLen * i.size) (holds : ∀ j v, olds[j]? = some v → w.cell? (b.add j) = some v) (hsz : 0 < i.size)
    (l N : Nat) (hN : sLen + l = N) (hy : a.eval y = .int .i64 (l : Int)) (h0 : 0 < l) (hg : sCap < N) (h63 : N ≤ 1000000000) (hb : N * i.bytes ≤ 140737488355328) (hzs : z.cells.size = i.size)
    (h : ∀ cap' w', N ≤ cap' → cap' ≤ maxLen → (∃ zs rest : List Value, zs.length = l * i.size ∧ rest.length = (cap' - N) * i.size ∧ w'.heap[w.heap.size]? = some (.cells (olds ++ (zs ++ rest)).toArray e (0, 0))) → w.grownBy w' none → w'.heap.size = w.heap.size + 1 →
      wpList P ops Q rest (a.put o.dst (.slice (some ⟨w.heap.size, 0, none⟩) N cap')) w') : wpList P ops Q (o :: rest) a w := by
  subst hN
  refine wpList_plain hgd fun K hK => ?_
  have hrun := run_append_make (P := P) w t ti o.type e i z ht hti hi hz b sLen sCap olds hlo holds hsz l h0 hg h63 hb
  unfold Oper.wp
  simp [execOp, ho, resolve, invoke, builtin, hx, hy, hrun, Result.andThen]
  refine hK _ _ (h _ _ (grownCap_ge ..) (grownCap_le_maxLen w _ _ e (by unfold maxLen; omega)) ?_ ⟨rfl, rfl, rfl, by simp, fun k hk _ => Below.heap_alloc w.drew _ k hk⟩ (by simp))
  refine ⟨(Builtin.zeroCells z.cells l).toList, (Builtin.zeroCells z.cells (grownCap w (sLen + l) sCap e - (sLen + l))).toList, by rw [Array.length_toList, size_zeroCells, hzs], by rw [Array.length_toList, size_zeroCells, hzs], ?_⟩
  have := heap_alloc_new w.drew (.cells (olds.toArray ++ Builtin.zeroCells z.cells l ++ Builtin.zeroCells z.cells (grownCap w (sLen + l) sCap e - (sLen + l))) e)
  have e1 : w.drew.heap.size = w.heap.size := rfl
  rw [e1, Array.append_assoc] at this
  rw [this]
  congr 2
  apply Array.ext'
  simp
end

/-- Two rows of two blocks do not overlap. -/
theorem run_overlaps {P : Program} {w : World} {t u e : TypeId} {rs : Array TypeId} (ht : P.underlying t = some (.slice e)) {i : TypeInfo} (hi : P.info? e = some i) {g h o p : Nat} {la lb ca cb : Nat} {cs ds : Array Value} {te td : TypeId}
    (hne : g ≠ h) (hg : w.heap[g]? = some (.cells cs te (0, 0))) (hh : w.heap[h]? = some (.cells ds td (0, 0))) :
    (Extern.SlicesOverlaps.overlaps #[t, u] rs #[.slice (some ⟨g, p, none⟩) la ca, .slice (some ⟨h, o, none⟩) lb cb]).run P w = .ok (.bool false) w := by
  change Sem.run P (underlying t >>= fun d => _) w = _
  rw [Sem.run_bind, run_underlying ht, Result.andThen_ok]
  change Sem.run P (sizeOf e >>= fun d => _) w = _
  rw [Sem.run_bind]
  have hs : (sizeOf e).run P w = .ok i.size w := by simp [sizeOf, typeInfo, hi]
  rw [hs, Result.andThen_ok]
  dsimp only
  have f1 : ∀ x, w.frozen? ⟨g, x, none⟩ = false := fun x => frozen_of_row w g x cs te hg
  have f2 : ∀ x, w.frozen? ⟨h, x, none⟩ = false := fun x => frozen_of_row w h x ds td hh
  have hb : (g == h) = false := beq_eq_false_iff_ne.2 hne
  by_cases hz : la = 0 ∨ lb = 0 ∨ i.size = 0
  · simp [hz]
  · simp [hz, hb, hne, frozen, Sem.run, f1, f2, noView, mayBeOne, stringish, World.shape?, hg, hh, viewAt]
theorem splice_at {α : Type} {a b cs : List α} {off : Nat} (h : a.length = off) : splice (a ++ b) off cs = a ++ (cs ++ b.drop cs.length) := by
  subst h
  unfold splice
  rw [List.take_left, List.drop_append, List.drop_eq_nil_of_le (by omega), List.nil_append, Nat.add_sub_cancel_left]
theorem grown_then {w a b : World} {g : Nat} {r : Option Nat} (h1 : w.grownBy a r) (h2 : a.grownBy b (some g)) (hg : w.heap.size ≤ g) : w.grownBy b r :=
  ⟨h2.os.trans h1.os, h2.tape.trans h1.tape, h2.output.trans h1.output, Nat.le_trans h1.size h2.size, fun k hk hr => (h2.block k (Nat.lt_of_lt_of_le hk h1.size) (fun e => by injection e with e; omega)).trans (h1.block k hk hr)⟩
theorem grown_any {w a : World} {r : Option Nat} (h1 : w.grownBy a none) : w.grownBy a r := ⟨h1.os, h1.tape, h1.output, h1.size, fun k hk _ => h1.block k hk (fun e => by cases e)⟩
theorem grown_drew {w a : World} {r : Option Nat} (h : w.grownBy a r) : w.grownBy a.drew r := ⟨h.os, h.tape, h.output, h.size, h.block⟩
theorem grown_two {w a b : World} {r : Option Nat} (h1 : w.grownBy a r) (h2 : a.grownBy b r) : w.grownBy b r :=
  ⟨h2.os.trans h1.os, h2.tape.trans h1.tape, h2.output.trans h1.output, Nat.le_trans h1.size h2.size, fun k hk hr => (h2.block k (Nat.lt_of_lt_of_le hk h1.size) hr).trans (h1.block k hk hr)⟩
theorem grow_ow {w5 : World} {base : Nat} {e : TypeId} {s H n c3 i : Nat} {xs v zs rest : List Value} (hx : xs.length = n * s) (hv : v.length = s) (hz : zs.length = (n + 1 - i) * s) (hr : rest.length = (c3 - (n + 1)) * s) (hi : i < n) (hc : n + 1 ≤ c3) (hc2 : c3 ≤ maxLen) (hb : base ≤ H)
    (h : w5.heap[H]? = some (.cells (splice (splice (xs.take (i * s) ++ (zs ++ rest)) (i * s) v) ((i + 1) * s) (xs.drop (i * s))).toArray e (0, 0))) : Ow w5 base e s (some ⟨H, 0, none⟩) (n + 1) c3 (xs.take (i * s) ++ (v ++ xs.drop (i * s))) := by
  have hle : i * s ≤ n * s := Nat.mul_le_mul_right _ (by omega)
  have ht : (xs.take (i * s)).length = i * s := by rw [List.length_take, hx, Nat.min_eq_left hle]
  rw [splice_at ht, hv, ← List.append_assoc, splice_at (by rw [List.length_append, ht, hv, Nat.add_mul, Nat.one_mul])] at h
  refine ⟨?_, .inr ⟨H, 0, [], ((zs ++ rest).drop s).drop (xs.drop (i * s)).length, rfl, hb, ?_, rfl, hc, hc2, ?_⟩⟩
  · rw [List.length_append, List.length_append, ht, hv, List.length_drop, hx, Nat.add_mul, Nat.one_mul]
    omega
  · rw [h, List.nil_append]
    congr 3
    simp
  · rw [List.length_drop, List.length_drop, List.length_append, hz, hr, List.length_drop, hx]
    have e1 : (n + 1 - i) * s = n * s - i * s + s := by rw [show n + 1 - i = (n - i) + 1 by omega, Nat.add_mul, Nat.one_mul, Nat.sub_mul]
    omega
theorem room_ow {w5 : World} {base : Nat} {e : TypeId} {s g off n cap i : Nat} {pre post xs v : List Value} (hx : xs.length = n * s) (hv : v.length = s) (hp : pre.length = off) (hpo : (cap - n) * s ≤ post.length) (hi : i < n) (hc : n + 1 ≤ cap) (hc2 : cap ≤ maxLen) (hb : base ≤ g)
    (h : w5.heap[g]? = some (.cells (splice (splice (pre ++ (xs ++ post)) (off + (i + 1) * s) (xs.drop (i * s))) (off + i * s) v).toArray e (0, 0))) : Ow w5 base e s (some ⟨g, off, none⟩) (n + 1) cap (xs.take (i * s) ++ (v ++ xs.drop (i * s))) := by
  have hle : i * s ≤ n * s := Nat.mul_le_mul_right _ (by omega)
  have hs1 : s ≤ (cap - n) * s := Nat.le_mul_of_pos_left s (by omega)
  have hsn : (i + 1) * s ≤ n * s := Nat.mul_le_mul_right _ (by omega)
  rw [Nat.add_mul, Nat.one_mul] at hsn
  have ht : (xs.take (i * s)).length = i * s := by rw [List.length_take, hx, Nat.min_eq_left hle]
  -- the whole row, parted where it is written
  have hcur : pre ++ (xs ++ post) = (pre ++ xs.take (i * s)) ++ ((xs.drop (i * s)).take s ++ ((xs.drop (i * s)).drop s ++ post)) := by
    rw [← List.append_assoc ((xs.drop (i * s)).take s), List.take_append_drop, List.append_assoc, ← List.append_assoc (xs.take (i * s)), List.take_append_drop]
  have hl1 : ((xs.drop (i * s)).take s).length = s := by rw [List.length_take, List.length_drop, hx]; omega
  rw [hcur, ← List.append_assoc (pre ++ xs.take (i * s)), splice_at (by rw [List.length_append, List.length_append, hp, ht, hl1, Nat.add_mul, Nat.one_mul]; omega), List.append_assoc, splice_at (by rw [List.length_append, hp, ht]), hv] at h
  have hd : List.drop s ((xs.drop (i * s)).take s ++ (xs.drop (i * s) ++ List.drop (xs.drop (i * s)).length ((xs.drop (i * s)).drop s ++ post))) = xs.drop (i * s) ++ post.drop s := by
    rw [List.drop_append, List.drop_eq_nil_of_le (by omega), List.nil_append, hl1, Nat.sub_self, List.drop_zero]
    congr 1
    rw [List.drop_append, List.drop_eq_nil_of_le (by simp only [List.length_drop]; omega), List.nil_append]
    congr 1
    simp only [List.length_drop, hx]
    omega
  rw [hd] at h
  refine ⟨?_, .inr ⟨g, off, pre, post.drop s, rfl, hb, ?_, hp, hc, hc2, ?_⟩⟩
  · rw [List.length_append, List.length_append, ht, hv, List.length_drop, hx, Nat.add_mul, Nat.one_mul]
    omega
  · rw [h]
    congr 3
    simp
  · rw [List.length_drop, show cap - (n + 1) = cap - n - 1 by omega, Nat.sub_mul, Nat.one_mul]
    omega
/-- What an insertion leaves. -/
def InsPost (W : World) (base : Nat) (e : TypeId) (s : Nat) (A : Option Addr) (n : Nat) (ys : List Value) (r : Ending) (w' : World) : Prop :=
  ∃ A' cap', r = .returned (.slice A' (n + 1) cap') ∧ Ow w' base e s A' (n + 1) cap' ys ∧ W.grownBy w' (blk A) ∧ (blk A' = blk A ∨ ∃ g, blk A' = some g ∧ W.heap.size ≤ g)
theorem ins_post {W w' : World} {base : Nat} {e : TypeId} {s n cap' : Nat} {A A' : Option Addr} {ys : List Value} {r : Ending} (hr : r = .returned (.slice A' (n + 1) cap')) (h1 : Ow w' base e s A' (n + 1) cap' ys) (h2 : W.grownBy w' (blk A)) (h3 : blk A' = blk A ∨ blk A' = some W.heap.size) : InsPost W base e s A n ys r w' :=
  ⟨A', cap', hr, h1, h2, h3.imp id (fun h => ⟨_, h, Nat.le_refl _⟩)⟩
end Go.Proofs.Ytdemnbbofigcdaa
