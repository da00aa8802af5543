/- Merge. -/
import Derived.Test.YtlkindlbllbmgaaSortedA
import Derived.StillTailTactics
import Derived.Deep.QuietTactic
import Derived.BigQuiet
namespace Go.Proofs.Ytlkindlbllbmgaa
open Go.RowKit

theorem merge_take {s : List Iv} {k : Nat} (hk : k < s.length) : merge (s.take (k + 1)) = mstep (merge (s.take k)) (lx s k, ly s k) := by
  rw [List.take_succ_eq_append_getElem hk, merge_snoc, lxy_at hk]
theorem own_shape {w : World} {base e size n : Nat} {v : Value} {xs : List Value} (h : w.ownsRow base e size v n xs) : ∃ A cap, v = .slice A n cap ∧ n ≤ cap := by
  rcases h.2 with ⟨rfl, rfl⟩ | ⟨g, cap, cur, rfl, _, _, h1, _⟩
  · exact ⟨none, 0, rfl, Nat.le_refl _⟩
  · exact ⟨_, cap, rfl, h1⟩
theorem own_addr {w : World} {base e size n cap : Nat} {A : Option Addr} {xs : List Value} (h : w.ownsRow base e size (.slice A n cap) n xs) (hn : 0 < n) : ∃ g, A = some ⟨g, 0, none⟩ ∧ base ≤ g ∧ g < w.heap.size := by
  rcases h.2 with ⟨_, rfl⟩ | ⟨g, cap, cur, hv, hb, hg, _⟩
  · omega
  · injection hv with h1
    exact ⟨g, h1, hb, (Array.getElem?_eq_some_iff.1 hg).1⟩
/-- A region that draws its order, whose last operations stand in one order: the reads first, in the world behind the draw. -/
theorem still_tail {P : Program} {id : Nat} {Q : Exit → Act → World → Prop} {a : Act} {w : World} {l : List Oper} (n : Nat) (hm : P.follows .mixedOrders = true) (hB : Region.lexTailB .any l.toArray n = true)
    (h : wpStill P l.toArray w.drew (fun a' => wpList P l.toArray Q (l.drop n) a' w.drew) (l.take n) a) : (Code.region id l.toArray true).wp P Q a w := wp_region_still_tail n hm hB h
theorem frozen_new {w : World} {o : Obj} {a : Addr} (h : a.block < w.heap.size) : (w.alloc o).frozen? a = w.frozen? a := World.frozen?_alloc_old _ _ _ (by omega)
theorem own_drewN {w : World} {base e size n : Nat} {v : Value} {xs : List Value} (h : w.ownsRow base e size v n xs) (k : Nat) : (w.drewN k).ownsRow base e size v n xs := h
theorem own_set {w : World} {base e cv g : Nat} {o : List Iv} {q : Iv} (h : w.ownsRow base e 2 (.slice (some ⟨g, 0, none⟩) (o.length + 1) cv) (o.length + 1) (cellsL (o ++ [q]))) (y : Int) :
    (w.setCell { block := ((⟨g, 0, none⟩ : Addr).add (o.length * 2)).block, off := ((⟨g, 0, none⟩ : Addr).add (o.length * 2)).off + 1 } (.int .i64 y)).ownsRow base e 2 (.slice (some ⟨g, 0, none⟩) (o.length + 1) cv) (o.length + 1) (cellsL (o ++ [(q.1, y)])) := by
  rw [add_pos]
  have k := (h.stored (o.length * 2 + 1) (.int .i64 y)).1
  rw [cellsL_snoc_set] at k
  exact k
theorem new_cells2q {w : World} {o1 : Obj} {x y : Value} {T : TypeId} {nq j : Nat} {u : Value} (h : [x, y][j]? = some u) : (((w.alloc o1).alloc (.cells #[x, y] T)).drewN nq).cell? ((⟨w.heap.size + 1, 0, none⟩ : Addr).add j) = some u := by
  have k := new_cells2 (w := w.alloc o1) (T := T) h
  rw [World.size_alloc] at k
  exact k
theorem below_appendq {W w w2 : World} {o1 o2 : Obj} {nq base e size n : Nat} {v : Value} {xs : List Value} (h : Below W.heap.size W w) (hg : (((w.alloc o1).alloc o2).drewN nq).grownBy w2 v.ownBlock) (ho : w.ownsRow base e size v n xs) (hb : W.heap.size ≤ base) : Below W.heap.size W w2 := by
  have h1 := (h.alloc h.size o1)
  exact (below_drewN (h1.alloc (Nat.le_trans h.size (by simp)) o2) nq).grown hg (Nat.le_trans h.size (by show _ ≤ ((w.alloc o1).alloc o2).heap.size; simp; omega)) (fun k hk => Nat.le_trans hb (ho.lt k hk).1)

/-- A set in Merge's form is handed back in new memory. -/
def SetPost (W : World) (S : Int → Prop) (e : Ending) (w' : World) : Prop :=
  ∃ A cap m, e = .returned (.slice A m.length cap) ∧ m.length ≤ cap ∧ Ivs w' w'.heap.size A m ∧ isSet m S ∧ Below W.heap.size W w'

set_option maxRecDepth 100000 in
set_option maxHeartbeats 2000000 in
theorem merge_any (A : Option Addr) (l : List Iv) (cap : Nat) (w : World) (hp : Ivs w w.heap.size A l) (hmax : l.length ≤ 100000000) :
    Calls Try.prog 26 #[.slice A l.length cap] w (SetPost w (cov l)) := by
  have hS := Lib.hid (sorted_any A l cap w hp hmax)
  clear hp
  obtain ⟨i0, hi, hz0, hz1, hz2⟩ := info_parts info_iv
  have hI := Lib.hid (And.intro hi (And.intro hz0 (And.intro hz1 hz2)))
  clear hi hz0 hz1 hz2
  go_enter Try.func26, Try.ntmps26
  go_wp2_with (go_at_call 40; refine hS.out.mono ?_; rintro e w1 ⟨B, capB, s, rfl, hs, hperm, hpair, hb⟩; (have hM := Lib.hid (merged hperm hpair)); (have hSl := Lib.hid (Nat.le_trans (Nat.le_of_eq hperm.length_eq) (List.length_filter_le _ _))); (have hs := Lib.hid hs); (have hB1 := Lib.hid hb); clear hb hperm hpair)
  go_loopw [3, 10] (fun v i wr => ∃ (k n : Nat), k ≤ s.length ∧ i = .int .i64 k ∧ wr.ownsRow w1.heap.size 38 2 v n (cellsL (merge (s.take k))) ∧ Below w1.heap.size w1 wr) (fun _ i _ => s.length - (intOf i).toNat)
  case atStart => exact ⟨0, 0, by omega, rfl, World.ownsRow_nil _ _ _ _, Below.refl _ _⟩
  case round =>
    obtain ⟨k, n, hk, rfl, hown, hb⟩ := hrel
    have hsl := hSl.out
    have hnk : n ≤ k := by
      have := hown.1
      rw [cellsL_len] at this
      have := merge_len _ (s.take k) rfl
      rw [List.length_take] at this
      omega
    have hOwn := Lib.hid hown
    clear hown
    by_cases hlt : k < s.length
    · obtain ⟨ad, rfl, hc⟩ := hs.out.get hlt
      obtain ⟨hx0, hy0⟩ := hc wr hb
      have hb' := Lib.hid hb
      clear hb hc
      have hst := Lib.hid (merge_take hlt)
      rcases List.eq_nil_or_concat (merge (s.take k)) with hm | ⟨o, q, hm⟩
      · obtain rfl : n = 0 := by
          have := hOwn.out.1
          rw [hm, cellsL_len] at this
          simp at this
          omega
        obtain ⟨Av, cv, rfl, _⟩ := own_shape hOwn.out
        have hF := Lib.hid (show cellsL (merge (s.take (k + 1))) = cellsL (merge (s.take k)) ++ [.int .i64 (lx s k), .int .i64 (ly s k)] by rw [hst.out, hm]; rfl)
        clear hm hst
        go_wp2
        go_quiet (fail)
        go_wp2_with (at_builtin; refine wpList_append_own _ rfl _ _ 30 rfl w1.heap.size 38 i0 (.agg #[.int .i64 0, .int .i64 0]) 2 16 Try.underlying30 hI.out.1 hI.out.2.1 hI.out.2.2.1 hI.out.2.2.2 rfl (by decide) _ 0 _ rfl (own_drewN ((hOwn.out.alloc _).alloc _) _) ⟨wr.heap.size + 1, 0, none⟩ 1 1 [.int .i64 (lx s k), .int .i64 (ly s k)] rfl rfl (fun j u hj => new_cells2q hj) (fun u hu => two_one hu) (by unfold maxLen; omega) (by omega) (by have := hb'.out.size; show _ ≤ ((wr.alloc _).alloc _).heap.size; simp; omega) ?_; intro v' w3 hown' hgrow _)
        have R1 := Lib.hid hown'
        have R2 := Lib.hid (below_appendq hb'.out hgrow hOwn.out (Nat.le_refl _))
        clear hown' hgrow
        go_wp2
        exact ⟨⟨k + 1, 0 + 1, hlt, by go_num, by rw [hF.out]; exact R1.out, R2.out⟩, by simp [intOf]; omega⟩
      · rw [List.concat_eq_append] at hm
        obtain rfl : n = o.length + 1 := by
          have := hOwn.out.1
          rw [hm, cellsL_len] at this
          simp at this
          omega
        obtain ⟨Av, cv, rfl, hcv⟩ := own_shape hOwn.out
        obtain ⟨g, rfl, hg1, hg2⟩ := own_addr hOwn.out (by omega)
        rw [hm] at hOwn
        have hIv := (own_ivs hOwn.out).2
        obtain ⟨_, hA, _, hcell⟩ := hIv (by simp)
        injection hA with hA
        subst hA
        have hc2 := (hcell o.length (by simp)).2
        rw [show ly (o ++ [q]) o.length = q.2 by rw [ly_at (by simp)]; simp] at hc2
        have hfr : wr.frozen? { block := ((⟨g, 0, none⟩ : Addr).add (o.length * 2)).block, off := ((⟨g, 0, none⟩ : Addr).add (o.length * 2)).off + 1 } = false := by
          rw [add_pos]
          exact hOwn.out.frozenAt _
        have hSet := Lib.hid (fun (ob : Obj) (nq : Nat) (y : Int) => own_set (own_drewN (hOwn.out.alloc ob) nq) y)
        have hBel := Lib.hid (fun (ob : Obj) (nq : Nat) (u : Value) => Below.setCell (below_drewN (hb'.out.alloc hb'.out.size ob) nq) (p := { block := ((⟨g, 0, none⟩ : Addr).add (o.length * 2)).block, off := ((⟨g, 0, none⟩ : Addr).add (o.length * 2)).off + 1 }) (by show _ ≤ ((⟨g, 0, none⟩ : Addr).add (o.length * 2)).block; rw [block_of_add]; exact hg1) u)
        clear hIv hcell
        generalize (⟨g, 0, none⟩ : Addr) = a2 at *
        have hb2 : a2.block < wr.heap.size := by
          have := World.block_lt_of_cell? _ _ hc2
          rwa [show ({ block := (a2.add (o.length * 2)).block, off := (a2.add (o.length * 2)).off + 1 } : Addr).block = a2.block from block_of_add _ _] at this
        have c2 : ∀ ob, (wr.alloc ob).cell? { block := (a2.add (o.length * 2)).block, off := (a2.add (o.length * 2)).off + 1 } = some (.int .i64 q.2) := fun ob => (World.cell?_alloc_lt wr ob _ (by rw [block_of_add]; exact hb2)).trans hc2
        have f2 : ∀ ob, (wr.alloc ob).frozen? { block := (a2.add (o.length * 2)).block, off := (a2.add (o.length * 2)).off + 1 } = false := fun ob => (frozen_new (by show (a2.add (o.length * 2)).block < _; rw [block_of_add]; exact hb2)).trans hfr
        have hi1 : (o.length : Int) < (o.length : Int) + 1 := by omega
        clear hc2 hfr hb2 hg1 hg2
        by_cases hj : lx s k ≤ q.2
        · have hF := Lib.hid (show merge (s.take (k + 1)) = o ++ [(q.1, max q.2 (ly s k))] by rw [hst.out, hm]; exact mstep_join hj)
          clear hm hst
          go_wp2
          go_quiet (fail)
          go_wp2
          refine still_tail 12 (by kernel_rfl) (by kernel_rfl) ?_
          simp only [List.take_succ_cons, List.take_zero, List.drop_succ_cons, List.drop_zero]
          repeat still_step
          refine wpStill_nil ?_
          go_wp2
          exact ⟨⟨k + 1, o.length + 1, hlt, by go_num, by rw [hF.out]; exact hSet.out _ _ _, hBel.out _ _ _⟩, by simp [intOf]; omega⟩
        · have hF := Lib.hid (show cellsL (merge (s.take (k + 1))) = cellsL (o ++ [q]) ++ [.int .i64 (lx s k), .int .i64 (ly s k)] by rw [hst.out, hm, mstep_new (v := (lx s k, ly s k)) hj, cellsL_append]; rfl)
          have hdec : decide (lx s k ≤ q.2) = false := decide_eq_false hj
          clear hm hst
          go_wp2
          go_quiet (fail)
          go_wp2_with (at_builtin; refine wpList_append_own _ rfl _ _ 30 rfl w1.heap.size 38 i0 (.agg #[.int .i64 0, .int .i64 0]) 2 16 Try.underlying30 hI.out.1 hI.out.2.1 hI.out.2.2.1 hI.out.2.2.2 rfl (by decide) _ (o.length + 1) _ rfl (own_drewN ((hOwn.out.alloc _).alloc _) _) ⟨wr.heap.size + 1, 0, none⟩ 1 1 [.int .i64 (lx s k), .int .i64 (ly s k)] rfl rfl (fun j u hj => new_cells2q hj) (fun u hu => two_one hu) (by unfold maxLen; omega) (by omega) (by have := hb'.out.size; show _ ≤ ((wr.alloc _).alloc _).heap.size; simp; omega) ?_; intro v' w3 hown' hgrow _)
          have R1 := Lib.hid hown'
          have R2 := Lib.hid (below_appendq hb'.out hgrow hOwn.out (Nat.le_refl _))
          clear hown' hgrow
          go_wp2
          exact ⟨⟨k + 1, o.length + 1 + 1, hlt, by go_num, by rw [hF.out]; exact R1.out, R2.out⟩, by simp [intOf]; omega⟩
    · obtain rfl : k = s.length := by omega
      rw [List.take_length] at hOwn
      obtain ⟨Av, cv, rfl, hcap⟩ := own_shape hOwn.out
      obtain ⟨hn, hIv⟩ := own_ivs hOwn.out
      subst hn
      have hfin := Lib.hid (show SetPost w (cov l) (.returned (.slice Av (merge s).length cv)) wr from ⟨Av, cv, merge s, rfl, hcap, hIv, hM.out, hB1.out.trans (hb.mono hB1.out.size)⟩)
      clear hIv hb hOwn hcap
      go_wp2
      go_ret
      exact hfin.out
end Go.Proofs.Ytlkindlbllbmgaa
