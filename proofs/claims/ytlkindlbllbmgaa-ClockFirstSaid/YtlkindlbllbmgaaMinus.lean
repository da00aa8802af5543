/- Minus. -/
import Derived.Test.YtlkindlbllbmgaaMinusW
import Derived.Deep.RegionHeld3
import Derived.Deep.AppendLies
import Derived.WalkSpells
namespace Go.Proofs.Ytlkindlbllbmgaa
open Go.RowKit

theorem new_cells2d {w : World} {x y : Value} {T : TypeId} {nq j : Nat} {u : Value} (h : [x, y][j]? = some u) : ((w.alloc (.cells #[x, y] T)).drewN nq).cell? ((⟨w.heap.size, 0, none⟩ : Addr).add j) = some u := new_cells2 h
theorem below_append1 {W w w2 : World} {o1 : Obj} {nq base e size n : Nat} {v : Value} {xs : List Value} (h : Below W.heap.size W w) (hg : ((w.alloc o1).drewN nq).grownBy w2 v.ownBlock) (ho : w.ownsRow base e size v n xs) (hb : W.heap.size ≤ base) : Below W.heap.size W w2 :=
  (below_drewN (h.alloc h.size o1) nq).grown hg (Nat.le_trans h.size (by show _ ≤ (w.alloc o1).heap.size; simp)) (fun k hk => Nat.le_trans hb (ho.lt k hk).1)
theorem below_append2 {W w w2 : World} {o1 : Obj} {nq base e size n : Nat} {v : Value} {xs : List Value} (h : Below W.heap.size W w) (hg : ((w.drewN nq).alloc o1).grownBy w2 v.ownBlock) (ho : w.ownsRow base e size v n xs) (hb : W.heap.size ≤ base) : Below W.heap.size W w2 :=
  ((below_drewN h nq).alloc h.size o1).grown hg (Nat.le_trans h.size (by show _ ≤ (w.alloc o1).heap.size; simp)) (fun k hk => Nat.le_trans hb (ho.lt k hk).1)
theorem new_cells2e {w : World} {x y : Value} {T : TypeId} {nq j : Nat} {u : Value} (h : [x, y][j]? = some u) : ((w.drewN nq).alloc (.cells #[x, y] T)).cell? ((⟨w.heap.size, 0, none⟩ : Addr).add j) = some u := new_cells2 (w := w.drewN nq) h
theorem lies_apart {w : World} {gg n cap H vb : Nat} {v : Value} (h : v.ownBlock = some gg ∨ gg = H) (hH : w.heap.size ≤ H) (hv : vb < w.heap.size) (hne : v.ownBlock ≠ some vb) : (Value.slice (some ⟨gg, 0, none⟩) n cap).ownBlock ≠ some vb := fun e => by
  have e : gg = vb := by simpa [Value.ownBlock] using e
  subst e
  rcases h with k | k
  · exact hne k
  · omega
theorem own_apart {w : World} {base e size n : Nat} {v : Value} {xs : List Value} (h : w.ownsRow base e size v n xs) : v.ownBlock ≠ some w.heap.size := fun e => by
  have := (h.lt _ e).2
  omega
theorem add_2 (a : Addr) : a.add 2 = { block := a.block, off := a.off + 2 } := by unfold Addr.add; simp
theorem tk_next {w2 : World} {B T : List Iv} {j n ct : Nat} {a : Addr} {b : Iv} (hn : n + 1 + j = B.length) (hT : Ivs w2 w2.heap.size (some a) (b :: T)) (hd : B.drop (j + 1) = T) (hc : n + 1 ≤ ct) :
    Tk w2 B (j + 1) (.slice (some { block := a.block, off := a.off + 2 }) n (ct - 1)) :=
  ⟨_, _, _, rfl, (show n + (j + 1) = B.length by omega), by rw [hd, ← add_2]; exact hT.tail, by omega⟩
theorem tk_none {w2 : World} {B : List Iv} {j n : Nat} {A : Option Addr} (hn : n + 1 + j = B.length) (h0 : n = 0) : Tk w2 B (j + 1) (.slice A n 0) :=
  ⟨_, _, _, rfl, (show n + (j + 1) = B.length by omega), by rw [List.drop_eq_nil_of_le (by omega)]; exact Ivs.none_, by omega⟩

section
variable {MA MB : List Iv} {k j : Nat} {out T : List Iv} {f : Int} {b : Iv}
theorem ok_at (hA : plainL MA) (hk : k < MA.length) : okP (lx MA k, ly MA k) := by rw [lxy_at hk]; exact hA.1 _ (List.getElem_mem hk)
theorem to_outer (hA : plainL MA) (hk : k < MA.length) (h : Inner MA MB k j (lx MA k, ly MA k) out f) {o : List Iv} (hp : plainL o) (hc : ∀ t, cov o t ↔ (cov (MA.take k) t ∨ lx MA k ≤ t ∧ t < ly MA k) ∧ ¬ cov MB t)
    (ho : ∀ q, q ∈ o → q.2 ≤ ly MA k) : Outer MA MB (k + 1) j o := by
  rw [lxy_at hk] at h
  rw [lx_at hk, ly_at hk] at hc
  rw [ly_at hk] at ho
  exact h.next hA hk hp hc ho
theorem cut_le (hA : plainL MA) (hk : k < MA.length) (hB : plainL MB) (h : Inner MA MB k j (lx MA k, ly MA k) out f) (hd : MB.drop j = b :: T) (hb : b.1 < ly MA k) (hf : f < b.1) (hle : max f b.2 ≤ ly MA k) :
    Inner MA MB k (j + 1) (lx MA k, ly MA k) (out ++ [(f, b.1)]) (max f b.2) := by
  have hb2 := (head_cov hB hd).1.2.1
  have e : max f b.2 = b.2 := by omega
  rw [e] at hle ⊢
  exact (h.cut hB (ok_at hA hk) hd hb hf).1 hle
theorem cut_gt (hA : plainL MA) (hk : k < MA.length) (hB : plainL MB) (h : Inner MA MB k j (lx MA k, ly MA k) out f) (hd : MB.drop j = b :: T) (hb : b.1 < ly MA k) (hf : f < b.1) (hgt : ¬ max f b.2 ≤ ly MA k) :
    Outer MA MB (k + 1) j (out ++ [(f, b.1)]) := by
  have hb2 := (head_cov hB hd).1.2.1
  have e : max f b.2 = b.2 := by omega
  rw [e] at hgt
  obtain ⟨c1, c2, c3⟩ := (h.cut hB (ok_at hA hk) hd hb hf).2 (by omega)
  exact to_outer hA hk h c1 c2 c3
theorem skip_le (hB : plainL MB) (h : Inner MA MB k j (lx MA k, ly MA k) out f) (hd : MB.drop j = b :: T) (hf : ¬ f < b.1) (hle : max f b.2 ≤ ly MA k) :
    Inner MA MB k (j + 1) (lx MA k, ly MA k) out (max f b.2) := (h.skip hB hd (by omega)).1 hle
theorem skip_gt (hA : plainL MA) (hk : k < MA.length) (hB : plainL MB) (h : Inner MA MB k j (lx MA k, ly MA k) out f) (hd : MB.drop j = b :: T) (hf : ¬ f < b.1) (hgt : ¬ max f b.2 ≤ ly MA k) :
    Outer MA MB (k + 1) j out :=
  to_outer hA hk h h.plain ((h.skip hB hd (by omega)).2 (by show ly MA k < _; omega)) (fun q hq => by have := h.out q hq; have := h.hi; simp only at this; omega)
theorem rest_yes (hA : plainL MA) (hk : k < MA.length) (h : Inner MA MB k j (lx MA k, ly MA k) out f) (hr : restFree MB j (ly MA k)) (hf : f < ly MA k) : Outer MA MB (k + 1) j (out ++ [(f, ly MA k)]) := by
  obtain ⟨c1, c2, c3⟩ := h.rest (ok_at hA hk) hr hf
  exact to_outer hA hk h c1 c2 c3
theorem rest_no (hA : plainL MA) (hk : k < MA.length) (h : Inner MA MB k j (lx MA k, ly MA k) out f) (hf : ¬ f < ly MA k) : Outer MA MB (k + 1) j out :=
  to_outer hA hk h h.plain (h.full hf) (fun q hq => by have := h.out q hq; have := h.hi; simp only at this; omega)
end

set_option maxRecDepth 100000 in
set_option maxHeartbeats 8000000 in
theorem minus_any (A B : Option Addr) (a b : List Iv) (ca cb : Nat) (w : World) (ha : Ivs w w.heap.size A a) (hb : Ivs w w.heap.size B b) (hma : a.length ≤ 100000000) (hmb : b.length ≤ 100000000) :
    Calls Try.prog 32 #[.slice A a.length ca, .slice B b.length cb] w (SetPost w (fun t => cov a t ∧ ¬ cov b t)) := by
  have hS1 := Lib.hid (merge_any B b cb w hb hmb)
  have hS2 := Lib.hid (fun w1 (h : Below w.heap.size w w1) => merge_any A a ca w1 ((ha.below h).more h.size) hma)
  clear ha hb
  obtain ⟨i0, hi, hz0, hz1, hz2⟩ := info_parts info_iv
  have hI := Lib.hid (And.intro hi (And.intro hz0 (And.intro hz1 hz2)))
  clear hi hz0 hz1 hz2
  have tok : True := trivial
  go_enter Try.func32, Try.ntmps32
  go_wp2_with (first
    | (go_at_call 26; have _t := tok; refine hS1.out.mono ?_; rintro e w1 ⟨B1, cB, MB, rfl, hcap, hm, hset, hbel⟩; (have hMB := Lib.hid hset); (have hIB := Lib.hid hm); (have hB1 := Lib.hid hbel); (have hcB := Lib.hid hcap); clear hset hm hbel hcap tok _t)
    | (go_at_call 26; refine (hS2.out _ hB1.out).mono ?_; rintro e w2 ⟨A2, cA, MA, rfl, _, hm, hset, hbel⟩; (have hMA := Lib.hid hset); (have hIA := Lib.hid hm); (have hB2 := Lib.hid hbel); (have hml := plain_len hMA.out.1); clear hset hm hbel))
  go_loopw [5, 6, 14] (fun vv tk i wr => ∃ (k n j : Nat) (out : List Iv), k ≤ MA.length ∧ i = .int .i64 k ∧ wr.ownsRow w2.heap.size 38 2 vv n (cellsL out) ∧ Tk w2 MB j tk ∧ Below w2.heap.size w2 wr ∧ Hid (Outer MA MB k j out)) (fun _ _ i _ => MA.length - (intOf i).toNat)
  case atStart => exact ⟨0, 0, 0, [], by omega, rfl, World.ownsRow_nil _ _ _ _, ⟨B1, MB.length, cB, rfl, Lib.hid rfl, Lib.hid ((hIB.out.below hB2.out).more hB2.out.size), hcB.out⟩, Below.refl _ _, Lib.hid (Outer.start MA MB)⟩
  case round =>
    obtain ⟨wo, rfl⟩ : ∃ wo, wo = wr := ⟨wr, rfl⟩
    obtain ⟨k, n, j, out, hk, rfl, hown, htk, hb, hO⟩ := hrel
    by_cases hlt : k < MA.length
    · obtain ⟨ad, rfl, hc⟩ := hIA.out.get hlt
      obtain ⟨hx0, hy0⟩ := hc wo hb
      obtain ⟨p1, p2, p3⟩ := plain_at hMA.out.1 hlt
      have hIn0 := hO.out.inner hMA.out.1 hlt
      rw [← lxy_at hlt] at hIn0
      have hIn := Lib.hid hIn0
      have hOwn := Lib.hid hown
      have hWo := Lib.hid hb.size
      have hb' := Lib.hid hb
      have htk' := Lib.hid htk
      clear hb hc hown hIn0 hO htk
      go_wp2
      go_loopw [5, 6] (fun vv tk wr2 => ∃ (n j : Nat) (out : List Iv) (f : Int), wr2.ownsRow w2.heap.size 38 2 vv n (cellsL out) ∧ Hid (vv.ownBlock ≠ some wo.heap.size) ∧ Tk w2 MB j tk ∧ Two wr2 wo.heap.size (.int .i64 f) (.int .i64 (ly MA k)) ∧ Below w2.heap.size w2 wr2 ∧ Hid (Inner MA MB k j (lx MA k, ly MA k) out f)) (fun _ tk _ => lenOf tk)
      case atStart => exact ⟨n, j, out, lx MA k, hOwn.out.alloc _, Lib.hid (own_apart hOwn.out), htk'.out, Two.new _ _ _, hb'.out.alloc hb'.out.size _, hIn⟩
      case round =>
        clear hOwn htk' hIn hx0 hy0 hb'
        obtain ⟨n', j', out', f, hown2, hne, ⟨At, nT, ct, rfl, hnj, hT, hct⟩, htwo, hb2, hI2⟩ := hrel
        have hn' : n' ≤ 20000000 := by
          have := hown2.1
          rw [cellsL_len] at this
          have := plain_len hI2.out.plain
          omega
        have hOwn := Lib.hid hown2
        have t0 := htwo.cell0
        have t1 := htwo.cell1
        have t2 := htwo.free0
        have hTwo := Lib.hid htwo
        have hb' := Lib.hid hb2
        rcases nT with _ | nT
        · have hr := Lib.hid (show restFree MB j' (ly MA k) from restFree_nil (by have := hnj.out; omega))
          have hTk := Lib.hid (show Tk w2 MB j' (.slice At 0 ct) from ⟨At, 0, ct, rfl, hnj, hT, hct⟩)
          clear hown2 htwo hb2
          by_cases hf : f < ly MA k
          · have hE := Lib.hid (rest_yes hMA.out.1 hlt hI2.out hr.out hf)
            go_wp2
            go_quiet (fail)
            go_wp2_with (at_builtin; refine wpList_append_lies _ (by rfl) _ _ 30 (by rfl) w2.heap.size 38 i0 (.agg #[.int .i64 0, .int .i64 0]) 2 16 Try.underlying30 hI.out.1 hI.out.2.1 hI.out.2.2.1 hI.out.2.2.2 rfl (by decide) _ n' _ (by rfl) ((own_drewN hOwn.out _).alloc _) ⟨wr.heap.size, 0, none⟩ 1 1 [.int .i64 f, .int .i64 (ly MA k)] (by rfl) (by rfl) (fun j u hj => new_cells2e hj) (fun u hu => two_one hu) (by decide) (by unfold maxLen; omega) (by omega) (by have := hb'.out.size; show _ ≤ (wr.alloc _).heap.size; simp; omega) (wr.heap.size + 1) (by show (wr.alloc _).heap.size = _; simp) ?_; intro gg cap3 w3 hown' hgrow hat hlt'; (have R1 := Lib.hid (own_snoc hown')); (have R2 := Lib.hid (below_append2 hb'.out hgrow hOwn.out (Nat.le_refl _))); clear hown' hgrow hat hlt')
            exact ⟨⟨k + 1, n' + 1, j', _, hlt, by go_num, R1.out, hTk.out, R2.out, hE⟩, by simp [intOf]; omega⟩
          · have hE := Lib.hid (rest_no hMA.out.1 hlt hI2.out hf)
            have hdf : decide (f < ly MA k) = false := decide_eq_false hf
            go_wp2
            go_quiet (fail)
            go_wp2
            exact ⟨⟨k + 1, n', j', _, hlt, by go_num, own_drewN hOwn.out _, hTk.out, below_drewN hb'.out _, hE⟩, by simp [intOf]; omega⟩
        · obtain ⟨b, T, hd1, hd2⟩ := drop_cons hnj.out
          rw [hd1] at hT
          obtain ⟨a2, rfl, hc⟩ := hT.out.head
          obtain ⟨c0, c1⟩ := hc wr hb2
          have hC := Lib.hid hc
          have hd1 := Lib.hid hd1
          have hd2 := Lib.hid hd2
          have hTk := Lib.hid (show Tk w2 MB j' (.slice (some a2) (nT + 1) ct) from ⟨_, _, ct, rfl, hnj, by rw [hd1.out]; exact hT, hct⟩)
          clear hown2 htwo hb2 hc
          by_cases hbv : b.1 < ly MA k
          · by_cases hfb : f < b.1
            · by_cases hle : max f b.2 ≤ ly MA k
              · have hE := Lib.hid (cut_le hMA.out.1 hlt hMB.out.1 hI2.out hd1.out hbv hfb hle)
                by_cases hc1 : ct = 1
                · have h0 : nT = 0 := by omega
                  subst hc1
                  have hOld : w2.heap.size ≤ wo.heap.size := hWo.out
                  go_wp2
                  go_quiet (fail)
                  go_wp2
                  go_quiet (fail)
                  go_wp2
                  go_region_held3 (fun w' => w'.cell? ⟨wo.heap.size, 0, none⟩ = some (.int .i64 f) ∧ w'.cell? a2 = some (.int .i64 b.1))
                    (first
                      | exact ⟨t0, c0⟩
                      | exact ⟨R3.out.cell0, (hC.out _ R2.out).1⟩
                      | exact ⟨((hTwo.out.drewN _).alloc _).cell0, (hC.out _ ((below_drewN hb'.out _).alloc hb'.out.size _)).1⟩
                      | go_keep)
                    ((refine step_append_lies _ (by rfl) _ _ 30 (by rfl) w2.heap.size 38 i0 (.agg #[.int .i64 0, .int .i64 0]) 2 16 Try.underlying30 hI.out.1 hI.out.2.1 hI.out.2.2.1 hI.out.2.2.2 rfl (by decide) _ n' _ (by rfl) ((own_drewN hOwn.out _).alloc _) ⟨wr.heap.size, 0, none⟩ 1 1 [.int .i64 f, .int .i64 b.1] (by rfl) (by rfl) (fun j u hj => new_cells2e hj) (fun u hu => two_one hu) (by decide) (by unfold maxLen; omega) (by omega) (by have := hb'.out.size; show _ ≤ (wr.alloc _).heap.size; simp; omega) (wr.heap.size + 1) (by show (wr.alloc _).heap.size = _; simp) ?_; intro gg cap3 w3 hown' hgrow hat hlt'; (have R0 := Lib.hid (lies_apart (n := n' + 1) (cap := cap3) hat (Nat.le_succ _) hTwo.out.lt hne.out)); (have R1 := Lib.hid (own_snoc hown')); (have R2 := Lib.hid (below_append2 hb'.out hgrow hOwn.out (Nat.le_refl _))); (have R3 := Lib.hid (((hTwo.out.drewN _).alloc _).grown hgrow hne.out)); (have d0 := R3.out.cell0); (have d1 := R3.out.cell1); (have d2 := R3.out.free0); (obtain ⟨e0, e1⟩ := hC.out w3 R2.out); clear hown' hgrow hat hlt'))
                  go_wp2
                  refine still_tail 8 (by kernel_rfl) (by kernel_rfl) ?_
                  simp only [List.take_succ_cons, List.take_zero, List.drop_succ_cons, List.drop_zero]
                  repeat still_step
                  refine wpStill_nil ?_
                  go_wp2
                  exact ⟨⟨n' + 1, j' + 1, _, _, own_drewN (own_setCell R1.out R0.out) 1, R0, tk_none (n := 0) (by have := hnj.out; omega) rfl, (R3.out.set0 _).drewN 1, (below_drewN (R2.out.setCell hOld _) 1), hE⟩, by simp [lenOf]⟩
                · skip
                  have hOld : w2.heap.size ≤ wo.heap.size := hWo.out
                  go_wp2
                  go_quiet (fail)
                  go_wp2
                  go_quiet (fail)
                  go_wp2
                  go_region_held3 (fun w' => w'.cell? ⟨wo.heap.size, 0, none⟩ = some (.int .i64 f) ∧ w'.cell? a2 = some (.int .i64 b.1))
                    (first
                      | exact ⟨t0, c0⟩
                      | exact ⟨R3.out.cell0, (hC.out _ R2.out).1⟩
                      | exact ⟨((hTwo.out.drewN _).alloc _).cell0, (hC.out _ ((below_drewN hb'.out _).alloc hb'.out.size _)).1⟩
                      | go_keep)
                    ((refine step_append_lies _ (by rfl) _ _ 30 (by rfl) w2.heap.size 38 i0 (.agg #[.int .i64 0, .int .i64 0]) 2 16 Try.underlying30 hI.out.1 hI.out.2.1 hI.out.2.2.1 hI.out.2.2.2 rfl (by decide) _ n' _ (by rfl) ((own_drewN hOwn.out _).alloc _) ⟨wr.heap.size, 0, none⟩ 1 1 [.int .i64 f, .int .i64 b.1] (by rfl) (by rfl) (fun j u hj => new_cells2e hj) (fun u hu => two_one hu) (by decide) (by unfold maxLen; omega) (by omega) (by have := hb'.out.size; show _ ≤ (wr.alloc _).heap.size; simp; omega) (wr.heap.size + 1) (by show (wr.alloc _).heap.size = _; simp) ?_; intro gg cap3 w3 hown' hgrow hat hlt'; (have R0 := Lib.hid (lies_apart (n := n' + 1) (cap := cap3) hat (Nat.le_succ _) hTwo.out.lt hne.out)); (have R1 := Lib.hid (own_snoc hown')); (have R2 := Lib.hid (below_append2 hb'.out hgrow hOwn.out (Nat.le_refl _))); (have R3 := Lib.hid (((hTwo.out.drewN _).alloc _).grown hgrow hne.out)); (have d0 := R3.out.cell0); (have d1 := R3.out.cell1); (have d2 := R3.out.free0); (obtain ⟨e0, e1⟩ := hC.out w3 R2.out); clear hown' hgrow hat hlt'))
                  go_wp2
                  refine still_tail 8 (by kernel_rfl) (by kernel_rfl) ?_
                  simp only [List.take_succ_cons, List.take_zero, List.drop_succ_cons, List.drop_zero]
                  repeat still_step
                  refine wpStill_nil ?_
                  go_wp2
                  exact ⟨⟨n' + 1, j' + 1, _, _, own_drewN (own_setCell R1.out R0.out) 1, R0, tk_next hnj.out hT.out hd2.out hct, (R3.out.set0 _).drewN 1, (below_drewN (R2.out.setCell hOld _) 1), hE⟩, by simp [lenOf]⟩
              · have hE := Lib.hid (cut_gt hMA.out.1 hlt hMB.out.1 hI2.out hd1.out hbv hfb hle)
                have hgt : ly MA k < max f b.2 := by omega
                have hnl : ¬ max f b.2 < ly MA k := by omega
                clear hle
                have hOld : w2.heap.size ≤ wo.heap.size := hWo.out
                go_wp2
                go_quiet (fail)
                go_wp2
                go_quiet (fail)
                go_wp2
                go_region_held3 (fun w' => w'.cell? ⟨wo.heap.size, 0, none⟩ = some (.int .i64 f) ∧ w'.cell? a2 = some (.int .i64 b.1))
                  (first
                    | exact ⟨t0, c0⟩
                    | exact ⟨R3.out.cell0, (hC.out _ R2.out).1⟩
                    | exact ⟨((hTwo.out.drewN _).alloc _).cell0, (hC.out _ ((below_drewN hb'.out _).alloc hb'.out.size _)).1⟩
                    | go_keep)
                  ((refine step_append_lies _ (by rfl) _ _ 30 (by rfl) w2.heap.size 38 i0 (.agg #[.int .i64 0, .int .i64 0]) 2 16 Try.underlying30 hI.out.1 hI.out.2.1 hI.out.2.2.1 hI.out.2.2.2 rfl (by decide) _ n' _ (by rfl) ((own_drewN hOwn.out _).alloc _) ⟨wr.heap.size, 0, none⟩ 1 1 [.int .i64 f, .int .i64 b.1] (by rfl) (by rfl) (fun j u hj => new_cells2e hj) (fun u hu => two_one hu) (by decide) (by unfold maxLen; omega) (by omega) (by have := hb'.out.size; show _ ≤ (wr.alloc _).heap.size; simp; omega) (wr.heap.size + 1) (by show (wr.alloc _).heap.size = _; simp) ?_; intro gg cap3 w3 hown' hgrow hat hlt'; (have R0 := Lib.hid (lies_apart (n := n' + 1) (cap := cap3) hat (Nat.le_succ _) hTwo.out.lt hne.out)); (have R1 := Lib.hid (own_snoc hown')); (have R2 := Lib.hid (below_append2 hb'.out hgrow hOwn.out (Nat.le_refl _))); (have R3 := Lib.hid (((hTwo.out.drewN _).alloc _).grown hgrow hne.out)); (have d0 := R3.out.cell0); (have d1 := R3.out.cell1); (have d2 := R3.out.free0); (obtain ⟨e0, e1⟩ := hC.out w3 R2.out); clear hown' hgrow hat hlt'))
                go_wp2
                refine still_tail 8 (by kernel_rfl) (by kernel_rfl) ?_
                simp only [List.take_succ_cons, List.take_zero, List.drop_succ_cons, List.drop_zero]
                repeat still_step
                refine wpStill_nil ?_
                go_wp2
                exact ⟨⟨k + 1, n' + 1, j', _, hlt, by go_num, own_drewN (own_setCell R1.out R0.out) 1, hTk.out, (below_drewN (R2.out.setCell hOld _) 1), hE⟩, by simp [intOf]; omega⟩
            · have hdfb : decide (f < b.1) = false := decide_eq_false hfb
              by_cases hle : max f b.2 ≤ ly MA k
              · have hE := Lib.hid (skip_le hMB.out.1 hI2.out hd1.out hfb hle)
                by_cases hc1 : ct = 1
                · have h0 : nT = 0 := by omega
                  subst hc1
                  have hOld : w2.heap.size ≤ wo.heap.size := hWo.out
                  go_wp2
                  go_quiet (fail)
                  go_wp2
                  go_quiet (fail)
                  go_wp2
                  refine still_tail 8 (by kernel_rfl) (by kernel_rfl) ?_
                  simp only [List.take_succ_cons, List.take_zero, List.drop_succ_cons, List.drop_zero]
                  repeat still_step
                  refine wpStill_nil ?_
                  go_wp2
                  exact ⟨⟨n', j' + 1, _, _, own_drewN (own_setCell (own_drewN hOwn.out _) hne.out) 0, hne, tk_none (n := 0) (by have := hnj.out; omega) rfl, ((hTwo.out.drewN _).set0 _).drewN 0, (below_drewN ((below_drewN hb'.out _).setCell hOld _) 0), hE⟩, by simp [lenOf]⟩
                · skip
                  have hOld : w2.heap.size ≤ wo.heap.size := hWo.out
                  go_wp2
                  go_quiet (fail)
                  go_wp2
                  go_quiet (fail)
                  go_wp2
                  refine still_tail 8 (by kernel_rfl) (by kernel_rfl) ?_
                  simp only [List.take_succ_cons, List.take_zero, List.drop_succ_cons, List.drop_zero]
                  repeat still_step
                  refine wpStill_nil ?_
                  go_wp2
                  exact ⟨⟨n', j' + 1, _, _, own_drewN (own_setCell (own_drewN hOwn.out _) hne.out) 0, hne, tk_next hnj.out hT.out hd2.out hct, ((hTwo.out.drewN _).set0 _).drewN 0, (below_drewN ((below_drewN hb'.out _).setCell hOld _) 0), hE⟩, by simp [lenOf]⟩
              · have hE := Lib.hid (skip_gt hMA.out.1 hlt hMB.out.1 hI2.out hd1.out hfb hle)
                have hgt : ly MA k < max f b.2 := by omega
                have hnl : ¬ max f b.2 < ly MA k := by omega
                clear hle
                have hOld : w2.heap.size ≤ wo.heap.size := hWo.out
                go_wp2
                go_quiet (fail)
                go_wp2
                go_quiet (fail)
                go_wp2
                refine still_tail 8 (by kernel_rfl) (by kernel_rfl) ?_
                simp only [List.take_succ_cons, List.take_zero, List.drop_succ_cons, List.drop_zero]
                repeat still_step
                refine wpStill_nil ?_
                go_wp2
                exact ⟨⟨k + 1, n', j', _, hlt, by go_num, own_drewN (own_setCell (own_drewN hOwn.out _) hne.out) 0, hTk.out, (below_drewN ((below_drewN hb'.out _).setCell hOld _) 0), hE⟩, by simp [intOf]; omega⟩
          · have hr := Lib.hid (restFree_cons hMB.out.1 hd1.out (show ly MA k ≤ b.1 by omega))
            have hdbv : decide (b.1 < ly MA k) = false := decide_eq_false hbv
            by_cases hf : f < ly MA k
            · have hE := Lib.hid (rest_yes hMA.out.1 hlt hI2.out hr.out hf)
              go_wp2
              go_quiet (fail)
              go_wp2_with (at_builtin; refine wpList_append_lies _ (by rfl) _ _ 30 (by rfl) w2.heap.size 38 i0 (.agg #[.int .i64 0, .int .i64 0]) 2 16 Try.underlying30 hI.out.1 hI.out.2.1 hI.out.2.2.1 hI.out.2.2.2 rfl (by decide) _ n' _ (by rfl) ((own_drewN hOwn.out _).alloc _) ⟨wr.heap.size, 0, none⟩ 1 1 [.int .i64 f, .int .i64 (ly MA k)] (by rfl) (by rfl) (fun j u hj => new_cells2e hj) (fun u hu => two_one hu) (by decide) (by unfold maxLen; omega) (by omega) (by have := hb'.out.size; show _ ≤ (wr.alloc _).heap.size; simp; omega) (wr.heap.size + 1) (by show (wr.alloc _).heap.size = _; simp) ?_; intro gg cap3 w3 hown' hgrow hat hlt'; (have R1 := Lib.hid (own_snoc hown')); (have R2 := Lib.hid (below_append2 hb'.out hgrow hOwn.out (Nat.le_refl _))); clear hown' hgrow hat hlt')
              exact ⟨⟨k + 1, n' + 1, j', _, hlt, by go_num, R1.out, hTk.out, R2.out, hE⟩, by simp [intOf]; omega⟩
            · have hE := Lib.hid (rest_no hMA.out.1 hlt hI2.out hf)
              have hdf : decide (f < ly MA k) = false := decide_eq_false hf
              go_wp2
              go_quiet (fail)
              go_wp2
              exact ⟨⟨k + 1, n', j', _, hlt, by go_num, own_drewN hOwn.out _, hTk.out, below_drewN hb'.out _, hE⟩, by simp [intOf]; omega⟩
    · obtain rfl : k = MA.length := by omega
      obtain ⟨Av, cv, rfl, hcap⟩ := own_shape hown
      obtain ⟨hn, hIv⟩ := own_ivs hown
      subst hn
      have hset := isSet_congr (hO.out.done (Nat.le_refl _)) (T := fun t => cov a t ∧ ¬ cov b t) (fun t => by rw [hMA.out.2 t, hMB.out.2 t])
      have hfin := Lib.hid (show SetPost w (fun t => cov a t ∧ ¬ cov b t) (.returned (.slice Av out.length cv)) wo from ⟨Av, cv, out, rfl, hcap, hIv, hset, (hB1.out.trans (hB2.out.mono hB1.out.size)).trans (hb.mono (Nat.le_trans hB1.out.size hB2.out.size))⟩)
      clear hset hIv hcap hown hb hO htk
      go_wp2
      go_ret
      exact hfin.out
end Go.Proofs.Ytlkindlbllbmgaa
