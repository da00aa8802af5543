/- The package's surpluses and Value. -/
import Derived.Test.YtdemnbbofigcdaaGrp
import Derived.Test.YtdemnbbofigcdaaNetR
import Derived.Test.YtdemnbbofigcdaaValidR
import Derived.Maps.RangeRun
import Derived.BigRegion
namespace Go.Proofs.Ytdemnbbofigcdaa
open Go.RowKit

/-- Block b is a map of at most n entries that reads, at each key, as the number g says; 0 where it has none. -/
def SurV (w : World) (b n : Nat) (g : Int → Int) : Prop := ∃ mv : Int → Option Value, MapV w b n mv ∧ ∀ i, (mv i).getD (.int .i64 0) = .int .i64 (g i)
theorem SurV.look {w : World} {b n : Nat} {g : Int → Int} (h : SurV w b n g) (i : Int) : ∀ W : World, W.heap[b]? = w.heap[b]? → (Instr.lookup 41 (.map (some b)) (.int .i64 i) false).run Try.prog W = .ok (.int .i64 (g i)) W := by
  obtain ⟨mv, h1, h2⟩ := h
  intro W hW
  have := (h1.kept hW).look (P := Try.prog) Try.underlying41 Try.underlying3 (zeroI W) i
  rw [h2] at this
  exact this
theorem SurV.kept {w w' : World} {b n : Nat} {g : Int → Int} (h : SurV w b n g) (hb : w'.heap[b]? = w.heap[b]?) : SurV w' b n g := by
  obtain ⟨mv, h1, h2⟩ := h
  exact ⟨mv, h1.kept hb, h2⟩
theorem SurV.lt {w : World} {b n : Nat} {g : Int → Int} (h : SurV w b n g) : b < w.heap.size := by
  obtain ⟨mv, h1, _⟩ := h
  exact h1.lt
theorem SurV.put {w : World} {b n : Nat} {g : Int → Int} (h : SurV w b n g) (i z : Int) :
    ∃ w', (Instr.mapUpdate 41 (.map (some b)) (.int .i64 i) (.int .i64 z)).run Try.prog w = .ok () w' ∧ SurV w' b (n + 1) (fun j => if j = i then z else g j) ∧ w.grownBy w' (some b) ∧ w'.heap.size = w.heap.size := by
  obtain ⟨mv, h1, h2⟩ := h
  obtain ⟨w', r1, r2, r3, r4⟩ := h1.put (P := Try.prog) Try.underlying41 Try.underlying3 i (.int .i64 z)
  refine ⟨w', r1, ⟨_, r2, fun j => ?_⟩, r3, r4⟩
  unfold upd
  show _ = Value.int .i64 (if j = i then z else g j)
  split
  · rfl
  · exact h2 j
def netN (l : List Ed) (f : List Int) (k : Nat) (n : Int) : Int := sumK k (netK l f n)
theorem sur_step {l : List Ed} {f : List Int} {k : Nat} {x y1 y2 : Int} (hx : ix f k = x) (h1 : eF l k = y1) (h2 : eT l k = y2) :
    (fun j => if j = y2 then (if y2 = y1 then netN l f k y1 + x else netN l f k y2) - x else (if j = y1 then netN l f k y1 + x else netN l f k j)) = netN l f (k + 1) := by
  subst h1 h2 hx
  funext j
  show _ = sumK (k + 1) (netK l f j)
  unfold netN
  rw [sumK, netK]
  generalize eT l k = y2
  generalize eF l k = y1
  by_cases a : j = y2
  · subst a
    by_cases b : j = y1
    · subst b; simp
    · have b2 : ¬ y1 = j := fun e => b e.symm
      simp [b, b2]; omega
  · have a2 : ¬ y2 = j := fun e => a e.symm
    by_cases b : j = y1
    · subst b; simp [a, a2]
    · have b2 : ¬ y1 = j := fun e => b e.symm
      simp [a, a2, b, b2]
def SurPost (W : World) (n : Nat) (g : Int → Int) (e : Ending) (w' : World) : Prop := ∃ b, e = .returned (.map (some b)) ∧ SurV w' b n g ∧ Below W.heap.size W w'

set_option maxRecDepth 100000 in
set_option maxHeartbeats 4000000 in
theorem sur_any (A B : Option Addr) (l : List Ed) (f : List Int) (c d : Nat) (w : World) (hp : Es w w.heap.size A l) (hc : l.length ≤ c) (hq : Rd w w.heap.size B d (cellsI f)) (hl : Low l f) :
    Calls Try.prog 29 #[.slice A l.length c, .slice B f.length d] w (SurPost w (2 * l.length) (net l f)) := by
  have hP := Lib.hid hp
  have hQ := Lib.hid hq
  have hL := Lib.hid hl
  have hlen := hl.1
  have hmax := hl.2.1
  have hmm := @run_makeMap Try.prog
  have hmin : ∀ ts t w, (Builtin.min_ ts t #[.int .i64 (l.length : Int), .int .i64 (f.length : Int)]).run Try.prog w = .ok (.int .i64 (l.length : Int)) w := fun ts t w => by
    rw [hlen, run_min_int2]
    simp
  clear hp hq hl
  go_enter Try.func29, Try.ntmps29
  go_wp2
  clear hmm
  have hM0 : Hid (SurV (w.alloc (.map #[] 0)) w.heap.size (2 * 0) (netN l f 0)) := Lib.hid ⟨_, mapV_made w, fun _ => rfl⟩
  have hB0 : Hid (Below w.heap.size w (w.alloc (.map #[] 0))) := Lib.hid ((Below.refl _ _).alloc (Nat.le_refl _) _)
  go_loopw [17] (fun i wr => ∃ k : Nat, k ≤ l.length ∧ i = .int .i64 k ∧ Hid (Below w.heap.size w wr) ∧ Hid (SurV wr w.heap.size (2 * k) (netN l f k))) (fun i _ => l.length - (intOf i).toNat)
  case atStart => exact ⟨0, by omega, rfl, hB0, hM0⟩
  case round =>
    obtain ⟨k, hk, rfl, hB, hM⟩ := hrel
    clear hM0 hB0
    by_cases hlt : k < l.length
    · obtain ⟨ad, rfl, hab, x0, x1, x2, x3⟩ := (hP.out.below hB.out).get hlt
      have hkf : k < f.length := by omega
      obtain ⟨bd, rfl, hbb, c1⟩ := (hQ.out).get (cellsI_ix hkf)
      have hc1 : Hid (∀ W : World, Below w.heap.size w W → W.cell? (bd.add k) = some (.int .i64 (ix f k))) := Lib.hid (fun W h => (h.cell (p := bd.add k) (by rw [block_of_add]; exact hbb)).trans c1)
      have hsz := low_sum hL.out (eF l k) hk
      have hsz2 := low_sum hL.out (eT l k) hk
      have hxb := hL.out.2.2 k hlt
      have hst := Lib.hid (sur_step (l := l) (f := f) (k := k) rfl rfl rfl)
      have hi1 : (k : Int) < (f.length : Int) := by omega
      have hi2 : (k : Int) < (l.length : Int) := by omega
      have e1 : sumK k (netK l f (eF l k)) = netN l f k (eF l k) := rfl
      have e2 : sumK k (netK l f (eT l k)) = netN l f k (eT l k) := rfl
      rw [e1] at hsz
      rw [e2] at hsz2
      clear e1 e2 c1
      have hx : Hid (SurV wr w.heap.size (2 * k) (netN l f k)) := hM
      obtain ⟨G2, hG2⟩ : ∃ G2, netN l f (k + 1) = G2 := ⟨_, rfl⟩
      have hG2 := Lib.hid hG2
      rw [hG2.out] at hst
      generalize netN l f k = G at *
      generalize eI l k = y0 at *
      generalize eF l k = y1 at *
      generalize eT l k = y2 at *
      generalize eC l k = y3 at *
      generalize ix f k = x at *
      have hMx : Hid (SurV (wr.alloc (.cells #[.int .i64 y0, .int .i64 y1, .int .i64 y2, .int .i64 y3] 33)) w.heap.size (2 * k) G) := Lib.hid (hM.out.kept (Below.heap_alloc _ _ _ hM.out.lt))
      have hBx := Lib.hid (hB.out.alloc hB.out.size (.cells #[.int .i64 y0, .int .i64 y1, .int .i64 y2, .int .i64 y3] 33))
      have hX := box_four (Below.refl (wr.alloc (.cells #[.int .i64 y0, .int .i64 y1, .int .i64 y2, .int .i64 y3] 33)).heap.size _)
      have hne : Hid (some wr.heap.size ≠ some w.heap.size) := Lib.hid (fun e => by injection e with e; have := hM.out.lt; omega)
      obtain ⟨wx, hwx⟩ : ∃ wx, wr.alloc (.cells #[.int .i64 y0, .int .i64 y1, .int .i64 y2, .int .i64 y3] 33) = wx := ⟨_, rfl⟩
      have hws : Hid (wx.heap.size = wr.heap.size + 1) := Lib.hid (by rw [← hwx]; simp)
      rw [hwx] at hMx hBx hX
      obtain ⟨_, z1, z2, _⟩ := hX
      have hZ2 := Lib.hid z2
      obtain ⟨v1, hv1⟩ : ∃ v, G y1 + x = v := ⟨_, rfl⟩
      have hw1 : IntKind.i64.wrap (G y1 + x) = v1 := by rw [← hv1]; exact IntWalk.i64_in _ (by omega)
      obtain ⟨w4, r4, hS4, g4, s4⟩ := (hMx.out.kept (w' := wx.drew) rfl).put y1 v1
      have hl1 := hMx.out.look y1
      have M4 := Lib.hid hS4
      have hB4 := Lib.hid (hBx.out.drew.grown g4 hBx.out.size (fun q hq => by cases hq; exact Nat.le_refl _))
      have G4 := Lib.hid g4
      have S4 := Lib.hid s4
      obtain ⟨u2, hu2⟩ : ∃ u, (if y2 = y1 then v1 else G y2) = u := ⟨_, rfl⟩
      obtain ⟨v2, hv2⟩ : ∃ v, u2 - x = v := ⟨_, rfl⟩
      have hb2 : -2000000000 ≤ u2 ∧ u2 ≤ 2000000000 := by
        rw [← hu2]
        split <;> omega
      have hw2 : IntKind.i64.wrap (u2 - x) = v2 := by rw [← hv2]; exact IntWalk.i64_in _ (by omega)
      have hl2 := M4.out.look y2
      simp only [hu2] at hl2
      obtain ⟨w5, r5, hS5, g5, s5⟩ := (hS4.kept (w' := w4.drew) rfl).put y2 v2
      have hR : Hid (SurV w5 w.heap.size (2 * (k + 1)) G2) := Lib.hid (by
        have e : (fun j => if j = y2 then v2 else (if j = y1 then v1 else G j)) = G2 := by
          rw [← hst.out]
          funext j
          rw [← hv2, ← hu2, ← hv1]
        rw [← e]
        exact hS5)
      have hB5 := Lib.hid (hB4.out.drew.grown g5 hB4.out.size (fun q hq => by cases hq; exact Nat.le_refl _))
      have hz2' : Hid (w4.cell? ⟨wr.heap.size, 2, none⟩ = some (.int .i64 y2)) := Lib.hid ((World.cell?_of_block (a := ⟨wr.heap.size, 2, none⟩) (g4.block _ (by show _ < wx.heap.size; rw [hws.out]; exact Nat.lt_succ_self _) hne.out)).trans z2)
      have q1 := hc1.out wx hBx.out
      have q2 := Lib.hid (hc1.out w4 hB4.out)
      have L1 := hl1 wx.drew rfl
      have L2 := Lib.hid (hl2 w4.drew rfl)
      have R5 := Lib.hid r5
      clear hl1 hl2 hS4 g4 s4 hS5 g5 s5 r5 hM hB hx hP hQ hL hst hsz hsz2 hv1 hv2 hu2 hb2
      go_wp2
      clear x0 x1 x2 x3 hwx
      go_region
      have z2' := hz2'.out
      have q2' := q2.out
      have l2' := L2.out
      have r5' := R5.out
      go_wp2
      go_region
      go_wp2
      exact ⟨⟨k + 1, by omega, by go_num, hB5, Lib.hid (by rw [hG2.out]; exact hR.out)⟩, by simp [intOf]; omega⟩
    · obtain rfl : k = l.length := by omega
      have hE := Lib.hid hM.out
      clear hM hP hQ hL
      go_wp2
      go_ret
      exact ⟨_, rfl, hE.out, hB.out⟩
theorem zeroI' (w : World) : (zeroValue 3).run Try.prog w = .ok (.int .i64 0) w := zeroI w
set_option maxRecDepth 100000 in
set_option maxHeartbeats 1000000 in
theorem gValue_any (A B : Option Addr) (l : List Ed) (f : List Int) (c d : Nat) (s : Int) (w : World) (hp : Es w w.heap.size A l) (hc : l.length ≤ c) (hq : Rd w w.heap.size B d (cellsI f)) (hl : Low l f) :
    Calls Try.prog 15 #[.slice A l.length c, .slice B f.length d, .int .i64 s] w fun e w' => e = .returned (.int .i64 (net l f s)) ∧ Below w.heap.size w w' := by
  have k := Lib.hid (sur_any A B l f c d w hp hc hq hl)
  generalize net l f = G at *
  clear hp hq hl
  go_enter Try.func15, Try.ntmps15
  go_wp2_with (go_at_call 29; (with_reducible refine (k.out).mono ?_); rintro e w1 ⟨b, rfl, h1, b1⟩; (have L1 := h1.look s w1 rfl); (have B1 := Lib.hid b1); clear h1 b1)
  go_ret
  exact ⟨rfl, B1.out⟩

/-! ### Valid -/
theorem sur_all {es : Array MapEntry} {seen : Array Nat} {g : Int → Int} {mv : Int → Option Value} {s t : Int} (h0 : (leftOf es seen).size = 0)
    (hin : ∀ i v, mv i = some v → ∃ x ∈ es.toList, x.key = .int .i64 i) (_ : ∀ x ∈ es.toList, ∃ i, x.key = .int .i64 i ∧ mv i = some x.val) (hg : ∀ i, (mv i).getD (.int .i64 0) = .int .i64 (g i))
    (hok : ∀ x ∈ es.toList, seen.contains x.born = true → ∀ i, x.key = .int .i64 i → i ≠ s → i ≠ t → g i = 0) : ∀ i, i ≠ s → i ≠ t → g i = 0 := by
  intro i h1 h2
  rcases hm : mv i with _ | v
  · have := hg i
    rw [hm] at this
    injection this with _ this
    exact this.symm
  · obtain ⟨x, hx, hk⟩ := hin i v hm
    exact hok x hx (all_seen es seen h0 x hx) i hk h1 h2

theorem setBlock_drew {w w1 : World} {B r : Nat} {o : Obj} {x : Obj} (hw : w1 = w ∨ w1 = w.drew) (hr : w.heap[r]? = some x) (hB : B ≤ r) {W : World} (h : Below B W w) :
    (ChangeMaps.setBlock w1 r o).heap[r]? = some o ∧ (∀ k, k ≠ r → (ChangeMaps.setBlock w1 r o).heap[k]? = w.heap[k]?) ∧ Below B W (ChangeMaps.setBlock w1 r o) := by
  have hlt := (Array.getElem?_eq_some_iff.1 hr).1
  have e : w1.heap = w.heap := by rcases hw with rfl | rfl <;> rfl
  have a1 : (ChangeMaps.setBlock w1 r o).heap[r]? = some o := by
    unfold ChangeMaps.setBlock
    show (w1.heap.setIfInBounds r o)[r]? = _
    rw [e, Array.getElem?_setIfInBounds_self_of_lt hlt]
  have a2 : ∀ k, k ≠ r → (ChangeMaps.setBlock w1 r o).heap[k]? = w.heap[k]? := fun k hk => by
    unfold ChangeMaps.setBlock
    show (w1.heap.setIfInBounds r o)[k]? = _
    rw [e, Array.getElem?_setIfInBounds_ne (fun h => hk h.symm)]
  refine ⟨a1, a2, ?_⟩
  have h1 : Below B W w1 := by
    rcases hw with rfl | rfl
    · exact h
    · exact h.drew
  refine h1.trans ⟨rfl, rfl, rfl, ?_, fun k hk => ?_⟩
  · show w1.heap.size ≤ (w1.heap.setIfInBounds r o).size
    simp
  · rw [a2 k (by omega), e]
theorem iterSeen_at {w : World} {r : Nat} {a : Option Nat} {b : Nat} {s : Array Nat} {c : Nat} (h : w.heap[r]? = some (.mapIter a b s c)) : w.iterSeen r = s := by
  unfold World.iterSeen
  rw [h]
set_option maxRecDepth 100000 in
set_option maxHeartbeats 4000000 in
theorem gValid_any (A B : Option Addr) (l : List Ed) (f : List Int) (c d : Nat) (s t : Int) (w : World) (hp : Es w w.heap.size A l) (hc : l.length ≤ c) (hq : Rd w w.heap.size B d (cellsI f)) (hg : Grph l) (_ : f.length ≤ 1000000) :
    Calls Try.prog 14 #[.slice A l.length c, .slice B f.length d, .int .i64 s, .int .i64 t] w fun e w' => e = .returned (.bool (vB l f s t)) ∧ Below w.heap.size w w' := by
  have hgl := hg.1
  by_cases hlen : f.length = l.length
  · have hne : ((f.length : Int) != (l.length : Int)) = false := by rw [hlen]; simp
    have hP := Lib.hid hp
    have hQ := Lib.hid hq
    have hLow := Lib.hid (fun (h : ∀ k, k < l.length → 0 ≤ ix f k ∧ ix f k ≤ eC l k) => flow_low hg hlen h)
    have hYes := Lib.hid (fun (h2 : ∀ k, k < l.length → 0 ≤ ix f k ∧ ix f k ≤ eC l k) (h3 : ∀ n, n ≠ s → n ≠ t → net l f n = 0) => vB_iff.2 (⟨hlen, h2, h3⟩ : IsFlow l f s t))
    have hNo1 : Hid (∀ k, k < l.length → ¬ (0 ≤ ix f k ∧ ix f k ≤ eC l k) → vB l f s t = false) := Lib.hid (fun k hk h => vB_not.2 (fun hf => h (hf.box k hk)))
    have hNo2 : Hid (∀ n, n ≠ s → n ≠ t → net l f n ≠ 0 → vB l f s t = false) := Lib.hid (fun n h1 h2 h3 => vB_not.2 (fun hf => h3 (hf.bal n h1 h2)))
    generalize vB l f s t = v at *
    have hLen := Lib.hid hlen
    clear hp hq hg hlen
    go_enter Try.func14, Try.ntmps14
    go_wp2
    go_loopw [20] (fun i wr => ∃ k : Nat, k ≤ l.length ∧ i = .int .i64 k ∧ Hid (Below w.heap.size w wr) ∧ Hid (∀ j, j < k → 0 ≤ ix f j ∧ ix f j ≤ eC l j)) (fun i _ => l.length - (intOf i).toNat)
    case atStart => exact ⟨0, by omega, rfl, Lib.hid (Below.refl _ _), Lib.hid (fun j hj => absurd hj (by omega))⟩
    case round =>
      obtain ⟨k, hk, rfl, hB, hI⟩ := hrel
      by_cases hlt : k < l.length
      · have hkf : k < f.length := by have := hLen.out; omega
        obtain ⟨ad, rfl, hab, x0, x1, x2, x3⟩ := (hP.out.below hB.out).get hlt
        obtain ⟨bd, rfl, hbb, c0⟩ := (hQ.out).get (cellsI_ix hkf)
        have hN1 := Lib.hid (hNo1.out k hlt)
        have hNx : Hid (0 ≤ ix f k ∧ ix f k ≤ eC l k → ∀ j, j < k + 1 → 0 ≤ ix f j ∧ ix f j ≤ eC l j) := Lib.hid (fun h j hj => by
          by_cases hjk : j = k
          · rw [hjk]; exact h
          · exact hI.out j (by omega))
        have hi1 : (k : Int) < (f.length : Int) := by omega
        have hi2 : (k : Int) < (l.length : Int) := by omega
        have hi3 : (0 : Int) ≤ (k : Int) := by omega
        clear hI hNo1 hNo2 hYes hLow hP hQ
        generalize ix f k = x at *
        generalize eI l k = y0 at *
        generalize eF l k = y1 at *
        generalize eT l k = y2 at *
        generalize eC l k = y3 at *
        have hBx := Lib.hid (hB.out.alloc hB.out.size (.cells #[.int .i64 y0, .int .i64 y1, .int .i64 y2, .int .i64 y3] 33))
        have c1 := (hBx.out.cell (p := bd.add k) (by rw [block_of_add]; exact hbb)).trans c0
        by_cases hk0 : k = 0
        all_goals
          first
            | (subst hk0; have x0 : wr.cell? ad = some (.int .i64 y0) := x0; have x1 : wr.cell? { block := ad.block, off := ad.off + 1 } = some (.int .i64 y1) := x1; have x2 : wr.cell? { block := ad.block, off := ad.off + 2 } = some (.int .i64 y2) := x2; have x3 : wr.cell? { block := ad.block, off := ad.off + 3 } = some (.int .i64 y3) := x3; have c1 : (wr.alloc (.cells #[.int .i64 y0, .int .i64 y1, .int .i64 y2, .int .i64 y3] 33)).cell? bd = some (.int .i64 x) := c1)
            | skip
          by_cases hx : x < 0
          · have hR := Lib.hid (hN1.out (by omega))
            have hd : decide (x < 0) = true := decide_eq_true hx
            clear hN1 hNx
            go_wp2
            go_quiet (fail)
            go_wp2
            go_ret
            exact ⟨by rw [hR.out]; rfl, below_drewN hBx.out _⟩
          · have hd : decide (x < 0) = false := decide_eq_false hx
            by_cases hy : y3 < x
            · have hR := Lib.hid (hN1.out (by omega))
              have hd2 : decide (x > y3) = true := decide_eq_true hy
              clear hN1 hNx
              go_wp2
              go_quiet (fail)
              go_wp2
              go_ret
              exact ⟨by rw [hR.out]; rfl, below_drewN hBx.out _⟩
            · have hR := Lib.hid (hNx.out (by omega))
              have hd2 : decide (x > y3) = false := decide_eq_false hy
              clear hN1 hNx
              go_wp2
              go_quiet (fail)
              go_wp2
              first
                | exact ⟨⟨1, by omega, rfl, Lib.hid (below_drewN hBx.out _), hR⟩, by simp [intOf]; omega⟩
                | exact ⟨⟨k + 1, by omega, by go_num, Lib.hid (below_drewN hBx.out _), hR⟩, by simp [intOf]; omega⟩
      · obtain rfl : k = l.length := by omega
        have hLw := hLow.out hI.out
        have hY := Lib.hid (hYes.out hI.out)
        have kS := Lib.hid (sur_any A B l f c d wr (hP.out.up hB.out) hc (hQ.out.up hB.out) hLw)
        generalize net l f = G at *
        clear hLow hYes hNo1 hI hQ hP hLw hLen
        have hrgm := @run_range_map Try.prog
        go_wp2_with (go_at_call 29; (with_reducible refine (kS.out).mono ?_); rintro e w1 ⟨b, rfl, ⟨mv, ⟨es, clock, hb, hst, hen, hmv, hin⟩, hgv⟩, b1⟩; (have hrg := hrgm w1 41 3 3 b es clock Try.underlying41 hb); (have B1 := Lib.hid (hB.out.trans (b1.mono hB.out.size))); (have HB := Lib.hid hb); (have HS := Lib.hid hst); (have HM := Lib.hid hmv); (have HI := Lib.hid hin); (have HG := Lib.hid hgv); clear hb b1 hst hen hmv hin hgv)
        clear hrg
        have HN0 : Hid ((w1.alloc (.mapIter (some b) clock #[] clock)).heap[w1.heap.size]? = some (.mapIter (some b) clock #[] clock)) := Lib.hid (heap_alloc_new w1 _)
        have HB0 : Hid ((w1.alloc (.mapIter (some b) clock #[] clock)).heap[b]? = some (.map es clock)) := Lib.hid ((Below.heap_alloc _ _ b (Array.getElem?_eq_some_iff.1 HB.out).1).trans HB.out)
        have BB0 := Lib.hid (B1.out.alloc B1.out.size (.mapIter (some b) clock #[] clock))
        have hbr : Hid (b < w1.heap.size) := Lib.hid (Array.getElem?_eq_some_iff.1 HB.out).1
        have hsr : Hid (w.heap.size ≤ w1.heap.size) := Lib.hid B1.out.size
        generalize w1.heap.size = r at *
        go_loopw [] (fun w' => ∃ (seen : Array Nat), Hid (w'.heap[r]? = some (.mapIter (some b) clock seen clock)) ∧ Hid (w'.heap[b]? = some (.map es clock)) ∧ Hid (Below w.heap.size w w') ∧ Hid (∀ x ∈ es.toList, seen.contains x.born = true → ∀ i, x.key = .int .i64 i → i ≠ s → i ≠ t → G i = 0)) (fun w' => (leftOf es (w'.iterSeen r)).size)
        case atStart => exact ⟨#[], HN0, HB0, BB0, Lib.hid (fun x _ h => by simp at h)⟩
        case round =>
          obtain ⟨seen, hr, hb, hbel, hno⟩ := hrel
          clear HN0 HB0 BB0
          have law := run_next_at (P := Try.prog) wr 0 r b clock clock seen es clock hr.out hb.out HS.out.1 (Nat.le_refl _)
          rcases law with ⟨h0, hrun⟩ | ⟨e, he, w3, hal2, hrun⟩
          · have hnx : ∀ ty, (Instr.next (.pointer (some ⟨r, 0, none⟩)) false ty).run Try.prog wr = _ := fun _ => hrun
            have hR := Lib.hid (hY.out (sur_all h0 HI.out HM.out HG.out hno.out))
            clear hno
            go_wp2
            exact bodyPost_ret (v := .bool true) (by simp [results, Try.results14, go_sem]) rfl ⟨by rw [hR.out], hbel.out⟩
          · obtain ⟨i, hkey, hmi⟩ := HM.out e (mem_left he).1
            have hval : e.val = .int .i64 (G i) := by
              have := HG.out i
              rw [hmi] at this
              exact this
            rw [hval, hkey] at hrun
            obtain ⟨q1, q2, q3⟩ := setBlock_drew (o := .mapIter (some b) clock (seen.push e.born) clock) hal2 hr.out hsr.out hbel.out
            obtain ⟨w4, hw4⟩ : ∃ w4, ChangeMaps.setBlock w3 r (.mapIter (some b) clock (seen.push e.born) clock) = w4 := ⟨_, rfl⟩
            rw [hw4] at hrun q1 q2 q3
            have hnx : ∀ ty, (Instr.next (.pointer (some ⟨r, 0, none⟩)) false ty).run Try.prog wr = _ := fun _ => hrun
            have hb4 : w4.heap[b]? = some (.map es clock) := (q2 b (by have := hbr.out; omega)).trans hb.out
            have hent := run_entry_at (P := Try.prog) w4 r b clock seen es clock e q1 hb4 (mem_left he).1 HS.out.2.1
            rw [hval, hkey] at hent
            have H4 := Lib.hid q1
            have HB4 := Lib.hid hb4
            have hE := Lib.hid q3
            have hNx : Hid ((i ≠ s → i ≠ t → G i = 0) → ∀ x ∈ es.toList, (seen.push e.born).contains x.born = true → ∀ i, x.key = .int .i64 i → i ≠ s → i ≠ t → G i = 0) := Lib.hid (fun h x hx hc j hj => by
              rw [contains_push] at hc
              rcases Bool.or_eq_true _ _ ▸ hc with h1 | h1
              · exact hno.out x hx h1 j hj
              · have : x = e := born_inj HS.out.2.1 hx (mem_left he).1 (beq_iff_eq.1 h1)
                subst this
                rw [hkey] at hj
                injection hj with _ hj
                subst hj
                exact h)
            have hms : Hid ((leftOf es (w4.iterSeen r)).size < (leftOf es (wr.iterSeen r)).size) := Lib.hid (by
              rw [iterSeen_at q1, iterSeen_at hr.out]
              exact left_shrinks es seen e he)
            have hF := Lib.hid (hNo2.out i)
            clear hno hrun hY hNo2 q1 q2 q3 hb4 hal2 hw4 hb hr hbel
            generalize G i = z at *
            by_cases h1 : z = 0
            · have hR := Lib.hid (hNx.out (fun _ _ => h1))
              have e1 : (z != 0) = false := by simp [h1]
              clear hNx hF
              go_wp2
              go_roundw
              case rel => exact ⟨seen.push e.born, H4, HB4, hE, hR⟩
              case measure => exact hms.out
            · have e1 : (z != 0) = true := bne_iff_ne.2 h1
              by_cases h2 : i = s
              · have hR := Lib.hid (hNx.out (fun a _ => absurd h2 a))
                have e2 : (i != s) = false := by simp [h2]
                clear hNx hF
                go_wp2
                go_roundw
                case rel => exact ⟨seen.push e.born, H4, HB4, hE, hR⟩
                case measure => exact hms.out
              · have e2 : (i != s) = true := bne_iff_ne.2 h2
                by_cases h3 : i = t
                · have hR := Lib.hid (hNx.out (fun _ a => absurd h3 a))
                  have e3 : (i != t) = false := by simp [h3]
                  clear hNx hF
                  go_wp2
                  go_roundw
                  case rel => exact ⟨seen.push e.born, H4, HB4, hE, hR⟩
                  case measure => exact hms.out
                · have hR := Lib.hid (hF.out h2 h3 h1)
                  have e3 : (i != t) = true := bne_iff_ne.2 h3
                  clear hNx hF
                  go_wp2
                  exact bodyPost_ret (v := .bool false) (by simp [results, Try.results14, go_sem]) rfl ⟨by rw [hR.out], hE.out⟩
  · have hne : ((f.length : Int) != (l.length : Int)) = true := bne_iff_ne.2 (by omega)
    have hR : Hid (vB l f s t = false) := Lib.hid (vB_not.2 (fun hf => hlen hf.len))
    clear hp hq
    go_enter Try.func14, Try.ntmps14
    go_wp2
    go_ret
    exact ⟨by rw [hR.out]; rfl, Below.refl _ _⟩
end Go.Proofs.Ytdemnbbofigcdaa
