/- The package's Back. -/
import Derived.Test.YtdemnbbofigcdaaReachG
import Derived.Test.YtdemnbbofigcdaaWoG
import Derived.BigRegion
namespace Go.Proofs.Ytdemnbbofigcdaa
open Go.RowKit

/-- The first k edges turned round. -/
def half (l : List Ed) (k : Nat) : List Ed := (l.take k).map turn ++ l.drop k
theorem half_zero (l : List Ed) : half l 0 = l := rfl
theorem half_end (l : List Ed) : half l l.length = l.map turn := by unfold half; rw [List.take_length, List.drop_length, List.append_nil]
theorem half_len {l : List Ed} {k : Nat} : (half l k).length = l.length := by
  unfold half
  rw [List.length_append, List.length_map, List.length_take, List.length_drop]
  omega
theorem half_step {l : List Ed} {k : Nat} (h : k < l.length) : (half l k).set k ⟨eI l k, eT l k, eF l k, eC l k⟩ = half l (k + 1) := by
  unfold half
  have hl : ((l.take k).map turn).length = k := by rw [List.length_map, List.length_take, Nat.min_eq_left (by omega)]
  rw [List.set_append_right _ _ (by omega), hl, Nat.sub_self, drop_e h, List.set_cons_zero, List.take_succ_eq_append_getElem h, List.map_append, e_eta h, List.append_assoc]
  rfl
theorem half_at {l : List Ed} {k : Nat} (h : k < l.length) : eI (half l k) k = eI l k ∧ eF (half l k) k = eF l k ∧ eT (half l k) k = eT l k ∧ eC (half l k) k = eC l k := by
  have e : (half l k)[k]? = l[k]? := by
    unfold half
    have hl : ((l.take k).map turn).length = k := by rw [List.length_map, List.length_take, Nat.min_eq_left (by omega)]
    rw [List.getElem?_append_right (by omega), hl, Nat.sub_self, List.getElem?_drop]
    rfl
  unfold eI eF eT eC
  rw [e]
  exact ⟨rfl, rfl, rfl, rfl⟩
theorem set_same {α : Type} {l : List α} {i : Nat} {v : α} (h : l[i]? = some v) : l.set i v = l := by
  apply List.ext_getElem?
  intro j
  rw [List.getElem?_set]
  split
  · rename_i hj
    subst hj
    rw [h]
    split
    · rfl
    · rename_i hn
      have := (List.getElem?_eq_some_iff.1 h).1
      omega
  · rfl
def putFT (w : World) (g o : Nat) (a b : Int) : World := (w.setCell ⟨g, o + 1, none⟩ (.int .i64 a)).setCell ⟨g, o + 2, none⟩ (.int .i64 b)
theorem own_turn {w : World} {base c k g : Nat} {L : List Ed} {a b : Int} (h : OwnE w base (some ⟨g, 0, none⟩) c L) (hk : k < L.length) : OwnE (putFT w g (k * 4) a b) base (some ⟨g, 0, none⟩) c (L.set k ⟨eI L k, a, b, eC L k⟩) := by
  unfold OwnE at h ⊢
  have e1 : cellsE (L.set k ⟨eI L k, a, b, eC L k⟩) = ((cellsE L).set (k * 4 + 1) (.int .i64 a)).set (k * 4 + 2) (.int .i64 b) := by
    rw [← cellsE_set hk]
    simp only
    obtain ⟨d0, d1, d2, d3⟩ := cellsE_at L k hk
    obtain ⟨q0, _, _, q3⟩ := e_at hk
    rw [← q0] at d0
    rw [← q3] at d3
    rw [set_same d0]
    refine set_same ?_
    rw [List.getElem?_set_ne (by omega), List.getElem?_set_ne (by omega)]
    exact d3
  rw [e1, List.length_set]
  exact ((World.ownsRow.stored h (k * 4 + 1) (.int .i64 a)).1.stored (k * 4 + 2) (.int .i64 b)).1
theorem below_putFT {B g : Nat} {a w : World} (h : Below B a w) (hg : B ≤ g) (o : Nat) (x y : Int) : Below B a (putFT w g o x y) :=
  Below.setCell (Below.setCell h (p := ⟨g, o + 1, none⟩) hg _) (p := ⟨g, o + 2, none⟩) hg _
theorem wf_list_turn {l : List Ed} (hg : Grph l) : Grph (l.map turn) := by
  obtain ⟨h1, h2, h3⟩ := hg
  refine ⟨by rw [List.length_map]; exact h1, fun e he => ?_, by rw [List.map_map]; exact h3⟩
  obtain ⟨x, hx, rfl⟩ := List.mem_map.1 he
  obtain ⟨a, b, c, d, e, f⟩ := h2 x hx
  exact ⟨c, d, a, b, e, f⟩

set_option maxRecDepth 100000 in
set_option maxHeartbeats 4000000 in
theorem gBack_any (A B : Option Addr) (l : List Ed) (f : List Int) (c d : Nat) (w : World) (hp : Es w w.heap.size A l) (hq : Rd w w.heap.size B d (cellsI f)) (hg : Grph l) (hmf : f.length ≤ 1000) (hwf : WfL f) :
    Calls Try.prog 48 #[.slice A l.length c, .slice B f.length d] w (MadeI' w (backL l f)) := by
  have hgl := hg.1
  have k1 := Lib.hid (clone_ed A l c w hp (by omega))
  have k2 := Lib.hid (fun (A2 : Option Addr) (c2 : Nat) (W : World) (h1 : Es W W.heap.size A2 (l.map turn)) (b : Below w.heap.size w W) => gReach_any A2 B (l.map turn) f c2 d W h1 (hq.up b) (wf_list_turn hg) hmf hwf)
  rw [List.length_map] at k2
  unfold backL
  generalize reachL (l.map turn) f = L at *
  have hP := Lib.hid hp
  clear hp hq hg hwf
  go_enter Try.func48, Try.ntmps48
  go_wp2_with (go_at_call 43; (with_reducible refine (k1.out).mono ?_); rintro e w1 ⟨A2, c2, rfl, h2, b2⟩; (have O1 := Lib.hid h2); (have B1 := Lib.hid b2); clear h2 b2)
  go_loopw [12] (fun i wr => ∃ k : Nat, k ≤ l.length ∧ i = .int .i64 k ∧ Hid (OwnE wr w.heap.size A2 c2 (half l k)) ∧ Hid (Below w.heap.size w wr)) (fun i _ => l.length - (intOf i).toNat)
  case atStart => exact ⟨0, by omega, rfl, O1, B1⟩
  case round =>
    obtain ⟨k, hk, rfl, hO, hB⟩ := hrel
    clear O1 B1
    by_cases hlt : k < l.length
    · obtain ⟨ad, rfl, hab, x0, x1, x2, x3⟩ := (hP.out.below hB.out).get hlt
      obtain ⟨g, rfl, hg1, hg2⟩ := ownE_head hO.out (by rw [half_len]; omega)
      obtain ⟨ad2, e2, _, hA⟩ := hO.out.es.get (k := k) (by rw [half_len]; exact hlt)
      injection e2 with e2
      subst e2
      rw [add_pos] at hA
      have hst := Lib.hid (half_step hlt)
      obtain ⟨q0, q1, q2, q3⟩ := half_at hlt
      rw [q0, q1, q2, q3] at hA
      have hN : Hid (∀ W : World, OwnE W w.heap.size (some ⟨g, 0, none⟩) c2 (half l k) → OwnE (putFT W g (k * 4) (eT l k) (eF l k)) w.heap.size (some ⟨g, 0, none⟩) c2 (half l (k + 1))) := Lib.hid (fun W hW => by
        have := own_turn (a := eT l k) (b := eF l k) hW (k := k) (by rw [half_len]; exact hlt)
        rw [q0, q3, hst.out] at this
        exact this)
      generalize eI l k = y0 at *
      generalize eF l k = y1 at *
      generalize eT l k = y2 at *
      generalize eC l k = y3 at *
      have hOx := Lib.hid (OwnE.up hO.out ((Below.refl _ _).alloc (Nat.le_refl _) (.cells #[.int .i64 y0, .int .i64 y1, .int .i64 y2, .int .i64 y3] 33)))
      have hBx := Lib.hid (hB.out.alloc hB.out.size (.cells #[.int .i64 y0, .int .i64 y1, .int .i64 y2, .int .i64 y3] 33))
      have hX := box_four (Below.refl (wr.alloc (.cells #[.int .i64 y0, .int .i64 y1, .int .i64 y2, .int .i64 y3] 33)).heap.size _)
      have hAx := hA.keep (B := wr.heap.size) (w' := wr.alloc (.cells #[.int .i64 y0, .int .i64 y1, .int .i64 y2, .int .i64 y3] 33)) hg2 (fun q hq => ((Below.refl wr.heap.size wr).alloc (Nat.le_refl _) _).cell hq)
      obtain ⟨wx, hwx⟩ : ∃ wx, wr.alloc (.cells #[.int .i64 y0, .int .i64 y1, .int .i64 y2, .int .i64 y3] 33) = wx := ⟨_, rfl⟩
      rw [hwx] at hOx hBx hX hAx
      obtain ⟨z0, z1, z2, z3⟩ := hX
      obtain ⟨t0, t1, t2, t3⟩ := hAx
      have f0 : ∀ o, wx.frozen? ⟨g, o, none⟩ = false := fun o => World.ownsRow.frozenAt hOx.out o
      have hgb : ¬ g = wr.heap.size := by omega
      have hgb2 : ¬ wr.heap.size = g := by omega
      have hi1 : (0 : Int) ≤ (k : Int) := by omega
      have hi2 : (k : Int) < (l.length : Int) := by omega
      clear hst hA hO hB hP q0 q1 q2 q3 hg2
      go_wp2
      clear x0 x1 x2 x3 hwx
      go_region
      have hO3 := Lib.hid (hN.out wx hOx.out)
      have hB3 := Lib.hid (below_putFT hBx.out hg1 (k * 4) y2 y1)
      go_wp2
      exact ⟨⟨k + 1, by omega, by go_num, hO3, Lib.hid hB3.out.drew⟩, by simp [intOf]; omega⟩
    · obtain rfl : k = l.length := by omega
      have hE : Hid (OwnE wr w.heap.size A2 c2 (l.map turn)) := Lib.hid (by have := hO.out; rw [half_end] at this; exact this)
      clear hO hP
      go_wp2_with (go_at_call 23; (with_reducible refine (k2.out A2 c2 _ hE.out.es hB.out).mono ?_); rintro e w3 ⟨A3, c3, rfl, h3, b3⟩; (have H3 := Lib.hid h3); (have B3 := Lib.hid b3); clear h3 b3)
      go_ret
      exact ⟨A3, c3, rfl, H3.out.less hB.out.size, hB.out.trans (B3.out.mono hB.out.size)⟩
end Go.Proofs.Ytdemnbbofigcdaa
