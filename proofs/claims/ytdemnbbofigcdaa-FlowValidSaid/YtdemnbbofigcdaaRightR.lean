/- The reference's Right (of layer 6). -/
import Derived.Test.YtdemnbbofigcdaaRefRight
import Derived.Deep.QuietTactic
import Derived.BigQuiet
namespace Go.Proofs.Ytdemnbbofigcdaa
open Go.RowKit

set_option maxRecDepth 100000 in
set_option maxHeartbeats 4000000 in
theorem right6_any (A : Option Addr) (l : List Ed) (c : Nat) (w : World) (hp : Es w w.heap.size A l) (hmax : l.length ≤ 9223372036854775807) :
    Calls Try.prog 26 #[.slice A l.length c] w fun e w' => e = .returned (.bool (decide (rightN l = 0))) ∧ Below w.heap.size w w' := by
  have hP := Lib.hid hp
  clear hp
  by_cases h200 : 200 < l.length
  · rw [show rightN l = 4 from if_pos h200]
    clear hP
    go_enter Try.func26, Try.ntmps26
    go_wp2
    go_ret
    exact ⟨rfl, Below.refl _ _⟩
  rw [right_short h200]
  obtain ⟨goal, hg⟩ : ∃ g, rgo [] l = g := ⟨_, rfl⟩
  rw [hg]
  have hG0 : Hid (rgo (l.take 0) (l.drop 0) = goal) := Lib.hid hg
  clear hg
  go_enter Try.func26, Try.ntmps26
  go_wp2
  go_loopw [3] (fun i wr => ∃ k : Nat, k ≤ l.length ∧ i = .int .i64 k ∧ Hid (Below w.heap.size w wr) ∧ Hid (rgo (l.take k) (l.drop k) = goal)) (fun i _ => l.length - (intOf i).toNat)
  case atStart => exact ⟨0, by omega, rfl, Lib.hid (Below.refl _ _), hG0⟩
  case round =>
    obtain ⟨k, hk, rfl, hB, hG⟩ := hrel
    clear hG0
    by_cases hlt : k < l.length
    · obtain ⟨ad, rfl, hab, c0⟩ := hP.out.get hlt
      obtain ⟨x0, x1, x2, x3⟩ := c0.keep (w' := wr) (by rw [block_of_add]; exact hab) (fun q hq => hB.out.cell hq)
      have hK := Lib.hid (fun (W : World) (h : Below w.heap.size w W) => (c0.keep (w' := W) (by rw [block_of_add]; exact hab) (fun q hq => h.cell hq)).1)
      clear c0
      have hbad : Hid (¬ Rng ⟨eI l k, eF l k, eT l k, eC l k⟩ → goal = 2) := Lib.hid (fun h => hG.out.symm.trans (rgo_bad hlt h))
      have htw : Hid (Rng ⟨eI l k, eF l k, eT l k, eC l k⟩ → eI l k ∈ (l.take k).map Ed.id → goal = 7) := Lib.hid (fun h h2 => hG.out.symm.trans (rgo_twice hlt h h2))
      have hnx : Hid (Rng ⟨eI l k, eF l k, eT l k, eC l k⟩ → eI l k ∉ (l.take k).map Ed.id → rgo (l.take (k + 1)) (l.drop (k + 1)) = goal) := Lib.hid (fun h h2 => (rgo_next hlt h h2).symm.trans hG.out)
      generalize eI l k = y0 at *
      generalize eF l k = y1 at *
      generalize eT l k = y2 at *
      generalize eC l k = y3 at *
      have hi1 : (k : Int) < (l.length : Int) := by omega
      by_cases hr : Rng ⟨y0, y1, y2, y3⟩
      · obtain ⟨r1, r2, r3, r4, r5, r6⟩ := id hr
        have htw := Lib.hid (htw.out hr)
        have hnx := Lib.hid (hnx.out hr)
        have r1 : 0 ≤ y1 := r1
        have r2 : y1 ≤ 9999 := r2
        have r3 : 0 ≤ y2 := r3
        have r4 : y2 ≤ 9999 := r4
        have r5 : 0 ≤ y3 := r5
        have r6 : y3 ≤ 1000000 := r6
        clear hbad hG hr
        obtain ⟨w0, rfl⟩ : ∃ w0, w0 = wr := ⟨wr, rfl⟩
        go_wp2
        clear x0 x1 x2 x3
        go_loopw [4] (fun i wr => ∃ j : Nat, j ≤ k ∧ i = .int .i64 j ∧ Hid (Below w.heap.size w wr) ∧ Hid (y0 ∉ (l.take j).map Ed.id)) (fun i _ => k - (intOf i).toNat)
        case atStart => exact ⟨0, by omega, rfl, hB, Lib.hid (by simp)⟩
        case round =>
          obtain ⟨j, hj, rfl, hBj, hN⟩ := hrel
          have z0 := hK.out wr hBj.out
          by_cases hjk : j < k
          · obtain ⟨ad', e', _, c0⟩ := hP.out.get (k := j) (by omega)
            obtain rfl : ad = ad' := Option.some.inj e'
            obtain ⟨x0, _, _, _⟩ := c0.keep (w' := wr) (by rw [block_of_add]; exact hab) (fun q hq => hBj.out.cell hq)
            clear c0 e'
            have hmem := Lib.hid (fun x => mem_ids (l := l) (k := j) (by omega) (x := x))
            have hsub : Hid (eI l j = y0 → y0 ∈ (l.take k).map Ed.id) := Lib.hid (fun h => by
              have h1 := (hmem.out y0).2 (.inr h)
              obtain ⟨e, he, hee⟩ := List.mem_map.1 h1
              exact List.mem_map.2 ⟨e, List.mem_of_mem_take (i := j + 1) (by rw [List.take_take, Nat.min_eq_left (by omega)]; exact he), hee⟩)
            have hnot : Hid (¬ eI l j = y0 → y0 ∉ (l.take (j + 1)).map Ed.id) := Lib.hid (fun h hm => by
              rcases (hmem.out y0).1 hm with h1 | h1
              · exact hN.out h1
              · exact h h1)
            generalize eI l j = z at *
            have q1 : (j : Int) < (l.length : Int) := by omega
            have q2 : (0 : Int) ≤ (j : Int) := by omega
            have q3 : (0 : Int) ≤ (k : Int) := by omega
            clear hmem hN hP hK
            by_cases hz : z = y0
            · have hR := Lib.hid (htw.out (hsub.out hz))
              subst hz
              clear hsub hnot htw hnx
              go_wp2
              go_quiet (fail)
              go_wp2
              go_ret
              exact ⟨by rw [hR.out]; rfl, below_drewN hBj.out _⟩
            · have hR := Lib.hid (hnot.out hz)
              have hb := beq_eq_false_iff_ne.2 hz
              clear hsub hnot htw hnx
              go_wp2
              go_quiet (fail)
              go_wp2
              exact ⟨⟨j + 1, by omega, by go_num, Lib.hid (below_drewN hBj.out _), hR⟩, by simp [intOf]; omega⟩
          · obtain rfl : j = k := by omega
            have hR := Lib.hid (hnx.out hN.out)
            clear hN hP htw hnx hK z0
            go_wp2
            exact ⟨⟨j + 1, by omega, by go_num, hBj, hR⟩, by simp [intOf]; omega⟩
      · have hR := Lib.hid (hbad.out hr)
        have hc : y1 < 0 ∨ (0 ≤ y1 ∧ 9999 < y1) ∨ (0 ≤ y1 ∧ y1 ≤ 9999 ∧ y2 < 0) ∨ (0 ≤ y1 ∧ y1 ≤ 9999 ∧ 0 ≤ y2 ∧ 9999 < y2) ∨ (0 ≤ y1 ∧ y1 ≤ 9999 ∧ 0 ≤ y2 ∧ y2 ≤ 9999 ∧ y3 < 0) ∨ (0 ≤ y1 ∧ y1 ≤ 9999 ∧ 0 ≤ y2 ∧ y2 ≤ 9999 ∧ 0 ≤ y3 ∧ 1000000 < y3) := by
          unfold Rng at hr
          simp only at hr
          omega
        clear hbad htw hnx hG hr hP hK
        rcases hc with h1 | ⟨h1, h2⟩ | ⟨h1, h2, h3⟩ | ⟨h1, h2, h3, h4⟩ | ⟨h1, h2, h3, h4, h5⟩ | ⟨h1, h2, h3, h4, h5, h6⟩
        all_goals
          go_wp2
          go_ret
          exact ⟨by rw [hR.out]; rfl, hB.out⟩
    · have hR : Hid (goal = 0) := Lib.hid (hG.out.symm.trans (rgo_end (by omega)))
      clear hG hP
      go_wp2
      go_ret
      exact ⟨by rw [hR.out]; rfl, hB.out⟩
end Go.Proofs.Ytdemnbbofigcdaa
