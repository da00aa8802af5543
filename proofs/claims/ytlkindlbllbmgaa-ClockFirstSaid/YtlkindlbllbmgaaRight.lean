/- Right: the program's and the reference's. -/
import Derived.Test.YtlkindlbllbmgaaSame
namespace Go.Proofs.Ytlkindlbllbmgaa
open Go.RowKit

theorem Hrs.get {w : World} {A : Option Addr} {l : List Hr} {k : Nat} (h : Hrs w w.heap.size A l) (hk : k < l.length) :
    ∃ ad, A = some ad ∧ ∀ wr, Below w.heap.size w wr → wr.cell? (ad.add (k * 3)) = some (.int .i64 (hd l k)) ∧ wr.cell? { block := (ad.add (k * 3)).block, off := (ad.add (k * 3)).off + 1 } = some (.int .i64 (hf l k)) ∧
      wr.cell? { block := (ad.add (k * 3)).block, off := (ad.add (k * 3)).off + 2 } = some (.int .i64 (ht l k)) := by
  obtain ⟨ad, e, hl, hc⟩ := h (by omega)
  have hb : (ad.add (k * 3)).block < w.heap.size := by rw [block_of_add]; exact hl
  exact ⟨ad, e, fun wr h => ⟨(h.cell hb).trans (hc k hk).1, (h.cell (p := ⟨(ad.add (k * 3)).block, (ad.add (k * 3)).off + 1, _⟩) hb).trans (hc k hk).2.1, (h.cell (p := ⟨(ad.add (k * 3)).block, (ad.add (k * 3)).off + 2, _⟩) hb).trans (hc k hk).2.2⟩⟩
def rightTo (l : List Hr) (k : Nat) : Prop := ∀ i, i < k → rightH (hd l i, hf l i, ht l i) = true
theorem right_step {l : List Hr} {k : Nat} (h : rightTo l k) (hk : rightH (hd l k, hf l k, ht l k) = true) : rightTo l (k + 1) := fun i hi => by
  rcases Nat.lt_or_ge i k with c | c
  · exact h i c
  · obtain rfl : i = k := by omega
    exact hk
theorem right_all {l : List Hr} (h16 : l.length ≤ 16) (h : rightTo l l.length) : rightB l = true := by
  unfold rightB
  rw [decide_eq_true h16, Bool.true_and, List.all_eq_true]
  intro x hx
  obtain ⟨i, hi, rfl⟩ := List.getElem_of_mem hx
  rw [← h_at hi]
  exact h i hi
theorem right_no {l : List Hr} {k : Nat} (hk : k < l.length) (h : rightH (hd l k, hf l k, ht l k) = false) : rightB l = false := by
  unfold rightB
  rw [h_at hk] at h
  rw [Bool.and_eq_false_iff]
  right
  rw [← Bool.not_eq_true, List.all_eq_true]
  intro k2
  have := k2 _ (List.getElem_mem hk)
  rw [h] at this
  exact absurd this (by decide)

set_option maxRecDepth 100000 in
set_option maxHeartbeats 4000000 in
theorem right_any (A : Option Addr) (l : List Hr) (cap : Nat) (w : World) (hp : Hrs w w.heap.size A l) (hmax : l.length ≤ 9223372036854775807) :
    Calls Try.prog 18 #[.slice A l.length cap] w fun e w' => e = .returned (.bool (rightB l)) ∧ Below w.heap.size w w' := by
  have hP := Lib.hid hp
  clear hp
  by_cases h16 : l.length ≤ 16
  · go_enter Try.func18, Try.ntmps18
    go_wp2
    go_loopw [10] (fun i wr => ∃ k : Nat, k ≤ l.length ∧ i = .int .i64 k ∧ Hid (rightTo l k) ∧ Below w.heap.size w wr) (fun i _ => l.length - (intOf i).toNat)
    case atStart => exact ⟨0, by omega, rfl, Lib.hid (fun j hj => absurd hj (by omega)), Below.refl _ _⟩
    case round =>
      obtain ⟨k, hk, rfl, hok, hb⟩ := hrel
      by_cases hlt : k < l.length
      · obtain ⟨ad, rfl, hc⟩ := hP.out.get hlt
        obtain ⟨x0, x1, x2⟩ := hc wr hb
        have hb' := Lib.hid hb
        clear hb hc
        by_cases c1 : hd l k < 1
        · have hr := Lib.hid (show rightB l = false from right_no hlt (by unfold rightH; exact decide_eq_false (by dsimp only; omega)))
          clear hok
          have f1 : decide (hd l k < 1) = true := decide_eq_true c1
          go_wp2
          go_ret
          exact ⟨congrArg (fun b => Ending.returned (.bool b)) hr.out.symm, hb'.out.alloc hb'.out.size _⟩
        · skip
          by_cases c2 : 127 < hd l k
          · have hr := Lib.hid (show rightB l = false from right_no hlt (by unfold rightH; exact decide_eq_false (by dsimp only; omega)))
            clear hok
            have f1 : decide (hd l k < 1) = false := decide_eq_false c1
            have f2 : decide (127 < hd l k) = true := decide_eq_true c2
            go_wp2
            go_ret
            exact ⟨congrArg (fun b => Ending.returned (.bool b)) hr.out.symm, hb'.out.alloc hb'.out.size _⟩
          · skip
            by_cases c3 : hf l k < 0
            · have hr := Lib.hid (show rightB l = false from right_no hlt (by unfold rightH; exact decide_eq_false (by dsimp only; omega)))
              clear hok
              have f1 : decide (hd l k < 1) = false := decide_eq_false c1
              have f2 : decide (127 < hd l k) = false := decide_eq_false c2
              have f3 : decide (hf l k < 0) = true := decide_eq_true c3
              go_wp2
              go_ret
              exact ⟨congrArg (fun b => Ending.returned (.bool b)) hr.out.symm, hb'.out.alloc hb'.out.size _⟩
            · skip
              by_cases c4 : ht l k ≤ hf l k
              · have hr := Lib.hid (show rightB l = false from right_no hlt (by unfold rightH; exact decide_eq_false (by dsimp only; omega)))
                clear hok
                have f1 : decide (hd l k < 1) = false := decide_eq_false c1
                have f2 : decide (127 < hd l k) = false := decide_eq_false c2
                have f3 : decide (hf l k < 0) = false := decide_eq_false c3
                have f4 : decide (ht l k ≤ hf l k) = true := decide_eq_true c4
                go_wp2
                go_ret
                exact ⟨congrArg (fun b => Ending.returned (.bool b)) hr.out.symm, hb'.out.alloc hb'.out.size _⟩
              · skip
                by_cases c5 : 86400 < ht l k
                · have hr := Lib.hid (show rightB l = false from right_no hlt (by unfold rightH; exact decide_eq_false (by dsimp only; omega)))
                  clear hok
                  have f1 : decide (hd l k < 1) = false := decide_eq_false c1
                  have f2 : decide (127 < hd l k) = false := decide_eq_false c2
                  have f3 : decide (hf l k < 0) = false := decide_eq_false c3
                  have f4 : decide (ht l k ≤ hf l k) = false := decide_eq_false c4
                  have f5 : decide (86400 < ht l k) = true := decide_eq_true c5
                  go_wp2
                  go_ret
                  exact ⟨congrArg (fun b => Ending.returned (.bool b)) hr.out.symm, hb'.out.alloc hb'.out.size _⟩
                · skip
                  have hok' := Lib.hid (right_step hok.out (show rightH (hd l k, hf l k, ht l k) = true by unfold rightH; exact decide_eq_true (by dsimp only; omega)))
                  clear hok
                  have f1 : decide (hd l k < 1) = false := decide_eq_false c1
                  have f2 : decide (127 < hd l k) = false := decide_eq_false c2
                  have f3 : decide (hf l k < 0) = false := decide_eq_false c3
                  have f4 : decide (ht l k ≤ hf l k) = false := decide_eq_false c4
                  have f5 : decide (86400 < ht l k) = false := decide_eq_false c5
                  go_wp2
                  exact ⟨⟨k + 1, hlt, by go_num, hok', hb'.out.alloc hb'.out.size _⟩, by simp [intOf]; omega⟩
      · obtain rfl : k = l.length := by omega
        have hr := Lib.hid (right_all h16 hok.out)
        have hb' := Lib.hid hb
        clear hb hok hP
        go_wp2
        go_ret
        exact ⟨congrArg (fun b => Ending.returned (.bool b)) hr.out.symm, hb'.out⟩
  · have hr : rightB l = false := by unfold rightB; rw [decide_eq_false h16]; rfl
    rw [hr]
    clear hP
    go_enter Try.func18, Try.ntmps18
    go_wp2
    go_ret
    exact ⟨rfl, Below.refl _ _⟩

set_option maxRecDepth 100000 in
set_option maxHeartbeats 4000000 in
theorem refRight_any (A : Option Addr) (l : List Hr) (cap : Nat) (w : World) (hp : Hrs w w.heap.size A l) (hmax : l.length ≤ 9223372036854775807) :
    Calls Try.prog 19 #[.slice A l.length cap] w fun e w' => e = .returned (.bool (rightB l)) ∧ Below w.heap.size w w' := by
  have hP := Lib.hid hp
  clear hp
  by_cases h16 : l.length ≤ 16
  · go_enter Try.func19, Try.ntmps19
    go_wp2
    go_loopw [3] (fun i wr => ∃ k : Nat, k ≤ l.length ∧ i = .int .i64 k ∧ Hid (rightTo l k) ∧ Below w.heap.size w wr) (fun i _ => l.length - (intOf i).toNat)
    case atStart => exact ⟨0, by omega, rfl, Lib.hid (fun j hj => absurd hj (by omega)), Below.refl _ _⟩
    case round =>
      obtain ⟨k, hk, rfl, hok, hb⟩ := hrel
      by_cases hlt : k < l.length
      · obtain ⟨ad, rfl, hc⟩ := hP.out.get hlt
        obtain ⟨x0, x1, x2⟩ := hc wr hb
        have hb' := Lib.hid hb
        clear hb hc
        by_cases c1 : hd l k < 1
        · have hr := Lib.hid (show rightB l = false from right_no hlt (by unfold rightH; exact decide_eq_false (by dsimp only; omega)))
          clear hok
          have f1 : decide (hd l k < 1) = true := decide_eq_true c1
          go_wp2
          go_quiet (fail)
          go_wp2
          go_ret
          exact ⟨congrArg (fun b => Ending.returned (.bool b)) hr.out.symm, below_drewN hb'.out _⟩
        · skip
          by_cases c2 : 127 < hd l k
          · have hr := Lib.hid (show rightB l = false from right_no hlt (by unfold rightH; exact decide_eq_false (by dsimp only; omega)))
            clear hok
            have f1 : decide (hd l k < 1) = false := decide_eq_false c1
            have f2 : decide (127 < hd l k) = true := decide_eq_true c2
            go_wp2
            go_quiet (fail)
            go_wp2
            go_ret
            exact ⟨congrArg (fun b => Ending.returned (.bool b)) hr.out.symm, below_drewN hb'.out _⟩
          · skip
            by_cases c3 : hf l k < 0
            · have hr := Lib.hid (show rightB l = false from right_no hlt (by unfold rightH; exact decide_eq_false (by dsimp only; omega)))
              clear hok
              have f1 : decide (hd l k < 1) = false := decide_eq_false c1
              have f2 : decide (127 < hd l k) = false := decide_eq_false c2
              have f3 : decide (hf l k < 0) = true := decide_eq_true c3
              go_wp2
              go_quiet (fail)
              go_wp2
              go_ret
              exact ⟨congrArg (fun b => Ending.returned (.bool b)) hr.out.symm, below_drewN hb'.out _⟩
            · skip
              by_cases c4 : ht l k ≤ hf l k
              · have hr := Lib.hid (show rightB l = false from right_no hlt (by unfold rightH; exact decide_eq_false (by dsimp only; omega)))
                clear hok
                have f1 : decide (hd l k < 1) = false := decide_eq_false c1
                have f2 : decide (127 < hd l k) = false := decide_eq_false c2
                have f3 : decide (hf l k < 0) = false := decide_eq_false c3
                have f4 : decide (ht l k ≤ hf l k) = true := decide_eq_true c4
                go_wp2
                go_quiet (fail)
                go_wp2
                go_ret
                exact ⟨congrArg (fun b => Ending.returned (.bool b)) hr.out.symm, below_drewN hb'.out _⟩
              · skip
                by_cases c5 : 86400 < ht l k
                · have hr := Lib.hid (show rightB l = false from right_no hlt (by unfold rightH; exact decide_eq_false (by dsimp only; omega)))
                  clear hok
                  have f1 : decide (hd l k < 1) = false := decide_eq_false c1
                  have f2 : decide (127 < hd l k) = false := decide_eq_false c2
                  have f3 : decide (hf l k < 0) = false := decide_eq_false c3
                  have f4 : decide (ht l k ≤ hf l k) = false := decide_eq_false c4
                  have f5 : decide (86400 < ht l k) = true := decide_eq_true c5
                  go_wp2
                  go_quiet (fail)
                  go_wp2
                  go_ret
                  exact ⟨congrArg (fun b => Ending.returned (.bool b)) hr.out.symm, below_drewN hb'.out _⟩
                · skip
                  have hok' := Lib.hid (right_step hok.out (show rightH (hd l k, hf l k, ht l k) = true by unfold rightH; exact decide_eq_true (by dsimp only; omega)))
                  clear hok
                  have f1 : decide (hd l k < 1) = false := decide_eq_false c1
                  have f2 : decide (127 < hd l k) = false := decide_eq_false c2
                  have f3 : decide (hf l k < 0) = false := decide_eq_false c3
                  have f4 : decide (ht l k ≤ hf l k) = false := decide_eq_false c4
                  have f5 : decide (86400 < ht l k) = false := decide_eq_false c5
                  go_wp2
                  go_quiet (fail)
                  go_wp2
                  exact ⟨⟨k + 1, hlt, by go_num, hok', below_drewN hb'.out _⟩, by simp [intOf]; omega⟩
      · obtain rfl : k = l.length := by omega
        have hr := Lib.hid (right_all h16 hok.out)
        have hb' := Lib.hid hb
        clear hb hok hP
        go_wp2
        go_ret
        exact ⟨congrArg (fun b => Ending.returned (.bool b)) hr.out.symm, hb'.out⟩
  · have hr : rightB l = false := by unfold rightB; rw [decide_eq_false h16]; rfl
    rw [hr]
    clear hP
    go_enter Try.func19, Try.ntmps19
    go_wp2
    go_ret
    exact ⟨rfl, Below.refl _ _⟩
end Go.Proofs.Ytlkindlbllbmgaa
