/- fixed.validPoints and the reference's Points: each returns 'valB'. -/
import Derived.Test.YtleddfceigmlmaaDoorRatio
import Derived.Laws.Pointers
import Derived.RegionTactic
import Derived.ChangeAlike
import Derived.LoopTactic
namespace Go.Proofs.YtleddfceigmlmaaDoor
open Go.RowKit

/-- A slice of n points that reads as X, Y. -/
def Pts (w : World) (B : Nat) (A : Option Addr) (n : Nat) (X Y : Nat → Int) : Prop :=
  0 < n → ∃ ad, A = some ad ∧ ad.block < B ∧ ∀ i, i < n → w.cell? (ad.add (i * 2)) = some (.int .i64 (X i)) ∧ w.cell? { block := (ad.add (i * 2)).block, off := (ad.add (i * 2)).off + 1 } = some (.int .i64 (Y i))
theorem block_of_add (a : Addr) (n : Nat) : (a.add n).block = a.block := by unfold Addr.add; split <;> rfl
theorem Pts.below {w w' : World} {B : Nat} {A : Option Addr} {n : Nat} {X Y : Nat → Int} (h : Pts w B A n X Y) (hb : Below B w w') : Pts w' B A n X Y := fun hn => by
  obtain ⟨ad, e, hl, hc⟩ := h hn
  exact ⟨ad, e, hl, fun i hi => ⟨(hb.cell (by rw [block_of_add]; exact hl)).trans (hc i hi).1, (hb.cell (by show (ad.add (i * 2)).block < B; rw [block_of_add]; exact hl)).trans (hc i hi).2⟩⟩

theorem below_drewN {B : Nat} {a w : World} (h : Below B a w) (n : Nat) : Below B a (w.drewN n) := ⟨h.os, h.tape, h.output, h.size, h.block⟩
theorem add_0 (a : Addr) : a.add 0 = a := rfl
theorem exd (w : World) (q n : Nat) : ∃ m, (w.drewN q).drewN n = w.drewN m := ⟨_, World.drewN_drewN _ _ _⟩
def coB (x : Int) : Bool := decide (-1000000000 ≤ x ∧ x ≤ 1000000000)
def okAt (X Y : Nat → Int) (i : Nat) : Prop := coB (X i) = true ∧ coB (Y i) = true ∧ (0 < i → X (i - 1) < X i)
def valid (n : Nat) (X Y : Nat → Int) : Prop := 1 ≤ n ∧ n ≤ 64 ∧ ∀ i, i < n → okAt X Y i
noncomputable def valB (n : Nat) (X Y : Nat → Int) : Bool := @decide (valid n X Y) (Classical.propDecidable _)
theorem valB_true {n : Nat} {X Y : Nat → Int} (h : valid n X Y) : valB n X Y = true := by unfold valB; exact @decide_eq_true _ (Classical.propDecidable _) h
theorem valB_false {n : Nat} {X Y : Nat → Int} (h : ¬ valid n X Y) : valB n X Y = false := by unfold valB; exact @decide_eq_false _ (Classical.propDecidable _) h

theorem coord_any (x : Int) (w : World) : Calls Tryd.prog 55 #[.int .i64 x] w fun e w' => e = .returned (.bool (coB x)) ∧ w = w' := by
  by_cases h1 : -1000000000 ≤ x
  · by_cases h2 : x ≤ 1000000000
    · have hv : Hid (coB x = true) := decide_eq_true ⟨h1, h2⟩
      rw [hv.out]
      go_enter Tryd.func55, Tryd.ntmps55
      go_wp2
      go_ret
      exact ⟨rfl, rfl⟩
    · have hv : Hid (coB x = false) := decide_eq_false (fun h => h2 h.2)
      rw [hv.out]
      go_enter Tryd.func55, Tryd.ntmps55
      go_wp2
      go_ret
      exact ⟨rfl, rfl⟩
  · have hv : Hid (coB x = false) := decide_eq_false (fun h => h1 h.1)
    rw [hv.out]
    go_enter Tryd.func55, Tryd.ntmps55
    go_wp2
    go_ret
    exact ⟨rfl, rfl⟩
theorem WithinC_any (x : Int) (w : World) : Calls Tryd.prog 31 #[.int .i64 x, .int .i64 1000000000] w fun e w' => e = .returned (.bool (coB x)) ∧ w = w' := by
  by_cases h1 : -1000000000 ≤ x
  · by_cases h2 : x ≤ 1000000000
    · have hv : Hid (coB x = true) := decide_eq_true ⟨h1, h2⟩
      rw [hv.out]
      go_enter Tryd.func31, Tryd.ntmps31
      go_wp2
      go_ret
      exact ⟨rfl, rfl⟩
    · have hv : Hid (coB x = false) := decide_eq_false (fun h => h2 h.2)
      rw [hv.out]
      go_enter Tryd.func31, Tryd.ntmps31
      go_wp2
      go_ret
      exact ⟨rfl, rfl⟩
  · have hv : Hid (coB x = false) := decide_eq_false (fun h => h1 h.1)
    rw [hv.out]
    go_enter Tryd.func31, Tryd.ntmps31
    go_wp2
    go_ret
    exact ⟨rfl, rfl⟩

set_option maxRecDepth 100000 in
set_option maxHeartbeats 1000000 in
theorem validPoints_any (A : Option Addr) (n cap : Nat) (X Y : Nat → Int) (w : World) (hp : Pts w w.heap.size A n X Y) (hmax : n ≤ 9223372036854775807) :
    Calls Tryd.prog 38 #[.slice A n cap] w fun e w' => e = .returned (.bool (valB n X Y)) ∧ Below w.heap.size w w' := by
  by_cases h1 : 1 ≤ n
  · by_cases h2 : n ≤ 64
    · have hV := Lib.hid (show valid n X Y ↔ ∀ i, i < n → okAt X Y i from ⟨fun h => h.2.2, fun h => ⟨h1, h2, h⟩⟩)
      obtain ⟨ad, rfl, hbl, hc⟩ := hp (by omega)
      have hc := Lib.hid hc
      clear hp
      go_enter Tryd.func38, Tryd.ntmps38
      go_wp2_with (go_at_call 55; refine (coord_any _ _).mono ?_; rintro e w' ⟨rfl, rfl⟩)
      go_loopw [15, 3, 4] (fun i _ _ wr => ∃ k : Nat, k ≤ n ∧ i = .int .i64 k ∧ Hid (∀ j, j < k → okAt X Y j) ∧ Below w.heap.size w wr) (fun i _ _ _ => n - (intOf i).toNat)
      case atStart => exact ⟨0, by omega, rfl, Lib.hid (fun j hj => absurd hj (by omega)), Below.refl _ _⟩
      case round =>
        obtain ⟨k, hk, rfl, hok, hb⟩ := hrel
        by_cases hlt : k < n
        · obtain ⟨hx, hy⟩ := hc.out k hlt
          have hx' : ∀ o, (wr.alloc o).cell? (ad.add (k * 2)) = some (.int .i64 (X k)) := fun o => ((hb.alloc hb.size o).cell (by rw [block_of_add]; exact hbl)).trans hx
          have hy' : ∀ o, (wr.alloc o).cell? { block := (ad.add (k * 2)).block, off := (ad.add (k * 2)).off + 1 } = some (.int .i64 (Y k)) := fun o => ((hb.alloc hb.size o).cell (by show (ad.add (k * 2)).block < _; rw [block_of_add]; exact hbl)).trans hy
          have hx0 : wr.cell? (ad.add (k * 2)) = some (.int .i64 (X k)) := (hb.cell (by rw [block_of_add]; exact hbl)).trans hx
          have hy0 : wr.cell? { block := (ad.add (k * 2)).block, off := (ad.add (k * 2)).off + 1 } = some (.int .i64 (Y k)) := (hb.cell (by show (ad.add (k * 2)).block < _; rw [block_of_add]; exact hbl)).trans hy
          clear hx hy
          rcases cx : coB (X k) with _ | _
          · have hv := Lib.hid (show valB n X Y = false from valB_false (fun h => by have := (h.2.2 k hlt).1; rw [cx] at this; exact absurd this (by decide)))
            have hb' := Lib.hid hb
            clear hb hok
            go_wp2_with (go_at_call 55; refine (coord_any _ _).mono ?_; rintro e w' ⟨rfl, rfl⟩)
            go_ret
            exact ⟨congrArg (fun b => Ending.returned (.bool b)) hv.out.symm, by first | exact hb'.out | exact hb'.out.alloc hb'.out.size _ | exact below_drewN (hb'.out.alloc hb'.out.size _) _⟩
          · rcases cy : coB (Y k) with _ | _
            · have hv := Lib.hid (show valB n X Y = false from valB_false (fun h => by have := (h.2.2 k hlt).2.1; rw [cy] at this; exact absurd this (by decide)))
              have hb' := Lib.hid hb
              clear hb hok
              go_wp2_with (go_at_call 55; refine (coord_any _ _).mono ?_; rintro e w' ⟨rfl, rfl⟩)
              go_ret
              exact ⟨congrArg (fun b => Ending.returned (.bool b)) hv.out.symm, by first | exact hb'.out | exact hb'.out.alloc hb'.out.size _ | exact below_drewN (hb'.out.alloc hb'.out.size _) _⟩
            · have hb' := Lib.hid hb
              cases k with
              | zero =>
                have hok' := Lib.hid (show ∀ j, j < 0 + 1 → okAt X Y j from fun j hj => by obtain rfl : j = 0 := (by omega); exact ⟨cx, cy, fun h => absurd h (by omega)⟩)
                simp only [Nat.zero_mul, add_0] at hx' hy' hx0 hy0
                clear hb hok
                go_wp2_with (go_at_call 55; refine (coord_any _ _).mono ?_; rintro e w' ⟨rfl, rfl⟩)
                go_quiet (fail)
                go_wp2
                exact ⟨⟨0 + 1, hlt, by go_num, hok', below_drewN (hb'.out.alloc hb'.out.size _) _⟩, by simp [intOf]; omega⟩
              | succ m =>
                obtain ⟨gx, _⟩ := hc.out m (by omega)
                have gx' : ∀ o, (wr.alloc o).cell? (ad.add (m * 2)) = some (.int .i64 (X m)) := fun o => ((hb.alloc hb.size o).cell (by rw [block_of_add]; exact hbl)).trans gx
                clear gx
                by_cases hlt2 : X m < X (m + 1)
                · have hok' := Lib.hid (show ∀ j, j < m + 1 + 1 → okAt X Y j from fun j hj => by
                    rcases Nat.lt_or_ge j (m + 1) with h | h
                    · exact hok.out j h
                    · obtain rfl : j = m + 1 := by omega
                      exact ⟨cx, cy, fun _ => hlt2⟩)
                  clear hb hok
                  go_wp2_with (go_at_call 55; refine (coord_any _ _).mono ?_; rintro e w' ⟨rfl, rfl⟩)
                  go_quiet (fail)
                  go_wp2
                  exact ⟨⟨m + 1 + 1, hlt, by go_num, hok', below_drewN (hb'.out.alloc hb'.out.size _) _⟩, by simp [intOf]; omega⟩
                · have hv := Lib.hid (show valB n X Y = false from valB_false (fun h => hlt2 ((h.2.2 (m + 1) hlt).2.2 (by omega))))
                  clear hb hok
                  go_wp2_with (go_at_call 55; refine (coord_any _ _).mono ?_; rintro e w' ⟨rfl, rfl⟩)
                  go_quiet (fail)
                  go_wp2
                  go_ret
                  exact ⟨congrArg (fun b => Ending.returned (.bool b)) hv.out.symm, below_drewN (hb'.out.alloc hb'.out.size _) _⟩
        · obtain rfl : k = n := by omega
          have hv := Lib.hid (show valB k X Y = true from valB_true (hV.out.2 hok.out))
          have hb' := Lib.hid hb
          clear hb hok
          go_wp2
          go_ret
          exact ⟨congrArg (fun b => Ending.returned (.bool b)) hv.out.symm, by first | exact hb'.out | exact hb'.out.alloc hb'.out.size _ | exact below_drewN (hb'.out.alloc hb'.out.size _) _⟩
    · have hv : Hid (valB n X Y = false) := valB_false (fun h => h2 h.2.1)
      rw [hv.out]
      go_enter Tryd.func38, Tryd.ntmps38
      go_wp2
      go_ret
      exact ⟨rfl, Below.refl _ _⟩
  · have hv : Hid (valB n X Y = false) := valB_false (fun h => h1 h.1)
    rw [hv.out]
    obtain rfl : n = 0 := by omega
    go_enter Tryd.func38, Tryd.ntmps38
    go_wp2
    go_ret
    exact ⟨rfl, Below.refl _ _⟩

theorem quiet_add_left {P : Program} {f : FuncId} {args : Array Value} {w : World} {a n : Nat} {v : Value}
    (h : Calls P f args (w.drewN (a + n)) fun e w' => e = .returned v ∧ w.drewN (a + n) = w') :
    Calls P f args (w.drewN (a + n)) fun e w'' => e = .returned v ∧ ∃ m, w'' = w.drewN (a + m) :=
  h.mono fun _ _ ⟨he, hm⟩ => ⟨he, n, hm.symm⟩
theorem quiet_left {P : Program} {f : FuncId} {args : Array Value} {w : World} {n : Nat} {v : Value}
    (h : Calls P f args (w.drewN n) fun e w' => e = .returned v ∧ w.drewN n = w') : Calls P f args (w.drewN n) fun e w'' => e = .returned v ∧ ∃ m, w'' = w.drewN m :=
  h.mono fun _ _ ⟨he, hm⟩ => ⟨he, n, hm.symm⟩

set_option maxRecDepth 100000 in
set_option maxHeartbeats 1000000 in
theorem refPoints_any (A : Option Addr) (n cap : Nat) (X Y : Nat → Int) (w : World) (hp : Pts w w.heap.size A n X Y) (hmax : n ≤ 9223372036854775807) :
    Calls Tryd.prog 41 #[.slice A n cap] w fun e w' => e = .returned (.bool (valB n X Y)) ∧ ∃ q, w' = w.drewN q := by
  by_cases h1 : 1 ≤ n
  · by_cases h2 : n ≤ 64
    · have hV := Lib.hid (show valid n X Y ↔ ∀ i, i < n → okAt X Y i from ⟨fun h => h.2.2, fun h => ⟨h1, h2, h⟩⟩)
      obtain ⟨ad, rfl, hbl, hc⟩ := hp (by omega)
      have hc := Lib.hid hc
      clear hp
      go_enter Tryd.func41, Tryd.ntmps41
      go_wp2
      go_loopw [3] (fun i wr => ∃ k : Nat, k ≤ n ∧ i = .int .i64 k ∧ Hid (∀ j, j < k → okAt X Y j) ∧ ∃ q, wr = w.drewN q) (fun i _ => n - (intOf i).toNat)
      case atStart => exact ⟨0, by omega, rfl, Lib.hid (fun j hj => absurd hj (by omega)), 0, rfl⟩
      case round =>
        obtain ⟨k, hk, rfl, hok, q, rfl⟩ := hrel
        by_cases hlt : k < n
        · obtain ⟨hx, hy⟩ := hc.out k hlt
          cases k with
          | zero =>
            simp only [Nat.zero_mul, add_0] at hx hy
            rcases cx : coB (X 0) with _ | _
            · have hv := Lib.hid (show valB n X Y = false from valB_false (fun h => by have := (h.2.2 0 hlt).1; rw [cx] at this; exact absurd this (by decide)))
              clear hok
              go_wp2
              go_quiet ((go_at_call 31; first | exact quiet_left (WithinC_any _ _) | exact quiet_add_left (WithinC_any _ _)))
              go_wp2
              go_ret
              exact ⟨congrArg (fun b => Ending.returned (.bool b)) hv.out.symm, by first | exact ⟨_, rfl⟩ | exact exd _ _ _⟩
            · rcases cy : coB (Y 0) with _ | _
              · have hv := Lib.hid (show valB n X Y = false from valB_false (fun h => by have := (h.2.2 0 hlt).2.1; rw [cy] at this; exact absurd this (by decide)))
                clear hok
                go_wp2
                go_quiet ((go_at_call 31; first | exact quiet_left (WithinC_any _ _) | exact quiet_add_left (WithinC_any _ _)))
                go_wp2
                go_ret
                exact ⟨congrArg (fun b => Ending.returned (.bool b)) hv.out.symm, by first | exact ⟨_, rfl⟩ | exact exd _ _ _⟩
              · have hok' := Lib.hid (show ∀ j, j < 0 + 1 → okAt X Y j from fun j hj => by obtain rfl : j = 0 := (by omega); exact ⟨cx, cy, fun h => absurd h (by omega)⟩)
                clear hok
                go_wp2
                go_quiet ((go_at_call 31; first | exact quiet_left (WithinC_any _ _) | exact quiet_add_left (WithinC_any _ _)))
                go_wp2
                exact ⟨⟨0 + 1, hlt, by go_num, hok', _, rfl⟩, by simp [intOf]; omega⟩
          | succ m =>
            obtain ⟨gx, _⟩ := hc.out m (by omega)
            rcases cx : coB (X (m + 1)) with _ | _
            · have hv := Lib.hid (show valB n X Y = false from valB_false (fun h => by have := (h.2.2 (m + 1) hlt).1; rw [cx] at this; exact absurd this (by decide)))
              clear hok
              go_wp2
              go_quiet ((go_at_call 31; first | exact quiet_left (WithinC_any _ _) | exact quiet_add_left (WithinC_any _ _)))
              go_wp2
              go_ret
              exact ⟨congrArg (fun b => Ending.returned (.bool b)) hv.out.symm, by first | exact ⟨_, rfl⟩ | exact exd _ _ _⟩
            · rcases cy : coB (Y (m + 1)) with _ | _
              · have hv := Lib.hid (show valB n X Y = false from valB_false (fun h => by have := (h.2.2 (m + 1) hlt).2.1; rw [cy] at this; exact absurd this (by decide)))
                clear hok
                go_wp2
                go_quiet ((go_at_call 31; first | exact quiet_left (WithinC_any _ _) | exact quiet_add_left (WithinC_any _ _)))
                go_wp2
                go_ret
                exact ⟨congrArg (fun b => Ending.returned (.bool b)) hv.out.symm, by first | exact ⟨_, rfl⟩ | exact exd _ _ _⟩
              · by_cases hlt2 : X m < X (m + 1)
                · have hok' := Lib.hid (show ∀ j, j < m + 1 + 1 → okAt X Y j from fun j hj => by
                    rcases Nat.lt_or_ge j (m + 1) with h | h
                    · exact hok.out j h
                    · obtain rfl : j = m + 1 := by omega
                      exact ⟨cx, cy, fun _ => hlt2⟩)
                  clear hok
                  go_wp2
                  go_quiet ((go_at_call 31; first | exact quiet_left (WithinC_any _ _) | exact quiet_add_left (WithinC_any _ _)))
                  go_wp2
                  exact ⟨⟨m + 1 + 1, hlt, by go_num, hok', _, rfl⟩, by simp [intOf]; omega⟩
                · have hv := Lib.hid (show valB n X Y = false from valB_false (fun h => hlt2 ((h.2.2 (m + 1) hlt).2.2 (by omega))))
                  clear hok
                  go_wp2
                  go_quiet ((go_at_call 31; first | exact quiet_left (WithinC_any _ _) | exact quiet_add_left (WithinC_any _ _)))
                  go_wp2
                  go_ret
                  exact ⟨congrArg (fun b => Ending.returned (.bool b)) hv.out.symm, by first | exact ⟨_, rfl⟩ | exact exd _ _ _⟩
        · obtain rfl : k = n := by omega
          have hv := Lib.hid (show valB k X Y = true from valB_true (hV.out.2 hok.out))
          clear hok
          go_wp2
          go_ret
          exact ⟨congrArg (fun b => Ending.returned (.bool b)) hv.out.symm, by first | exact ⟨_, rfl⟩ | exact exd _ _ _⟩
    · have hv : Hid (valB n X Y = false) := valB_false (fun h => h2 h.2.1)
      rw [hv.out]
      go_enter Tryd.func41, Tryd.ntmps41
      go_wp2
      go_ret
      exact ⟨rfl, 0, rfl⟩
  · have hv : Hid (valB n X Y = false) := valB_false (fun h => h1 h.1)
    rw [hv.out]
    obtain rfl : n = 0 := by omega
    go_enter Tryd.func41, Tryd.ntmps41
    go_wp2
    go_ret
    exact ⟨rfl, 0, rfl⟩

end Go.Proofs.YtleddfceigmlmaaDoor
