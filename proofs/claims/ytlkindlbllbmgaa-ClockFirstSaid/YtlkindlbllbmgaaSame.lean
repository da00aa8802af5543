/- The reference's Same; the law's plain and few. -/
import Derived.Test.YtlkindlbllbmgaaSetsR
namespace Go.Proofs.Ytlkindlbllbmgaa
open Go.RowKit

theorem few_any (A : Option Addr) (n cap : Nat) (w : World) (hmax : n ≤ 9223372036854775807) : Calls Try.prog 24 #[.slice A n cap] w fun e w' => e = .returned (.bool (decide (n ≤ 60))) ∧ w = w' := by
  by_cases h : n ≤ 60
  · rw [decide_eq_true h]
    go_enter Try.func24, Try.ntmps24
    go_wp2
    go_ret
    exact ⟨by simp; omega, rfl⟩
  · rw [decide_eq_false h]
    go_enter Try.func24, Try.ntmps24
    go_wp2
    go_ret
    exact ⟨by simp; omega, rfl⟩

set_option maxRecDepth 100000 in
set_option maxHeartbeats 1000000 in
/-- Two slices that read as one list are the same. -/
theorem same_any (A B : Option Addr) (l : List Iv) (ca cb : Nat) (w : World) (ha : Ivs w w.heap.size A l) (hb : Ivs w w.heap.size B l) (hmax : l.length ≤ 9223372036854775807) :
    Calls Try.prog 25 #[.slice A l.length ca, .slice B l.length cb] w fun e w' => e = .returned (.bool true) ∧ Below w.heap.size w w' := by
  have hA := Lib.hid ha
  have hB := Lib.hid hb
  clear ha hb
  go_enter Try.func25, Try.ntmps25
  go_wp2
  go_loopw [5] (fun i wr => ∃ k : Nat, k ≤ l.length ∧ i = .int .i64 k ∧ Below w.heap.size w wr) (fun i _ => l.length - (intOf i).toNat)
  case atStart => exact ⟨0, by omega, rfl, Below.refl _ _⟩
  case round =>
    obtain ⟨k, hk, rfl, hb⟩ := hrel
    by_cases hlt : k < l.length
    · obtain ⟨ad, rfl, hc⟩ := hA.out.get hlt
      obtain ⟨ad2, rfl, hc2⟩ := hB.out.get hlt
      obtain ⟨x0, y0⟩ := hc wr hb
      obtain ⟨x1, y1⟩ := hc2 wr hb
      have hb' := Lib.hid hb
      clear hb hc hc2
      go_wp2
      go_quiet (fail)
      go_wp2
      exact ⟨⟨k + 1, hlt, by go_num, below_drewN hb'.out _⟩, by simp [intOf]; omega⟩
    · obtain rfl : k = l.length := by omega
      have hb' := Lib.hid hb
      clear hb
      go_wp2
      go_ret
      exact ⟨rfl, hb'.out⟩

theorem plain_next {l : List Iv} (h : plainL l) {m : Nat} (hm : m + 1 < l.length) : ly l m < lx l (m + 1) := by
  rw [lx_at hm, ly_at (by omega)]
  exact List.pairwise_iff_getElem.1 h.2 m (m + 1) (by omega) hm (by omega)

set_option maxRecDepth 100000 in
set_option maxHeartbeats 2000000 in
/-- The law's own test: intervals that are not empty, in increasing order, and neither overlap nor touch. -/
theorem plain_any (A : Option Addr) (l : List Iv) (cap : Nat) (w : World) (ha : Ivs w w.heap.size A l) (hl : plainL l) :
    Calls Try.prog 34 #[.slice A l.length cap] w fun e w' => e = .returned (.bool true) ∧ Below w.heap.size w w' := by
  have hA := Lib.hid ha
  have hmax := plain_len hl
  have hL := Lib.hid hl
  clear ha hl
  go_enter Try.func34, Try.ntmps34
  go_wp2
  go_loopw [3] (fun i wr => ∃ k : Nat, k ≤ l.length ∧ i = .int .i64 k ∧ Below w.heap.size w wr) (fun i _ => l.length - (intOf i).toNat)
  case atStart => exact ⟨0, by omega, rfl, Below.refl _ _⟩
  case round =>
    obtain ⟨k, hk, rfl, hb⟩ := hrel
    by_cases hlt : k < l.length
    · obtain ⟨p1, p2, p3⟩ := plain_at hL.out hlt
      obtain ⟨ad, rfl, hc⟩ := hA.out.get hlt
      obtain ⟨x0, y0⟩ := hc wr hb
      have d1 : decide (lx l k < 0) = false := decide_eq_false (by omega)
      have d2 : decide (ly l k ≤ lx l k) = false := decide_eq_false (by omega)
      have d3 : decide (20000000 < ly l k) = false := decide_eq_false (by omega)
      cases k with
      | zero =>
        simp only [Nat.zero_mul, add_0] at x0 y0
        have hb' := Lib.hid hb
        clear hb hc
        go_wp2
        go_quiet (fail)
        go_wp2
        exact ⟨⟨0 + 1, hlt, by go_num, below_drewN hb'.out _⟩, by simp [intOf]; omega⟩
      | succ m =>
        obtain ⟨ad2, e2, hc2⟩ := hA.out.get (k := m) (by omega)
        injection e2 with e2
        subst e2
        obtain ⟨x1, y1⟩ := hc2 wr hb
        have hnx := plain_next hL.out hlt
        have d4 : decide (lx l (m + 1) ≤ ly l m) = false := decide_eq_false (by omega)
        have hb' := Lib.hid hb
        have hm1 : (m : Int) < (l.length : Int) := by omega
        clear hb hc hc2
        go_wp2
        go_quiet (fail)
        go_wp2
        exact ⟨⟨m + 1 + 1, hlt, by go_num, below_drewN hb'.out _⟩, by simp [intOf]; omega⟩
    · obtain rfl : k = l.length := by omega
      have hb' := Lib.hid hb
      clear hb
      go_wp2
      go_ret
      exact ⟨rfl, hb'.out⟩
end Go.Proofs.Ytlkindlbllbmgaa
