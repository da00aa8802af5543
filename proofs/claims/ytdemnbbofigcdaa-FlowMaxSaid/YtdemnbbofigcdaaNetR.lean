/- The reference's net and Value. -/
import Derived.Test.YtdemnbbofigcdaaFlowM
import Derived.Test.YtdemnbbofigcdaaApp
import Derived.Deep.QuietTactic
import Derived.BigQuiet
namespace Go.Proofs.Ytdemnbbofigcdaa
open Go.RowKit

def Low (l : List Ed) (f : List Int) : Prop := f.length = l.length ∧ l.length ≤ 200 ∧ ∀ k, k < l.length → 0 ≤ ix f k ∧ ix f k ≤ 1000000
theorem low_term {l : List Ed} {f : List Int} (h : Low l f) (n : Int) {k : Nat} (hk : k < l.length) : -1000000 ≤ netK l f n k ∧ netK l f n k ≤ 1000000 := by
  have := h.2.2 k hk
  unfold netK
  split <;> split <;> omega
theorem low_sum {l : List Ed} {f : List Int} (h : Low l f) (n : Int) : ∀ {k : Nat}, k ≤ l.length → -(1000000 * (k : Int)) ≤ sumK k (netK l f n) ∧ sumK k (netK l f n) ≤ 1000000 * (k : Int)
  | 0, _ => by simp [sumK]
  | k + 1, hk => by
    have h1 := low_sum h n (k := k) (by omega)
    have h2 := low_term h n (k := k) (by omega)
    rw [sumK]
    omega
set_option maxRecDepth 100000 in
set_option maxHeartbeats 2000000 in
theorem net_any (A B : Option Addr) (l : List Ed) (f : List Int) (c d : Nat) (n : Int) (w : World) (hp : Es w w.heap.size A l) (hq : Rd w w.heap.size B d (cellsI f)) (hl : Low l f) :
    Calls Try.prog 28 #[.slice A l.length c, .slice B f.length d, .int .i64 n] w fun e w' => e = .returned (.int .i64 (net l f n)) ∧ w = w' := by
  have hP := Lib.hid hp
  have hQ := Lib.hid hq
  have hL := Lib.hid hl
  have hlen := hl.1
  have hmax := hl.2.1
  clear hp hq hl
  go_enter Try.func28, Try.ntmps28
  go_wp2
  go_loop [7, 8] (fun a i => ∃ (k : Nat) (z : Int), k ≤ l.length ∧ i = .int .i64 k ∧ a = .int .i64 z ∧ Hid (z = sumK k (netK l f n))) (fun _ i => l.length - (intOf i).toNat)
  case atStart => exact ⟨0, 0, by omega, rfl, rfl, Lib.hid rfl⟩
  case round =>
    obtain ⟨k, z, hk, rfl, rfl, hz⟩ := hrel
    by_cases hlt : k < l.length
    · obtain ⟨ad, rfl, hab, _, x1, x2, _⟩ := hP.out.get hlt
      have hkf : k < f.length := by omega
      obtain ⟨bd, rfl, _, c1⟩ := hQ.out.get (cellsI_ix hkf)
      have hb := hL.out.2.2 k hlt
      have hs := low_sum hL.out n hk
      rw [← hz.out] at hs
      have hN : Hid (z + ((if eF l k = n then ix f k else 0) - (if eT l k = n then ix f k else 0)) = sumK (k + 1) (netK l f n)) := Lib.hid (by rw [sumK, ← hz.out]; rfl)
      have hi1 : (k : Int) < (f.length : Int) := by omega
      have hi2 : (k : Int) < (l.length : Int) := by omega
      clear hz hL hP hQ
      generalize eF l k = y1 at *
      generalize eT l k = y2 at *
      generalize ix f k = x at *
      by_cases h1 : y1 = n
      · have e1 : (y1 == n) = true := beq_iff_eq.2 h1
        by_cases h2 : y2 = n
        · have e2 : (y2 == n) = true := beq_iff_eq.2 h2
          have hR : Hid (z = sumK (k + 1) (netK l f n)) := Lib.hid (by have := hN.out; rw [if_pos h1, if_pos h2] at this; omega)
          clear hN
          by_cases hk0 : k = 0
          all_goals
            first
              | (subst hk0; have x1 : w.cell? { block := ad.block, off := ad.off + 1 } = some (.int .i64 y1) := x1; have x2 : w.cell? { block := ad.block, off := ad.off + 2 } = some (.int .i64 y2) := x2; have c1 : w.cell? bd = some (.int .i64 x) := c1)
              | skip
            go_wp2
            first
              | exact ⟨⟨1, _, by omega, rfl, by go_num, hR⟩, by simp [intOf]; omega⟩
              | exact ⟨⟨k + 1, _, by omega, by go_num, by go_num, hR⟩, by simp [intOf]; omega⟩
        · have e2 : (y2 == n) = false := beq_eq_false_iff_ne.2 h2
          have hR : Hid (z + x = sumK (k + 1) (netK l f n)) := Lib.hid (by have := hN.out; rw [if_pos h1, if_neg h2] at this; omega)
          clear hN
          by_cases hk0 : k = 0
          all_goals
            first
              | (subst hk0; have x1 : w.cell? { block := ad.block, off := ad.off + 1 } = some (.int .i64 y1) := x1; have x2 : w.cell? { block := ad.block, off := ad.off + 2 } = some (.int .i64 y2) := x2; have c1 : w.cell? bd = some (.int .i64 x) := c1)
              | skip
            go_wp2
            first
              | exact ⟨⟨1, _, by omega, rfl, by go_num, hR⟩, by simp [intOf]; omega⟩
              | exact ⟨⟨k + 1, _, by omega, by go_num, by go_num, hR⟩, by simp [intOf]; omega⟩
      · have e1 : (y1 == n) = false := beq_eq_false_iff_ne.2 h1
        by_cases h2 : y2 = n
        · have e2 : (y2 == n) = true := beq_iff_eq.2 h2
          have hR : Hid (z - x = sumK (k + 1) (netK l f n)) := Lib.hid (by have := hN.out; rw [if_neg h1, if_pos h2] at this; omega)
          clear hN
          by_cases hk0 : k = 0
          all_goals
            first
              | (subst hk0; have x1 : w.cell? { block := ad.block, off := ad.off + 1 } = some (.int .i64 y1) := x1; have x2 : w.cell? { block := ad.block, off := ad.off + 2 } = some (.int .i64 y2) := x2; have c1 : w.cell? bd = some (.int .i64 x) := c1)
              | skip
            go_wp2
            first
              | exact ⟨⟨1, _, by omega, rfl, by go_num, hR⟩, by simp [intOf]; omega⟩
              | exact ⟨⟨k + 1, _, by omega, by go_num, by go_num, hR⟩, by simp [intOf]; omega⟩
        · have e2 : (y2 == n) = false := beq_eq_false_iff_ne.2 h2
          have hR : Hid (z = sumK (k + 1) (netK l f n)) := Lib.hid (by have := hN.out; rw [if_neg h1, if_neg h2] at this; omega)
          clear hN
          by_cases hk0 : k = 0
          all_goals
            first
              | (subst hk0; have x1 : w.cell? { block := ad.block, off := ad.off + 1 } = some (.int .i64 y1) := x1; have x2 : w.cell? { block := ad.block, off := ad.off + 2 } = some (.int .i64 y2) := x2; have c1 : w.cell? bd = some (.int .i64 x) := c1)
              | skip
            go_wp2
            first
              | exact ⟨⟨1, _, by omega, rfl, by go_num, hR⟩, by simp [intOf]; omega⟩
              | exact ⟨⟨k + 1, _, by omega, by go_num, by go_num, hR⟩, by simp [intOf]; omega⟩
    · obtain rfl : k = l.length := by omega
      clear hP hQ hL
      go_wp2
      go_ret
      exact ⟨by rw [hz.out]; rfl, rfl⟩
end Go.Proofs.Ytdemnbbofigcdaa
