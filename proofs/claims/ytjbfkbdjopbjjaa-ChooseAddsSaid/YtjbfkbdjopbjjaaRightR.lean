/- The reference's in and Right. -/
import Derived.Test.YtjbfkbdjopbjjaaApp
namespace Go.Proofs.Ytjbfkbdjopbjjaa
open Go.RowKit

def inN (n : Int) : Bool := decide (0 ≤ n) && decide (n ≤ 1000000000)
theorem inN_iff {n : Int} : inN n = true ↔ 0 ≤ n ∧ n ≤ 1000000000 := by unfold inN; rw [Bool.and_eq_true, decide_eq_true_iff, decide_eq_true_iff]
def Ok3 (l : List It) (k : Nat) : Prop := inN (iA l k) = true ∧ inN (iB l k) = true ∧ inN (iV l k) = true
instance (l : List It) (k : Nat) : Decidable (Ok3 l k) := by unfold Ok3; exact inferInstance
/-- The error of items: 4 for too many, 2 for one out of its range. -/
def errN (l : List It) : Int := if 12 < l.length then 4 else if ∀ k, k < l.length → Ok3 l k then 0 else 2
theorem errN_long {l : List It} (h : 12 < l.length) : errN l = 4 := by unfold errN; rw [if_pos h]
theorem errN_ok {l : List It} (h : l.length ≤ 12) (h2 : ∀ k, k < l.length → Ok3 l k) : errN l = 0 := by unfold errN; rw [if_neg (by omega), if_pos h2]
theorem errN_bad {l : List It} {k : Nat} (h : l.length ≤ 12) (hk : k < l.length) (h2 : ¬ Ok3 l k) : errN l = 2 := by unfold errN; rw [if_neg (by omega), if_neg (fun h3 => h2 (h3 k hk))]
theorem errN_iff {l : List It} : errN l = 0 ↔ Rt l := by
  have hk : (∀ k, k < l.length → Ok3 l k) ↔ ∀ e ∈ l, (0 ≤ e.a ∧ e.a ≤ 1000000000) ∧ (0 ≤ e.b ∧ e.b ≤ 1000000000) ∧ (0 ≤ e.v ∧ e.v ≤ 1000000000) := by
    constructor
    · intro h e he
      obtain ⟨k, hk, rfl⟩ := List.getElem_of_mem he
      obtain ⟨h1, h2, h3⟩ := h k hk
      obtain ⟨e1, e2, e3⟩ := i_at hk
      rw [inN_iff, e1] at h1
      rw [inN_iff, e2] at h2
      rw [inN_iff, e3] at h3
      exact ⟨h1, h2, h3⟩
    · intro h k hk
      obtain ⟨e1, e2, e3⟩ := i_at hk
      obtain ⟨h1, h2, h3⟩ := h _ (List.getElem_mem hk)
      exact ⟨by rw [inN_iff, e1]; exact h1, by rw [inN_iff, e2]; exact h2, by rw [inN_iff, e3]; exact h3⟩
  unfold errN Rt
  rw [← hk]
  by_cases h : 12 < l.length
  · rw [if_pos h]
    exact ⟨fun h2 => (by omega), fun h2 => (by omega)⟩
  · rw [if_neg h]
    by_cases h2 : ∀ k, k < l.length → Ok3 l k
    · rw [if_pos h2]
      exact ⟨fun _ => ⟨by omega, h2⟩, fun _ => rfl⟩
    · rw [if_neg h2]
      exact ⟨fun h3 => (by omega), fun h3 => absurd h3.2 h2⟩
instance (l : List It) : Decidable (Rt l) := decidable_of_iff _ errN_iff
set_option maxRecDepth 100000 in
theorem in_any (n : Int) (w : World) : Calls Try.prog 24 #[.int .i64 n] w fun e w' => e = .returned (.bool (inN n)) ∧ w = w' := by
  have hE : Hid (inN n = (decide (0 ≤ n) && decide (n ≤ 1000000000))) := Lib.hid rfl
  generalize inN n = r at *
  go_enter Try.func24, Try.ntmps24
  by_cases h1 : 0 ≤ n
  all_goals
    by_cases h2 : n ≤ 1000000000
    all_goals
      go_wp2
      go_ret
      exact ⟨congrArg (fun b => Ending.returned (.bool b)) (by rw [hE.out]; simp [h1, h2]), rfl⟩
set_option maxRecDepth 100000 in
set_option maxHeartbeats 2000000 in
theorem right_any (A : Option Addr) (l : List It) (c : Nat) (w : World) (hp : Its w w.heap.size A l) (hmax : l.length ≤ 9223372036854775807) :
    Calls Try.prog 13 #[.slice A l.length c] w fun e w' => e = .returned (.int .i64 (errN l)) ∧ w = w' := by
  by_cases h12 : 12 < l.length
  · have hR := Lib.hid (errN_long h12)
    generalize errN l = E at *
    have h12' : (12 : Int) < (l.length : Int) := by omega
    clear hp
    go_enter Try.func13, Try.ntmps13
    go_wp2
    go_ret
    exact ⟨congrArg (fun b => Ending.returned (.int .i64 b)) hR.out.symm, rfl⟩
  · have hP := Lib.hid hp
    have hlen : l.length ≤ 12 := by omega
    have hOk := Lib.hid (fun h => errN_ok (l := l) hlen h)
    have hBad := Lib.hid (fun (k : Nat) (hk : k < l.length) (h : ¬ Ok3 l k) => errN_bad hlen hk h)
    have hO3 : Hid (∀ k, Ok3 l k ↔ inN (iA l k) = true ∧ inN (iB l k) = true ∧ inN (iV l k) = true) := Lib.hid (fun _ => Iff.rfl)
    generalize errN l = E at *
    generalize Ok3 l = OO at *
    clear hp
    go_enter Try.func13, Try.ntmps13
    go_wp2
    go_loop [3] (fun i => ∃ k : Nat, k ≤ l.length ∧ i = .int .i64 k ∧ Hid (∀ j, j < k → OO j)) (fun i => l.length - (intOf i).toNat)
    case atStart => exact ⟨0, by omega, rfl, Lib.hid (fun j h => by omega)⟩
    case round =>
      obtain ⟨k, hk, rfl, hN⟩ := hrel
      by_cases hlt : k < l.length
      · obtain ⟨ad, rfl, _, x1, x2, x3⟩ := hP.out.get hlt
        have k1 := Lib.hid (in_any (iA l k) w)
        have k2 := Lib.hid (in_any (iB l k) w)
        have k3 := Lib.hid (in_any (iV l k) w)
        have hB := Lib.hid (fun h => hBad.out k hlt h)
        have hO := Lib.hid (hO3.out k)
        have hS := Lib.hid (fun (h : OO k) (j : Nat) (hj : j < k + 1) => (show OO j by
          by_cases hjk : j = k
          · rw [hjk]; exact h
          · exact hN.out j (by omega)))
        clear hOk hBad hO3 hN hP
        generalize iA l k = y1 at *
        generalize iB l k = y2 at *
        generalize iV l k = y3 at *
        generalize inN y1 = b1 at *
        generalize inN y2 = b2 at *
        generalize inN y3 = b3 at *
        have hcase : (b1 = true ∧ b2 = true ∧ b3 = true) ∨ b1 = false ∨ (b1 = true ∧ b2 = false) ∨ (b1 = true ∧ b2 = true ∧ b3 = false) := by cases b1 <;> cases b2 <;> cases b3 <;> simp
        have hk0 : k = 0 ∨ 0 < k := by omega
        rcases hk0 with hk0 | hk0
        all_goals
          first
            | (subst hk0; have x1 : w.cell? ad = some (.int .i64 y1) := x1; have x2 : w.cell? { block := ad.block, off := ad.off + 1 } = some (.int .i64 y2) := x2; have x3 : w.cell? { block := ad.block, off := ad.off + 2 } = some (.int .i64 y3) := x3)
            | skip
          rcases hcase with ⟨rfl, rfl, rfl⟩ | rfl | ⟨rfl, rfl⟩ | ⟨rfl, rfl, rfl⟩
          · have hR := Lib.hid (hS.out (hO.out.2 ⟨rfl, rfl, rfl⟩))
            clear hS hO hB
            go_wp2_with (first
              | (go_at_call 24; (with_reducible refine (k1.out).mono ?_); rintro e wq ⟨rfl, rfl⟩)
              | (go_at_call 24; (with_reducible refine (k2.out).mono ?_); rintro e wq ⟨rfl, rfl⟩)
              | (go_at_call 24; (with_reducible refine (k3.out).mono ?_); rintro e wq ⟨rfl, rfl⟩))
            first
              | exact ⟨⟨1, by omega, rfl, hR⟩, by simp [intOf]; omega⟩
              | exact ⟨⟨k + 1, by omega, by go_num, hR⟩, by simp [intOf]; omega⟩
          all_goals
            have hR := Lib.hid (hB.out (fun h => by have := hO.out.1 h; simp at this))
            clear hS hO hB
            go_wp2_with (first
              | (go_at_call 24; (with_reducible refine (k1.out).mono ?_); rintro e wq ⟨rfl, rfl⟩)
              | (go_at_call 24; (with_reducible refine (k2.out).mono ?_); rintro e wq ⟨rfl, rfl⟩)
              | (go_at_call 24; (with_reducible refine (k3.out).mono ?_); rintro e wq ⟨rfl, rfl⟩))
            go_ret
            exact ⟨congrArg (fun b => Ending.returned (.int .i64 b)) hR.out.symm, rfl⟩
      · obtain rfl : k = l.length := by omega
        have hR := Lib.hid (hOk.out hN.out)
        clear hOk hBad hO3 hN hP
        go_wp2
        go_ret
        exact ⟨congrArg (fun b => Ending.returned (.int .i64 b)) hR.out.symm, rfl⟩
end Go.Proofs.Ytjbfkbdjopbjjaa
