/- The package's inRange and Right. -/
import Derived.Test.YtjbfkbdjopbjjaaRightR
namespace Go.Proofs.Ytjbfkbdjopbjjaa
open Go.RowKit

set_option maxRecDepth 100000 in
theorem inR_any (n : Int) (w : World) : Calls Try.prog 23 #[.int .i64 n] w fun e w' => e = .returned (.bool (inN n)) ∧ w = w' := by
  have hE : Hid (inN n = (decide (0 ≤ n) && decide (n ≤ 1000000000))) := Lib.hid rfl
  generalize inN n = r at *
  go_enter Try.func23, Try.ntmps23
  by_cases h1 : 0 ≤ n
  all_goals
    by_cases h2 : n ≤ 1000000000
    all_goals
      go_wp2
      go_ret
      exact ⟨congrArg (fun b => Ending.returned (.bool b)) (by rw [hE.out]; simp [h1, h2]), rfl⟩
set_option maxRecDepth 100000 in
set_option maxHeartbeats 2000000 in
theorem gRight_any (A : Option Addr) (l : List It) (c : Nat) (w : World) (hp : Its w w.heap.size A l) (_ : l.length ≤ c) (hmax : l.length ≤ 9223372036854775807) :
    Calls Try.prog 12 #[.slice A l.length c] w fun e w' => e = .returned (.int .i64 (errN l)) ∧ Below w.heap.size w w' := by
  by_cases h12 : 12 < l.length
  · have hR := Lib.hid (errN_long h12)
    generalize errN l = E at *
    have h12' : (12 : Int) < (l.length : Int) := by omega
    clear hp
    go_enter Try.func12, Try.ntmps12
    go_wp2
    go_ret
    exact ⟨congrArg (fun b => Ending.returned (.int .i64 b)) hR.out.symm, Below.refl _ _⟩
  · have hP := Lib.hid hp
    have hlen : l.length ≤ 12 := by omega
    have hOk := Lib.hid (fun h => errN_ok (l := l) hlen h)
    have hBad := Lib.hid (fun (k : Nat) (hk : k < l.length) (h : ¬ Ok3 l k) => errN_bad hlen hk h)
    have hO3 : Hid (∀ k, Ok3 l k ↔ inN (iA l k) = true ∧ inN (iB l k) = true ∧ inN (iV l k) = true) := Lib.hid (fun _ => Iff.rfl)
    generalize errN l = E at *
    generalize Ok3 l = OO at *
    clear hp
    go_enter Try.func12, Try.ntmps12
    go_wp2
    go_loopw [10] (fun i wr => ∃ k : Nat, k ≤ l.length ∧ i = .int .i64 k ∧ Hid (Below w.heap.size w wr) ∧ Hid (∀ j, j < k → OO j)) (fun i _ => l.length - (intOf i).toNat)
    case atStart => exact ⟨0, by omega, rfl, Lib.hid (Below.refl _ _), Lib.hid (fun j h => by omega)⟩
    case round =>
      obtain ⟨k, hk, rfl, hB, hN⟩ := hrel
      by_cases hlt : k < l.length
      · obtain ⟨ad, rfl, _, x1, x2, x3⟩ := (hP.out.below hB.out).get hlt
        have k1 := Lib.hid (fun W => inR_any (iA l k) W)
        have k2 := Lib.hid (fun W => inR_any (iB l k) W)
        have k3 := Lib.hid (fun W => inR_any (iV l k) W)
        have hBd := Lib.hid (fun h => hBad.out k hlt h)
        have hO := Lib.hid (hO3.out k)
        have hS := Lib.hid (fun (h : OO k) (j : Nat) (hj : j < k + 1) => (show OO j by
          by_cases hjk : j = k
          · rw [hjk]; exact h
          · exact hN.out j (by omega)))
        clear hOk hBad hO3 hN hP
        generalize iA l k = y1 at *
        generalize iB l k = y2 at *
        generalize iV l k = y3 at *
        generalize inN y1 = b1 at *
        generalize inN y2 = b2 at *
        generalize inN y3 = b3 at *
        have hB2 := Lib.hid (hB.out.alloc hB.out.size (.cells #[.int .i64 y1, .int .i64 y2, .int .i64 y3] 42))
        have hcase : (b1 = true ∧ b2 = true ∧ b3 = true) ∨ b1 = false ∨ (b1 = true ∧ b2 = false) ∨ (b1 = true ∧ b2 = true ∧ b3 = false) := by cases b1 <;> cases b2 <;> cases b3 <;> simp
        have hk0 : k = 0 ∨ 0 < k := by omega
        rcases hk0 with hk0 | hk0
        all_goals
          first
            | (subst hk0; have x1 : wr.cell? ad = some (.int .i64 y1) := x1; have x2 : wr.cell? { block := ad.block, off := ad.off + 1 } = some (.int .i64 y2) := x2; have x3 : wr.cell? { block := ad.block, off := ad.off + 2 } = some (.int .i64 y3) := x3)
            | skip
          rcases hcase with ⟨rfl, rfl, rfl⟩ | rfl | ⟨rfl, rfl⟩ | ⟨rfl, rfl, rfl⟩
          · have hR := Lib.hid (hS.out (hO.out.2 ⟨rfl, rfl, rfl⟩))
            clear hS hO hBd
            go_wp2_with (first
              | (go_at_call 23; (with_reducible refine (k1.out _).mono ?_); rintro e wq ⟨rfl, rfl⟩)
              | (go_at_call 23; (with_reducible refine (k2.out _).mono ?_); rintro e wq ⟨rfl, rfl⟩)
              | (go_at_call 23; (with_reducible refine (k3.out _).mono ?_); rintro e wq ⟨rfl, rfl⟩))
            first
              | exact ⟨⟨1, by omega, rfl, hB2, hR⟩, by simp [intOf]; omega⟩
              | exact ⟨⟨k + 1, by omega, by go_num, hB2, hR⟩, by simp [intOf]; omega⟩
          all_goals
            have hR := Lib.hid (hBd.out (fun h => by have := hO.out.1 h; simp at this))
            clear hS hO hBd
            go_wp2_with (first
              | (go_at_call 23; (with_reducible refine (k1.out _).mono ?_); rintro e wq ⟨rfl, rfl⟩)
              | (go_at_call 23; (with_reducible refine (k2.out _).mono ?_); rintro e wq ⟨rfl, rfl⟩)
              | (go_at_call 23; (with_reducible refine (k3.out _).mono ?_); rintro e wq ⟨rfl, rfl⟩))
            go_ret
            exact ⟨congrArg (fun b => Ending.returned (.int .i64 b)) hR.out.symm, hB2.out⟩
      · obtain rfl : k = l.length := by omega
        have hR := Lib.hid (hOk.out hN.out)
        clear hOk hBad hO3 hN hP
        go_wp2
        go_ret
        exact ⟨congrArg (fun b => Ending.returned (.int .i64 b)) hR.out.symm, hB.out⟩
end Go.Proofs.Ytjbfkbdjopbjjaa
