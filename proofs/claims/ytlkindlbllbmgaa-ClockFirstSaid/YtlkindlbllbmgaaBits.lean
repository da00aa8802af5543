/- A bit of a number: the program's test and the reference's. -/
import Derived.Test.YtlkindlbllbmgaaBase
namespace Go.Proofs.Ytlkindlbllbmgaa
open Go.RowKit
theorem bits_one (x : Int) : bits .and .i64 x 1 = x % 2 := by
  show IntKind.i64.wrap ((BitVec.ofInt 64 x &&& BitVec.ofInt 64 1).toNat : Int) = _
  rw [BitVec.toNat_and, show (BitVec.ofInt 64 1).toNat = 1 from rfl, Nat.and_one_is_mod, BitVec.toNat_ofInt, IntKind.wrap_i64]
  have e : (2 ^ 64 : Nat) = 18446744073709551616 := rfl
  rw [e]
  omega
theorem bits_on (d t : Int) : (bits .and .i64 (d / 2 ^ t.toNat) 1 == 1) = onB d t := by
  rw [bits_one]
  unfold onB
  rw [Bool.eq_iff_iff, beq_iff_eq, decide_eq_true_eq]
theorem on_any (d t : Int) (w : World) (h0 : 0 ≤ t) (h1 : t ≤ 6) : Calls Try.prog 38 #[.int .i64 d, .int .i64 t] w fun e w' => e = .returned (.bool (onB d t)) ∧ w = w' := by
  go_enter Try.func38, Try.ntmps38
  go_wp2
  go_ret
  exact ⟨congrArg (fun b => Ending.returned (.bool b)) (bits_on d t), rfl⟩
theorem opensOn_any (d f u t : Int) (w : World) (h0 : 0 ≤ t) (h1 : t ≤ 6) : Calls Try.prog 37 #[.agg #[.int .i64 d, .int .i64 f, .int .i64 u], .int .i64 t] w fun e w' => e = .returned (.bool (onB d t)) ∧ Below w.heap.size w w' := by
  go_enter Try.func37, Try.ntmps37
  go_wp2
  go_ret
  exact ⟨congrArg (fun b => Ending.returned (.bool b)) (bits_on d t), (Below.refl _ _).alloc (Nat.le_refl _) _⟩

/-! ### Valid intervals -/
def valB (x y : Int) : Bool := decide (0 ≤ x ∧ x ≤ y ∧ y ≤ 20000000)
theorem valB_of {x y : Int} (h : valB x y = true) : 0 ≤ x ∧ x ≤ y ∧ y ≤ 20000000 := of_decide_eq_true h
theorem valB_not {x y : Int} (h : valB x y = false) : ¬ (0 ≤ x ∧ x ≤ y ∧ y ≤ 20000000) := of_decide_eq_false h
theorem valB_mk {x y : Int} (h : 0 ≤ x ∧ x ≤ y ∧ y ≤ 20000000) : valB x y = true := decide_eq_true h
theorem valB_no {x y : Int} (h : ¬ (0 ≤ x ∧ x ≤ y ∧ y ≤ 20000000)) : valB x y = false := decide_eq_false h

set_option maxHeartbeats 1000000 in
theorem isValid_any (x y : Int) (w : World) : Calls Try.prog 41 #[.agg #[.int .i64 x, .int .i64 y]] w fun e w' => e = .returned (.bool (valB x y)) ∧ Below w.heap.size w w' := by
  rcases hx : timeB x with _ | _
  · have e : valB x y = false := valB_no (fun h => by have := of_decide_eq_false hx; omega)
    rw [e]
    clear e
    go_enter Try.func41, Try.ntmps41
    go_wp2_with (go_at_call 35; refine (isTime_any _ _).mono ?_; rintro e w' ⟨rfl, rfl⟩)
    go_ret
    exact ⟨rfl, (Below.refl _ _).alloc (Nat.le_refl _) _⟩
  · rcases hy : timeB y with _ | _
    · have e : valB x y = false := valB_no (fun h => by have := of_decide_eq_false hy; omega)
      rw [e]
      clear e
      go_enter Try.func41, Try.ntmps41
      go_wp2_with (go_at_call 35; refine (isTime_any _ _).mono ?_; rintro e w' ⟨rfl, rfl⟩)
      go_ret
      exact ⟨rfl, (Below.refl _ _).alloc (Nat.le_refl _) _⟩
    · have bx := timeB_of hx
      have by_ := timeB_of hy
      by_cases hxy : x ≤ y
      · have e : valB x y = true := valB_mk (by omega)
        rw [e]
        clear e
        go_enter Try.func41, Try.ntmps41
        go_wp2_with (go_at_call 35; refine (isTime_any _ _).mono ?_; rintro e w' ⟨rfl, rfl⟩)
        go_ret
        exact ⟨rfl, (Below.refl _ _).alloc (Nat.le_refl _) _⟩
      · have e : valB x y = false := valB_no (by omega)
        rw [e]
        clear e
        go_enter Try.func41, Try.ntmps41
        go_wp2_with (go_at_call 35; refine (isTime_any _ _).mono ?_; rintro e w' ⟨rfl, rfl⟩)
        go_ret
        exact ⟨congrArg (fun b => Ending.returned (.bool b)) (decide_eq_false (by omega)), (Below.refl _ _).alloc (Nat.le_refl _) _⟩
theorem valid_any (x y : Int) (w : World) : Calls Try.prog 42 #[.agg #[.int .i64 x, .int .i64 y]] w fun e w' => e = .returned (.bool (valB x y)) ∧ Below w.heap.size w w' := by
  by_cases h1 : 0 ≤ x
  · by_cases h2 : x ≤ y
    · by_cases h3 : y ≤ 20000000
      · rw [valB_mk ⟨h1, h2, h3⟩]
        go_enter Try.func42, Try.ntmps42
        go_wp2
        go_ret
        exact ⟨rfl, (Below.refl _ _).alloc (Nat.le_refl _) _⟩
      · rw [valB_no (fun h => h3 h.2.2)]
        go_enter Try.func42, Try.ntmps42
        go_wp2
        go_ret
        exact ⟨rfl, (Below.refl _ _).alloc (Nat.le_refl _) _⟩
    · rw [valB_no (fun h => h2 h.2.1)]
      go_enter Try.func42, Try.ntmps42
      go_wp2
      go_ret
      exact ⟨rfl, (Below.refl _ _).alloc (Nat.le_refl _) _⟩
  · rw [valB_no (fun h => h1 h.1)]
    go_enter Try.func42, Try.ntmps42
    go_wp2
    go_ret
    exact ⟨rfl, (Below.refl _ _).alloc (Nat.le_refl _) _⟩
end Go.Proofs.Ytlkindlbllbmgaa
