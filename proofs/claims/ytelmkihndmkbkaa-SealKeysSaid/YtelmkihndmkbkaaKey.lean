/- The program's Key and the reference's. -/
import Derived.Test.YtelmkihndmkbkaaMixW
namespace Go.Proofs.Ytelmkihndmkbkaa
open Go.RowKit

/-- An id as a number of 64 bits. -/
def idN (i : Int) : Nat := (i % 18446744073709551616).toNat
theorem idN_lt (i : Int) : idN i < 18446744073709551616 := by unfold idN; omega
theorem idN_int (i : Int) : IntKind.u64.wrap i = (idN i : Int) := by
  rw [IntKind.wrap_u64, idN]
  omega
theorem idN_inj {i j : Int} (h1 : -9223372036854775808 ≤ i) (h2 : i ≤ 9223372036854775807) (h3 : -9223372036854775808 ≤ j) (h4 : j ≤ 9223372036854775807) (h : idN i = idN j) : i = j := by
  unfold idN at h
  omega
theorem addm_int (a b : Nat) : IntKind.u64.wrap ((a : Int) + (b : Int)) = (addm a b : Int) := by
  rw [IntKind.wrap_u64, addm]
  simp
def keyV (m : Nat) (i : Int) : Nat := key m (idN i)
theorem key_steps (m : Nat) (i : Int) : ∃ x j p s r : Int, (m : Int) = x ∧ IntKind.u64.wrap i = j ∧ IntKind.u64.wrap (j * 11400714819323198485) = p ∧ IntKind.u64.wrap (x + p) = s ∧ r = (keyV m i : Int) ∧
    (∀ w, Calls Try.prog 12 #[.int .u64 s] w fun e w' => e = .returned (.int .u64 r) ∧ w = w') ∧ (∀ w, Calls Try.prog 13 #[.int .u64 s] w fun e w' => e = .returned (.int .u64 r) ∧ w = w') := by
  refine ⟨_, _, _, _, _, rfl, idN_int i, mulm_int _ 11400714819323198485, addm_int _ _, rfl, fun w => mix_any _ w (addm_lt _ _), fun w => refMix_any _ w (addm_lt _ _)⟩

set_option maxRecDepth 100000 in
set_option maxHeartbeats 1000000 in
theorem key_any (m : Nat) (i : Int) (w : World) : Calls Try.prog 14 #[.int .u64 (m : Int), .int .i64 i] w fun e w' => e = .returned (.int .u64 (keyV m i : Nat)) ∧ w = w' := by
  obtain ⟨x, j, p, s, r, e0, e1, e2, e3, e4, e5, _⟩ := key_steps m i
  rw [e0]
  rw [← e4]
  have k := Lib.hid e5
  clear e0 e4 e5
  go_enter Try.func14, Try.ntmps14
  go_wp2_with (go_at_call 12; refine (k.out w).mono ?_; rintro e w' ⟨rfl, rfl⟩)
  go_ret
  exact ⟨rfl, rfl⟩
set_option maxRecDepth 100000 in
set_option maxHeartbeats 1000000 in
theorem refKey_any (m : Nat) (i : Int) (w : World) : Calls Try.prog 15 #[.int .u64 (m : Int), .int .i64 i] w fun e w' => e = .returned (.int .u64 (keyV m i : Nat)) ∧ w = w' := by
  obtain ⟨x, j, p, s, r, e0, e1, e2, e3, e4, _, e5⟩ := key_steps m i
  rw [e0]
  rw [← e4]
  have k := Lib.hid e5
  clear e0 e4 e5
  go_enter Try.func15, Try.ntmps15
  go_wp2_with (go_at_call 13; refine (k.out w).mono ?_; rintro e w' ⟨rfl, rfl⟩)
  go_ret
  exact ⟨rfl, rfl⟩
end Go.Proofs.Ytelmkihndmkbkaa
