/- The program's Mix and the reference's are 'mix' of the number. -/
import Derived.Test.YtelmkihndmkbkaaMix
import Derived.Test.YtelmkihndmkbkaaProg
import Derived.Laws.Bits64
import Derived.OwnWalk
import Derived.WalkKit
import Derived.Lib.Hide
namespace Go.Proofs.Ytelmkihndmkbkaa
open Go.RowKit

theorem cast_div30 (x : Nat) : (x : Int) / 1073741824 = ((x / 1073741824 : Nat) : Int) := rfl
theorem xs_int {x k s : Nat} (hs : 2 ^ k = s) (h : x < 18446744073709551616) : bits .xor .u64 (x : Int) ((x : Int) / (s : Int)) = (xs k x : Int) := by
  rw [xorShift_u64 x s h, xs, hs]
theorem mulm_int (x c : Nat) : IntKind.u64.wrap ((x : Int) * (c : Int)) = (mulm c x : Int) := by
  rw [IntKind.wrap_u64, mulm]
  simp
/-- The five steps, each with a letter for its value. -/
theorem mix_steps {n : Nat} (h : n < 18446744073709551616) : ∃ x y1 z1 y2 z2 y3 : Int, (n : Int) = x ∧ bits .xor .u64 x (x / 1073741824) = y1 ∧ IntKind.u64.wrap (y1 * 13787848793156543929) = z1 ∧
    bits .xor .u64 z1 (z1 / 134217728) = y2 ∧ IntKind.u64.wrap (y2 * 10723151780598845931) = z2 ∧ bits .xor .u64 z2 (z2 / 2147483648) = y3 ∧ y3 = (mix n : Int) := by
  refine ⟨_, _, _, _, _, _, rfl, xs_int (k := 30) (s := 1073741824) rfl h, mulm_int _ 13787848793156543929, xs_int (k := 27) (s := 134217728) rfl (mulm_lt _ _), mulm_int _ 10723151780598845931, xs_int (k := 31) (s := 2147483648) rfl (mulm_lt _ _), rfl⟩

set_option maxRecDepth 100000 in
set_option maxHeartbeats 1000000 in
theorem mix_any (n : Nat) (w : World) (h : n < 18446744073709551616) : Calls Try.prog 12 #[.int .u64 (n : Int)] w fun e w' => e = .returned (.int .u64 (mix n : Nat)) ∧ w = w' := by
  obtain ⟨x, y1, z1, y2, z2, y3, e0, e1, e2, e3, e4, e5, e6⟩ := mix_steps h
  rw [e0]
  rw [← e6]
  clear e0 e6 h
  go_enter Try.func12, Try.ntmps12
  go_wp2
  go_ret
  exact ⟨rfl, rfl⟩
set_option maxRecDepth 100000 in
set_option maxHeartbeats 1000000 in
theorem refMix_any (n : Nat) (w : World) (h : n < 18446744073709551616) : Calls Try.prog 13 #[.int .u64 (n : Int)] w fun e w' => e = .returned (.int .u64 (mix n : Nat)) ∧ w = w' := by
  obtain ⟨x, y1, z1, y2, z2, y3, e0, e1, e2, e3, e4, e5, e6⟩ := mix_steps h
  rw [e0]
  rw [← e6]
  clear e0 e6 h
  go_enter Try.func13, Try.ntmps13
  go_wp2
  go_ret
  exact ⟨rfl, rfl⟩
end Go.Proofs.Ytelmkihndmkbkaa
