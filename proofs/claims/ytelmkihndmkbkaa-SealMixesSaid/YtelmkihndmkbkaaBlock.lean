/- A block of a string: the program's and the reference's. -/
import Derived.Test.YtelmkihndmkbkaaMixW
import Derived.Test.YtelmkihndmkbkaaMem
import Derived.Laws.Bits64b
import Derived.Laws.BitsAllLaws
import Derived.Laws.Cover1
import Derived.WalkSpells
import Derived.IntWalk
namespace Go.Proofs.Ytelmkihndmkbkaa
open Go.RowKit

theorem blk_take {l : List UInt8} {k : Nat} (h : k < l.length) : blk (l.take (k + 1)) = blk (l.take k) + bx l k * 256 ^ k := by
  rw [List.take_succ_eq_append_getElem h, blk_snoc, List.length_take, Nat.min_eq_left (by omega), bx_at h]
theorem blk_take_lt (l : List UInt8) (k : Nat) : blk (l.take k) < 256 ^ k := Nat.lt_of_lt_of_le (blk_lt _) (Nat.pow_le_pow_right (by decide) (by rw [List.length_take]; omega))
theorem pow_eight (k : Nat) : 256 ^ k = 2 ^ (8 * k) := by rw [Nat.pow_mul]
theorem byte_in {l : List UInt8} {k x : Nat} (hk : k < 8) (hl : k < l.length) (hx : bx l k = x) :
    bits .or .u64 ((blk (l.take k) : Nat) : Int) (IntKind.u64.wrap ((x : Int) * 2 ^ (8 * k))) = ((blk (l.take (k + 1)) : Nat) : Int) := by
  have h1 := blk_take hl
  have h2 := blk_take_lt l k
  have h3 := blk_take_lt l (k + 1)
  have h4 : 256 ^ (k + 1) ≤ 18446744073709551616 := by
    rw [show (18446744073709551616 : Nat) = 256 ^ 8 by decide]
    exact Nat.pow_le_pow_right (by decide) (by omega)
  rw [hx] at h1
  obtain ⟨p, hp⟩ : ∃ p, x * 256 ^ k = p := ⟨_, rfl⟩
  have e : (x : Int) * 2 ^ (8 * k) = ((p : Nat) : Int) := by
    rw [← hp, pow_eight]
    simp
  have hw : IntKind.u64.wrap ((p : Nat) : Int) = (p : Int) := by
    rw [IntKind.wrap_u64]
    omega
  rw [e, h1, hw, u64_or_nat _ _ (by omega) (by omega), hp]
  congr 1
  rw [← hp, pow_eight, Nat.mul_comm, Nat.or_comm, ← Nat.two_pow_add_eq_or_of_lt (by rw [← pow_eight]; exact h2), Nat.add_comm]

set_option maxRecDepth 100000 in
set_option maxHeartbeats 1000000 in
theorem firstBlock_any (A : Option Addr) (l : List UInt8) (c : Nat) (w : World) (hp : Rd w w.heap.size A c (cells8 l)) (hmax : c ≤ 9223372036854775807) :
    Calls Try.prog 20 #[.slice A l.length c] w fun e w' => e = .returned (.int .u64 (blk (l.take 8) : Nat)) ∧ w = w' := by
  have hlc := hp.1
  rw [cells8_len] at hlc
  obtain ⟨m, hm⟩ : ∃ m, m = min l.length 8 := ⟨_, rfl⟩
  have hm1 : m ≤ l.length := by omega
  have hm2 : m ≤ 8 := by omega
  have hmin : ∀ ts t w, (Builtin.min_ ts t #[.int .i64 (l.length : Int), .int .i64 8]).run Try.prog w = .ok (.int .i64 (m : Int)) w := fun ts t w => by
    rw [run_min_int2, hm]
    congr 2
    split <;> omega
  have hEnd : Hid (blk (l.take m) = blk (l.take 8)) := Lib.hid (by
    rw [hm]
    by_cases h : 8 ≤ l.length
    · rw [Nat.min_eq_right h]
    · rw [Nat.min_eq_left (by omega), List.take_of_length_le (Nat.le_refl _), List.take_of_length_le (by omega)])
  have hP := Lib.hid hp
  clear hp hm
  go_enter Try.func20, Try.ntmps20
  go_wp2
  go_outline
  clear hmin
  go_loop [3, 12] (fun n i => ∃ (k : Nat) (b : Int), k ≤ m ∧ i = .int .i64 k ∧ n = .int .u64 b ∧ Hid (b = (blk (l.take k) : Nat))) (fun _ i => m - (intOf i).toNat)
  case atStart => exact ⟨0, 0, by omega, rfl, rfl, Lib.hid rfl⟩
  case round =>
    obtain ⟨k, b, hk, rfl, rfl, hB⟩ := hrel
    by_cases hlt : k < m
    · have hkl : k < l.length := by omega
      obtain ⟨ad, rfl, _, hcell⟩ := hP.out.get (cells8_bx hkl)
      have hc0 := bx_lt l k
      generalize hx : bx l k = x at hcell hc0
      have hG : Hid (bits .or .u64 b (IntKind.u64.wrap ((x : Int) * 2 ^ (8 * k))) = ((blk (l.take (k + 1)) : Nat) : Int)) := Lib.hid (by rw [hB.out]; exact byte_in (by omega) hkl hx)
      clear hx hB
      by_cases hk0 : k = 0
      · subst hk0
        have hcell : w.cell? ad = some (.int .u8 (x : Int)) := hcell
        have hG : Hid (bits .or .u64 b (x : Int) = ((blk (l.take 1) : Nat) : Int)) := Lib.hid (by
          have h := hG.out
          rw [show (x : Int) * 2 ^ (8 * 0) = (x : Int) by simp, show IntKind.u64.wrap (x : Int) = (x : Int) by rw [IntKind.wrap_u64]; omega] at h
          exact h)
        go_wp2
        exact ⟨⟨1, _, by omega, rfl, rfl, hG⟩, by simp [intOf]; omega⟩
      · go_wp2
        exact ⟨⟨k + 1, _, by omega, by go_num, rfl, hG⟩, by simp [intOf]; omega⟩
    · obtain rfl : k = m := by omega
      have hE := Lib.hid (hB.out.trans (by rw [hEnd.out]))
      clear hB hP
      go_wp2
      go_ret
      exact ⟨congrArg (fun n => Ending.returned (.int .u64 n)) hE.out, rfl⟩

/-- The cell at at + k, where a string is read from at on. -/
theorem bx_drop (l : List UInt8) (a k : Nat) : bx (l.drop a) k = bx l (a + k) := by
  unfold bx
  rw [List.getElem?_drop]
/-- One byte more of the reference's block. -/
theorem unit_step {l : List UInt8} {k x : Nat} {n u : Int} (hk : k < 8) (hl : k < l.length) (hx : bx l k = x) (hn : n = (blk (l.take k) : Nat)) (hu : u = (256 ^ k % 18446744073709551616 : Nat)) :
    ∃ p q v : Int, IntKind.u64.wrap ((x : Int) * u) = p ∧ IntKind.u64.wrap (n + p) = q ∧ IntKind.u64.wrap (u * 256) = v ∧ q = (blk (l.take (k + 1)) : Nat) ∧ v = (256 ^ (k + 1) % 18446744073709551616 : Nat) := by
  have h1 := blk_take hl
  have h3 := blk_take_lt l (k + 1)
  have h4 : 256 ^ (k + 1) ≤ 18446744073709551616 := by
    rw [show (18446744073709551616 : Nat) = 256 ^ 8 by decide]
    exact Nat.pow_le_pow_right (by decide) (by omega)
  have h5 : 256 ^ k * 256 = 256 ^ (k + 1) := (Nat.pow_succ ..).symm
  obtain ⟨c, hc⟩ : ∃ c, 256 ^ k = c := ⟨_, rfl⟩
  rw [hc] at h1 hu h5
  rw [hx] at h1
  have hu2 : u = (c : Int) := by rw [hu, Nat.mod_eq_of_lt (by omega)]
  obtain ⟨p, hp⟩ : ∃ p, x * c = p := ⟨_, rfl⟩
  rw [hp] at h1
  have e1 : IntKind.u64.wrap ((x : Int) * u) = (p : Int) := by
    rw [hu2, ← Int.natCast_mul, hp, IntKind.wrap_u64]
    omega
  refine ⟨p, ((blk (l.take k) + p : Nat) : Int), _, e1, ?_, rfl, by rw [h1], ?_⟩
  · rw [hn, IntKind.wrap_u64]
    omega
  · rw [hu2, IntKind.wrap_u64, ← h5]
    omega

set_option maxRecDepth 100000 in
set_option maxHeartbeats 1000000 in
theorem refBlock_any (A : Option Addr) (l : List UInt8) (c a : Nat) (w : World) (hp : Rd w w.heap.size A c (cells8 l)) (hmax : l.length ≤ 1000000000) (ha : a ≤ l.length) :
    Calls Try.prog 21 #[.slice A l.length c, .int .i64 (a : Nat)] w fun e w' => e = .returned (.int .u64 (blk ((l.drop a).take 8) : Nat)) ∧ w = w' := by
  have hlc := hp.1
  rw [cells8_len] at hlc
  have hP := Lib.hid hp
  have hdl : (l.drop a).length = l.length - a := List.length_drop
  have hD := Lib.hid hdl
  clear hp hdl
  go_enter Try.func21, Try.ntmps21
  go_wp2
  go_outline
  go_loop [5, 6, 7] (fun n u i => ∃ (k j : Nat) (b v : Int), k ≤ 8 ∧ j = a + k ∧ j ≤ l.length ∧ i = .int .i64 j ∧ n = .int .u64 b ∧ u = .int .u64 v ∧ Hid (b = (blk ((l.drop a).take k) : Nat)) ∧ Hid (v = (256 ^ k % 18446744073709551616 : Nat))) (fun _ _ i => l.length - (intOf i).toNat)
  case atStart => exact ⟨0, a, 0, 1, by omega, rfl, ha, rfl, rfl, rfl, Lib.hid rfl, Lib.hid rfl⟩
  case round =>
    obtain ⟨k, j, b, v, hk, hj, hjl, rfl, rfl, rfl, hB, hV⟩ := hrel
    by_cases hlt : j < l.length
    · by_cases hk8 : k < 8
      · obtain ⟨ad, rfl, _, hcell⟩ := hP.out.get (cells8_bx hlt)
        have hc0 := bx_lt l j
        generalize hx : bx l j = x at hcell hc0
        obtain ⟨p, q, z, e1, e2, e3, e4, e5⟩ := unit_step (l := l.drop a) (x := x) hk8 (by rw [hD.out]; omega) (by rw [bx_drop, ← hj]; exact hx) hB.out hV.out
        have hB := Lib.hid e4
        have hV := Lib.hid e5
        clear hx e4 e5
        have hlt8 : (j : Int) < (a : Int) + 8 := by omega
        have hnx := Lib.hid (show j + 1 = a + (k + 1) by omega)
        clear hj
        by_cases hj0 : j = 0
        · subst hj0
          have hcell : w.cell? ad = some (.int .u8 (x : Int)) := hcell
          go_wp2
          exact ⟨⟨k + 1, 1, _, _, by omega, hnx.out, by omega, rfl, rfl, rfl, hB, hV⟩, by simp [intOf]; omega⟩
        · go_wp2
          exact ⟨⟨k + 1, j + 1, _, _, by omega, hnx.out, by omega, by go_num, rfl, rfl, hB, hV⟩, by simp [intOf]; omega⟩
      · obtain rfl : k = 8 := by omega
        have hge : ¬ (j : Int) < (a : Int) + 8 := by omega
        clear hV hP hj
        go_wp2
        go_ret
        exact ⟨congrArg (fun n => Ending.returned (.int .u64 n)) hB.out, rfl⟩
    · have hE := Lib.hid (hB.out.trans (show _ = ((blk ((l.drop a).take 8) : Nat) : Int) by rw [List.take_of_length_le (by rw [hD.out]; omega), List.take_of_length_le (by rw [hD.out]; omega)]))
      clear hB hV hP
      go_wp2
      go_ret
      exact ⟨congrArg (fun n => Ending.returned (.int .u64 n)) hE.out, rfl⟩
end Go.Proofs.Ytelmkihndmkbkaa
