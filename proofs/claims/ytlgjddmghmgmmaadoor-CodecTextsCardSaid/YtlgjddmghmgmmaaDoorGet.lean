/- Get: the program's and the reference's. -/
import Derived.Test.YtlgjddmghmgmmaaDoorMem
import Derived.Laws.BitsAllLaws
import Derived.Laws.BitsLemmas
import Derived.Laws.Bits64b
import Derived.Laws.Cover1
import Derived.WalkSpells
import Derived.IntWalk
namespace Go.Proofs.YtlgjddmghmgmmaaDoor
open Go.RowKit

def getV (l : List UInt8) : Value := .tuple #[.int .i64 (gN l : Nat), .int .i64 (gK l : Nat), .int .i64 (gE l : Nat)]

theorem ofInt_i64 (a : Nat) (ha : a < 9223372036854775808) : (BitVec.ofInt 64 (a : Int)).toNat = a := by
  rw [BitVec.ofInt_natCast, BitVec.toNat_ofNat]
  exact Nat.mod_eq_of_lt (by omega)
theorem i64_or (a b : Nat) (ha : a < 9223372036854775808) (hb : b < 9223372036854775808) : bits .or .i64 (a : Int) (b : Int) = ((a ||| b : Nat) : Int) := by
  have hx : a ||| b < 2 ^ 63 := Nat.or_lt_two_pow (by omega) (by omega)
  show IntKind.i64.wrap ((BitVec.ofInt 64 (a : Int) ||| BitVec.ofInt 64 (b : Int)).toNat : Int) = _
  rw [BitVec.toNat_or, ofInt_i64 a ha, ofInt_i64 b hb]
  exact IntWalk.i64_in _ (by omega)
theorem val_take {l : List UInt8} {k : Nat} (h : k < l.length) : val (l.take (k + 1)) = val (l.take k) + bx l k % 128 * 128 ^ k := by
  rw [List.take_succ_eq_append_getElem h, val_snoc, List.length_take, Nat.min_eq_left (by omega), bx_at h]
theorem val_take_lt (l : List UInt8) (k : Nat) : val (l.take k) < 128 ^ k := Nat.lt_of_lt_of_le (val_lt _) (Nat.pow_le_pow_right (by decide) (by rw [List.length_take]; omega))
theorem pow_seven (k : Nat) : 128 ^ k = 2 ^ (7 * k) := by rw [Nat.pow_mul]
/-- The next group. -/
theorem group_in {l : List UInt8} {k x : Nat} (hk : k < 9) (hl : k < l.length) (hx : bx l k = x) :
    bits .or .i64 ((val (l.take k) : Nat) : Int) (wrap64 ((x : Int) % 128 * 2 ^ (7 * k))) = ((val (l.take (k + 1)) : Nat) : Int) := by
  have h1 := val_take hl
  have h2 := val_take_lt l k
  have h3 := val_take_lt l (k + 1)
  have h4 : 128 ^ (k + 1) ≤ 9223372036854775808 := by
    rw [show (9223372036854775808 : Nat) = 128 ^ 9 by decide]
    exact Nat.pow_le_pow_right (by decide) (by omega)
  rw [hx] at h1
  obtain ⟨p, hp⟩ : ∃ p, x % 128 * 128 ^ k = p := ⟨_, rfl⟩
  have e : (x : Int) % 128 * 2 ^ (7 * k) = ((p : Nat) : Int) := by
    rw [← hp, pow_seven]
    simp
  rw [e, h1, IntWalk.wrap64_in _ (by omega), i64_or _ _ (by omega) (by omega), hp]
  congr 1
  rw [← hp, pow_seven, Nat.mul_comm, Nat.or_comm, ← Nat.two_pow_add_eq_or_of_lt (by rw [← pow_seven]; exact h2), Nat.add_comm]
theorem group_0 {l : List UInt8} {x : Nat} (hl : 0 < l.length) (hx : bx l 0 = x) : bits .or .i64 ((val [] : Nat) : Int) ((x : Int) % 128) = ((val (l.take 1) : Nat) : Int) := by
  have h := group_in (k := 0) (by decide) hl hx
  rw [IntWalk.wrap64_in _ (by have := bx_lt l 0; simp; omega)] at h
  simpa using h

theorem ret3 {a a' : Int} {b d : Value} (h : a = a') : Ending.returned (.tuple #[.int .i64 a, b, d]) = .returned (.tuple #[.int .i64 a', b, d]) := by rw [h]
/-! ### Get's three numbers -/
theorem get_long {l : List UInt8} (h : 9 ≤ pre l) : getV l = .tuple #[.int .i64 0, .int .i64 0, .int .i64 4] := by
  have e : gE l = 4 := by unfold gE; rw [if_pos h]
  unfold getV
  rw [gN_bad (by omega), gK_bad (by omega), e]
  rfl
theorem get_short {l : List UInt8} (h : pre l < 9) (h2 : pre l = l.length) : getV l = .tuple #[.int .i64 0, .int .i64 0, .int .i64 5] := by
  have e : gE l = 5 := by unfold gE; rw [if_neg (by omega), if_pos h2]
  unfold getV
  rw [gN_bad (by omega), gK_bad (by omega), e]
  rfl
theorem bx_zero {l : List UInt8} {k : Nat} : bx l k = 0 ↔ l[k]?.getD 0 = 0 := by
  unfold bx
  constructor
  · intro h
    exact UInt8.toNat_inj.1 (by simpa using h)
  · intro h
    rw [h]; rfl
theorem get_form {l : List UInt8} {k : Nat} (hk : k ≤ pre l) (h9 : k < 9) (hl : k < l.length) (h1 : 0 < k) (hx : bx l k = 0) : getV l = .tuple #[.int .i64 0, .int .i64 0, .int .i64 3] := by
  have hp : pre l = k := pre_eq hk hl (by rw [← bx_at hl]; omega)
  have e : gE l = 3 := by unfold gE; rw [if_neg (by omega), if_neg (by omega), hp, if_pos ⟨bx_zero.1 hx, h1⟩]
  unfold getV
  rw [gN_bad (by omega), gK_bad (by omega), e]
  rfl
theorem get_fine {l : List UInt8} {k : Nat} (hk : k ≤ pre l) (h9 : k < 9) (hl : k < l.length) (hlt : bx l k < 128) (hx : k = 0 ∨ bx l k ≠ 0) : getV l = .tuple #[.int .i64 (val (l.take (k + 1)) : Nat), .int .i64 ((k : Int) + 1), .int .i64 0] := by
  have hp : pre l = k := pre_eq hk hl (by rw [← bx_at hl]; omega)
  have e : gE l = 0 := by
    unfold gE
    rw [if_neg (by omega), if_neg (by omega), hp, if_neg]
    rintro ⟨a, b⟩
    rcases hx with h | h
    · omega
    · exact h (bx_zero.2 a)
  unfold getV
  rw [gN_eq e, gK_eq e, e, hp]
  rfl

set_option maxRecDepth 100000 in
set_option maxHeartbeats 1000000 in
theorem get_any (A : Option Addr) (l : List UInt8) (c : Nat) (w : World) (hp : Rd w w.heap.size A c (cells8 l)) (hmax : c ≤ 9223372036854775807) :
    Calls Tryd.prog 12 #[.slice A l.length c] w fun e w' => e = .returned (getV l) ∧ w = w' := by
  have hlc := hp.1
  rw [cells8_len] at hlc
  obtain ⟨m, hm⟩ : ∃ m, m = min l.length 9 := ⟨_, rfl⟩
  have hm1 : m ≤ l.length := by omega
  have hm2 : m ≤ 9 := by omega
  have hmin : ∀ ts t w, (Builtin.min_ ts t #[.int .i64 (l.length : Int), .int .i64 9]).run Tryd.prog w = .ok (.int .i64 (m : Int)) w := fun ts t w => by
    rw [run_min_int2, hm]
    congr 2
    split <;> omega
  have hM := Lib.hid hm
  have hP := Lib.hid hp
  clear hp hm
  go_enter Tryd.func12, Tryd.ntmps12
  go_wp2
  go_outline
  clear hmin
  go_loop [2, 13] (fun n i => ∃ k : Nat, k ≤ m ∧ k ≤ pre l ∧ i = .int .i64 k ∧ n = .int .i64 (val (l.take k) : Nat)) (fun _ i => m - (intOf i).toNat)
  case atStart => exact ⟨0, by omega, by omega, rfl, rfl⟩
  case round =>
    obtain ⟨k, hk, hkp, rfl, rfl⟩ := hrel
    by_cases hlt : k < m
    · have hkl : k < l.length := by omega
      obtain ⟨ad, rfl, _, hcell⟩ := hP.out.get (cells8_bx hkl)
      have hc0 := bx_lt l k
      generalize hx : bx l k = x at hcell hc0
      have hX := Lib.hid hx
      clear hx
      by_cases hk0 : k = 0
      · subst hk0
        have hcell : w.cell? ad = some (.int .u8 (x : Int)) := hcell
        have hG := Lib.hid (group_0 hkl hX.out)
        by_cases h128 : 128 ≤ x
        · go_wp2
          exact ⟨⟨1, by omega, pre_gt hkp hkl (by rw [← bx_at hkl, hX.out]; exact h128), rfl, by rw [hG.out]⟩, by simp [intOf]; omega⟩
        · have hV := Lib.hid (get_fine (k := 0) hkp (by omega) hkl (by rw [hX.out]; omega) (.inl rfl))
          by_cases h0 : x = 0
          · subst h0
            go_wp2
            go_ret3
            exact ⟨(ret3 hG.out).trans (congrArg Ending.returned hV.out.symm), rfl⟩
          · go_wp2
            go_ret3
            exact ⟨(ret3 hG.out).trans (congrArg Ending.returned hV.out.symm), rfl⟩
      · have hG := Lib.hid (group_in (k := k) (by omega) hkl hX.out)
        by_cases h128 : 128 ≤ x
        · go_wp2
          exact ⟨⟨k + 1, by omega, pre_gt hkp hkl (by rw [← bx_at hkl, hX.out]; exact h128), by go_num, by rw [hG.out]⟩, by simp [intOf]; omega⟩
        · by_cases h0 : x = 0
          · subst h0
            have hV := Lib.hid (get_form hkp (by omega) hkl (by omega) hX.out)
            go_wp2
            go_ret3
            exact ⟨congrArg Ending.returned hV.out.symm, rfl⟩
          · have hV := Lib.hid (get_fine hkp (by omega) hkl (by rw [hX.out]; omega) (.inr (by rw [hX.out]; exact h0)))
            go_wp2
            go_ret3
            exact ⟨(ret3 hG.out).trans (congrArg Ending.returned hV.out.symm), rfl⟩
    · have hple := pre_le l
      by_cases h9 : 9 ≤ l.length
      · have hV := Lib.hid (get_long (l := l) (by have := hM.out; omega))
        go_wp2
        go_ret3
        exact ⟨congrArg Ending.returned hV.out.symm, rfl⟩
      · have hV := Lib.hid (get_short (l := l) (by omega) (by have := hM.out; omega))
        go_wp2
        go_ret3
        exact ⟨congrArg Ending.returned hV.out.symm, rfl⟩
end Go.Proofs.YtlgjddmghmgmmaaDoor
