/- The reference's digits, value and Parse. -/
import Derived.Test.YtleddfceigmlmaaDoorParseAll
namespace Go.Proofs.YtleddfceigmlmaaDoor
open Go.RowKit Go.Shelf Go.Sort

def digN (l : List UInt8) : Nat := (l.takeWhile isD).length
theorem digN_le (l : List UInt8) : digN l ≤ l.length := (List.takeWhile_prefix isD).length_le
theorem digN_take {l : List UInt8} {k : Nat} (h : (l.take k).all isD = true) (hk : k ≤ l.length) : k ≤ digN l := by
  induction l generalizing k with
  | nil =>
    have : k = 0 := by simpa using hk
    omega
  | cons c l ih =>
    cases k with
    | zero => omega
    | succ k =>
      rw [List.take_succ_cons, List.all_cons, Bool.and_eq_true] at h
      unfold digN
      rw [List.takeWhile_cons, h.1]
      have := ih h.2 (by simpa using hk)
      unfold digN at this
      simp
      exact this
theorem digN_stop {l : List UInt8} {k : Nat} (h : (l.take k).all isD = true) (hk : k < l.length) (hc : isD l[k] = false) : digN l = k := by
  induction l generalizing k with
  | nil => simp at hk
  | cons c l ih =>
    cases k with
    | zero =>
      unfold digN
      have : isD c = false := hc
      rw [List.takeWhile_cons, this]
      rfl
    | succ k =>
      rw [List.take_succ_cons, List.all_cons, Bool.and_eq_true] at h
      unfold digN
      rw [List.takeWhile_cons, h.1]
      have := ih h.2 (by simpa using hk) hc
      unfold digN at this
      simp
      exact this

set_option maxRecDepth 100000 in
set_option maxHeartbeats 1000000 in
theorem digits_any (s : ByteArray) (w : World) (hs : s.size ≤ 9223372036854775806) :
    Calls Tryd.prog 47 #[.string s] w fun e w' => e = .returned (.int .i64 (digN s.data.toList)) ∧ w = w' := by
  have hlen : s.data.toList.length = s.size := by simp
  have hlen := Lib.hid hlen
  go_enter Tryd.func47, Tryd.ntmps47
  go_wp2
  go_loop [3] (fun i => ∃ k : Nat, k ≤ s.size ∧ i = .int .i64 k ∧ Hid ((s.data.toList.take k).all isD = true)) (fun i => s.size - (intOf i).toNat)
  case atStart => exact ⟨0, by omega, rfl, rfl⟩
  case round =>
    obtain ⟨k, hk, rfl, hall⟩ := hrel
    by_cases hlt : k < s.size
    · have hst := all_take hlt
      rw [hall.out, Bool.true_and] at hst
      rcases hc : isD s[k] with _ | _
      · have hf := Lib.hid (digN_stop hall.out (by rw [hlen.out]; exact hlt) (show isD (s.data.toList[k]'(by rw [hlen.out]; exact hlt)) = false from hc))
        clear hst hall
        rcases isD_no hc with c1 | ⟨c1, c2⟩
        all_goals
          clear hc
          go_wp2
          go_ret
          exact ⟨by rw [hf.out]; rfl, rfl⟩
      · rw [hc] at hst
        have hf := Lib.hid hst
        obtain ⟨c1, c2⟩ := isD_yes hc
        clear hst hall hc
        go_wp2
        exact ⟨⟨k + 1, by omega, by go_num, hf⟩, by simp [intOf]; omega⟩
    · obtain rfl : k = s.size := by omega
      have hf := Lib.hid (show digN s.data.toList = s.size from Nat.le_antisymm (by rw [← hlen.out]; exact digN_le _) (digN_take hall.out (by rw [hlen.out]; omega)))
      clear hall
      go_wp2
      go_ret
      exact ⟨by rw [hf.out]; rfl, rfl⟩

theorem fold_take {s : ByteArray} {k : Nat} (h : k < s.size) : valN (s.data.toList.take (k + 1)) = 10 * valN (s.data.toList.take k) + (s[k].toNat - 48) := by
  unfold valN
  rw [List.take_succ_eq_append_getElem (by simpa using h), List.foldl_append]
  rfl
theorem valN_pow {l : List UInt8} (h : l.all isD = true) (hl : l.length ≤ 10) : valN l ≤ 9999999999 := by
  have h1 := fold_lt (acc := 0) h
  have h2 : 10 ^ l.length ≤ 10 ^ 10 := Nat.pow_le_pow_right (by omega) hl
  unfold valN
  rw [Nat.zero_add, Nat.one_mul] at h1
  have h3 : (10 : Nat) ^ 10 = 10000000000 := by decide
  omega

set_option maxRecDepth 100000 in
set_option maxHeartbeats 1000000 in
theorem value_any (s : ByteArray) (w : World) (hs : s.size ≤ 10) (hd : s.data.toList.all isD = true) :
    Calls Tryd.prog 48 #[.string s] w fun e w' => e = .returned (.int .i64 (valN s.data.toList)) ∧ w = w' := by
  have hlen : s.data.toList.length = s.size := by simp
  have hb : ∀ k, k ≤ s.size → valN (s.data.toList.take k) ≤ 9999999999 := fun k hk => valN_pow (by
    rw [List.all_eq_true] at hd ⊢
    exact fun x hx => hd x (List.mem_of_mem_take hx)) (by rw [List.length_take]; omega)
  have hdig : ∀ k (h : k < s.size), 48 ≤ (s[k].toNat : Int) ∧ (s[k].toNat : Int) ≤ 57 := fun k h => by
    refine isD_yes ?_
    rw [List.all_eq_true] at hd
    exact hd _ (by show s.data.toList[k]'(by rw [hlen]; exact h) ∈ _; exact List.getElem_mem _)
  have hb := Lib.hid hb
  have hdig := Lib.hid hdig
  have hlen := Lib.hid hlen
  clear hd
  go_enter Tryd.func48, Tryd.ntmps48
  go_wp2
  go_loop [3, 4] (fun v i => ∃ (k : Nat) (n : Int), k ≤ s.size ∧ i = .int .i64 k ∧ v = .int .i64 n ∧ 0 ≤ n ∧ n ≤ 9999999999 ∧ Hid (n = valN (s.data.toList.take k))) (fun _ i => s.size - (intOf i).toNat)
  case atStart => exact ⟨0, 0, by omega, rfl, rfl, by omega, by omega, rfl⟩
  case round =>
    obtain ⟨k, n, hk, rfl, rfl, n0, n1, hn⟩ := hrel
    by_cases hlt : k < s.size
    · obtain ⟨c1, c2⟩ := hdig.out k hlt
      have hst := fold_take hlt
      have hbb := hb.out (k + 1) (by omega)
      have hnn := hn.out
      have e1 : IntKind.u8.wrap ((s[k].toNat : Int) - 48) = (s[k].toNat : Int) - 48 := by
        rw [IntKind.wrap_u8']; omega
      have hf := Lib.hid (show 10 * n + ((s[k].toNat : Int) - 48) = valN (s.data.toList.take (k + 1)) by omega)
      have hf2 : 10 * n + ((s[k].toNat : Int) - 48) ≤ 9999999999 := by omega
      clear hst hbb hnn hn
      go_wp2
      exact ⟨⟨k + 1, _, by omega, by go_num, rfl, by omega, hf2, hf⟩, by simp [intOf]; omega⟩
    · obtain rfl : k = s.size := by omega
      have hf := Lib.hid (show n = valN s.data.toList by have := hn.out; rwa [List.take_of_length_le (by rw [hlen.out]; omega)] at this)
      clear hn
      go_wp2
      go_ret
      exact ⟨by rw [hf.out]; rfl, rfl⟩
end Go.Proofs.YtleddfceigmlmaaDoor
