/- Tags, checks and chains: the program's and the reference's. -/
import Derived.Test.YtelmkihndmkbkaaBlock
import Derived.Test.YtelmkihndmkbkaaKey
namespace Go.Proofs.Ytelmkihndmkbkaa
open Go.RowKit

theorem rd_from {w : World} {B c k : Nat} {A : Option Addr} {l : List UInt8} (h : Rd w B A c (cells8 l)) (hk : k ≤ l.length) : Rd w B (if c = k then A else A.map (·.add k)) (c - k) (cells8 (l.drop k)) := by
  have h1 := h.drop (k := k) (by rw [cells8_len]; omega)
  simpa [cells8, List.map_drop] using h1
theorem rd_upto {w : World} {B c : Nat} {A : Option Addr} {l : List UInt8} (h : Rd w B A c (cells8 l)) (k : Nat) : Rd w B A c (cells8 (l.take k)) := by
  have h1 := h.take k
  simpa [cells8, List.map_take] using h1
theorem firstBlock_at {A : Option Addr} {l : List UInt8} {c : Nat} {w : World} (n : Nat) (hn : n = l.length) (hp : Rd w w.heap.size A c (cells8 l)) (hmax : c ≤ 9223372036854775807) :
    Calls Try.prog 20 #[.slice A n c] w fun e w' => e = .returned (.int .u64 (blk (l.take 8) : Nat)) ∧ w = w' := by
  subst hn
  exact firstBlock_any A l c w hp hmax

/-- While a tag is being computed: the register before the byte k. -/
def TagAt (h0 : Nat) (l : List UInt8) (k : Nat) (b : Int) : Prop := ∃ n : Nat, b = (n : Int) ∧ n < 18446744073709551616 ∧ tagL h0 l = tagL n (l.drop k)
theorem tagAt_zero {h0 : Nat} (h : h0 < 18446744073709551616) (l : List UInt8) : TagAt h0 l 0 (h0 : Int) := ⟨h0, rfl, h, rfl⟩
theorem mixes {n : Nat} (h : n < 18446744073709551616) : ∃ r : Int, r = (mix n : Int) ∧ (∀ w, Calls Try.prog 12 #[.int .u64 (n : Int)] w fun e w' => e = .returned (.int .u64 r) ∧ w = w') ∧ (∀ w, Calls Try.prog 13 #[.int .u64 (n : Int)] w fun e w' => e = .returned (.int .u64 r) ∧ w = w') :=
  ⟨_, rfl, fun w => mix_any n w h, fun w => refMix_any n w h⟩
theorem tagAt_step {h0 k : Nat} {l : List UInt8} {b : Int} (h : TagAt h0 l k b) (hk : k < l.length) : ∃ y s r : Int, ((blk ((l.drop k).take 8) : Nat) : Int) = y ∧ bits .xor .u64 b y = s ∧ TagAt h0 l (k + 8) r ∧
    (∀ w, Calls Try.prog 12 #[.int .u64 s] w fun e w' => e = .returned (.int .u64 r) ∧ w = w') ∧ (∀ w, Calls Try.prog 13 #[.int .u64 s] w fun e w' => e = .returned (.int .u64 r) ∧ w = w') := by
  obtain ⟨n, rfl, hn, he⟩ := h
  have hB := blk_lt64 (take8 (l.drop k))
  have hx := lt64 hn hB
  obtain ⟨r, hr, m1, m2⟩ := mixes hx
  refine ⟨_, _, r, rfl, bits_xor_u64_nat _ _ hn hB, ⟨_, hr, mix_lt _, ?_⟩, m1, m2⟩
  rw [he, tagL_step n (l := l.drop k) (by rw [List.length_drop]; omega), List.drop_drop]
theorem tagAt_end {key k : Nat} {l : List UInt8} {b : Int} (h : TagAt (mix key) l k b) (hk : l.length ≤ k) (hl : l.length ≤ 1000000000) : ∃ s r : Int, bits .xor .u64 b (l.length : Int) = s ∧ r = (tag key l : Int) ∧
    (∀ w, Calls Try.prog 12 #[.int .u64 s] w fun e w' => e = .returned (.int .u64 r) ∧ w = w') ∧ (∀ w, Calls Try.prog 13 #[.int .u64 s] w fun e w' => e = .returned (.int .u64 r) ∧ w = w') := by
  obtain ⟨n, rfl, hn, he⟩ := h
  have hl2 : l.length < 18446744073709551616 := by omega
  obtain ⟨r, hr, m1, m2⟩ := mixes (lt64 hn hl2)
  rw [List.drop_eq_nil_of_le hk, tagL_nil] at he
  refine ⟨_, r, bits_xor_u64_nat _ _ hn hl2, ?_, m1, m2⟩
  rw [hr, tag, he]

set_option maxRecDepth 100000 in
set_option maxHeartbeats 1000000 in
theorem tag_any (key : Nat) (A : Option Addr) (l : List UInt8) (c : Nat) (w : World) (hk : key < 18446744073709551616) (hp : Rd w w.heap.size A c (cells8 l)) (hll : l.length ≤ 1000000000) (hmax : c ≤ 9223372036854775807) :
    Calls Try.prog 16 #[.int .u64 (key : Int), .slice A l.length c] w fun e w' => e = .returned (.int .u64 (tag key l : Nat)) ∧ w = w' := by
  have hlc := hp.1
  rw [cells8_len] at hlc
  obtain ⟨r0, hr0, m0, _⟩ := mixes hk
  have hT0 : Hid (TagAt (mix key) l 0 r0) := Lib.hid (by rw [hr0]; exact tagAt_zero (mix_lt _) l)
  have hStep := Lib.hid (fun (k : Nat) (b : Int) (h : TagAt (mix key) l k b) (hk : k < l.length) => tagAt_step h hk)
  have hEnd := Lib.hid (fun (k : Nat) (b : Int) (h : TagAt (mix key) l k b) (hk : l.length ≤ k) => tagAt_end h hk hll)
  have hP := Lib.hid hp
  have M0 := Lib.hid m0
  clear hp hr0 hk m0
  generalize (key : Int) = kk at *
  generalize mix key = h0 at *
  go_enter Try.func16, Try.ntmps16
  go_wp2_with (go_at_call 12; refine (M0.out w).mono ?_; rintro e w' ⟨rfl, rfl⟩)
  go_outline
  go_loop [5, 6] (fun n i => ∃ (k : Nat) (b : Int), k ≤ l.length + 8 ∧ i = .int .i64 k ∧ n = .int .u64 b ∧ Hid (TagAt h0 l k b)) (fun _ i => l.length + 8 - (intOf i).toNat)
  case atStart => exact ⟨0, r0, by omega, rfl, rfl, hT0⟩
  case round =>
    obtain ⟨k, b, hk, rfl, rfl, hB⟩ := hrel
    by_cases hlt : k < l.length
    · obtain ⟨y, s, r, e1, e2, hT, m1, _⟩ := hStep.out k b hB.out hlt
      have hR := rd_from hP.out (k := k) (by omega)
      have hck : ¬ c = k := by omega
      rw [if_neg hck] at hR
      have kb := firstBlock_at (l.length - k) (by rw [List.length_drop]) hR (by omega)
      rw [e1] at kb
      have KB := Lib.hid kb
      have M1 := Lib.hid m1
      have hT := Lib.hid hT
      clear e1 kb m1 hR hB hT0 hStep hEnd hP M0
      go_wp2_with (first
        | (go_at_call 20; refine KB.out.mono ?_; rintro e w' ⟨rfl, rfl⟩)
        | (go_at_call 12; refine (M1.out w).mono ?_; rintro e w' ⟨rfl, rfl⟩))
      exact ⟨⟨k + 8, r, by omega, by go_num, rfl, hT⟩, by simp [intOf]; omega⟩
    · obtain ⟨s, r, e1, e2, m1, _⟩ := hEnd.out k b hB.out (by omega)
      have M1 := Lib.hid m1
      have hE := Lib.hid e2
      clear e2 m1 hB hT0 hStep hEnd hP M0
      go_wp2_with (go_at_call 12; refine (M1.out w).mono ?_; rintro e w' ⟨rfl, rfl⟩)
      go_ret
      exact ⟨congrArg (fun n => Ending.returned (.int .u64 n)) hE.out, rfl⟩

set_option maxRecDepth 100000 in
set_option maxHeartbeats 1000000 in
theorem refTag_any (key : Nat) (A : Option Addr) (l : List UInt8) (c : Nat) (w : World) (hk : key < 18446744073709551616) (hp : Rd w w.heap.size A c (cells8 l)) (hll : l.length ≤ 1000000000) :
    Calls Try.prog 17 #[.int .u64 (key : Int), .slice A l.length c] w fun e w' => e = .returned (.int .u64 (tag key l : Nat)) ∧ w = w' := by
  have hlc := hp.1
  rw [cells8_len] at hlc
  obtain ⟨r0, hr0, _, m0⟩ := mixes hk
  have hT0 : Hid (TagAt (mix key) l 0 r0) := Lib.hid (by rw [hr0]; exact tagAt_zero (mix_lt _) l)
  have hStep := Lib.hid (fun (k : Nat) (b : Int) (h : TagAt (mix key) l k b) (hk : k < l.length) => tagAt_step h hk)
  have hEnd := Lib.hid (fun (k : Nat) (b : Int) (h : TagAt (mix key) l k b) (hk : l.length ≤ k) => tagAt_end h hk hll)
  have hP := Lib.hid hp
  have M0 := Lib.hid m0
  clear hp hr0 hk m0
  generalize (key : Int) = kk at *
  generalize mix key = h0 at *
  go_enter Try.func17, Try.ntmps17
  go_wp2_with (go_at_call 13; refine (M0.out w).mono ?_; rintro e w' ⟨rfl, rfl⟩)
  go_outline
  go_loop [5, 6] (fun n i => ∃ (k : Nat) (b : Int), k ≤ l.length + 8 ∧ i = .int .i64 k ∧ n = .int .u64 b ∧ Hid (TagAt h0 l k b)) (fun _ i => l.length + 8 - (intOf i).toNat)
  case atStart => exact ⟨0, r0, by omega, rfl, rfl, hT0⟩
  case round =>
    obtain ⟨k, b, hk, rfl, rfl, hB⟩ := hrel
    by_cases hlt : k < l.length
    · obtain ⟨y, s, r, e1, e2, hT, _, m1⟩ := hStep.out k b hB.out hlt
      have kb := refBlock_any A l c k w hP.out hll (by omega)
      rw [e1] at kb
      have KB := Lib.hid kb
      have M1 := Lib.hid m1
      have hT := Lib.hid hT
      clear e1 kb m1 hB hT0 hStep hEnd hP M0
      go_wp2_with (first
        | (go_at_call 21; refine KB.out.mono ?_; rintro e w' ⟨rfl, rfl⟩)
        | (go_at_call 13; refine (M1.out w).mono ?_; rintro e w' ⟨rfl, rfl⟩))
      exact ⟨⟨k + 8, r, by omega, by go_num, rfl, hT⟩, by simp [intOf]; omega⟩
    · obtain ⟨s, r, e1, e2, _, m1⟩ := hEnd.out k b hB.out (by omega)
      have M1 := Lib.hid m1
      have hE := Lib.hid e2
      clear e2 m1 hB hT0 hStep hEnd hP M0
      go_wp2_with (go_at_call 13; refine (M1.out w).mono ?_; rintro e w' ⟨rfl, rfl⟩)
      go_ret
      exact ⟨congrArg (fun n => Ending.returned (.int .u64 n)) hE.out, rfl⟩
/-- A test of two numbers that the walk does not look into. -/
def eqI (a b : Int) : Bool := decide (a = b)
theorem eqI_true {a b : Int} (h : a = b) : eqI a b = true := decide_eq_true h
theorem eqI_false {a b : Int} (h : a ≠ b) : eqI a b = false := decide_eq_false h

set_option maxRecDepth 100000 in
set_option maxHeartbeats 1000000 in
theorem check_any (key : Nat) (A : Option Addr) (l : List UInt8) (c : Nat) (t : Int) (w : World) (hk : key < 18446744073709551616) (hp : Rd w w.heap.size A c (cells8 l)) (hll : l.length ≤ 1000000000) (hmax : c ≤ 9223372036854775807) :
    Calls Try.prog 18 #[.int .u64 (key : Int), .slice A l.length c, .int .u64 t] w fun e w' => e = .returned (.bool (eqI (tag key l) t)) ∧ w = w' := by
  have k1 := Lib.hid (tag_any key A l c w hk hp hll hmax)
  clear hk hp
  generalize (key : Int) = kk at *
  generalize tag key l = tg at *
  generalize (tg : Int) = z at *
  by_cases h : z = t
  · subst h
    rw [eqI_true rfl]
    go_enter Try.func18, Try.ntmps18
    go_wp2_with (go_at_call 16; refine k1.out.mono ?_; rintro e w' ⟨rfl, rfl⟩)
    go_ret
    exact ⟨rfl, rfl⟩
  · rw [eqI_false h]
    have hb : (z == t) = false := beq_eq_false_iff_ne.2 h
    go_enter Try.func18, Try.ntmps18
    go_wp2_with (go_at_call 16; refine k1.out.mono ?_; rintro e w' ⟨rfl, rfl⟩)
    go_ret
    exact ⟨rfl, rfl⟩
set_option maxRecDepth 100000 in
set_option maxHeartbeats 1000000 in
theorem chain_any (key : Nat) (A : Option Addr) (l : List UInt8) (c : Nat) (w : World) (hk : key < 18446744073709551616) (hp : Rd w w.heap.size A c (cells8 l)) (hll : l.length ≤ 1000000000) (hmax : c ≤ 9223372036854775807) :
    Calls Try.prog 19 #[.int .u64 (key : Int), .slice A l.length c] w fun e w' => e = .returned (.int .u64 (tag key l : Nat)) ∧ w = w' := by
  have k1 := Lib.hid (tag_any key A l c w hk hp hll hmax)
  clear hk hp
  generalize (key : Int) = kk at *
  generalize tag key l = tg at *
  generalize (tg : Int) = z at *
  go_enter Try.func19, Try.ntmps19
  go_wp2_with (go_at_call 16; refine k1.out.mono ?_; rintro e w' ⟨rfl, rfl⟩)
  go_ret
  exact ⟨rfl, rfl⟩
end Go.Proofs.Ytelmkihndmkbkaa
