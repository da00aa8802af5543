/- The examples of the chapter hold ('alive'). -/
import Derived.Test.YtlkindlbllbmgaaExample
namespace Go.Proofs.Ytlkindlbllbmgaa
open Go.RowKit

set_option maxRecDepth 100000 in
set_option maxHeartbeats 4000000 in
theorem alive_any (w : World) : Calls Try.prog 11 #[] w fun e w' => e = .returned (.bool true) ∧ Below w.heap.size w w' := by
  obtain ⟨n1, n2⟩ := ex_next1
  obtain ⟨n3, n4⟩ := ex_next2
  obtain ⟨n5, n6⟩ := ex_next3
  have hh := hr_one (w := w) (x := 3) (y := 28800) (z := 57600)
  have kN := fun t w1 (b : Below (w.alloc (.cells #[.int .i64 3, .int .i64 28800, .int .i64 57600] 42)).heap.size (w.alloc (.cells #[.int .i64 3, .int .i64 28800, .int .i64 57600] 42)) w1) => next_any (some ⟨w.heap.size, 0, none⟩) exH 1 t w1 ((hh.below b).more b.size) (by decide)
  have kI := fun t w1 (b : Below (w.alloc (.cells #[.int .i64 3, .int .i64 28800, .int .i64 57600] 42)).heap.size (w.alloc (.cells #[.int .i64 3, .int .i64 28800, .int .i64 57600] 42)) w1) => in_any (some ⟨w.heap.size, 0, none⟩) exH 1 t w1 ((hh.below b).more b.size) (by decide)
  have kR := fun w1 (b : Below (w.alloc (.cells #[.int .i64 3, .int .i64 28800, .int .i64 57600] 42)).heap.size (w.alloc (.cells #[.int .i64 3, .int .i64 28800, .int .i64 57600] 42)) w1) => right_any (some ⟨w.heap.size, 0, none⟩) exH 1 w1 ((hh.below b).more b.size) (by decide)
  rw [ex_right] at kR
  have k1 := kN 57600
  rw [n1, n2] at k1
  have k2 := kN 144000
  rw [n3, n4] at k2
  have k3 := fun w1 => next_any none [] 0 0 w1 Hrs.none_ (by decide)
  rw [n5, n6] at k3
  have k4 := kI 28800
  rw [ex_in1] at k4
  have k5 := kI 144000
  rw [ex_in2] at k5
  have k1 := Lib.hid k1
  have k2 := Lib.hid k2
  have k3 := Lib.hid k3
  have k4 := Lib.hid k4
  have k5 := Lib.hid k5
  have kR := Lib.hid kR
  have kS := Lib.hid (fun (A : Option Addr) (cap : Nat) (l : List Iv) (cs : Array Value) (w1 : World) (hc : cs.toList = cellsL l) (hl : l.length ≤ 100) (hA : Ivs w1 w1.heap.size A l) =>
    (same_any A (some ⟨w1.heap.size, 0, none⟩) l cap l.length (w1.alloc (.cells cs 38)) ((hA.below ((Below.refl _ _).alloc (Nat.le_refl _) _)).more (by simp)) (lit_ivs w1 cs l hc hl) (by omega)).mono (R' := fun e w' => e = .returned (.bool true) ∧ Below w1.heap.size w1 w') fun _ _ ⟨a, b⟩ => ⟨a, ((Below.refl _ _).alloc (Nat.le_refl _) _).trans (b.mono (by simp))⟩)
  have h0 := Lib.hid ((Below.refl w.heap.size w).alloc (Nat.le_refl _) (.cells #[.int .i64 3, .int .i64 28800, .int .i64 57600] 42))
  have e1 : dayV 86399 = 0 := by decide
  have e2 : dayV 86400 = 1 := by decide
  have e3 : secV 90000 = 3600 := by decide
  have e4 : wdV 604800 = 0 := by decide
  have e5 : dayV (-1) = -1 := by decide
  clear hh kN kI n1 n2 n3 n4 n5 n6
  have tok1 : True := trivial
  have tok2 : True := trivial
  have tok3 : True := trivial
  have tok4 : True := trivial
  have tok5 : True := trivial
  go_enter Try.func11, Try.ntmps11
  go_wp2_with (first
    | (go_at_call 22; have _t := tok1; refine (k1.out _ (Below.refl _ _)).mono ?_; rintro e w1 ⟨rfl, b⟩; (have b1 := Lib.hid b); clear b tok1 _t)
    | (go_at_call 22; have _t := tok2; refine (k2.out _ b1.out).mono ?_; rintro e w2 ⟨rfl, b⟩; (have b2 := Lib.hid (b1.out.trans (b.mono b1.out.size))); clear b tok2 _t)
    | (go_at_call 22; refine (k3.out _).mono ?_; rintro e w3 ⟨rfl, b⟩; (have b3 := Lib.hid (b2.out.trans (b.mono b2.out.size))); clear b)
    | (go_at_call 26; refine (merge_ex _).mono ?_; rintro e w4 ⟨Am, cm, rfl, hM, b⟩; (have b4 := Lib.hid (b3.out.trans (b.mono b3.out.size))); (have hM := Lib.hid hM); clear b)
    | (go_at_call 32; refine (minus_ex _).mono ?_; rintro e w5 ⟨Ad, cd, rfl, hD, b⟩; (have b5 := Lib.hid (b4.out.trans (b.mono b4.out.size))); (have hM5 := Lib.hid ((hM.out.below b).more b.size)); (have hD := Lib.hid hD); clear b)
    | (go_at_call 12; refine (day_any _ _).mono ?_; rintro e w' ⟨rfl, rfl⟩)
    | (go_at_call 14; refine (second_any _ _).mono ?_; rintro e w' ⟨rfl, rfl⟩)
    | (go_at_call 16; refine (weekday_any _ _).mono ?_; rintro e w' ⟨rfl, rfl⟩)
    | (go_at_call 20; have _t := tok3; refine (k4.out _ b5.out).mono ?_; rintro e w6 ⟨rfl, b⟩; (have b6 := Lib.hid (b5.out.trans (b.mono b5.out.size))); (have hM6 := Lib.hid ((hM5.out.below b).more b.size)); (have hD6 := Lib.hid ((hD.out.below b).more b.size)); clear b tok3 _t)
    | (go_at_call 20; have _t := tok4; refine (k5.out _ b6.out).mono ?_; rintro e w7 ⟨rfl, b⟩; (have b7 := Lib.hid (b6.out.trans (b.mono b6.out.size))); (have hM7 := Lib.hid ((hM6.out.below b).more b.size)); (have hD7 := Lib.hid ((hD6.out.below b).more b.size)); clear b tok4 _t)
    | (go_at_call 18; refine (kR.out _ b7.out).mono ?_; rintro e w8 ⟨rfl, b⟩; (have b8 := Lib.hid (b7.out.trans (b.mono b7.out.size))); (have hM8 := Lib.hid ((hM7.out.below b).more b.size)); (have hD8 := Lib.hid ((hD7.out.below b).more b.size)); clear b)
    | (go_at_call 25; have _t := tok5; refine (kS.out _ _ exM #[.int .i64 5, .int .i64 12, .int .i64 20, .int .i64 30] w8 rfl (by decide) hM8.out).mono ?_; rintro e w9 ⟨rfl, b⟩; (have b9 := Lib.hid (b8.out.trans (b.mono b8.out.size))); (have hM9 := Lib.hid ((hM8.out.below b).more b.size)); (have hD9 := Lib.hid ((hD8.out.below b).more b.size)); clear b tok5 _t)
    | (go_at_call 30; refine (length_any _ exM _ _ hM9.out (by decide)).mono ?_; rintro e wA ⟨mm, hs, rfl, b⟩; (have bA := Lib.hid (b9.out.trans (b.mono b9.out.size))); (have hDA := Lib.hid ((hD9.out.below b).more b.size)); (have hL := ex_len hs); clear b hs)
    | (go_at_call 25; refine (kS.out _ _ exD #[.int .i64 0, .int .i64 10, .int .i64 20, .int .i64 90] wA rfl (by decide) hDA.out).mono ?_; rintro e wB ⟨rfl, b⟩; (have bB := Lib.hid (bA.out.trans (b.mono bA.out.size))); clear b))
  go_ret
  exact ⟨rfl, h0.out.trans (bB.out.mono h0.out.size)⟩
end Go.Proofs.Ytlkindlbllbmgaa
