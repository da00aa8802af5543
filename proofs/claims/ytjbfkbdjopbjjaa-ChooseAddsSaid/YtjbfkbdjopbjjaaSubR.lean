/- The reference's subset. -/
import Derived.Test.YtjbfkbdjopbjjaaLessR
namespace Go.Proofs.Ytjbfkbdjopbjjaa
open Go.RowKit

theorem bits_len {m n : Nat} (h : n < 2 ^ m) : (bitsL 0 n).length ≤ m := ch_len (bits_ch h)
set_option maxRecDepth 100000 in
set_option maxHeartbeats 4000000 in
theorem subset_any (n : Nat) (w : World) (hn : n ≤ 1000000) :
    Calls Try.prog 26 #[.int .i64 n] w fun en w' => ∃ A c, en = .returned (.slice A (bitsL 0 n).length c) ∧ OwnI w' w.heap.size A c (bitsL 0 n) ∧ Below w.heap.size w w' := by
  have hlen : (bitsL 0 n).length ≤ 20 := bits_len (by omega)
  obtain ⟨L, hL⟩ : ∃ L, bitsL 0 n = L := ⟨_, rfl⟩
  rw [hL] at hlen ⊢
  have h0 : Hid ([] ++ bitsL 0 n = L) := Lib.hid hL
  have hEnd := Lib.hid (fun (o : List Int) (i : Nat) (h : o ++ bitsL i 0 = L) => (show o = L by rw [bits_zero, List.append_nil] at h; exact h))
  have hOd := Lib.hid (fun (o : List Int) (i m : Nat) (h : o ++ bitsL i m = L) (hm : m % 2 = 1) => (show (o ++ [(i : Int)]) ++ bitsL (i + 1) (m / 2) = L by rw [bits_odd hm] at h; rw [List.append_assoc]; exact h))
  have hEv := Lib.hid (fun (o : List Int) (i m : Nat) (h : o ++ bitsL i m = L) (hm : m % 2 = 0) => (show o ++ bitsL (i + 1) (m / 2) = L by rw [bits_even hm] at h; exact h))
  have hLe := Lib.hid (fun (o : List Int) (i m : Nat) (h : o ++ bitsL i m = L) => (show o.length ≤ 20 by rw [← h, List.length_append] at hlen; omega))
  clear hL
  go_enter Try.func26, Try.ntmps26
  go_wp2
  go_loopw [3, 4, 0] (fun v3 v4 v0 wr => ∃ (o : List Int) (i m q c3 : Nat) (A3 : Option Addr), m ≤ 1000000 ∧ i + m ≤ 1000000 ∧ v0 = .int .i64 m ∧ v4 = .int .i64 i ∧ v3 = .slice A3 q c3 ∧ Hid (q = o.length) ∧ Hid (o ++ bitsL i m = L) ∧ Hid (OwnI wr w.heap.size A3 c3 o) ∧ Hid (Below w.heap.size w wr)) (fun _ _ v0 _ => (intOf v0).toNat)
  case atStart => exact ⟨[], 0, n, 0, 0, none, hn, by omega, rfl, rfl, rfl, Lib.hid rfl, h0, Lib.hid (ownI_nil _ _), Lib.hid (Below.refl _ _)⟩
  case round =>
    clear h0
    obtain ⟨o, i, m, q, c3, A3, hm, him, rfl, rfl, rfl, hq, hT, hO, hB⟩ := hrel
    by_cases hm0 : m = 0
    · subst hm0
      have hoL := hEnd.out o i hT.out
      subst hoL
      obtain rfl := hq.out
      clear hEnd hOd hEv hLe hT
      go_wp2
      go_ret
      exact ⟨_, _, rfl, hO.out, hB.out⟩
    · have hrm : Int.tmod (m : Int) 2 = ((m % 2 : Nat) : Int) := by rw [Int.tmod_eq_emod_of_nonneg (by omega)]; exact (Int.natCast_emod _ _).symm
      have hdv : Int.tdiv (m : Int) 2 = ((m / 2 : Nat) : Int) := by rw [Int.tdiv_eq_ediv_of_nonneg (by omega)]; exact (Int.natCast_ediv _ _).symm
      have hpos : (0 : Int) < (m : Int) := by omega
      have hq2 := Lib.hid (hLe.out o i m hT.out)
      have hdl : m / 2 < m := by omega
      by_cases hpar : m % 2 = 1
      · have hN := Lib.hid (hOd.out o i m hT.out hpar)
        rw [hpar] at hrm
        obtain rfl := hq.out
        clear hEnd hOd hEv hLe hT
        generalize m / 2 = m2 at *
        go_wp2_with (at_builtin; refine wpList_app_int rfl (.tmp 12) (.tmp 14) rfl (by rfl) (by rfl) hO.out hB.out (Nat.le_refl _) (by have := hq2.out; omega) ?_; intro A5 c5 w5 h5 b5; (have O5 := Lib.hid h5); (have B5 := Lib.hid b5); clear h5 b5)
        exact ⟨⟨o ++ [(i : Int)], i + 1, m2, _, c5, _, by omega, by omega, by go_num, by go_num, rfl, Lib.hid (by rw [List.length_append]; rfl), hN, O5, B5⟩, by simp [intOf]; omega⟩
      · have hp0 : m % 2 = 0 := by omega
        have hN := Lib.hid (hEv.out o i m hT.out hp0)
        rw [hp0] at hrm
        clear hEnd hOd hEv hLe hT
        generalize m / 2 = m2 at *
        go_wp2
        exact ⟨⟨o, i + 1, m2, _, c3, _, by omega, by omega, by go_num, by go_num, rfl, hq, hN, hO, hB⟩, by simp [intOf]; omega⟩
end Go.Proofs.Ytjbfkbdjopbjjaa
