/- fixed.Print and the reference's Print: each returns 'printL'. -/
import Derived.Test.YtleddfceigmlmaaDoorFmt
import Derived.WalkSpells
import Derived.Lib.Strings
namespace Go.Proofs.YtleddfceigmlmaaDoor
open Go.RowKit Go.Shelf Go.Sort

def dig3 (m : Nat) : List UInt8 := [UInt8.ofNat (48 + m / 100), UInt8.ofNat (48 + m / 10 % 10), UInt8.ofNat (48 + m % 10)]
def printL (x : Int) : List UInt8 := (if x < 0 then [45] else []) ++ Lib.decDigits (x.natAbs / 1000) ++ 46 :: dig3 (x.natAbs % 1000)
theorem dec_thousand {m : Nat} (h : m < 1000) : Lib.decDigits (1000 + m) = 49 :: dig3 m := by
  rw [Lib.decDigits, dif_neg (by omega), Lib.decDigits, dif_neg (by omega), Lib.decDigits, dif_neg (by omega), Lib.decDigits_one (by omega)]
  have e1 : (1000 + m) / 10 / 10 / 10 = 1 := by omega
  have e2 : (1000 + m) / 10 / 10 % 10 = m / 100 := by omega
  have e3 : (1000 + m) / 10 % 10 = m / 10 % 10 := by omega
  have e4 : (1000 + m) % 10 = m % 10 := by omega
  rw [e1, e2, e3, e4]
  rfl

theorem len_dec {u : Nat} (h : u < 18446744073709551616) : (Lib.decDigits u).length ≤ 20 := by
  rw [Lib.decDigits_length]
  rcases Nat.eq_zero_or_pos u with h0 | h0
  · subst h0; rw [Lib.nDigits_small (by omega)]; omega
  · have := Lib.numDigits_eq u h0 h
    split at this <;> omega
theorem ba_eq {a : ByteArray} {l : List UInt8} (h : a.data.toList = l) : a = ⟨l.toArray⟩ := by
  cases a
  subst h
  rfl
theorem cat_list (a b : ByteArray) : (a ++ b).data.toList = a.data.toList ++ b.data.toList := by simp [ByteArray.data_append]
theorem print_str (p : List UInt8) (A B : Nat) (m : Nat) (hm : m < 1000) (hA : 1000 + m = A) :
    ((⟨p.toArray⟩ : ByteArray) ++ ⟨(Lib.decDigits B).toArray⟩ ++ ⟨#[46]⟩ ++ (⟨(Lib.decDigits A).toArray⟩ : ByteArray).extract 1 4) = ⟨(p ++ Lib.decDigits B ++ 46 :: dig3 m).toArray⟩ := by
  apply ba_eq
  rw [cat_list, cat_list, cat_list, Lib.extract_data, ← hA, dec_thousand hm]
  simp [dig3]

set_option maxRecDepth 100000 in
set_option maxHeartbeats 1000000 in
theorem print_neg (x : Int) (w : World) (he : Env w) (h1 : -9223372036854775808 ≤ x) (h2 : x < 0) :
    Calls Tryd.prog 27 #[.int .i64 x] w fun e w' => e = .returned (.string ⟨(printL x).toArray⟩) ∧ Below w.heap.size w w' := by
  have hf1 := Lib.hid (fmt_any (1000 + x.natAbs % 1000) (by omega) w he)
  have e1 : 1000 + (x.natAbs : Int) % 1000 = ((1000 + x.natAbs % 1000 : Nat) : Int) := by omega
  have hf2 := Lib.hid (fun w1 (hb : Below w.heap.size w w1) => fmt_any (x.natAbs / 1000) (by omega) w1 (he.below hb))
  obtain ⟨A, hA⟩ : ∃ A : Nat, 1000 + x.natAbs % 1000 = A := ⟨_, rfl⟩
  obtain ⟨B, hB⟩ : ∃ B : Nat, x.natAbs / 1000 = B := ⟨_, rfl⟩
  rw [hA] at e1 hf1
  rw [hB] at hf2
  have e2 : (x.natAbs : Int) / 1000 = (B : Int) := by omega
  have LA : (Lib.decDigits A).length = 4 := by rw [← hA, dec_thousand (by omega)]; rfl
  have LB : (Lib.decDigits B).length ≤ 20 := len_dec (by omega)
  have hfin := Lib.hid (print_str [45] A B (x.natAbs % 1000) (by omega) hA)
  have hpl : Hid (printL x = [45] ++ Lib.decDigits B ++ 46 :: dig3 (x.natAbs % 1000)) := by show printL x = _; unfold printL; rw [hB, if_pos h2]
  clear hA hB
  go_enter Tryd.func27, Tryd.ntmps27
  go_wp2_with (first
    | (go_at_call 49; refine (mag_any _ _ (by omega) (by omega)).mono ?_; rintro e w' ⟨rfl, rfl⟩)
    | (go_at_call_of 50 (A : Int); refine hf1.out.mono ?_; rintro e w1 ⟨rfl, hb1⟩)
    | (go_at_call_of 50 (B : Int); refine (hf2.out _ hb1).mono ?_; rintro e w2 ⟨rfl, hb2⟩))
  go_ret
  rw [hpl.out]
  exact ⟨by rw [← hfin.out]; first | rfl | simp, hb1.trans (hb2.mono hb1.size)⟩
theorem print_pos (x : Int) (w : World) (he : Env w) (h1 : x ≤ 9223372036854775807) (h2 : 0 ≤ x) :
    Calls Tryd.prog 27 #[.int .i64 x] w fun e w' => e = .returned (.string ⟨(printL x).toArray⟩) ∧ Below w.heap.size w w' := by
  have hf1 := Lib.hid (fmt_any (1000 + x.natAbs % 1000) (by omega) w he)
  have e1 : 1000 + (x.natAbs : Int) % 1000 = ((1000 + x.natAbs % 1000 : Nat) : Int) := by omega
  have hf2 := Lib.hid (fun w1 (hb : Below w.heap.size w w1) => fmt_any (x.natAbs / 1000) (by omega) w1 (he.below hb))
  obtain ⟨A, hA⟩ : ∃ A : Nat, 1000 + x.natAbs % 1000 = A := ⟨_, rfl⟩
  obtain ⟨B, hB⟩ : ∃ B : Nat, x.natAbs / 1000 = B := ⟨_, rfl⟩
  rw [hA] at e1 hf1
  rw [hB] at hf2
  have e2 : (x.natAbs : Int) / 1000 = (B : Int) := by omega
  have LA : (Lib.decDigits A).length = 4 := by rw [← hA, dec_thousand (by omega)]; rfl
  have LB : (Lib.decDigits B).length ≤ 20 := len_dec (by omega)
  have hfin := Lib.hid (print_str ([] : List UInt8) A B (x.natAbs % 1000) (by omega) hA)
  have hpl : Hid (printL x = ([] : List UInt8) ++ Lib.decDigits B ++ 46 :: dig3 (x.natAbs % 1000)) := by show printL x = _; unfold printL; rw [hB, if_neg (by omega)]
  clear hA hB
  go_enter Tryd.func27, Tryd.ntmps27
  go_wp2_with (first
    | (go_at_call 49; refine (mag_any _ _ (by omega) (by omega)).mono ?_; rintro e w' ⟨rfl, rfl⟩)
    | (go_at_call_of 50 (A : Int); refine hf1.out.mono ?_; rintro e w1 ⟨rfl, hb1⟩)
    | (go_at_call_of 50 (B : Int); refine (hf2.out _ hb1).mono ?_; rintro e w2 ⟨rfl, hb2⟩))
  go_ret
  rw [hpl.out]
  exact ⟨by rw [← hfin.out]; first | rfl | simp, hb1.trans (hb2.mono hb1.size)⟩
theorem print_any (x : Int) (w : World) (he : Env w) (h1 : -9223372036854775808 ≤ x) (h2 : x ≤ 9223372036854775807) :
    Calls Tryd.prog 27 #[.int .i64 x] w fun e w' => e = .returned (.string ⟨(printL x).toArray⟩) ∧ Below w.heap.size w w' := by
  by_cases h : x < 0
  · exact print_neg x w he h1 h
  · exact print_pos x w he h2 (by omega)
end Go.Proofs.YtleddfceigmlmaaDoor
