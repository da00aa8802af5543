/- fixed.areDigits, fixed.validWhole; the reference's digits and value. -/
import Derived.Test.YtleddfceigmlmaaDoorRefPrint
namespace Go.Proofs.YtleddfceigmlmaaDoor
open Go.RowKit Go.Shelf Go.Sort

def isD (c : UInt8) : Bool := decide (48 ≤ c.toNat ∧ c.toNat ≤ 57)
def areD (l : List UInt8) (most : Int) : Bool := decide (1 ≤ l.length ∧ (l.length : Int) ≤ most) && l.all isD
theorem isD_yes {c : UInt8} (h : isD c = true) : 48 ≤ (c.toNat : Int) ∧ (c.toNat : Int) ≤ 57 := by have := of_decide_eq_true h; omega
theorem isD_no {c : UInt8} (h : isD c = false) : (c.toNat : Int) < 48 ∨ (48 ≤ (c.toNat : Int) ∧ 57 < (c.toNat : Int)) := by have := of_decide_eq_false h; omega
theorem all_take {s : ByteArray} {k : Nat} (h : k < s.size) : (s.data.toList.take (k + 1)).all isD = ((s.data.toList.take k).all isD && isD s[k]) := by
  rw [List.take_succ_eq_append_getElem (by simpa using h), List.all_append]
  simp
  rfl
theorem all_not {l : List UInt8} {k : Nat} (h : (l.take k).all isD = false) : l.all isD = false := by
  rw [← List.take_append_drop k l, List.all_append, h]
  rfl

set_option maxRecDepth 100000 in
set_option maxHeartbeats 1000000 in
theorem areDigits_any (s : ByteArray) (most : Int) (w : World) (hs : s.size ≤ 9223372036854775807) :
    Calls Tryd.prog 45 #[.string s, .int .i64 most] w fun e w' => e = .returned (.bool (areD s.data.toList most)) ∧ w = w' := by
  have hlen : s.data.toList.length = s.size := by simp
  by_cases h1 : 1 ≤ s.size
  · by_cases h2 : (s.size : Int) ≤ most
    · have hA : Hid (areD s.data.toList most = s.data.toList.all isD) := by
        show areD s.data.toList most = _
        unfold areD
        rw [hlen, decide_eq_true ⟨h1, h2⟩]
        rfl
      have hlen := Lib.hid hlen
      go_enter Tryd.func45, Tryd.ntmps45
      go_wp2
      go_loop [17, 5] (fun i _ => ∃ k : Nat, k ≤ s.size ∧ i = .int .i64 k ∧ Hid ((s.data.toList.take k).all isD = true)) (fun i _ => s.size - (intOf i).toNat)
      case atStart => exact ⟨0, by omega, rfl, rfl⟩
      case round =>
        obtain ⟨k, hk, rfl, hall⟩ := hrel
        by_cases hlt : k < s.size
        · have hst := all_take hlt
          rw [hall.out, Bool.true_and] at hst
          rcases hc : isD s[k] with _ | _
          · rw [hc] at hst
            have hf := Lib.hid (hA.out.trans (all_not hst))
            clear hst hall
            rcases isD_no hc with c1 | ⟨c1, c2⟩
            all_goals
              clear hc
              go_wp2
              go_ret
              exact ⟨congrArg (fun b => Ending.returned (.bool b)) hf.out.symm, rfl⟩
          · rw [hc] at hst
            have hf := Lib.hid hst
            obtain ⟨c1, c2⟩ := isD_yes hc
            clear hst hall hc
            go_wp2
            exact ⟨⟨k + 1, by omega, by go_num, hf⟩, by simp [intOf]; omega⟩
        · obtain rfl : k = s.size := by omega
          have hf := Lib.hid (hA.out.trans <| show s.data.toList.all isD = true by have := hall.out; rwa [List.take_of_length_le (by rw [hlen.out]; omega)] at this)
          clear hall
          go_wp2
          go_ret
          exact ⟨congrArg (fun b => Ending.returned (.bool b)) hf.out.symm, rfl⟩
    · have hA : Hid (areD s.data.toList most = false) := by
        show areD s.data.toList most = _
        unfold areD
        rw [hlen, decide_eq_false (fun h => h2 h.2)]
        rfl
      rw [hA.out]
      clear hlen
      go_enter Tryd.func45, Tryd.ntmps45
      go_wp2
      go_ret
      exact ⟨rfl, rfl⟩
  · have hA : Hid (areD s.data.toList most = false) := by
      show areD s.data.toList most = _
      unfold areD
      rw [hlen, decide_eq_false (fun h => h1 h.1)]
      rfl
    rw [hA.out]
    clear hlen
    have h0 : s.size = 0 := by omega
    go_enter Tryd.func45, Tryd.ntmps45
    go_wp2
    go_ret
    exact ⟨rfl, rfl⟩

def wholeOk (l : List UInt8) : Bool := areD l 10 && (decide (l.length = 1) || (l.headD 0 != 48))
set_option maxRecDepth 100000 in
theorem validWhole_any (s : ByteArray) (w : World) (hs : s.size ≤ 9223372036854775807) :
    Calls Tryd.prog 44 #[.string s] w fun e w' => e = .returned (.bool (wholeOk s.data.toList)) ∧ w = w' := by
  have hlen : s.data.toList.length = s.size := by simp
  have ha := fun w => areDigits_any s 10 w hs
  unfold wholeOk
  rcases h1 : areD s.data.toList 10 with _ | _
  · rw [h1] at ha
    have ha := Lib.hid ha
    clear h1 hlen
    rw [Bool.false_and]
    go_enter Tryd.func44, Tryd.ntmps44
    go_wp2_with (go_at_call 45; refine (ha.out _).mono ?_; rintro e w' ⟨rfl, rfl⟩)
    go_ret
    exact ⟨rfl, rfl⟩
  · rw [h1] at ha
    have ha := Lib.hid ha
    have hp : 0 < s.size := by
      unfold areD at h1
      simp only [Bool.and_eq_true, decide_eq_true_eq] at h1
      omega
    rw [Bool.true_and, hlen]
    clear h1
    by_cases h2 : s.size = 1
    · rw [decide_eq_true h2, Bool.true_or]
      have h2' : ((s.size : Int) == 1) = true := by simp; omega
      clear hlen h2
      go_enter Tryd.func44, Tryd.ntmps44
      go_wp2_with (go_at_call 45; refine (ha.out _).mono ?_; rintro e w' ⟨rfl, rfl⟩)
      go_ret
      exact ⟨rfl, rfl⟩
    · rw [decide_eq_false h2, Bool.false_or]
      have h2' : ((s.size : Int) == 1) = false := by simp; omega
      have hh : Hid (s.data.toList.headD 0 = s[0]) := by
        show s.data.toList.headD 0 = s[0]
        have : 0 < s.data.toList.length := by omega
        rw [List.headD_eq_head?_getD, List.head?_eq_getElem?, List.getElem?_eq_getElem this]
        rfl
      rw [hh.out]
      have hb : Hid ((s[0] != 48) = ((s[0].toNat : Int) != 48)) := by
        show (s[0] != 48) = ((s[0].toNat : Int) != 48)
        rw [Bool.eq_iff_iff]
        simp only [bne_iff_ne, ne_eq, ← UInt8.toNat_inj]
        show ¬ s[0].toNat = 48 ↔ _
        omega
      rw [hb.out]
      clear hlen h2 hh
      go_enter Tryd.func44, Tryd.ntmps44
      go_wp2_with (go_at_call 45; refine (ha.out _).mono ?_; rintro e w' ⟨rfl, rfl⟩)
      go_ret
      exact ⟨rfl, rfl⟩
end Go.Proofs.YtleddfceigmlmaaDoor
