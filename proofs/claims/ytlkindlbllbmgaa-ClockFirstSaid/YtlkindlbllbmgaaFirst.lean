/- firstSecond. -/
import Derived.Test.YtlkindlbllbmgaaIn
import Derived.Laws.Cover1
namespace Go.Proofs.Ytlkindlbllbmgaa
open Go.RowKit

def FsPost (W : World) (l : List Hr) (wd least : Int) (e : Ending) (w' : World) : Prop := ∃ r, e = .returned (.int .i64 r) ∧ FsOk l wd least r ∧ Below W.heap.size W w'
theorem max3 (x y z : Int) : (if z > if y > x then y else x then z else if y > x then y else x) = max (max x y) z := by
  by_cases h1 : y > x
  · rw [if_pos h1]
    split <;> omega
  · rw [if_neg h1]
    split <;> omega
theorem take_h {l : List Hr} {k : Nat} (hk : k < l.length) : l.take (k + 1) = l.take k ++ [(hd l k, hf l k, ht l k)] := by rw [List.take_succ_eq_append_getElem hk, h_at hk]

set_option maxRecDepth 100000 in
set_option maxHeartbeats 2000000 in
theorem first_any (A : Option Addr) (l : List Hr) (cap : Nat) (wd least : Int) (w : World) (hp : Hrs w w.heap.size A l) (hmax : l.length ≤ 9223372036854775807) (v1 : 0 ≤ wd) (v2 : wd ≤ 6) :
    Calls Try.prog 39 #[.slice A l.length cap, .int .i64 wd, .int .i64 least] w (FsPost w l wd least) := by
  have hP := Lib.hid hp
  clear hp
  go_enter Try.func39, Try.ntmps39
  go_wp2
  go_loopw [7, 13] (fun fv i wr => ∃ (k : Nat) (r : Int), k ≤ l.length ∧ i = .int .i64 k ∧ fv = .int .i64 r ∧ Hid (FsOk (l.take k) wd least r) ∧ Below w.heap.size w wr) (fun _ i _ => l.length - (intOf i).toNat)
  case atStart => exact ⟨0, 86400, by omega, rfl, rfl, Lib.hid (FsOk.start wd least), Below.refl _ _⟩
  case round =>
    obtain ⟨k, r, hk, rfl, rfl, hF, hb⟩ := hrel
    by_cases hlt : k < l.length
    · obtain ⟨ad, rfl, hc⟩ := hP.out.get hlt
      obtain ⟨x0, x1, x2⟩ := hc wr hb
      have hb' := Lib.hid hb
      clear hb hc
      have kO := fun w => opensOn_any (hd l k) (hf l k) (ht l k) wd w v1 v2
      have hE := Lib.hid (take_h hlt)
      have hM := max3 (hf l k) least 0
      obtain ⟨M, hMd⟩ : ∃ M, M = max (max (hf l k) least) 0 := ⟨_, rfl⟩
      rw [← hMd] at hM
      have hB : ∀ (ts : Array TypeId) (t : TypeId) (w : World), (Builtin.max_ ts t #[.int .i64 (hf l k), .int .i64 least, .int .i64 0]).run Try.prog w = .ok (.int .i64 M) w := fun ts t w => by rw [run_max_int3, hM]
      clear hM
      have hMx := Lib.hid hMd
      clear hMd
      rcases ho : onB (hd l k) wd with _ | _
      · rw [ho] at kO
        have kO := Lib.hid kO
        have hF' := Lib.hid (show FsOk (l.take (k + 1)) wd least r by rw [hE.out]; exact hF.out.off ho)
        clear hF ho
        go_wp2_with (go_at_call 37; refine (kO.out _).mono ?_; rintro e w2 ⟨rfl, b⟩; (obtain ⟨z0, z1, z3, z2⟩ := new_three b); (have zb := Lib.hid (hb'.out.trans (z2.mono hb'.out.size))); clear b z2)
        exact ⟨⟨k + 1, r, hlt, by go_num, rfl, hF', zb.out⟩, by simp [intOf]; omega⟩
      · rw [ho] at kO
        have kO := Lib.hid kO
        by_cases hx : M < ht l k
        · have hF' := Lib.hid (show FsOk (l.take (k + 1)) wd least (min r M) by rw [hE.out]; exact hF.out.opens hMx.out ho hx)
          clear hF ho
          go_wp2_with (go_at_call 37; refine (kO.out _).mono ?_; rintro e w2 ⟨rfl, b⟩; (obtain ⟨z0, z1, z3, z2⟩ := new_three b); (have zb := Lib.hid (hb'.out.trans (z2.mono hb'.out.size))); clear b z2)
          exact ⟨⟨k + 1, _, hlt, by go_num, rfl, hF', zb.out⟩, by simp [intOf]; omega⟩
        · have hF' := Lib.hid (show FsOk (l.take (k + 1)) wd least r by rw [hE.out]; exact hF.out.late hMx.out hx)
          have hdec : decide (M < ht l k) = false := decide_eq_false hx
          clear hF ho
          go_wp2_with (go_at_call 37; refine (kO.out _).mono ?_; rintro e w2 ⟨rfl, b⟩; (obtain ⟨z0, z1, z3, z2⟩ := new_three b); (have zb := Lib.hid (hb'.out.trans (z2.mono hb'.out.size))); clear b z2)
          exact ⟨⟨k + 1, r, hlt, by go_num, rfl, hF', zb.out⟩, by simp [intOf]; omega⟩
    · obtain rfl : k = l.length := by omega
      rw [List.take_length] at hF
      have hb' := Lib.hid hb
      clear hb hP
      go_wp2
      go_ret
      exact ⟨r, rfl, hF.out, hb'.out⟩
end Go.Proofs.Ytlkindlbllbmgaa
