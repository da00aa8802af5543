/- The reference's Merge, Length and Same; the law's plain and few. -/
import Derived.Test.YtlkindlbllbmgaaRefMinus
namespace Go.Proofs.Ytlkindlbllbmgaa
open Go.RowKit

theorem refMerge_any (A : Option Addr) (l : List Iv) (cap : Nat) (w : World) (hp : Ivs w w.heap.size A l) (hmax : l.length ≤ 100000000) :
    Calls Try.prog 27 #[.slice A l.length cap] w (SetPost w (cov l)) := by
  have hS := refMinus_any A none l [] cap 0 w hp Ivs.none_ hmax (by simp)
  rw [List.length_nil] at hS
  have hS := Lib.hid hS
  clear hp
  go_enter Try.func27, Try.ntmps27
  go_wp2_with (go_at_call 33; refine hS.out.mono ?_; rintro e w1 ⟨B, capB, m, rfl, hcap, hm, hset, hb⟩; (have hfin := Lib.hid (show SetPost w (cov l) (.returned (.slice B m.length capB)) w1 from ⟨B, capB, m, rfl, hcap, hm, isSet_congr hset (fun t => ⟨fun h => h.1, fun h => ⟨h, cov_nil t⟩⟩), hb⟩)); clear hcap hm hset hb)
  go_ret
  exact hfin.out

set_option maxRecDepth 100000 in
set_option maxHeartbeats 1000000 in
theorem refLength_any (A : Option Addr) (l : List Iv) (cap : Nat) (w : World) (hp : Ivs w w.heap.size A l) (hmax : l.length ≤ 100000000) :
    Calls Try.prog 31 #[.slice A l.length cap] w (LenPost w (cov l)) := by
  have hS := Lib.hid (refMerge_any A l cap w hp hmax)
  clear hp
  go_enter Try.func31, Try.ntmps31
  go_wp2_with (go_at_call 27; refine hS.out.mono ?_; rintro e w1 ⟨B, capB, m, rfl, _, hm, hset, hb⟩; (have hM := Lib.hid hset); (have hml := plain_len hset.1); (have hmv := Lib.hid hm); (have hB1 := Lib.hid hb); clear hb hset hm)
  go_loopw [4, 5] (fun n i wr => ∃ (k : Nat), k ≤ m.length ∧ i = .int .i64 k ∧ n = .int .i64 (lenL (m.take k)) ∧ Below w1.heap.size w1 wr) (fun _ i _ => m.length - (intOf i).toNat)
  case atStart => exact ⟨0, by omega, rfl, rfl, Below.refl _ _⟩
  case round =>
    obtain ⟨k, hk, rfl, rfl, hb⟩ := hrel
    by_cases hlt : k < m.length
    · obtain ⟨ad, rfl, hc⟩ := hmv.out.get hlt
      obtain ⟨hx0, hy0⟩ := hc wr hb
      have hb' := Lib.hid hb
      obtain ⟨p1, p2, p3⟩ := plain_at hM.out.1 hlt
      obtain ⟨q1, q2⟩ := lenL_take hM.out.1 k
      have hs := Lib.hid (lenL_succ hlt)
      have e1 : IntKind.i64.wrap (lenL (m.take k) + ly m k) = lenL (m.take k) + ly m k := IntWalk.i64_in _ (by omega)
      have e2 : IntKind.i64.wrap (lenL (m.take k) + ly m k - lx m k) = lenL (m.take k) + ly m k - lx m k := IntWalk.i64_in _ (by omega)
      clear hb hc
      go_wp2
      go_quiet (fail)
      clear e1 e2
      go_wp2
      exact ⟨⟨k + 1, hlt, by go_num, congrArg (Value.int .i64) (by rw [hs.out]; omega), below_drewN hb'.out _⟩, by simp [intOf]; omega⟩
    · obtain rfl : k = m.length := by omega
      rw [List.take_length]
      have hfin := Lib.hid (show LenPost w (cov l) (.returned (.int .i64 (lenL m))) wr from ⟨m, hM.out, rfl, hB1.out.trans (hb.mono hB1.out.size)⟩)
      clear hb
      go_wp2
      go_ret
      exact hfin.out
end Go.Proofs.Ytlkindlbllbmgaa
