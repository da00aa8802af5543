/- Length. -/
import Derived.Test.YtlkindlbllbmgaaMerge
namespace Go.Proofs.Ytlkindlbllbmgaa
open Go.RowKit

/-- The number of times of a set. -/
def LenPost (W : World) (S : Int → Prop) (e : Ending) (w' : World) : Prop := ∃ m, isSet m S ∧ e = .returned (.int .i64 (lenL m)) ∧ Below W.heap.size W w'
theorem lenL_succ {m : List Iv} {k : Nat} (hk : k < m.length) : lenL (m.take (k + 1)) = lenL (m.take k) + (ly m k - lx m k) := by
  rw [List.take_succ_eq_append_getElem hk, lenL_snoc, lx_at hk, ly_at hk]
theorem plain_at {m : List Iv} (h : plainL m) {k : Nat} (hk : k < m.length) : 0 ≤ lx m k ∧ lx m k < ly m k ∧ ly m k ≤ 20000000 := by
  rw [lx_at hk, ly_at hk]
  exact h.1 _ (List.getElem_mem hk)

set_option maxRecDepth 100000 in
set_option maxHeartbeats 1000000 in
theorem length_any (A : Option Addr) (l : List Iv) (cap : Nat) (w : World) (hp : Ivs w w.heap.size A l) (hmax : l.length ≤ 100000000) :
    Calls Try.prog 30 #[.slice A l.length cap] w (LenPost w (cov l)) := by
  have hS := Lib.hid (merge_any A l cap w hp hmax)
  clear hp
  go_enter Try.func30, Try.ntmps30
  go_wp2_with (go_at_call 26; refine hS.out.mono ?_; rintro e w1 ⟨B, capB, m, rfl, _, hm, hset, hb⟩; (have hM := Lib.hid hset); (have hml := plain_len hset.1); (have hmv := Lib.hid hm); (have hB1 := Lib.hid hb); clear hb hset hm)
  go_loopw [3, 9] (fun n i wr => ∃ (k : Nat), k ≤ m.length ∧ i = .int .i64 k ∧ n = .int .i64 (lenL (m.take k)) ∧ Below w1.heap.size w1 wr) (fun _ i _ => m.length - (intOf i).toNat)
  case atStart => exact ⟨0, by omega, rfl, rfl, Below.refl _ _⟩
  case round =>
    obtain ⟨k, hk, rfl, rfl, hb⟩ := hrel
    by_cases hlt : k < m.length
    · obtain ⟨ad, rfl, hc⟩ := hmv.out.get hlt
      obtain ⟨hx0, hy0⟩ := hc wr hb
      have hb' := Lib.hid hb
      obtain ⟨p1, p2, p3⟩ := plain_at hM.out.1 hlt
      obtain ⟨q1, q2⟩ := lenL_take hM.out.1 k
      have hs := Lib.hid (lenL_succ hlt)
      clear hb hc
      go_wp2
      exact ⟨⟨k + 1, hlt, by go_num, congrArg (Value.int .i64) (by rw [hs.out]), hb'.out.alloc hb'.out.size _⟩, by simp [intOf]; omega⟩
    · obtain rfl : k = m.length := by omega
      rw [List.take_length]
      have hfin := Lib.hid (show LenPost w (cov l) (.returned (.int .i64 (lenL m))) wr from ⟨m, hM.out, rfl, hB1.out.trans (hb.mono hB1.out.size)⟩)
      clear hb
      go_wp2
      go_ret
      exact hfin.out
end Go.Proofs.Ytlkindlbllbmgaa
