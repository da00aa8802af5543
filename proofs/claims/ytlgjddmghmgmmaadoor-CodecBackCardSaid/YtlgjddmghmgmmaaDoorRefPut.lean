/- The reference's Put. -/
import Derived.Test.YtlgjddmghmgmmaaDoorPut
namespace Go.Proofs.YtlgjddmghmgmmaaDoor
open Go.RowKit

theorem own_zero {w : World} {base c : Nat} {A : Option Addr} {l : List UInt8} (h : w.ownsRow base 5 1 (.slice A (0 + l.length) c) (0 + l.length) ([] ++ cells8 l)) : w.ownsRow base 5 1 (.slice A l.length c) l.length (cells8 l) := by
  rwa [Nat.zero_add] at h

set_option maxRecDepth 100000 in
set_option maxHeartbeats 2000000 in
theorem refPut_any (A : Option Addr) (l : List UInt8) (c : Nat) (n : Int) (w : World) (hp : Rd w w.heap.size A c (cells8 l)) (hl : l.length ≤ 10000000) (n1 : -9223372036854775808 ≤ n) (n2 : n ≤ 9223372036854775807) :
    Calls Tryd.prog 16 #[.slice A l.length c, .int .i64 n] w (Made w w.heap.size (l ++ put n.toNat)) := by
  obtain ⟨i0, hi, hz0, hz1, hz2⟩ := info_parts info_u8
  have hI := Lib.hid (And.intro hi (And.intro hz0 (And.intro hz1 hz2)))
  clear hi hz0 hz1 hz2
  obtain ⟨m, hm⟩ : ∃ m, n.toNat = m := ⟨_, rfl⟩
  rw [hm]
  have hml : m < 9223372036854775808 := by omega
  have hM := Lib.hid hm
  clear hm n1 n2
  have hP := Lib.hid hp
  clear hp
  obtain ⟨goal, hg⟩ : ∃ goal, l ++ put m = goal := ⟨_, rfl⟩
  rw [hg]
  have hgl : goal.length ≤ l.length + 9 := by rw [← hg, List.length_append]; have := put_nine hml; omega
  have hG := Lib.hid hg
  clear hg
  have kv : Hid (n < 0 → (Value.int .i64 0) = .int .i64 m) := Lib.hid (fun h => by congr 1; have := hM.out; omega)
  have kw : Hid (¬ n < 0 → (Value.int .i64 n) = .int .i64 m) := Lib.hid (fun h => by congr 1; have := hM.out; omega)
  by_cases hn : n < 0
  all_goals
    go_enter Tryd.func16, Tryd.ntmps16
    go_wp2_with (at_builtin; refine wpList_append_feed _ rfl _ _ 22 rfl w.heap.size 5 i0 (.int .u8 0) 1 Tryd.underlying22 hI.out.1 hI.out.2.1 hI.out.2.2.1 hI.out.2.2.2 rfl _ 0 [] rfl (World.ownsRow_nil _ _ _ _) _ l.length _ rfl hP.out.feed8 (cells8_one _) (by unfold maxLen; omega) (by omega) (Nat.le_refl _) ?_; intro A1 c1 w1 hown1 hgrow1; (have hB1 := Lib.hid (below_grown (Below.refl w.heap.size w) (World.ownsRow_nil w w.heap.size 5 1) hgrow1 (Nat.le_refl _) (Nat.le_refl _))); (have hO1 := Lib.hid (own_zero hown1)); clear hown1 hgrow1)
    go_loopw [1, 5] (fun v b wr => Put1 w w.heap.size goal b v wr) (fun v _ _ => (intOf v).toNat)
    case atStart => exact ⟨A1, c1, m, l, rfl, (by first | exact kv.out hn | exact kw.out hn), hml, hG.out, hO1.out, hB1.out⟩
    case round =>
      clear hO1 hB1 hG
      obtain ⟨A', c', r, l', rfl, rfl, hr, hgo, hown, hb⟩ := hrel
      have hl' : l'.length + 1 ≤ goal.length := by rw [← hgo, List.length_append]; have := put_pos r; omega
      have hGo := Lib.hid hgo
      have hOwn := Lib.hid hown
      have hBe := Lib.hid hb
      clear hgo hown hb
      by_cases h128 : 128 ≤ r
      · go_wp2_with (at_builtin; refine wpList_append_feed _ rfl _ _ 22 rfl w.heap.size 5 i0 (.int .u8 0) 1 Tryd.underlying22 hI.out.1 hI.out.2.1 hI.out.2.2.1 hI.out.2.2.2 rfl _ _ _ rfl (hOwn.out.alloc _) _ 1 _ rfl (feed_new rfl) (fun u hu => one_u8 hu) (by unfold maxLen; omega) (by omega) (by have := hBe.out.size; simp; omega) ?_; intro A2 c2 w2 hown2 hgrow2; (have hOwn2 := Lib.hid hown2); (have hBe2 := Lib.hid (below_grown (hBe.out.alloc hBe.out.size _) (hOwn.out.alloc _) hgrow2 (Nat.le_refl _) (by have := hBe.out.size; simp; omega))); clear hown2 hgrow2)
        have hP := Lib.hid (put_next hGo.out h128 hOwn2.out hBe2.out hr)
        exact ⟨hP.out, by simp [intOf]; omega⟩
      · go_wp2_with (at_builtin; refine wpList_append_feed _ rfl _ _ 22 rfl w.heap.size 5 i0 (.int .u8 0) 1 Tryd.underlying22 hI.out.1 hI.out.2.1 hI.out.2.2.1 hI.out.2.2.2 rfl _ _ _ rfl (hOwn.out.alloc _) _ 1 _ rfl (feed_new rfl) (fun u hu => one_u8 hu) (by unfold maxLen; omega) (by omega) (by have := hBe.out.size; simp; omega) ?_; intro A2 c2 w2 hown2 hgrow2; (have hOwn2 := Lib.hid hown2); (have hBe2 := Lib.hid (below_grown (hBe.out.alloc hBe.out.size _) (hOwn.out.alloc _) hgrow2 (Nat.le_refl _) (by have := hBe.out.size; simp; omega))); clear hown2 hgrow2)
        go_ret
        exact put_last hGo.out h128 hOwn2.out hBe2.out
end Go.Proofs.YtlgjddmghmgmmaaDoor
