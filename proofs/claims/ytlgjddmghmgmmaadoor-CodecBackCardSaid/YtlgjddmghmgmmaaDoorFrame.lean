/- Frame: the program's and the reference's. -/
import Derived.Test.YtlgjddmghmgmmaaDoorText
import Derived.Test.YtlgjddmghmgmmaaDoorSumOf
namespace Go.Proofs.YtlgjddmghmgmmaaDoor
open Go.RowKit

theorem sum_one {s : Nat} : ∀ u ∈ [Value.int .u8 ((s : Int) / 16777216), .int .u8 ((s : Int) / 65536 % 256), .int .u8 ((s : Int) / 256 % 256), .int .u8 ((s : Int) % 256)], u.oneCell' = true := by
  intro u hu
  simp at hu
  rcases hu with rfl | rfl | rfl | rfl <;> rfl
theorem made_sum {w w2 : World} {base n c s : Nat} {A : Option Addr} {a g : List UInt8} (hs : s < 4294967296) (ha : n = a.length) (hg : a ++ be4 s = g) (h : w2.ownsRow base 5 1 (.slice A (n + 4) c) (n + 4) (cells8 a ++ [.int .u8 ((s : Int) / 16777216), .int .u8 ((s : Int) / 65536 % 256), .int .u8 ((s : Int) / 256 % 256), .int .u8 ((s : Int) % 256)])) (hB : Below base w w2) : Made w base g (.returned (.slice A (n + 4) c)) w2 := by
  rw [← sum_cells hs] at h
  exact made_more (m := 4) ha (be4_len s).symm hg h hB

set_option maxRecDepth 100000 in
set_option maxHeartbeats 1000000 in
theorem frame_any (A : Option Addr) (l : List UInt8) (c : Nat) (w : World) (he : Env w) (hp : Rd w w.heap.size A c (cells8 l)) (hl : l.length ≤ 1000000) :
    Calls Tryd.prog 28 #[.slice A l.length c] w (Made w w.heap.size (frame l)) := by
  obtain ⟨i0, hi, hz0, hz1, hz2⟩ := info_parts info_u8
  have hI := Lib.hid (And.intro hi (And.intro hz0 (And.intro hz1 hz2)))
  clear hi hz0 hz1 hz2
  have k2 := fun A1 c1 w1 h1 h2 => appendNumber_any w.heap.size A1 [] c1 (l.length : Int) w1 h1 h2 (by simp) (by omega) (by omega)
  rw [show ((l.length : Int)).toNat = l.length from rfl, List.nil_append] at k2
  have k4 := fun (W : World) (h1 : Env W) (h2 : Rd W W.heap.size A c (cells8 l)) => sumOf_any A l c W h1 h2 (by omega)
  have hs := crc_lt l
  have hg : put l.length ++ l ++ be4 (crc l) = frame l := rfl
  have hgl : (put l.length).length ≤ 9 := put_nine (n := l.length) (by omega)
  generalize frame l = goal at hg ⊢
  generalize crc l = s at *
  unfold sumV at k4
  generalize put l.length = g at *
  have k3 := Lib.hid k2
  have k4 := Lib.hid k4
  have hG := Lib.hid hg
  have hE := Lib.hid he
  have hP := Lib.hid hp
  clear hp k2 hg he
  go_enter Tryd.func28, Tryd.ntmps28
  go_wp2_with (first
    | (at_make; refine wpList_make_own _ rfl _ _ 22 rfl w.heap.size 5 i0 (.int .u8 0) 1 Tryd.underlying22 hI.out.1 hI.out.2.1 hI.out.2.2.1 .i64 .i64 _ (9 + l.length + 4) rfl rfl (by simp) (by rw [hI.out.2.2.2]; omega) (by unfold maxLen; omega) (Nat.le_refl _) ?_; intro w1 hown1 hgrow1; (have B1 := Lib.hid ((Below.refl w.heap.size w).grown hgrow1 (Nat.le_refl _) (fun k hk => by cases hk))); (have H1 := Lib.hid hown1); clear hown1 hgrow1)
    | (go_at_call 33; refine (k3.out _ _ w1 H1.out B1.out.size).mono ?_; rintro e w2 ⟨A2, c2, rfl, h2, b2⟩; (have H2 := Lib.hid h2); (have B2 := Lib.hid (B1.out.trans b2)); clear h2 b2)
    | (go_at_call 36; refine (k4.out w3 (hE.out.below B3.out) ((hP.out.below B3.out).more B3.out.size)).mono ?_; rintro e w4 ⟨rfl, b4⟩; (have B4 := Lib.hid (B3.out.trans (b4.mono B3.out.size))); (have H4 := Lib.hid (own_below H3.out b4)); clear b4)
    | (at_builtin; refine wpList_append_feed _ rfl (.tmp 13) (.tmp 14) 22 rfl w.heap.size 5 i0 (.int .u8 0) 1 Tryd.underlying22 hI.out.1 hI.out.2.1 hI.out.2.2.1 hI.out.2.2.2 rfl _ _ _ rfl H2.out _ l.length _ rfl (hP.out.below B2.out).feed8 (cells8_one _) (by unfold maxLen; omega) (by omega) B2.out.size ?_; intro A3 c3 w3 hown3 hgrow3; (have B3 := Lib.hid (below_grown B2.out H2.out hgrow3 (Nat.le_refl _) B2.out.size)); (have H3 := Lib.hid hown3); clear hown3 hgrow3)
    | (at_builtin; refine wpList_append_feed _ rfl (.tmp 18) (.tmp 19) 22 rfl w.heap.size 5 i0 (.int .u8 0) 1 Tryd.underlying22 hI.out.1 hI.out.2.1 hI.out.2.2.1 hI.out.2.2.2 rfl _ _ _ rfl (H4.out.alloc _) _ 4 _ rfl (feed_new rfl) sum_one (by unfold maxLen; omega) (by omega) (by have := B4.out.size; simp; omega) ?_; intro A5 c5 w5 hown5 hgrow5; (have B5 := Lib.hid (below_grown (B4.out.alloc B4.out.size _) (H4.out.alloc _) hgrow5 (Nat.le_refl _) (by have := B4.out.size; simp; omega))); (have H5 := Lib.hid hown5); clear hown5 hgrow5))
  go_ret
  exact made_sum (a := g ++ l) hs (by rw [List.length_append]) hG.out (by rw [cells8_append]; exact H5.out) B5.out

set_option maxRecDepth 100000 in
set_option maxHeartbeats 1000000 in
theorem refFrame_any (A : Option Addr) (l : List UInt8) (c : Nat) (w : World) (hp : Rd w w.heap.size A c (cells8 l)) (hl : l.length ≤ 1000000) :
    Calls Tryd.prog 29 #[.slice A l.length c] w (Made w w.heap.size (frame l)) := by
  obtain ⟨i0, hi, hz0, hz1, hz2⟩ := info_parts info_u8
  have hI := Lib.hid (And.intro hi (And.intro hz0 (And.intro hz1 hz2)))
  clear hi hz0 hz1 hz2
  have k2 := refPut_any none [] 0 (l.length : Int) w Rd.none_ (by simp) (by omega) (by omega)
  rw [show ((l.length : Int)).toNat = l.length from rfl, List.nil_append] at k2
  have k4 := refSum_any A l c w hp (by omega)
  have hs := crc_lt l
  have hg : put l.length ++ l ++ be4 (crc l) = frame l := rfl
  have hgl : (put l.length).length ≤ 9 := put_nine (n := l.length) (by omega)
  generalize frame l = goal at hg ⊢
  generalize crc l = s at *
  generalize put l.length = g at *
  have k3 := Lib.hid k2
  have k5 := Lib.hid k4
  have hG := Lib.hid hg
  have hP := Lib.hid hp
  clear hp k2 hg k4
  go_enter Tryd.func29, Tryd.ntmps29
  go_wp2_with (first
    | (go_at_call 27; refine k5.out.mono ?_; rintro e w1 ⟨rfl, rfl⟩)
    | (go_at_call 16; refine k3.out.mono ?_; rintro e w2 ⟨A2, c2, rfl, h2, b2⟩; (have H2 := Lib.hid h2); (have B2 := Lib.hid b2); clear h2 b2)
    | (at_builtin; refine wpList_append_feed _ rfl (.tmp 9) (.tmp 10) 22 rfl w.heap.size 5 i0 (.int .u8 0) 1 Tryd.underlying22 hI.out.1 hI.out.2.1 hI.out.2.2.1 hI.out.2.2.2 rfl _ _ _ rfl H2.out _ l.length _ rfl (hP.out.below B2.out).feed8 (cells8_one _) (by unfold maxLen; omega) (by omega) B2.out.size ?_; intro A3 c3 w3 hown3 hgrow3; (have B3 := Lib.hid (below_grown B2.out H2.out hgrow3 (Nat.le_refl _) B2.out.size)); (have H3 := Lib.hid hown3); clear hown3 hgrow3)
    | (at_builtin; refine wpList_append_feed _ rfl (.tmp 12) (.tmp 24) 22 rfl w.heap.size 5 i0 (.int .u8 0) 1 Tryd.underlying22 hI.out.1 hI.out.2.1 hI.out.2.2.1 hI.out.2.2.2 rfl _ _ _ rfl (H3.out.alloc _) _ 4 _ rfl (feed_new rfl) sum_one (by unfold maxLen; omega) (by omega) (by have := B3.out.size; simp; omega) ?_; intro A5 c5 w5 hown5 hgrow5; (have B5 := Lib.hid (below_grown (B3.out.alloc B3.out.size _) (H3.out.alloc _) hgrow5 (Nat.le_refl _) (by have := B3.out.size; simp; omega))); (have H5 := Lib.hid hown5); clear hown5 hgrow5))
  go_ret
  exact made_sum (a := g ++ l) hs (by rw [List.length_append]) hG.out (by rw [cells8_append]; exact H5.out) B5.out
end Go.Proofs.YtlgjddmghmgmmaaDoor
