/- The package's bestFrom and Best. -/
import Derived.Test.YtjbfkbdjopbjjaaFrom
import Derived.Test.YtjbfkbdjopbjjaaNeedG
import Derived.Test.YtjbfkbdjopbjjaaBestR
import Derived.BigRegion
import Derived.BigQuiet
import Derived.Deep.RegionHeld3
namespace Go.Proofs.Ytjbfkbdjopbjjaa
open Go.RowKit

theorem below_undrew {a w : World} (h : Below a.drew.heap.size a.drew w) : Below a.heap.size a w := ⟨h.os, h.tape, h.output, h.size, h.block⟩
theorem own_cons {w : World} {base c : Nat} {A : Option Addr} {y : Int} {r : List Int} (h : w.ownsRow base 3 1 (.slice A (1 + r.length) c) (1 + r.length) (cellsI [y] ++ cellsI r)) : OwnI w base A c (y :: r) := by
  unfold OwnI
  rw [List.length_cons, Nat.add_comm r.length 1]
  exact h
def FromPost (l : List It) (f : Nat) (a b : Int) (W : World) (en : Ending) (w' : World) : Prop :=
  ∃ (A : Option Addr) (c : Nat) (x : List Int) (m : Int), en = .returned (.tuple #[.slice A x.length c, .int .i64 m]) ∧ OwnI w' W.heap.size A c x ∧ Mid l f l.length a b x m ∧ Below W.heap.size W w'
/-- The call over items from index f on. -/
def FromC (A : Option Addr) (l : List It) (d f : Nat) : Prop :=
  ∀ (a b : Int) (w : World), Its w w.heap.size A l → -9223372036854775808 ≤ a ∧ a ≤ 9223372036854775807 → -9223372036854775808 ≤ b ∧ b ≤ 9223372036854775807 →
    Calls Try.prog 25 #[.slice A l.length d, .int .i64 f, .int .i64 a, .int .i64 b] w (FromPost l f a b w)
set_option maxRecDepth 100000 in
set_option maxHeartbeats 8000000 in
theorem from_step (A : Option Addr) (l : List It) (d f : Nat) (_ : l.length ≤ d) (hr : Rt l) (hf : f ≤ l.length) (IH : ∀ k, f < k → k ≤ l.length → FromC A l d k) : FromC A l d f := by
  intro a b w hp ha hb
  have hl12 := hr.1
  have hP := Lib.hid hp
  have hYes : Hid (∀ (B : Option Addr) (c : Nat) (x : List Int) (m : Int) (w' : World), Mid l f l.length a b x m → OwnI w' w.heap.size B c x → Below w.heap.size w w' → FromPost l f a b w (.returned (.tuple #[.slice B x.length c, .int .i64 m])) w') := Lib.hid (fun B c x m w' h1 h2 h3 => ⟨B, c, x, m, rfl, h2, h1, h3⟩)
  have hSt := Lib.hid (mid_start l f a b)
  have hSk := Lib.hid (fun (i : Nat) (x : List Int) (m : Int) (h : Mid l f i a b x m) (hs : a < iA l i ∨ b < iB l i) => h.skip hr hs)
  have hBd := Lib.hid (fun (i f' : Nat) (a' b' : Int) (x : List Int) (m : Int) (h : Mid l f' i a' b' x m) => h.bd hr)
  have hIt := Lib.hid (fun (k : Nat) => rt_at hr k)
  have hIH := Lib.hid IH
  generalize FromPost l f a b w = goal at *
  clear hp hr IH
  go_enter Try.func25, Try.ntmps25
  go_wp2
  go_loopw [10, 11, 12] (fun v10 v11 v12 wr => ∃ (k q c10 : Nat) (A10 : Option Addr) (best : List Int) (most : Int), f ≤ k ∧ k ≤ l.length ∧ v12 = .int .i64 k ∧ v11 = .int .i64 most ∧ v10 = .slice A10 q c10 ∧ Hid (q = best.length) ∧ Hid (Mid l f k a b best most) ∧ Hid (OwnI wr w.heap.size A10 c10 best) ∧ Hid (Below w.heap.size w wr)) (fun _ _ v12 _ => l.length - (intOf v12).toNat)
  case atStart => exact ⟨f, 0, 0, none, [], 0, by omega, hf, rfl, rfl, rfl, Lib.hid rfl, hSt, Lib.hid (ownI_nil _ _), Lib.hid (Below.refl _ _)⟩
  case round =>
    clear hSt
    obtain ⟨k, q, c10, A10, best, most, hfk, hkl, rfl, rfl, rfl, hq, hM, hO, hB⟩ := hrel
    obtain rfl := hq.out
    by_cases hlt : k < l.length
    · obtain ⟨ad, rfl, hab, x0⟩ := (hP.out.below hB.out).get hlt
      obtain ⟨i1, i2, i3⟩ := hIt.out k
      have hb1 := hBd.out _ _ _ _ _ _ hM.out
      by_cases hs : a < iA l k ∨ b < iB l k
      · have hR := Lib.hid (hSk.out k best most hM.out hs)
        obtain ⟨x1, x2, x3⟩ := x0
        clear hSk hBd hIt hIH hYes hP hM
        generalize iA l k = y1 at *
        generalize iB l k = y2 at *
        generalize iV l k = y3 at *
        have hc : a < y1 ∨ (y1 ≤ a ∧ b < y2) := by omega
        clear hs
        by_cases hk0 : k = 0
        all_goals
          first
            | (subst hk0; have x1 : wr.cell? ad = some (.int .i64 y1) := x1; have x2 : wr.cell? { block := ad.block, off := ad.off + 1 } = some (.int .i64 y2) := x2)
            | skip
          rcases hc with hc | ⟨hc, hc2⟩
          all_goals
            go_wp2
            first
              | exact ⟨⟨1, _, c10, A10, best, most, by omega, by omega, rfl, rfl, rfl, Lib.hid rfl, hR, hO, hB⟩, by simp [intOf]; omega⟩
              | exact ⟨⟨k + 1, _, c10, A10, best, most, by omega, by omega, by go_num, rfl, rfl, Lib.hid rfl, hR, hO, hB⟩, by simp [intOf]; omega⟩
      · have hR2 := Lib.hid (fun (r : List Int) (mr : Int) (h2 : Mid l (k + 1) l.length (a - iA l k) (b - iB l k) r mr) (h : mr + iV l k ≤ most) => hM.out.keep h2 h)
        have hR3 := Lib.hid (fun (r : List Int) (mr : Int) (h2 : Mid l (k + 1) l.length (a - iA l k) (b - iB l k) r mr) (h : most < mr + iV l k) => hM.out.take h2 (by omega) (by omega) hfk hlt h)
        have hAt := Lib.hid (fun (W : World) (h : Below w.heap.size w W) => (show At3 W (ad.add (k * 3)) (.int .i64 (iA l k)) (.int .i64 (iB l k)) (.int .i64 (iV l k)) by
          obtain ⟨ad', e, _, h'⟩ := (hP.out.below h).get hlt
          injection e with e
          subst e
          exact h'))
        obtain ⟨z1, hz1⟩ : ∃ z, a - iA l k = z := ⟨_, rfl⟩
        obtain ⟨z2, hz2⟩ : ∃ z, b - iB l k = z := ⟨_, rfl⟩
        obtain ⟨k1, hk1⟩ : ∃ z : Int, ((k + 1 : Nat) : Int) = z := ⟨_, rfl⟩
        have hw1 : IntKind.i64.wrap (a - iA l k) = z1 := by rw [← hz1]; exact IntWalk.i64_in _ (by omega)
        have hw2 : IntKind.i64.wrap (b - iB l k) = z2 := by rw [← hz2]; exact IntWalk.i64_in _ (by omega)
        have hw3 : IntKind.i64.wrap ((k : Int) + 1) = k1 := by rw [← hk1]; exact IntWalk.i64_in _ (by omega)
        have KC := Lib.hid (fun (W : World) (h : Below w.heap.size w W) => (show Calls Try.prog 25 #[.slice (some ad) l.length d, .int .i64 k1, .int .i64 z1, .int .i64 z2] W (FromPost l (k + 1) (a - iA l k) (b - iB l k) W) by
          rw [← hk1, ← hz1, ← hz2]
          exact hIH.out (k + 1) (by omega) (by omega) (a - iA l k) (b - iB l k) W (hP.out.up h) (by omega) (by omega)))
        clear hz1 hz2 hk1
        have hBr := Lib.hid (fun (r : List Int) (mr : Int) (h : Mid l (k + 1) l.length (a - iA l k) (b - iB l k) r mr) => hBd.out _ _ _ _ _ _ h)
        obtain ⟨x1, x2, x3⟩ := x0
        clear hSk hBd hIt hIH hYes hP hM
        generalize iA l k = y1 at *
        generalize iB l k = y2 at *
        generalize iV l k = y3 at *
        have hs1 : y1 ≤ a := by omega
        have hs2 : y2 ≤ b := by omega
        have hp0 : (0 : Int) ≤ (k : Int) := by omega
        have hp1 : (k : Int) < (l.length : Int) := by omega
        clear hs
        by_cases hk0 : k = 0
        · subst hk0
          have x1 : wr.cell? ad = some (.int .i64 y1) := x1
          have x2 : wr.cell? { block := ad.block, off := ad.off + 1 } = some (.int .i64 y2) := x2
          have hw3 : IntKind.i64.wrap 1 = k1 := hw3
          go_wp2
          go_region_held3 (fun W => W.cell? ad = some (.int .i64 y1) ∧ W.cell? { block := ad.block, off := ad.off + 1 } = some (.int .i64 y2)) (first
            | exact ⟨x1, x2⟩
            | exact ⟨(hAt.out _ B3.out).1, (hAt.out _ B3.out).2.1⟩) (first
            | (go_at_call 25; (with_reducible refine (KC.out _ ?_).mono ?_); (exact hB.out.drew); rintro e w3 ⟨A3, c3, r, mr, rfl, h3, m3, b3⟩; (have B3 := Lib.hid (hB.out.trans ((below_undrew b3).mono hB.out.size))); (have O3 := Lib.hid (hO.out.up (below_undrew b3))); (have R3 := Lib.hid h3); (have M3 := Lib.hid m3); clear b3 h3 m3)
            | fail)
          have v3 : w3.cell? { block := ad.block, off := ad.off + 2 } = some (.int .i64 y3) := (hAt.out _ B3.out).2.2
          clear x1 x2 hw1 hw2 hw3
          obtain ⟨m1, m2⟩ := hBr.out r mr M3.out
          by_cases hcm : mr + y3 ≤ most
          · have hR := Lib.hid (hR2.out r mr M3.out hcm)
            clear hR2 hR3 hAt KC hBr M3 R3
            have hcm' : ¬ most < mr + y3 := by omega
            go_wp2
            exact ⟨⟨1, _, c10, A10, best, most, by omega, by omega, rfl, rfl, rfl, Lib.hid rfl, hR, O3, B3⟩, by simp [intOf]; omega⟩
          · have hcm' : most < mr + y3 := by omega
            have hR := Lib.hid (hR3.out r mr M3.out hcm')
            have hF := Lib.hid R3.out.rd.feedI
            have hW : Hid (w.heap.size ≤ w3.heap.size) := Lib.hid B3.out.size
            obtain ⟨i0, hi, hz0, hz1, hz2⟩ := info_parts info_i64
            have hI := Lib.hid (And.intro hi (And.intro hz0 (And.intro hz1 hz2)))
            clear hi hz0 hz1 hz2 hR2 hR3 hAt KC hBr M3
            have hO1 : Hid (OwnI (w3.alloc (.cells #[.int .i64 ((0 : Nat) : Int)] 3)) w.heap.size (some ⟨w3.heap.size, 0, none⟩) 1 [((0 : Nat) : Int)]) := Lib.hid (World.ownsRow_lit w3 #[.int .i64 ((0 : Nat) : Int)] 1 hW.out (by unfold maxLen; omega) rfl)
            have hF1 : Hid (Feed 1 (w3.alloc (.cells #[.int .i64 ((0 : Nat) : Int)] 3)) (.slice A3 r.length c3) r.length (cellsI r)) := Lib.hid ((R3.out.rd.below ((Below.refl _ _).alloc (Nat.le_refl _) _)).feedI)
            have hB1 := Lib.hid (B3.out.alloc B3.out.size (.cells #[.int .i64 ((0 : Nat) : Int)] 3))
            clear R3 hF
            go_wp2_with (at_builtin; refine wpList_append_feed _ rfl (.tmp 70) (.tmp 71) 27 rfl w.heap.size 3 i0 (.int .i64 0) 1 8 Try.underlying27 hI.out.1 hI.out.2.1 hI.out.2.2.1 hI.out.2.2.2 rfl (by decide) _ 1 (cellsI [((0 : Nat) : Int)]) rfl hO1.out _ r.length (cellsI r) rfl hF1.out (cellsI_one _) (by unfold maxLen; omega) (by omega) (by have := hB1.out.size; exact this) ?_; intro A5 c5 w5 h5 g5; (have O5 := Lib.hid h5); (have B5 := Lib.hid (below_grown hB1.out hO1.out g5 (Nat.le_refl _) hB1.out.size)); clear h5 g5)
            exact ⟨⟨1, _, c5, A5, ((0 : Nat) : Int) :: r, mr + y3, by omega, by omega, rfl, rfl, rfl, Lib.hid (by rw [List.length_cons]; omega), hR, Lib.hid (own_cons O5.out), B5⟩, by simp [intOf]; omega⟩
        · skip
          go_wp2
          go_region_held3 (fun W => W.cell? (ad.add (k * 3)) = some (.int .i64 y1) ∧ W.cell? { block := (ad.add (k * 3)).block, off := (ad.add (k * 3)).off + 1 } = some (.int .i64 y2)) (first
            | exact ⟨x1, x2⟩
            | exact ⟨(hAt.out _ B3.out).1, (hAt.out _ B3.out).2.1⟩) (first
            | (go_at_call 25; (with_reducible refine (KC.out _ ?_).mono ?_); (exact hB.out.drew); rintro e w3 ⟨A3, c3, r, mr, rfl, h3, m3, b3⟩; (have B3 := Lib.hid (hB.out.trans ((below_undrew b3).mono hB.out.size))); (have O3 := Lib.hid (hO.out.up (below_undrew b3))); (have R3 := Lib.hid h3); (have M3 := Lib.hid m3); clear b3 h3 m3)
            | fail)
          have v3 : w3.cell? { block := (ad.add (k * 3)).block, off := (ad.add (k * 3)).off + 2 } = some (.int .i64 y3) := (hAt.out _ B3.out).2.2
          clear x1 x2 hw1 hw2 hw3
          obtain ⟨m1, m2⟩ := hBr.out r mr M3.out
          by_cases hcm : mr + y3 ≤ most
          · have hR := Lib.hid (hR2.out r mr M3.out hcm)
            clear hR2 hR3 hAt KC hBr M3 R3
            have hcm' : ¬ most < mr + y3 := by omega
            go_wp2
            exact ⟨⟨k + 1, _, c10, A10, best, most, by omega, by omega, by go_num, rfl, rfl, Lib.hid rfl, hR, O3, B3⟩, by simp [intOf]; omega⟩
          · have hcm' : most < mr + y3 := by omega
            have hR := Lib.hid (hR3.out r mr M3.out hcm')
            have hF := Lib.hid R3.out.rd.feedI
            have hW : Hid (w.heap.size ≤ w3.heap.size) := Lib.hid B3.out.size
            obtain ⟨i0, hi, hz0, hz1, hz2⟩ := info_parts info_i64
            have hI := Lib.hid (And.intro hi (And.intro hz0 (And.intro hz1 hz2)))
            clear hi hz0 hz1 hz2 hR2 hR3 hAt KC hBr M3
            have hO1 : Hid (OwnI (w3.alloc (.cells #[.int .i64 (k : Int)] 3)) w.heap.size (some ⟨w3.heap.size, 0, none⟩) 1 [(k : Int)]) := Lib.hid (World.ownsRow_lit w3 #[.int .i64 (k : Int)] 1 hW.out (by unfold maxLen; omega) rfl)
            have hF1 : Hid (Feed 1 (w3.alloc (.cells #[.int .i64 (k : Int)] 3)) (.slice A3 r.length c3) r.length (cellsI r)) := Lib.hid ((R3.out.rd.below ((Below.refl _ _).alloc (Nat.le_refl _) _)).feedI)
            have hB1 := Lib.hid (B3.out.alloc B3.out.size (.cells #[.int .i64 (k : Int)] 3))
            clear R3 hF
            go_wp2_with (at_builtin; refine wpList_append_feed _ rfl (.tmp 70) (.tmp 71) 27 rfl w.heap.size 3 i0 (.int .i64 0) 1 8 Try.underlying27 hI.out.1 hI.out.2.1 hI.out.2.2.1 hI.out.2.2.2 rfl (by decide) _ 1 (cellsI [(k : Int)]) rfl hO1.out _ r.length (cellsI r) rfl hF1.out (cellsI_one _) (by unfold maxLen; omega) (by omega) (by have := hB1.out.size; exact this) ?_; intro A5 c5 w5 h5 g5; (have O5 := Lib.hid h5); (have B5 := Lib.hid (below_grown hB1.out hO1.out g5 (Nat.le_refl _) hB1.out.size)); clear h5 g5)
            exact ⟨⟨k + 1, _, c5, A5, (k : Int) :: r, mr + y3, by omega, by omega, by go_num, rfl, rfl, Lib.hid (by rw [List.length_cons]; omega), hR, Lib.hid (own_cons O5.out), B5⟩, by simp [intOf]; omega⟩
    · obtain rfl : k = l.length := by omega
      have hR := Lib.hid (hYes.out A10 c10 best most wr hM.out hO.out hB.out)
      clear hSk hBd hIt hIH hYes hP hM hO hB
      go_wp2
      exact hR.out
theorem from_any (A : Option Addr) (l : List It) (d : Nat) (hd : l.length ≤ d) (hr : Rt l) : ∀ (n f : Nat), l.length - f ≤ n → f ≤ l.length → FromC A l d f
  | 0, f, _, hf => from_step A l d f hd hr hf (fun k h1 h2 => by omega)
  | n + 1, f, hn, hf => from_step A l d f hd hr hf (fun k _ h2 => from_any A l d hd hr n k (by omega) h2)
set_option maxRecDepth 100000 in
set_option maxHeartbeats 1000000 in
theorem gBest_any (A : Option Addr) (l : List It) (d : Nat) (a b : Int) (w : World) (hp : Its w w.heap.size A l) (hd : l.length ≤ d) (hmax : l.length ≤ 9223372036854775807)
    (ha : -9223372036854775808 ≤ a ∧ a ≤ 9223372036854775807) (hb : -9223372036854775808 ≤ b ∧ b ≤ 9223372036854775807) :
    Calls Try.prog 18 #[.slice A l.length d, .int .i64 a, .int .i64 b] w (BestPost l a b w) := by
  have kR := gRight_any A l d w hp hd hmax
  by_cases h0 : errN l = 0
  · have hrt := errN_iff.1 h0
    have hYes : Hid (∀ (B : Option Addr) (c : Nat) (x : List Int) (m : Int) (w' : World), Mid l 0 l.length a b x m → OwnI w' w.heap.size B c x → Below w.heap.size w w' → BestPost l a b w (.returned (.tuple #[.slice B x.length c, .int .i64 0])) w') := Lib.hid (fun B c x m w' h1 h2 h3 => ⟨B, c, x, by rw [h0], h2, fun h => absurd h0 h, fun _ => h1.bst hrt, h3⟩)
    have kF := Lib.hid (fun (W : World) (h : Below w.heap.size w W) => (show Calls Try.prog 25 #[.slice A l.length d, .int .i64 0, .int .i64 a, .int .i64 b] W (FromPost l 0 a b W) from from_any A l d hd hrt l.length 0 (by omega) (by omega) a b W (hp.up h) ha hb))
    rw [h0] at kR
    have KR := Lib.hid kR
    clear kR hp h0 hrt
    generalize BestPost l a b w = goal at *
    go_enter Try.func18, Try.ntmps18
    go_wp2_with (first
      | (go_at_call 12; (with_reducible refine (KR.out).mono ?_); rintro en w1 ⟨rfl, b1⟩; (have B1 := Lib.hid b1); clear b1)
      | (go_at_call 25; (with_reducible refine (kF.out w1 B1.out).mono ?_); rintro en w2 ⟨A2, c2, x, m, rfl, h2, m2, b2⟩; (have hF := Lib.hid (hYes.out A2 c2 x m w2 m2 (h2.less B1.out.size) (B1.out.trans (b2.mono B1.out.size)))); clear h2 m2 b2)
      | fail)
    exact hF.out
  · have hne : (errN l != 0) = true := bne_iff_ne.2 h0
    have hR : Hid (∀ w' : World, Below w.heap.size w w' → BestPost l a b w (.returned (.tuple #[.slice none 0 0, .int .i64 (errN l)])) w') := Lib.hid (fun w' h => ⟨none, 0, [], rfl, ownI_nil _ _, fun _ => rfl, fun h => absurd h h0, h⟩)
    generalize BestPost l a b w = goal at *
    generalize errN l = E at *
    have KR := Lib.hid kR
    clear kR hp h0
    go_enter Try.func18, Try.ntmps18
    go_wp2_with (go_at_call 12; (with_reducible refine (KR.out).mono ?_); rintro en w1 ⟨rfl, b1⟩; (have B1 := Lib.hid b1); clear b1)
    exact hR.out _ B1.out
end Go.Proofs.Ytjbfkbdjopbjjaa
