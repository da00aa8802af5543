/- Unframe: the reference's. -/
import Derived.Test.YtlgjddmghmgmmaaDoorUnframe
import Derived.Deep.RegionWith
namespace Go.Proofs.YtlgjddmghmgmmaaDoor
open Go.RowKit

theorem uE_few {l : List UInt8} (h : gE l = 0) (h2 : gN l ≤ 65536) (h3 : l.length < gK l + gN l + 4) : uE l = 5 := by
  by_cases h4 : l.length < gK l + gN l
  · have h5 := bE_short h h2 h4
    rw [uE_bad (by omega), h5]
  · exact uE_short (bE_of h h2 (by omega)) h3
theorem made_nil {w w2 : World} {m c : Nat} {A : Option Addr} {b : List UInt8} (hm : m = b.length) (ho : w2.ownsRow w.heap.size 5 1 (.slice A (0 + m) c) (0 + m) ([] ++ cells8 b)) : w2.ownsRow w.heap.size 5 1 (.slice A b.length c) b.length (cells8 b) := by
  subst hm
  exact own_zero ho
theorem same_q {A B : Option Addr} {l m : List UInt8} {c d q r : Nat} {v : Bool} {w : World} (hl : Rd w w.heap.size A c (cells8 l)) (hm : Rd w w.heap.size B d (cells8 m)) (hq : q = l.length) (hr : r = m.length) (hv : eqB l m = v) :
    Calls Tryd.prog 14 #[.slice A q c, .slice B r d] w fun e w' => e = .returned (.bool v) ∧ w = w' := by
  subst hq hr hv
  exact same_any A B l m c d w hl hm

theorem refFrame_q {A : Option Addr} {l : List UInt8} {c q : Nat} {w : World} (hp : Rd w w.heap.size A c (cells8 l)) (hq : q = l.length) (hl : q ≤ 1000000) :
    Calls Tryd.prog 29 #[.slice A q c] w (Made w w.heap.size (frame l)) := by
  subst hq
  exact refFrame_any A l c w hp hl

set_option maxRecDepth 100000 in
set_option maxHeartbeats 2000000 in
theorem refUnframe_any (A : Option Addr) (l : List UInt8) (c : Nat) (w : World) (hp : Rd w w.heap.size A c (cells8 l)) (hll : l.length ≤ 1000000000) (hmax : c ≤ 9223372036854775807) :
    Calls Tryd.prog 31 #[.slice A l.length c] w (FramePost w l) := by
  obtain ⟨i0, hi, hz0, hz1, hz2⟩ := info_parts info_u8
  have hI := Lib.hid (And.intro hi (And.intro hz0 (And.intro hz1 hz2)))
  clear hi hz0 hz1 hz2
  have hlc := hp.1
  rw [cells8_len] at hlc
  have hk9 := (gK_le l).2
  have hn := gN_lt l
  have k1 := refGet_at _ rfl hp (by omega)
  by_cases he : gE l = 0
  · by_cases h2 : 65536 < gN l
    · have hB := Lib.hid (frame_bad (w := w) (w' := w) (l := l) (e := 4) (by rw [uE_bad (by rw [bE_long he h2]; omega), bE_long he h2]) (by omega) (Below.refl _ _))
      rw [he] at k1
      generalize gN l = n at *
      generalize gK l = k at *
      have k1 := Lib.hid k1
      clear he hp
      go_enter Tryd.func31, Tryd.ntmps31
      go_wp2_with (go_at_call 13; refine k1.out.mono ?_; rintro e w' ⟨rfl, rfl⟩)
      go_ret3
      exact hB.out
    · by_cases h3 : l.length < gK l + gN l + 4
      · have hB := Lib.hid (frame_bad (w := w) (w' := w) (l := l) (e := 5) (uE_few he (by omega) h3) (by omega) (Below.refl _ _))
        rw [he] at k1
        generalize gN l = n at *
        have hkl := (gK_le l).1
        generalize gK l = k at *
        have k1 := Lib.hid k1
        clear he hp
        go_enter Tryd.func31, Tryd.ntmps31
        go_wp2_with (go_at_call 13; refine k1.out.mono ?_; rintro e w' ⟨rfl, rfl⟩)
        go_ret3
        exact hB.out
      · have hb0 := bE_of he (lim := 65536) (by omega) (by omega)
        have hR := rd_mid hp (k := gK l) (n := gN l) (by omega)
        rw [if_neg (by omega)] at hR
        have hbl := body_len (l := l) (by omega)
        have hbo : (l.drop (gK l)).take (gN l) = bodyOf l := rfl
        rw [hbo] at hR
        have hss := sum_same he (by omega)
        have hOk := Lib.hid (fun (hs : sumAt l = be4 (crc (bodyOf l))) (w' : World) (A' : Option Addr) (c' : Nat) => unframe_end (w := w) (w' := w') (A := A') (c := c') (uE_ok hb0 (by omega) hs) rfl rfl)
        have hBad := Lib.hid (fun (hs : sumAt l ≠ be4 (crc (bodyOf l))) (w' : World) => frame_bad (w := w) (w' := w') (uE_sum hb0 (by omega) hs) (by omega))
        have hU := fun (W : World) (hW : Below w.heap.size w W) => rd_upto (hp.below hW) (gK l + gN l + 4)
        have hUl : (l.take (gK l + gN l + 4)).length = gK l + gN l + 4 := by rw [List.length_take]; omega
        rw [he] at k1
        have hle : gK l + gN l + 4 ≤ l.length := by omega
        obtain ⟨e, hee⟩ : ∃ e, gK l + gN l = e := ⟨_, rfl⟩
        rw [hee] at hle hUl hU hss hOk
        have hE1 : ((gK l : Nat) : Int) + ((gN l : Nat) : Int) = (e : Int) := by omega
        have hE2 : e - gK l = gN l := by omega
        have hE3 : gK l ≤ e := by omega
        have hE4 : e + 4 ≤ c := by omega
        have hE5 : e ≤ 1000000 := by omega
        have hn6 : gN l ≤ 65536 := by omega
        have hbl2 := Lib.hid hbl.symm
        by_cases hs : sumAt l = be4 (crc (bodyOf l))
        · have hv := eqB_true (hss.2 hs)
          have hOk2 := Lib.hid (hOk.out hs)
          have hfl := frame_len (bodyOf l)
          have hp9 := put_nine (n := (bodyOf l).length) (by omega)
          have kF := fun (W : World) (A2 : Option Addr) (c2 : Nat) (h : Rd W W.heap.size A2 c2 (cells8 (bodyOf l))) => refFrame_q (q := gN l) h hbl.symm (by omega)
          generalize l.take (e + 4) = t at *
          generalize frame (bodyOf l) = f at *
          generalize bodyOf l = b at *
          generalize gN l = n at *
          generalize gK l = k at *
          have K1 := Lib.hid k1
          have KF := Lib.hid kF
          have HR := Lib.hid hR
          have HU := Lib.hid hU
          have HV := Lib.hid hv
          have HT := Lib.hid hUl.symm
          clear k1 kF hR hU hv hUl he hp hb0 hbl hbo hss hs hOk hBad hee hfl hp9 h2 h3
          go_enter Tryd.func31, Tryd.ntmps31
          go_wp2_with (first
            | (go_at_call 13; refine K1.out.mono ?_; rintro e w' ⟨rfl, rfl⟩)
            | (at_builtin; refine wpList_append_feed _ rfl _ _ 22 rfl w.heap.size 5 i0 (.int .u8 0) 1 Tryd.underlying22 hI.out.1 hI.out.2.1 hI.out.2.2.1 hI.out.2.2.2 rfl _ 0 [] rfl (World.ownsRow_nil _ _ _ _) _ n _ rfl (by have h := HR.out.feed8; rw [← hbl2.out] at h; exact h) (cells8_one _) (by unfold maxLen; omega) (by omega) (Nat.le_refl _) ?_; intro A5 c5 w5 hown5 hgrow5; (have B5 := Lib.hid (below_grown (Below.refl w.heap.size w) (World.ownsRow_nil w w.heap.size 5 1) hgrow5 (Nat.le_refl _) (Nat.le_refl _))); (have H5 := Lib.hid (made_nil hbl2.out hown5)); clear hown5 hgrow5))
          have hq0 : IntKind.i64.wrap (e : Int) = (e : Int) := IntWalk.i64_in _ (by omega)
          have hq1 : IntKind.i64.wrap ((e : Int) + 4) = (e : Int) + 4 := IntWalk.i64_in _ (by omega)
          have hq2 : (0 : Int) ≤ (e : Int) + 4 := by omega
          have hq3 : ((e : Int) + 4).toNat = e + 4 := by omega
          have hq5 : (e : Int) + 4 ≤ (c : Int) := by omega
          have hq6 : ¬ c = 0 := by omega
          go_region_with (first
            | (go_at_call 29; refine (KF.out _ A5 c5 ?_).mono ?_; (exact Rd.of_own H5.out); rintro e w6 ⟨A6, c6, rfl, h6, b6⟩; (have H6 := Lib.hid h6); (have B6 : Hid (Below w.heap.size w w6) := Lib.hid (B5.out.drew.trans (b6.mono B5.out.size))); (have H56 := Lib.hid (own_below H5.out.drew b6)); clear h6 b6)
            | (go_at_call 14; refine (same_q (Rd.of_own H6.out) ((HU.out _ B6.out).more B6.out.size) rfl HT.out HV.out).mono ?_; rintro e w7 ⟨rfl, rfl⟩))
          all_goals
            clear hq0 hq1 hq2 hq3 hq5 hq6
            go_wp2
            go_ret3
            have h := hOk2.out _ A5 c5 H56.out B6.out
            rw [← hbl2.out] at h
            exact h
        · have hv := eqB_false (fun h => hs (hss.1 h))
          have hOk2 := Lib.hid (hBad.out hs)
          have hfl := frame_len (bodyOf l)
          have hp9 := put_nine (n := (bodyOf l).length) (by omega)
          have kF := fun (W : World) (A2 : Option Addr) (c2 : Nat) (h : Rd W W.heap.size A2 c2 (cells8 (bodyOf l))) => refFrame_q (q := gN l) h hbl.symm (by omega)
          generalize l.take (e + 4) = t at *
          generalize frame (bodyOf l) = f at *
          generalize bodyOf l = b at *
          generalize gN l = n at *
          generalize gK l = k at *
          have K1 := Lib.hid k1
          have KF := Lib.hid kF
          have HR := Lib.hid hR
          have HU := Lib.hid hU
          have HV := Lib.hid hv
          have HT := Lib.hid hUl.symm
          clear k1 kF hR hU hv hUl he hp hb0 hbl hbo hss hs hOk hBad hee hfl hp9 h2 h3
          go_enter Tryd.func31, Tryd.ntmps31
          go_wp2_with (first
            | (go_at_call 13; refine K1.out.mono ?_; rintro e w' ⟨rfl, rfl⟩)
            | (at_builtin; refine wpList_append_feed _ rfl _ _ 22 rfl w.heap.size 5 i0 (.int .u8 0) 1 Tryd.underlying22 hI.out.1 hI.out.2.1 hI.out.2.2.1 hI.out.2.2.2 rfl _ 0 [] rfl (World.ownsRow_nil _ _ _ _) _ n _ rfl (by have h := HR.out.feed8; rw [← hbl2.out] at h; exact h) (cells8_one _) (by unfold maxLen; omega) (by omega) (Nat.le_refl _) ?_; intro A5 c5 w5 hown5 hgrow5; (have B5 := Lib.hid (below_grown (Below.refl w.heap.size w) (World.ownsRow_nil w w.heap.size 5 1) hgrow5 (Nat.le_refl _) (Nat.le_refl _))); (have H5 := Lib.hid (made_nil hbl2.out hown5)); clear hown5 hgrow5))
          have hq0 : IntKind.i64.wrap (e : Int) = (e : Int) := IntWalk.i64_in _ (by omega)
          have hq1 : IntKind.i64.wrap ((e : Int) + 4) = (e : Int) + 4 := IntWalk.i64_in _ (by omega)
          have hq2 : (0 : Int) ≤ (e : Int) + 4 := by omega
          have hq3 : ((e : Int) + 4).toNat = e + 4 := by omega
          have hq5 : (e : Int) + 4 ≤ (c : Int) := by omega
          have hq6 : ¬ c = 0 := by omega
          go_region_with (first
            | (go_at_call 29; refine (KF.out _ A5 c5 ?_).mono ?_; (exact Rd.of_own H5.out); rintro e w6 ⟨A6, c6, rfl, h6, b6⟩; (have H6 := Lib.hid h6); (have B6 : Hid (Below w.heap.size w w6) := Lib.hid (B5.out.drew.trans (b6.mono B5.out.size))); (have H56 := Lib.hid (own_below H5.out.drew b6)); clear h6 b6)
            | (go_at_call 14; refine (same_q (Rd.of_own H6.out) ((HU.out _ B6.out).more B6.out.size) rfl HT.out HV.out).mono ?_; rintro e w7 ⟨rfl, rfl⟩))
          all_goals
            clear hq0 hq1 hq2 hq3 hq5 hq6
            go_wp2
            go_ret3
            exact hOk2.out _ B6.out
  · have hB := Lib.hid (frame_bad (w := w) (w' := w) (l := l) (by rw [uE_bad (by rw [bE_bad he]; exact he), bE_bad he]) he (Below.refl _ _))
    rw [gN_bad he, gK_bad he] at k1
    generalize gE l = e at *
    have k1 := Lib.hid k1
    clear hp
    go_enter Tryd.func31, Tryd.ntmps31
    go_wp2_with (go_at_call 13; refine k1.out.mono ?_; rintro e w' ⟨rfl, rfl⟩)
    go_ret3
    exact hB.out
end Go.Proofs.YtlgjddmghmgmmaaDoor
