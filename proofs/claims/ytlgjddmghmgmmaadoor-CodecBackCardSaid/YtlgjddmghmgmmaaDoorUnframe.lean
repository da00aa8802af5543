/- Unframe: the program's. -/
import Derived.Test.YtlgjddmghmgmmaaDoorGetText
import Derived.Test.YtlgjddmghmgmmaaDoorSame
import Derived.Test.YtlgjddmghmgmmaaDoorFrame
namespace Go.Proofs.YtlgjddmghmgmmaaDoor
open Go.RowKit

/-- What Unframe hands back. -/
def FramePost (w : World) (l : List UInt8) (e : Ending) (w' : World) : Prop :=
  ∃ A c, e = .returned (.tuple #[.slice A (uB l).length c, .int .i64 (uK l : Nat), .int .i64 (uE l : Nat)]) ∧ w'.ownsRow w.heap.size 5 1 (.slice A (uB l).length c) (uB l).length (cells8 (uB l)) ∧ Below w.heap.size w w'
theorem frame_bad {w w' : World} {e : Nat} {l : List UInt8} (h : uE l = e) (he : ¬ e = 0) (hb : Below w.heap.size w w') : FramePost w l (.returned (.tuple #[.slice none 0 0, .int .i64 0, .int .i64 e])) w' := by
  obtain ⟨h1, h2⟩ := uB_bad (l := l) (by omega)
  refine ⟨none, 0, ?_, ?_, hb⟩
  · rw [h1, h2, h]
    rfl
  · rw [h1]
    exact World.ownsRow_nil _ _ _ _
theorem unframe_end {w w' : World} {l b : List UInt8} {A : Option Addr} {c k : Nat} (h : uE l = 0) (hb : bodyOf l = b) (hk : gK l + gN l = k) (ho : w'.ownsRow w.heap.size 5 1 (.slice A b.length c) b.length (cells8 b)) (hB : Below w.heap.size w w') :
    FramePost w l (.returned (.tuple #[.slice A b.length c, .int .i64 ((k : Int) + 4), .int .i64 0])) w' := by
  obtain ⟨h1, h2⟩ := uB_ok h
  rw [hb] at h1
  rw [hk] at h2
  exact ⟨A, c, by rw [h1, h2, h]; rfl, by rw [h1]; exact ho, hB⟩

theorem rd_box {w : World} {T : TypeId} {cs : Array Value} {l : List UInt8} {n : Nat} (h : cells8 l = cs.toList) (hn : cs.size = n) : Rd (w.alloc (.cells cs T)) (w.alloc (.cells cs T)).heap.size (some ⟨w.heap.size, 0, none⟩) n (cells8 l) := by
  refine ⟨by rw [h, Array.length_toList, hn]; exact Nat.le_refl _, (fun h => by cases h), fun _ => ⟨_, rfl, by simp, fun i u hu => ?_⟩⟩
  rw [h] at hu
  exact World.news_of_block (heap_alloc_new w _) i u hu
theorem equal_q {A B : Option Addr} {l m : List UInt8} {c d q r n : Nat} {v : Bool} {w : World} (hl : Rd w w.heap.size A c (cells8 l)) (hm : Rd w w.heap.size B d (cells8 m)) (hq : q = l.length) (hr : r = m.length) (hv : eqB l m = v) :
    Calls Tryd.prog 37 #[.slice A q c, .slice B r d] (w.drewN n) fun e w'' => e = .returned (.bool v) ∧ ∃ k, w'' = w.drewN k := by
  subst hq hr hv
  exact (equal_any A B l m c d (w.drewN n) hl hm).mono fun _ _ ⟨h, e⟩ => ⟨h, n, e.symm⟩

set_option maxRecDepth 100000 in
set_option maxHeartbeats 2000000 in
theorem unframe_any (A : Option Addr) (l : List UInt8) (c : Nat) (w : World) (he : Env w) (hp : Rd w w.heap.size A c (cells8 l)) (hll : l.length ≤ 1000000000) (hmax : c ≤ 9223372036854775807) :
    Calls Tryd.prog 30 #[.slice A l.length c] w (FramePost w l) := by
  have hlc := hp.1
  rw [cells8_len] at hlc
  have k1 := getBytes_any A l c 65536 w hp hll (by omega) (by omega)
  unfold BytesPost at k1
  by_cases h0 : bE 65536 l = 0
  · obtain ⟨g1, g2, g3⟩ := bE_zero h0
    obtain ⟨q1, q2⟩ := bB_ok h0
    have hbl := body_len g3
    rw [h0, q1, q2] at k1
    by_cases h4 : gK l + gN l + 4 ≤ l.length
    · by_cases hs : sumAt l = be4 (crc (bodyOf l))
      · have hOk := Lib.hid (fun (w' : World) (A' : Option Addr) (c' : Nat) => unframe_end (w := w) (w' := w') (A := A') (c := c') (uE_ok h0 h4 hs) rfl rfl)
        have hRd := fun (W : World) (hW : Below w.heap.size w W) => (rd_mid (hp.below hW) (k := gK l + gN l) (n := 4) h4)
        have hRs : (l.drop (gK l + gN l)).take 4 = sumAt l := rfl
        rw [hRs] at hRd
        have hsl : (sumAt l).length = 4 := by unfold sumAt; rw [List.length_take, List.length_drop]; omega
        generalize gK l + gN l = k at *
        have hb6 : (bodyOf l).length ≤ 65536 := by omega
        clear hRs
        generalize sumAt l = m at *
        generalize bodyOf l = b at *
        have k2 := fun (A2 : Option Addr) (c2 : Nat) (h : Rd w w.heap.size A2 c2 (cells8 b)) => sumOf_any A2 b c2 w he h (by omega)
        have hcs := crc_lt b
        have hV := sum_cells hcs
        have k4 := fun (W : World) (A2 : Option Addr) (c2 : Nat) (h : Rd W W.heap.size A2 c2 (cells8 b)) => copied_any A2 b c2 0 W h (by omega) (by omega) (by omega)
        generalize crc b = s at *
        have hq1 : IntKind.i64.wrap ((k : Int) + 4) = (k : Int) + 4 := IntWalk.i64_in _ (by omega)
        have hq2 : (0 : Int) ≤ (k : Int) + 4 := by omega
        have hq3 : ((k : Int) + 4).toNat = k + 4 := by omega
        have hck : ¬ c = k := by omega
        have hq4 : (k : Int) ≤ (k : Int) + 4 := by omega
        have hq5 : (k : Int) + 4 ≤ (c : Int) := by omega
        have HR := Lib.hid (fun (W : World) (hW : Below w.heap.size w W) => by have := hRd W hW; rw [if_neg hck] at this; exact this)
        unfold sumV at k2
        have K1 := Lib.hid k1
        have K2 := Lib.hid k2
        have K4 := Lib.hid k4
        have HV := Lib.hid hV
        have HS := Lib.hid hs
        have HL := Lib.hid hsl
        clear hp hs h0 q1 q2 g1 g2 g3 k1 k2 k4 hRd hV hbl he hsl
        go_enter Tryd.func30, Tryd.ntmps30
        go_wp2_with (first
          | (go_at_call 35; refine K1.out.mono ?_; rintro e w1 ⟨A1, c1, rfl, hr1, hc1, rfl⟩; (have R1 := Lib.hid hr1); clear hr1)
          | (go_at_call 36; refine (K2.out A1 c1 R1.out).mono ?_; rintro e w2 ⟨rfl, b2⟩; (have B2 := Lib.hid b2); clear b2)
          | fail)
        have B3 := Lib.hid (B2.out.alloc B2.out.size (.cells #[.int .u8 ((s : Int) / 16777216), .int .u8 ((s : Int) / 65536 % 256), .int .u8 ((s : Int) / 256 % 256), .int .u8 ((s : Int) % 256)] 54))
        have BX := Lib.hid (rd_box (w := w2) (T := 54) (n := 4) (cs := #[.int .u8 ((s : Int) / 16777216), .int .u8 ((s : Int) / 65536 % 256), .int .u8 ((s : Int) / 256 % 256), .int .u8 ((s : Int) % 256)]) HV.out rfl)
        have HR3 := Lib.hid ((HR.out _ B3.out).more B3.out.size)
        go_quiet ((go_at_call 37; exact equal_q HR3.out BX.out HL.out.symm (be4_len s).symm (eqB_true HS.out)))
        clear hq1 hq2 hq3 hq4 hq5
        go_wp2_with (go_at_call 34; refine (K4.out _ A1 c1 ((R1.out.below (below_drewN B3.out _)).more B3.out.size)).mono ?_; rintro e w5 ⟨A5, c5, rfl, h5, b5⟩; (have H5 := Lib.hid (own_less h5 B3.out.size)); (have B5 := Lib.hid ((below_drewN B3.out _).trans (b5.mono B3.out.size))); clear h5 b5)
        go_ret3
        exact hOk.out w5 A5 c5 H5.out B5.out
      · have hOk := Lib.hid (fun (w' : World) => frame_bad (w := w) (w' := w') (uE_sum h0 h4 hs) (by omega))
        have hRd := fun (W : World) (hW : Below w.heap.size w W) => (rd_mid (hp.below hW) (k := gK l + gN l) (n := 4) h4)
        have hRs : (l.drop (gK l + gN l)).take 4 = sumAt l := rfl
        rw [hRs] at hRd
        have hsl : (sumAt l).length = 4 := by unfold sumAt; rw [List.length_take, List.length_drop]; omega
        generalize gK l + gN l = k at *
        have hb6 : (bodyOf l).length ≤ 65536 := by omega
        clear hRs
        generalize sumAt l = m at *
        generalize bodyOf l = b at *
        have k2 := fun (A2 : Option Addr) (c2 : Nat) (h : Rd w w.heap.size A2 c2 (cells8 b)) => sumOf_any A2 b c2 w he h (by omega)
        have hcs := crc_lt b
        have hV := sum_cells hcs
        have k4 := fun (W : World) (A2 : Option Addr) (c2 : Nat) (h : Rd W W.heap.size A2 c2 (cells8 b)) => copied_any A2 b c2 0 W h (by omega) (by omega) (by omega)
        generalize crc b = s at *
        have hq1 : IntKind.i64.wrap ((k : Int) + 4) = (k : Int) + 4 := IntWalk.i64_in _ (by omega)
        have hq2 : (0 : Int) ≤ (k : Int) + 4 := by omega
        have hq3 : ((k : Int) + 4).toNat = k + 4 := by omega
        have hck : ¬ c = k := by omega
        have hq4 : (k : Int) ≤ (k : Int) + 4 := by omega
        have hq5 : (k : Int) + 4 ≤ (c : Int) := by omega
        have HR := Lib.hid (fun (W : World) (hW : Below w.heap.size w W) => by have := hRd W hW; rw [if_neg hck] at this; exact this)
        unfold sumV at k2
        have K1 := Lib.hid k1
        have K2 := Lib.hid k2
        have K4 := Lib.hid k4
        have HV := Lib.hid hV
        have HS := Lib.hid hs
        have HL := Lib.hid hsl
        clear hp hs h0 q1 q2 g1 g2 g3 k1 k2 k4 hRd hV hbl he hsl
        go_enter Tryd.func30, Tryd.ntmps30
        go_wp2_with (first
          | (go_at_call 35; refine K1.out.mono ?_; rintro e w1 ⟨A1, c1, rfl, hr1, hc1, rfl⟩; (have R1 := Lib.hid hr1); clear hr1)
          | (go_at_call 36; refine (K2.out A1 c1 R1.out).mono ?_; rintro e w2 ⟨rfl, b2⟩; (have B2 := Lib.hid b2); clear b2)
          | fail)
        have B3 := Lib.hid (B2.out.alloc B2.out.size (.cells #[.int .u8 ((s : Int) / 16777216), .int .u8 ((s : Int) / 65536 % 256), .int .u8 ((s : Int) / 256 % 256), .int .u8 ((s : Int) % 256)] 54))
        have BX := Lib.hid (rd_box (w := w2) (T := 54) (n := 4) (cs := #[.int .u8 ((s : Int) / 16777216), .int .u8 ((s : Int) / 65536 % 256), .int .u8 ((s : Int) / 256 % 256), .int .u8 ((s : Int) % 256)]) HV.out rfl)
        have HR3 := Lib.hid ((HR.out _ B3.out).more B3.out.size)
        go_quiet ((go_at_call 37; exact equal_q HR3.out BX.out HL.out.symm (be4_len s).symm (eqB_false HS.out)))
        clear hq1 hq2 hq3 hq4 hq5
        go_wp2
        go_ret3
        exact hOk.out _ (below_drewN B3.out _)
    · have hB := Lib.hid (frame_bad (w := w) (w' := w) (uE_short h0 (by omega)) (by omega) (Below.refl _ _))
      have h5 : ¬ (gN l + gK l ≤ 0 ∧ False) := fun h => h.2
      have hd : decide ((l.length : Int) - ((gK l + gN l : Nat) : Int) < 4) = true := decide_eq_true (by omega)
      clear h5
      generalize gK l + gN l = k at *
      generalize bodyOf l = b at *
      have K1 := Lib.hid k1
      clear hp h0 q1 q2 g1 g2 k1 he
      go_enter Tryd.func30, Tryd.ntmps30
      go_wp2_with (go_at_call 35; refine K1.out.mono ?_; rintro e w1 ⟨A1, c1, rfl, hr1, hc1, rfl⟩; clear hr1)
      go_ret3
      exact hB.out
  · have hB := Lib.hid (frame_bad (w := w) (w' := w) (uE_bad h0) h0 (Below.refl _ _))
    obtain ⟨q1, q2⟩ := bB_bad h0
    rw [q1, q2] at k1
    generalize bE 65536 l = e at *
    have K1 := Lib.hid k1
    clear hp k1 q1 q2 he
    go_enter Tryd.func30, Tryd.ntmps30
    go_wp2_with (go_at_call 35; refine K1.out.mono ?_; rintro e w1 ⟨A1, c1, rfl, hr1, hc1, rfl⟩; clear hr1)
    go_ret3
    exact hB.out
end Go.Proofs.YtlgjddmghmgmmaaDoor
