/- The package's Find and Max. -/
import Derived.Test.YtdemnbbofigcdaaPushG
import Derived.Test.YtdemnbbofigcdaaSurG
namespace Go.Proofs.Ytdemnbbofigcdaa
open Go.RowKit

def FindPost (W : World) (l : List Ed) (s t : Int) (e : Ending) (w' : World) : Prop :=
  ∃ (A : Option Addr) (c : Nat) (f : List Int), e = .returned (.slice A l.length c) ∧ f.length = l.length ∧ OwnI w' W.heap.size A c f ∧ (s = t → f = List.replicate l.length 0) ∧ (s ≠ t → IsFlow l f s t ∧ ¬ Rs l f s t) ∧ Below W.heap.size W w'
theorem net_zeros (l : List Ed) (n : Int) : net l (List.replicate l.length 0) n = 0 := by
  unfold net
  rw [sumK_congr (h := fun _ => 0), sumK_zero]
  intro k hk
  unfold netK
  have : ix (List.replicate l.length 0) k = 0 := by unfold ix; rw [List.getElem?_replicate, if_pos hk]; rfl
  rw [this]
  split <;> split <;> rfl
theorem zeros_flow {l : List Ed} (hg : Grph l) (s t : Int) : IsFlow l (List.replicate l.length 0) s t := by
  refine ⟨List.length_replicate, fun k hk => ?_, fun n _ _ => net_zeros l n⟩
  have : ix (List.replicate l.length 0) k = 0 := by unfold ix; rw [List.getElem?_replicate, if_pos hk]; rfl
  rw [this]
  exact ⟨Int.le_refl _, (hg.2.1 _ (e_mem hk)).2.2.2.2.1⟩
theorem flow_box {l : List Ed} (hg : Grph l) {f : List Int} {s t : Int} (h : IsFlow l f s t) : ∀ k, k < l.length → 0 ≤ ix f k ∧ ix f k ≤ eC l k ∧ eC l k ≤ 1000000 := fun k hk => ⟨(h.box k hk).1, (h.box k hk).2, (hg.2.1 _ (e_mem hk)).2.2.2.2.2⟩
theorem make_ints (w : World) (n : Nat) (hn : n ≤ 1000000) : ∃ w', (Instr.makeSlice 23 (.int .i64 (n : Int)) (.int .i64 (n : Int))).run Try.prog w = .ok (.slice (some ⟨w.heap.size, 0, none⟩) n n) w' ∧ OwnI w' w.heap.size (some ⟨w.heap.size, 0, none⟩) n (List.replicate n 0) ∧ w.grownBy w' none := by
  obtain ⟨i0, hi, hz0, hz1, hz2⟩ := info_parts info_i64
  obtain ⟨w', h1, h2, h3⟩ := run_makeSlice_full (P := Try.prog) w w.heap.size 23 3 i0 (.int .i64 0) 1 Try.underlying23 hi hz0 hz1 .i64 .i64 n (by omega) (by rw [hz2]; omega) (by unfold maxLen; omega) (Nat.le_refl _)
  refine ⟨w', h1, ?_, h3⟩
  unfold OwnI
  rw [List.length_replicate]
  have e : (madeCells (Value.int .i64 0).cells (n * 1)).toList = cellsI (List.replicate n 0) := by
    unfold cellsI madeCells
    rw [List.map_replicate, Nat.mul_one, Array.toList_map, Array.toList_range, List.eq_replicate_iff]
    refine ⟨by simp, fun v hv => ?_⟩
    obtain ⟨i, _, rfl⟩ := List.mem_map.1 hv
    have : i % (Value.int IntKind.i64 0).cells.size = 0 := by
      show i % 1 = 0
      omega
    rw [this]
    rfl
  rw [← e]
  exact h2
def onlyS (s : Int) (x : Int) : Bool := decide (x = s)
set_option maxRecDepth 100000 in
set_option maxHeartbeats 4000000 in
theorem gFind_any (A : Option Addr) (l : List Ed) (c : Nat) (s t : Int) (w : World) (hp : Es w w.heap.size A l) (hg : Grph l) :
    Calls Try.prog 19 #[.slice A l.length c, .int .i64 s, .int .i64 t] w (FindPost w l s t) := by
  have hgl := hg.1
  obtain ⟨w1, hmk, hO1, hg1⟩ := make_ints w l.length (by omega)
  have B1 : Below w.heap.size w w1 := (Below.refl _ _).grown hg1 (Nat.le_refl _) (fun g h => by cases h)
  by_cases hst : s = t
  · have hb : (s == t) = true := beq_iff_eq.2 hst
    have hR : Hid (FindPost w l s t (.returned (.slice (some ⟨w.heap.size, 0, none⟩) l.length l.length)) w1) := Lib.hid ⟨_, _, List.replicate l.length 0, rfl, List.length_replicate, hO1, fun _ => rfl, fun h => absurd hst h, B1⟩
    generalize FindPost w l s t = goal at *
    clear hO1 hg1 B1 hp hg hst
    go_enter Try.func19, Try.ntmps19
    go_wp2
    exact hR.out
  · have hb : (s == t) = false := beq_eq_false_iff_ne.2 hst
    have hs1 := hO1.lt
    have kL := Lib.hid (links_any A (some ⟨w.heap.size, 0, none⟩) l (List.replicate l.length 0) c l.length w1 (hp.up B1) (by omega))
    rw [List.length_replicate] at kL
    have hF1 : Hid (OwnF w1 w.heap.size w1.heap.size (some ⟨w.heap.size, 0, none⟩) l.length (List.replicate l.length 0)) := Lib.hid ⟨hO1, fun g h => (own_lt' hO1 g h).2⟩
    have hZ := Lib.hid (zeros_flow hg s t)
    have hB1 := Lib.hid B1
    have hbx := Lib.hid (fun (f : List Int) (h : IsFlow l f s t) => flow_box hg h)
    have hst' := Lib.hid hst
    have hMore := Lib.hid (fun (f W : List Int) (d : Int) (h : IsFlow l f s t) (hd : 0 ≤ d) (hw : Way l W t s) (hr : ∀ x ∈ W, idx x < l.length ∧ d ≤ room l f x) (hn : (W.map idx).Nodup) => aug_flow h hst hd hw hr hn)
    have hCap := Lib.hid (fun (f : List Int) (h : IsFlow l f s t) => weak h (X := onlyS s) (by simp [onlyS]) (by simp [onlyS]; exact fun e => hst e.symm))
    have hYes : Hid (∀ (f : List Int) (w' : World), OwnI w' w.heap.size (some ⟨w.heap.size, 0, none⟩) l.length f → IsFlow l f s t → ¬ Rs l f s t → Below w.heap.size w w' → FindPost w l s t (.returned (.slice (some ⟨w.heap.size, 0, none⟩) l.length l.length)) w') := Lib.hid (fun f w' h1 h2 h3 h4 => ⟨_, _, f, rfl, h2.len, h1, fun h => absurd h hst, fun _ => ⟨h2, h3⟩, h4⟩)
    generalize FindPost w l s t = goal at *
    have hN1 : Hid (w.heap.size ≤ w1.heap.size) := Lib.hid B1.size
    clear hO1 hg1 B1 hp hg hst hs1
    go_enter Try.func19, Try.ntmps19
    go_wp2_with (go_at_call 31; (with_reducible refine (kL.out).mono ?_); rintro e w2 ⟨b, af, bi, be, rfl, hbb, hL, hX, hB⟩; (have HB := Lib.hid hB); (have HF : Hid (Flm w2 w.heap.size w1.heap.size l (List.replicate l.length 0) (some ⟨w.heap.size, 0, none⟩) l.length af bi be b) := Lib.hid ⟨⟨hF1.out.1.up hB, hF1.out.2⟩, hL, (by rw [List.length_replicate]; exact hX), hN1.out, hbb⟩); clear hbb hL hX hB)
    have HB2 := Lib.hid (hB1.out.trans (HB.out.mono hN1.out))
    have HS2 : Hid (w1.heap.size ≤ w2.heap.size) := Lib.hid HB.out.size
    clear hF1 hB1 HB kL
    go_loopg [6] ((capX l (onlyS s) - net l (List.replicate l.length 0) s).toNat + 1) (fun kx v6 wr => ∃ (f : List Int), v6 = .slice (some ⟨w.heap.size, 0, none⟩) l.length l.length ∧ Hid ((capX l (onlyS s) - net l f s).toNat + 1 ≤ kx) ∧ Hid (IsFlow l f s t) ∧ Hid (Flm wr w.heap.size w1.heap.size l f (some ⟨w.heap.size, 0, none⟩) l.length af bi be b) ∧ Hid (w1.heap.size ≤ wr.heap.size) ∧ Hid (Below w.heap.size w wr))
    case atStart => exact ⟨_, rfl, Lib.hid (Nat.le_refl _), hZ, HF, HS2, HB2⟩
    case round =>
      clear hZ HF HB2 HS2
      obtain ⟨f, rfl, hk, hfl, hF, hS, hB⟩ := hrel
      have kS := Lib.hid (gSearch_any l f s t w.heap.size w1.heap.size _ l.length af bi be b wr hF.out hfl.out.len (by omega) hst'.out hS.out (hbx.out f hfl.out))
      have hbf := Lib.hid (hbx.out f hfl.out)
      have hlen := Lib.hid hfl.out.len
      clear hF hbx
      go_wp2_with (fail)
      (with_reducible refine (kS.out).mono ?_)
      rintro e w3 ⟨hcase, hF3, hB3⟩
      have HF3 := Lib.hid hF3
      have HB3 := Lib.hid (hB.out.trans hB3)
      have HS3 : Hid (w1.heap.size ≤ w3.heap.size) := Lib.hid (Nat.le_trans hS.out hB3.size)
      clear hF3 hB3 kS hB
      rcases hcase with ⟨rfl, hno⟩ | ⟨bl, n, lf, S, V, rfl, hs1, hs2, hs3, hs4, hs5⟩
      · have hR := Lib.hid (hYes.out f w3 HF3.out.F.1 hfl.out hno HB3.out)
        clear hno hfl hk hMore hCap hYes HF3 HB3 HS3
        go_wp2
        exact hR.out
      · obtain ⟨W, c1, c2, c3⟩ := chain_to hs1 hs2 hs3
        have hDl := minR_le l f W 9223372036854775807
        have hDp := minR_pos l f W 9223372036854775807 (by omega) (fun x hx => (c2 x hx).2)
        have kP := Lib.hid (gPush_any l f s t W lf bl n w.heap.size w1.heap.size _ l.length af bi be b w3 HF3.out hlen.out (Nat.le_trans hS.out hs4) hbf.out hs5 c1 (fun x hx => (c2 x hx).2) c3 hst'.out)
        obtain ⟨m1, m2⟩ := hMore.out f W _ hfl.out (Int.le_of_lt hDp) (chain_way c1) (fun x hx => ⟨(c2 x hx).1, hDl.2 x hx⟩) c3
        obtain ⟨D, hD⟩ : ∃ D, minR l f 9223372036854775807 W = D := ⟨_, rfl⟩
        rw [hD] at kP m1 m2 hDp
        have hfl2 := Lib.hid m1
        have hk2 : Hid ((capX l (onlyS s) - net l (aug D f W) s).toNat + 1 ≤ gk - 1 ∧ gk - 1 < gk) := Lib.hid (by
          have h1 := hCap.out _ m1
          have h2 := hk.out
          omega)
        clear hs1 hs2 hs3 hs4 hs5 c1 c2 c3 hDl hDp m1 m2 hD hfl hk hMore hCap hYes hbf
        go_wp2_with (go_at_call 33; (with_reducible refine (kP.out).mono ?_); rintro e w4 ⟨rfl, p1, p2⟩; (have F4 := Lib.hid p1); (have B4 := Lib.hid (HB3.out.trans p2)); (have S4 : Hid (w1.heap.size ≤ w4.heap.size) := Lib.hid (Nat.le_trans HS3.out p2.size)); clear p1 p2)
        go_roundg (gk - 1)
        case measure => exact hk2.out.2
        case rel => exact ⟨_, rfl, Lib.hid hk2.out.1, hfl2, F4, S4, B4⟩

set_option maxRecDepth 100000 in
set_option maxHeartbeats 1000000 in
/-- Max: the value of a flow from s to t that leaves no way for more; 0 where they are one. -/
theorem gMax_any (A : Option Addr) (l : List Ed) (c : Nat) (s t : Int) (w : World) (hp : Es w w.heap.size A l) (hc : l.length ≤ c) (hg : Grph l) :
    Calls Try.prog 17 #[.slice A l.length c, .int .i64 s, .int .i64 t] w fun e w' => ∃ n, e = .returned (.int .i64 n) ∧ (s = t → n = 0) ∧ (s ≠ t → ∃ f, IsFlow l f s t ∧ ¬ Rs l f s t ∧ n = net l f s) ∧ Below w.heap.size w w' := by
  have kF := Lib.hid (gFind_any A l c s t w hp hg)
  have kV := Lib.hid (fun (B : Option Addr) (d : Nat) (f : List Int) (W : World) (b : Below w.heap.size w W) (ho : OwnI W w.heap.size B d f) (hl : Low l f) => gValue_any A B l f c d s W (hp.up b) hc ho.rd hl)
  have hLow := Lib.hid (fun (f : List Int) (h1 : f.length = l.length) (h2 : s = t → f = List.replicate l.length 0) (h3 : s ≠ t → IsFlow l f s t ∧ ¬ Rs l f s t) => (show Low l f from by
    by_cases hst : s = t
    · have := IsFlow.low hg (zeros_flow hg s t)
      rw [h2 hst]
      exact this
    · exact IsFlow.low hg (h3 hst).1))
  have hEnd : Hid (∀ (f : List Int), (s = t → f = List.replicate l.length 0) → (s ≠ t → IsFlow l f s t ∧ ¬ Rs l f s t) → (s = t → net l f s = 0) ∧ (s ≠ t → ∃ f', IsFlow l f' s t ∧ ¬ Rs l f' s t ∧ net l f s = net l f' s)) := Lib.hid (fun f h1 h2 => ⟨fun h => by rw [h1 h]; exact net_zeros l s, fun h => ⟨f, (h2 h).1, (h2 h).2, rfl⟩⟩)
  clear hp hg
  go_enter Try.func17, Try.ntmps17
  go_wp2_with (fail)
  (with_reducible refine (kF.out).mono ?_)
  rintro e w1 ⟨A1, c1, f, rfl, h1, h2, h3, h4, b1⟩
  have kV1 := Lib.hid (kV.out A1 c1 f w1 b1 h2 (hLow.out f h1 h3 h4))
  rw [h1] at kV1
  have hE := Lib.hid (hEnd.out f h3 h4)
  have B1 := Lib.hid b1
  clear h1 h2 h3 h4 b1 hLow hEnd kF kV
  go_wp2_with (go_at_call 15; (with_reducible refine (kV1.out).mono ?_); rintro e w2 ⟨rfl, b2⟩; (have B2 := Lib.hid (B1.out.trans (b2.mono B1.out.size))); clear b2)
  go_ret
  exact ⟨_, rfl, hE.out.1, hE.out.2, B2.out⟩
end Go.Proofs.Ytdemnbbofigcdaa
