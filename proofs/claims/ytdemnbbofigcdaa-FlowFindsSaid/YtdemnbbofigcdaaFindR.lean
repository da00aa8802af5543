/- The reference's Find. -/
import Derived.Test.YtdemnbbofigcdaaWayR
import Derived.Test.YtdemnbbofigcdaaFindG
import Derived.Deep.DeepCutAuto
import Derived.BigRegion
namespace Go.Proofs.Ytdemnbbofigcdaa
open Go.RowKit

theorem minR_drop {l : List Ed} {f W : List Int} {r : Int} {j : Nat} (h : j < W.length) : minR l f r (W.drop j) = minR l f (min r (room l f (ix W j))) (W.drop (j + 1)) := by rw [drop_ix h, minR]
theorem aug_drop {f W : List Int} {d : Int} {j : Nat} (h : j < W.length) : aug d f (W.drop j) = aug d (put1 f (ix W j) d) (W.drop (j + 1)) := by rw [drop_ix h, aug]
/-- On the way: the flow so far, what is still to be changed. -/
structure Go3 (l : List Ed) (D : Int) (G : List Int) (f W : List Int) : Prop where
  len : f.length = l.length
  box : ∀ k, k < l.length → 0 ≤ ix f k ∧ ix f k ≤ eC l k ∧ eC l k ≤ 1000000
  room' : ∀ x ∈ W, idx x < l.length ∧ D ≤ room l f x ∧ x ≠ 0
  nodup : (W.map idx).Nodup
  goal : aug D f W = G
theorem go3_step {l : List Ed} {D : Int} {G f : List Int} {W : List Int} {x : Int} (hD : 0 ≤ D) (h : Go3 l D G f (x :: W)) : Go3 l D G (put1 f x D) W := by
  obtain ⟨h1, h2, h3⟩ := h.room' x (List.mem_cons_self ..)
  have hn := h.nodup
  rw [List.map_cons, List.nodup_cons] at hn
  refine ⟨by rw [put1_len]; exact h.len, box_put1 h.len h.box h1 hD h2, fun y hy => ?_, hn.2, by have := h.goal; rw [aug] at this; exact this⟩
  obtain ⟨k1, k2, k3⟩ := h.room' y (List.mem_cons_of_mem _ hy)
  refine ⟨k1, ?_, k3⟩
  rw [room_put1 h.len h1 (fun e => hn.1 (e ▸ List.mem_map_of_mem hy))]
  exact k2
theorem idx_pos {x : Int} (hx : 0 < x) : x - 1 = (idx x : Int) := by unfold idx; omega
theorem idx_neg {x : Int} (hx : ¬ 0 < x) (h0 : x ≠ 0) : -x - 1 = (idx x : Int) := by unfold idx; omega

theorem own_cell {w : World} {base c k g : Nat} {f : List Int} (h : OwnI w base (some ⟨g, 0, none⟩) c f) (hk : k < f.length) : w.cell? ⟨g, k, none⟩ = some (.int .i64 (ix f k)) := by
  obtain ⟨ad, e, _, hc⟩ := h.rd.get (cellsI_ix hk)
  injection e with e
  subst e
  rw [add_pos] at hc
  simpa using hc
/-- One of the way's edges: what its change leaves. -/
theorem go3_mem {l : List Ed} {D : Int} {G f W : List Int} {x : Int} {base b5 c c5 g g5 : Nat} {w0 w : World} (hg : base ≤ g) (hne : g5 ≠ g) (h : Go3 l D G f (x :: W)) (hD : 0 ≤ D) {V : List Int} (hF : OwnI w base (some ⟨g, 0, none⟩) c f) (hW : OwnI w b5 (some ⟨g5, 0, none⟩) c5 V) (hB : Below base w0 w) {v : Int} (he : put1 f x D = f.set (idx x) v) :
    ∀ w', w' = w.setCell ⟨g, idx x, none⟩ (.int .i64 v) ∨ w' = (w.setCell ⟨g, idx x, none⟩ (.int .i64 v)).drew → Go3 l D G (f.set (idx x) v) W ∧ OwnI w' base (some ⟨g, 0, none⟩) c (f.set (idx x) v) ∧ OwnI w' b5 (some ⟨g5, 0, none⟩) c5 V ∧ Below base w0 w' := fun w' hw => by
  have h1 := own_setI (k := idx x) (v := v) hF
  have h2 := hW.grown (World.ownsRow.stored hF (idx x) (.int .i64 v)).2 (.inl (by intro e; apply hne; unfold blk at e; simpa using e))
  have h3 : Below base w0 (w.setCell ⟨g, idx x, none⟩ (.int .i64 v)) := Below.setCell hB (p := ⟨g, idx x, none⟩) hg _
  have h0 := go3_step hD h
  rw [he] at h0
  rcases hw with rfl | rfl
  · exact ⟨h0, h1, h2, h3⟩
  · exact ⟨h0, h1, h2, h3.drew⟩

set_option maxRecDepth 100000 in
set_option maxHeartbeats 16000000 in
theorem rFind_any (A : Option Addr) (l : List Ed) (c : Nat) (s t : Int) (w : World) (hp : Es w w.heap.size A l) (hg : Grph l) :
    Calls Try.prog 30 #[.slice A l.length c, .int .i64 s, .int .i64 t] w (FindPost w l s t) := by
  have hgl := hg.1
  obtain ⟨w1, hmk, hO1, hg1⟩ := make_ints w l.length (by omega)
  have B1 : Below w.heap.size w w1 := (Below.refl _ _).grown hg1 (Nat.le_refl _) (fun g h => by cases h)
  by_cases hst : s = t
  · have hb : (s == t) = true := beq_iff_eq.2 hst
    have hR : Hid (FindPost w l s t (.returned (.slice (some ⟨w.heap.size, 0, none⟩) l.length l.length)) w1) := Lib.hid ⟨_, _, List.replicate l.length 0, rfl, List.length_replicate, hO1, fun _ => rfl, fun h => absurd hst h, B1⟩
    generalize FindPost w l s t = goal at *
    clear hO1 hg1 B1 hp hg hst
    go_enter Try.func30, Try.ntmps30
    go_wp2
    exact hR.out
  · have hb : (s == t) = false := beq_eq_false_iff_ne.2 hst
    have hs1 := hO1.lt
    have hF1 := Lib.hid hO1
    have hZ := Lib.hid (zeros_flow hg s t)
    have hB1 := Lib.hid B1
    have hP := Lib.hid hp
    have hbx := Lib.hid (fun (f : List Int) (h : IsFlow l f s t) => flow_box hg h)
    have hLow := Lib.hid (fun (f : List Int) (h : IsFlow l f s t) => h.low hg)
    have hst' := Lib.hid hst
    have hMore := Lib.hid (fun (f W : List Int) (d : Int) (h : IsFlow l f s t) (hd : 0 ≤ d) (hw : Way l W t s) (hr : ∀ x ∈ W, idx x < l.length ∧ d ≤ room l f x) (hn : (W.map idx).Nodup) => aug_flow h hst hd hw hr hn)
    have hCap := Lib.hid (fun (f : List Int) (h : IsFlow l f s t) => weak h (X := onlyS s) (by simp [onlyS]) (by simp [onlyS]; exact fun e => hst e.symm))
    have hYes : Hid (∀ (f : List Int) (w' : World), OwnI w' w.heap.size (some ⟨w.heap.size, 0, none⟩) l.length f → IsFlow l f s t → ¬ Rs l f s t → Below w.heap.size w w' → FindPost w l s t (.returned (.slice (some ⟨w.heap.size, 0, none⟩) l.length l.length)) w') := Lib.hid (fun f w' h1 h2 h3 h4 => ⟨_, _, f, rfl, h2.len, h1, fun h => absurd h hst, fun _ => ⟨h2, h3⟩, h4⟩)
    generalize FindPost w l s t = goal at *
    clear hO1 hg1 B1 hp hg hst hs1
    go_enter Try.func30, Try.ntmps30
    go_wp2
    clear hmk
    go_loopg [] ((capX l (onlyS s) - net l (List.replicate l.length 0) s).toNat + 1) (fun kx wr => ∃ (f : List Int), Hid ((capX l (onlyS s) - net l f s).toNat + 1 ≤ kx) ∧ Hid (IsFlow l f s t) ∧ Hid (OwnI wr w.heap.size (some ⟨w.heap.size, 0, none⟩) l.length f) ∧ Hid (Below w.heap.size w wr))
    case atStart => exact ⟨_, Lib.hid (Nat.le_refl _), hZ, hF1, hB1⟩
    case round =>
      clear hZ hF1 hB1
      obtain ⟨f, hk, hfl, hF, hB⟩ := hrel
      have hlen := hfl.out.len
      have kS := search_any A (some ⟨w.heap.size, 0, none⟩) l f c l.length s wr (hP.out.up hB.out) hF.out.rd (hLow.out f hfl.out)
      rw [hlen] at kS
      have kS := Lib.hid kS
      have hbf := Lib.hid (hbx.out f hfl.out)
      have hLn := Lib.hid hlen
      clear hbx hLow hlen
      go_upto_region 6 with (first
        | (go_at_call 36; (with_reducible refine (kS.out).mono ?_); rintro e w3 ⟨A1, A2, c1, c2, S, V, rfl, h1, h2, h3, b3⟩; (have hSr := Lib.hid h3); (have B3 := Lib.hid (hB.out.trans (b3.mono hB.out.size))); (have F3 := Lib.hid (hF.out.up b3)); (have kW := Lib.hid (way_any A A1 A2 l f S V c c1 c2 wr.heap.size s t w3 (hP.out.up B3.out) h1 h2 h3 hgl)); clear h1 h2 h3 b3)
        | (go_at_call 45; (with_reducible refine (kW.out).mono ?_); rintro e w4 ⟨A5, c5, W, rfl, h5, h6, b4⟩; (have H5 := Lib.hid h5); (have H6 := Lib.hid h6); (have B4 := Lib.hid (B3.out.trans (b4.mono B3.out.size))); (have F4 := Lib.hid (F3.out.up b4)); clear h5 h6 b4))
      clear kS kW hF
      by_cases hW0 : W.length = 0
      · obtain rfl := List.length_eq_zero_iff.1 hW0
        have hno : ¬ Rs l f s t := fun hr => hst'.out (H6.out.2.1 ((srch_end hSr.out).2 hr)).symm
        have hR := Lib.hid (hYes.out f w4 F4.out hfl.out hno B4.out)
        clear hno hfl hk hMore hCap hYes F4 B4 B3 F3 H5 H6 hSr hB hst' hbf hLn hP
        go_wp2
        exact hR.out
      · have hWp : 0 < W.length := Nat.pos_of_ne_zero hW0
        have htS : t ∈ S := Classical.byContradiction fun h => hW0 (by rw [H6.out.1 h]; rfl)
        have hDl := minR_le l f W 1000001
        have hDp := minR_pos l f W 1000001 (by omega) (fun x hx => (H6.out.2.2.1 x hx).2.1)
        obtain ⟨m1, m2⟩ := hMore.out f W _ hfl.out (Int.le_of_lt hDp) (H6.out.2.1 htS) (fun x hx => ⟨(H6.out.2.2.1 x hx).1, hDl.2 x hx⟩) H6.out.2.2.2
        obtain ⟨D, hD⟩ : ∃ D, minR l f 1000001 W = D := ⟨_, rfl⟩
        rw [hD] at m1 m2 hDp hDl
        obtain ⟨G, hG⟩ : ∃ G, aug D f W = G := ⟨_, rfl⟩
        rw [hG] at m1 m2
        have hfl2 := Lib.hid m1
        have hk2 : Hid ((capX l (onlyS s) - net l G s).toNat + 1 ≤ gk - 1 ∧ gk - 1 < gk) := Lib.hid (by
          have h1 := hCap.out _ m1
          have h2 := hk.out
          omega)
        have hg3 : Hid (Go3 l D G f W) := Lib.hid ⟨hLn.out, hbf.out, fun x hx => ⟨(H6.out.2.2.1 x hx).1, hDl.2 x hx, (H6.out.2.2.1 x hx).2.2⟩, H6.out.2.2.2, hG⟩
        have hD6 : D ≤ 1000001 := hDl.1
        have hm0 : Hid (minR l f 1000001 (W.drop 0) = D) := Lib.hid (by rw [List.drop_zero]; exact hD)
        have hWx : Hid (∀ x ∈ W, idx x < l.length ∧ x ≠ 0) := Lib.hid (fun x hx => ⟨(H6.out.2.2.1 x hx).1, (H6.out.2.2.1 x hx).2.2⟩)
        obtain ⟨g5, rfl, hg5a, hg5b⟩ := own_addr H5.out hWp
        have hg5 : Hid (g5 ≠ w.heap.size) := Lib.hid (fun e => by have h1 := own_lt' F3.out; have h2 := (h1 w.heap.size rfl).2; omega)
        have hB4' := Lib.hid (Below.refl w4.heap.size w4)
        have hWl : W.length ≤ 200 := Nat.le_trans (by
          have h1 := nodup_lenN (l := W.map idx) (n := l.length) H6.out.2.2.2 (fun k hk => by
            obtain ⟨x, hx, rfl⟩ := List.mem_map.1 hk
            exact (H6.out.2.2.1 x hx).1)
          rwa [List.length_map] at h1) hgl
        clear hMore hCap hYes hfl hk hst' H6 htS hDl m1 m2 hD hG hSr hB hg5a hg5b hW0 B3 F3
        have hwb : ((W.length : Int) == 0) = false := beq_eq_false_iff_ne.2 (by omega)
        go_wp2
        go_loopw [11, 12] (fun v11 i wr2 => ∃ (j : Nat) (r : Int), j ≤ W.length ∧ i = .int .i64 j ∧ v11 = .int .i64 r ∧ Hid (minR l f r (W.drop j) = D) ∧ Hid (Below w4.heap.size w4 wr2)) (fun _ i _ => W.length - (intOf i).toNat)
        case atStart => exact ⟨0, 1000001, by omega, rfl, rfl, hm0, hB4'⟩
        case round =>
          clear hm0 hB4'
          obtain ⟨j, r, hj, rfl, rfl, hm, hB2⟩ := hrel
          by_cases hlt : j < W.length
          · have hx := hWx.out (ix W j) (ix_mem hlt)
            have hm' := hm.out
            rw [minR_drop hlt] at hm'
            have a1 := own_cell (H5.out.up hB2.out) hlt
            have a2 := own_cell (F4.out.up hB2.out) (k := idx (ix W j)) (by rw [hLn.out]; exact hx.1)
            obtain ⟨ad, rfl, hab, x0, x1, x2, x3⟩ := (hP.out.below (B4.out.trans (hB2.out.mono B4.out.size))).get hx.1
            have hb := hbf.out _ hx.1
            clear hWx hbf hg3 hfl2 hk2 hm
            generalize ix W j = x at *
            obtain ⟨hx1, hx0⟩ := hx
            have hpos := Lib.hid (fun h : 0 < x => idx_pos h)
            have hneg := Lib.hid (fun h : ¬ 0 < x => idx_neg h hx0)
            have hro : Hid (room l f x = if 0 < x then eC l (idx x) - ix f (idx x) else ix f (idx x)) := Lib.hid rfl
            generalize idx x = kk at *
            generalize ix f kk = y at *
            generalize eI l kk = z0 at *
            generalize eF l kk = z1 at *
            generalize eT l kk = z2 at *
            generalize eC l kk = z at *
            generalize room l f x = rx at *
            obtain ⟨r2, hr2⟩ : ∃ r2, min r rx = r2 := ⟨_, rfl⟩
            rw [hr2] at hm'
            have hM := Lib.hid hm'
            have hmin : ∀ ts t w, (Builtin.min_ ts t #[.int .i64 r, .int .i64 rx]).run Try.prog w = .ok (.int .i64 r2) w := fun ts t w => by
              rw [run_min_int2, ← hr2]
              congr 2
              split <;> omega
            clear hm' hr2 H5 F4 hP
            by_cases hp : 0 < x
            · have e1 := hpos.out hp
              have hrx := hro.out
              rw [if_pos hp] at hrx
              subst hrx
              have e2 : IntKind.i64.wrap (x - 1) = (kk : Int) := by rw [e1]; exact IntWalk.i64_in _ (by omega)
              have e3 : IntKind.i64.wrap (z - y) = z - y := IntWalk.i64_in _ (by omega)
              clear e1 hpos hneg hro
              go_wp2
              go_region
              go_wp2
              exact ⟨⟨j + 1, r2, by omega, by go_num, rfl, hM, Lib.hid hB2.out.drew⟩, by simp [intOf]; omega⟩
            · have e1 := hneg.out hp
              have hrx := hro.out
              rw [if_neg hp] at hrx
              subst hrx
              have e2 : IntKind.i64.wrap (-x - 1) = (kk : Int) := by rw [e1]; exact IntWalk.i64_in _ (by omega)
              have e3 : IntKind.i64.wrap (-x) = -x := IntWalk.i64_in _ (by omega)
              clear e1 hpos hneg hro
              go_wp2
              exact ⟨⟨j + 1, r2, by omega, by go_num, rfl, hM, hB2⟩, by simp [intOf]; omega⟩
          · obtain rfl : j = W.length := by omega
            have hr := hm.out
            rw [List.drop_length, minR] at hr
            subst hr
            clear hm hWx
            go_wp2
            go_loopw [13] (fun i wr3 => ∃ (j : Nat) (f' : List Int), j ≤ W.length ∧ i = .int .i64 j ∧ Hid (Go3 l r G f' (W.drop j)) ∧ Hid (OwnI wr3 w.heap.size (some ⟨w.heap.size, 0, none⟩) l.length f') ∧ Hid (OwnI wr3 w3.heap.size (some ⟨g5, 0, none⟩) c5 W) ∧ Hid (Below w.heap.size w wr3)) (fun i _ => W.length - (intOf i).toNat)
            case atStart => exact ⟨0, f, by omega, rfl, by rw [List.drop_zero]; exact hg3, Lib.hid (F4.out.up hB2.out), Lib.hid (H5.out.up hB2.out), Lib.hid (B4.out.trans (hB2.out.mono B4.out.size))⟩
            case round =>
              clear hg3 F4 H5 hB2 hj
              obtain ⟨j, f2, hj, rfl, hg3, hF, hW, hB3⟩ := hrel
              by_cases hlt : j < W.length
              · have h3 := hg3.out
                rw [drop_ix hlt] at h3
                obtain ⟨k1, k2, k3⟩ := h3.room' _ (List.mem_cons_self ..)
                have hb2 := h3.box _ k1
                have a1 := own_cell hW.out hlt
                have a2 := own_cell hF.out (k := idx (ix W j)) (by rw [h3.len]; exact k1)
                have fz := World.ownsRow.frozenAt hF.out (idx (ix W j))
                have hMk := Lib.hid (fun (v : Int) (he : put1 f2 (ix W j) r = f2.set (idx (ix W j)) v) => go3_mem (Nat.le_refl _) hg5.out h3 (Int.le_of_lt hDp) hF.out hW.out hB3.out he)
                clear h3 hg3 hF hW hB3 hfl2 hk2 hbf B4 hg5 hP
                generalize ix W j = x at *
                have hpos := Lib.hid (fun h : 0 < x => idx_pos h)
                have hneg := Lib.hid (fun h : ¬ 0 < x => idx_neg h k3)
                have hro : Hid (room l f2 x = if 0 < x then eC l (idx x) - ix f2 (idx x) else ix f2 (idx x)) := Lib.hid rfl
                have hpu : Hid (put1 f2 x r = f2.set (idx x) (if 0 < x then ix f2 (idx x) + r else ix f2 (idx x) - r)) := Lib.hid rfl
                generalize idx x = kk at *
                generalize ix f2 kk = y at *
                generalize eC l kk = z at *
                generalize room l f2 x = rx at *
                by_cases hp : 0 < x
                · have e1 := hpos.out hp
                  have hrx := hro.out
                  rw [if_pos hp] at hrx
                  subst hrx
                  have hMk2 := Lib.hid (hMk.out (y + r) (by rw [hpu.out, if_pos hp]))
                  have e2 : IntKind.i64.wrap (x - 1) = (kk : Int) := by rw [e1]; exact IntWalk.i64_in _ (by omega)
                  have e3 : IntKind.i64.wrap (y + r) = y + r := IntWalk.i64_in _ (by omega)
                  clear e1 hpos hneg hro hpu hMk
                  go_wp2
                  go_region
                  go_wp2
                  obtain ⟨m1, m2, m3, m4⟩ := hMk2.out _ (.inr rfl)
                  exact ⟨⟨j + 1, _, by omega, by go_num, Lib.hid m1, Lib.hid m2, Lib.hid m3, Lib.hid m4⟩, by simp [intOf]; omega⟩
                · have e1 := hneg.out hp
                  have hrx := hro.out
                  rw [if_neg hp] at hrx
                  subst hrx
                  have hMk2 := Lib.hid (hMk.out (rx - r) (by rw [hpu.out, if_neg hp]))
                  have e2 : IntKind.i64.wrap (-x - 1) = (kk : Int) := by rw [e1]; exact IntWalk.i64_in _ (by omega)
                  have e3 : IntKind.i64.wrap (-x) = -x := IntWalk.i64_in _ (by omega)
                  have e4 : IntKind.i64.wrap (rx - r) = rx - r := IntWalk.i64_in _ (by omega)
                  clear e1 hpos hneg hro hpu hMk
                  go_wp2
                  go_region
                  go_wp2
                  obtain ⟨m1, m2, m3, m4⟩ := hMk2.out _ (.inr rfl)
                  exact ⟨⟨j + 1, _, by omega, by go_num, Lib.hid m1, Lib.hid m2, Lib.hid m3, Lib.hid m4⟩, by simp [intOf]; omega⟩
              · obtain rfl : j = W.length := by omega
                have hG := hg3.out.goal
                rw [List.drop_length, aug] at hG
                subst hG
                clear hg3 hW hP hbf hLn
                go_wp2
                go_roundg (gk - 1)
                case measure => exact hk2.out.2
                case rel => exact ⟨_, Lib.hid hk2.out.1, hfl2, hF, hB3⟩
end Go.Proofs.Ytdemnbbofigcdaa
