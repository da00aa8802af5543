/- The reference's Shortest. -/
import Derived.Test.YtlaklfiodmnocaaAppKeep
import Derived.Deep.QuietTactic
import Derived.BigQuiet
namespace Go.Proofs.Ytlaklfiodmnocaa
open Go.RowKit

/-- What Shortest hands back. -/
def ShPost (W : World) (l : List Ed) (a b : Int) (e : Ending) (w' : World) : Prop :=
  ∃ A c, e = .returned (.tuple #[.slice A (shP l a b).length c, .int .i64 (shC l a b), .bool (shK l a b)]) ∧ OwnI w' W.heap.size A c (shP l a b) ∧ Below W.heap.size W w'
theorem sh_no {W w' : World} {l : List Ed} {a b : Int} (h : ¬ Rch l a b) (hb : Below W.heap.size W w') : ShPost W l a b (.returned (.tuple #[.slice none 0 0, .int .i64 0, .bool false])) w' := by
  obtain ⟨e1, e2, e3⟩ := sh_none h
  refine ⟨none, 0, ?_, ?_, hb⟩
  · rw [e1, e2, e3]
    rfl
  · rw [e1]
    exact ownI_nil _ _
theorem sh_yes {W w' : World} {l : List Ed} {a b c : Int} {k cc : Nat} {A : Option Addr} {o : List Int} (h : Best l b a c k) (ho : o = (path l b k a c).map Ed.id) (hO : OwnI w' W.heap.size A cc o) (hb : Below W.heap.size W w') : ShPost W l a b (.returned (.tuple #[.slice A o.length cc, .int .i64 c, .bool true])) w' := by
  obtain ⟨e1, e2, e3⟩ := sh_some h
  rw [← ho] at e1
  refine ⟨A, cc, ?_, ?_, hb⟩
  · rw [e1, e2, e3]
  · rw [e1]
    exact hO

theorem at4_by {w w' : World} {p : Addr} {a b c d : Value} (h : At4 w p a b c d) (hk : ∀ q : Addr, q.block = p.block → w'.cell? q = w.cell? q) : At4 w' p a b c d :=
  ⟨(hk p rfl).trans h.1, (hk ⟨p.block, p.off + 1, none⟩ rfl).trans h.2.1, (hk ⟨p.block, p.off + 2, none⟩ rfl).trans h.2.2.1, (hk ⟨p.block, p.off + 3, none⟩ rfl).trans h.2.2.2⟩
theorem own_lt {w : World} {base c : Nat} {ad : Addr} {l : List Int} (h : OwnI w base (some ad) c l) : ad.block < w.heap.size := by
  rcases h.2 with ⟨hv, _⟩ | ⟨g, cap, cur, hv, _, hg, _⟩
  · cases hv
  · injection hv with h1
    injection h1 with h1
    rw [h1]
    exact (Array.getElem?_eq_some_iff.1 hg).1
/-- The measure: how many edges are left. -/
def mE (v : Value) (w : World) : Nat := match v with
  | .pointer (some b) => (cN (w.cell? { block := b.block, off := b.off + 2 })).toNat
  | _ => 0
theorem mE_at {w : World} {b : Addr} {x0 x1 x3 : Value} {k : Nat} (h : At4 w b x0 x1 (.int .i64 (k : Int)) x3) : mE (.pointer (some b)) w = k := by
  show (cN (w.cell? { block := b.block, off := b.off + 2 })).toNat = k
  rw [h.2.2.1]
  rfl
def lbEq (a b : Lb) : Bool := decide (a = b)

set_option maxRecDepth 100000 in
set_option maxHeartbeats 8000000 in
theorem refShortest_any (A : Option Addr) (l : List Ed) (c : Nat) (fr tg : Int) (w : World) (hp : Es w w.heap.size A l) (hg : Grph l) :
    Calls Try.prog 23 #[.slice A l.length c, .int .i64 fr, .int .i64 tg] w (ShPost w l fr tg) := by
  have hgl := hg.1
  have k1 := Lib.hid (labels_any A l c tg w hp hg)
  have hNo := Lib.hid (fun (h : ¬ Rch l fr tg) (w' : World) => sh_no (W := w) (w' := w') h)
  have hYes := Lib.hid (fun (cc : Int) (k : Nat) (h : Best l tg fr cc k) (w' : World) (A' : Option Addr) (c' : Nat) (o : List Int) => sh_yes (W := w) (w' := w') (A := A') (cc := c') (o := o) h)
  have hP := Lib.hid hp
  have hG := Lib.hid hg
  clear hp hg
  go_enter Try.func23, Try.ntmps23
  go_upto_region 2 with (go_at_call 46; (with_reducible refine (k1.out).mono ?_); rintro e w1 ⟨A1, c1, L, rfl, h1, hlok, hst, b1⟩; (have H1 := Lib.hid h1); (have B1 := Lib.hid b1); (have hLok := Lib.hid hlok); (have hSt := Lib.hid hst); clear h1 b1 hlok hst)
  have hLl := hLok.out.len hgl
  have kF := fun (n : Int) (W : World) (h : Ls W W.heap.size A1 L) => find_any A1 L c1 n W h (by omega)
  rcases best_of_labels hLok.out hSt.out fr with ⟨bc, bk, hf, hbest⟩ | ⟨hf, hnr⟩
  · have k2 := kF fr
    have hbk := (hLok.out.bound hG.out fr).2.2.2
    rw [hf] at k2 hbk
    unfold lbV at k2
    simp only at k2 hbk
    have K2 := Lib.hid k2
    have hBst := Lib.hid hbest
    clear k2 hf hbest hNo
    go_wp2_with (go_at_call 47; (with_reducible refine (K2.out _ H1.out.ls).mono ?_); rintro e w2 ⟨rfl, b2⟩; (have D2 := Lib.hid b2); (have B2 := Lib.hid (B1.out.trans (b2.mono B1.out.size))); clear b2)
    have hgoal := Lib.hid (hYes.out bc bk hBst.out)
    obtain ⟨goal, hgo⟩ : ∃ goal, (path l tg bk fr bc).map Ed.id = goal := ⟨_, rfl⟩
    rw [hgo] at hgoal
    have hGo := Lib.hid hgo
    have hX := Lib.hid (box_four (Below.refl (w2.alloc (.cells #[.int .i64 fr, .int .i64 bc, .int .i64 (bk : Int), .bool true] 74)).heap.size _)).2.1
    obtain ⟨wx, hwx⟩ : ∃ wx, w2.alloc (.cells #[.int .i64 fr, .int .i64 bc, .int .i64 (bk : Int), .bool true] 74) = wx := ⟨_, rfl⟩
    have hwxs : wx.heap.size = w2.heap.size + 1 := by rw [← hwx]; simp
    have hBx : Hid (Below w2.heap.size w2 wx) := Lib.hid (by rw [← hwx]; exact (Below.refl _ _).alloc (Nat.le_refl _) _)
    rw [← hwxs]
    rw [hwx] at hX ⊢
    have hWs := Lib.hid hwxs
    have hB0 := Lib.hid (B2.out.trans (hBx.out.mono B2.out.size))
    clear hgo hwx hwxs hYes
    go_loopw [11, 12] (fun v p wr => ∃ (bx : Addr) (y c' : Int) (k' : Nat) (A' : Option Addr) (cc : Nat) (o : List Int), v = .slice A' o.length cc ∧ p = .pointer (some bx) ∧ o.length + k' ≤ 400 ∧ Hid (OwnI wr wx.heap.size A' cc o) ∧ Hid (Below wx.heap.size wx wr) ∧ Hid (At4 wr bx (.int .i64 y) (.int .i64 c') (.int .i64 (k' : Int)) (.bool true)) ∧ Hid (∀ ad, A' = some ad → ad.block ≠ bx.block) ∧ Hid (wx.heap.size ≤ bx.block) ∧ Hid (∃ bb bo, bx = ⟨bb, bo, none⟩) ∧ Hid (∀ q, wr.frozen? ⟨bx.block, q, none⟩ = false) ∧ Hid (Best l tg y c' k') ∧ Hid (o ++ (path l tg k' y c').map Ed.id = goal)) (fun _ p wr => mE p wr)
    case atStart => exact ⟨⟨wx.heap.size, 0, none⟩, fr, bc, bk, none, 0, [], rfl, rfl, by simp only [List.length_nil]; omega, Lib.hid (ownI_nil _ _), Lib.hid ((Below.refl _ _).alloc (Nat.le_refl _) _), Lib.hid (box_four (Below.refl (wx.alloc (.cells #[.int .i64 fr, .int .i64 bc, .int .i64 (bk : Int), .bool true] 74)).heap.size _)), Lib.hid (fun ad h => by cases h), Lib.hid (Nat.le_refl _), Lib.hid ⟨_, _, rfl⟩, Lib.hid (box_frozen (Below.refl (wx.alloc (.cells #[.int .i64 fr, .int .i64 bc, .int .i64 (bk : Int), .bool true] 74)).heap.size _)), hBst, Lib.hid (by rw [hGo.out]; rfl)⟩
    case round =>
      obtain ⟨bx, y, c', k', A', cc, o, rfl, rfl, hol, hO, hB, hA4, hne, hge, hsp, hfz, hBe, hpo⟩ := hrel
      clear hGo hBst
      cases k' with
      | zero =>
        have hE := Lib.hid (fun (n : Nat) => hgoal.out (wr.drewN n) A' cc o (by have h := hpo.out; rw [path, List.map_nil, List.append_nil] at h; exact h) ((hO.out.less (Nat.le_trans B2.out.size hBx.out.size)).drewN n) (below_drewN (hB0.out.trans (hB.out.mono hB0.out.size)) n))
        have x1 := (hB.out.cell (p := ⟨w2.heap.size, 1, none⟩) (show w2.heap.size < wx.heap.size by rw [hWs.out]; omega)).trans hX.out
        obtain ⟨s0, s1, s2, s3⟩ := hA4.out
        clear hgoal hpo hBe hP kF
        go_wp2
        go_quiet (fail)
        go_wp2
        go_ret3
        exact hE.out _
      | succ m =>
        have hBw := Lib.hid (hB0.out.trans (hB.out.mono hB0.out.size))
        have hB1w := Lib.hid (D2.out.trans ((hBx.out.trans (hB.out.mono hBx.out.size)).mono D2.out.size))
        obtain ⟨wl, rfl⟩ : ∃ wl, wl = wr := ⟨wr, rfl⟩
        have hm0 : ((m + 1 : Nat) : Int) = (m : Int) + 1 := by omega
        have hA5 : Hid (At4 wl bx (.int .i64 y) (.int .i64 c') (.int .i64 ((m : Int) + 1)) (.bool true)) := Lib.hid (by have h := hA4.out; rw [hm0] at h; exact h)
        have hmE := Lib.hid (mE_at hA4.out)
        obtain ⟨s0, s1, s2, s3⟩ := hA5.out
        have hAw : Hid (wl.cell? bx = some (.int .i64 y)) := Lib.hid hA4.out.1
        clear hA4 hm0
        go_wp2
        clear s0 s1 s2 s3
        go_loopw [11, 13] (fun v i wr => ∃ j : Nat, j ≤ l.length ∧ i = .int .i64 j ∧ v = .slice A' o.length cc ∧ Below wl.heap.size wl wr ∧ Hid (∀ e ∈ l.take j, (decide (e.frm = y) && isBest l tg e.to (c' - e.cost) m) = false)) (fun _ i _ => l.length - (intOf i).toNat)
        case atStart => exact ⟨0, by omega, rfl, rfl, Below.refl _ _, Lib.hid (by simp)⟩
        case round =>
          obtain ⟨j, hj, rfl, rfl, hb, hNo⟩ := hrel
          have hBr := Lib.hid hb
          clear hb
          by_cases hlt : j < l.length
          · obtain ⟨ad, rfl, hab, c0⟩ := hP.out.get hlt
            have hBwr := Lib.hid (hBw.out.trans (hBr.out.mono hBw.out.size))
            have hC := Lib.hid (fun (wr2 : World) (h : Below w.heap.size w wr2) => c0.keep (by rw [block_of_add]; exact hab) (fun q hq => h.cell hq))
            obtain ⟨x0, x1, x2, x3⟩ := hC.out wr hBwr.out
            have hbd := hLok.out.bound hG.out (eT l j)
            have hrg := (hG.out.2.1 _ (e_mem hlt)).2.2.2.2
            have k3 := kF (eT l j) wr ((H1.out.ls.up hB1w.out).up hBr.out)
            have kT := fun (W : World) => through_any ⟨eI l j, eF l j, eT l j, eC l j⟩ (findL L (eT l j)) W hbd.1 (by omega) hrg.1 hrg.2 hbd.2.2.1 (by omega)
            have hiff := thr_eq (x := y) (c := c') (k := m) (e := ⟨eI l j, eF l j, eT l j, eC l j⟩) hLok.out hSt.out
            have hYs := Lib.hid (fun h => nextE_at hlt hNo.out h)
            have hNs := Lib.hid (fun h => nonext_step hlt hNo.out h)
            have hbn := lok_best hLok.out hSt.out (eT l j)
            have hfn := find_node L (eT l j)
            rcases hfx : findL L (eT l j) with ⟨fn, fc, fe, fo⟩
            rw [hfx] at k3 kT hiff hfn
            simp only at kT hiff hfn
            unfold thrL at kT hiff
            unfold lbV at kT k3
            simp only at kT k3 hiff
            generalize hy0 : eI l j = y0 at *
            generalize hy1 : eF l j = y1 at *
            generalize hy2 : eT l j = y2 at *
            generalize hy3 : eC l j = y3 at *
            generalize hxc : fc + y3 = xc at *
            generalize hxe : fe + 1 = xe at *
            have hEq := Lib.hid (And.intro hfn (And.intro hxc hxe))
            have K3 := Lib.hid k3
            have KT := Lib.hid kT
            have hIff := Lib.hid hiff
            clear k3 kT hiff hbd hrg hfn hbn hfx c0 hy0 hy1 hy2 hy3 hxc hxe
            have hA6 := Lib.hid (At4.keep hA5.out (cell_lt hA5.out.1) (fun q hq => hBr.out.cell hq))
            obtain ⟨s0, s1, s2, s3⟩ := hA6.out
            go_upto_region 12 with (go_at_call 47; (with_reducible refine (K3.out).mono ?_); rintro e w4 ⟨rfl, b4⟩; (have D4 := Lib.hid b4); clear b4)
            have hN5 := Lib.hid (box_four (Below.refl (w4.alloc (.cells #[.int .i64 fn, .int .i64 fc, .int .i64 fe, .bool fo] 74)).heap.size _))
            have hD5 := Lib.hid (D4.out.alloc D4.out.size (.cells #[.int .i64 fn, .int .i64 fc, .int .i64 fe, .bool fo] 74))
            obtain ⟨w5, hw5⟩ : ∃ w5, w4.alloc (.cells #[.int .i64 fn, .int .i64 fc, .int .i64 fe, .bool fo] 74) = w5 := ⟨_, rfl⟩
            rw [hw5] at hN5 hD5 ⊢
            have hnbl : Hid (wr.heap.size ≤ w4.heap.size ∧ w4.heap.size < w5.heap.size) := Lib.hid ⟨D4.out.size, by rw [← hw5]; simp⟩
            obtain ⟨nb, hnb⟩ : ∃ nb : Addr, (⟨w4.heap.size, 0, none⟩ : Addr) = nb := ⟨_, rfl⟩
            have hN6 : Hid (At4 w5 nb (.int .i64 fn) (.int .i64 fc) (.int .i64 fe) (.bool fo)) := Lib.hid (by rw [← hnb]; exact hN5.out)
            have hNb : Hid (nb.block = w4.heap.size) := Lib.hid (by rw [← hnb])
            rw [hnb]
            have hA7 := Lib.hid (At4.keep hA6.out (cell_lt hA6.out.1) (fun q hq => hD5.out.cell hq))
            have hB5 := Lib.hid (hBwr.out.trans (hD5.out.mono hBwr.out.size))
            clear hw5 hnb hN5 D4 s0 s1 s2 s3 x0 x1 x2 x3 hA6
            go_cut [48] from 28 to 57 (fun s wx => s = .bool (lbEq ⟨y1, xc, xe, fo⟩ ⟨y, c', (m : Int) + 1, true⟩) ∧ Below w5.heap.size w5 wx)
            case first =>
              obtain ⟨x0, x1, x2, x3⟩ := hC.out w5 hB5.out
              obtain ⟨s0, s1, s2, s3⟩ := hA7.out
              obtain ⟨t0, t1, t2, t3⟩ := hN6.out
              have hC2 := Lib.hid (fun (wr2 : World) (h : Below w5.heap.size w5 wr2) => (show (wr2.cell? (ad.add (j * 4)) = some (.int .i64 y0) ∧ wr2.cell? { block := (ad.add (j * 4)).block, off := (ad.add (j * 4)).off + 1 } = some (.int .i64 y1) ∧ wr2.cell? { block := (ad.add (j * 4)).block, off := (ad.add (j * 4)).off + 2 } = some (.int .i64 y2) ∧ wr2.cell? { block := (ad.add (j * 4)).block, off := (ad.add (j * 4)).off + 3 } = some (.int .i64 y3)) ∧
                (wr2.cell? bx = some (.int .i64 y) ∧ wr2.cell? { block := bx.block, off := bx.off + 1 } = some (.int .i64 c') ∧ wr2.cell? { block := bx.block, off := bx.off + 2 } = some (.int .i64 ((m : Int) + 1)) ∧ wr2.cell? { block := bx.block, off := bx.off + 3 } = some (.bool true)) ∧
                (wr2.cell? nb = some (.int .i64 fn) ∧ wr2.cell? { block := nb.block, off := nb.off + 1 } = some (.int .i64 fc) ∧ wr2.cell? { block := nb.block, off := nb.off + 2 } = some (.int .i64 fe) ∧ wr2.cell? { block := nb.block, off := nb.off + 3 } = some (.bool fo)) from
                ⟨At4.keep ⟨x0, x1, x2, x3⟩ (cell_lt x0) (fun q hq => h.cell hq), At4.keep ⟨s0, s1, s2, s3⟩ (cell_lt s0) (fun q hq => h.cell hq), At4.keep ⟨t0, t1, t2, t3⟩ (cell_lt t0) (fun q hq => h.cell hq)⟩))
              by_cases q1 : y1 = y
              · by_cases q2 : xc = c'
                · by_cases q3 : xe = (m : Int) + 1
                  · cases fo with
                    | true =>
                      have hLB : Hid (lbEq ⟨y1, xc, xe, true⟩ ⟨y, c', (m : Int) + 1, true⟩ = true) := Lib.hid (decide_eq_true (by rw [q1, q2, q3]))
                      subst q1 q2 q3
                      go_region_held3 (fun wr2 => (wr2.cell? (ad.add (j * 4)) = some (.int .i64 y0) ∧ wr2.cell? { block := (ad.add (j * 4)).block, off := (ad.add (j * 4)).off + 1 } = some (.int .i64 y1) ∧ wr2.cell? { block := (ad.add (j * 4)).block, off := (ad.add (j * 4)).off + 2 } = some (.int .i64 y2) ∧ wr2.cell? { block := (ad.add (j * 4)).block, off := (ad.add (j * 4)).off + 3 } = some (.int .i64 y3)) ∧
                        (wr2.cell? bx = some (.int .i64 y1) ∧ wr2.cell? { block := bx.block, off := bx.off + 1 } = some (.int .i64 xc) ∧ wr2.cell? { block := bx.block, off := bx.off + 2 } = some (.int .i64 ((m : Int) + 1)) ∧ wr2.cell? { block := bx.block, off := bx.off + 3 } = some (.bool true)) ∧
                        (wr2.cell? nb = some (.int .i64 fn) ∧ wr2.cell? { block := nb.block, off := nb.off + 1 } = some (.int .i64 fc) ∧ wr2.cell? { block := nb.block, off := nb.off + 2 } = some (.int .i64 fe) ∧ wr2.cell? { block := nb.block, off := nb.off + 3 } = some (.bool true)))
                        (first
                          | exact ⟨⟨x0, x1, x2, x3⟩, ⟨s0, s1, s2, s3⟩, t0, t1, t2, t3⟩
                          | exact hC2.out _ D6.out
                          | exact hC2.out _ (Below.drew (Below.refl _ _))
                          | go_keep)
                        (first
                          | (go_at_call 48; (with_reducible refine (KT.out _).mono ?_); rintro e w6 ⟨rfl, b6⟩; (have D6 : Hid (Below w5.heap.size w5 w6) := Lib.hid ((Below.drew (Below.refl w5.heap.size w5)).trans b6)); clear b6))
                      all_goals
                        go_wp2_with fail
                        go_meet
                        exact ⟨by rw [hLB.out], D6.out⟩
                    | false =>
                      have hLB : Hid (lbEq ⟨y1, xc, xe, false⟩ ⟨y, c', (m : Int) + 1, true⟩ = false) := Lib.hid (decide_eq_false (by simp))
                      subst q1 q2 q3
                      go_region_held3 (fun wr2 => (wr2.cell? (ad.add (j * 4)) = some (.int .i64 y0) ∧ wr2.cell? { block := (ad.add (j * 4)).block, off := (ad.add (j * 4)).off + 1 } = some (.int .i64 y1) ∧ wr2.cell? { block := (ad.add (j * 4)).block, off := (ad.add (j * 4)).off + 2 } = some (.int .i64 y2) ∧ wr2.cell? { block := (ad.add (j * 4)).block, off := (ad.add (j * 4)).off + 3 } = some (.int .i64 y3)) ∧
                        (wr2.cell? bx = some (.int .i64 y1) ∧ wr2.cell? { block := bx.block, off := bx.off + 1 } = some (.int .i64 xc) ∧ wr2.cell? { block := bx.block, off := bx.off + 2 } = some (.int .i64 ((m : Int) + 1)) ∧ wr2.cell? { block := bx.block, off := bx.off + 3 } = some (.bool true)) ∧
                        (wr2.cell? nb = some (.int .i64 fn) ∧ wr2.cell? { block := nb.block, off := nb.off + 1 } = some (.int .i64 fc) ∧ wr2.cell? { block := nb.block, off := nb.off + 2 } = some (.int .i64 fe) ∧ wr2.cell? { block := nb.block, off := nb.off + 3 } = some (.bool false)))
                        (first
                          | exact ⟨⟨x0, x1, x2, x3⟩, ⟨s0, s1, s2, s3⟩, t0, t1, t2, t3⟩
                          | exact hC2.out _ D6.out
                          | exact hC2.out _ (Below.drew (Below.refl _ _))
                          | go_keep)
                        (first
                          | (go_at_call 48; (with_reducible refine (KT.out _).mono ?_); rintro e w6 ⟨rfl, b6⟩; (have D6 : Hid (Below w5.heap.size w5 w6) := Lib.hid ((Below.drew (Below.refl w5.heap.size w5)).trans b6)); clear b6))
                      all_goals
                        go_wp2_with fail
                        go_meet
                        exact ⟨by rw [hLB.out], D6.out⟩
                  · have hLB : Hid (lbEq ⟨y1, xc, xe, fo⟩ ⟨y, c', (m : Int) + 1, true⟩ = false) := Lib.hid (decide_eq_false (by simp [q3]))
                    have qb := beq_eq_false_iff_ne.2 q3
                    have qd := decide_eq_false q3
                    subst q1 q2
                    go_region_held3 (fun wr2 => (wr2.cell? (ad.add (j * 4)) = some (.int .i64 y0) ∧ wr2.cell? { block := (ad.add (j * 4)).block, off := (ad.add (j * 4)).off + 1 } = some (.int .i64 y1) ∧ wr2.cell? { block := (ad.add (j * 4)).block, off := (ad.add (j * 4)).off + 2 } = some (.int .i64 y2) ∧ wr2.cell? { block := (ad.add (j * 4)).block, off := (ad.add (j * 4)).off + 3 } = some (.int .i64 y3)) ∧
                      (wr2.cell? bx = some (.int .i64 y1) ∧ wr2.cell? { block := bx.block, off := bx.off + 1 } = some (.int .i64 xc) ∧ wr2.cell? { block := bx.block, off := bx.off + 2 } = some (.int .i64 ((m : Int) + 1)) ∧ wr2.cell? { block := bx.block, off := bx.off + 3 } = some (.bool true)) ∧
                      (wr2.cell? nb = some (.int .i64 fn) ∧ wr2.cell? { block := nb.block, off := nb.off + 1 } = some (.int .i64 fc) ∧ wr2.cell? { block := nb.block, off := nb.off + 2 } = some (.int .i64 fe) ∧ wr2.cell? { block := nb.block, off := nb.off + 3 } = some (.bool fo)))
                      (first
                        | exact ⟨⟨x0, x1, x2, x3⟩, ⟨s0, s1, s2, s3⟩, t0, t1, t2, t3⟩
                        | exact hC2.out _ D6.out
                        | exact hC2.out _ (Below.drew (Below.refl _ _))
                        | go_keep)
                      (first
                        | (go_at_call 48; (with_reducible refine (KT.out _).mono ?_); rintro e w6 ⟨rfl, b6⟩; (have D6 : Hid (Below w5.heap.size w5 w6) := Lib.hid ((Below.drew (Below.refl w5.heap.size w5)).trans b6)); clear b6))
                    all_goals
                      go_wp2_with fail
                      go_meet
                      exact ⟨by rw [hLB.out], D6.out⟩
                · have hLB : Hid (lbEq ⟨y1, xc, xe, fo⟩ ⟨y, c', (m : Int) + 1, true⟩ = false) := Lib.hid (decide_eq_false (by simp [q2]))
                  have qb := beq_eq_false_iff_ne.2 q2
                  have qd := decide_eq_false q2
                  subst q1
                  go_region_held3 (fun wr2 => (wr2.cell? (ad.add (j * 4)) = some (.int .i64 y0) ∧ wr2.cell? { block := (ad.add (j * 4)).block, off := (ad.add (j * 4)).off + 1 } = some (.int .i64 y1) ∧ wr2.cell? { block := (ad.add (j * 4)).block, off := (ad.add (j * 4)).off + 2 } = some (.int .i64 y2) ∧ wr2.cell? { block := (ad.add (j * 4)).block, off := (ad.add (j * 4)).off + 3 } = some (.int .i64 y3)) ∧
                    (wr2.cell? bx = some (.int .i64 y1) ∧ wr2.cell? { block := bx.block, off := bx.off + 1 } = some (.int .i64 c') ∧ wr2.cell? { block := bx.block, off := bx.off + 2 } = some (.int .i64 ((m : Int) + 1)) ∧ wr2.cell? { block := bx.block, off := bx.off + 3 } = some (.bool true)) ∧
                    (wr2.cell? nb = some (.int .i64 fn) ∧ wr2.cell? { block := nb.block, off := nb.off + 1 } = some (.int .i64 fc) ∧ wr2.cell? { block := nb.block, off := nb.off + 2 } = some (.int .i64 fe) ∧ wr2.cell? { block := nb.block, off := nb.off + 3 } = some (.bool fo)))
                    (first
                      | exact ⟨⟨x0, x1, x2, x3⟩, ⟨s0, s1, s2, s3⟩, t0, t1, t2, t3⟩
                      | exact hC2.out _ D6.out
                      | exact hC2.out _ (Below.drew (Below.refl _ _))
                      | go_keep)
                    (first
                      | (go_at_call 48; (with_reducible refine (KT.out _).mono ?_); rintro e w6 ⟨rfl, b6⟩; (have D6 : Hid (Below w5.heap.size w5 w6) := Lib.hid ((Below.drew (Below.refl w5.heap.size w5)).trans b6)); clear b6))
                  all_goals
                    go_wp2_with fail
                    go_meet
                    exact ⟨by rw [hLB.out], D6.out⟩
              · have hLB : Hid (lbEq ⟨y1, xc, xe, fo⟩ ⟨y, c', (m : Int) + 1, true⟩ = false) := Lib.hid (decide_eq_false (by simp [q1]))
                have qb := beq_eq_false_iff_ne.2 q1
                have qd := decide_eq_false q1
                go_region_held3 (fun wr2 => (wr2.cell? (ad.add (j * 4)) = some (.int .i64 y0) ∧ wr2.cell? { block := (ad.add (j * 4)).block, off := (ad.add (j * 4)).off + 1 } = some (.int .i64 y1) ∧ wr2.cell? { block := (ad.add (j * 4)).block, off := (ad.add (j * 4)).off + 2 } = some (.int .i64 y2) ∧ wr2.cell? { block := (ad.add (j * 4)).block, off := (ad.add (j * 4)).off + 3 } = some (.int .i64 y3)) ∧
                  (wr2.cell? bx = some (.int .i64 y) ∧ wr2.cell? { block := bx.block, off := bx.off + 1 } = some (.int .i64 c') ∧ wr2.cell? { block := bx.block, off := bx.off + 2 } = some (.int .i64 ((m : Int) + 1)) ∧ wr2.cell? { block := bx.block, off := bx.off + 3 } = some (.bool true)) ∧
                  (wr2.cell? nb = some (.int .i64 fn) ∧ wr2.cell? { block := nb.block, off := nb.off + 1 } = some (.int .i64 fc) ∧ wr2.cell? { block := nb.block, off := nb.off + 2 } = some (.int .i64 fe) ∧ wr2.cell? { block := nb.block, off := nb.off + 3 } = some (.bool fo)))
                  (first
                    | exact ⟨⟨x0, x1, x2, x3⟩, ⟨s0, s1, s2, s3⟩, t0, t1, t2, t3⟩
                    | exact hC2.out _ D6.out
                    | exact hC2.out _ (Below.drew (Below.refl _ _))
                    | go_keep)
                  (first
                    | (go_at_call 48; (with_reducible refine (KT.out _).mono ?_); rintro e w6 ⟨rfl, b6⟩; (have D6 : Hid (Below w5.heap.size w5 w6) := Lib.hid ((Below.drew (Below.refl w5.heap.size w5)).trans b6)); clear b6))
                all_goals
                  go_wp2_with fail
                  go_meet
                  exact ⟨by rw [hLB.out], D6.out⟩
            case rest =>
              obtain ⟨rfl, hb7⟩ := hcut
              obtain ⟨w7, rfl⟩ : ∃ w7, w7 = wc := ⟨wc, rfl⟩
              have hD7 := Lib.hid (hD5.out.trans (hb7.mono hD5.out.size))
              have hL7 := Lib.hid (hBr.out.trans (hD7.out.mono hBr.out.size))
              have hA8 := Lib.hid (At4.keep hA7.out (cell_lt hA7.out.1) (fun q hq => hb7.cell hq))
              have hN8 := Lib.hid (At4.keep hN6.out (cell_lt hN6.out.1) (fun q hq => hb7.cell hq))
              have hO7 := Lib.hid (hO.out.up hL7.out)
              have hB7 := Lib.hid (hB.out.trans (hL7.out.mono hB.out.size))
              obtain ⟨x0, x1, x2, x3⟩ := hC.out w7 (hB5.out.trans (hb7.mono hB5.out.size))
              clear x1 x2 x3 hb7 hA7 hN6 hA5
              rcases hlb : lbEq ⟨y1, xc, xe, fo⟩ ⟨y, c', (m : Int) + 1, true⟩ with _ | _
              · have hN := Lib.hid (hNs.out (by
                  have h : ¬ (⟨y1, xc, xe, fo⟩ : Lb) = ⟨y, c', (m : Int) + 1, true⟩ := of_decide_eq_false hlb
                  cases hq : (decide (y1 = y) && isBest l tg y2 (c' - y3) m) with
                  | false => rfl
                  | true => exact absurd (hIff.out.2 hq) h))
                clear hYs hNs hlb hIff hC
                go_wp2
                exact ⟨⟨j + 1, by omega, by go_num, rfl, hL7.out, hN⟩, by simp [intOf]; omega⟩
              · have hcond : (decide (y1 = y) && isBest l tg y2 (c' - y3) m) = true := hIff.out.1 (of_decide_eq_true hlb)
                have hnx := hYs.out hcond
                have hbest2 : Hid (Best l tg y2 (c' - y3) m) := Lib.hid (by rw [Bool.and_eq_true] at hcond; exact isBest_iff.1 hcond.2)
                have hps : Hid (o ++ [y0] ++ (path l tg m y2 (c' - y3)).map Ed.id = goal) := Lib.hid (by rw [← hpo.out, path_step hnx, List.map_cons, List.append_assoc]; rfl)
                have hlab : fn = y2 ∧ fc = c' - y3 ∧ fe = (m : Int) ∧ fo = true := by
                  have h : (⟨y1, xc, xe, fo⟩ : Lb) = ⟨y, c', (m : Int) + 1, true⟩ := of_decide_eq_true hlb
                  obtain ⟨q1, q2, q3⟩ := hEq.out
                  simp only [Lb.mk.injEq] at h
                  exact ⟨q1, by omega, by omega, h.2.2.2⟩
                clear hYs hNs hlb hIff hC hcond hnx hEq
                obtain ⟨l1, l2, l3, l4⟩ := hlab
                rw [l1, l2, l3, l4] at hN8
                clear l1 l2 l3 l4
                obtain ⟨bb, bo, hbx⟩ : ∃ bb bo, bx = ⟨bb, bo, none⟩ := hsp.out
                have hlt7 : Hid (bx.block < w7.heap.size) := Lib.hid (cell_lt hA8.out.1)
                have hfz7 : Hid (∀ q, w7.frozen? ⟨bx.block, q, none⟩ = false) := Lib.hid (fun q => (hL7.out.frozen (p := ⟨bx.block, q, none⟩) (show bx.block < wl.heap.size from cell_lt hAw.out)).trans (hfz.out q))
                have hnn : Hid (∀ ad, A' = some ad → ad.block ≠ nb.block) := Lib.hid (fun ad h => by
                  subst h
                  have h1 := hnbl.out
                  rw [← hNb.out] at h1
                  have h2 := own_lt hO.out
                  have h3 := hBr.out.size
                  omega)
                have hnl : Hid (nb.block < w7.heap.size) := Lib.hid (cell_lt hN8.out.1)
                subst hbx
                generalize c' - y3 = c2 at *
                have hol2 : o.length ≤ 1000000000 := by omega
                go_wp2_with (at_builtin; refine wpList_app_int_lies rfl (.tmp 49) (.tmp 55) rfl rfl rfl hO7.out hB7.out (Nat.le_refl _) hol2 ?_; intro g8 c8 w8 h8 d8 k8 l8 z8; (have H8 := Lib.hid h8); (have D8 := Lib.hid d8); (have Z8 := Lib.hid z8); (have L8 := Lib.hid l8); (obtain ⟨s0, s1, s2, s3⟩ := at4_by hA8.out (fun q hq => (k8 q (by rw [hq]; exact hlt7.out) (fun ad ha => by rw [hq]; exact hne.out ad ha)).1)); (obtain ⟨t0, t1, t2, t3⟩ := at4_by hN8.out (fun q hq => (k8 q (by rw [hq]; exact hnl.out) (fun ad ha => by rw [hq]; exact hnn.out ad ha)).1)); (have f0 : ∀ q, w8.frozen? ⟨bb, q, none⟩ = false := fun q => ((k8 ⟨bb, q, none⟩ hlt7.out (fun ad ha => hne.out ad ha)).2).trans (hfz7.out q)); clear h8 d8 k8 l8 z8)
                have hgb : g8 ≠ bb := by
                  rcases L8.out with ⟨ad, h1, h2⟩ | h1
                  · rw [← h2]
                    exact hne.out ad h1
                  · have : bb < w7.heap.size := hlt7.out
                    omega
                have hg8 := own_lt H8.out
                have hps8 := put4_size w8 bb bo ⟨y2, c2, m, true⟩
                have hgeb : wx.heap.size ≤ bb := hge.out
                have hb8 := below_put4 D8.out hgeb bo ⟨y2, c2, m, true⟩
                generalize hW : (((((w8.setCell ⟨bb, bo, none⟩ (.int .i64 y2)).setCell ⟨bb, bo + 1, none⟩ (.int .i64 c2)).setCell ⟨bb, bo + 2, none⟩ (.int .i64 (m : Int))).setCell ⟨bb, bo + 3, none⟩ (.bool true)).alloc (.cells #[.int .i64 y2, .int .i64 c2, .int .i64 (m : Int), .bool true] 74)) = W
                have hW2 : (put4 w8 bb bo ⟨y2, c2, m, true⟩).alloc (.cells #[.int .i64 y2, .int .i64 c2, .int .i64 (m : Int), .bool true] 74) = W := by rw [← hW, put4]
                have hAt := box_four (Below.refl ((put4 w8 bb bo ⟨y2, c2, m, true⟩).alloc (.cells #[.int .i64 y2, .int .i64 c2, .int .i64 (m : Int), .bool true] 74)).heap.size _)
                have hFz := box_frozen (Below.refl ((put4 w8 bb bo ⟨y2, c2, m, true⟩).alloc (.cells #[.int .i64 y2, .int .i64 c2, .int .i64 (m : Int), .bool true] 74)).heap.size _)
                have hOw : OwnI ((put4 w8 bb bo ⟨y2, c2, m, true⟩).alloc (.cells #[.int .i64 y2, .int .i64 c2, .int .i64 (m : Int), .bool true] 74)) wx.heap.size (some ⟨g8, 0, none⟩) c8 (o ++ [y0]) := World.ownsRow.alloc (own_put4 H8.out hgb) _
                have hBl := hb8.alloc hb8.size (.cells #[.int .i64 y2, .int .i64 c2, .int .i64 (m : Int), .bool true] 74)
                have hSz := hb8.size
                rw [hps8] at hAt hFz hSz
                rw [hW2] at hAt hFz hOw hBl
                have hAt4 : At4 W ⟨w8.heap.size, 0, none⟩ (.int .i64 y2) (.int .i64 c2) (.int .i64 (m : Int)) (.bool true) := hAt
                have hM : mE (.pointer (some ⟨w8.heap.size, 0, none⟩)) W < mE (.pointer (some ⟨bb, bo, none⟩)) wl := by
                  rw [mE_at hAt4, hmE.out]
                  omega
                have hln : (o ++ [y0]).length = o.length + 1 := by simp
                clear hW hW2 hAt hb8 hps8
                exact ⟨⟨⟨w8.heap.size, 0, none⟩, y2, c2, m, some ⟨g8, 0, none⟩, c8, o ++ [y0], by rw [hln], rfl, by omega, Lib.hid hOw, Lib.hid hBl, Lib.hid hAt4, Lib.hid (fun ad h => by injection h with h; rw [← h]; exact Nat.ne_of_lt hg8), Lib.hid hSz, Lib.hid ⟨_, _, rfl⟩, Lib.hid hFz, hbest2, hps⟩, hM⟩
          · exfalso
            obtain rfl : j = l.length := by omega
            exact next_found hBe.out hNo.out
  · have k2 := kF fr
    rw [hf] at k2
    unfold lbV at k2
    simp only at k2
    have K2 := Lib.hid k2
    have hE := Lib.hid (hNo.out hnr)
    clear k2 hf hnr hYes kF
    go_wp2_with (go_at_call 47; (with_reducible refine (K2.out _ H1.out.ls).mono ?_); rintro e w2 ⟨rfl, b2⟩; (have B2 := Lib.hid (B1.out.trans (b2.mono B1.out.size))); clear b2)
    go_ret3
    exact hE.out _ (B2.out.alloc B2.out.size _)
end Go.Proofs.Ytlaklfiodmnocaa
