/-
  The law ChooseAdds of the program holds: for every input that its row admits the call returns true, and the arguments read as before. Conditions: those of the row alone.
-/
import Derived.Test.YtjbfkbdjopbjjaaStep
namespace Go.Proofs.Ytjbfkbdjopbjjaa.lawAdds
open Go.ChangeShapes Go.WideShapes Go.ChangeAt Go.RowKit

set_option maxRecDepth 100000 in
set_option maxHeartbeats 8000000 in
theorem walk (A0 : Option Addr) (l0 : List It) (c0 : Nat) (a1 b1 k1 : Int) (a2 b2 : Int) (w : World) (m0 : l0.length ≤ 9223372036854775807) (q0 : l0.length ≤ c0) (p0 : Its w w.heap.size A0 l0) (n0 : A0 = none → c0 = 0) (z0 : c0 * 24 ≤ 140737488351232)  (f2 : Hid (-9223372036854775808 ≤ a2 ∧ a2 ≤ 9223372036854775807)) (g2 : Hid (-9223372036854775808 ≤ b2 ∧ b2 ≤ 9223372036854775807)) :
    Calls Try.prog 9 #[.slice A0 l0.length c0, .agg #[.int .i64 a1, .int .i64 b1, .int .i64 k1], .agg #[.int .i64 a2, .int .i64 b2]] w fun e w' => e = .returned (.bool true) ∧ Below w.heap.size w w' := by
  have hcell := World.news_of_block (heap_alloc_new w (.cells #[.int .i64 a1, .int .i64 b1, .int .i64 k1] 42))
  have hB0 : Hid (Below w.heap.size w ((w.alloc (.cells #[.int .i64 a1, .int .i64 b1, .int .i64 k1] 42)).alloc (.cells #[.int .i64 a2, .int .i64 b2] 36))) := Lib.hid ((below_new w _).alloc (by simp) _)
  have hI0 : Hid (At3 ((w.alloc (.cells #[.int .i64 a1, .int .i64 b1, .int .i64 k1] 42)).alloc (.cells #[.int .i64 a2, .int .i64 b2] 36)) ⟨w.heap.size, 0, none⟩ (.int .i64 a1) (.int .i64 b1) (.int .i64 k1)) := Lib.hid (At3.keep (B := (w.alloc (.cells #[.int .i64 a1, .int .i64 b1, .int .i64 k1] 42)).heap.size) ⟨hcell 0 _ rfl, hcell 1 _ rfl, hcell 2 _ rfl⟩ (by simp) (fun q hq => (below_new _ _).cell hq))
  have hX0 : Hid (Bx2 ((w.alloc (.cells #[.int .i64 a1, .int .i64 b1, .int .i64 k1] 42)).alloc (.cells #[.int .i64 a2, .int .i64 b2] 36)) (w.heap.size + 1) (.int .i64 a2) (.int .i64 b2)) := Lib.hid (by have := bx2_new (w.alloc (.cells #[.int .i64 a1, .int .i64 b1, .int .i64 k1] 42)) (.int .i64 a2) (.int .i64 b2) 36; simpa using this)
  have hS0 : Hid (w.heap.size + 1 < ((w.alloc (.cells #[.int .i64 a1, .int .i64 b1, .int .i64 k1] 42)).alloc (.cells #[.int .i64 a2, .int .i64 b2] 36)).heap.size) := Lib.hid (by simp)
  clear hcell
  obtain ⟨L, hL⟩ : ∃ L, l0 ++ [(⟨a1, b1, k1⟩ : It)] = L := ⟨_, rfl⟩
  have hlen : L.length = l0.length + 1 := by rw [← hL]; simp
  have hLh := Lib.hid hL
  have hLlen := Lib.hid hlen
  have hF := Lib.hid (fun (W : World) (b : Below w.heap.size w W) => its_feed (p0.up b) n0 q0)
  have KR := Lib.hid (fun (A : Option Addr) (c base : Nat) (W : World) (ho : OwnT W base A c L) => (show Calls Try.prog 12 #[.slice A (l0.length + 1) c] W (fun e w' => e = .returned (.int .i64 (errN L)) ∧ Below W.heap.size W w') by
    have k := gRight_any A L c W ho.its ho.cap (by omega)
    rw [hlen] at k
    exact k))
  by_cases h0 : errN L = 0
  · have hrt := errN_iff.1 h0
    have hrt0 : Rt l0 := ⟨by have := hrt.1; omega, fun z hz => hrt.2 z (by rw [← hL]; exact List.mem_append_left _ hz)⟩
    have hk1 := (hrt.2 ⟨a1, b1, k1⟩ (by rw [← hL]; simp)).2.2
    have K1 := Lib.hid (fun (W : World) (b : Below w.heap.size w W) => best_ok (a := a2) (b := b2) (p0.up b) q0 hrt0 f2.out g2.out)
    have KN1 := Lib.hid (fun (W : World) (b : Below w.heap.size w W) (B : Option Addr) (c : Nat) (x : List Int) (V : Int) (hq : Rd W W.heap.size B c (cellsI x)) (hx : Ch l0.length x) (hV : sK (iV l0) x = V) => need_ok (p0.up b) q0 hrt0 hq hx hV)
    have K2 := Lib.hid (fun (A : Option Addr) (c base : Nat) (W : World) (ho : OwnT W base A c L) => (show Calls Try.prog 18 #[.slice A (l0.length + 1) c, .int .i64 a2, .int .i64 b2] W (fun e w' => ∃ (B : Option Addr) (c : Nat) (x : List Int), e = .returned (.tuple #[.slice B x.length c, .int .i64 0]) ∧ OwnI w' W.heap.size B c x ∧ Bst L a2 b2 x ∧ Below W.heap.size W w') by
      have k := best_ok (a := a2) (b := b2) (w := W) ho.its ho.cap hrt f2.out g2.out
      rw [hlen] at k
      exact k))
    have KN2 := Lib.hid (fun (A : Option Addr) (c base : Nat) (W : World) (ho : OwnT W base A c L) (B : Option Addr) (cx : Nat) (x : List Int) (V : Int) (hq : Rd W W.heap.size B cx (cellsI x)) (hx : Ch L.length x) (hV : sK (iV L) x = V) => (show Calls Try.prog 14 #[.slice A (l0.length + 1) c, .slice B x.length cx] W (fun e w' => ∃ s1 s2 : Int, e = .returned (.tuple #[.int .i64 s1, .int .i64 s2, .int .i64 V, .bool true]) ∧ Below W.heap.size W w') by
      have k := need_ok (w := W) ho.its ho.cap hrt hq hx hV
      rw [hlen] at k
      exact k))
    have hA := Lib.hid (fun (x y : List Int) (hx : Bst l0 a2 b2 x) (hy : Bst L a2 b2 y) => (show sK (iV l0) x ≤ sK (iV L) y ∧ sK (iV L) y ≤ sK (iV l0) x + k1 by subst hL; exact Bst.adds hrt hx hy))
    have hV1 := Lib.hid (fun (x : List Int) (hx : Bst l0 a2 b2 x) => (fit_bounds hrt0 hx.ch).2.2)
    rw [h0] at KR
    clear p0 n0 h0 hrt hrt0 hL hlen
    go_enter Try.func9, Try.ntmps9
    go_upto_region 3 with (go_at_call 11; refine (alive_any _).mono ?_; rintro e w1 ⟨rfl, b1'⟩; (have B1 := Lib.hid (hB0.out.trans (b1'.mono hB0.out.size))); (have X1 := Lib.hid (hX0.out.up b1')); (have I1 := Lib.hid (hI0.out.keep (Nat.lt_trans (Nat.lt_succ_self _) hS0.out) (fun q hq => b1'.cell hq))); (have S1 := Lib.hid (Nat.lt_of_lt_of_le hS0.out b1'.size)); clear b1')
    have hS := Lib.hid (fun (W : World) (b : Below w1.heap.size w1 W) => (show W.cell? ⟨w.heap.size, 0, none⟩ = some (.int .i64 a1) ∧ W.cell? ⟨w.heap.size, 1, none⟩ = some (.int .i64 b1) ∧ W.cell? ⟨w.heap.size, 2, none⟩ = some (.int .i64 k1) from I1.out.keep (p := ⟨w.heap.size, 0, none⟩) (Nat.lt_trans (Nat.lt_succ_self _) S1.out) (fun q hq => b.cell hq)))
    have hEa : Hid (OwnT ((w1.alloc (.cells #[] 42)).drew) w1.heap.size (some ⟨w1.heap.size, 0, none⟩) 0 []) := Lib.hid (ownT_empty w1 (Nat.le_refl _))
    have hEb : Hid (OwnT (((w1.alloc (.cells #[] 42)).alloc (.cells #[.int .i64 a1, .int .i64 b1, .int .i64 k1] 42)).drew) w1.heap.size (some ⟨w1.heap.size, 0, none⟩) 0 []) := Lib.hid (World.ownsRow.alloc (ownT_empty w1 (Nat.le_refl _)) _)
    have hEc : Hid (OwnT (((w1.alloc (.cells #[.int .i64 a1, .int .i64 b1, .int .i64 k1] 42)).alloc (.cells #[] 42)).drew) w1.heap.size (some ⟨w1.heap.size + 1, 0, none⟩) 0 []) := Lib.hid (OwnT.drew (by have := ownT_empty (w1.alloc (.cells #[.int .i64 a1, .int .i64 b1, .int .i64 k1] 42)) (base := w1.heap.size) (by simp); simpa using this))
    have hFa := Lib.hid (hF.out ((w1.alloc (.cells #[] 42)).drew) (bthen B1.out (below_new w1 _).drew))
    have hFb := Lib.hid (hF.out (((w1.alloc (.cells #[] 42)).alloc (.cells #[.int .i64 a1, .int .i64 b1, .int .i64 k1] 42)).drew) (bthen B1.out ((below_new w1 _).alloc (by simp) _).drew))
    have hFc := Lib.hid (hF.out (((w1.alloc (.cells #[.int .i64 a1, .int .i64 b1, .int .i64 k1] 42)).alloc (.cells #[] 42)).drew) (bthen B1.out ((below_new w1 _).alloc (by simp) _).drew))
    go_region_held3 (fun W => W.cell? ⟨w.heap.size, 0, none⟩ = some (.int .i64 a1) ∧ W.cell? ⟨w.heap.size, 1, none⟩ = some (.int .i64 b1) ∧ W.cell? ⟨w.heap.size, 2, none⟩ = some (.int .i64 k1)) (first
      | exact hS.out _ B6.out
      | exact hS.out _ (B5.out.alloc B5.out.size _)
      | exact hS.out _ B5.out
      | exact hS.out _ ((below_new w1 _).alloc (by simp) _).drew
      | exact hS.out _ (below_new w1 _).drew
      | exact hS.out _ (Below.refl _ _).drew) (first
      | (refine step_app_T _ rfl (.tmp 22) (.tmp 23) rfl (l := []) (m := l0) (k := l0.length) rfl rfl hEa.out hFa.out (by simp) (by omega) (below_new w1 _).size ?_; intro A5 c5 w5 h5 g5; (have O5 := Lib.hid h5); (have B5 := Lib.hid (below_grown (below_new w1 _).drew hEa.out g5 (Nat.le_refl _) (below_new w1 _).size)); clear h5 g5)
      | (refine step_app_T _ rfl (.tmp 22) (.tmp 23) rfl (l := []) (m := l0) (k := l0.length) rfl rfl hEb.out hFb.out (by simp) (by omega) ((below_new w1 _).alloc (by simp) _).size ?_; intro A5 c5 w5 h5 g5; (have O5 := Lib.hid h5); (have B5 := Lib.hid (below_grown ((below_new w1 _).alloc (by simp) _).drew hEb.out g5 (Nat.le_refl _) ((below_new w1 _).alloc (by simp) _).size)); (have F5 : Hid (Feed 3 w5 (.slice (some ⟨w1.heap.size + 1, 0, none⟩) 1 1) 1 (cellsT [(⟨a1, b1, k1⟩ : It)])) := Lib.hid (feed_grown (by have := item_feed (w1.alloc (.cells #[] 42)) ⟨a1, b1, k1⟩; simpa using this.drew) g5 (by show _ < ((w1.alloc _).alloc _).heap.size; simp) (by simp [Value.ownBlock]))); clear h5 g5)
      | (refine step_app_T _ rfl (.tmp 22) (.tmp 23) rfl (l := []) (m := l0) (k := l0.length) rfl rfl hEc.out hFc.out (by simp) (by omega) ((below_new w1 _).alloc (by simp) _).size ?_; intro A5 c5 w5 h5 g5; (have O5 := Lib.hid h5); (have B5 := Lib.hid (below_grown ((below_new w1 _).alloc (by simp) _).drew hEc.out g5 (Nat.le_refl _) ((below_new w1 _).alloc (by simp) _).size)); (have F5 : Hid (Feed 3 w5 (.slice (some ⟨w1.heap.size, 0, none⟩) 1 1) 1 (cellsT [(⟨a1, b1, k1⟩ : It)])) := Lib.hid (feed_grown (((item_feed w1 ⟨a1, b1, k1⟩).alloc (by simp) _).drew) g5 (by show _ < ((w1.alloc _).alloc _).heap.size; simp; omega) (by simp [Value.ownBlock]))); clear h5 g5)
      | (refine step_app_T _ rfl (.tmp 24) (.tmp 26) rfl (m := [(⟨a1, b1, k1⟩ : It)]) (k := l0.length + 1) rfl rfl (World.ownsRow.alloc O5.out _) (item_feed w5 ⟨a1, b1, k1⟩) rfl (by omega) (Nat.le_trans B5.out.size (by simp)) ?_; intro A6 c6 w6 h6 g6; (have O6 := Lib.hid h6); (have B6 := Lib.hid (below_grown (B5.out.alloc B5.out.size _) (World.ownsRow.alloc O5.out _) g6 (Nat.le_refl _) (Nat.le_trans B5.out.size (by simp)))); clear h6 g6)
      | (refine step_app_T _ rfl (.tmp 24) (.tmp 26) rfl (m := [(⟨a1, b1, k1⟩ : It)]) (k := l0.length + 1) rfl rfl O5.out F5.out rfl (by omega) B5.out.size ?_; intro A6 c6 w6 h6 g6; (have O6 := Lib.hid h6); (have B6 := Lib.hid (below_grown B5.out O5.out g6 (Nat.le_refl _) B5.out.size)); clear h6 g6)
      | fail)
    all_goals
      have O6 := Lib.hid (show OwnT w6 w1.heap.size A6 c6 L by rw [← hLh.out]; exact O6.out)
      go_wp2_with (first
        | (go_at_call 12; (with_reducible refine (KR.out A6 c6 _ w6 O6.out).mono ?_); rintro e w7 ⟨rfl, b7⟩; (have D7 := Lib.hid (bthen B6.out b7)); (have O7 := Lib.hid (O6.out.up b7)); (obtain ⟨x1, x2⟩ := X1.out.up D7.out); clear b7)
        | (go_at_call 18; (with_reducible refine (K1.out w7 (bthen B1.out D7.out)).mono ?_); rintro e w8 ⟨A8, c8, x, rfl, h8, k8, b8⟩; (have P8 := Lib.hid h8); (have X8 := Lib.hid k8); (have D8 := Lib.hid (bthen D7.out b8)); (have O8 := Lib.hid (O7.out.up b8)); (obtain ⟨y1, y2⟩ := X1.out.up D8.out); clear h8 k8 b8 x1 x2)
        | (go_at_call 18; (with_reducible refine (K2.out A6 c6 _ w8 O8.out).mono ?_); rintro e w9 ⟨A9, c9, y, rfl, h9, k9, b9⟩; (have P9 := Lib.hid h9); (have D9 := Lib.hid (bthen D8.out b9)); (have O9 := Lib.hid (O8.out.up b9)); (obtain ⟨V, hV⟩ : ∃ V, sK (iV l0) x = V := ⟨_, rfl⟩); (obtain ⟨U, hU⟩ : ∃ U, sK (iV L) y = U := ⟨_, rfl⟩); (obtain ⟨t1, t2⟩ := hA.out x y X8.out k9); (obtain ⟨r1, r2⟩ := hV1.out x X8.out); rw [hV] at t1 t2 r1 r2; rw [hU] at t1 t2; (have N1 := Lib.hid (KN1.out w9 (bthen B1.out D9.out) A8 c8 x V (P8.out.up b9).rd X8.out.ch hV)); (have N2 := Lib.hid (fun (W : World) (ho : OwnT W w1.heap.size A6 c6 L) (hq : Rd W W.heap.size A9 c9 (cellsI y)) => KN2.out A6 c6 _ W ho A9 c9 y U hq k9.ch hU)); clear h9 k9 b9 y1 y2 hV hU)
        | (go_at_call 14; (with_reducible refine (N1.out).mono ?_); rintro e w10 ⟨s1', s2', rfl, b10⟩; (have D10 := Lib.hid (bthen D9.out b10)); (have N3 := Lib.hid (N2.out w10 (O9.out.up b10) (P9.out.up b10).rd)); clear b10)
        | (go_at_call 14; (with_reducible refine (N3.out).mono ?_); rintro e w11 ⟨s3', s4', rfl, b11⟩; (have D11 := Lib.hid (bthen D10.out b11)); (have hz : w11.cell? ⟨w.heap.size, 2, none⟩ = some (.int .i64 k1) := (hS.out w11 D11.out).2.2); clear b11)
        | fail)
      go_ret
      exact ⟨by simp, bthen B1.out D11.out⟩
  · have hne : (errN L != 0) = true := bne_iff_ne.2 h0
    generalize errN L = E at *
    clear p0 n0 h0 hL hlen
    go_enter Try.func9, Try.ntmps9
    go_upto_region 3 with (go_at_call 11; refine (alive_any _).mono ?_; rintro e w1 ⟨rfl, b1'⟩; (have B1 := Lib.hid (hB0.out.trans (b1'.mono hB0.out.size))); (have X1 := Lib.hid (hX0.out.up b1')); (have I1 := Lib.hid (hI0.out.keep (Nat.lt_trans (Nat.lt_succ_self _) hS0.out) (fun q hq => b1'.cell hq))); (have S1 := Lib.hid (Nat.lt_of_lt_of_le hS0.out b1'.size)); clear b1')
    have hS := Lib.hid (fun (W : World) (b : Below w1.heap.size w1 W) => (show W.cell? ⟨w.heap.size, 0, none⟩ = some (.int .i64 a1) ∧ W.cell? ⟨w.heap.size, 1, none⟩ = some (.int .i64 b1) ∧ W.cell? ⟨w.heap.size, 2, none⟩ = some (.int .i64 k1) from I1.out.keep (p := ⟨w.heap.size, 0, none⟩) (Nat.lt_trans (Nat.lt_succ_self _) S1.out) (fun q hq => b.cell hq)))
    have hEa : Hid (OwnT ((w1.alloc (.cells #[] 42)).drew) w1.heap.size (some ⟨w1.heap.size, 0, none⟩) 0 []) := Lib.hid (ownT_empty w1 (Nat.le_refl _))
    have hEb : Hid (OwnT (((w1.alloc (.cells #[] 42)).alloc (.cells #[.int .i64 a1, .int .i64 b1, .int .i64 k1] 42)).drew) w1.heap.size (some ⟨w1.heap.size, 0, none⟩) 0 []) := Lib.hid (World.ownsRow.alloc (ownT_empty w1 (Nat.le_refl _)) _)
    have hEc : Hid (OwnT (((w1.alloc (.cells #[.int .i64 a1, .int .i64 b1, .int .i64 k1] 42)).alloc (.cells #[] 42)).drew) w1.heap.size (some ⟨w1.heap.size + 1, 0, none⟩) 0 []) := Lib.hid (OwnT.drew (by have := ownT_empty (w1.alloc (.cells #[.int .i64 a1, .int .i64 b1, .int .i64 k1] 42)) (base := w1.heap.size) (by simp); simpa using this))
    have hFa := Lib.hid (hF.out ((w1.alloc (.cells #[] 42)).drew) (bthen B1.out (below_new w1 _).drew))
    have hFb := Lib.hid (hF.out (((w1.alloc (.cells #[] 42)).alloc (.cells #[.int .i64 a1, .int .i64 b1, .int .i64 k1] 42)).drew) (bthen B1.out ((below_new w1 _).alloc (by simp) _).drew))
    have hFc := Lib.hid (hF.out (((w1.alloc (.cells #[.int .i64 a1, .int .i64 b1, .int .i64 k1] 42)).alloc (.cells #[] 42)).drew) (bthen B1.out ((below_new w1 _).alloc (by simp) _).drew))
    go_region_held3 (fun W => W.cell? ⟨w.heap.size, 0, none⟩ = some (.int .i64 a1) ∧ W.cell? ⟨w.heap.size, 1, none⟩ = some (.int .i64 b1) ∧ W.cell? ⟨w.heap.size, 2, none⟩ = some (.int .i64 k1)) (first
      | exact hS.out _ B6.out
      | exact hS.out _ (B5.out.alloc B5.out.size _)
      | exact hS.out _ B5.out
      | exact hS.out _ ((below_new w1 _).alloc (by simp) _).drew
      | exact hS.out _ (below_new w1 _).drew
      | exact hS.out _ (Below.refl _ _).drew) (first
      | (refine step_app_T _ rfl (.tmp 22) (.tmp 23) rfl (l := []) (m := l0) (k := l0.length) rfl rfl hEa.out hFa.out (by simp) (by omega) (below_new w1 _).size ?_; intro A5 c5 w5 h5 g5; (have O5 := Lib.hid h5); (have B5 := Lib.hid (below_grown (below_new w1 _).drew hEa.out g5 (Nat.le_refl _) (below_new w1 _).size)); clear h5 g5)
      | (refine step_app_T _ rfl (.tmp 22) (.tmp 23) rfl (l := []) (m := l0) (k := l0.length) rfl rfl hEb.out hFb.out (by simp) (by omega) ((below_new w1 _).alloc (by simp) _).size ?_; intro A5 c5 w5 h5 g5; (have O5 := Lib.hid h5); (have B5 := Lib.hid (below_grown ((below_new w1 _).alloc (by simp) _).drew hEb.out g5 (Nat.le_refl _) ((below_new w1 _).alloc (by simp) _).size)); (have F5 : Hid (Feed 3 w5 (.slice (some ⟨w1.heap.size + 1, 0, none⟩) 1 1) 1 (cellsT [(⟨a1, b1, k1⟩ : It)])) := Lib.hid (feed_grown (by have := item_feed (w1.alloc (.cells #[] 42)) ⟨a1, b1, k1⟩; simpa using this.drew) g5 (by show _ < ((w1.alloc _).alloc _).heap.size; simp) (by simp [Value.ownBlock]))); clear h5 g5)
      | (refine step_app_T _ rfl (.tmp 22) (.tmp 23) rfl (l := []) (m := l0) (k := l0.length) rfl rfl hEc.out hFc.out (by simp) (by omega) ((below_new w1 _).alloc (by simp) _).size ?_; intro A5 c5 w5 h5 g5; (have O5 := Lib.hid h5); (have B5 := Lib.hid (below_grown ((below_new w1 _).alloc (by simp) _).drew hEc.out g5 (Nat.le_refl _) ((below_new w1 _).alloc (by simp) _).size)); (have F5 : Hid (Feed 3 w5 (.slice (some ⟨w1.heap.size, 0, none⟩) 1 1) 1 (cellsT [(⟨a1, b1, k1⟩ : It)])) := Lib.hid (feed_grown (((item_feed w1 ⟨a1, b1, k1⟩).alloc (by simp) _).drew) g5 (by show _ < ((w1.alloc _).alloc _).heap.size; simp; omega) (by simp [Value.ownBlock]))); clear h5 g5)
      | (refine step_app_T _ rfl (.tmp 24) (.tmp 26) rfl (m := [(⟨a1, b1, k1⟩ : It)]) (k := l0.length + 1) rfl rfl (World.ownsRow.alloc O5.out _) (item_feed w5 ⟨a1, b1, k1⟩) rfl (by omega) (Nat.le_trans B5.out.size (by simp)) ?_; intro A6 c6 w6 h6 g6; (have O6 := Lib.hid h6); (have B6 := Lib.hid (below_grown (B5.out.alloc B5.out.size _) (World.ownsRow.alloc O5.out _) g6 (Nat.le_refl _) (Nat.le_trans B5.out.size (by simp)))); clear h6 g6)
      | (refine step_app_T _ rfl (.tmp 24) (.tmp 26) rfl (m := [(⟨a1, b1, k1⟩ : It)]) (k := l0.length + 1) rfl rfl O5.out F5.out rfl (by omega) B5.out.size ?_; intro A6 c6 w6 h6 g6; (have O6 := Lib.hid h6); (have B6 := Lib.hid (below_grown B5.out O5.out g6 (Nat.le_refl _) B5.out.size)); clear h6 g6)
      | fail)
    all_goals
      have O6 := Lib.hid (show OwnT w6 w1.heap.size A6 c6 L by rw [← hLh.out]; exact O6.out)
      go_wp2_with (go_at_call 12; (with_reducible refine (KR.out A6 c6 _ w6 O6.out).mono ?_); rintro e w7 ⟨rfl, b7⟩; (have D7 := Lib.hid (bthen B6.out b7)); clear b7)
      go_ret
      exact ⟨rfl, bthen B1.out D7.out⟩

set_option maxRecDepth 100000 in
theorem lifted (os : Os) (started : os.Started) (H : Type) (enc : TypeId × Value → H) :
    ReturnsInHanded {} Try.checked os 9 .any (Rows.chooseAddsSpec.pre6 enc Try.prog Try.f9 Rows.chooseAddsRow.domain false) (Rows.chooseAddsSpec.post enc Try.prog Try.f9 false true false false) := by
  refine returnsInHanded_of_change_shaped (C := Try.checked) own started (by kernel_rfl) Try.func9
    (ChangeSpec.witness6 (enc := enc) (C := Try.checked) false ⟨#[], #[.slice none 0 0, .agg #[.int .i64 0, .int .i64 0, .int .i64 0], .agg #[.int .i64 0, .int .i64 0]], []⟩ 8 (by kernel_rfl) (by kernel_rfl) (by kernel_rfl) (by kernel_rfl)) ?_
  intro W base args ds gs before hval0 hW _ hsz _ _
  have hval : ∀ (j : Nat) t v, Try.f9.params[j]? = some t → args[j]? = some v → Value.okWide Try.prog W .any base t v := hval0
  have hW0 := hW
  obtain ⟨p, q, hA0, hV, rfl, hfz, hnd⟩ := hW
  have hA : DataW.TrodAll enc Try.prog W 0 (fun _ => true) true Try.f9.params.toList args.toList ds p := hA0
  rw [Try.params9] at hA hval
  obtain ⟨v0, vs0, d0, ds0, p0, q0, hargs, rfl, rfl, h0, r0⟩ := trodAll_cons hA
  obtain ⟨v1, vs1, d1, ds1, p1, q1, rfl, rfl, rfl, h1, r1⟩ := trodAll_cons r0
  obtain ⟨v2, vs2, d2, ds2, p2, q2, rfl, rfl, rfl, h2, r2⟩ := trodAll_cons r1
  obtain ⟨rfl, rfl, rfl⟩ := trodAll_nil r2
  obtain rfl : args = #[v0, v1, v2] := by cases args; simp_all
  obtain ⟨A0, c0, l0, rfl, y0, x0, z0, n0⟩ := open_its_nil h0 (okWide_slice Try.underlying22 (hval 0 22 v0 rfl rfl))
  obtain ⟨a1, b1, k1, rfl, _, _, _⟩ := open_item (hval 1 42 v1 rfl rfl) h1
  obtain ⟨a2, b2, rfl, u2, z2⟩ := open_pair (k := .i64) Try.underlying36 Try.underlying3 (by kernel_rfl) (by kernel_rfl) (hval 2 36 v2 rfl rfl) h2
  refine (walk A0 l0 c0 a1 b1 k1 a2 b2 W y0 x0 z0 n0 (cap_sized hsz (j := 0) (by kernel_rfl) rfl Try.underlying22 (by kernel_rfl) h0)  (Lib.hid (i64_bounds u2)) (Lib.hid (i64_bounds z2))).mono fun e W' ⟨h1, h2⟩ => ?_
  subst h1
  exact ⟨_, rfl, law_post laidOut (by kernel_rfl) Try.underlying4 rfl (by kernel_rfl) hW0 rfl h2⟩

theorem said : Rows.ChooseAddsSaid :=
  OpenClaim.holds_of_wide 9 Try.f9 rfl rfl rfl rfl rfl rfl rfl ⟨rfl, rfl, rfl, rfl, rfl⟩ rfl rfl rfl rfl rfl (by kernel_rfl) Try.func9 (by kernel_rfl)
    (of_decide_eq_true (by kernel_rfl)) (by unfold Func.isWrapper; first | (rw [if_pos (by decide +kernel)]; kernel_rfl) | (rw [if_neg (by decide +kernel)]; exact ⟨rfl, rfl⟩))
    (fun os started H enc _ => lifted os started H enc)
end Go.Proofs.Ytjbfkbdjopbjjaa.lawAdds
