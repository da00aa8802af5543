/- The examples of the chapter hold ('alive'). -/
import Derived.Test.YtlaklfiodmnocaaHelp
import Derived.Test.YtlaklfiodmnocaaAliveM
import Derived.Deep.CutRange
import Derived.Deep.RegionHeld3
namespace Go.Proofs.Ytlaklfiodmnocaa
open Go.RowKit

theorem rd_lit {w : World} {T : TypeId} {cs : Array Value} {fr : Nat × Nat} {xs : List Value} {n g : Nat} (h : xs = cs.toList) (hn : cs.size = n) (hg : g = w.heap.size) : Rd (w.alloc (.cells cs T fr)) (w.alloc (.cells cs T fr)).heap.size (some ⟨g, 0, none⟩) n xs := by
  subst hg
  refine ⟨by rw [h, Array.length_toList, hn]; exact Nat.le_refl _, (fun h => by cases h), fun _ => ⟨_, rfl, by simp, fun i u hu => ?_⟩⟩
  rw [h] at hu
  exact World.news_of_block (heap_alloc_new w _) i u hu
theorem balloc {w w1 : World} (h : Below w.heap.size w w1) (o : Obj) : Below w.heap.size w (w1.alloc o) := h.alloc h.size o
theorem bthen {w w1 w2 : World} (h : Below w.heap.size w w1) (h2 : Below w1.heap.size w1 w2) : Below w.heap.size w w2 := h.trans (h2.mono h.size)
theorem smp_cells : cellsE smp = (#[.int .i64 11, .int .i64 1, .int .i64 2, .int .i64 5, .int .i64 12, .int .i64 2, .int .i64 3, .int .i64 5, .int .i64 13, .int .i64 1, .int .i64 3, .int .i64 10, .int .i64 14, .int .i64 3, .int .i64 4, .int .i64 1, .int .i64 15, .int .i64 5, .int .i64 1, .int .i64 0] : Array Value).toList := rfl
theorem sample_any (w : World) : Calls Try.prog 30 #[] w fun e w' => ∃ A c, e = .returned (.slice A 5 c) ∧ OwnE w' w.heap.size A c smp ∧ Below w.heap.size w w' := by
  have h : OwnE (w.alloc (.cells #[.int .i64 11, .int .i64 1, .int .i64 2, .int .i64 5, .int .i64 12, .int .i64 2, .int .i64 3, .int .i64 5, .int .i64 13, .int .i64 1, .int .i64 3, .int .i64 10, .int .i64 14, .int .i64 3, .int .i64 4, .int .i64 1, .int .i64 15, .int .i64 5, .int .i64 1, .int .i64 0] 42)) w.heap.size (some ⟨w.heap.size, 0, none⟩) 5 smp := by
    unfold OwnE
    rw [smp_cells]
    exact World.ownsRow_lit w _ 5 (Nat.le_refl _) (by unfold maxLen; omega) rfl
  have H := Lib.hid h
  clear h
  go_enter Try.func30, Try.ntmps30
  go_wp2
  go_ret
  exact ⟨_, _, rfl, H.out, (Below.refl _ _).alloc (Nat.le_refl _) _⟩
set_option maxRecDepth 100000 in
/-- Appending an edge in a region that draws, guarded, its cells lying where they may. -/
theorem step_app_ed_g {W w : World} {ops : Array Oper} {o : Oper} {a : Act} {K : Act → World → Prop} {Q : Exit → Act → World → Prop} {E : Prop} (hgd : Region.wanted o (yielded ops a.tmps) = true) (s x : Operand)
    (ho : o.op = .call { callee := .builtin .append, args := #[s, x], argTypes := #[22, 22] }) {base c g : Nat} {A : Option Addr} {l : List Ed} (e : Ed)
    (hs : a.eval s = .slice A l.length c) (hx : a.eval x = .slice (some ⟨g, 0, none⟩) 1 1)
    (hn : w.cell? ⟨g, 0, none⟩ = some (.int .i64 e.id) ∧ w.cell? ⟨g, 1, none⟩ = some (.int .i64 e.frm) ∧ w.cell? ⟨g, 2, none⟩ = some (.int .i64 e.to) ∧ w.cell? ⟨g, 3, none⟩ = some (.int .i64 e.cost))
    (hown : OwnE w base A c l) (hB : Below base W w) (hbase : base ≤ W.heap.size) (hl : l.length ≤ 1000000000)
    (h : ∀ g c' w', OwnE w' base (some ⟨g, 0, none⟩) c' (l ++ [e]) → Below base W w' → K (a.put o.dst (.slice (some ⟨g, 0, none⟩) (l.length + 1) c')) w') :
    if Region.wanted o (yielded ops a.tmps) = true then Oper.wp Try.prog o a w K Q else E := by
  rw [if_pos hgd]
  obtain ⟨i0, hi, hz0, hz1, hz2⟩ := info_parts info_ed
  have hsz : base ≤ w.heap.size := Nat.le_trans hbase hB.size
  refine wp_append_lies w s x 22 ho base 42 i0 (.agg #[.int .i64 0, .int .i64 0, .int .i64 0, .int .i64 0]) 4 32 Try.underlying22 hi hz0 hz1 hz2 rfl (by decide) _ l.length (cellsE l) hs hown ⟨g, 0, none⟩ 1 1 [.int .i64 e.id, .int .i64 e.frm, .int .i64 e.to, .int .i64 e.cost] hx (by rfl) (fun j u hj => ?_) (fun u hu => four_i64 (a := e.id) (b := e.frm) (c := e.to) (d := e.cost) hu) (by decide) (by unfold maxLen; omega) (by omega) hsz _ rfl ?_
  · rw [add_pos]
    match j, hj with
    | 0, hj => injection hj with hj; rw [← hj]; exact hn.1
    | 1, hj => injection hj with hj; rw [← hj]; exact hn.2.1
    | 2, hj => injection hj with hj; rw [← hj]; exact hn.2.2.1
    | 3, hj => injection hj with hj; rw [← hj]; exact hn.2.2.2
    | j + 4, hj => exact absurd hj (by simp)
  · intro g' c' w' h1 h2 _ _
    refine h g' c' w' ?_ (below_grown hB hown h2 (Nat.le_refl _) hsz)
    unfold OwnE
    rw [List.length_append, cellsE_append]
    exact h1
section
variable {A : Option Addr} {c : Nat} {W : World}
theorem ex_ord (h : Es W W.heap.size A smp) : Calls Try.prog 20 #[.slice A 5 c] W fun e w' => ∃ A' c', e = .returned (.tuple #[.slice A' 5 c', .int .i64 0]) ∧ Rd w' w'.heap.size A' c' (cellsI [5, 1, 2, 3, 4]) ∧ Below W.heap.size W w' := by
  refine (gOrder_any A smp c W h smp_grph).mono fun e w' ⟨A', c', h1, h2, h3⟩ => ⟨A', c', ?_, ?_, h3⟩
  · rw [h1, smp_ord.1, smp_ord.2]; rfl
  · have := h2.rd
    rw [smp_ord.1] at this
    exact this
theorem ex_loop (h : Es W W.heap.size A smpL) : Calls Try.prog 20 #[.slice A (smp.length + 1) c] W fun e w' => ∃ A' c', e = .returned (.tuple #[.slice A' 0 c', .int .i64 16]) ∧ Below W.heap.size W w' := by
  refine (gOrder_any A smpL c W h smpL_grph).mono fun e w' ⟨A', c', h1, _, h3⟩ => ⟨A', c', ?_, h3⟩
  rw [h1, smpL_ord.1, smpL_ord.2]; rfl
theorem ex_sh14 (h : Es W W.heap.size A smp) : Calls Try.prog 22 #[.slice A 5 c, .int .i64 1, .int .i64 4] W fun e w' => ∃ A' c', e = .returned (.tuple #[.slice A' 2 c', .int .i64 11, .bool true]) ∧ Rd w' w'.heap.size A' c' (cellsI [13, 14]) ∧ Below W.heap.size W w' := by
  refine (gShortest_any A smp c 1 4 W h smp_grph).mono fun e w' ⟨A', c', h1, h2, h3⟩ => ⟨A', c', ?_, ?_, h3⟩
  · rw [h1, sh_14.1, sh_14.2.1, sh_14.2.2]; rfl
  · have := h2.rd
    rw [sh_14.1] at this
    exact this
theorem ex_sh41 (h : Es W W.heap.size A smp) : Calls Try.prog 22 #[.slice A 5 c, .int .i64 4, .int .i64 1] W fun e w' => ∃ A' c', e = .returned (.tuple #[.slice A' 0 c', .int .i64 0, .bool false]) ∧ Below W.heap.size W w' := by
  refine (gShortest_any A smp c 4 1 W h smp_grph).mono fun e w' ⟨A', c', h1, _, h3⟩ => ⟨A', c', ?_, h3⟩
  rw [h1, sh_41.1, sh_41.2.1, sh_41.2.2]; rfl
theorem ex_sh14w (h : Es W W.heap.size A smpW) : Calls Try.prog 22 #[.slice A 4 c, .int .i64 1, .int .i64 4] W fun e w' => ∃ A' c', e = .returned (.tuple #[.slice A' 3 c', .int .i64 11, .bool true]) ∧ Rd w' w'.heap.size A' c' (cellsI [11, 12, 14]) ∧ Below W.heap.size W w' := by
  refine (gShortest_any A smpW c 1 4 W h smpW_grph).mono fun e w' ⟨A', c', h1, h2, h3⟩ => ⟨A', c', ?_, ?_, h3⟩
  · rw [h1, sh_14w.1, sh_14w.2.1, sh_14w.2.2]; rfl
  · have := h2.rd
    rw [sh_14w.1] at this
    exact this
theorem ex_wo {B : Option Addr} {d : Nat} (h : Es W W.heap.size A smp) (h2 : Rd W W.heap.size B d (cellsI [13])) : Calls Try.prog 27 #[.slice A 5 c, .slice B 1 d] W fun e w' => ∃ A' c', e = .returned (.slice A' 4 c') ∧ Es w' w'.heap.size A' smpW ∧ Below W.heap.size W w' := by
  refine (gWithout_any A B smp [13] c d W h h2 smp_grph (by simp)).mono fun e w' ⟨A', c', h1, h2, h3⟩ => ⟨A', c', ?_, ?_, h3⟩
  · rw [h1, wo_smp]; rfl
  · have := h2.es
    rw [wo_smp] at this
    exact this
theorem ex_right (h : Es W W.heap.size A smp) : Calls Try.prog 12 #[.slice A 5 c] W fun e w' => e = .returned (.int .i64 0) ∧ Below W.heap.size W w' := by
  have k := gRight_any A smp c W h (by decide)
  rw [smp_right] at k
  exact k
theorem ex_rightD (h : Es W W.heap.size A smpD) : Calls Try.prog 12 #[.slice A (smp.length + 1) c] W fun e w' => e = .returned (.int .i64 7) ∧ Below W.heap.size W w' := by
  have k := gRight_any A smpD c W h (by decide)
  rw [smpD_right] at k
  exact k
theorem ex_reach2 {B : Option Addr} {d : Nat} (h : Es W W.heap.size A smp) (h2 : Rd W W.heap.size B d (cellsI [2])) : Calls Try.prog 16 #[.slice A 5 c, .slice B 1 d] W fun e w' => ∃ A' c', e = .returned (.slice A' 3 c') ∧ Rd w' w'.heap.size A' c' (cellsI [2, 3, 4]) ∧ Below W.heap.size W w' := by
  refine (gReach_any A B smp [2] c d W h h2 smp_grph (by simp) (wfl1 (by decide))).mono fun e w' ⟨A', c', h1, h2, h3⟩ => ⟨A', c', ?_, ?_, h3⟩
  · rw [h1, reach_2]; rfl
  · have := h2.rd
    rw [reach_2] at this
    exact this
theorem ex_reach9 {B : Option Addr} {d : Nat} (h : Es W W.heap.size A smp) (h2 : Rd W W.heap.size B d (cellsI [9])) : Calls Try.prog 16 #[.slice A 5 c, .slice B 1 d] W fun e w' => ∃ A' c', e = .returned (.slice A' 1 c') ∧ Rd w' w'.heap.size A' c' (cellsI [9]) ∧ Below W.heap.size W w' := by
  refine (gReach_any A B smp [9] c d W h h2 smp_grph (by simp) (wfl1 (by decide))).mono fun e w' ⟨A', c', h1, h2, h3⟩ => ⟨A', c', ?_, ?_, h3⟩
  · rw [h1, reach_9]; rfl
  · have := h2.rd
    rw [reach_9] at this
    exact this
theorem ex_back2 {B : Option Addr} {d : Nat} (h : Es W W.heap.size A smp) (h2 : Rd W W.heap.size B d (cellsI [2])) : Calls Try.prog 18 #[.slice A 5 c, .slice B 1 d] W fun e w' => ∃ A' c', e = .returned (.slice A' 3 c') ∧ Rd w' w'.heap.size A' c' (cellsI [1, 2, 5]) ∧ Below W.heap.size W w' := by
  refine (gBack_any A B smp [2] c d W h h2 smp_grph (by simp) (wfl1 (by decide))).mono fun e w' ⟨A', c', h1, h2, h3⟩ => ⟨A', c', ?_, ?_, h3⟩
  · rw [h1, back_2]; rfl
  · have := h2.rd
    rw [back_2] at this
    exact this
theorem ex_same {l : List Int} {n g : Nat} {cs : Array Value} (h : Rd W W.heap.size A c (cellsI l)) (hc : cellsI l = cs.toList) (hn : l.length = n) (hn2 : cs.size = n) (hn3 : n ≤ 100) (hg : g = W.heap.size) :
    Calls Try.prog 15 #[.slice A n c, .slice (some ⟨g, 0, none⟩) n n] (W.alloc (.cells cs 3)) fun e w' => e = .returned (.bool true) ∧ Below (W.alloc (.cells cs 3)).heap.size (W.alloc (.cells cs 3)) w' := by
  have b : Below W.heap.size W (W.alloc (.cells cs 3)) := (Below.refl _ _).alloc (Nat.le_refl _) _
  have k := same_any A (some ⟨g, 0, none⟩) l l c n (W.alloc (.cells cs 3)) ((h.below b).more b.size) (rd_lit hc hn2 hg) (by omega)
  rw [eqL_true rfl] at k
  subst hn
  exact k
end
set_option maxRecDepth 100000 in
set_option maxHeartbeats 16000000 in
theorem alive_any (w : World) : Calls Try.prog 11 #[] w fun e w' => e = .returned (.bool true) ∧ Below w.heap.size w w' := by
  have tok : True := trivial
  go_enter Try.func11, Try.ntmps11
  go_upto_region 7 with (first
    | (go_at_call 30; have _t := tok; (with_reducible refine (sample_any _).mono ?_); rintro e w1 ⟨A1, c1, rfl, h1, b1⟩; (have E1 := Lib.hid h1.es); (have B1 := Lib.hid b1); clear h1 b1 tok _t)
    | (go_at_call 20; (with_reducible refine (ex_ord E1.out).mono ?_); rintro e w2 ⟨A2, c2, rfl, h2, b2⟩; (have R2 := Lib.hid h2); (have B2 := Lib.hid (bthen B1.out b2)); (have E2 := Lib.hid (E1.out.up b2)); clear h2 b2)
    | (go_at_call 30; (with_reducible refine (sample_any _).mono ?_); rintro e w3 ⟨A3, c3, rfl, h3, b3⟩; (have H3 := Lib.hid h3); (have D3 := Lib.hid b3); clear h3 b3)
    | (at_builtin; refine wpList_app_ed (l := smp) (e := ⟨16, 4, 2, 1⟩) rfl (.tmp 22) (.tmp 24) rfl rfl rfl H3.out D3.out (Nat.le_refl _) (by decide) ?_; intro A4 c4 w4 h4 d4; (have F4 := Lib.hid (show Es w4 w4.heap.size A4 smpL from h4.es)); (have B4 := Lib.hid (bthen B2.out d4)); (have E4 := Lib.hid (E2.out.up d4)); (have R4 := Lib.hid (R2.out.up d4)); clear h4 d4)
    | (go_at_call 20; (with_reducible refine (ex_loop F4.out).mono ?_); rintro e w5 ⟨A5, c5, rfl, b5⟩; (have B5 := Lib.hid (bthen B4.out b5)); (have E5 := Lib.hid (E4.out.up b5)); (have R5 := Lib.hid (R4.out.up b5)); clear b5)
    | (go_at_call 22; (with_reducible refine (ex_sh14 E5.out).mono ?_); rintro e w6 ⟨A6, c6, rfl, h6, b6⟩; (have P6 := Lib.hid h6); (have B6 := Lib.hid (bthen B5.out b6)); (have E6 := Lib.hid (E5.out.up b6)); (have R6 := Lib.hid (R5.out.up b6)); clear h6 b6)
    | (go_at_call 22; (with_reducible refine (ex_sh41 E6.out).mono ?_); rintro e w7 ⟨A7, c7, rfl, b7⟩; (have B7 := Lib.hid (bthen B6.out b7)); (have E7 := Lib.hid (E6.out.up b7)); (have R7 := Lib.hid (R6.out.up b7)); (have P7 := Lib.hid (P6.out.up b7)); clear b7)
    | (go_at_call 27; (with_reducible refine (ex_wo (E7.out.up (balloc (Below.refl _ _) _)) ?_).mono ?_); (exact rd_lit (cs := #[.int .i64 13]) rfl rfl rfl); rintro e w8 ⟨A8, c8, rfl, h8, b8⟩; (have d8 : Below w7.heap.size w7 w8 := (balloc (Below.refl w7.heap.size w7) _).trans (b8.mono (by simp))); (have V8 := Lib.hid h8); (have B8 := Lib.hid (bthen B7.out d8)); (have E8 := Lib.hid (E7.out.up d8)); (have R8 := Lib.hid (R7.out.up d8)); (have P8 := Lib.hid (P7.out.up d8)); clear h8 b8 d8)
    | (go_at_call 22; (with_reducible refine (ex_sh14w V8.out).mono ?_); rintro e w9 ⟨A9, c9, rfl, h9, b9⟩; (have Q9 := Lib.hid h9); (have B9 := Lib.hid (bthen B8.out b9)); (have E9 := Lib.hid (E8.out.up b9)); (have R9 := Lib.hid (R8.out.up b9)); (have P9 := Lib.hid (P8.out.up b9)); clear h9 b9)
    | fail)
  obtain ⟨ad, rfl, hab, c0⟩ := E9.out.get (k := 0) (by decide)
  have hC := Lib.hid (fun (wr2 : World) (h : Below w9.heap.size w9 wr2) => (show wr2.cell? ad = some (.int .i64 11) ∧ wr2.cell? { block := ad.block, off := ad.off + 1 } = some (.int .i64 1) ∧ wr2.cell? { block := ad.block, off := ad.off + 2 } = some (.int .i64 2) ∧ wr2.cell? { block := ad.block, off := ad.off + 3 } = some (.int .i64 5) from c0.keep (by rw [block_of_add]; exact hab) (fun q hq => h.cell hq)))
  clear c0
  go_cut [88] from 49 to 88 (fun s wx => s = .bool false ∧ Below w9.heap.size w9 wx)
  case first =>
    obtain ⟨x0, x1, x2, x3⟩ := hC.out w9 (Below.refl _ _)
    have tok : True := trivial
    go_region_held3 (fun wr2 => wr2.cell? ad = some (.int .i64 11) ∧ wr2.cell? { block := ad.block, off := ad.off + 1 } = some (.int .i64 1) ∧ wr2.cell? { block := ad.block, off := ad.off + 2 } = some (.int .i64 2) ∧ wr2.cell? { block := ad.block, off := ad.off + 3 } = some (.int .i64 5))
      (first
        | exact ⟨x0, x1, x2, x3⟩
        | exact hC.out _ D13.out
        | exact hC.out _ D12.out
        | exact hC.out _ (Below.drew (D11.out.alloc D11.out.size _))
        | exact hC.out _ (D11.out.alloc D11.out.size _)
        | exact hC.out _ D11.out
        | exact hC.out _ D10.out
        | exact hC.out _ (D10.out.alloc D10.out.size _)
        | exact hC.out _ (Below.drew (Below.refl _ _))
        | go_keep)
      (first
        | (go_at_call 12; have _t := tok; (with_reducible refine (ex_right (E9.out.up (Below.drew (Below.refl _ _)))).mono ?_); rintro e w10 ⟨rfl, b10⟩; (have D10 : Hid (Below w9.heap.size w9 w10) := Lib.hid ((Below.drew (Below.refl w9.heap.size w9)).trans b10)); clear b10 tok _t)
        | (go_at_call 30; (with_reducible refine (sample_any w10).mono ?_); rintro e w11 ⟨A11, c11, rfl, h11, b11⟩; (have H11 := Lib.hid (h11.less D10.out.size)); (have D11 : Hid (Below w9.heap.size w9 w11) := Lib.hid (D10.out.trans (b11.mono D10.out.size))); clear h11 b11)
        | (go_at_call 30; (with_reducible refine (sample_any _).mono ?_); rintro e w11 ⟨A11, c11, rfl, h11, b11⟩; (have H11 := Lib.hid (h11.less (show w9.heap.size ≤ (w10.alloc _).heap.size from Nat.le_trans D10.out.size (by simp)))); (have D11 : Hid (Below w9.heap.size w9 w11) := Lib.hid ((D10.out.alloc D10.out.size _).trans (b11.mono (Nat.le_trans D10.out.size (by simp))))); (have Z11 := Lib.hid (box_four (w := w10) b11)); clear h11 b11)
        | (refine step_app_ed_g (l := smp) (g := w10.heap.size) (by rfl) _ _ (by rfl) ⟨11, 1, 2, 5⟩ (by rfl) (by rfl) Z11.out H11.out D11.out (Nat.le_refl _) (by decide) ?_; intro gg c12 w12 h12 d12; (have F12 := Lib.hid (show Es w12 w12.heap.size _ smpD from h12.es)); (have D12 := Lib.hid d12); clear h12 d12)
        | (refine step_app_ed_g (l := smp) (g := w11.heap.size) (by rfl) _ _ (by rfl) ⟨11, 1, 2, 5⟩ (by rfl) (by rfl) (box_four (Below.refl _ _)) (World.ownsRow.alloc H11.out _) (D11.out.alloc D11.out.size _) (Nat.le_refl _) (by decide) ?_; intro gg c12 w12 h12 d12; (have F12 := Lib.hid (show Es w12 w12.heap.size _ smpD from h12.es)); (have D12 := Lib.hid d12); clear h12 d12)
        | (go_at_call 12; (with_reducible refine (ex_rightD F12.out).mono ?_); rintro e w13 ⟨rfl, b13⟩; (have D13 : Hid (Below w9.heap.size w9 w13) := Lib.hid (D12.out.trans (b13.mono D12.out.size))); clear b13))
    all_goals
      go_wp2_with fail
      go_meet
      exact ⟨rfl, D13.out⟩
  case rest =>
    obtain ⟨rfl, hb⟩ := hcut
    obtain ⟨w14, rfl⟩ : ∃ w14, w14 = wc := ⟨wc, rfl⟩
    have B14 := Lib.hid (bthen B9.out hb)
    have E14 := Lib.hid (E9.out.up hb)
    have R14 := Lib.hid (R9.out.up hb)
    have P14 := Lib.hid (P9.out.up hb)
    have Q14 := Lib.hid (Q9.out.up hb)
    clear hb hC
    go_wp2_with (first
      | (go_at_call 16; (with_reducible refine (ex_reach2 (E14.out.up (balloc (Below.refl _ _) _)) ?_).mono ?_); (exact rd_lit (cs := #[.int .i64 2]) rfl rfl rfl); rintro e w15 ⟨A15, c15, rfl, h15, b15⟩; (have d15 : Below w14.heap.size w14 w15 := (balloc (Below.refl w14.heap.size w14) _).trans (b15.mono (by simp))); (have S15 := Lib.hid h15); (have B15 := Lib.hid (bthen B14.out d15)); (have E15 := Lib.hid (E14.out.up d15)); (have R15 := Lib.hid (R14.out.up d15)); (have P15 := Lib.hid (P14.out.up d15)); (have Q15 := Lib.hid (Q14.out.up d15)); clear h15 b15 d15)
      | (go_at_call 15; (with_reducible refine (ex_same (cs := #[.int .i64 2, .int .i64 3, .int .i64 4]) (n := 3) S15.out ?_ ?_ ?_ ?_ ?_).mono ?_); rfl; rfl; rfl; decide; (first | rfl | simp); rintro e w16 ⟨rfl, b16⟩; (have d16 : Below w15.heap.size w15 w16 := (balloc (Below.refl w15.heap.size w15) _).trans (b16.mono (by simp))); (have B16 := Lib.hid (bthen B15.out d16)); (have E16 := Lib.hid (E15.out.up d16)); (have R16 := Lib.hid (R15.out.up d16)); (have P16 := Lib.hid (P15.out.up d16)); (have Q16 := Lib.hid (Q15.out.up d16)); clear b16 d16)
      | (go_at_call 18; (with_reducible refine (ex_back2 (E16.out.up (balloc (Below.refl _ _) _)) ?_).mono ?_); (exact rd_lit (cs := #[.int .i64 2]) rfl rfl rfl); rintro e w17 ⟨A17, c17, rfl, h17, b17⟩; (have d17 : Below w16.heap.size w16 w17 := (balloc (Below.refl w16.heap.size w16) _).trans (b17.mono (by simp))); (have S17 := Lib.hid h17); (have B17 := Lib.hid (bthen B16.out d17)); (have E17 := Lib.hid (E16.out.up d17)); (have R17 := Lib.hid (R16.out.up d17)); (have P17 := Lib.hid (P16.out.up d17)); (have Q17 := Lib.hid (Q16.out.up d17)); clear h17 b17 d17)
      | (go_at_call 15; (with_reducible refine (ex_same (cs := #[.int .i64 1, .int .i64 2, .int .i64 5]) (n := 3) S17.out ?_ ?_ ?_ ?_ ?_).mono ?_); rfl; rfl; rfl; decide; (first | rfl | simp); rintro e w18 ⟨rfl, b18⟩; (have d18 : Below w17.heap.size w17 w18 := (balloc (Below.refl w17.heap.size w17) _).trans (b18.mono (by simp))); (have B18 := Lib.hid (bthen B17.out d18)); (have E18 := Lib.hid (E17.out.up d18)); (have R18 := Lib.hid (R17.out.up d18)); (have P18 := Lib.hid (P17.out.up d18)); (have Q18 := Lib.hid (Q17.out.up d18)); clear b18 d18)
      | (go_at_call 16; (with_reducible refine (ex_reach9 (E18.out.up (balloc (Below.refl _ _) _)) ?_).mono ?_); (exact rd_lit (cs := #[.int .i64 9]) rfl rfl rfl); rintro e w19 ⟨A19, c19, rfl, h19, b19⟩; (have d19 : Below w18.heap.size w18 w19 := (balloc (Below.refl w18.heap.size w18) _).trans (b19.mono (by simp))); (have S19 := Lib.hid h19); (have B19 := Lib.hid (bthen B18.out d19)); (have R19 := Lib.hid (R18.out.up d19)); (have P19 := Lib.hid (P18.out.up d19)); (have Q19 := Lib.hid (Q18.out.up d19)); clear h19 b19 d19)
      | (go_at_call 15; (with_reducible refine (ex_same (cs := #[.int .i64 9]) (n := 1) S19.out ?_ ?_ ?_ ?_ ?_).mono ?_); rfl; rfl; rfl; decide; (first | rfl | simp); rintro e w20 ⟨rfl, b20⟩; (have d20 : Below w19.heap.size w19 w20 := (balloc (Below.refl w19.heap.size w19) _).trans (b20.mono (by simp))); (have B20 := Lib.hid (bthen B19.out d20)); (have R20 := Lib.hid (R19.out.up d20)); (have P20 := Lib.hid (P19.out.up d20)); (have Q20 := Lib.hid (Q19.out.up d20)); clear b20 d20)
      | (go_at_call 15; (with_reducible refine (ex_same (cs := #[.int .i64 5, .int .i64 1, .int .i64 2, .int .i64 3, .int .i64 4]) (n := 5) R20.out ?_ ?_ ?_ ?_ ?_).mono ?_); rfl; rfl; rfl; decide; (first | rfl | simp); rintro e w21 ⟨rfl, b21⟩; (have d21 : Below w20.heap.size w20 w21 := (balloc (Below.refl w20.heap.size w20) _).trans (b21.mono (by simp))); (have B21 := Lib.hid (bthen B20.out d21)); (have P21 := Lib.hid (P20.out.up d21)); (have Q21 := Lib.hid (Q20.out.up d21)); clear b21 d21)
      | (go_at_call 15; (with_reducible refine (ex_same (cs := #[.int .i64 13, .int .i64 14]) (n := 2) P21.out ?_ ?_ ?_ ?_ ?_).mono ?_); rfl; rfl; rfl; decide; (first | rfl | simp); rintro e w22 ⟨rfl, b22⟩; (have d22 : Below w21.heap.size w21 w22 := (balloc (Below.refl w21.heap.size w21) _).trans (b22.mono (by simp))); (have B22 := Lib.hid (bthen B21.out d22)); (have Q22 := Lib.hid (Q21.out.up d22)); clear b22 d22)
      | (go_at_call 15; (with_reducible refine (ex_same (cs := #[.int .i64 11, .int .i64 12, .int .i64 14]) (n := 3) Q22.out ?_ ?_ ?_ ?_ ?_).mono ?_); rfl; rfl; rfl; decide; (first | rfl | simp); rintro e w23 ⟨rfl, b23⟩; (have d23 : Below w22.heap.size w22 w23 := (balloc (Below.refl w22.heap.size w22) _).trans (b23.mono (by simp))); (have B23 := Lib.hid (bthen B22.out d23)); clear b23 d23)
      | fail)
    go_ret
    exact ⟨rfl, B23.out⟩
end Go.Proofs.Ytlaklfiodmnocaa
