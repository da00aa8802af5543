/-
  The law CodecBack of the program holds: for every input that its row admits the call returns true, and the arguments read as before. Conditions: those of the row and of the card alone (the package's table as the program's text lays it).
-/
import Derived.Test.YtlgjddmghmgmmaaDoorBack
import Derived.Deep.QuietTactic
import Derived.BigQuiet
import Derived.BigRegion
namespace Go.Proofs.YtlgjddmghmgmmaaDoor.lawBack
open Go.ChangeShapes Go.WideShapes Go.ChangeAt Go.RowKit

/-- The box's cells behind a call. -/
theorem box_cells {w w1 : World} {T : TypeId} {v0 v1 v2 v3 v4 v5 v6 : Value} (b : Below (w.alloc (.cells #[v0, v1, v2, v3, v4, v5, v6] T)).heap.size (w.alloc (.cells #[v0, v1, v2, v3, v4, v5, v6] T)) w1) :
    w1.cell? ⟨w.heap.size, 0, none⟩ = some v0 ∧ w1.cell? ⟨w.heap.size, 1, none⟩ = some v1 ∧ w1.cell? ⟨w.heap.size, 2, none⟩ = some v2 ∧ w1.cell? ⟨w.heap.size, 3, none⟩ = some v3 ∧ w1.cell? ⟨w.heap.size, 4, none⟩ = some v4 ∧ w1.cell? ⟨w.heap.size, 5, none⟩ = some v5 ∧ w1.cell? ⟨w.heap.size, 6, none⟩ = some v6 := by
  have h : ∀ i u, #[v0, v1, v2, v3, v4, v5, v6].toList[i]? = some u → w1.cell? ⟨w.heap.size, i, none⟩ = some u := fun i u hu => by
    have := World.news_of_block (heap_alloc_new w (.cells #[v0, v1, v2, v3, v4, v5, v6] T)) i u hu
    rw [add_pos] at this
    exact (b.cell (by simp)).trans this
  exact ⟨h 0 _ rfl, h 1 _ rfl, h 2 _ rfl, h 3 _ rfl, h 4 _ rfl, h 5 _ rfl, h 6 _ rfl⟩
theorem box_below {w w1 : World} {o : Obj} (b : Below (w.alloc o).heap.size (w.alloc o) w1) : Below w.heap.size w w1 :=
  ((Below.refl w.heap.size w).alloc (Nat.le_refl _) o).trans (b.mono (by simp))
theorem box_lt {w w1 : World} {o : Obj} (b : Below (w.alloc o).heap.size (w.alloc o) w1) : w.heap.size < w1.heap.size := by
  have := b.size
  simp at this
  omega

set_option maxRecDepth 100000 in
set_option maxHeartbeats 8000000 in
theorem walk (N : Int) (S : ByteArray) (A : Option Addr) (cA : Nat) (L : List Int) (B : Option Addr) (cB : Nat) (b : List UInt8) (R : Option Addr) (cR : Nat) (r : List UInt8) (t : Int) (ch : Int) (w : World) (he : Env w)
    (N1 : -9223372036854775808 ≤ N) (N2 : N ≤ 9223372036854775807) (iL : ints L) (pL : Rd w w.heap.size A cA (cellsI L)) (mL : cA ≤ maxLen) (pB : Rd w w.heap.size B cB (cells8 b)) (pR : Rd w w.heap.size R cR (cells8 r))
    (t1 : -9223372036854775808 ≤ t) (t2 : t ≤ 9223372036854775807) (ch0 : 0 ≤ ch) (ch1 : ch ≤ 255) :
    Calls Tryd.prog 8 #[.agg #[.int .i64 N, .string S, .slice A L.length cA, .slice B b.length cB, .slice R r.length cR, .int .i64 t, .int .u8 ch]] w fun e w' => e = .returned (.bool true) ∧ Below w.heap.size w w' := by
  have k0 := Lib.hid (alive_any (w.alloc (.cells #[.int .i64 N, .string S, .slice A L.length cA, .slice B b.length cB, .slice R r.length cR, .int .i64 t, .int .u8 ch] 47)) (he.below ((Below.refl w.heap.size w).alloc (Nat.le_refl _) _)))
  by_cases hN : 0 ≤ N
  · by_cases hS : S.size ≤ 2000
    · rcases hnb : natB L with _ | _
      · clear he pB pR
        go_enter Tryd.func8, Tryd.ntmps8
        go_wp2_with (go_at_call 11; refine k0.out.mono ?_; rintro e w1 ⟨rfl, b1⟩; (obtain ⟨x0, x1, x2, x3, x4, x5, x6⟩ := box_cells b1); (have B1 := Lib.hid (box_below b1)); clear b1)
        go_quiet (fail)
        go_wp2_with (go_at_call 32; refine (natural_any A L cA _ (up pL (below_drewN B1.out _)) (by unfold maxLen at mL; omega)).mono ?_; rw [hnb]; rintro e wq ⟨rfl, rfl⟩)
        go_ret
        exact ⟨rfl, below_drewN B1.out _⟩
      · by_cases hb : b.length ≤ 3000
        · by_cases hr : r.length ≤ 3000
          · have ha := put_nine (n := N.toNat) (by omega)
            have hq := list_len hnb iL
            have htt : (putText S.data.toList).length ≤ 2009 := by
              have hsz : S.data.toList.length = S.size := by rw [Array.length_toList]; rfl
              rw [putText_len]
              have := put_nine (n := S.data.toList.length) (by omega)
              omega
            have hfl := frame_len b
            have hp1 := put_pos b.length
            have hp9 := put_nine (n := b.length) (by omega)
            have kP := fun (W : World) => put_any none [] 0 N W Rd.none_ (by simp) N1 N2
            have kT := fun (W : World) => putText_any none [] 0 S W Rd.none_ (by simp) (by omega)
            have kQ := fun (W : World) (h : Rd W W.heap.size A cA (cellsI L)) => putList_any none A [] L 0 cA W Rd.none_ h (by simp) (by have := (natB_of hnb).1; omega) iL
            have kF := fun (W : World) (hE : Env W) (h : Rd W W.heap.size B cB (cells8 b)) => frame_any B b cB W hE h (by omega)
            have gG := fun {A' : Option Addr} {c' : Nat} {W : World} => back_get (r := r) hN N2 (A := A') (c := c') (W := W)
            have gT := fun {A' : Option Addr} {c' : Nat} {W : World} => back_text hr hS (A := A') (c := c') (W := W)
            have gL := fun {A' : Option Addr} {c' : Nat} {W : World} => back_list hr hnb iL (A := A') (c := c') (W := W)
            have gF := fun {A' : Option Addr} {c' : Nat} {W : World} => back_frame hr hb (A := A') (c := c') (W := W)
            have gX := fun {A' : Option Addr} {c' : Nat} {W : World} {i : Nat} {x : UInt8} => back_bust hr hb (i := i) (x := x) (A := A') (c := c') (W := W)
            have hLl : L.length ≤ 10000000 := by have := (natB_of hnb).1; omega
            have e1 : ([] : List UInt8) ++ put N.toNat = put N.toNat := rfl
            have e2 : ([] : List UInt8) ++ putText S.data.toList = putText S.data.toList := rfl
            have e3 : ([] : List UInt8) ++ putList L = putList L := rfl
            rw [e1] at kP
            rw [e2] at kT
            rw [e3] at kQ
            generalize put N.toNat = a at *
            generalize putText S.data.toList = tt at *
            generalize putList L = q at *
            generalize hpb : (put b.length).length = pb at *
            generalize frame b = f at *
            obtain ⟨i0, hi, hz0, hz1, hz2⟩ := info_parts info_u8
            have hI := Lib.hid (And.intro hi (And.intro hz0 (And.intro hz1 hz2)))
            have kP := Lib.hid kP
            have kT := Lib.hid kT
            have kQ := Lib.hid kQ
            have kF := Lib.hid kF
            have gG := fun {A' : Option Addr} {c' : Nat} {W : World} => Lib.hid (gG (A' := A') (c' := c') (W := W))
            have gT := fun {A' : Option Addr} {c' : Nat} {W : World} => Lib.hid (gT (A' := A') (c' := c') (W := W))
            have gL := fun {A' : Option Addr} {c' : Nat} {W : World} => Lib.hid (gL (A' := A') (c' := c') (W := W))
            have gF := fun {A' : Option Addr} {c' : Nat} {W : World} => Lib.hid (gF (A' := A') (c' := c') (W := W))
            have gX := fun {A' : Option Addr} {c' : Nat} {W : World} {i : Nat} {x : UInt8} => Lib.hid (gX (A' := A') (c' := c') (W := W) (i := i) (x := x))
            have E := Lib.hid he
            have PB := Lib.hid pB
            have PR := Lib.hid pR
            have PL := Lib.hid pL
            have HL := Lib.hid hfl
            have HPB := Lib.hid hpb
            have hd1 : b.length + 5 ≤ f.length := by omega
            have hd2 : f.length ≤ 3013 := by omega
            clear hi hz0 hz1 hz2 he pB pR e1 e2 e3 iL hfl hp1 hp9 hpb
            go_enter Tryd.func8, Tryd.ntmps8
            go_wp2_with (go_at_call 11; refine k0.out.mono ?_; rintro e w1 ⟨rfl, b1⟩; (obtain ⟨x0, x1, x2, x3, x4, x5, x6⟩ := box_cells b1); (have B1 := Lib.hid (box_below b1)); clear b1)
            go_quiet (fail)
            go_wp2_with (first
              | (go_at_call 32; refine (natural_any A L cA _ (up pL (below_drewN B1.out _)) (by unfold maxLen at mL; omega)).mono ?_; rw [hnb]; rintro e wq ⟨rfl, rfl⟩)
              | fail)
            have B2 := below_drewN B1.out nq
            have y5 : (w1.drewN nq).cell? ⟨w.heap.size, 5, none⟩ = some (.int .i64 t) := x5
            have y6 : (w1.drewN nq).cell? ⟨w.heap.size, 6, none⟩ = some (.int .u8 ch) := x6
            clear x0 x1 x2 x3 x4 x5 x6 B1 pL
            generalize w1.drewN nq = w2 at B2 y5 y6 ⊢
            have X5 := Lib.hid y5
            have X6 := Lib.hid y6
            have P2 := Lib.hid (up PB.out B2)
            have Q2 := Lib.hid (up PR.out B2)
            have L2 := Lib.hid (up PL.out B2)
            have E2 := Lib.hid (E.out.below B2)
            have BB := Lib.hid B2
            clear y5 y6 B2 PB PR PL E
            go_wp2_with (first
              | (go_at_call 15; refine (kP.out w2).mono ?_; rintro e w3 ⟨A3', c3', rfl, h3, b3⟩; (have R3 := Lib.hid (Rd.of_own h3)); (have D3 := Lib.hid b3); clear h3 b3)
              | (at_builtin; refine wpList_append_feed _ rfl (.tmp 66) (.tmp 67) 22 rfl w2.heap.size 5 i0 (.int .u8 0) 1 Tryd.underlying22 hI.out.1 hI.out.2.1 hI.out.2.2.1 hI.out.2.2.2 rfl _ _ _ rfl (own_none w3 _ D3.out.size) _ a.length _ rfl (up R3.out (balloc (Below.refl _ _) _)).feed8 (cells8_one _) (by unfold maxLen; omega) (by omega) (Nat.le_trans D3.out.size (by simp)) ?_; intro A4' c4' w4 hown4 hgrow4; (have H4 := Lib.hid (own_zero hown4)); (have D4 := Lib.hid (below_grown (D3.out.alloc D3.out.size _) (own_none w3 _ D3.out.size) hgrow4 (Nat.le_refl _) (Nat.le_trans D3.out.size (by simp)))); clear hown4 hgrow4)
              | (at_builtin; refine wpList_append_feed _ rfl (.tmp 68) (.tmp 69) 22 rfl w2.heap.size 5 i0 (.int .u8 0) 1 Tryd.underlying22 hI.out.1 hI.out.2.1 hI.out.2.2.1 hI.out.2.2.2 rfl _ _ _ rfl (H4.out) _ r.length _ rfl (up Q2.out D4.out).feed8 (cells8_one _) (by unfold maxLen; omega) (by omega) (D4.out.size) ?_; intro A5' c5' w5 hown5 hgrow5; (have H5 := Lib.hid (hown5)); (have D5 := Lib.hid (below_grown (D4.out) (H4.out) hgrow5 (Nat.le_refl _) (D4.out.size))); clear hown5 hgrow5)
              | (go_at_call 12; refine ((gG (W := w5)).out (rd_own2 H5.out)).mono ?_; rintro e wq ⟨rfl, rfl⟩)
              | (go_at_call 19; refine (kT.out w5).mono ?_; rintro e w6 ⟨A6', c6', rfl, h6, b6⟩; (have R6 := Lib.hid (Rd.of_own h6)); (have D6 := Lib.hid (bthen D5.out b6)); clear h6 b6)
              | (at_builtin; refine wpList_append_feed _ rfl (.tmp 78) (.tmp 79) 22 rfl w2.heap.size 5 i0 (.int .u8 0) 1 Tryd.underlying22 hI.out.1 hI.out.2.1 hI.out.2.2.1 hI.out.2.2.2 rfl _ _ _ rfl (own_none w6 _ D6.out.size) _ tt.length _ rfl (up R6.out (balloc (Below.refl _ _) _)).feed8 (cells8_one _) (by unfold maxLen; omega) (by omega) (Nat.le_trans D6.out.size (by simp)) ?_; intro A7' c7' w7 hown7 hgrow7; (have H7 := Lib.hid (own_zero hown7)); (have D7 := Lib.hid (below_grown (D6.out.alloc D6.out.size _) (own_none w6 _ D6.out.size) hgrow7 (Nat.le_refl _) (Nat.le_trans D6.out.size (by simp)))); clear hown7 hgrow7)
              | (at_builtin; refine wpList_append_feed _ rfl (.tmp 80) (.tmp 81) 22 rfl w2.heap.size 5 i0 (.int .u8 0) 1 Tryd.underlying22 hI.out.1 hI.out.2.1 hI.out.2.2.1 hI.out.2.2.2 rfl _ _ _ rfl (H7.out) _ r.length _ rfl (up Q2.out D7.out).feed8 (cells8_one _) (by unfold maxLen; omega) (by omega) (D7.out.size) ?_; intro A8' c8' w8 hown8 hgrow8; (have H8 := Lib.hid (hown8)); (have D8 := Lib.hid (below_grown (D7.out) (H7.out) hgrow8 (Nat.le_refl _) (D7.out.size))); clear hown8 hgrow8)
              | (go_at_call 17; refine ((gT (W := w8)).out (rd_own2 H8.out)).mono ?_; rintro e wq ⟨rfl, rfl⟩)
              | (go_at_call 23; refine (kQ.out w8 (up L2.out D8.out)).mono ?_; rintro e w9 ⟨A9', c9', rfl, h9, b9⟩; (have R9 := Lib.hid (Rd.of_own h9)); (have D9 := Lib.hid (bthen D8.out b9)); clear h9 b9)
              | (at_builtin; refine wpList_append_feed _ rfl (.tmp 90) (.tmp 91) 22 rfl w2.heap.size 5 i0 (.int .u8 0) 1 Tryd.underlying22 hI.out.1 hI.out.2.1 hI.out.2.2.1 hI.out.2.2.2 rfl _ _ _ rfl (own_none w9 _ D9.out.size) _ q.length _ rfl (up R9.out (balloc (Below.refl _ _) _)).feed8 (cells8_one _) (by unfold maxLen; omega) (by omega) (Nat.le_trans D9.out.size (by simp)) ?_; intro A10' c10' w10 hown10 hgrow10; (have H10 := Lib.hid (own_zero hown10)); (have D10 := Lib.hid (below_grown (D9.out.alloc D9.out.size _) (own_none w9 _ D9.out.size) hgrow10 (Nat.le_refl _) (Nat.le_trans D9.out.size (by simp)))); clear hown10 hgrow10)
              | (at_builtin; refine wpList_append_feed _ rfl (.tmp 92) (.tmp 93) 22 rfl w2.heap.size 5 i0 (.int .u8 0) 1 Tryd.underlying22 hI.out.1 hI.out.2.1 hI.out.2.2.1 hI.out.2.2.2 rfl _ _ _ rfl (H10.out) _ r.length _ rfl (up Q2.out D10.out).feed8 (cells8_one _) (by unfold maxLen; omega) (by omega) (D10.out.size) ?_; intro A11' c11' w11 hown11 hgrow11; (have H11 := Lib.hid (hown11)); (have D11 := Lib.hid (below_grown (D10.out) (H10.out) hgrow11 (Nat.le_refl _) (D10.out.size))); clear hown11 hgrow11)
              | (go_at_call 21; refine ((gL (W := w11)).out (rd_own2 H11.out)).mono ?_; rintro e w12 ⟨A12', c12', rfl, h12, b12⟩; (have R12 := Lib.hid h12); (have D12 := Lib.hid (bthen D11.out b12)); clear h12 b12)
              | (go_at_call 28; refine (kF.out w12 (E2.out.below D12.out) (up P2.out D12.out)).mono ?_; rintro e w13 ⟨A13', c13', rfl, h13, b13⟩; (have R13 := Lib.hid (Rd.of_own h13)); (have K13 := Lib.hid b13); (have D13 := Lib.hid (bthen D12.out b13)); (have M13 := Lib.hid (Below.refl w13.heap.size w13)); clear h13 b13)
              | (at_builtin; refine wpList_append_feed _ rfl (.tmp 102) (.tmp 103) 22 rfl w13.heap.size 5 i0 (.int .u8 0) 1 Tryd.underlying22 hI.out.1 hI.out.2.1 hI.out.2.2.1 hI.out.2.2.2 rfl _ _ _ rfl (own_none w13 _ M13.out.size) _ f.length _ rfl (up R13.out (balloc (Below.refl _ _) _)).feed8 (cells8_one _) (by unfold maxLen; omega) (by omega) (Nat.le_trans M13.out.size (by simp)) ?_; intro A14' c14' w14 hown14 hgrow14; (have H14 := Lib.hid (own_zero hown14)); (have M14 := Lib.hid (below_grown (M13.out.alloc M13.out.size _) (own_none w13 _ M13.out.size) hgrow14 (Nat.le_refl _) (Nat.le_trans M13.out.size (by simp)))); clear hown14 hgrow14)
              | (at_builtin; refine wpList_append_feed _ rfl (.tmp 104) (.tmp 105) 22 rfl w13.heap.size 5 i0 (.int .u8 0) 1 Tryd.underlying22 hI.out.1 hI.out.2.1 hI.out.2.2.1 hI.out.2.2.2 rfl _ _ _ rfl (H14.out) _ r.length _ rfl (up Q2.out (bthen D13.out M14.out)).feed8 (cells8_one _) (by unfold maxLen; omega) (by omega) (M14.out.size) ?_; intro A15' c15' w15 hown15 hgrow15; (have H15 := Lib.hid (hown15)); (have M15 := Lib.hid (below_grown (M14.out) (H14.out) hgrow15 (Nat.le_refl _) (M14.out.size))); clear hown15 hgrow15)
              | (go_at_call 30; refine ((gF (W := w15)).out (E2.out.below (bthen D13.out M15.out)) (rd_own2 H15.out)).mono ?_; rintro e w16 ⟨A16', c16', rfl, h16, b16⟩; (have R16 := Lib.hid h16); (have M16 := Lib.hid (bthen M15.out b16)); clear h16 b16)
              | (go_at_call 25; refine (sameList_any A12' A L c12' cA w16 (up R12.out (bthen K13.out M16.out)) (up L2.out (bthen D13.out M16.out)) hLl).mono ?_; rintro e w17 ⟨rfl, b17⟩; (have N17 := Lib.hid b17); (have M17 := Lib.hid (bthen M16.out b17)); (have D17 := Lib.hid (bthen D13.out M17.out)); (have u5 := (D17.out.cell (cell_lt X5.out)).trans X5.out); (have u6 := (D17.out.cell (cell_lt X6.out)).trans X6.out); clear b17)
              | (go_at_call 14; refine (same_eq (up R16.out N17.out) (up P2.out D17.out)).mono ?_; rintro e wq ⟨rfl, rfl⟩)
              | (at_builtin; refine wpList_append_feed _ rfl (.tmp 199) (.tmp 200) 22 rfl w17.heap.size 5 i0 (.int .u8 0) 1 Tryd.underlying22 hI.out.1 hI.out.2.1 hI.out.2.2.1 hI.out.2.2.2 rfl _ _ _ rfl (own_none w17 _ (Nat.le_refl _)) _ f.length _ rfl (up R13.out (bthen M17.out (balloc (Below.refl _ _) _))).feed8 (cells8_one _) (by unfold maxLen; omega) (by omega) (by simp) ?_; intro A18' c18' w18 hown18 hgrow18; (have H18 := Lib.hid (own_zero hown18)); (have Z18 := Lib.hid (below_grown ((Below.refl w17.heap.size w17).alloc (Nat.le_refl _) _) (own_none w17 _ (Nat.le_refl _)) hgrow18 (Nat.le_refl _) (by simp))); clear hown18 hgrow18)
              | fail)
            all_goals first
              | (go_ret; exact ⟨rfl, bthen BB.out D17.out⟩)
              | skip
            have hch : ¬ ch = 0 := by assumption
            have hlo : (f.length : Int) - b.length - 4 ≤ t := by assumption
            have hpp : ((ch == 0) = false ∧ (f.length : Int) - b.length - 4 ≤ t) ∧ t < f.length := by assumption
            have hhi := hpp.2
            have hLL := HL.out
            obtain ⟨i, rfl⟩ : ∃ i : Nat, t = (i : Int) := ⟨t.toNat, by omega⟩
            obtain ⟨k, rfl⟩ : ∃ k : Nat, ch = (k : Int) := ⟨ch.toNat, by omega⟩
            have hi1 : pb ≤ i := by omega
            have hi2 : i < f.length := by omega
            have hk1 : k < 256 := by omega
            have hk2 : k ≠ 0 := by omega
            have hne := xor_ne (x := f[i]) hk1 hk2
            rw [← bx_at hi2] at hne
            have hxr := u8_xor_nat (bx f i) k (bx_lt f i) hk1
            have hyl : bx f i ^^^ k < 256 := Nat.xor_lt_two_pow (n := 8) (bx_lt f i) (by omega)
            obtain ⟨g, rfl, hg1, hg2⟩ := own_addr H18.out (by omega)
            have hcell := H18.out.cellAt i (by omega)
            rw [cells8_bx hi2] at hcell
            have hfro := H18.out.frozenAt i
            have v5 := (Z18.out.cell (cell_lt u5)).trans u5
            have v6 := (Z18.out.cell (cell_lt u6)).trans u6
            generalize bx f i = x at hne hxr hyl hcell
            generalize x ^^^ k = y at hne hxr hyl
            have H19 := Lib.hid (((H18.out.drew).stored i (.int .u8 (y : Int))).1)
            have hs8 := set8 hi2 hyl
            rw [hs8] at H19
            have Z19 := Lib.hid (((Z18.out.drew).setCell (p := ⟨g, i, none⟩) hg1 (.int .u8 (y : Int))))
            have hNE := Lib.hid hne
            have hI1 := Lib.hid hi1
            have hp0 : (0 : Int) ≤ (i : Int) := by omega
            have hp1 : (i : Int) < (f.length : Int) := by omega
            clear hch hlo hpp hLL hi1 hk1 hk2 hne hyl hs8 hg2 u5 u6 hhi kP kT kQ kF gG gT gL gF
            go_region
            all_goals
              go_wp2_with (first
                | (at_builtin; refine wpList_append_feed _ rfl (.tmp 215) (.tmp 216) 22 rfl w17.heap.size 5 i0 (.int .u8 0) 1 Tryd.underlying22 hI.out.1 hI.out.2.1 hI.out.2.2.1 hI.out.2.2.2 rfl _ _ _ rfl (H19.out) _ r.length _ rfl (up Q2.out (bthen D17.out Z19.out)).feed8 (cells8_one _) (by unfold maxLen; omega) (by omega) (Z19.out.size) ?_; intro A20' c20' w20 hown20 hgrow20; (have H20 := Lib.hid (hown20)); (have Y20 := Lib.hid (below_grown (Z19.out) (H19.out) hgrow20 (Nat.le_refl _) (Z19.out.size))); clear hown20 hgrow20)
                | (go_at_call 30; refine ((gX (W := w20) (i := i) (x := UInt8.ofNat y)).out hI1.out hi2 hNE.out (E2.out.below (bthen D17.out Y20.out)) (rd_own3 (by rw [List.length_set]) H20.out)).mono ?_; rintro e w21 ⟨A21, c21, rfl, b21⟩)
                | fail)
              go_ret
              exact ⟨rfl, bthen BB.out (bthen D17.out (bthen Y20.out b21))⟩
          · clear he pB pR
            go_enter Tryd.func8, Tryd.ntmps8
            go_wp2_with (go_at_call 11; refine k0.out.mono ?_; rintro e w1 ⟨rfl, b1⟩; (obtain ⟨x0, x1, x2, x3, x4, x5, x6⟩ := box_cells b1); (have B1 := Lib.hid (box_below b1)); clear b1)
            go_quiet (fail)
            go_wp2_with (go_at_call 32; refine (natural_any A L cA _ (up pL (below_drewN B1.out _)) (by unfold maxLen at mL; omega)).mono ?_; rw [hnb]; rintro e wq ⟨rfl, rfl⟩)
            go_ret
            exact ⟨rfl, below_drewN B1.out _⟩
        · clear he pB pR
          go_enter Tryd.func8, Tryd.ntmps8
          go_wp2_with (go_at_call 11; refine k0.out.mono ?_; rintro e w1 ⟨rfl, b1⟩; (obtain ⟨x0, x1, x2, x3, x4, x5, x6⟩ := box_cells b1); (have B1 := Lib.hid (box_below b1)); clear b1)
          go_quiet (fail)
          go_wp2_with (go_at_call 32; refine (natural_any A L cA _ (up pL (below_drewN B1.out _)) (by unfold maxLen at mL; omega)).mono ?_; rw [hnb]; rintro e wq ⟨rfl, rfl⟩)
          go_ret
          exact ⟨rfl, below_drewN B1.out _⟩
    · clear he pB pR pL
      go_enter Tryd.func8, Tryd.ntmps8
      go_wp2_with (go_at_call 11; refine k0.out.mono ?_; rintro e w1 ⟨rfl, b1⟩; (obtain ⟨x0, x1, x2, x3, x4, x5, x6⟩ := box_cells b1); (have B1 := Lib.hid (box_below b1)); clear b1)
      go_quiet (fail)
      go_wp2_with fail
      go_ret
      exact ⟨rfl, below_drewN B1.out _⟩
  · clear he pB pR pL
    go_enter Tryd.func8, Tryd.ntmps8
    go_wp2_with (go_at_call 11; refine k0.out.mono ?_; rintro e w1 ⟨rfl, b1⟩; (obtain ⟨x0, x1, x2, x3, x4, x5, x6⟩ := box_cells b1); (have B1 := Lib.hid (box_below b1)); clear b1)
    go_quiet (fail)
    go_wp2_with fail
    go_ret
    exact ⟨rfl, below_drewN B1.out _⟩

set_option maxRecDepth 100000 in
theorem contract (H : Type) (enc : TypeId × Value → H) (W : World) (base : Nat) (args : Array Value) (ds gs : List (DataW H)) (before : List MemPlace)
    (hval : ∀ (j : Nat) t v, Tryd.f8.params[j]? = some t → args[j]? = some v → Value.okWide Tryd.prog W .any base t v)
    (hW : DataW.Whole enc Tryd.prog Tryd.f8.params.toList Rows.codecBackSpec.vars false W args.toList ds gs before) (hL : laidMetH Tryd.prog Rows.codecBackRow.laid W) :
    Calls Tryd.prog 8 args W fun e W' => ∃ v, e = .returned v ∧ Rows.codecBackSpec.post enc Tryd.prog Tryd.f8 false true false false W args v W' := by
  have hW0 := hW
  obtain ⟨p, q, hA0, hV, rfl, hfz, hnd⟩ := hW
  have hA : DataW.TrodAll enc Tryd.prog W 0 (fun _ => true) true Tryd.f8.params.toList args.toList ds p := hA0
  rw [Tryd.params8] at hA hval
  obtain ⟨v0, vs0, d0, ds0, p0, q0, hargs, rfl, rfl, h0, r0⟩ := trodAll_cons hA
  obtain ⟨rfl, rfl, rfl⟩ := trodAll_nil r0
  obtain rfl : args = #[v0] := by cases args; simp_all
  obtain ⟨N, S, A, cA, L, B, cB, b, R, cR, r, t, ch, rfl, z1, z2, z3, z4, z5, z6, z7, z8, z9⟩ := open_sent (hval 0 47 v0 rfl rfl) h0
  have he : Env W := env_of hL
  refine (walk N S A cA L B cB b R cR r t ch W he z1.1 z1.2 z2 z3 z4 z5 z6 z7.1 z7.2 z8 z9).mono fun e W' ⟨h1, h2⟩ => ?_
  subst h1
  exact ⟨_, rfl, law_post laidOut (by kernel_rfl) Tryd.underlying4 rfl (by kernel_rfl) hW0 rfl h2⟩

theorem reads (os : Os) {H : Type} (enc : TypeId × Value → H) : ∃ places, DataW.whole enc Tryd.prog ((World.laidAll Tryd.prog os Rows.codecBackRow.laid).forCall (fun _ _ => 0) ⟨#[], #[.agg #[.int .i64 0, .string ⟨#[]⟩, .slice none 0 0, .slice none 0 0, .slice none 0 0, .int .i64 0, .int .u8 0]], []⟩).memory Tryd.f8.params.toList Rows.codecBackSpec.vars false #[.agg #[.int .i64 0, .string ⟨#[]⟩, .slice none 0 0, .slice none 0 0, .slice none 0 0, .int .i64 0, .int .u8 0]].toList 8 = some ([.agg [.lit (.int .i64 0), .lit (.string []), .nil, .nil, .nil, .lit (.int .i64 0), .lit (.int .u8 0)]], [], places) :=
  ⟨[], by kernel_rfl⟩

set_option maxRecDepth 100000 in
theorem lifted (os : Os) (started : os.Started) (H : Type) (enc : TypeId × Value → H) (F : Stop.Interp) :
    ReturnsInHanded {} Tryd.checked os 8 .any ((OpenSpec.ofChange Rows.codecBackSpec).preRow enc Tryd.prog Tryd.f8 Rows.codecBackRow.domain false Rows.codecBackRow.laid) (((OpenSpec.ofChange Rows.codecBackSpec).at F).post enc Tryd.prog Tryd.f8 false true false false) := by
  obtain ⟨places, hx⟩ := reads os enc
  refine returnsInHanded_of_row (C := Tryd.checked) (s := OpenSpec.ofChange Rows.codecBackSpec) own started (by kernel_rfl) Tryd.func8
    (witness_row_atRef (enc := enc) (C := Tryd.checked) false (World.laidAll Tryd.prog os Rows.codecBackRow.laid) #[.agg #[.int .i64 0, .string ⟨#[]⟩, .slice none 0 0, .slice none 0 0, .slice none 0 0, .int .i64 0, .int .u8 0]] (World.laidAll_os _ _ _) (wit_vars os _) (wit_rows os _) (by kernel_rfl)
      (OpenSpec.preRow_of_cond 8 hx (by kernel_rfl) (fun k hk => by cases hk) (by kernel_rfl) (laidMet_laidAll _ (laid_fits os) (laid_ifaces os)))) ?_
  intro W base args ds gs before hval hW _ _ _ hL _ _
  exact contract H enc W base args ds gs before hval hW hL

theorem said : Rows.CodecBackSaid :=
  OpenClaim.holds_of_cond 8 Tryd.f8 rfl rfl rfl rfl rfl rfl rfl ⟨rfl, rfl, rfl, rfl, rfl⟩ rfl rfl rfl rfl rfl (by kernel_rfl) Tryd.func8 (by kernel_rfl)
    (of_decide_eq_true (by kernel_rfl)) (by unfold Func.isWrapper; first | (rw [if_pos (by decide +kernel)]; kernel_rfl) | (rw [if_neg (by decide +kernel)]; exact ⟨rfl, rfl⟩))
    (fun os started H enc _ F => by rw [OpenClaim.pre_eq_preRow]; exact lifted os started H enc F)

theorem plain (f : FuncId) (fn : Func) (hf : Tryd.pinned.checked.prog.funcNamed Rows.codecBackRow.func = some f) (hfn : Tryd.pinned.checked.prog.funcs[f]? = some fn) :
    false = Tryd.pinned.checked.prog.looks [] ∧ ∀ (j : Nat) t, fn.params[j]? = some t → Tryd.pinned.checked.prog.wantsStandIn t = false := by
  obtain rfl : f = 8 := Option.some.inj ((show Tryd.prog.funcNamed Rows.codecBackRow.func = some 8 by kernel_rfl).symm.trans hf) |>.symm
  obtain rfl : fn = Tryd.f8 := (Option.some.inj (Tryd.func8.symm.trans hfn)).symm
  refine ⟨by kernel_rfl, fun j t ht => ?_⟩
  have hall : (Tryd.f8.params.toList.all fun t => Tryd.prog.wantsStandIn t == false) = true := by kernel_rfl
  have := List.all_eq_true.1 hall t (Array.mem_def.1 (Array.mem_of_getElem? ht))
  exact beq_iff_eq.1 this

theorem card : Rows.CodecBackCardSaid :=
  Claim7.holds_tied_plain_at .later [] _ _ _ _ said (fun _ h => by cases h) (by kernel_rfl) (fun _ h => by cases h) codecBack_row_tie rfl ⟨rfl, rfl⟩ (by kernel_rfl) rfl plain (by kernel_rfl)
end Go.Proofs.YtlgjddmghmgmmaaDoor.lawBack
