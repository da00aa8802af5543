/-
  The law CodecApart of the program holds: for every input that its row admits the call returns true, and the arguments read as before. Conditions: those of the row and of the card alone (the package's table as the program's text lays it).
-/
import Derived.Test.YtlgjddmghmgmmaaDoorOpen
import Derived.Test.YtlgjddmghmgmmaaDoorAlive
import Derived.Test.YtlgjddmghmgmmaaDoorText
namespace Go.Proofs.YtlgjddmghmgmmaaDoor.lawApart
open Go.ChangeShapes Go.WideShapes Go.ChangeAt Go.RowKit

theorem bthen {w w1 w2 : World} (h : Below w.heap.size w w1) (h2 : Below w1.heap.size w1 w2) : Below w.heap.size w w2 := h.trans (h2.mono h.size)
theorem balloc {w w1 : World} (h : Below w.heap.size w w1) (o : Obj) : Below w.heap.size w (w1.alloc o) := h.alloc h.size o
theorem up {A : Option Addr} {c : Nat} {xs : List Value} {w w' : World} (h : Rd w w.heap.size A c xs) (b : Below w.heap.size w w') : Rd w' w'.heap.size A c xs := (h.below b).more b.size
theorem own_far {w : World} {base e n : Nat} {v : Value} {xs : List Value} (h : w.ownsRow base e 1 v n xs) {p : Addr} (hp : p.block < base) (u : Value) : (w.setCell p u).ownsRow base e 1 v n xs :=
  h.kept (row := some p.block) ⟨rfl, rfl, rfl, by simp, fun k _ hne => Below.heap_setCell w p u k (fun e => hne (by rw [e]))⟩ (by
    rcases h.2 with ⟨rfl, _⟩ | ⟨g, cap, cur, rfl, hb, _⟩
    · exact .inl rfl
    · refine .inr (fun e => ?_)
      have : g = p.block := by simpa [Value.ownBlock] using e
      omega)

set_option maxRecDepth 100000 in
set_option maxHeartbeats 4000000 in
theorem walk (A0 : Option Addr) (l0 : List UInt8) (c0 : Nat) (a1 : Int) (a2 : Int) (w : World) (he : Env w) (_ : c0 ≤ maxLen) (p0 : Rd w w.heap.size A0 c0 (cells8 l0)) (n1 : -9223372036854775808 ≤ a1) (m1 : a1 ≤ 9223372036854775807) (n2 : -9223372036854775808 ≤ a2) (m2 : a2 ≤ 9223372036854775807) :
    Calls Tryd.prog 10 #[.slice A0 l0.length c0, .int .i64 a1, .int .i64 a2] w fun e w' => e = .returned (.bool true) ∧ Below w.heap.size w w' := by
  obtain ⟨i0, hi, hz0, hz1, hz2⟩ := info_parts info_u8
  have hI := Lib.hid (And.intro hi (And.intro hz0 (And.intro hz1 hz2)))
  clear hi hz0 hz1 hz2
  have k0 := Lib.hid (alive_any w he)
  by_cases h4 : l0.length ≤ 1000
  · have kX := fun (A : Option Addr) (c : Nat) (W : World) (h : Rd W W.heap.size A c (cells8 l0)) => put_any A l0 c a1 W h (by omega) n1 m1
    have kY := fun (A : Option Addr) (c : Nat) (W : World) (h : Rd W W.heap.size A c (cells8 l0)) => put_any A l0 c a2 W h (by omega) n2 m2
    have kU := fun (A : Option Addr) (c : Nat) (W : World) (h : Rd W W.heap.size A c (cells8 l0)) => putText_any A l0 c ⟨#[111, 110, 101]⟩ W h (by omega) (by decide)
    have kV := fun (A : Option Addr) (c : Nat) (W : World) (h : Rd W W.heap.size A c (cells8 l0)) => putText_any A l0 c ⟨#[116, 119, 111]⟩ W h (by omega) (by decide)
    have i12 : ints [a1, a2] := by intro n hn; simp at hn; omega
    have i21 : ints [a2, a1] := by intro n hn; simp at hn; omega
    have kP := fun (A B : Option Addr) (c d : Nat) (W : World) (h : Rd W W.heap.size A c (cells8 l0)) (h2 : Rd W W.heap.size B d (cellsI [a1, a2])) => putList_any A B l0 [a1, a2] c d W h h2 (by omega) (by simp) i12
    have kQ := fun (A B : Option Addr) (c d : Nat) (W : World) (h : Rd W W.heap.size A c (cells8 l0)) (h2 : Rd W W.heap.size B d (cellsI [a2, a1])) => putList_any A B l0 [a2, a1] c d W h h2 (by omega) (by simp) i21
    have rX := fun (W : World) (hW : Below w.heap.size w W) => refPut_any A0 l0 c0 a1 W (up p0 hW) (by omega) n1 m1
    have rY := fun (W : World) (hW : Below w.heap.size w W) => refPut_any A0 l0 c0 a2 W (up p0 hW) (by omega) n2 m2
    have rU := fun (W : World) (hW : Below w.heap.size w W) => refPutText_any A0 l0 c0 ⟨#[111, 110, 101]⟩ W (up p0 hW) (by omega) (by decide)
    have rP := fun (B : Option Addr) (d : Nat) (W : World) (hW : Below w.heap.size w W) (h2 : Rd W W.heap.size B d (cellsI [a1, a2])) => refPutList_any A0 B l0 [a1, a2] c0 d W (up p0 hW) h2 (by omega) (by simp) i12
    have rQ := fun (B : Option Addr) (d : Nat) (W : World) (hW : Below w.heap.size w W) (h2 : Rd W W.heap.size B d (cellsI [a2, a1])) => refPutList_any A0 B l0 [a2, a1] c0 d W (up p0 hW) h2 (by omega) (by simp) i21
    have c12 : cellsI [a1, a2] = #[Value.int .i64 a1, .int .i64 a2].toList := rfl
    have c21 : cellsI [a2, a1] = #[Value.int .i64 a2, .int .i64 a1].toList := rfl
    have l12 : [a1, a2].length = 2 := rfl
    have l21 : [a2, a1].length = 2 := rfl
    rw [l12] at kP rP
    rw [l21] at kQ rQ
    have hgv : 0 < (l0 ++ putText (⟨#[116, 119, 111]⟩ : ByteArray).data.toList).length := by
      rw [List.length_append, putText_len]
      have := put_pos (⟨#[116, 119, 111]⟩ : ByteArray).data.toList.length
      omega
    generalize l0 ++ put a1.toNat = gx at *
    generalize l0 ++ put a2.toNat = gy at *
    generalize l0 ++ putText (⟨#[111, 110, 101]⟩ : ByteArray).data.toList = gu at *
    generalize l0 ++ putText (⟨#[116, 119, 111]⟩ : ByteArray).data.toList = gv at *
    generalize l0 ++ putList [a1, a2] = gp at *
    generalize l0 ++ putList [a2, a1] = gq at *
    generalize cellsI [a1, a2] = x12 at *
    generalize cellsI [a2, a1] = x21 at *
    have C12 := Lib.hid c12
    have C21 := Lib.hid c21
    have kX := Lib.hid kX
    have kY := Lib.hid kY
    have kU := Lib.hid kU
    have kV := Lib.hid kV
    have kP := Lib.hid kP
    have kQ := Lib.hid kQ
    have rX := Lib.hid rX
    have rY := Lib.hid rY
    have rU := Lib.hid rU
    have rP := Lib.hid rP
    have rQ := Lib.hid rQ
    have P0 := Lib.hid p0
    clear p0 he i12 i21 c12 c21 l12 l21
    have hml : Hid ((l0.length : Int) + 40 = ((l0.length + 40 : Nat) : Int)) := Lib.hid (by omega)
    go_enter Tryd.func10, Tryd.ntmps10
    go_wp2_with (first
      | (go_at_call 11; refine k0.out.mono ?_; rintro e w1 ⟨rfl, b1⟩; (have B1 := Lib.hid b1); clear b1)
      | (at_make; refine wpList_make_own _ rfl _ _ 22 rfl w.heap.size 5 i0 (.int .u8 0) 1 Tryd.underlying22 hI.out.1 hI.out.2.1 hI.out.2.2.1 .i64 .i64 _ (l0.length + 40) rfl rfl hml.out (by rw [hI.out.2.2.2]; omega) (by unfold maxLen; omega) B1.out.size ?_; intro w2 hown2 hgrow2; (have B2 := Lib.hid (B1.out.grown hgrow2 B1.out.size (fun k hk => by cases hk))); (have H2 := Lib.hid hown2); clear hown2 hgrow2)
      | (at_builtin; refine wpList_append_feed _ rfl (.tmp 23) (.tmp 24) 22 rfl w.heap.size 5 i0 (.int .u8 0) 1 Tryd.underlying22 hI.out.1 hI.out.2.1 hI.out.2.2.1 hI.out.2.2.2 rfl _ _ _ rfl H2.out _ l0.length _ rfl (P0.out.below B2.out).feed8 (cells8_one _) (by unfold maxLen; omega) (by omega) B2.out.size ?_; intro A3' c3' w3 hown3 hgrow3; (have B3 := Lib.hid (below_grown B2.out H2.out hgrow3 (Nat.le_refl _) B2.out.size)); (have R3 := Lib.hid (Rd.of_own (own_zero hown3))); clear hown3 hgrow3)
      | (go_at_call 15; (with_reducible refine (kX.out A3' c3' w3 R3.out).mono ?_); rintro e w4 ⟨A4', c4', rfl, h4, b4⟩; (have R4 := Lib.hid (Rd.of_own h4)); (have D4 := Lib.hid b4); clear h4 b4)
      | (go_at_call 15; (with_reducible refine (kY.out A3' c3' w4 (up R3.out D4.out)).mono ?_); rintro e w5 ⟨A5', c5', rfl, h5, b5⟩; (have R5 := Lib.hid (Rd.of_own h5)); (have D5 := Lib.hid b5); clear h5 b5)
      | (go_at_call 19; (with_reducible refine (kU.out A3' c3' w5 (up R3.out (bthen D4.out D5.out))).mono ?_); rintro e w6 ⟨A6', c6', rfl, h6, b6⟩; (have R6 := Lib.hid (Rd.of_own h6)); (have D6 := Lib.hid b6); clear h6 b6)
      | (go_at_call 19; (with_reducible refine (kV.out A3' c3' w6 (up R3.out (bthen D4.out (bthen D5.out D6.out)))).mono ?_); rintro e w7 ⟨A7', c7', rfl, h7, b7⟩; (have R7 := Lib.hid (Rd.of_own h7)); (have D7 := Lib.hid b7); (have O7 := Lib.hid h7); (obtain ⟨gb, rfl, hg1, hg2⟩ := own_addr h7 hgv); clear h7 b7)
      | (go_at_call 23; (with_reducible refine (kP.out A3' _ c3' _ (w7.alloc (.cells #[.int .i64 a1, .int .i64 a2] 3)) (up R3.out (bthen D4.out (bthen D5.out (bthen D6.out (balloc D7.out _))))) ?_).mono ?_); (exact rd_lit C12.out rfl rfl); rintro e w8 ⟨A8', c8', rfl, h8, b8⟩; (have R8 := Lib.hid (Rd.of_own h8)); (have D8 := Lib.hid b8); (have O8 := Lib.hid h8); clear h8 b8)
      | (go_at_call 23; (with_reducible refine (kQ.out A3' _ c3' _ (w8.alloc (.cells #[.int .i64 a2, .int .i64 a1] 3)) (up R3.out (bthen D4.out (bthen D5.out (bthen D6.out (bthen D7.out (bthen (balloc (Below.refl _ _) _) (balloc D8.out _))))))) ?_).mono ?_); (exact rd_lit C21.out rfl rfl); rintro e w9 ⟨A9', c9', rfl, h9, b9⟩; (have R9 := Lib.hid (Rd.of_own h9)); (have D9 := Lib.hid b9); (have O9 := Lib.hid h9); (have T9 := Lib.hid (bthen (balloc (Below.refl w7.heap.size w7) (.cells #[.int .i64 a1, .int .i64 a2] 3)) (bthen D8.out (bthen (balloc (Below.refl _ _) (.cells #[.int .i64 a2, .int .i64 a1] 3)) D9.out)))); (have V9 := own_below O7.out T9.out); (have hcv := V9.cellAt 0 (by omega)); rw [cells8_bx hgv] at hcv; (have hfv := V9.frozenAt 0); (have hxv := bx_lt gv 0); generalize bx gv 0 = xv at hcv hxv; clear V9; clear h9 b9)
      | fail)
    have F6 : Below w6.heap.size w6 (w9.setCell { block := gb, off := 0 } (.int .u8 ((((xv : Nat) : Int) + 1) % 256))) := (bthen D7.out T9.out).setCell (p := { block := gb, off := 0 }) hg1 _
    have P10 : (w9.setCell { block := gb, off := 0 } (.int .u8 ((((xv : Nat) : Int) + 1) % 256))).ownsRow _ _ 1 _ _ _ := own_far (own_below O8.out (bthen (balloc (Below.refl _ _) (.cells #[.int .i64 a2, .int .i64 a1] 3)) D9.out)) (p := { block := gb, off := 0 }) (by simp; omega) _
    have Q10 : (w9.setCell { block := gb, off := 0 } (.int .u8 ((((xv : Nat) : Int) + 1) % 256))).ownsRow _ _ 1 _ _ _ := own_far O9.out (p := { block := gb, off := 0 }) (by have := D8.out.size; simp at this ⊢; omega) _
    generalize w9.setCell { block := gb, off := 0 } (.int .u8 ((((xv : Nat) : Int) + 1) % 256)) = w10 at F6 P10 Q10 ⊢
    have B10 := Lib.hid (bthen B3.out (bthen D4.out (bthen D5.out (bthen D6.out F6))))
    have RW := Lib.hid (up R3.out (bthen D4.out (bthen D5.out (bthen D6.out F6))))
    have RX := Lib.hid (up R4.out (bthen D5.out (bthen D6.out F6)))
    have RY := Lib.hid (up R5.out (bthen D6.out F6))
    have RU := Lib.hid (up R6.out F6)
    have RP := Lib.hid (Rd.of_own P10)
    have RQ := Lib.hid (Rd.of_own Q10)
    clear F6 P10 Q10 hcv hfv
    refine (same_eq RW.out (up P0.out B10.out)).mono ?_
    rintro e wq ⟨rfl, rfl⟩
    go_wp2_with (first
      | (go_at_call 16; (with_reducible refine (rX.out w10 B10.out).mono ?_); rintro e w11 ⟨A11', c11', rfl, h11, b11⟩; (have R11 := Lib.hid (Rd.of_own h11)); (have G11 := Lib.hid (b11)); (have X11 := Lib.hid (up RX.out G11.out)); clear h11 b11)
      | (go_at_call 14; (with_reducible refine (same_eq X11.out R11.out).mono ?_); rintro e wq ⟨rfl, rfl⟩)
      | (go_at_call 16; (with_reducible refine (rY.out w11 (bthen B10.out G11.out)).mono ?_); rintro e w12 ⟨A12', c12', rfl, h12, b12⟩; (have R12 := Lib.hid (Rd.of_own h12)); (have G12 := Lib.hid (bthen G11.out b12)); (have X12 := Lib.hid (up RY.out G12.out)); clear h12 b12)
      | (go_at_call 14; (with_reducible refine (same_eq X12.out R12.out).mono ?_); rintro e wq ⟨rfl, rfl⟩)
      | (go_at_call 20; (with_reducible refine (rU.out w12 (bthen B10.out G12.out)).mono ?_); rintro e w13 ⟨A13', c13', rfl, h13, b13⟩; (have R13 := Lib.hid (Rd.of_own h13)); (have G13 := Lib.hid (bthen G12.out b13)); (have X13 := Lib.hid (up RU.out G13.out)); clear h13 b13)
      | (go_at_call 14; (with_reducible refine (same_eq X13.out R13.out).mono ?_); rintro e wq ⟨rfl, rfl⟩)
      | (go_at_call 24; (with_reducible refine (rP.out _ _ (w13.alloc (.cells #[.int .i64 a1, .int .i64 a2] 3)) (balloc (bthen B10.out G13.out) _) ?_).mono ?_); (exact rd_lit C12.out rfl rfl); rintro e w14 ⟨A14', c14', rfl, h14, b14⟩; (have R14 := Lib.hid (Rd.of_own h14)); (have G14 := Lib.hid (bthen (balloc G13.out (.cells #[.int .i64 a1, .int .i64 a2] 3)) b14)); (have X14 := Lib.hid (up RP.out G14.out)); clear h14 b14)
      | (go_at_call 14; (with_reducible refine (same_eq X14.out R14.out).mono ?_); rintro e wq ⟨rfl, rfl⟩)
      | (go_at_call 24; (with_reducible refine (rQ.out _ _ (w14.alloc (.cells #[.int .i64 a2, .int .i64 a1] 3)) (balloc (bthen B10.out G14.out) _) ?_).mono ?_); (exact rd_lit C21.out rfl rfl); rintro e w15 ⟨A15', c15', rfl, h15, b15⟩; (have R15 := Lib.hid (Rd.of_own h15)); (have G15 := Lib.hid (bthen (balloc G14.out (.cells #[.int .i64 a2, .int .i64 a1] 3)) b15)); (have X15 := Lib.hid (up RQ.out G15.out)); clear h15 b15)
      | (go_at_call 14; (with_reducible refine (same_eq X15.out R15.out).mono ?_); rintro e wq ⟨rfl, rfl⟩)
      | fail)
    go_ret
    exact ⟨rfl, bthen B10.out G15.out⟩
  · go_enter Tryd.func10, Tryd.ntmps10
    go_wp2_with (go_at_call 11; refine k0.out.mono ?_; rintro e w1 ⟨rfl, b1⟩; (have B1 := Lib.hid b1); clear b1)
    go_ret
    exact ⟨rfl, B1.out⟩

set_option maxRecDepth 100000 in
theorem contract (H : Type) (enc : TypeId × Value → H) (W : World) (base : Nat) (args : Array Value) (ds gs : List (DataW H)) (before : List MemPlace)
    (hval : ∀ (j : Nat) t v, Tryd.f10.params[j]? = some t → args[j]? = some v → Value.okWide Tryd.prog W .any base t v)
    (hW : DataW.Whole enc Tryd.prog Tryd.f10.params.toList Rows.codecApartSpec.vars false W args.toList ds gs before) (hL : laidMetH Tryd.prog Rows.codecApartRow.laid W) :
    Calls Tryd.prog 10 args W fun e W' => ∃ v, e = .returned v ∧ Rows.codecApartSpec.post enc Tryd.prog Tryd.f10 false true false false W args v W' := by
  have hW0 := hW
  obtain ⟨p, q, hA0, hV, rfl, hfz, hnd⟩ := hW
  have hA : DataW.TrodAll enc Tryd.prog W 0 (fun _ => true) true Tryd.f10.params.toList args.toList ds p := hA0
  rw [Tryd.params10] at hA hval
  obtain ⟨v0, vs0, d0, ds0, p0, q0, hargs, rfl, rfl, h0, r0⟩ := trodAll_cons hA
  obtain ⟨v1, vs1, d1, ds1, p1, q1, rfl, rfl, rfl, h1, r1⟩ := trodAll_cons r0
  obtain ⟨v2, vs2, d2, ds2, p2, q2, rfl, rfl, rfl, h2, r2⟩ := trodAll_cons r1
  obtain ⟨rfl, rfl, rfl⟩ := trodAll_nil r2
  obtain rfl : args = #[v0, v1, v2] := by cases args; simp_all
  obtain ⟨A0, c0, l0, rfl, y0, z0⟩ := open_bs_rd h0 (okWide_slice Tryd.underlying22 (hval 0 22 v0 rfl rfl))
  obtain ⟨a1, rfl, _, _, z1⟩ := open_int Tryd.underlying3 (hval 1 3 v1 rfl rfl) h1
  have z1 := i64_bounds z1
  obtain ⟨a2, rfl, _, _, z2⟩ := open_int Tryd.underlying3 (hval 2 3 v2 rfl rfl) h2
  have z2 := i64_bounds z2
  have he : Env W := env_of hL
  refine (walk A0 l0 c0 a1 a2 W he y0 z0 z1.1 z1.2 z2.1 z2.2).mono fun e W' ⟨h1, h2⟩ => ?_
  subst h1
  exact ⟨_, rfl, law_post laidOut (by kernel_rfl) Tryd.underlying4 rfl (by kernel_rfl) hW0 rfl h2⟩

theorem reads (os : Os) {H : Type} (enc : TypeId × Value → H) : ∃ places, DataW.whole enc Tryd.prog ((World.laidAll Tryd.prog os Rows.codecApartRow.laid).forCall (fun _ _ => 0) ⟨#[], #[.slice none 0 0, .int .i64 0, .int .i64 0], []⟩).memory Tryd.f10.params.toList Rows.codecApartSpec.vars false #[.slice none 0 0, .int .i64 0, .int .i64 0].toList 8 = some ([.nil, .lit (.int .i64 0), .lit (.int .i64 0)], [], places) :=
  ⟨[], by kernel_rfl⟩

set_option maxRecDepth 100000 in
theorem lifted (os : Os) (started : os.Started) (H : Type) (enc : TypeId × Value → H) (F : Stop.Interp) :
    ReturnsInHanded {} Tryd.checked os 10 .any ((OpenSpec.ofChange Rows.codecApartSpec).preRow enc Tryd.prog Tryd.f10 Rows.codecApartRow.domain false Rows.codecApartRow.laid) (((OpenSpec.ofChange Rows.codecApartSpec).at F).post enc Tryd.prog Tryd.f10 false true false false) := by
  obtain ⟨places, hx⟩ := reads os enc
  refine returnsInHanded_of_row (C := Tryd.checked) (s := OpenSpec.ofChange Rows.codecApartSpec) own started (by kernel_rfl) Tryd.func10
    (witness_row_atRef (enc := enc) (C := Tryd.checked) false (World.laidAll Tryd.prog os Rows.codecApartRow.laid) #[.slice none 0 0, .int .i64 0, .int .i64 0] (World.laidAll_os _ _ _) (wit_vars os _) (wit_rows os _) (by kernel_rfl)
      (OpenSpec.preRow_of_cond 8 hx (by kernel_rfl) (fun k hk => by cases hk) (by kernel_rfl) (laidMet_laidAll _ (laid_fits os) (laid_ifaces os)))) ?_
  intro W base args ds gs before hval hW _ _ _ hL _ _
  exact contract H enc W base args ds gs before hval hW hL

theorem said : Rows.CodecApartSaid :=
  OpenClaim.holds_of_cond 10 Tryd.f10 rfl rfl rfl rfl rfl rfl rfl ⟨rfl, rfl, rfl, rfl, rfl⟩ rfl rfl rfl rfl rfl (by kernel_rfl) Tryd.func10 (by kernel_rfl)
    (of_decide_eq_true (by kernel_rfl)) (by unfold Func.isWrapper; first | (rw [if_pos (by decide +kernel)]; kernel_rfl) | (rw [if_neg (by decide +kernel)]; exact ⟨rfl, rfl⟩))
    (fun os started H enc _ F => by rw [OpenClaim.pre_eq_preRow]; exact lifted os started H enc F)

theorem plain (f : FuncId) (fn : Func) (hf : Tryd.pinned.checked.prog.funcNamed Rows.codecApartRow.func = some f) (hfn : Tryd.pinned.checked.prog.funcs[f]? = some fn) :
    false = Tryd.pinned.checked.prog.looks [] ∧ ∀ (j : Nat) t, fn.params[j]? = some t → Tryd.pinned.checked.prog.wantsStandIn t = false := by
  obtain rfl : f = 10 := Option.some.inj ((show Tryd.prog.funcNamed Rows.codecApartRow.func = some 10 by kernel_rfl).symm.trans hf) |>.symm
  obtain rfl : fn = Tryd.f10 := (Option.some.inj (Tryd.func10.symm.trans hfn)).symm
  refine ⟨by kernel_rfl, fun j t ht => ?_⟩
  have hall : (Tryd.f10.params.toList.all fun t => Tryd.prog.wantsStandIn t == false) = true := by kernel_rfl
  have := List.all_eq_true.1 hall t (Array.mem_def.1 (Array.mem_of_getElem? ht))
  exact beq_iff_eq.1 this

theorem card : Rows.CodecApartCardSaid :=
  Claim7.holds_tied_plain_at .later [] _ _ _ _ said (fun _ h => by cases h) (by kernel_rfl) (fun _ h => by cases h) codecApart_row_tie rfl ⟨rfl, rfl⟩ (by kernel_rfl) rfl plain (by kernel_rfl)
end Go.Proofs.YtlgjddmghmgmmaaDoor.lawApart
