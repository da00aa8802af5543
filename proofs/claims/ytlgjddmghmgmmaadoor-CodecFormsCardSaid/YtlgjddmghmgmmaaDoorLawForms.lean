/-
  The law CodecForms of the program holds: for every input that its row admits the call returns true, and the arguments read as before. Conditions: those of the row and of the card alone (the package's table as the program's text lays it).
-/
import Derived.Test.YtlgjddmghmgmmaaDoorOpen
import Derived.Test.YtlgjddmghmgmmaaDoorAlive
import Derived.Deep.RegionHeld3
import Derived.Deep.CutRange
import Derived.Deep.QuietTactic
import Derived.BigQuiet
namespace Go.Proofs.YtlgjddmghmgmmaaDoor.lawForms
open Go.ChangeShapes Go.WideShapes Go.ChangeAt Go.RowKit

theorem same_t {A B : Option Addr} {t : List UInt8} {c d y : Nat} {w : World} (hl : Rd w w.heap.size A c (cells8 t)) (hm : Rd w w.heap.size B d (cells8 t)) (hy : y = t.length) :
    Calls Tryd.prog 14 #[.slice A t.length c, .slice B y d] w fun e w' => e = .returned (.bool true) ∧ w = w' := by
  subst hy
  exact same_eq hl hm
theorem up {A : Option Addr} {c : Nat} {xs : List Value} {w w' : World} (h : Rd w w.heap.size A c xs) (b : Below w.heap.size w w') : Rd w' w'.heap.size A c xs := (h.below b).more b.size
/-- What a reading has found: where it is OK, the bytes that were read, and how many. -/
def Found (l : List UInt8) (z : Int) (y lo : Nat) (g : List UInt8) : Prop := z = 0 → g = l.take y ∧ lo ≤ y ∧ y ≤ l.length
theorem found_get (l : List UInt8) : Found l ((gE l : Nat) : Int) (gK l) 1 (put (gN l)) := fun h => ⟨put_get (by omega), gK_pos (by omega), (gK_le l).1⟩
theorem found_text (l : List UInt8) : Found l ((bE 2000 l : Nat) : Int) (bK 2000 l) 1 (putText (bB 2000 l)) := fun h => ⟨(text_form (by omega)).1, (text_form (by omega)).2, bK_le 2000 l⟩
theorem found_list (l : List UInt8) : Found l ((tE l : Nat) : Int) (tK l) 1 (putList (tL l)) := fun h => ⟨(list_form (by omega)).1, (list_form (by omega)).2, tK_le l⟩
theorem found_frame (l : List UInt8) : Found l ((uE l : Nat) : Int) (uK l) 5 (frame (uB l)) := fun h => ⟨(frame_form (by omega)).1, (frame_form (by omega)).2, (uB_len l).2⟩

set_option maxRecDepth 100000 in
set_option maxHeartbeats 6000000 in
theorem walk (A0 : Option Addr) (l0 : List UInt8) (c0 : Nat) (w : World) (he : Env w) (m0 : c0 ≤ maxLen) (p0 : Rd w w.heap.size A0 c0 (cells8 l0)) :
    Calls Tryd.prog 9 #[.slice A0 l0.length c0] w fun e w' => e = .returned (.bool true) ∧ Below w.heap.size w w' := by
  unfold maxLen at m0
  have k0 := Lib.hid (alive_any w he)
  by_cases h4 : l0.length ≤ 4000
  · have hlc : l0.length ≤ c0 := by have := p0.1; rwa [cells8_len] at this
    have kG := fun (W : World) (hW : Below w.heap.size w W) => get_at (w := W) l0.length rfl (up p0 hW) (by omega)
    have kT := fun (W : World) (hW : Below w.heap.size w W) => getText_any A0 l0 c0 W (up p0 hW) (by omega) (by omega)
    have kL := fun (W : World) (hW : Below w.heap.size w W) => getList_any A0 l0 c0 W (up p0 hW) (by omega) (by omega)
    have kU := fun (W : World) (hW : Below w.heap.size w W) => unframe_any A0 l0 c0 W (he.below hW) (up p0 hW) (by omega) (by omega)
    unfold textV at kT
    unfold ListPost at kL
    unfold FramePost at kU
    have f1 := found_get l0
    have f2 := found_text l0
    have f3 := found_list l0
    have f4 := found_frame l0
    have hx1 := gN_lt l0
    have hx3 := tL_len l0
    have hx4 := (uB_len l0).1
    have hx2 := bB_len 2000 l0
    have g1 := fun (W : World) => put_any none [] 0 (gN l0 : Nat) W Rd.none_ (by simp) (by omega) (by omega)
    have hsz : (strOf (bB 2000 l0)).size = (bB 2000 l0).length := rfl
    have g2 := fun (W : World) => putText_any none [] 0 (strOf (bB 2000 l0)) W Rd.none_ (by simp) (by omega)
    have hin : ints (tL l0) := ints_tL l0
    have g3 := fun (W : World) (B : Option Addr) (d : Nat) (h : Rd W W.heap.size B d (cellsI (tL l0))) => putList_any none B [] (tL l0) 0 d W Rd.none_ h (by simp) (by omega) hin
    have g4 := fun (W : World) (hW : Below w.heap.size w W) (B : Option Addr) (d : Nat) (h : Rd W W.heap.size B d (cells8 (uB l0))) => frame_any B (uB l0) d W (he.below hW) h (by omega)
    have e1 : ([] : List UInt8) ++ put ((gN l0 : Nat) : Int).toNat = put (gN l0) := rfl
    have e2 : ([] : List UInt8) ++ putText (strOf (bB 2000 l0)).data.toList = putText (bB 2000 l0) := rfl
    have e3 : ([] : List UInt8) ++ putList (tL l0) = putList (tL l0) := rfl
    rw [e1] at g1
    rw [e2] at g2
    rw [e3] at g3
    generalize put (gN l0) = t1 at *
    generalize putText (bB 2000 l0) = t2 at *
    generalize putList (tL l0) = t3 at *
    generalize frame (uB l0) = t4 at *
    generalize strOf (bB 2000 l0) = x2 at *
    generalize gN l0 = x1 at *
    generalize tL l0 = x3 at *
    generalize uB l0 = x4 at *
    generalize gK l0 = y1 at *
    generalize bK 2000 l0 = y2 at *
    generalize tK l0 = y3 at *
    generalize uK l0 = y4 at *
    generalize ((gE l0 : Nat) : Int) = z1 at *
    generalize ((bE 2000 l0 : Nat) : Int) = z2 at *
    generalize ((tE l0 : Nat) : Int) = z3 at *
    generalize ((uE l0 : Nat) : Int) = z4 at *
    have P0 := Lib.hid p0
    have F1 := Lib.hid f1
    have F2 := Lib.hid f2
    have F3 := Lib.hid f3
    have F4 := Lib.hid f4
    have kG := Lib.hid kG
    have kT := Lib.hid kT
    have kL := Lib.hid kL
    have kU := Lib.hid kU
    have G1 := Lib.hid g1
    have G2 := Lib.hid g2
    have G3 := Lib.hid g3
    have G4 := Lib.hid g4
    have hcm : Hid (c0 ≤ 9223372036854775807) := Lib.hid (by omega)
    clear m0 p0 he f1 f2 f3 f4 g1 g2 g3 g4 e1 e2 e3 hsz hin hx2 hx3 hx4
    go_enter Tryd.func9, Tryd.ntmps9
    go_upto_region 6 with (first
      | (go_at_call 11; refine k0.out.mono ?_; rintro e w1 ⟨rfl, b1⟩; (have B1 := Lib.hid b1); clear b1)
      | (go_at_call 12; refine (kG.out w1 B1.out).mono ?_; rintro e wq ⟨rfl, rfl⟩))
    go_cut [46] from 26 to 46 (fun s wx => s = .bool false ∧ Below w.heap.size w wx)
    case first =>
      clear kT kL kU G2 G3 G4 F2 F3 F4
      by_cases hz : z1 = 0
      · subst hz
        obtain ⟨ht, hy1, hy2⟩ := F1.out rfl
        have hd1 : decide ((y1 : Int) < 1) = false := decide_eq_false (by omega)
        have hd2 : decide ((l0.length : Int) < (y1 : Int)) = false := decide_eq_false (by omega)
        have hd5 : decide (l0.length < y1) = false := decide_eq_false (by omega)
        have hd3 : (y1 : Int) ≤ (c0 : Int) := by omega
        have hd4 : (0 : Int) ≤ (y1 : Int) := by omega
        have hc0 : ¬ c0 = 0 := by omega
        have HT := Lib.hid ht
        have hty : Hid (y1 = t1.length) := Lib.hid (by rw [ht, List.length_take]; omega)
        clear ht
        go_region_held3 (fun _ => True) (trivial) (first
          | (go_at_call 15; refine (G1.out _).mono ?_; rintro e wp ⟨Ap, cp, rfl, hp, bp⟩; (have RP := Lib.hid (Rd.of_own hp)); (have BP : Hid (Below w.heap.size w wp) := Lib.hid (B1.out.drew.trans (bp.mono B1.out.size))); clear hp bp)
          | (go_at_call 14; refine (same_t RP.out (by rw [HT.out]; exact rd_upto (up P0.out BP.out) y1) hty.out).mono ?_; rintro e wq ⟨rfl, rfl⟩))
        all_goals
          go_wp2_with fail
          go_meet
          exact ⟨rfl, BP.out⟩
      · have hb1 : (z1 == 0) = false := beq_eq_false_iff_ne.2 hz
        have hb2 : decide (z1 = 0) = false := decide_eq_false hz
        go_quiet (fail)
        go_wp2_with fail
        go_meet
        exact ⟨rfl, below_drewN B1.out _⟩
    case rest =>
    obtain ⟨rfl, hb⟩ := hcut
    obtain ⟨v1, rfl⟩ : ∃ v, v = wc := ⟨wc, rfl⟩
    have V1 := Lib.hid hb
    clear hb
    go_upto_region 9 with (first
      | (go_at_call 17; refine (kT.out v1 V1.out).mono ?_; rintro e wq ⟨rfl, rfl⟩))
    go_cut [73] from 53 to 73 (fun s wx => s = .bool false ∧ Below w.heap.size w wx)
    case first =>
      clear kG kT kL kU G1 G3 G4 F1 F3 F4
      by_cases hz : z2 = 0
      · subst hz
        obtain ⟨ht, hy1, hy2⟩ := F2.out rfl
        have hd1 : decide ((y2 : Int) < 1) = false := decide_eq_false (by omega)
        have hd2 : decide ((l0.length : Int) < (y2 : Int)) = false := decide_eq_false (by omega)
        have hd5 : decide (l0.length < y2) = false := decide_eq_false (by omega)
        have hd3 : (y2 : Int) ≤ (c0 : Int) := by omega
        have hd4 : (0 : Int) ≤ (y2 : Int) := by omega
        have hc0 : ¬ c0 = 0 := by omega
        have HT := Lib.hid ht
        have hty : Hid (y2 = t2.length) := Lib.hid (by rw [ht, List.length_take]; omega)
        clear ht
        go_region_held3 (fun _ => True) (trivial) (first
          | (go_at_call 19; refine (G2.out _).mono ?_; rintro e wp ⟨Ap, cp, rfl, hp, bp⟩; (have RP := Lib.hid (Rd.of_own hp)); (have BP : Hid (Below w.heap.size w wp) := Lib.hid (V1.out.drew.trans (bp.mono V1.out.size))); clear hp bp)
          | (go_at_call 14; refine (same_t RP.out (by rw [HT.out]; exact rd_upto (up P0.out BP.out) y2) hty.out).mono ?_; rintro e wq ⟨rfl, rfl⟩))
        all_goals
          go_wp2_with fail
          go_meet
          exact ⟨rfl, BP.out⟩
      · have hb1 : (z2 == 0) = false := beq_eq_false_iff_ne.2 hz
        have hb2 : decide (z2 = 0) = false := decide_eq_false hz
        go_quiet (fail)
        go_wp2_with fail
        go_meet
        exact ⟨rfl, below_drewN V1.out _⟩
    case rest =>
    obtain ⟨rfl, hb⟩ := hcut
    obtain ⟨v2, rfl⟩ : ∃ v, v = wc := ⟨wc, rfl⟩
    have V2 := Lib.hid hb
    clear hb
    go_upto_region 12 with (first
      | (go_at_call 21; refine (kL.out v2 V2.out).mono ?_; rintro e w9 ⟨A9, c9, rfl, h9, b9⟩; (have R9 := Lib.hid (Rd.of_own h9)); (have B9 := Lib.hid (V2.out.trans (b9.mono V2.out.size))); clear h9 b9))
    go_cut [100] from 80 to 100 (fun s wx => s = .bool false ∧ Below w.heap.size w wx)
    case first =>
      clear kG kT kL kU G1 G2 G4 F1 F2 F4
      by_cases hz : z3 = 0
      · subst hz
        obtain ⟨ht, hy1, hy2⟩ := F3.out rfl
        have hd1 : decide ((y3 : Int) < 1) = false := decide_eq_false (by omega)
        have hd2 : decide ((l0.length : Int) < (y3 : Int)) = false := decide_eq_false (by omega)
        have hd5 : decide (l0.length < y3) = false := decide_eq_false (by omega)
        have hd3 : (y3 : Int) ≤ (c0 : Int) := by omega
        have hd4 : (0 : Int) ≤ (y3 : Int) := by omega
        have hc0 : ¬ c0 = 0 := by omega
        have HT := Lib.hid ht
        have hty : Hid (y3 = t3.length) := Lib.hid (by rw [ht, List.length_take]; omega)
        clear ht
        go_region_held3 (fun _ => True) (trivial) (first
          | (go_at_call 23; refine (G3.out _ A9 c9 ?_).mono ?_; (exact R9.out); rintro e wp ⟨Ap, cp, rfl, hp, bp⟩; (have RP := Lib.hid (Rd.of_own hp)); (have BP : Hid (Below w.heap.size w wp) := Lib.hid (B9.out.drew.trans (bp.mono B9.out.size))); clear hp bp)
          | (go_at_call 14; refine (same_t RP.out (by rw [HT.out]; exact rd_upto (up P0.out BP.out) y3) hty.out).mono ?_; rintro e wq ⟨rfl, rfl⟩))
        all_goals
          go_wp2_with fail
          go_meet
          exact ⟨rfl, BP.out⟩
      · have hb1 : (z3 == 0) = false := beq_eq_false_iff_ne.2 hz
        have hb2 : decide (z3 = 0) = false := decide_eq_false hz
        go_quiet (fail)
        go_wp2_with fail
        go_meet
        exact ⟨rfl, below_drewN B9.out _⟩
    case rest =>
    obtain ⟨rfl, hb⟩ := hcut
    obtain ⟨v3, rfl⟩ : ∃ v, v = wc := ⟨wc, rfl⟩
    have V3 := Lib.hid hb
    clear hb
    go_upto_region 15 with (go_at_call 30; refine (kU.out v3 V3.out).mono ?_; rintro e w10 ⟨A10, c10, rfl, h10, b10⟩; (have R10 := Lib.hid (Rd.of_own h10)); (have B10 := Lib.hid (V3.out.trans (b10.mono V3.out.size))); clear h10 b10)
    clear kG kT kL kU G1 G2 G3 F1 F2 F3
    by_cases hz : z4 = 0
    · subst hz
      obtain ⟨ht, hy1, hy2⟩ := F4.out rfl
      have hd1 : decide ((5 : Int) ≤ (y4 : Int)) = true := decide_eq_true (by omega)
      have hd2 : decide ((y4 : Int) ≤ (l0.length : Int)) = true := decide_eq_true (by omega)
      have hd5 : decide (y4 ≤ l0.length) = true := decide_eq_true (by omega)
      have hd3 : (y4 : Int) ≤ (c0 : Int) := by omega
      have hd4 : (0 : Int) ≤ (y4 : Int) := by omega
      have hc0 : ¬ c0 = 0 := by omega
      have HT := Lib.hid ht
      have hty : Hid (y4 = t4.length) := Lib.hid (by rw [ht, List.length_take]; omega)
      clear ht
      go_region_held3 (fun _ => True) (trivial) (first
        | (go_at_call 28; refine (G4.out _ B10.out.drew A10 c10 ?_).mono ?_; (exact R10.out); rintro e wp ⟨Ap, cp, rfl, hp, bp⟩; (have RP := Lib.hid (Rd.of_own hp)); (have BP : Hid (Below w.heap.size w wp) := Lib.hid (B10.out.drew.trans (bp.mono B10.out.size))); clear hp bp)
        | (go_at_call 14; refine (same_t RP.out (by rw [HT.out]; exact rd_upto (up P0.out BP.out) y4) hty.out).mono ?_; rintro e wq ⟨rfl, rfl⟩))
      all_goals
        go_wp2_with fail
        go_ret
        exact ⟨rfl, BP.out⟩
    · have hb1 : (z4 != 0) = true := bne_iff_ne.2 hz
      have hb2 : decide (z4 = 0) = false := decide_eq_false hz
      have hb3 : (z4 == 0) = false := beq_eq_false_iff_ne.2 hz
      go_quiet (fail)
      go_wp2_with fail
      go_ret
      exact ⟨rfl, below_drewN B10.out _⟩
  · go_enter Tryd.func9, Tryd.ntmps9
    go_wp2_with (go_at_call 11; refine k0.out.mono ?_; rintro e w1 ⟨rfl, b1⟩; (have B1 := Lib.hid b1); clear b1)
    go_ret
    exact ⟨rfl, B1.out⟩

set_option maxRecDepth 100000 in
theorem contract (H : Type) (enc : TypeId × Value → H) (W : World) (base : Nat) (args : Array Value) (ds gs : List (DataW H)) (before : List MemPlace)
    (hval : ∀ (j : Nat) t v, Tryd.f9.params[j]? = some t → args[j]? = some v → Value.okWide Tryd.prog W .any base t v)
    (hW : DataW.Whole enc Tryd.prog Tryd.f9.params.toList Rows.codecFormsSpec.vars false W args.toList ds gs before) (hL : laidMetH Tryd.prog Rows.codecFormsRow.laid W) :
    Calls Tryd.prog 9 args W fun e W' => ∃ v, e = .returned v ∧ Rows.codecFormsSpec.post enc Tryd.prog Tryd.f9 false true false false W args v W' := by
  have hW0 := hW
  obtain ⟨p, q, hA0, hV, rfl, hfz, hnd⟩ := hW
  have hA : DataW.TrodAll enc Tryd.prog W 0 (fun _ => true) true Tryd.f9.params.toList args.toList ds p := hA0
  rw [Tryd.params9] at hA hval
  obtain ⟨v0, vs0, d0, ds0, p0, q0, hargs, rfl, rfl, h0, r0⟩ := trodAll_cons hA
  obtain ⟨rfl, rfl, rfl⟩ := trodAll_nil r0
  obtain rfl : args = #[v0] := by cases args; simp_all
  obtain ⟨A0, c0, l0, rfl, y0, z0⟩ := open_bs_rd h0 (okWide_slice Tryd.underlying22 (hval 0 22 v0 rfl rfl))
  have he : Env W := env_of hL
  refine (walk A0 l0 c0 W he y0 z0).mono fun e W' ⟨h1, h2⟩ => ?_
  subst h1
  exact ⟨_, rfl, law_post laidOut (by kernel_rfl) Tryd.underlying4 rfl (by kernel_rfl) hW0 rfl h2⟩

theorem reads (os : Os) {H : Type} (enc : TypeId × Value → H) : ∃ places, DataW.whole enc Tryd.prog ((World.laidAll Tryd.prog os Rows.codecFormsRow.laid).forCall (fun _ _ => 0) ⟨#[], #[.slice none 0 0], []⟩).memory Tryd.f9.params.toList Rows.codecFormsSpec.vars false #[.slice none 0 0].toList 8 = some ([.nil], [], places) :=
  ⟨[], by kernel_rfl⟩

set_option maxRecDepth 100000 in
theorem lifted (os : Os) (started : os.Started) (H : Type) (enc : TypeId × Value → H) (F : Stop.Interp) :
    ReturnsInHanded {} Tryd.checked os 9 .any ((OpenSpec.ofChange Rows.codecFormsSpec).preRow enc Tryd.prog Tryd.f9 Rows.codecFormsRow.domain false Rows.codecFormsRow.laid) (((OpenSpec.ofChange Rows.codecFormsSpec).at F).post enc Tryd.prog Tryd.f9 false true false false) := by
  obtain ⟨places, hx⟩ := reads os enc
  refine returnsInHanded_of_row (C := Tryd.checked) (s := OpenSpec.ofChange Rows.codecFormsSpec) own started (by kernel_rfl) Tryd.func9
    (witness_row_atRef (enc := enc) (C := Tryd.checked) false (World.laidAll Tryd.prog os Rows.codecFormsRow.laid) #[.slice none 0 0] (World.laidAll_os _ _ _) (wit_vars os _) (wit_rows os _) (by kernel_rfl)
      (OpenSpec.preRow_of_cond 8 hx (by kernel_rfl) (fun k hk => by cases hk) (by kernel_rfl) (laidMet_laidAll _ (laid_fits os) (laid_ifaces os)))) ?_
  intro W base args ds gs before hval hW _ _ _ hL _ _
  exact contract H enc W base args ds gs before hval hW hL

theorem said : Rows.CodecFormsSaid :=
  OpenClaim.holds_of_cond 9 Tryd.f9 rfl rfl rfl rfl rfl rfl rfl ⟨rfl, rfl, rfl, rfl, rfl⟩ rfl rfl rfl rfl rfl (by kernel_rfl) Tryd.func9 (by kernel_rfl)
    (of_decide_eq_true (by kernel_rfl)) (by unfold Func.isWrapper; first | (rw [if_pos (by decide +kernel)]; kernel_rfl) | (rw [if_neg (by decide +kernel)]; exact ⟨rfl, rfl⟩))
    (fun os started H enc _ F => by rw [OpenClaim.pre_eq_preRow]; exact lifted os started H enc F)

theorem plain (f : FuncId) (fn : Func) (hf : Tryd.pinned.checked.prog.funcNamed Rows.codecFormsRow.func = some f) (hfn : Tryd.pinned.checked.prog.funcs[f]? = some fn) :
    false = Tryd.pinned.checked.prog.looks [] ∧ ∀ (j : Nat) t, fn.params[j]? = some t → Tryd.pinned.checked.prog.wantsStandIn t = false := by
  obtain rfl : f = 9 := Option.some.inj ((show Tryd.prog.funcNamed Rows.codecFormsRow.func = some 9 by kernel_rfl).symm.trans hf) |>.symm
  obtain rfl : fn = Tryd.f9 := (Option.some.inj (Tryd.func9.symm.trans hfn)).symm
  refine ⟨by kernel_rfl, fun j t ht => ?_⟩
  have hall : (Tryd.f9.params.toList.all fun t => Tryd.prog.wantsStandIn t == false) = true := by kernel_rfl
  have := List.all_eq_true.1 hall t (Array.mem_def.1 (Array.mem_of_getElem? ht))
  exact beq_iff_eq.1 this

theorem card : Rows.CodecFormsCardSaid :=
  Claim7.holds_tied_plain_at .later [] _ _ _ _ said (fun _ h => by cases h) (by kernel_rfl) (fun _ h => by cases h) codecForms_row_tie rfl ⟨rfl, rfl⟩ (by kernel_rfl) rfl plain (by kernel_rfl)
end Go.Proofs.YtlgjddmghmgmmaaDoor.lawForms
