/-
  The law GraphLater of the program holds: for every input that its row admits the call returns true, and the arguments read as before. Conditions: those of the row alone.
-/
import Derived.Test.YtlaklfiodmnocaaTwo
namespace Go.Proofs.Ytlaklfiodmnocaa.lawLater
open Go.ChangeShapes Go.WideShapes Go.ChangeAt Go.RowKit

theorem later_end (l : List Ed) : (loopB l l.length = true ∧ ordE l = 16 ∧ ordR l = []) ∨ (loopB l l.length = false ∧ ordE l = 0 ∧ (ordR l).length ≤ 2 * l.length ∧ (∀ e ∈ l, 0 ≤ plc (ordR l) e.frm ∧ plc (ordR l) e.frm < plc (ordR l) e.to) ∧ (ordR l).Nodup) := by
  have hlen := ord_len l
  unfold ordE ordR at *
  rcases h : ordL l with _ | r
  · exact .inl ⟨loopB_end.2 h, rfl, rfl⟩
  · rw [h] at hlen
    obtain ⟨h1, _, _, h4⟩ := ord_facts h
    refine .inr ⟨?_, rfl, hlen, h4, h1⟩
    cases hb : loopB l l.length with
    | false => rfl
    | true => rw [loopB_end.1 hb] at h; cases h

set_option maxRecDepth 100000 in
set_option maxHeartbeats 8000000 in
theorem walk (A0 : Option Addr) (l0 : List Ed) (c0 : Nat) (w : World) (m0 : l0.length ≤ 9223372036854775807) (p0 : Es w w.heap.size A0 l0) :
    Calls Try.prog 8 #[.slice A0 l0.length c0] w fun e w' => e = .returned (.bool true) ∧ Below w.heap.size w w' := by
  have kR := fun (W : World) (b : Below w.heap.size w W) => right_any A0 l0 c0 W (p0.up b) m0
  by_cases hr : rightN l0 = 0
  · have hg := right_iff.1 hr
    rw [decide_eq_true hr] at kR
    have kR := Lib.hid kR
    clear hr
    by_cases h60 : l0.length ≤ 60
    · have kO := fun (W : World) (b : Below w.heap.size w W) => gOrder_any A0 l0 c0 W (p0.up b) hg
      unfold OrdPost at kO
      have hWt := Lib.hid (fun (k : Nat) (h : k < l0.length) => (show (Lit.int .i64 (eT l0 k)).wf = true from wf_node (hg.2.1 _ (e_mem h)).2.2.1 (hg.2.1 _ (e_mem h)).2.2.2.1))
      have kR := fun (t : Int) (ht : (Lit.int .i64 t).wf = true) (W : World) (B : Option Addr) (d : Nat) (b : Below w.heap.size w W) (h : Rd W W.heap.size B d (cellsI [t])) => gReach_any A0 B l0 [t] c0 d W (p0.up b) h hg (by simp) (wfl1 ht)
      unfold MadeI' at kR
      simp only [List.length_singleton] at kR
      have hE := later_end l0
      have hL := fun (t : Int) => reach_len l0 [t]
      have hP := Lib.hid p0
      generalize ordR l0 = r at *
      generalize ordE l0 = z at *
      have KO := Lib.hid kO
      have KR := Lib.hid kR
      have hE := Lib.hid hE
      have hL := Lib.hid hL
      clear kO kR p0 hg
      go_enter Try.func8, Try.ntmps8
      go_wp2_with (first
        | (go_at_call 11; refine (alive_any _).mono ?_; rintro e w1 ⟨rfl, b1⟩; (have B1 := Lib.hid b1); clear b1)
        | (go_at_call 14; (with_reducible refine ((kR.out w1 B1.out)).mono ?_); rintro e w2 ⟨rfl, b2⟩; (have D2 := Lib.hid b2); (have B2 := Lib.hid (bthen B1.out b2)); clear b2)
        | (go_at_call 20; (with_reducible refine (KO.out w2 B2.out).mono ?_); rintro e w3 ⟨A3', c3', rfl, h3, b3⟩; (have H3 := Lib.hid h3.rd); (have B3 := Lib.hid (bthen B2.out b3)); clear h3 b3)
        | fail)
      go_loopw [5, 6] (fun v i wr => ∃ k : Nat, k ≤ l0.length ∧ i = .int .i64 k ∧ v = .bool (loopB l0 k) ∧ Hid (Below w3.heap.size w3 wr)) (fun _ i _ => l0.length - (intOf i).toNat)
      case atStart => exact ⟨0, by omega, rfl, by rw [loopB_zero], Lib.hid (Below.refl _ _)⟩
      case round =>
        obtain ⟨k, hk, rfl, rfl, hB⟩ := hrel
        have B4 := Lib.hid (bthen B3.out hB.out)
        by_cases hlt : k < l0.length
        · obtain ⟨ad, rfl, hab, cc⟩ := ((hP.out.up B4.out)).get hlt
          have hC := Lib.hid (fun (wr2 : World) (h : Below wr.heap.size wr wr2) => cc.keep (by rw [block_of_add]; exact hab) (fun q hq => h.cell hq))
          have hS := loopB_succ hlt
          have kr := KR.out (eT l0 k) (hWt.out k hlt)
          have hl := hL.out (eT l0 k)
          generalize reachL l0 [eT l0 k] = q at *
          obtain ⟨_, x1, x2, _⟩ := hC.out wr (Below.refl _ _)
          generalize eF l0 k = y1 at *
          generalize eT l0 k = y2 at *
          cases hv : loopB l0 k with
          | true =>
            rw [hv] at hS
            have hS : Hid (loopB l0 (k + 1) = true) := Lib.hid hS
            clear hv kr hl hC cc H3 hP hE KO KR hL
            go_wp2
            go_quiet (fail)
            go_wp2
            exact ⟨⟨k + 1, by omega, by go_num, by rw [hS.out], Lib.hid (below_drewN hB.out _)⟩, by simp [intOf]; omega⟩
          | false =>
            rw [hv, Bool.false_or] at hS
            have hQ : q.length ≤ 9223372036854775807 := by rw [List.length_singleton] at hl; omega
            obtain ⟨hb, hhb⟩ : ∃ hb, hasB q y1 = hb := ⟨_, rfl⟩
            rw [hhb] at hS
            have hS := Lib.hid hS
            have hH := fun (W : World) (B : Option Addr) (d : Nat) (h : Rd W W.heap.size B d (cellsI q)) => has_any B q d y1 W h hQ
            rw [hhb] at hH
            have hH := Lib.hid hH
            have kr := Lib.hid kr
            clear hv hl cc H3 hP hE KO KR hL hhb hQ
            go_wp2
            go_region_held3 (fun w' => w'.cell? { block := (ad.add (k * 4)).block, off := (ad.add (k * 4)).off + 1 } = some (.int .i64 y1) ∧ w'.cell? { block := (ad.add (k * 4)).block, off := (ad.add (k * 4)).off + 2 } = some (.int .i64 y2))
              (first
                | exact ⟨x1, x2⟩
                | exact ⟨(hC.out _ D5.out).2.1, (hC.out _ D5.out).2.2.1⟩
                | exact ⟨(hC.out _ (Below.drew (balloc (Below.refl _ _) _))).2.1, (hC.out _ (Below.drew (balloc (Below.refl _ _) _))).2.2.1⟩
                | exact ⟨(hC.out _ (balloc (Below.refl _ _) _)).2.1, (hC.out _ (balloc (Below.refl _ _) _)).2.2.1⟩
                | exact ⟨(hC.out _ (Below.drew (Below.refl _ _))).2.1, (hC.out _ (Below.drew (Below.refl _ _))).2.2.1⟩
                | go_keep)
              (first
                | (go_at_call 16; (with_reducible refine (kr.out _ _ _ ?_ ?_).mono ?_); (exact Below.drew (balloc B4.out _)); (exact (rd_lit (cs := #[.int .i64 y2]) rfl rfl rfl).up (Below.drew (Below.refl _ _))); rintro e w5 ⟨A5', c5', rfl, h5, b5⟩; (have D5 : Hid (Below wr.heap.size wr w5) := Lib.hid ((Below.drew (balloc (Below.refl wr.heap.size wr) _)).trans (b5.mono (by show _ ≤ (wr.alloc _).heap.size; simp)))); (have H5 := Lib.hid h5.rd); clear h5 b5)
                | (go_at_call 24; (with_reducible refine (hH.out _ _ _ H5.out).mono ?_); rintro e wq ⟨rfl, rfl⟩))
            all_goals
              go_wp2_with fail
              exact ⟨⟨k + 1, by omega, by go_num, by rw [hS.out], Lib.hid (bthen hB.out D5.out)⟩, by simp [intOf]; omega⟩
        · obtain rfl : k = l0.length := by omega
          rcases hE.out with ⟨e1, e2, e3⟩ | ⟨e1, e2, e3, e4, e5⟩
          · rw [e1]
            subst e2 e3
            clear hP H3 KO KR hL hE
            go_wp2
            go_ret
            exact ⟨by simp, B4.out⟩
          · rw [e1]
            subst e2
            have HO := Lib.hid (H3.out.up hB.out)
            have HP := Lib.hid (hP.out.up B4.out)
            have F4 := Lib.hid e4
            have F5 := Lib.hid e5
            have hd1 : decide ((r.length : Int) > 2 * (l0.length : Int)) = false := decide_eq_false (by omega)
            have hd2 : IntKind.i64.wrap (2 * (l0.length : Int)) = 2 * (l0.length : Int) := IntWalk.i64_in _ (by omega)
            clear hP H3 KO KR hL hE e1 e4 e5
            go_wp2
            go_loopw [7] (fun i wr2 => ∃ k : Nat, k ≤ l0.length ∧ i = .int .i64 k ∧ Hid (Below wr.heap.size wr wr2)) (fun i _ => l0.length - (intOf i).toNat)
            case atStart => exact ⟨0, by omega, rfl, Lib.hid (Below.refl _ _)⟩
            case round =>
              obtain ⟨k, hk, rfl, hB2⟩ := hrel
              by_cases hlt : k < l0.length
              · obtain ⟨ad, rfl, hab, _, x1, x2, _⟩ := (HP.out.below hB2.out).get hlt
                obtain ⟨f1, f2⟩ := F4.out _ (e_mem hlt)
                simp only at f1 f2
                have HR := Lib.hid (HO.out.up hB2.out)
                generalize eF l0 k = y1 at *
                generalize eT l0 k = y2 at *
                obtain ⟨f, hf⟩ : ∃ f, plc r y1 = f := ⟨_, rfl⟩
                obtain ⟨t, ht⟩ : ∃ t, plc r y2 = t := ⟨_, rfl⟩
                rw [hf] at f1 f2
                rw [ht] at f2
                have HF := Lib.hid hf
                have HT := Lib.hid ht
                have hrl : Hid (r.length ≤ 9223372036854775807) := Lib.hid (by omega)
                have g1 : decide (f < 0) = false := decide_eq_false (by omega)
                have g2 : decide (t ≤ f) = false := decide_eq_false (by omega)
                clear HO HP F4 F5 hf ht f1 f2
                go_wp2
                go_quiet ((first | (go_at_call 26; exact place_q HR.out hrl.out HF.out) | (go_at_call 26; exact place_q HR.out hrl.out HT.out)))
                go_wp2
                exact ⟨⟨k + 1, by omega, by go_num, Lib.hid (below_drewN hB2.out _)⟩, by simp [intOf]; omega⟩
              · obtain rfl : k = l0.length := by omega
                have HR := Lib.hid (HO.out.up hB2.out)
                have B5 := Lib.hid (bthen B4.out hB2.out)
                clear HO HP F4
                go_wp2
                go_loop [8] (fun i => ∃ k : Nat, k ≤ r.length ∧ i = .int .i64 k) (fun i => r.length - (intOf i).toNat)
                case atStart => exact ⟨0, by omega, rfl⟩
                case round =>
                  obtain ⟨k, hk, rfl⟩ := hrel
                  by_cases hlt : k < r.length
                  · obtain ⟨ad, rfl, _, c1⟩ := HR.out.get (cellsI_ix hlt)
                    have kp := place_any _ r c3' (ix r k) _ HR.out (by omega)
                    rw [plc_nodup F5.out hlt] at kp
                    have kp := Lib.hid kp
                    generalize ix r k = x at *
                    clear HR F5
                    by_cases hk0 : k = 0
                    all_goals
                      first
                        | (subst hk0; have c1 : wr.cell? ad = some (.int .i64 x) := c1)
                        | skip
                      go_wp2_with (go_at_call 26; (with_reducible refine (kp.out).mono ?_); rintro e wq ⟨rfl, rfl⟩)
                      first
                        | exact ⟨⟨1, by omega, rfl⟩, by simp [intOf]; omega⟩
                        | exact ⟨⟨k + 1, by omega, by go_num⟩, by simp [intOf]; omega⟩
                  · obtain rfl : k = r.length := by omega
                    clear HR F5
                    go_wp2
                    go_ret
                    exact ⟨rfl, B5.out⟩
    · clear p0 hg
      go_enter Try.func8, Try.ntmps8
      go_wp2_with (first
        | (go_at_call 11; refine (alive_any _).mono ?_; rintro e w1 ⟨rfl, b1⟩; (have B1 := Lib.hid b1); clear b1)
        | (go_at_call 14; (with_reducible refine ((kR.out w1 B1.out)).mono ?_); rintro e w2 ⟨rfl, b2⟩; (have D2 := Lib.hid b2); (have B2 := Lib.hid (bthen B1.out b2)); clear b2)
        | fail)
      go_ret
      exact ⟨rfl, B2.out⟩
  · rw [decide_eq_false hr] at kR
    have kR := Lib.hid kR
    clear hr p0
    go_enter Try.func8, Try.ntmps8
    go_wp2_with (first
      | (go_at_call 11; refine (alive_any _).mono ?_; rintro e w1 ⟨rfl, b1⟩; (have B1 := Lib.hid b1); clear b1)
      | (go_at_call 14; (with_reducible refine ((kR.out w1 B1.out)).mono ?_); rintro e w2 ⟨rfl, b2⟩; (have D2 := Lib.hid b2); (have B2 := Lib.hid (bthen B1.out b2)); clear b2)
      | fail)
    go_ret
    exact ⟨rfl, B2.out⟩

set_option maxRecDepth 100000 in
theorem lifted (os : Os) (started : os.Started) (H : Type) (enc : TypeId × Value → H) :
    ReturnsInHanded {} Try.checked os 8 .any (Rows.graphLaterSpec.pre6 enc Try.prog Try.f8 Rows.graphLaterRow.domain false) (Rows.graphLaterSpec.post enc Try.prog Try.f8 false true false false) := by
  refine returnsInHanded_of_change (C := Try.checked) own started (by kernel_rfl) Try.func8
    (ChangeSpec.witness6 (enc := enc) (C := Try.checked) false ⟨#[], #[.slice none 0 0], []⟩ 8 (by kernel_rfl) (by kernel_rfl) (by kernel_rfl) (by kernel_rfl)) ?_
  intro W base args ds gs before hval0 hW _ _
  have hval : ∀ (j : Nat) t v, Try.f8.params[j]? = some t → args[j]? = some v → Value.okWide Try.prog W .any base t v := hval0
  have hW0 := hW
  obtain ⟨p, q, hA0, hV, rfl, hfz, hnd⟩ := hW
  have hA : DataW.TrodAll enc Try.prog W 0 (fun _ => true) true Try.f8.params.toList args.toList ds p := hA0
  rw [Try.params8] at hA hval
  obtain ⟨v0, vs0, d0, ds0, p0, q0, hargs, rfl, rfl, h0, r0⟩ := trodAll_cons hA
  obtain ⟨rfl, rfl, rfl⟩ := trodAll_nil r0
  obtain rfl : args = #[v0] := by cases args; simp_all
  obtain ⟨A0, c0, l0, rfl, y0, z0⟩ := open_es h0 (okWide_slice Try.underlying22 (hval 0 22 v0 rfl rfl))
  refine (walk A0 l0 c0 W y0 z0).mono fun e W' ⟨h1, h2⟩ => ?_
  subst h1
  exact ⟨_, rfl, law_post laidOut (by kernel_rfl) Try.underlying4 rfl (by kernel_rfl) hW0 rfl h2⟩

theorem said : Rows.GraphLaterSaid :=
  OpenClaim.holds_of_wide 8 Try.f8 rfl rfl rfl rfl rfl rfl rfl ⟨rfl, rfl, rfl, rfl, rfl⟩ rfl rfl rfl rfl rfl (by kernel_rfl) Try.func8 (by kernel_rfl)
    (of_decide_eq_true (by kernel_rfl)) (by unfold Func.isWrapper; first | (rw [if_pos (by decide +kernel)]; kernel_rfl) | (rw [if_neg (by decide +kernel)]; exact ⟨rfl, rfl⟩))
    (fun os started H enc _ => lifted os started H enc)
end Go.Proofs.Ytlaklfiodmnocaa.lawLater
