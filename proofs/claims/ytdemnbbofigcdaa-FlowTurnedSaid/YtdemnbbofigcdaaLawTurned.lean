/-
  The law FlowTurned of the program holds: for every input that its row admits the call returns true, and the arguments read as before. Conditions: those of the row alone.
-/
import Derived.Test.YtdemnbbofigcdaaLawM
import Derived.Test.YtdemnbbofigcdaaAlive
import Derived.Test.YtdemnbbofigcdaaOpen
import Derived.Deep.RegionHeld3
namespace Go.Proofs.Ytdemnbbofigcdaa.lawTurned
open Go.ChangeShapes Go.WideShapes Go.ChangeAt Go.RowKit

theorem own_capE {w : World} {base c : Nat} {A : Option Addr} {l : List Ed} (h : OwnE w base A c l) : l.length ≤ c := by
  rcases h.2 with ⟨hv, h0⟩ | ⟨g, cap', cur, hv, _, _, h1, _⟩
  · omega
  · injection hv with _ _ hc
    omega
/-- Max of the edges turned round is a number; Max of the edges is that number, and 0 from a node to itself. -/
theorem turn_calls {l : List Ed} {A : Option Addr} {c : Nat} {w : World} (hg : Grph l) (p : Es w w.heap.size A l) (hq : l.length ≤ c) (s t : Int) {o : List Ed} {A' : Option Addr} {c' : Nat} (ho : o = l.map turn) (hc : o.length ≤ c') {W : World} (_ : Below w.heap.size w W) (h : Es W W.heap.size A' o) :
    Calls Try.prog 17 #[.slice A' o.length c', .int .i64 t, .int .i64 s] W fun e w' => ∃ v, e = .returned (.int .i64 v) ∧ Below W.heap.size W w' ∧
      (∀ W2 : World, Below w.heap.size w W2 → Calls Try.prog 17 #[.slice A l.length c, .int .i64 s, .int .i64 t] W2 fun e w'' => e = .returned (.int .i64 v) ∧ Below W2.heap.size W2 w'') ∧
      (∀ W2 : World, Below w.heap.size w W2 → Calls Try.prog 17 #[.slice A l.length c, .int .i64 s, .int .i64 s] W2 fun e w'' => e = .returned (.int .i64 0) ∧ Below W2.heap.size W2 w'') := by
  subst ho
  refine (gMax_any A' (l.map turn) c' t s W h hc (wf_list_turn hg)).mono fun e w' ⟨n, h1, h2, h3, h4⟩ => ⟨n, h1, h4, fun W2 b2 => ?_, fun W2 b2 => ?_⟩
  · refine (gMax_any A l c s t W2 (p.up b2) hq hg).mono fun e w'' ⟨m, k1, k2, k3, k4⟩ => ⟨?_, k4⟩
    rw [k1]
    by_cases hst : s = t
    · rw [k2 hst, h2 hst.symm]
    · obtain ⟨f, f1, f2, rfl⟩ := k3 hst
      obtain ⟨g, g1, g2, rfl⟩ := h3 (fun e => hst e.symm)
      rw [turn_max hst f1 f2 g1 g2]
  · refine (gMax_any A l c s s W2 (p.up b2) hq hg).mono fun e w'' ⟨m, k1, k2, _, k4⟩ => ⟨?_, k4⟩
    rw [k1, k2 rfl]

set_option maxRecDepth 100000 in
set_option maxHeartbeats 8000000 in
theorem walk (A0 : Option Addr) (l0 : List Ed) (c0 : Nat) (a1 : Int) (a2 : Int) (w : World) (m0 : l0.length ≤ 9223372036854775807) (q0 : l0.length ≤ c0) (p0 : Es w w.heap.size A0 l0) (_ : Hid ((Lit.int .i64 a1).wf = true)) (_ : Hid ((Lit.int .i64 a2).wf = true)) :
    Calls Try.prog 10 #[.slice A0 l0.length c0, .int .i64 a1, .int .i64 a2] w fun e w' => e = .returned (.bool true) ∧ Below w.heap.size w w' := by
  have kR := fun (W : World) (b : Below w.heap.size w W) => few_any A0 l0 c0 W (p0.up b) m0
  by_cases hr : l0.length ≤ 60 ∧ rightN l0 = 0
  · have hg := right_iff.1 hr.2
    have h60 := hr.1
    rw [decide_eq_true hr.1, decide_eq_true hr.2, Bool.and_true] at kR
    have kR := Lib.hid kR
    clear hr
    have hP := Lib.hid p0
    have KM := Lib.hid (fun (o : List Ed) (A' : Option Addr) (c' : Nat) (ho : o = l0.map turn) (hc : o.length ≤ c') (W : World) (b : Below w.heap.size w W) (h : Es W W.heap.size A' o) => turn_calls hg p0 q0 a1 a2 ho hc b h)
    clear p0 hg
    go_enter Try.func10, Try.ntmps10
    go_upto_region 5 with (first
      | (go_at_call 11; refine (alive_any _).mono ?_; rintro e w1 ⟨rfl, b1⟩; (have B1 := Lib.hid b1); clear b1)
      | (go_at_call 12; (with_reducible refine ((kR.out w1 B1.out)).mono ?_); rintro e w2 ⟨rfl, b2⟩; (have B2 := Lib.hid (bthen B1.out b2)); clear b2))
    have B2' := B2.out
    go_wp2
    obtain ⟨wo, rfl⟩ : ∃ wo, wo = w2 := ⟨w2, rfl⟩
    go_loopw [7, 8] (fun v i wr => ∃ (k : Nat) (A' : Option Addr) (c' : Nat) (o : List Ed), k ≤ l0.length ∧ o.length = k ∧ i = .int .i64 k ∧ v = .slice A' o.length c' ∧ Hid (OwnE wr wo.heap.size A' c' o) ∧ Hid (Below wo.heap.size wo wr) ∧ Hid ((l0.take k).map turn = o)) (fun _ i _ => l0.length - (intOf i).toNat)
    case atStart => exact ⟨0, none, 0, [], by omega, rfl, rfl, rfl, Lib.hid (ownE_nil _ _), Lib.hid (Below.refl _ _), Lib.hid rfl⟩
    case round =>
      obtain ⟨k, A', c', o, hk, hok, rfl, rfl, hO, hB, hT⟩ := hrel
      by_cases hlt : k < l0.length
      · obtain ⟨ad, rfl, hab, c0'⟩ := (hP.out.up B2').get hlt
        have hC := Lib.hid (fun (wr2 : World) (h : Below wo.heap.size wo wr2) => c0'.keep (by rw [block_of_add]; exact hab) (fun q hq => h.cell hq))
        obtain ⟨x0, x1, x2, x3⟩ := hC.out wr hB.out
        have hN := Lib.hid (turn_take hlt)
        rw [hT.out] at hN
        generalize eI l0 k = y0 at *
        generalize eF l0 k = y1 at *
        generalize eT l0 k = y2 at *
        generalize eC l0 k = y3 at *
        have hol : o.length ≤ 1000000000 := by omega
        have hOk := Lib.hid hok
        have hik : (k : Int) < (l0.length : Int) := by omega
        have hi0 : (0 : Int) ≤ (k : Int) := by omega
        clear c0' hT hP hok KM B2' h60
        go_wp2
        go_region_held3 (fun w' => w'.cell? (ad.add (k * 4)) = some (.int .i64 y0) ∧ w'.cell? { block := (ad.add (k * 4)).block, off := (ad.add (k * 4)).off + 1 } = some (.int .i64 y1) ∧ w'.cell? { block := (ad.add (k * 4)).block, off := (ad.add (k * 4)).off + 2 } = some (.int .i64 y2) ∧ w'.cell? { block := (ad.add (k * 4)).block, off := (ad.add (k * 4)).off + 3 } = some (.int .i64 y3))
          (first
            | exact ⟨x0, x1, x2, x3⟩
            | exact hC.out _ D3.out
            | exact hC.out _ (Below.drew (hB.out.alloc hB.out.size _))
            | go_keep)
          ((refine step_app_ed (by rfl) _ _ (by rfl) ⟨y0, y2, y1, y3⟩ (by rfl) (by rfl) hO.out hB.out (Nat.le_refl _) hol ?_; intro gg c3 w3 h3 d3; (have H3 := Lib.hid h3); (have D3 := Lib.hid d3); clear h3 d3))
        go_wp2
        exact ⟨⟨k + 1, _, c3, _, by omega, by rw [List.length_append, hOk.out]; rfl, by go_num, by rw [List.length_append]; rfl, H3, D3, hN⟩, by simp [intOf]; omega⟩
      · obtain rfl : k = l0.length := by omega
        have hE : Hid (o = l0.map turn) := Lib.hid (by have := hT.out; rw [List.take_length] at this; exact this.symm)
        have hcap : Hid (o.length ≤ c') := Lib.hid (own_capE hO.out)
        have B3 := Lib.hid (bthen B2' hB.out)
        have k1 := KM.out o A' c' hE.out hcap.out wr B3.out hO.out.es
        rw [hok] at k1
        have K1 := Lib.hid k1
        clear hT hP hO hB k1 KM B2'
        go_wp2_with (first
          | (go_at_call 17; (with_reducible refine (K1.out).mono ?_); rintro e w4 ⟨v, rfl, b4, h4⟩; (have B4 := Lib.hid (bthen B3.out b4)); (have K4 := Lib.hid (h4.1 w4 B4.out)); (have K5 := Lib.hid h4.2); clear b4 h4)
          | (go_at_call 17; (with_reducible refine (K4.out).mono ?_); rintro e w5 ⟨rfl, b5⟩; (have B5 := Lib.hid (bthen B4.out b5)); (have K6 := Lib.hid (K5.out w5 B5.out)); clear b5)
          | (go_at_call 17; (with_reducible refine (K6.out).mono ?_); rintro e w6 ⟨rfl, b6⟩; (have B6 := Lib.hid (bthen B5.out b6)); clear b6)
          | fail)
        go_ret
        exact ⟨by simp, B6.out⟩
  · have hx : (decide (l0.length ≤ 60) && decide (rightN l0 = 0)) = false := by
      rw [Bool.and_eq_false_iff]
      by_cases h : l0.length ≤ 60
      · exact .inr (decide_eq_false (fun h2 => hr ⟨h, h2⟩))
      · exact .inl (decide_eq_false h)
    rw [hx] at kR
    have kR := Lib.hid kR
    clear hr hx p0
    go_enter Try.func10, Try.ntmps10
    go_wp2_with (first
      | (go_at_call 11; refine (alive_any _).mono ?_; rintro e w1 ⟨rfl, b1⟩; (have B1 := Lib.hid b1); clear b1)
      | (go_at_call 12; (with_reducible refine ((kR.out w1 B1.out)).mono ?_); rintro e w2 ⟨rfl, b2⟩; (have B2 := Lib.hid (bthen B1.out b2)); clear b2)
      | fail)
    go_ret
    exact ⟨rfl, B2.out⟩

set_option maxRecDepth 100000 in
theorem lifted (os : Os) (started : os.Started) (H : Type) (enc : TypeId × Value → H) :
    ReturnsInHanded {} Try.checked os 10 .any (Rows.flowTurnedSpec.pre6 enc Try.prog Try.f10 Rows.flowTurnedRow.domain false) (Rows.flowTurnedSpec.post enc Try.prog Try.f10 false true false false) := by
  refine returnsInHanded_of_change (C := Try.checked) own started (by kernel_rfl) Try.func10
    (ChangeSpec.witness6 (enc := enc) (C := Try.checked) false ⟨#[], #[.slice none 0 0, .int .i64 0, .int .i64 0], []⟩ 8 (by kernel_rfl) (by kernel_rfl) (by kernel_rfl) (by kernel_rfl)) ?_
  intro W base args ds gs before hval0 hW _ _
  have hval : ∀ (j : Nat) t v, Try.f10.params[j]? = some t → args[j]? = some v → Value.okWide Try.prog W .any base t v := hval0
  have hW0 := hW
  obtain ⟨p, q, hA0, hV, rfl, hfz, hnd⟩ := hW
  have hA : DataW.TrodAll enc Try.prog W 0 (fun _ => true) true Try.f10.params.toList args.toList ds p := hA0
  rw [Try.params10] at hA hval
  obtain ⟨v0, vs0, d0, ds0, p0, q0, hargs, rfl, rfl, h0, r0⟩ := trodAll_cons hA
  obtain ⟨v1, vs1, d1, ds1, p1, q1, rfl, rfl, rfl, h1, r1⟩ := trodAll_cons r0
  obtain ⟨v2, vs2, d2, ds2, p2, q2, rfl, rfl, rfl, h2, r2⟩ := trodAll_cons r1
  obtain ⟨rfl, rfl, rfl⟩ := trodAll_nil r2
  obtain rfl : args = #[v0, v1, v2] := by cases args; simp_all
  obtain ⟨A0, c0, l0, rfl, y0, x0, z0⟩ := open_es h0 (okWide_slice Try.underlying22 (hval 0 22 v0 rfl rfl))
  obtain ⟨a1, rfl, _, _, u1⟩ := open_int Try.underlying3 (hval 1 3 v1 rfl rfl) h1
  obtain ⟨a2, rfl, _, _, u2⟩ := open_int Try.underlying3 (hval 2 3 v2 rfl rfl) h2
  refine (walk A0 l0 c0 a1 a2 W y0 x0 z0 (Lib.hid u1) (Lib.hid u2)).mono fun e W' ⟨h1, h2⟩ => ?_
  subst h1
  exact ⟨_, rfl, law_post laidOut (by kernel_rfl) Try.underlying4 rfl (by kernel_rfl) hW0 rfl h2⟩

theorem said : Rows.FlowTurnedSaid :=
  OpenClaim.holds_of_wide 10 Try.f10 rfl rfl rfl rfl rfl rfl rfl ⟨rfl, rfl, rfl, rfl, rfl⟩ rfl rfl rfl rfl rfl (by kernel_rfl) Try.func10 (by kernel_rfl)
    (of_decide_eq_true (by kernel_rfl)) (by unfold Func.isWrapper; first | (rw [if_pos (by decide +kernel)]; kernel_rfl) | (rw [if_neg (by decide +kernel)]; exact ⟨rfl, rfl⟩))
    (fun os started H enc _ => lifted os started H enc)
end Go.Proofs.Ytdemnbbofigcdaa.lawTurned
