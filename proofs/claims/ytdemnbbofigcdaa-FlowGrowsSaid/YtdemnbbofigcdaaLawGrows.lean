/-
  The law FlowGrows of the program holds: for every input that its row admits the call returns true, and the arguments read as before. Conditions: those of the row alone.
-/
import Derived.Test.YtdemnbbofigcdaaLawM
import Derived.Test.YtdemnbbofigcdaaAlive
import Derived.Test.YtdemnbbofigcdaaOpen
namespace Go.Proofs.Ytdemnbbofigcdaa.lawGrows
open Go.ChangeShapes Go.WideShapes Go.ChangeAt Go.RowKit

theorem own_capE' {w : World} {base c : Nat} {A : Option Addr} {l : List Ed} (h : OwnE w base A c l) : l.length ≤ c := by
  rcases h.2 with ⟨hv, h0⟩ | ⟨g, cap', cur, hv, _, _, h1, _⟩
  · omega
  · injection hv with _ _ hc
    omega
theorem own_cost {w : World} {base c k g : Nat} {L : List Ed} {d : Int} (h : OwnE w base (some ⟨g, 0, none⟩) c L) (hk : k < L.length) : OwnE (w.setCell ⟨g, k * 4 + 3, none⟩ (.int .i64 (eC L k + d))) base (some ⟨g, 0, none⟩) c (grow L k d) := by
  unfold OwnE at h ⊢
  have e1 : cellsE (grow L k d) = (cellsE L).set (k * 4 + 3) (.int .i64 (eC L k + d)) := by
    unfold grow
    rw [← cellsE_set hk]
    simp only
    obtain ⟨d0, d1, d2, d3⟩ := cellsE_at L k hk
    obtain ⟨q0, q1, q2, q3⟩ := e_at hk
    rw [← q0] at d0
    rw [← q1] at d1
    rw [← q2] at d2
    rw [set_same d0, set_same d1, set_same d2]
  rw [e1, grow_len]
  exact (World.ownsRow.stored h (k * 4 + 3) (.int .i64 (eC L k + d))).1
/-- Max of the edges, and of those of which one capacity has grown by d, is greater by 0 to d. -/
theorem grow_calls {l : List Ed} {A A' : Option Addr} {c c' i : Nat} {d : Int} {w : World} (hg : Grph l) (hg2 : Grph (grow l i d)) (p : Es w w.heap.size A l) (hq : l.length ≤ c) (s t : Int) (hi : i < l.length) (hd : 0 ≤ d) (hc : l.length ≤ c') {W : World} (b : Below w.heap.size w W) :
    Calls Try.prog 17 #[.slice A l.length c, .int .i64 s, .int .i64 t] W fun e w' => ∃ v, e = .returned (.int .i64 v) ∧ Below W.heap.size W w' ∧ (-200000000 ≤ v ∧ v ≤ 200000000) ∧
      ∀ W2 : World, Es W2 W2.heap.size A' (grow l i d) → Calls Try.prog 17 #[.slice A' (grow l i d).length c', .int .i64 s, .int .i64 t] W2 fun e w'' => ∃ u, e = .returned (.int .i64 u) ∧ v ≤ u ∧ u ≤ v + d ∧ Below W2.heap.size W2 w'' := by
  refine (gMax_any A l c s t W (p.up b) hq hg).mono fun e w' ⟨n, h1, h2, h3, h4⟩ => ⟨n, h1, h4, ?_, fun W2 hE => ?_⟩
  · by_cases hst : s = t
    · rw [h2 hst]; omega
    · obtain ⟨f, f1, f2, rfl⟩ := h3 hst
      exact net_bound hg f1 s
  · refine (gMax_any A' (grow l i d) c' s t W2 hE (by rw [grow_len]; exact hc) hg2).mono fun e w'' ⟨m, k1, k2, k3, k4⟩ => ⟨m, k1, ?_, ?_, k4⟩
    · by_cases hst : s = t
      · rw [h2 hst, k2 hst]; omega
      · obtain ⟨f, f1, f2, rfl⟩ := h3 hst
        obtain ⟨g, g1, g2, rfl⟩ := k3 hst
        exact (grow_max hi hd f1 f2 g1 g2).1
    · by_cases hst : s = t
      · rw [h2 hst, k2 hst]; omega
      · obtain ⟨f, f1, f2, rfl⟩ := h3 hst
        obtain ⟨g, g1, g2, rfl⟩ := k3 hst
        exact (grow_max hi hd f1 f2 g1 g2).2

set_option maxRecDepth 100000 in
set_option maxHeartbeats 8000000 in
theorem walk (A0 : Option Addr) (l0 : List Ed) (c0 : Nat) (a1 : Int) (a2 : Int) (a3 : Int) (a4 : Int) (w : World) (m0 : l0.length ≤ 9223372036854775807) (q0 : l0.length ≤ c0) (p0 : Es w w.heap.size A0 l0) (_ : Hid ((Lit.int .i64 a1).wf = true)) (_ : Hid ((Lit.int .i64 a2).wf = true)) (f3 : Hid ((Lit.int .u8 a3).wf = true)) (f4 : Hid ((Lit.int .u16 a4).wf = true)) :
    Calls Try.prog 9 #[.slice A0 l0.length c0, .int .i64 a1, .int .i64 a2, .int .u8 a3, .int .u16 a4] w fun e w' => e = .returned (.bool true) ∧ Below w.heap.size w w' := by
  have kR := fun (W : World) (b : Below w.heap.size w W) => few_any A0 l0 c0 W (p0.up b) m0
  by_cases hr : l0.length ≤ 60 ∧ rightN l0 = 0
  · have hg := right_iff.1 hr.2
    have h60 := hr.1
    rw [decide_eq_true hr.1, decide_eq_true hr.2, Bool.and_true] at kR
    have kR := Lib.hid kR
    clear hr
    have k3 := (Lit.wf_int_iff .u8 a3).1 f3.out
    have k4 := (Lit.wf_int_iff .u16 a4).1 f4.out
    have k3' : 0 ≤ a3 ∧ a3 ≤ 255 := k3
    have k4' : 0 ≤ a4 ∧ a4 ≤ 65535 := k4
    obtain ⟨k30, k31⟩ := k3'
    obtain ⟨k40, k41⟩ := k4'
    clear k3 k4
    by_cases hn0 : l0.length = 0
    · obtain rfl : l0 = [] := List.eq_nil_of_length_eq_zero hn0
      simp only [List.length_nil] at kR
      clear p0 hg hn0
      go_enter Try.func9, Try.ntmps9
      go_wp2_with (first
        | (go_at_call 11; refine (alive_any _).mono ?_; rintro e w1 ⟨rfl, b1⟩; (have B1 := Lib.hid b1); clear b1)
        | (go_at_call 12; (with_reducible refine ((kR.out w1 B1.out)).mono ?_); rintro e w2 ⟨rfl, b2⟩; (have B2 := Lib.hid (bthen B1.out b2)); clear b2)
        | fail)
      go_ret
      exact ⟨rfl, B2.out⟩
    · have hz : ((l0.length : Int) == 0) = false := beq_eq_false_iff_ne.2 (by omega)
      obtain ⟨ad, rfl, _, _⟩ := p0 (by omega)
      have hP := Lib.hid p0
      have hQ := Lib.hid q0
      have hG := Lib.hid hg
      obtain ⟨i0, hi, hz0, hz1, hz2⟩ := info_parts info_ed
      have hI := Lib.hid hi
      have hZ0 := Lib.hid hz0
      have hZ1 := Lib.hid hz1
      have hZ2 := Lib.hid hz2
      have hpos : (0 : Int) < (l0.length : Int) := by omega
      obtain ⟨ii, hii⟩ : ∃ ii : Nat, a3.toNat % l0.length = ii := ⟨_, rfl⟩
      have hil : ii < l0.length := by rw [← hii]; exact Nat.mod_lt _ (by omega)
      have hrm : Int.tmod a3 (l0.length : Int) = (ii : Int) := by
        have e3 : a3 = ((a3.toNat : Nat) : Int) := by omega
        rw [← hii, Int.tmod_eq_emod_of_nonneg k30, e3, Int.toNat_natCast]
        exact (Int.natCast_emod _ _).symm
      have hHii := Lib.hid hii
      have hi1 : (ii : Int) < (l0.length : Int) := by omega
      have hi2 : (0 : Int) ≤ (ii : Int) := by omega
      clear p0 hg hi hz0 hz1 hz2 hii hn0
      go_enter Try.func9, Try.ntmps9
      go_upto_region 5 with (first
        | (go_at_call 11; refine (alive_any _).mono ?_; rintro e w1 ⟨rfl, b1⟩; (have B1 := Lib.hid b1); clear b1)
        | (go_at_call 12; (with_reducible refine ((kR.out w1 B1.out)).mono ?_); rintro e w2 ⟨rfl, b2⟩; (have B2 := Lib.hid (bthen B1.out b2)); clear b2)
        | fail)
      have hF : Hid (Feed 4 (w2.alloc (.cells #[] 33)) (.slice (some ad) l0.length c0) l0.length (cellsE l0)) := Lib.hid ⟨cellsE_len l0, .inr ⟨ad, c0, rfl, (hP.out.up (B2.out.alloc B2.out.size (.cells #[] 33))).cells⟩⟩
      have hO := Lib.hid (made_empty w2 33 4)
      go_upto_region 6 with (at_builtin; refine wpList_append_feed _ rfl (.tmp 25) (.tmp 26) 22 rfl w2.heap.size 33 i0 (.agg #[.int .i64 0, .int .i64 0, .int .i64 0, .int .i64 0]) 4 32 Try.underlying22 hI.out hZ0.out hZ1.out hZ2.out rfl (by decide) _ 0 [] rfl hO.out _ l0.length (cellsE l0) rfl hF.out (cellsE_one l0) (by unfold maxLen; omega) (by omega) (by simp) ?_; intro A3 c3 w3 h1 h2; (have H1 := Lib.hid h1); (have H2 := Lib.hid h2); clear h1 h2)
      have O3 : OwnE w3 w2.heap.size A3 c3 l0 := by
        have h1 := H1.out
        simp only [Nat.zero_add, List.nil_append] at h1
        exact h1
      have B3 := Lib.hid (bthen B2.out (below_grown ((Below.refl w2.heap.size w2).alloc (Nat.le_refl _) _) hO.out H2.out (Nat.le_refl _) (by simp)))
      obtain ⟨g, rfl, hg1, hg2⟩ := ownE_head O3 (by omega)
      obtain ⟨ad2, e2, _, hA⟩ := O3.es.get hil
      injection e2 with e2
      subst e2
      rw [add_pos] at hA
      obtain ⟨_, _, _, z3⟩ := hA
      have fz : w3.frozen? ⟨g, ii * 4 + 3, none⟩ = false := World.ownsRow.frozenAt O3 _
      have z3 : w3.cell? ⟨g, ii * 4 + 3, none⟩ = some (.int .i64 (eC l0 ii)) := z3
      have hcb : 0 ≤ eC l0 ii ∧ eC l0 ii ≤ 1000000 := (hG.out.2.1 _ (e_mem hil)).2.2.2.2
      obtain ⟨hcb0, hcb1⟩ := hcb
      have O4 := Lib.hid (own_cost (d := a4) O3 hil)
      have B4 := Lib.hid (B3.out.setCell (p := ⟨g, ii * 4 + 3, none⟩) (Nat.le_trans B2.out.size hg1) (.int .i64 (eC l0 ii + a4)))
      have kR2 := Lib.hid (fun (W : World) (h : Es W W.heap.size (some ⟨g, 0, none⟩) (grow l0 ii a4)) => right6_any (some ⟨g, 0, none⟩) (grow l0 ii a4) c3 W h (by rw [grow_len]; exact m0))
      have hCl := Lib.hid (fun (hg2 : Grph (grow l0 ii a4)) (W : World) (b : Below w.heap.size w W) => grow_calls (A' := some ⟨g, 0, none⟩) (c' := c3) hG.out hg2 hP.out hQ.out a1 a2 hil k40 (own_capE' O3) b)
      clear H1 H2 hO hF
      generalize eC l0 ii = y at *
      go_upto_region 8 with (fail)
      obtain ⟨w4, hw4⟩ : ∃ w4, w3.setCell ⟨g, ii * 4 + 3, none⟩ (.int .i64 (y + a4)) = w4 := ⟨_, rfl⟩
      rw [hw4] at O4 B4 ⊢
      have E4 := Lib.hid O4.out.es
      have hgl := grow_len l0 ii a4
      have kR3 := kR2.out w4 E4.out
      rw [hgl] at hCl kR3
      clear hw4 z3 fz kR2 O3 hcb0 hcb1 hHii hrm hi1 hi2 hg1 hg2 O4 hgl
      generalize grow l0 ii a4 = L2 at *
      by_cases hr2 : rightN L2 = 0
      · have hg3 := right_iff.1 hr2
        rw [decide_eq_true hr2] at kR3
        have hCl2 := Lib.hid (hCl.out hg3)
        have KR3 := Lib.hid kR3
        clear kR3 hCl hr2 hg3
        go_wp2_with (first
          | (go_at_call 26; (with_reducible refine (KR3.out).mono ?_); rintro e w5 ⟨rfl, b5⟩; (have E5 := Lib.hid (E4.out.up b5)); (have B5 := Lib.hid (bthen B4.out b5)); clear b5)
          | (go_at_call 17; (with_reducible refine (hCl2.out w5 B5.out).mono ?_); rintro e w6 ⟨v, rfl, b6, hv, h6⟩; (obtain ⟨hv0, hv1⟩ := hv); (have E6 := Lib.hid (E5.out.up b6)); (have K6 := Lib.hid (h6 w6 E6.out)); (have hvw : IntKind.i64.wrap (v + a4) = v + a4 := IntWalk.i64_in _ (by omega)); (have B6 := Lib.hid (bthen B5.out b6)); clear b6 h6)
          | (go_at_call 17; (with_reducible refine (K6.out).mono ?_); rintro e w7 ⟨u, rfl, u1, u2, b7⟩; (have B7 := Lib.hid (bthen B6.out b7)); clear b7)
          | fail)
        go_ret
        exact ⟨by simp, B7.out⟩
      · rw [decide_eq_false hr2] at kR3
        have KR3 := Lib.hid kR3
        clear kR3 hCl hr2
        go_wp2_with (first
          | (go_at_call 26; (with_reducible refine (KR3.out).mono ?_); rintro e w5 ⟨rfl, b5⟩; (have B5 := Lib.hid (bthen B4.out b5)); clear b5)
          | fail)
        go_ret
        exact ⟨rfl, B5.out⟩
  · have hx : (decide (l0.length ≤ 60) && decide (rightN l0 = 0)) = false := by
      rw [Bool.and_eq_false_iff]
      by_cases h : l0.length ≤ 60
      · exact .inr (decide_eq_false (fun h2 => hr ⟨h, h2⟩))
      · exact .inl (decide_eq_false h)
    rw [hx] at kR
    have kR := Lib.hid kR
    clear hr hx p0
    go_enter Try.func9, Try.ntmps9
    go_wp2_with (first
      | (go_at_call 11; refine (alive_any _).mono ?_; rintro e w1 ⟨rfl, b1⟩; (have B1 := Lib.hid b1); clear b1)
      | (go_at_call 12; (with_reducible refine ((kR.out w1 B1.out)).mono ?_); rintro e w2 ⟨rfl, b2⟩; (have B2 := Lib.hid (bthen B1.out b2)); clear b2)
      | fail)
    go_ret
    exact ⟨rfl, B2.out⟩

set_option maxRecDepth 100000 in
theorem lifted (os : Os) (started : os.Started) (H : Type) (enc : TypeId × Value → H) :
    ReturnsInHanded {} Try.checked os 9 .any (Rows.flowGrowsSpec.pre6 enc Try.prog Try.f9 Rows.flowGrowsRow.domain false) (Rows.flowGrowsSpec.post enc Try.prog Try.f9 false true false false) := by
  refine returnsInHanded_of_change (C := Try.checked) own started (by kernel_rfl) Try.func9
    (ChangeSpec.witness6 (enc := enc) (C := Try.checked) false ⟨#[], #[.slice none 0 0, .int .i64 0, .int .i64 0, .int .u8 0, .int .u16 0], []⟩ 8 (by kernel_rfl) (by kernel_rfl) (by kernel_rfl) (by kernel_rfl)) ?_
  intro W base args ds gs before hval0 hW _ _
  have hval : ∀ (j : Nat) t v, Try.f9.params[j]? = some t → args[j]? = some v → Value.okWide Try.prog W .any base t v := hval0
  have hW0 := hW
  obtain ⟨p, q, hA0, hV, rfl, hfz, hnd⟩ := hW
  have hA : DataW.TrodAll enc Try.prog W 0 (fun _ => true) true Try.f9.params.toList args.toList ds p := hA0
  rw [Try.params9] at hA hval
  obtain ⟨v0, vs0, d0, ds0, p0, q0, hargs, rfl, rfl, h0, r0⟩ := trodAll_cons hA
  obtain ⟨v1, vs1, d1, ds1, p1, q1, rfl, rfl, rfl, h1, r1⟩ := trodAll_cons r0
  obtain ⟨v2, vs2, d2, ds2, p2, q2, rfl, rfl, rfl, h2, r2⟩ := trodAll_cons r1
  obtain ⟨v3, vs3, d3, ds3, p3, q3, rfl, rfl, rfl, h3, r3⟩ := trodAll_cons r2
  obtain ⟨v4, vs4, d4, ds4, p4, q4, rfl, rfl, rfl, h4, r4⟩ := trodAll_cons r3
  obtain ⟨rfl, rfl, rfl⟩ := trodAll_nil r4
  obtain rfl : args = #[v0, v1, v2, v3, v4] := by cases args; simp_all
  obtain ⟨A0, c0, l0, rfl, y0, x0, z0⟩ := open_es h0 (okWide_slice Try.underlying22 (hval 0 22 v0 rfl rfl))
  obtain ⟨a1, rfl, _, _, u1⟩ := open_int Try.underlying3 (hval 1 3 v1 rfl rfl) h1
  obtain ⟨a2, rfl, _, _, u2⟩ := open_int Try.underlying3 (hval 2 3 v2 rfl rfl) h2
  obtain ⟨a3, rfl, _, _, u3⟩ := open_int Try.underlying5 (hval 3 5 v3 rfl rfl) h3
  obtain ⟨a4, rfl, _, _, u4⟩ := open_int Try.underlying38 (hval 4 38 v4 rfl rfl) h4
  refine (walk A0 l0 c0 a1 a2 a3 a4 W y0 x0 z0 (Lib.hid u1) (Lib.hid u2) (Lib.hid u3) (Lib.hid u4)).mono fun e W' ⟨h1, h2⟩ => ?_
  subst h1
  exact ⟨_, rfl, law_post laidOut (by kernel_rfl) Try.underlying4 rfl (by kernel_rfl) hW0 rfl h2⟩

theorem said : Rows.FlowGrowsSaid :=
  OpenClaim.holds_of_wide 9 Try.f9 rfl rfl rfl rfl rfl rfl rfl ⟨rfl, rfl, rfl, rfl, rfl⟩ rfl rfl rfl rfl rfl (by kernel_rfl) Try.func9 (by kernel_rfl)
    (of_decide_eq_true (by kernel_rfl)) (by unfold Func.isWrapper; first | (rw [if_pos (by decide +kernel)]; kernel_rfl) | (rw [if_neg (by decide +kernel)]; exact ⟨rfl, rfl⟩))
    (fun os started H enc _ => lifted os started H enc)
end Go.Proofs.Ytdemnbbofigcdaa.lawGrows
