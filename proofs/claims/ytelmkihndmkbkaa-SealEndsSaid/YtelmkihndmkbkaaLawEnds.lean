/-
  The law SealEnds of the program holds: for every input that its row admits the call returns true, and the arguments read as before. Conditions: those of the row alone.
-/
import Derived.Test.YtelmkihndmkbkaaRow
import Derived.Deep.QuietTactic
import Derived.BigQuiet
namespace Go.Proofs.Ytelmkihndmkbkaa.lawEnds
open Go.ChangeShapes Go.WideShapes Go.ChangeAt Go.RowKit

set_option maxRecDepth 100000 in
set_option maxHeartbeats 4000000 in
theorem walk (a0 : Nat) (A1 : Option Addr) (l1 : List UInt8) (c1 : Nat) (w : World) (m0 : a0 < 18446744073709551616) (m1 : c1 ≤ maxLen) (p1 : Rd w w.heap.size A1 c1 (cells8 l1)) :
    Calls Try.prog 10 #[.int .u64 (a0 : Int), .slice A1 l1.length c1] w fun e w' => e = .returned (.bool true) ∧ Below w.heap.size w w' := by
  unfold maxLen at m1
  obtain ⟨i0, hi, hz0, hz1, hz2⟩ := info_parts info_u8
  have hI := Lib.hid (And.intro hi (And.intro hz0 (And.intro hz1 hz2)))
  clear hi hz0 hz1 hz2
  by_cases h500 : l1.length ≤ 500
  · have hQ := fun (W : World) (A' : Option Addr) (c' q n : Nat) (o : List UInt8) (z : Int) (hz : z = (tag a0 o : Nat)) (hp : Rd W W.heap.size A' c' (cells8 o)) (hq : q = o.length) (hl : o.length ≤ 1000) (hc : c' ≤ 9223372036854775807) => quiet_tag (n := n) hz m0 hp hq hl hc
    have HQ := Lib.hid hQ
    clear hQ
    have hX : ∀ x : Int, x = (a0 : Int) → True := fun _ _ => trivial
    clear hX
    go_enter Try.func10, Try.ntmps10
    go_wp2_with (first
      | (go_at_call 11; refine (alive_any w).mono ?_; rintro e w1 ⟨rfl, b⟩; (have B1 := Lib.hid b); clear b)
      | (at_builtin; refine wpList_append_feed _ rfl (.tmp 11) (.tmp 12) 28 rfl w.heap.size 5 i0 (.int .u8 0) 1 Try.underlying28 hI.out.1 hI.out.2.1 hI.out.2.2.1 hI.out.2.2.2 rfl _ _ _ rfl (own_none w1 _ B1.out.size) _ l1.length _ rfl ((((p1.below B1.out).more B1.out.size).below (balloc (Below.refl _ _) _)).feed8) (cells8_one _) (by unfold maxLen; omega) (by omega) (Nat.le_trans B1.out.size (by simp)) ?_; intro A2 c2 w2 hown2 hgrow2; (have H2 := Lib.hid (own_zero hown2)); (have B2 := Lib.hid (below_grown (B1.out.alloc B1.out.size _) (own_none w1 _ B1.out.size) hgrow2 (Nat.le_refl _) (Nat.le_trans B1.out.size (by simp)))); clear hown2 hgrow2))
    go_loopw [5] (fun v wr => ∃ (A : Option Addr) (c : Nat) (o : List UInt8), v = .slice A o.length c ∧ Hid (wr.ownsRow w.heap.size 5 1 (.slice A o.length c) o.length (cells8 o)) ∧ Hid (Below w.heap.size w wr) ∧ Hid (EndAt l1 o)) (fun v _ => (l1.length + 7) / 8 * 8 - lenOf v)
    case atStart => exact ⟨A2, c2, l1, rfl, H2, B2, Lib.hid (endAt_zero l1)⟩
    case round =>
      obtain ⟨A, c, o, rfl, hO, hB, hE⟩ := hrel
      have hE2 := hE.out.2.1
      have hE3 := hE.out.2.2
      clear H2 B2
      by_cases h8 : o.length % 8 = 0
      · have h8i : (o.length : Int) % 8 = 0 := by omega
        clear HQ p1 hE
        go_wp2
        go_ret
        exact ⟨rfl, hB.out⟩
      · have h8i : ¬ (o.length : Int) % 8 = 0 := by omega
        obtain ⟨s, t, r, es, et, er, n1, n2⟩ := end_facts (k := a0) hE.out h8 h500
        have hNx := Lib.hid (endAt_next hE.out h8)
        have ks := Lib.hid (fun W A' c' q n => HQ.out W A' c' q n (o ++ [0]) s es)
        have kt := Lib.hid (fun W A' c' q n => HQ.out W A' c' q n l1 t et)
        have kr := Lib.hid (fun W A' c' q n => HQ.out W A' c' q n o r er)
        have hn1 := beq_eq_false_iff_ne.2 n1
        have hn2 := beq_eq_false_iff_ne.2 n2
        have hd1 : decide (s = t) = false := decide_eq_false n1
        have hd2 : decide (s = r) = false := decide_eq_false n2
        have hP1 := Lib.hid p1
        clear es et er HQ p1 hE
        go_wp2_with (first
          | (at_builtin; refine wpList_append_feed _ rfl (.tmp 18) (.tmp 19) 28 rfl w.heap.size 5 i0 (.int .u8 0) 1 Try.underlying28 hI.out.1 hI.out.2.1 hI.out.2.2.1 hI.out.2.2.2 rfl _ _ _ rfl (hO.out.alloc _) _ 1 _ rfl (feed_new rfl) (fun u hu => zero_one hu) (by unfold maxLen; omega) (by omega) (Nat.le_trans hB.out.size (by simp)) ?_; intro A3 c3 w3 hown3 hgrow3; (have H3 := Lib.hid (own_next hown3)); (have B3 := Lib.hid (below_grown (hB.out.alloc hB.out.size _) (hO.out.alloc _) hgrow3 (Nat.le_refl _) (Nat.le_trans hB.out.size (by simp)))); clear hown3 hgrow3)
          | fail)
        have hRo := rd_upto (Rd.of_own H3.out) o.length
        rw [List.take_left' rfl] at hRo
        have KS := Lib.hid (fun n => ks.out w3 A3 c3 (o.length + 1) n (Rd.of_own H3.out) (by simp) (by simp; omega) (own_cap H3.out))
        have KT := Lib.hid (fun n => kt.out w3 A1 c1 l1.length n ((hP1.out.below B3.out).more B3.out.size) rfl (by omega) m1)
        have KR := Lib.hid (fun n => kr.out w3 A3 c3 o.length n hRo rfl (by omega) (own_cap H3.out))
        have hcap : o.length + 1 ≤ c3 := by have := own_shape' H3.out; simpa using this
        have hq1 : IntKind.i64.wrap (o.length : Int) = (o.length : Int) := IntWalk.i64_in _ (by omega)
        have hq2 : (0 : Int) ≤ (o.length : Int) := by omega
        have hq3 : (o.length : Int) ≤ (c3 : Int) := by omega
        have hq4 : ¬ c3 = 0 := by omega
        clear hRo ks kt kr
        go_quiet (first | (go_at_call 16; with_reducible exact KS.out _) | (go_at_call 16; with_reducible exact KT.out _) | (go_at_call 16; with_reducible exact KR.out _))
        clear hq1 hq2 hq3 hq4
        go_wp2
        exact ⟨⟨A3, c3, o ++ [0], by rw [List.length_append]; rfl, Lib.hid (own_drewN H3.out _), Lib.hid (below_drewN B3.out _), hNx⟩, by simp [lenOf]; omega⟩
  · clear p1
    generalize (a0 : Int) = x at *
    go_enter Try.func10, Try.ntmps10
    go_wp2_with (first
      | (go_at_call 11; refine (alive_any w).mono ?_; rintro e w1 ⟨rfl, b⟩; (have B1 := Lib.hid b); clear b))
    go_ret
    exact ⟨rfl, B1.out⟩

set_option maxRecDepth 100000 in
theorem lifted (os : Os) (started : os.Started) (H : Type) (enc : TypeId × Value → H) :
    ReturnsInHanded {} Try.checked os 10 .any (Rows.sealEndsSpec.pre6 enc Try.prog Try.f10 Rows.sealEndsRow.domain false) (Rows.sealEndsSpec.post enc Try.prog Try.f10 false true false false) := by
  refine returnsInHanded_of_change (C := Try.checked) own started (by kernel_rfl) Try.func10
    (ChangeSpec.witness6 (enc := enc) (C := Try.checked) false ⟨#[], #[.int .u64 0, .slice none 0 0], []⟩ 8 (by kernel_rfl) (by kernel_rfl) (by kernel_rfl) (by kernel_rfl)) ?_
  intro W base args ds gs before hval0 hW _ _
  have hval : ∀ (j : Nat) t v, Try.f10.params[j]? = some t → args[j]? = some v → Value.okWide Try.prog W .any base t v := hval0
  have hW0 := hW
  obtain ⟨p, q, hA0, hV, rfl, hfz, hnd⟩ := hW
  have hA : DataW.TrodAll enc Try.prog W 0 (fun _ => true) true Try.f10.params.toList args.toList ds p := hA0
  rw [Try.params10] at hA hval
  obtain ⟨v0, vs0, d0, ds0, p0, q0, hargs, rfl, rfl, h0, r0⟩ := trodAll_cons hA
  obtain ⟨v1, vs1, d1, ds1, p1, q1, rfl, rfl, rfl, h1, r1⟩ := trodAll_cons r0
  obtain ⟨rfl, rfl, rfl⟩ := trodAll_nil r1
  obtain rfl : args = #[v0, v1] := by cases args; simp_all
  obtain ⟨x0, rfl, _, _, z0⟩ := open_int Try.underlying22 (hval 0 22 v0 rfl rfl) h0
  obtain ⟨a0, rfl, k0⟩ := u64_nat z0
  obtain ⟨A1, c1, l1, rfl, y1, z1⟩ := open_bs_rd h1 (okWide_slice Try.underlying28 (hval 1 28 v1 rfl rfl))
  refine (walk a0 A1 l1 c1 W k0 y1 z1).mono fun e W' ⟨h1, h2⟩ => ?_
  subst h1
  exact ⟨_, rfl, law_post laidOut (by kernel_rfl) Try.underlying4 rfl (by kernel_rfl) hW0 rfl h2⟩

theorem said : Rows.SealEndsSaid :=
  OpenClaim.holds_of_wide 10 Try.f10 rfl rfl rfl rfl rfl rfl rfl ⟨rfl, rfl, rfl, rfl, rfl⟩ rfl rfl rfl rfl rfl (by kernel_rfl) Try.func10 (by kernel_rfl)
    (of_decide_eq_true (by kernel_rfl)) (by unfold Func.isWrapper; first | (rw [if_pos (by decide +kernel)]; kernel_rfl) | (rw [if_neg (by decide +kernel)]; exact ⟨rfl, rfl⟩))
    (fun os started H enc _ => lifted os started H enc)
end Go.Proofs.Ytelmkihndmkbkaa.lawEnds
