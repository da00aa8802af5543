/-
  The law ClockMinus of the program holds: for every input that its row admits the call returns true, and the arguments read as before. Conditions: those of the row alone.
-/
import Derived.Test.YtlkindlbllbmgaaLaw
import Derived.Test.YtlkindlbllbmgaaAlive
namespace Go.Proofs.Ytlkindlbllbmgaa.lawMinus
open Go.ChangeShapes Go.WideShapes Go.ChangeAt Go.RowKit

/-- Among the first k intervals: is there one that holds t? -/
def InTo (l : List Iv) (t : Int) (k : Nat) (B : Bool) : Prop := (B = true → covB l t = true) ∧ (B = false → noneIn l k t)
theorem InTo.yes {l : List Iv} {t : Int} {k : Nat} {B : Bool} (_ : InTo l t k B) (hk : k < l.length) (hi : inIv (lx l k, ly l k) t) : InTo l t (k + 1) true := ⟨fun _ => covB_at hk hi, fun c => absurd c (by decide)⟩
theorem InTo.no {l : List Iv} {t : Int} {k : Nat} (h : InTo l t k false) (hi : ¬ inIv (lx l k, ly l k) t) : InTo l t (k + 1) false := ⟨fun c => absurd c (by decide), fun _ => noneIn_step (h.2 rfl) hi⟩
theorem InTo.stay {l : List Iv} {t : Int} {k : Nat} (h : InTo l t k true) : InTo l t (k + 1) true := ⟨h.1, fun c => absurd c (by decide)⟩
theorem InTo.all {l : List Iv} {t : Int} {B : Bool} (h : InTo l t l.length B) : B = covB l t := by
  cases B
  · exact (noneIn_all (h.2 rfl)).symm
  · exact (h.1 rfl).symm
theorem covB_congr {l m : List Iv} {t : Int} (h : cov l t ↔ cov m t) : covB l t = covB m t := by
  rcases Classical.em (cov m t) with c | c
  · rw [covB_true c, covB_true (h.2 c)]
  · rw [covB_false c, covB_false fun d => c (h.1 d)]
theorem sets_cov {m d a b : List Iv} (hm : isSet m (cov a)) (hd : isSet d (fun t => cov a t ∧ ¬ cov b t)) (t : Int) : covB m t = covB a t ∧ covB d t = (covB a t && !covB b t) := by
  refine ⟨covB_congr (hm.2 t), ?_⟩
  rcases Classical.em (cov a t) with c | c
  · rcases Classical.em (cov b t) with e | e
    · rw [covB_false fun k => ((hd.2 t).1 k).2 e, covB_true c, covB_true e]; rfl
    · rw [covB_true ((hd.2 t).2 ⟨c, e⟩), covB_true c, covB_false e]; rfl
  · rw [covB_false fun k => c ((hd.2 t).1 k).1, covB_false c]; rfl

set_option maxRecDepth 100000 in
set_option maxHeartbeats 8000000 in
theorem walk (A0 : Option Addr) (l0 : List Iv) (c0 : Nat) (A1 : Option Addr) (l1 : List Iv) (c1 : Nat) (a2 : Int) (w : World) (hn0 : l0.length ≤ 9223372036854775807) (hp0 : Ivs w w.heap.size A0 l0) (hn1 : l1.length ≤ 9223372036854775807) (hp1 : Ivs w w.heap.size A1 l1) (_ : -9223372036854775808 ≤ a2) (_ : a2 ≤ 9223372036854775807) :
    Calls Try.prog 8 #[.slice A0 l0.length c0, .slice A1 l1.length c1, .int .i64 a2] w fun e w' => e = .returned (.bool true) ∧ Below w.heap.size w w' := by
  by_cases h60 : l0.length ≤ 60
  · have hf : decide (l0.length ≤ 60) = true := decide_eq_true h60
    by_cases h61 : l1.length ≤ 60
    · have hf1 : decide (l1.length ≤ 60) = true := decide_eq_true h61
      have hP := Lib.hid hp0
      have hQ := Lib.hid hp1
      clear hp0 hp1
      have kC := Lib.hid (fun w1 (b : Below w.heap.size w w1) => cover_any A0 l0 c0 a2 w1 ((hP.out.below b).more b.size) (by omega))
      have kC2 := Lib.hid (fun w1 (b : Below w.heap.size w w1) => cover_any A1 l1 c1 a2 w1 ((hQ.out.below b).more b.size) (by omega))
      have tok1 : True := trivial
      have tok1b : True := trivial
      have tok2 : True := trivial
      have tok3 : True := trivial
      have tok4 : True := trivial
      have tok5 : True := trivial
      have tok6 : True := trivial
      have tok7 : True := trivial
      have tok8 : True := trivial
      have tok9 : True := trivial
      have tok10 : True := trivial
      have tok11 : True := trivial
      have tok12 : True := trivial
      go_enter Try.func8, Try.ntmps8
      go_wp2_with (first
        | (go_at_call 11; refine (alive_any _).mono ?_; rintro e w1 ⟨rfl, b⟩; have b1 := Lib.hid b; clear b)
        | (go_at_call 24; refine (few_any _ _ _ _ (by omega)).mono ?_; rintro e w' ⟨rfl, rfl⟩)
        | (go_at_call 26; have _t := tok1; refine (merge_any A0 l0 c0 _ ((hP.out.below b1.out).more b1.out.size) (by omega)).mono ?_; rintro e w2 ⟨B2, d2, m2, rfl, _, hI, hs, b⟩; (have b2 := Lib.hid (b1.out.trans (b.mono b1.out.size))); (have I2 := Lib.hid hI); (have S2 := Lib.hid hs); (have pm := Lib.hid hs.1); (have pl := plain_len hs.1); clear b hI hs tok1 _t)
        | (go_at_call 32; have _t := tok2; refine (minus_any A0 A1 l0 l1 c0 c1 _ ((hP.out.below b2.out).more b2.out.size) ((hQ.out.below b2.out).more b2.out.size) (by omega) (by omega)).mono ?_; rintro e w3 ⟨B3, d3, m3, rfl, _, hI, hs, b⟩; (have b3 := Lib.hid (b2.out.trans (b.mono b2.out.size))); (have I3 := Lib.hid hI); (have S3 := Lib.hid hs); (have I23 := Lib.hid ((I2.out.below b).more b.size)); (have pd := Lib.hid hs.1); (have pl3 := plain_len hs.1); clear b hI hs tok2 _t)
        | (go_at_call 34; have _t := tok3; refine (plain_any B2 m2 d2 _ I23.out pm.out).mono ?_; rintro e w4 ⟨rfl, b⟩; (have b4 := Lib.hid (b3.out.trans (b.mono b3.out.size))); (have I24 := Lib.hid ((I23.out.below b).more b.size)); (have I34 := Lib.hid ((I3.out.below b).more b.size)); clear b tok3 _t)
        | (go_at_call 34; have _t := tok4; refine (plain_any B3 m3 d3 _ I34.out pd.out).mono ?_; rintro e w5 ⟨rfl, b⟩; (have b5 := Lib.hid (b4.out.trans (b.mono b4.out.size))); (have I25 := Lib.hid ((I24.out.below b).more b.size)); (have I35 := Lib.hid ((I34.out.below b).more b.size)); clear b tok4 _t)
        | (go_at_call 26; have _t := tok5; refine (merge_any B2 m2 d2 _ I25.out (by omega)).mono ?_; rintro e w6 ⟨B6, d6, m6, rfl, _, hI, hs, b⟩; (have b6 := Lib.hid (b5.out.trans (b.mono b5.out.size))); (have I6 := Lib.hid hI); (have S6 := Lib.hid hs); (obtain rfl := isSet_unique hs (isSet_self pm.out)); (have I26 := Lib.hid ((I25.out.below b).more b.size)); (have I36 := Lib.hid ((I35.out.below b).more b.size)); clear b hI hs tok5 _t)
        | (go_at_call 25; have _t := tok6; refine (same_any B6 B2 _ d6 d2 _ I6.out I26.out (by omega)).mono ?_; rintro e w7 ⟨rfl, b⟩; (have b7 := Lib.hid (b6.out.trans (b.mono b6.out.size))); (have I27 := Lib.hid ((I26.out.below b).more b.size)); (have I37 := Lib.hid ((I36.out.below b).more b.size)); clear b tok6 _t)
        | (go_at_call 32; have _t := tok7; refine (minus_any A0 none l0 [] c0 0 _ ((hP.out.below b7.out).more b7.out.size) Ivs.none_ (by omega) (by simp)).mono ?_; rintro e w8 ⟨B8, d8, m8, rfl, _, hI, hs, b⟩; (have b8 := Lib.hid (b7.out.trans (b.mono b7.out.size))); (have I8 := Lib.hid hI); (have S8 := Lib.hid hs); (obtain rfl := isSet_unique hs (isSet_congr S2.out (fun t => ⟨fun h => ⟨h, cov_nil t⟩, fun h => h.1⟩))); (have I28 := Lib.hid ((I27.out.below b).more b.size)); (have I38 := Lib.hid ((I37.out.below b).more b.size)); clear b hI hs tok7 _t)
        | (go_at_call 25; have _t := tok8; refine (same_any B8 B2 _ d8 d2 _ I8.out I28.out (by omega)).mono ?_; rintro e w9 ⟨rfl, b⟩; (have b9 := Lib.hid (b8.out.trans (b.mono b8.out.size))); (have I29 := Lib.hid ((I28.out.below b).more b.size)); (have I39 := Lib.hid ((I38.out.below b).more b.size)); clear b tok8 _t)
        | (go_at_call 32; have _t := tok9; refine (minus_any A0 A0 l0 l0 c0 c0 _ ((hP.out.below b9.out).more b9.out.size) ((hP.out.below b9.out).more b9.out.size) (by omega) (by omega)).mono ?_; rintro e wA ⟨BA, dA, mA, rfl, _, hI, hs, b⟩; (have bA := Lib.hid (b9.out.trans (b.mono b9.out.size))); (have IA := Lib.hid hI); (have SA := Lib.hid hs); (obtain rfl := isSet_empty hs (fun t h => h.2 h.1)); (have I2A := Lib.hid ((I29.out.below b).more b.size)); (have I3A := Lib.hid ((I39.out.below b).more b.size)); clear b hI hs tok9 _t))
      go_loop [9, 10] (fun bv iv => ∃ (k : Nat) (B : Bool), k ≤ l0.length ∧ iv = .int .i64 k ∧ bv = .bool B ∧ Hid (InTo l0 a2 k B)) (fun _ iv => l0.length - (intOf iv).toNat)
      case atStart => exact ⟨0, false, by omega, rfl, rfl, Lib.hid ⟨fun h => absurd h (by decide), fun _ j hj => absurd hj (by omega)⟩⟩
      case round =>
        obtain ⟨k, B, hk, rfl, rfl, hB⟩ := hrel
        by_cases hlt : k < l0.length
        · obtain ⟨ad, rfl, hc⟩ := hP.out.get hlt
          obtain ⟨x0, y0⟩ := hc _ bA.out
          clear hc
          cases B
          · by_cases c1 : 0 ≤ lx l0 k
            · by_cases c2 : ly l0 k ≤ 20000000
              · by_cases c3 : lx l0 k ≤ a2
                · by_cases c4 : a2 < ly l0 k
                  · have hB' := Lib.hid (hB.out.yes hlt ⟨c1, c2, c3, c4⟩)
                    clear hB
                    go_wp2
                    exact ⟨⟨k + 1, true, hlt, by go_num, rfl, hB'⟩, by simp [intOf]; omega⟩
                  · have hB' := Lib.hid (hB.out.no (fun h => c4 h.2.2.2))
                    have dd : decide (a2 < ly l0 k) = false := decide_eq_false c4
                    clear hB
                    go_wp2
                    exact ⟨⟨k + 1, false, hlt, by go_num, rfl, hB'⟩, by simp [intOf]; omega⟩
                · have hB' := Lib.hid (hB.out.no (fun h => c3 h.2.2.1))
                  have dd : decide (lx l0 k ≤ a2) = false := decide_eq_false c3
                  clear hB
                  go_wp2
                  exact ⟨⟨k + 1, false, hlt, by go_num, rfl, hB'⟩, by simp [intOf]; omega⟩
              · have hB' := Lib.hid (hB.out.no (fun h => c2 h.2.1))
                have dd : decide (ly l0 k ≤ 20000000) = false := decide_eq_false c2
                clear hB
                go_wp2
                exact ⟨⟨k + 1, false, hlt, by go_num, rfl, hB'⟩, by simp [intOf]; omega⟩
            · have hB' := Lib.hid (hB.out.no (fun h => c1 h.1))
              have dd : decide (0 ≤ lx l0 k) = false := decide_eq_false c1
              clear hB
              go_wp2
              exact ⟨⟨k + 1, false, hlt, by go_num, rfl, hB'⟩, by simp [intOf]; omega⟩
          · have hB' := Lib.hid (hB.out.stay)
            clear hB
            go_wp2
            exact ⟨⟨k + 1, true, hlt, by go_num, rfl, hB'⟩, by simp [intOf]; omega⟩
        · obtain rfl : k = l0.length := by omega
          have hBe := hB.out.all
          obtain ⟨e1, e2⟩ := sets_cov S2.out S3.out a2
          have kCa := kC.out
          have kCb := kC2.out
          have kCm := fun w1 (b : Below _ _ w1) => cover_any B2 m8 d2 a2 w1 ((I2A.out.below b).more b.size) (by omega)
          have kCd := fun w1 (b : Below _ _ w1) => cover_any B3 m3 d3 a2 w1 ((I3A.out.below b).more b.size) (by omega)
          rw [e1] at kCm
          rw [e2] at kCd
          rw [← hBe] at kCa kCm kCd
          clear hB hBe e1 e2
          cases B
          · have kCa := Lib.hid kCa
            have kCm := Lib.hid kCm
            have kCd := Lib.hid kCd
            go_wp2_with (first
              | (go_at_call 28; have _t := tok10; refine (kCa.out _ bA.out).mono ?_; rintro e wB ⟨rfl, b⟩; (have gB := Lib.hid ((b.mono (Nat.le_refl _)))); clear b tok10 _t)
              | (go_at_call 28; have _t := tok11; refine (kCm.out _ gB.out).mono ?_; rintro e wC ⟨rfl, b⟩; (have gC := Lib.hid (gB.out.trans (b.mono gB.out.size))); clear b tok11 _t)
              | (go_at_call 28; have _t := tok12; refine (kCd.out _ gC.out).mono ?_; rintro e wD ⟨rfl, b⟩; (have gD := Lib.hid (gC.out.trans (b.mono gC.out.size))); clear b tok12 _t))
            go_ret
            exact ⟨by simp, bA.out.trans (gD.out.mono bA.out.size)⟩
          · rcases hb1 : covB l1 a2 with _ | _
            · rw [hb1] at kCb kCd
              have kCa := Lib.hid kCa
              have kCb := Lib.hid kCb
              have kCm := Lib.hid kCm
              have kCd := Lib.hid kCd
              go_wp2_with (first
                | (go_at_call 28; have _t := tok10; refine (kCa.out _ bA.out).mono ?_; rintro e wB ⟨rfl, b⟩; (have gB := Lib.hid ((b.mono (Nat.le_refl _)))); clear b tok10 _t)
                | (go_at_call 28; have _t := tok11; refine (kCm.out _ gB.out).mono ?_; rintro e wC ⟨rfl, b⟩; (have gC := Lib.hid (gB.out.trans (b.mono gB.out.size))); clear b tok11 _t)
                | (go_at_call 28; have _t := tok12; refine (kCd.out _ gC.out).mono ?_; rintro e wD ⟨rfl, b⟩; (have gD := Lib.hid (gC.out.trans (b.mono gC.out.size))); clear b tok12 _t)
                | (go_at_call 28; have _t := tok1b; refine (kCb.out _ (bA.out.trans (gD.out.mono bA.out.size))).mono ?_; rintro e wE ⟨rfl, b⟩; (have gE := Lib.hid (gD.out.trans (b.mono gD.out.size))); clear b tok1b _t))
              go_ret
              exact ⟨by simp, bA.out.trans (gE.out.mono bA.out.size)⟩
            · rw [hb1] at kCb kCd
              have kCa := Lib.hid kCa
              have kCb := Lib.hid kCb
              have kCm := Lib.hid kCm
              have kCd := Lib.hid kCd
              go_wp2_with (first
                | (go_at_call 28; have _t := tok10; refine (kCa.out _ bA.out).mono ?_; rintro e wB ⟨rfl, b⟩; (have gB := Lib.hid ((b.mono (Nat.le_refl _)))); clear b tok10 _t)
                | (go_at_call 28; have _t := tok11; refine (kCm.out _ gB.out).mono ?_; rintro e wC ⟨rfl, b⟩; (have gC := Lib.hid (gB.out.trans (b.mono gB.out.size))); clear b tok11 _t)
                | (go_at_call 28; have _t := tok12; refine (kCd.out _ gC.out).mono ?_; rintro e wD ⟨rfl, b⟩; (have gD := Lib.hid (gC.out.trans (b.mono gC.out.size))); clear b tok12 _t)
                | (go_at_call 28; have _t := tok1b; refine (kCb.out _ (bA.out.trans (gD.out.mono bA.out.size))).mono ?_; rintro e wE ⟨rfl, b⟩; (have gE := Lib.hid (gD.out.trans (b.mono gD.out.size))); clear b tok1b _t))
              go_ret
              exact ⟨by simp, bA.out.trans (gE.out.mono bA.out.size)⟩
    · have hf1 : decide (l1.length ≤ 60) = false := decide_eq_false h61
      clear hp0 hp1
      go_enter Try.func8, Try.ntmps8
      go_wp2_with (first
        | (go_at_call 11; refine (alive_any _).mono ?_; rintro e w1 ⟨rfl, b⟩; have b1 := Lib.hid b; clear b)
        | (go_at_call 24; refine (few_any _ _ _ _ (by omega)).mono ?_; rintro e w' ⟨rfl, rfl⟩))
      go_ret
      exact ⟨rfl, b1.out⟩
  · have hf : decide (l0.length ≤ 60) = false := decide_eq_false h60
    clear hp0 hp1
    go_enter Try.func8, Try.ntmps8
    go_wp2_with (first
      | (go_at_call 11; refine (alive_any _).mono ?_; rintro e w1 ⟨rfl, b⟩; have b1 := Lib.hid b; clear b)
      | (go_at_call 24; refine (few_any _ _ _ _ (by omega)).mono ?_; rintro e w' ⟨rfl, rfl⟩))
    go_ret
    exact ⟨rfl, b1.out⟩

set_option maxRecDepth 100000 in
theorem lifted (os : Os) (started : os.Started) (H : Type) (enc : TypeId × Value → H) :
    ReturnsInHanded {} Try.checked os 8 .any (Rows.clockMinusSpec.pre6 enc Try.prog Try.f8 Rows.clockMinusRow.domain false) (Rows.clockMinusSpec.post enc Try.prog Try.f8 false true false false) := by
  refine returnsInHanded_of_change (C := Try.checked) own started (by kernel_rfl) Try.func8
    (ChangeSpec.witness6 (enc := enc) (C := Try.checked) false ⟨#[], #[.slice none 0 0, .slice none 0 0, .int .i64 0], []⟩ 8 (by kernel_rfl) (by kernel_rfl) (by kernel_rfl) (by kernel_rfl)) ?_
  intro W base args ds gs before hval0 hW _ _
  have hval : ∀ (j : Nat) t v, Try.f8.params[j]? = some t → args[j]? = some v → Value.okWide Try.prog W .any base t v := hval0
  have hW0 := hW
  obtain ⟨p, q, hA0, hV, rfl, hfz, hnd⟩ := hW
  have hA : DataW.TrodAll enc Try.prog W 0 (fun _ => true) true Try.f8.params.toList args.toList ds p := hA0
  rw [Try.params8] at hA hval
  obtain ⟨v0, vs0, d0, ds0, p0, q0, hargs, rfl, rfl, h0, r0⟩ := trodAll_cons hA
  obtain ⟨v1, vs1, d1, ds1, p1, q1, rfl, rfl, rfl, h1, r1⟩ := trodAll_cons r0
  obtain ⟨v2, vs2, d2, ds2, p2, q2, rfl, rfl, rfl, h2, r2⟩ := trodAll_cons r1
  obtain ⟨rfl, rfl, rfl⟩ := trodAll_nil r2
  obtain rfl : args = #[v0, v1, v2] := by cases args; simp_all
  obtain ⟨A0, c0, l0, rfl, z0, y0⟩ := open_ivs (hval 0 30 v0 rfl rfl) h0
  obtain ⟨A1, c1, l1, rfl, z1, y1⟩ := open_ivs (hval 1 30 v1 rfl rfl) h1
  obtain ⟨a2, rfl, _, _, z2⟩ := open_int Try.underlying3 (hval 2 3 v2 rfl rfl) h2
  have z2 := i64_bounds z2
  refine (walk A0 l0 c0 A1 l1 c1 a2 W z0 y0 z1 y1 z2.1 z2.2).mono fun e W' ⟨h1, h2⟩ => ?_
  subst h1
  exact ⟨_, rfl, law_post laidOut (by kernel_rfl) Try.underlying4 rfl (by kernel_rfl) hW0 rfl h2⟩

theorem said : Rows.ClockMinusSaid :=
  OpenClaim.holds_of_wide 8 Try.f8 rfl rfl rfl rfl rfl rfl rfl ⟨rfl, rfl, rfl, rfl, rfl⟩ rfl rfl rfl rfl rfl (by kernel_rfl) Try.func8 (by kernel_rfl)
    (of_decide_eq_true (by kernel_rfl)) (by unfold Func.isWrapper; first | (rw [if_pos (by decide +kernel)]; kernel_rfl) | (rw [if_neg (by decide +kernel)]; exact ⟨rfl, rfl⟩))
    (fun os started H enc _ => lifted os started H enc)
end Go.Proofs.Ytlkindlbllbmgaa.lawMinus
