/-
  The law ClockLengths of the program holds: for every input that its row admits the call returns true, and the arguments read as before. Conditions: those of the row alone.
-/
import Derived.Test.YtlkindlbllbmgaaLaw
import Derived.Test.YtlkindlbllbmgaaAlive
import Derived.Test.YtlkindlbllbmgaaOpenNil
namespace Go.Proofs.Ytlkindlbllbmgaa.lawLengths
open Go.ChangeShapes Go.WideShapes Go.ChangeAt Go.RowKit

theorem nil_own {k B : Nat} (h : (Value.slice none 0 0).ownBlock = some k) : B ≤ k := by
  have h : (none : Option Nat) = some k := h
  cases h
theorem both_ivs {w : World} {base e : Nat} {v : Value} {a b : List Iv} (h : w.ownsRow base e 2 v (0 + a.length + b.length) ([] ++ cellsL a ++ cellsL b)) : ∃ L A c, v = .slice A L.length c ∧ Ivs w w.heap.size A L ∧ L = a ++ b := by
  rw [List.nil_append, ← cellsL_append, Nat.zero_add, ← List.length_append] at h
  obtain ⟨A, c, rfl, _⟩ := own_shape h
  exact ⟨a ++ b, A, c, rfl, (own_ivs h).2, rfl⟩
/-- What both have in common. -/
theorem common_set {m d : List Iv} {S T : Int → Prop} {l : List Iv} (hm : isSet m (fun t => cov l t ∧ ¬ cov d t)) (hd : isSet d (fun t => cov l t ∧ ¬ T t)) (hS : ∀ t, cov l t ↔ S t) : isSet m (fun t => S t ∧ T t) :=
  isSet_congr hm fun t => ⟨fun ⟨h1, h2⟩ => ⟨(hS t).1 h1, Classical.byContradiction fun h3 => h2 ((hd.2 t).2 ⟨h1, h3⟩)⟩, fun ⟨h1, h2⟩ => ⟨(hS t).2 h1, fun h3 => ((hd.2 t).1 h3).2 h2⟩⟩
theorem len_facts {ma mb mo mc c : List Iv} {la lb lo : List Iv} (ha : isSet ma (cov la)) (hb : isSet mb (cov lb)) (ho : isSet mo (cov lo)) (hl : lo = la ++ lb) (hc : isSet c (fun t => cov la t ∧ cov lb t)) (hm : isSet mc (cov c)) :
    (lenL ma + lenL mb == lenL mo + lenL mc) = true ∧ lenL mc ≤ lenL ma := by
  subst hl
  have k := len_sets ha hb (isSet_congr ho (fun t => cov_append)) (isSet_congr hm hc.2)
  exact ⟨beq_iff_eq.2 k.1, k.2⟩

set_option maxRecDepth 100000 in
set_option maxHeartbeats 8000000 in
theorem walk (A0 : Option Addr) (l0 : List Iv) (c0 : Nat) (A1 : Option Addr) (l1 : List Iv) (c1 : Nat) (w : World) (hn0 : l0.length ≤ 9223372036854775807) (he0 : A0 = none → l0 = [] ∧ c0 = 0) (hp0 : Ivs w w.heap.size A0 l0) (hn1 : l1.length ≤ 9223372036854775807) (he1 : A1 = none → l1 = [] ∧ c1 = 0) (hp1 : Ivs w w.heap.size A1 l1) :
    Calls Try.prog 9 #[.slice A0 l0.length c0, .slice A1 l1.length c1] w fun e w' => e = .returned (.bool true) ∧ Below w.heap.size w w' := by
  obtain ⟨i1, hi', hz0', hz1', hz2'⟩ := info_parts info_iv
  have hJ := Lib.hid (And.intro hi' (And.intro hz0' (And.intro hz1' hz2')))
  clear hi' hz0' hz1' hz2'
  by_cases h60 : l0.length ≤ 60
  · have hf : decide (l0.length ≤ 60) = true := decide_eq_true h60
    by_cases h61 : l1.length ≤ 60
    · have hf1 : decide (l1.length ≤ 60) = true := decide_eq_true h61
      have hP := Lib.hid hp0
      have hQ := Lib.hid hp1
      clear hp0 hp1
      have hE0 := Lib.hid he0
      have hE1 := Lib.hid he1
      have hnil := Lib.hid (fun wn : World => World.ownsRow_nil wn w.heap.size 38 2)
      clear he0 he1
      have tok1 : True := trivial
      have tok2 : True := trivial
      have tok3 : True := trivial
      have tok4 : True := trivial
      have tok5 : True := trivial
      have tok6 : True := trivial
      have tok7 : True := trivial
      have tok8 : True := trivial
      have tok9 : True := trivial
      have tok10 : True := trivial
      have tok11 : True := trivial
      have tok12 : True := trivial
      have tok13 : True := trivial
      have tok14 : True := trivial
      go_enter Try.func9, Try.ntmps9
      go_wp2_with (first
        | (go_at_call 11; refine (alive_any _).mono ?_; rintro e w1 ⟨rfl, b⟩; have b1 := Lib.hid b; clear b)
        | (go_at_call 24; refine (few_any _ _ _ _ (by omega)).mono ?_; rintro e w' ⟨rfl, rfl⟩)
        | (at_builtin; have _t := tok1; refine wpList_append_src _ rfl _ _ 30 rfl w.heap.size 38 i1 (.agg #[.int .i64 0, .int .i64 0]) 2 16 Try.underlying30 hJ.out.1 hJ.out.2.1 hJ.out.2.2.1 hJ.out.2.2.2 rfl (by decide) _ _ _ rfl (hnil.out _) _ _ _ rfl (src_ivs ((hP.out.below b1.out).more b1.out.size) hE0.out) (cellsL_one _) (by unfold maxLen; omega) (by omega) b1.out.size ?_; intro v2 w2 ho hgrow; (have o2 := Lib.hid ho); (have b2 := Lib.hid (b1.out.grown hgrow b1.out.size (fun k hk => nil_own hk))); clear ho hgrow tok1 _t)
        | (at_builtin; have _t := tok2; refine wpList_append_src _ rfl _ _ 30 rfl w.heap.size 38 i1 (.agg #[.int .i64 0, .int .i64 0]) 2 16 Try.underlying30 hJ.out.1 hJ.out.2.1 hJ.out.2.2.1 hJ.out.2.2.2 rfl (by decide) _ _ _ rfl o2.out _ _ _ rfl (src_ivs ((hQ.out.below b2.out).more b2.out.size) hE1.out) (cellsL_one _) (by unfold maxLen; omega) (by omega) b2.out.size ?_; intro v3 w3 ho hgrow; (have o3 := Lib.hid ho); (have b3 := Lib.hid (b2.out.grown hgrow b2.out.size (fun k hk => (o2.out.lt k hk).1))); (obtain ⟨L, AB, cB, rfl, hIB, hLe⟩ := both_ivs o3.out); (have IB3 := Lib.hid hIB); (have hLl : L.length ≤ 120 := by rw [hLe, List.length_append]; omega); (have hL := Lib.hid hLe); clear hIB ho hgrow hLe tok2 _t)
        | (go_at_call 32; have _t := tok3; refine (minus_any A0 A1 l0 l1 c0 c1 _ ((hP.out.below b3.out).more b3.out.size) ((hQ.out.below b3.out).more b3.out.size) (by omega) (by omega)).mono ?_; rintro e w4 ⟨D1, e1, d1, rfl, _, hI, hs, b⟩; (have b4 := Lib.hid (b3.out.trans (b.mono b3.out.size))); (have Sd1 := Lib.hid hs); (have ld1 := plain_len hs.1); (have IB4 := Lib.hid ((IB3.out.below b).more b.size)); (have ID4 := Lib.hid hI); clear b hI hs tok3 _t)
        | (go_at_call 32; have _t := tok4; refine (minus_any A0 D1 l0 d1 c0 e1 _ ((hP.out.below b4.out).more b4.out.size) ID4.out (by omega) (by omega)).mono ?_; rintro e w5 ⟨CC, e2, cc, rfl, _, hI, hs, b⟩; (have b5 := Lib.hid (b4.out.trans (b.mono b4.out.size))); (have Scc := Lib.hid hs); (have lcc := plain_len hs.1); (have IB5 := Lib.hid ((IB4.out.below b).more b.size)); (have IC5 := Lib.hid hI); (have hC := Lib.hid (common_set hs Sd1.out (fun t => Iff.rfl))); clear b hI hs tok4 _t)
        | (go_at_call 30; have _t := tok5; refine (length_any A0 l0 c0 _ ((hP.out.below b5.out).more b5.out.size) (by omega)).mono ?_; rintro e w6 ⟨ma, hs, rfl, b⟩; (have b6 := Lib.hid (b5.out.trans (b.mono b5.out.size))); (have IB6 := Lib.hid ((IB5.out.below b).more b.size)); (have IC6 := Lib.hid ((IC5.out.below b).more b.size)); (have Sma := Lib.hid hs); (obtain ⟨ba1, ba2⟩ := lenL_bd hs.1); clear b hs tok5 _t)
        | (go_at_call 30; have _t := tok6; refine (length_any A1 l1 c1 _ ((hQ.out.below b6.out).more b6.out.size) (by omega)).mono ?_; rintro e w7 ⟨mb, hs, rfl, b⟩; (have b7 := Lib.hid (b6.out.trans (b.mono b6.out.size))); (have IB7 := Lib.hid ((IB6.out.below b).more b.size)); (have IC7 := Lib.hid ((IC6.out.below b).more b.size)); (have Smb := Lib.hid hs); (obtain ⟨bb1, bb2⟩ := lenL_bd hs.1); clear b hs tok6 _t)
        | (go_at_call 30; have _t := tok7; refine (length_any AB L cB _ IB7.out (by omega)).mono ?_; rintro e w8 ⟨mo, hs, rfl, b⟩; (have b8 := Lib.hid (b7.out.trans (b.mono b7.out.size))); (have IC8 := Lib.hid ((IC7.out.below b).more b.size)); (have Smo := Lib.hid hs); (obtain ⟨bo1, bo2⟩ := lenL_bd hs.1); clear b hs tok7 _t)
        | (go_at_call 30; have _t := tok8; refine (length_any CC cc e2 _ IC8.out (by omega)).mono ?_; rintro e w9 ⟨mc, hs, rfl, b⟩; (have b9 := Lib.hid (b8.out.trans (b.mono b8.out.size))); (have IC9 := Lib.hid ((IC8.out.below b).more b.size)); (have Smc := Lib.hid hs); (obtain ⟨bc1, bc2⟩ := lenL_bd hs.1); (obtain ⟨q1, q2⟩ := len_facts Sma.out Smb.out Smo.out hL.out hC.out hs); clear b hs tok8 _t)
        | (go_at_call 32; have _t := tok9; refine (minus_any A1 A0 l1 l0 c1 c0 _ ((hQ.out.below b9.out).more b9.out.size) ((hP.out.below b9.out).more b9.out.size) (by omega) (by omega)).mono ?_; rintro e wA ⟨D3, e3, d3, rfl, _, hI, hs, b⟩; (have bA := Lib.hid (b9.out.trans (b.mono b9.out.size))); (have Sd3 := Lib.hid hs); (have ld3 := plain_len hs.1); (have ICA := Lib.hid ((IC9.out.below b).more b.size)); (have IDA := Lib.hid hI); clear b hI hs tok9 _t)
        | (go_at_call 32; have _t := tok10; refine (minus_any A1 D3 l1 d3 c1 e3 _ ((hQ.out.below bA.out).more bA.out.size) IDA.out (by omega) (by omega)).mono ?_; rintro e wB ⟨CD, e4, cd, rfl, _, hI, hs, b⟩; (have bB := Lib.hid (bA.out.trans (b.mono bA.out.size))); (have Scd := Lib.hid hs); (have lcd := plain_len hs.1); (have ICB := Lib.hid ((ICA.out.below b).more b.size)); (have hD := common_set hs Sd3.out (fun t => Iff.rfl)); (obtain rfl := isSet_unique hD (isSet_congr hC.out (fun t => ⟨fun h => ⟨h.2, h.1⟩, fun h => ⟨h.2, h.1⟩⟩))); (have JB := Lib.hid hI); clear hD; clear b hI hs tok10 _t)
        | (go_at_call 25; have _t := tok11; refine (same_any CC CD _ e2 e4 _ ICB.out JB.out (by omega)).mono ?_; rintro e wC ⟨rfl, b⟩; (have bC := Lib.hid (bB.out.trans (b.mono bB.out.size))); (have ICC := Lib.hid ((ICB.out.below b).more b.size)); clear b tok11 _t)
        | (go_at_call 30; have _t := tok12; refine (length_any A0 l0 c0 _ ((hP.out.below bC.out).more bC.out.size) (by omega)).mono ?_; rintro e wD ⟨me, hs, rfl, b⟩; (have bD := Lib.hid (bC.out.trans (b.mono bC.out.size))); (have ICD := Lib.hid ((ICC.out.below b).more b.size)); (obtain rfl := isSet_unique hs Sma.out); clear b hs tok12 _t)
        | (go_at_call 30; have _t := tok13; refine (length_any CC _ e2 _ ICD.out (by omega)).mono ?_; rintro e wE ⟨mf, hs, rfl, b⟩; (have bE := Lib.hid (bD.out.trans (b.mono bD.out.size))); (obtain rfl := isSet_unique hs Smc.out); clear b hs tok13 _t))
      go_ret
      exact ⟨rfl, bE.out⟩
    · have hf1 : decide (l1.length ≤ 60) = false := decide_eq_false h61
      clear hp0 hp1
      go_enter Try.func9, Try.ntmps9
      go_wp2_with (first
        | (go_at_call 11; refine (alive_any _).mono ?_; rintro e w1 ⟨rfl, b⟩; have b1 := Lib.hid b; clear b)
        | (go_at_call 24; refine (few_any _ _ _ _ (by omega)).mono ?_; rintro e w' ⟨rfl, rfl⟩))
      go_ret
      exact ⟨rfl, b1.out⟩
  · have hf : decide (l0.length ≤ 60) = false := decide_eq_false h60
    clear hp0 hp1
    go_enter Try.func9, Try.ntmps9
    go_wp2_with (first
      | (go_at_call 11; refine (alive_any _).mono ?_; rintro e w1 ⟨rfl, b⟩; have b1 := Lib.hid b; clear b)
      | (go_at_call 24; refine (few_any _ _ _ _ (by omega)).mono ?_; rintro e w' ⟨rfl, rfl⟩))
    go_ret
    exact ⟨rfl, b1.out⟩

set_option maxRecDepth 100000 in
theorem lifted (os : Os) (started : os.Started) (H : Type) (enc : TypeId × Value → H) :
    ReturnsInHanded {} Try.checked os 9 .any (Rows.clockLengthsSpec.pre6 enc Try.prog Try.f9 Rows.clockLengthsRow.domain false) (Rows.clockLengthsSpec.post enc Try.prog Try.f9 false true false false) := by
  refine returnsInHanded_of_change (C := Try.checked) own started (by kernel_rfl) Try.func9
    (ChangeSpec.witness6 (enc := enc) (C := Try.checked) false ⟨#[], #[.slice none 0 0, .slice none 0 0], []⟩ 8 (by kernel_rfl) (by kernel_rfl) (by kernel_rfl) (by kernel_rfl)) ?_
  intro W base args ds gs before hval0 hW _ _
  have hval : ∀ (j : Nat) t v, Try.f9.params[j]? = some t → args[j]? = some v → Value.okWide Try.prog W .any base t v := hval0
  have hW0 := hW
  obtain ⟨p, q, hA0, hV, rfl, hfz, hnd⟩ := hW
  have hA : DataW.TrodAll enc Try.prog W 0 (fun _ => true) true Try.f9.params.toList args.toList ds p := hA0
  rw [Try.params9] at hA hval
  obtain ⟨v0, vs0, d0, ds0, p0, q0, hargs, rfl, rfl, h0, r0⟩ := trodAll_cons hA
  obtain ⟨v1, vs1, d1, ds1, p1, q1, rfl, rfl, rfl, h1, r1⟩ := trodAll_cons r0
  obtain ⟨rfl, rfl, rfl⟩ := trodAll_nil r1
  obtain rfl : args = #[v0, v1] := by cases args; simp_all
  obtain ⟨A0, c0, l0, rfl, z0, e0, y0⟩ := open_ivs_nil (hval 0 30 v0 rfl rfl) h0
  obtain ⟨A1, c1, l1, rfl, z1, e1, y1⟩ := open_ivs_nil (hval 1 30 v1 rfl rfl) h1
  refine (walk A0 l0 c0 A1 l1 c1 W z0 e0 y0 z1 e1 y1).mono fun e W' ⟨h1, h2⟩ => ?_
  subst h1
  exact ⟨_, rfl, law_post laidOut (by kernel_rfl) Try.underlying4 rfl (by kernel_rfl) hW0 rfl h2⟩

theorem said : Rows.ClockLengthsSaid :=
  OpenClaim.holds_of_wide 9 Try.f9 rfl rfl rfl rfl rfl rfl rfl ⟨rfl, rfl, rfl, rfl, rfl⟩ rfl rfl rfl rfl rfl (by kernel_rfl) Try.func9 (by kernel_rfl)
    (of_decide_eq_true (by kernel_rfl)) (by unfold Func.isWrapper; first | (rw [if_pos (by decide +kernel)]; kernel_rfl) | (rw [if_neg (by decide +kernel)]; exact ⟨rfl, rfl⟩))
    (fun os started H enc _ => lifted os started H enc)
end Go.Proofs.Ytlkindlbllbmgaa.lawLengths
