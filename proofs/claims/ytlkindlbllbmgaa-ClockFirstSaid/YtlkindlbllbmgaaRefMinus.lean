/- Minus: the reference's. -/
import Derived.Test.YtlkindlbllbmgaaRefMinusW
namespace Go.Proofs.Ytlkindlbllbmgaa
open Go.RowKit

set_option maxRecDepth 100000 in
set_option maxHeartbeats 8000000 in
theorem refMinus_any (A B : Option Addr) (a b : List Iv) (ca cb : Nat) (w : World) (ha : Ivs w w.heap.size A a) (hb : Ivs w w.heap.size B b) (hma : a.length ≤ 100000000) (hmb : b.length ≤ 100000000) :
    Calls Try.prog 33 #[.slice A a.length ca, .slice B b.length cb] w (SetPost w (hasP a b)) := by
  have kE1 := Lib.hid (ends_any A a ca w ha hma)
  have kE2 := Lib.hid (fun w1 (h : Below w.heap.size w w1) => ends_any B b cb w1 ((hb.below h).more h.size) hmb)
  have kH := Lib.hid (fun w1 (h : Below w.heap.size w w1) t => has_any A B a b ca cb t w1 ((ha.below h).more h.size) ((hb.below h).more h.size) (by omega) (by omega))
  have hEl := endsL_len a
  have hEl2 := endsL_len b
  clear ha hb
  obtain ⟨i0, hi, hz0, hz1, hz2⟩ := info_parts info_int
  have hI := Lib.hid (And.intro hi (And.intro hz0 (And.intro hz1 hz2)))
  obtain ⟨i1, hi', hz0', hz1', hz2'⟩ := info_parts info_iv
  have hJ := Lib.hid (And.intro hi' (And.intro hz0' (And.intro hz1' hz2')))
  clear hi hz0 hz1 hz2 hi' hz0' hz1' hz2'
  obtain ⟨E, hE0⟩ : ∃ E, endsL a ++ endsL b = E := ⟨_, rfl⟩
  have hEnds := Lib.hid (hE0 ▸ ends_both a b)
  have hElen := Lib.hid (show E.length ≤ 9223372036854775807 by rw [← hE0, List.length_append]; omega)
  have hE0 := Lib.hid hE0
  have tok : True := trivial
  go_enter Try.func33, Try.ntmps33
  go_wp2_with (first
    | (go_at_call 43; have _t := tok; refine kE1.out.mono ?_; rintro e w1 ⟨v1, rfl, ho, hbel⟩; (have hO1 := Lib.hid ho); (have hB1 := Lib.hid hbel); clear ho hbel tok _t)
    | (go_at_call 43; refine (kE2.out _ hB1.out).mono ?_; rintro e w2 ⟨v2, rfl, ho, hbel⟩; (have hO2 := Lib.hid ho); (have hB2 := Lib.hid (hB1.out.trans (hbel.mono hB1.out.size))); (have hO1' := Lib.hid (own_below hO1.out hbel)); clear ho hbel)
    | (at_builtin; refine wpList_append_src _ rfl _ _ 47 rfl w.heap.size 3 i0 (.int .i64 0) 1 8 Try.underlying47 hI.out.1 hI.out.2.1 hI.out.2.2.1 hI.out.2.2.2 rfl (by decide) _ _ _ rfl hO1'.out _ _ _ rfl (src_own hO2.out) (ints_one _) (by unfold maxLen; omega) (by omega) hB2.out.size ?_; intro v3 w3 hown3 hgrow; (obtain ⟨A3, c3, rfl, hInt⟩ := ints_of hown3 hE0.out); (have hB3 := Lib.hid (hB2.out.grown hgrow hB2.out.size (fun k hk => (hO1'.out.lt k hk).1))); (have kA := Lib.hid (fun wr (h : Below w3.heap.size w3 wr) t => after_any A3 E c3 t wr ((hInt.below h).more h.size) hElen.out)); clear hown3 hgrow hInt)
    | (go_at_call 44; refine (kA.out _ (Below.refl _ _) _).mono ?_; rintro e w4 ⟨rfl, rfl⟩))
  go_loopw [6, 7, 8] (fun vo tv mv wr => ∃ (n : Nat) (out : List Iv) (t : Int) (m : Bool), wr.ownsRow w3.heap.size 38 2 vo n (cellsL out) ∧ tv = .int .i64 t ∧ mv = .bool m ∧ Below w3.heap.size w3 wr ∧ Hid (RL a b E out t m)) (fun _ tv mv _ => mB mv tv)
  case atStart => exact ⟨0, [], _, _, World.ownsRow_nil _ _ _ _, rfl, rfl, Below.refl _ _, Lib.hid (RL.start hEnds.out)⟩
  case round =>
    obtain ⟨n, out, t, m, hown, rfl, rfl, hb, hR⟩ := hrel
    have hOwn := Lib.hid hown
    have hb' := Lib.hid hb
    clear hown hb
    cases m
    · have hset := hR.out.2 rfl
      obtain ⟨Av, cv, rfl, hcap⟩ := own_shape hOwn.out
      obtain ⟨hn, hIv⟩ := own_ivs hOwn.out
      subst hn
      have hfin := Lib.hid (show SetPost w (hasP a b) (.returned (.slice Av out.length cv)) wr from ⟨Av, cv, out, rfl, hcap, hIv, hset, hB3.out.trans (hb'.out.mono hB3.out.size)⟩)
      clear hset hIv hcap
      go_wp2
      go_ret
      exact hfin.out
    · have hRI := Lib.hid (hR.out.1 rfl)
      have htb := hEnds.out.bd t hRI.out.mem
      obtain ⟨tb1, tb2⟩ := htb
      have hms := Lib.hid (mB_lt hEnds.out hRI.out.mem)
      have hnb : n ≤ 20000000 := by
        have := hOwn.out.1
        rw [cellsL_len] at this
        have := plain_len hRI.out.plain
        omega
      have kH1 := fun w1 (h : Below w3.heap.size w3 w1) => kH.out w1 (hB3.out.trans (h.mono hB3.out.size)) t
      have kH2 := fun w1 (h : Below w3.heap.size w3 w1) => kH.out w1 (hB3.out.trans (h.mono hB3.out.size)) (t - 1)
      have tok1 : True := trivial
      have tok2 : True := trivial
      have tok3 : True := trivial
      have tok4 : True := trivial
      rcases h1 : hasB a b t with _ | _
      · rw [h1] at kH1
        have kH1 := Lib.hid kH1
        have hE := Lib.hid (RL.passed hEnds.out hRI.out (hasB_not h1))
        clear kH2
        go_wp2_with (first
          | (go_at_call 45; have _t := tok1; refine (kH1.out _ hb'.out).mono ?_; rintro e w4 ⟨rfl, b⟩; (have b4 := Lib.hid (hb'.out.trans (b.mono hb'.out.size))); (have o4 := Lib.hid (own_below hOwn.out b)); clear b tok1 _t)
          | (go_at_call 45; have _t := tok2; refine (kH1.out _ b4.out).mono ?_; rintro e w5 ⟨rfl, b⟩; (have b5 := Lib.hid (b4.out.trans (b.mono b4.out.size))); (have o5 := Lib.hid (own_below o4.out b)); clear b tok2 _t)
          | (go_at_call 44; refine (kA.out _ b5.out _).mono ?_; rintro e w6 ⟨rfl, rfl⟩))
        exact ⟨⟨n, out, _, _, o5.out, rfl, rfl, b5.out, hE⟩, hms.out⟩
      · rw [h1] at kH1
        have kH1 := Lib.hid kH1
        rcases h2 : hasB a b (t - 1) with _ | _
        · rw [h2] at kH2
          have kH2 := Lib.hid kH2
          have hob := plain_len hRI.out.plain
          have hi1 : (out.length : Int) < (out.length : Int) + 1 := by omega
          have hE := Lib.hid (RL.opened hEnds.out hRI.out (hasB_of h1) (hasB_not h2))
          go_wp2_with (first
            | (go_at_call 45; have _t := tok1; refine (kH1.out _ hb'.out).mono ?_; rintro e w4 ⟨rfl, b⟩; (have b4 := Lib.hid (hb'.out.trans (b.mono hb'.out.size))); (have o4 := Lib.hid (own_below hOwn.out b)); clear b tok1 _t)
            | (go_at_call 45; have _t := tok2; refine (kH2.out _ b4.out).mono ?_; rintro e w5 ⟨rfl, b⟩; (have b5 := Lib.hid (b4.out.trans (b.mono b4.out.size))); (have o5 := Lib.hid (own_below o4.out b)); clear b tok2 _t)
            | (at_builtin; refine wpList_append_own _ rfl _ _ 30 rfl w3.heap.size 38 i1 (.agg #[.int .i64 0, .int .i64 0]) 2 16 Try.underlying30 hJ.out.1 hJ.out.2.1 hJ.out.2.2.1 hJ.out.2.2.2 rfl (by decide) _ n _ rfl (o5.out.alloc _) ⟨w5.heap.size, 0, none⟩ 1 1 [.int .i64 t, .int .i64 t] rfl rfl (fun j u hj => new_cells2 hj) (fun u hu => two_one hu) (by unfold maxLen; omega) (by omega) (by have := b5.out.size; simp; omega) ?_; intro v6 w6 hown6 hgrow _; (have R0 := own_snoc hown6); (have b6 := Lib.hid (below_append b5.out hgrow o5.out (Nat.le_refl _))); (obtain ⟨a2, cap2, rfl, hn0, hbs0, ha0⟩ := own_last R0); (have ha2 := Lib.hid ha0); (have hbs := Lib.hid hbs0); (have R1 := Lib.hid (hn0 ▸ R0)); (have hn2 := Lib.hid hn0); clear hown6 hgrow R0 ha0 hbs0 hn0)
            | (go_at_call 45; have _t := tok3; refine (kH1.out _ b6.out).mono ?_; rintro e w7 ⟨rfl, b⟩; (have b7 := Lib.hid (b6.out.trans (b.mono b6.out.size))); (have o7 := Lib.hid (own_below R1.out b)); (obtain ⟨x0, x1⟩ := last_cell ha2.out o7.out); (have bS := Lib.hid (fun u => Below.setCell b7.out (p := { block := (a2.add (out.length * 2)).block, off := (a2.add (out.length * 2)).off + 1 }) (by show _ ≤ (a2.add (out.length * 2)).block; rw [block_of_add]; exact hbs.out) u)); clear b tok3 _t)
            | (go_at_call 44; have _t := tok4; refine (kA.out _ b7.out _).mono ?_; rintro e w8 ⟨rfl, rfl⟩; clear tok4 _t)
            | (go_at_call 44; refine (kA.out _ (bS.out _) _).mono ?_; rintro e w9 ⟨rfl, rfl⟩))
          exact ⟨⟨out.length + 1, _, _, _, last_set ha2.out o7.out _, rfl, rfl, bS.out _, hE⟩, hms.out⟩
        · rw [h2] at kH2
          have kH2 := Lib.hid kH2
          obtain ⟨o, q, hoq, hq⟩ := hRI.out.open_ (hasB_of h2)
          subst hoq
          have hE := Lib.hid (RL.longer hEnds.out hRI.out hq (hasB_of h1))
          have hq := Lib.hid hq
          obtain ⟨a2, cap2, rfl, hn0, hbs0, ha0⟩ := own_last hOwn.out
          subst hn0
          have hbs := Lib.hid hbs0
          have ha2 := Lib.hid ha0
          clear hbs0 ha0
          have hi1 : (o.length : Int) < (o.length : Int) + 1 := by omega
          go_wp2_with (first
            | (go_at_call 45; have _t := tok1; refine (kH1.out _ hb'.out).mono ?_; rintro e w4 ⟨rfl, b⟩; (have b4 := Lib.hid (hb'.out.trans (b.mono hb'.out.size))); (have o4 := Lib.hid (own_below hOwn.out b)); clear b tok1 _t)
            | (go_at_call 45; have _t := tok2; refine (kH2.out _ b4.out).mono ?_; rintro e w5 ⟨rfl, b⟩; (have b5 := Lib.hid (b4.out.trans (b.mono b4.out.size))); (have o5 := Lib.hid (own_below o4.out b)); clear b tok2 _t)
            | (go_at_call 45; have _t := tok3; refine (kH1.out _ b5.out).mono ?_; rintro e w7 ⟨rfl, b⟩; (have b7 := Lib.hid (b5.out.trans (b.mono b5.out.size))); (have o7 := Lib.hid (own_below o5.out b)); (obtain ⟨x0, x1⟩ := last_cell ha2.out o7.out); (have bS := Lib.hid (fun u => Below.setCell b7.out (p := { block := (a2.add (o.length * 2)).block, off := (a2.add (o.length * 2)).off + 1 }) (by show _ ≤ (a2.add (o.length * 2)).block; rw [block_of_add]; exact hbs.out) u)); clear b tok3 _t)
            | (go_at_call 44; have _t := tok4; refine (kA.out _ b7.out _).mono ?_; rintro e w8 ⟨rfl, rfl⟩; clear tok4 _t)
            | (go_at_call 44; refine (kA.out _ (bS.out _) _).mono ?_; rintro e w9 ⟨rfl, rfl⟩))
          exact ⟨⟨o.length + 1, _, _, _, last_set ha2.out o7.out _, rfl, rfl, bS.out _, hE⟩, hms.out⟩
end Go.Proofs.Ytlkindlbllbmgaa
