/-
  The law FlowCut of the program holds: for every input that its row admits the call returns true, and the arguments read as before. Conditions: those of the row alone.
-/
import Derived.Test.YtdemnbbofigcdaaLawM
import Derived.Test.YtdemnbbofigcdaaAlive
import Derived.Test.YtdemnbbofigcdaaOpen
import Derived.Test.YtdemnbbofigcdaaInB
namespace Go.Proofs.Ytdemnbbofigcdaa.lawCut
open Go.ChangeShapes Go.WideShapes Go.ChangeAt Go.RowKit

def idsL (l : List Ed) (L : List Int) (j : Nat) : List Int := (L.take j).map fun x => eI l x.toNat
theorem ids_step {l : List Ed} {L : List Int} {j : Nat} (h : j < L.length) : idsL l L (j + 1) = idsL l L j ++ [eI l (ix L j).toNat] := by
  unfold idsL
  rw [List.take_succ_eq_append_getElem h, List.map_append, ix_at h]
  rfl
theorem ids_len {l : List Ed} {L : List Int} {j : Nat} (h : j ≤ L.length) : (idsL l L j).length = j := by
  unfold idsL
  rw [List.length_map, List.length_take]
  omega
theorem sumC_step {l : List Ed} {L : List Int} {j : Nat} (h : j < L.length) : sumC l (L.take (j + 1)) = sumC l (L.take j) + eC l (ix L j).toNat := by
  rw [List.take_succ_eq_append_getElem h, sumC_append, ix_at h]
  show _ + (eC l _ + 0) = _
  omega
/-- What is known of a cut. -/
structure CutIs (l : List Ed) (s t : Int) (L : List Int) (V : Int) : Prop where
  len : L.length ≤ l.length
  at' : ∀ j, j < L.length → ∃ k : Nat, k < l.length ∧ ix L j = (k : Int)
  inc : ∀ j, 0 < j → j < L.length → ix L (j - 1) < ix L j
  sum : sumC l L = V
  part : ∀ j, j ≤ L.length → 0 ≤ sumC l (L.take j) ∧ sumC l (L.take j) ≤ 1000000 * (j : Int)
  sep : ∀ x ∈ reachL (wo l (idsL l L L.length)) [s], x ≠ t
  val : ∀ g, IsFlow l g s t → ¬ Rs l g s t → net l g s = V
theorem cut_is {l : List Ed} {f : List Int} {s t : Int} (hg : Grph l) (hf : IsFlow l f s t) (hn : ¬ Rs l f s t) : CutIs l s t (cutN l (RsB l f s) l.length) (net l f s) := by
  have hinc := cut_inc (l := l) (X := RsB l f s) l.length
  have hmem := fun (j : Nat) (hj : j < (cutN l (RsB l f s) l.length).length) => cut_mem.1 (ix_mem hj)
  refine ⟨cutN_len _ _ _, fun j hj => ?_, fun j h0 hj => ?_, ?_, ?_, fun x hx e => ?_, fun g hg1 hg2 => rs_value hg1 hg2 hf hn⟩
  · obtain ⟨k, hk, h1, _⟩ := hmem j hj
    exact ⟨k, hk, h1⟩
  · rw [ix_at hj, ix_at (show j - 1 < _ by omega)]
    exact List.pairwise_iff_getElem.1 hinc (j - 1) j (by omega) hj (by omega)
  · rw [cut_sum, rs_cut hf hn]
    rfl
  · intro j
    induction j with
    | zero => intro _; exact ⟨Int.le_refl _, Int.le_refl _⟩
    | succ j ih =>
      intro hj
      have h1 := ih (by omega)
      obtain ⟨k, hk, h2, _⟩ := hmem j (by omega)
      have h3 : 0 ≤ eC l k ∧ eC l k ≤ 1000000 := (hg.2.1 _ (e_mem hk)).2.2.2.2
      rw [sumC_step (by omega), h2, Int.toNat_natCast]
      omega
  · have h1 := cut_reach (X := RsB l f s) (rsB_iff.2 .base) (fun k hk h1 h2 => ?_) hx
    · rw [e] at h1
      exact hn (rsB_iff.1 h1)
    · unfold idsL
      rw [List.take_length]
      exact List.mem_map.2 ⟨(k : Int), cut_mem.2 ⟨k, hk, rfl, h1, h2⟩, by rw [Int.toNat_natCast]⟩

set_option maxRecDepth 100000 in
set_option maxHeartbeats 8000000 in
theorem walk (A0 : Option Addr) (l0 : List Ed) (c0 : Nat) (a1 : Int) (a2 : Int) (w : World) (m0 : l0.length ≤ 9223372036854775807) (q0 : l0.length ≤ c0) (p0 : Es w w.heap.size A0 l0) (f1 : Hid ((Lit.int .i64 a1).wf = true)) (_ : Hid ((Lit.int .i64 a2).wf = true)) :
    Calls Try.prog 7 #[.slice A0 l0.length c0, .int .i64 a1, .int .i64 a2] w fun e w' => e = .returned (.bool true) ∧ Below w.heap.size w w' := by
  have kR := fun (W : World) (b : Below w.heap.size w W) => few_any A0 l0 c0 W (p0.up b) m0
  by_cases hr : l0.length ≤ 60 ∧ rightN l0 = 0
  · have hg := right_iff.1 hr.2
    have h60 := hr.1
    rw [decide_eq_true hr.1, decide_eq_true hr.2, Bool.and_true] at kR
    have kR := Lib.hid kR
    clear hr
    by_cases hst : a1 = a2
    · have hsb : (a1 == a2) = true := beq_iff_eq.2 hst
      clear p0 hg hst
      go_enter Try.func7, Try.ntmps7
      go_wp2_with (first
        | (go_at_call 11; refine (alive_any _).mono ?_; rintro e w1 ⟨rfl, b1⟩; (have B1 := Lib.hid b1); clear b1)
        | (go_at_call 12; (with_reducible refine ((kR.out w1 B1.out)).mono ?_); rintro e w2 ⟨rfl, b2⟩; (have B2 := Lib.hid (bthen B1.out b2)); clear b2)
        | fail)
      go_ret
      exact ⟨rfl, B2.out⟩
    · have hsb : (a1 == a2) = false := beq_eq_false_iff_ne.2 hst
      have KC := Lib.hid (fun (W : World) (b : Below w.heap.size w W) => gCut_any A0 l0 c0 a1 a2 W (p0.up b) hg f1.out)
      have KM := Lib.hid (fun (W : World) (b : Below w.heap.size w W) => gMax_any A0 l0 c0 a1 a2 W (p0.up b) q0 hg)
      have KF := Lib.hid (fun (W : World) (b : Below w.heap.size w W) => gFind_any A0 l0 c0 a1 a2 W (p0.up b) hg)
      have KG := Lib.hid (fun (W : World) (b : Below w.heap.size w W) (B : Option Addr) (d : Nat) (g : List Int) (hr : Rd W W.heap.size B d (cellsI g)) (hm : g.length ≤ 1000) => gValid_any A0 B l0 g c0 d a1 a2 W (p0.up b) q0 hr hg (by omega))
      have KN := Lib.hid (fun (W : World) (b : Below w.heap.size w W) (B : Option Addr) (d : Nat) (g : List Int) (hr : Rd W W.heap.size B d (cellsI g)) (hl : Low l0 g) => gValue_any A0 B l0 g c0 d a1 W (p0.up b) q0 hr hl)
      have KW := Lib.hid (fun (W : World) (b : Below w.heap.size w W) (B : Option Addr) (d : Nat) (g : List Int) (hr : Rd W W.heap.size B d (cellsI g)) (hm : g.length ≤ 200) => gWithout_any A0 B l0 g c0 d W (p0.up b) hr hg (by omega))
      have KR := Lib.hid (fun (W : World) (A : Option Addr) (c : Nat) (B : Option Addr) (d : Nat) (g : List Int) (h1 : Es W W.heap.size A (wo l0 g)) (hr : Rd W W.heap.size B d (cellsI [a1])) => gReach_any A B (wo l0 g) [a1] c d W h1 hr (grph_sub hg List.filter_sublist) (by simp) (fun x hx => by rw [List.mem_singleton.1 hx]; exact f1.out))
      have hst' := Lib.hid hst
      have hCut := Lib.hid (fun (f : List Int) (h1 : IsFlow l0 f a1 a2) (h2 : ¬ Rs l0 f a1 a2) => cut_is hg h1 h2)
      have hLow := Lib.hid (fun (g : List Int) (h : IsFlow l0 g a1 a2) => h.low hg)
      have hP := Lib.hid p0
      have hCB : Hid (∀ k, k < l0.length → 0 ≤ eC l0 k ∧ eC l0 k ≤ 1000000) := Lib.hid (fun k hk => (hg.2.1 _ (e_mem hk)).2.2.2.2)
      clear p0 hg hst
      go_enter Try.func7, Try.ntmps7
      go_upto_region 6 with (first
        | (go_at_call 11; refine (alive_any _).mono ?_; rintro e w1 ⟨rfl, b1⟩; (have B1 := Lib.hid b1); clear b1)
        | (go_at_call 12; (with_reducible refine ((kR.out w1 B1.out)).mono ?_); rintro e w2 ⟨rfl, b2⟩; (have B2 := Lib.hid (bthen B1.out b2)); clear b2)
        | (go_at_call 21; (with_reducible refine (KC.out w2 B2.out).mono ?_); rintro e w3 ⟨A3, c3, L, rfl, h3, _, h4, b3⟩; (have H3 := Lib.hid h3); (have H4 := Lib.hid (h4 hst'.out)); (have B3 := Lib.hid (bthen B2.out b3)); clear h3 h4 b3))
      obtain ⟨f, hf1, hf2, hLe⟩ := H4.out
      have hC := hCut.out f hf1 hf2
      rw [← hLe] at hC
      obtain ⟨V, hV⟩ : ∃ V, net l0 f a1 = V := ⟨_, rfl⟩
      rw [hV] at hC
      have HC := Lib.hid hC
      have hll := hC.len
      have H3r := Lib.hid H3.out.rd
      clear H4 hCut hf1 hf2 hLe hV hC KC H3
      have B3' := B3.out
      go_wp2
      obtain ⟨wo3, rfl⟩ : ∃ wo3, wo3 = w3 := ⟨w3, rfl⟩
      go_loopw [8, 9, 10] (fun v8 v9 i wr => ∃ (j q9 d9 : Nat) (z : Int) (A9 : Option Addr), j ≤ L.length ∧ i = .int .i64 j ∧ v8 = .int .i64 z ∧ v9 = .slice A9 q9 d9 ∧ Hid (z = sumC l0 (L.take j)) ∧ Hid (q9 = (idsL l0 L j).length) ∧ Hid (OwnI wr wo3.heap.size A9 d9 (idsL l0 L j)) ∧ Hid (Below wo3.heap.size wo3 wr)) (fun _ _ i _ => L.length - (intOf i).toNat)
      case atStart => exact ⟨0, 0, 0, 0, none, by omega, rfl, rfl, rfl, Lib.hid rfl, Lib.hid rfl, Lib.hid (ownI_nil _ _), Lib.hid (Below.refl _ _)⟩
      case round =>
        obtain ⟨j, q9, d9, z, A9, hj, rfl, rfl, rfl, hz, hq9, hO, hB⟩ := hrel
        by_cases hlt : j < L.length
        · obtain ⟨k, hk, hkx⟩ := HC.out.at' j hlt
          obtain ⟨ld, rfl, hlb, c1⟩ := (H3r.out.up hB.out).get (cellsI_ix hlt)
          obtain ⟨ad, rfl, hab, x0, x1, x2, x3⟩ := (hP.out.up (bthen B3' hB.out)).get hk
          have hzs := HC.out.part j hj
          rw [← hz.out] at hzs
          have hid := Lib.hid (ids_step (l := l0) hlt)
          have hsm := Lib.hid (sumC_step (l := l0) hlt)
          rw [hkx, Int.toNat_natCast] at hid hsm
          rw [← hz.out] at hsm
          have hprev : Hid (∀ p : Nat, j = p + 1 → ∃ x : Int, x < (k : Int) ∧ ∀ W : World, Below wo3.heap.size wo3 W → W.cell? (ld.add p) = some (.int .i64 x)) := Lib.hid (fun p hp => by
            refine ⟨ix L (j - 1), by rw [← hkx]; exact HC.out.inc j (by omega) hlt, fun W hW => ?_⟩
            obtain ⟨ld2, e2, _, c2⟩ := (H3r.out.up hW).get (cellsI_ix (show p < L.length by omega))
            injection e2 with e2
            subst e2
            rw [show j - 1 = p by omega]
            exact c2)
          rw [hkx] at c1
          have hcb := hCB.out k hk
          obtain ⟨hcb0, hcb1⟩ := hcb
          obtain ⟨hzs0, hzs1⟩ := hzs
          obtain rfl := hq9.out
          have hIl := Lib.hid (ids_len (l := l0) hj)
          have hIm : (idsL l0 L j).length ≤ 60 := by rw [ids_len hj]; omega
          have hij : (j : Int) < (L.length : Int) := by omega
          have hj0 : (0 : Int) ≤ (j : Int) := by omega
          have hik : (k : Int) < (l0.length : Int) := by omega
          have hi0 : (0 : Int) ≤ (k : Int) := by omega
          have d1 : decide ((k : Int) < 0) = false := decide_eq_false (by omega)
          have d2 : decide ((k : Int) ≥ (l0.length : Int)) = false := decide_eq_false (by omega)
          have d2' : decide (l0.length ≤ k) = false := decide_eq_false (by omega)
          have hwz : IntKind.i64.wrap (z + eC l0 k) = z + eC l0 k := IntWalk.i64_in _ (by omega)
          have hOx := Lib.hid (fun (n : Nat) (o : Obj) => World.ownsRow.alloc (OwnI.drewN hO.out n) o)
          have hBx := Lib.hid (fun (n : Nat) (o : Obj) => (below_drewN hB.out n).alloc (below_drewN hB.out n).size o)
          generalize idsL l0 L j = I at *
          generalize eI l0 k = y0 at *
          generalize eC l0 k = y3 at *
          clear hz HC hq9 hkx KM KF KG KN KW KR hst' hLow hP hCB H3r x1 x2
          by_cases hj00 : j = 0
          · subst hj00
            have c1 : wr.cell? ld = some (.int .i64 (k : Int)) := c1
            clear hprev
            go_wp2
            go_quiet (fail)
            go_wp2_with (at_builtin; refine wpList_app_one rfl (.tmp 74) (.tmp 83) rfl y0 rfl rfl (World.news_of_block (heap_alloc_new (wr.drewN _) (.cells #[.int .i64 y0] 3)) 0 _ rfl) (hOx.out _ _) (hBx.out _ _).size (by omega) ?_; intro g5 c5 w5 h5 g5g l5; (have H5 := Lib.hid h5); (have E5 := Lib.hid ((hBx.out _ _).grown g5g (hBx.out _ _).size (fun k h => (own_lt' hO.out k h).1))); clear h5 g5g l5)
            exact ⟨⟨1, _, c5, z + y3, _, by omega, rfl, rfl, rfl, Lib.hid hsm.out.symm, Lib.hid (by rw [hid.out, List.length_append]; rfl), Lib.hid (by rw [hid.out]; exact H5.out), E5⟩, by simp [intOf]; omega⟩
          · obtain ⟨p, hp⟩ : ∃ p, j = p + 1 := ⟨j - 1, by omega⟩
            obtain ⟨xp, hxp, hcp⟩ := hprev.out p hp
            have c2 := hcp wr hB.out
            have e1 : (j : Int) - 1 = (p : Int) := by omega
            have e2 : IntKind.i64.wrap ((j : Int) - 1) = (p : Int) := by rw [e1]; exact IntWalk.i64_in _ (by omega)
            have e3 : IntKind.i64.wrap (p : Int) = (p : Int) := IntWalk.i64_in _ (by omega)
            have hpi : (p : Int) < (L.length : Int) := by omega
            have hp0 : (0 : Int) ≤ (p : Int) := by omega
            have d3 : decide ((j : Int) > 0) = true := decide_eq_true (by omega)
            have d3' : decide (0 < j) = true := decide_eq_true (by omega)
            have d4 : decide ((k : Int) ≤ xp) = false := decide_eq_false (by omega)
            have hjH := Lib.hid hp
            clear hprev hcp hp hj00 hxp
            by_cases hp00 : p = 0
            all_goals
              first
                | (subst hp00; have c2 : wr.cell? ld = some (.int .i64 xp) := c2)
                | skip
              go_wp2
              go_quiet (fail)
              go_wp2_with (at_builtin; refine wpList_app_one rfl (.tmp 74) (.tmp 83) rfl y0 rfl rfl (World.news_of_block (heap_alloc_new (wr.drewN _) (.cells #[.int .i64 y0] 3)) 0 _ rfl) (hOx.out _ _) (hBx.out _ _).size (by omega) ?_; intro g5 c5 w5 h5 g5g l5; (have H5 := Lib.hid h5); (have E5 := Lib.hid ((hBx.out _ _).grown g5g (hBx.out _ _).size (fun k h => (own_lt' hO.out k h).1))); clear h5 g5g l5)
              exact ⟨⟨j + 1, _, c5, z + y3, _, by omega, by go_num, rfl, rfl, Lib.hid hsm.out.symm, Lib.hid (by rw [hid.out, List.length_append]; rfl), Lib.hid (by rw [hid.out]; exact H5.out), E5⟩, by simp [intOf]; omega⟩
        · obtain rfl : j = L.length := by omega
          obtain rfl := hq9.out
          have hzV : z = V := by rw [hz.out, List.take_length]; exact HC.out.sum
          have hIl := ids_len (l := l0) (Nat.le_refl L.length)
          have hsep := Lib.hid HC.out.sep
          have hval := Lib.hid HC.out.val
          subst hzV
          clear hz HC hq9 hCB H3r
          obtain ⟨I, hI⟩ : ∃ I, idsL l0 L L.length = I := ⟨_, rfl⟩
          rw [hI] at hsep hIl hO ⊢
          have B4 := Lib.hid (bthen B3' hB.out)
          have hO4 := Lib.hid hO.out.rd
          have kW := Lib.hid (KW.out wr B4.out A9 d9 I hO4.out (by omega))
          have kR2 := fun (W : World) (A : Option Addr) (c : Nat) (B : Option Addr) (d : Nat) (h1 : Es W W.heap.size A (wo l0 I)) (hr : Rd W W.heap.size B d (cellsI [a1])) => KR.out W A c B d I h1 hr
          simp only [List.length_cons, List.length_nil, Nat.zero_add] at kR2
          have kR2 := Lib.hid kR2
          have hRl := reach_len (wo l0 I) [a1]
          have hwl : (wo l0 I).length ≤ l0.length := List.length_filter_le _ _
          have hRm : (reachL (wo l0 I) [a1]).length ≤ 400 := by rw [List.length_singleton] at hRl; omega
          have hM := Lib.hid (fun (W : World) (b : Below w.heap.size w W) => (KM.out W b).mono (R' := fun e w' => e = .returned (.int .i64 z) ∧ Below W.heap.size W w') (fun e w' ⟨n, h1, _, h3, h4⟩ => by
            obtain ⟨f', g1, g2, hn⟩ := h3 hst'.out
            exact ⟨by rw [h1, hn, hval.out f' g1 g2], h4⟩))
          clear hI hO hB KW KM KR hRl hwl kR hIl
          obtain ⟨R, hR⟩ : ∃ R, reachL (wo l0 I) [a1] = R := ⟨_, rfl⟩
          rw [hR] at kR2 hsep hRm
          clear hR
          generalize wo l0 I = wl at *
          go_wp2_with (first
            | (go_at_call 24; (with_reducible refine (kW.out).mono ?_); rintro e w5 ⟨A5, c5, rfl, h5, b5⟩; (have E5 := Lib.hid h5.es); (have B5 := Lib.hid (bthen B4.out b5)); clear h5 b5)
            | (go_at_call 23; (with_reducible refine (kR2.out (w5.alloc _) _ _ _ _ (E5.out.up (balloc (Below.refl _ _) _)) ?_).mono ?_); (exact rd_lit (cs := #[.int .i64 a1]) rfl rfl rfl); rintro e w6 ⟨A6, c6, rfl, h6, b6⟩; (have H6 := Lib.hid h6.rd); (have B6 := Lib.hid (bthen B5.out ((balloc (Below.refl w5.heap.size w5) _).trans (b6.mono (by simp))))); clear h6 b6))
          clear kW kR2
          go_loop [12] (fun i => ∃ k : Nat, k ≤ R.length ∧ i = .int .i64 k) (fun i => R.length - (intOf i).toNat)
          case atStart => exact ⟨0, by omega, rfl⟩
          case round =>
            obtain ⟨k, hk, rfl⟩ := hrel
            by_cases hlt : k < R.length
            · obtain ⟨rd, rfl, _, c1⟩ := H6.out.get (cellsI_ix hlt)
              have hne := hsep.out (ix R k) (ix_mem hlt)
              generalize ix R k = x at *
              have hxb : (x == a2) = false := beq_eq_false_iff_ne.2 hne
              clear hne H6 hM KF KG KN hLow hval hsep hP
              by_cases hk0 : k = 0
              all_goals
                first
                  | (subst hk0; have c1 : w6.cell? rd = some (.int .i64 x) := c1)
                  | skip
                go_wp2
                first
                  | exact ⟨⟨1, by omega, rfl⟩, by simp [intOf]; omega⟩
                  | exact ⟨⟨k + 1, by omega, by go_num⟩, by simp [intOf]; omega⟩
            · obtain rfl : k = R.length := by omega
              clear H6 hsep
              go_upto_region 22 with (go_at_call 19; (with_reducible refine (KF.out w6 B6.out).mono ?_); rintro e w7 ⟨A7, c7, g, rfl, hgl, hgo, _, hg4, b7⟩; (have G1 := Lib.hid hgl); (have G2 := Lib.hid hgo.rd); (have G4 := Lib.hid (hg4 hst'.out)); (have B7 := Lib.hid (bthen B6.out b7)); clear hgl hgo hg4 b7)
              have hgl := G1.out
              have kG := Lib.hid (fun (W : World) (b : Below w.heap.size w W) (hr : Rd W W.heap.size A7 c7 (cellsI g)) => KG.out W b A7 c7 g hr (by omega))
              have kN := Lib.hid (fun (W : World) (b : Below w.heap.size w W) (hr : Rd W W.heap.size A7 c7 (cellsI g)) => KN.out W b A7 c7 g hr (hLow.out g G4.out.1))
              rw [vB_iff.2 G4.out.1, hgl] at kG
              rw [hval.out g G4.out.1 G4.out.2, hgl] at kN
              clear KG KN KF hLow hval hgl G1 G4
              go_wp2_with (first
                | (go_at_call 17; (with_reducible refine (hM.out w7 B7.out).mono ?_); rintro e w8 ⟨rfl, b8⟩; (have G8 := Lib.hid (G2.out.up b8)); (have B8 := Lib.hid (bthen B7.out b8)); clear b8)
                | (go_at_call 14; (with_reducible refine (kG.out w8 B8.out G8.out).mono ?_); rintro e w9 ⟨rfl, b9⟩; (have G9 := Lib.hid (G8.out.up b9)); (have B9 := Lib.hid (bthen B8.out b9)); clear b9)
                | (go_at_call 15; (with_reducible refine (kN.out w9 B9.out G9.out).mono ?_); rintro e w10 ⟨rfl, b10⟩; (have B10 := Lib.hid (bthen B9.out b10)); clear b10))
              go_ret
              exact ⟨by simp, B10.out⟩
  · have hx : (decide (l0.length ≤ 60) && decide (rightN l0 = 0)) = false := by
      rw [Bool.and_eq_false_iff]
      by_cases h : l0.length ≤ 60
      · exact .inr (decide_eq_false (fun h2 => hr ⟨h, h2⟩))
      · exact .inl (decide_eq_false h)
    rw [hx] at kR
    have kR := Lib.hid kR
    clear hr hx p0
    go_enter Try.func7, Try.ntmps7
    go_wp2_with (first
      | (go_at_call 11; refine (alive_any _).mono ?_; rintro e w1 ⟨rfl, b1⟩; (have B1 := Lib.hid b1); clear b1)
      | (go_at_call 12; (with_reducible refine ((kR.out w1 B1.out)).mono ?_); rintro e w2 ⟨rfl, b2⟩; (have B2 := Lib.hid (bthen B1.out b2)); clear b2)
      | fail)
    go_ret
    exact ⟨rfl, B2.out⟩

set_option maxRecDepth 100000 in
theorem lifted (os : Os) (started : os.Started) (H : Type) (enc : TypeId × Value → H) :
    ReturnsInHanded {} Try.checked os 7 .any (Rows.flowCutSpec.pre6 enc Try.prog Try.f7 Rows.flowCutRow.domain false) (Rows.flowCutSpec.post enc Try.prog Try.f7 false true false false) := by
  refine returnsInHanded_of_change (C := Try.checked) own started (by kernel_rfl) Try.func7
    (ChangeSpec.witness6 (enc := enc) (C := Try.checked) false ⟨#[], #[.slice none 0 0, .int .i64 0, .int .i64 0], []⟩ 8 (by kernel_rfl) (by kernel_rfl) (by kernel_rfl) (by kernel_rfl)) ?_
  intro W base args ds gs before hval0 hW _ _
  have hval : ∀ (j : Nat) t v, Try.f7.params[j]? = some t → args[j]? = some v → Value.okWide Try.prog W .any base t v := hval0
  have hW0 := hW
  obtain ⟨p, q, hA0, hV, rfl, hfz, hnd⟩ := hW
  have hA : DataW.TrodAll enc Try.prog W 0 (fun _ => true) true Try.f7.params.toList args.toList ds p := hA0
  rw [Try.params7] at hA hval
  obtain ⟨v0, vs0, d0, ds0, p0, q0, hargs, rfl, rfl, h0, r0⟩ := trodAll_cons hA
  obtain ⟨v1, vs1, d1, ds1, p1, q1, rfl, rfl, rfl, h1, r1⟩ := trodAll_cons r0
  obtain ⟨v2, vs2, d2, ds2, p2, q2, rfl, rfl, rfl, h2, r2⟩ := trodAll_cons r1
  obtain ⟨rfl, rfl, rfl⟩ := trodAll_nil r2
  obtain rfl : args = #[v0, v1, v2] := by cases args; simp_all
  obtain ⟨A0, c0, l0, rfl, y0, x0, z0⟩ := open_es h0 (okWide_slice Try.underlying22 (hval 0 22 v0 rfl rfl))
  obtain ⟨a1, rfl, _, _, u1⟩ := open_int Try.underlying3 (hval 1 3 v1 rfl rfl) h1
  obtain ⟨a2, rfl, _, _, u2⟩ := open_int Try.underlying3 (hval 2 3 v2 rfl rfl) h2
  refine (walk A0 l0 c0 a1 a2 W y0 x0 z0 (Lib.hid u1) (Lib.hid u2)).mono fun e W' ⟨h1, h2⟩ => ?_
  subst h1
  exact ⟨_, rfl, law_post laidOut (by kernel_rfl) Try.underlying4 rfl (by kernel_rfl) hW0 rfl h2⟩

theorem said : Rows.FlowCutSaid :=
  OpenClaim.holds_of_wide 7 Try.f7 rfl rfl rfl rfl rfl rfl rfl ⟨rfl, rfl, rfl, rfl, rfl⟩ rfl rfl rfl rfl rfl (by kernel_rfl) Try.func7 (by kernel_rfl)
    (of_decide_eq_true (by kernel_rfl)) (by unfold Func.isWrapper; first | (rw [if_pos (by decide +kernel)]; kernel_rfl) | (rw [if_neg (by decide +kernel)]; exact ⟨rfl, rfl⟩))
    (fun os started H enc _ => lifted os started H enc)
end Go.Proofs.Ytdemnbbofigcdaa.lawCut
