/-
  The law FixedRises of the program holds: for every input that its row admits the call returns true, and the arguments read as before. Conditions: those of the row and of the card alone (the listed variables of the standard library as the program's text lays them).
-/
import Derived.Test.YtleddfceigmlmaaDoorEnvLaw
import Derived.Test.YtleddfceigmlmaaDoorPoints
import Derived.Test.YtleddfceigmlmaaDoorRisesPlain
namespace Go.Proofs.YtleddfceigmlmaaDoor.lawRises
open Go.ChangeShapes Go.WideShapes Go.ChangeAt Go.RowKit

set_option maxRecDepth 100000 in
set_option maxHeartbeats 2000000 in
theorem walk (A : Option Addr) (n cap : Nat) (X Y : Nat → Int) (x y : Int) (w : World) (he : Env w) (hn : n ≤ 9223372036854775807) (hp : Pts w w.heap.size A n X Y) (_ : -9223372036854775808 ≤ x) (_ : x ≤ 9223372036854775807) (_ : -9223372036854775808 ≤ y) (_ : y ≤ 9223372036854775807) :
    Calls Tryd.prog 10 #[.slice A n cap, .int .i64 x, .int .i64 y] w fun e w' => e = .returned (.bool true) ∧ Below w.heap.size w w' := by
  have k0 := Lib.hid (alive_any w he)
  by_cases h100 : n ≤ 100
  · by_cases h1 : 1 ≤ n
    · by_cases hxy : x ≤ y
      · have k1 := fun w1 (b : Below w.heap.size w w1) => at_all A n cap X Y x w1 ((hp.below b).more b.size) hn
        have k2 := fun w1 (b : Below w.heap.size w w1) => at_all A n cap X Y y w1 ((hp.below b).more b.size) hn
        have hn0 : ((n : Int) == 0) = false := beq_eq_false_iff_ne.2 (by omega)
        rcases hv : valB n X Y with _ | _
        · have e1 : atAll n X Y x = pairV 0 1 := by simp [atAll, hv]
          have e2 : atAll n X Y y = pairV 0 1 := by simp [atAll, hv]
          rw [e1] at k1
          rw [e2] at k2
          unfold pairV at k1 k2
          have k1 := Lib.hid k1
          have k2 := Lib.hid k2
          clear e1 e2 hv hp
          go_enter Tryd.func10, Tryd.ntmps10
          go_wp2_with (first
            | (go_at_call 12; refine k0.out.mono ?_; rintro e w1 ⟨rfl, b1⟩)
            | (go_at_call_of 23 x; refine (k1.out _ b1).mono ?_; rintro e w2 ⟨rfl, c⟩; have b2 := b1.trans (c.mono b1.size); clear c)
            | (go_at_call_of 23 y; refine (k2.out _ b2).mono ?_; rintro e w3 ⟨rfl, c⟩; have b3 := b2.trans (c.mono b2.size); clear c))
          go_ret
          exact ⟨by simp, b3⟩
        · have hv' := valB_of hv
          obtain ⟨a, ea, ia⟩ := val_of hv' x
          obtain ⟨b, eb, ib⟩ := val_of hv' y
          have e1 : atAll n X Y x = pairV a 0 := by simp [atAll, hv, ea]
          have e2 : atAll n X Y y = pairV b 0 := by simp [atAll, hv, eb]
          rw [e1] at k1
          rw [e2] at k2
          unfold pairV at k1 k2
          have k1 := Lib.hid k1
          have k2 := Lib.hid k2
          have hfin := Lib.hid (show ∀ lo hi, (∀ i, i < n → lo ≤ Y i ∧ Y i ≤ hi) → (lo ≤ a ∧ a ≤ hi) ∧ lo ≤ b ∧ b ≤ hi from fun lo hi h => ⟨val_bounds hv' h ia, val_bounds hv' h ib⟩)
          have hmono := Lib.hid (show (∀ i, i + 1 < n → Y i ≤ Y (i + 1)) → a ≤ b from fun h => val_mono hv' h hxy ia ib)
          obtain ⟨ad, rfl, hl, hc⟩ := hp (by omega)
          have hcell : ∀ w1, Below w.heap.size w w1 → ∀ i, i < n → w1.cell? { block := (ad.add (i * 2)).block, off := (ad.add (i * 2)).off + 1 } = some (.int .i64 (Y i)) :=
            fun w1 hb i hi => (hb.cell (by show (ad.add (i * 2)).block < _; rw [block_of_add]; exact hl)).trans (hc i hi).2
          have hcell := Lib.hid hcell
          clear hp hc e1 e2 ea eb ia ib hv hv' hl
          go_enter Tryd.func10, Tryd.ntmps10
          go_wp2_with (first
            | (go_at_call 12; refine k0.out.mono ?_; rintro e w1 ⟨rfl, b1⟩)
            | (go_at_call_of 23 x; refine (k1.out _ b1).mono ?_; rintro e w2 ⟨rfl, c⟩; have b2 := b1.trans (c.mono b1.size); clear c)
            | (go_at_call_of 23 y; refine (k2.out _ b2).mono ?_; rintro e w3 ⟨rfl, c⟩; have b3 := b2.trans (c.mono b2.size); clear c; (have c0 := hcell.out w3 b3 0 (by omega)); simp only [Nat.zero_mul, add_0] at c0; (have b3 := Lib.hid b3)))
          go_quiet (fail)
          go_wp2
          go_loopw [11, 12, 13, 14] (fun le gr ri i wr => ∃ (L G : Int) (R : Bool) (k : Nat), le = .int .i64 L ∧ gr = .int .i64 G ∧ ri = .bool R ∧ i = .int .i64 k ∧ 1 ≤ k ∧ k ≤ n ∧ Hid (∀ j, j < k → L ≤ Y j ∧ Y j ≤ G) ∧ Hid (R = true → ∀ j, j + 1 < k → Y j ≤ Y (j + 1)) ∧ Below w.heap.size w wr) (fun _ _ _ i _ => n - (intOf i).toNat)
          case atStart => exact ⟨Y 0, Y 0, true, 1, rfl, rfl, rfl, rfl, by omega, h1, Lib.hid (fun j hj => by obtain rfl : j = 0 := (by omega); exact ⟨Int.le_refl _, Int.le_refl _⟩), Lib.hid (fun _ j hj => absurd hj (by omega)), below_drewN b3.out _⟩
          case round =>
            obtain ⟨L, G, R, k, rfl, rfl, rfl, rfl, hk1, hk, hLG, hR, hb⟩ := hrel
            by_cases hlt : k < n
            · obtain ⟨m, rfl⟩ : ∃ m, k = m + 1 := ⟨k - 1, by omega⟩
              have d1 := hcell.out wr hb m (by omega)
              have d2 := hcell.out wr hb (m + 1) hlt
              have hLG' := Lib.hid (show ∀ j, j < m + 1 + 1 → min L (Y (m + 1)) ≤ Y j ∧ Y j ≤ max G (Y (m + 1)) from fun j hj => by
                rcases Nat.lt_or_ge j (m + 1) with h | h
                · have := hLG.out j h
                  omega
                · obtain rfl : j = m + 1 := by omega
                  omega)
              have hb' := Lib.hid hb
              clear hb hLG
              rcases R with _ | _
              · clear hR
                go_wp2
                go_quiet (fail)
                go_wp2
                exact ⟨⟨_, _, _, m + 1 + 1, rfl, rfl, rfl, by go_num, by omega, hlt, hLG', Lib.hid (fun h => absurd h (by decide)), below_drewN hb'.out _⟩, by simp [intOf]; omega⟩
              · by_cases hst : Y m ≤ Y (m + 1)
                · have hR' := Lib.hid (show true = true → ∀ j, j + 1 < m + 1 + 1 → Y j ≤ Y (j + 1) from fun _ j hj => by
                    rcases Nat.lt_or_ge (j + 1) (m + 1) with h | h
                    · exact hR.out rfl j h
                    · obtain rfl : j = m := by omega
                      exact hst)
                  clear hR
                  go_wp2
                  go_quiet (fail)
                  go_wp2
                  exact ⟨⟨_, _, _, m + 1 + 1, rfl, rfl, rfl, by go_num, by omega, hlt, hLG', Lib.hid (fun _ => hR'.out trivial), below_drewN hb'.out _⟩, by simp [intOf]; omega⟩
                · clear hR
                  go_wp2
                  go_quiet (fail)
                  go_wp2
                  exact ⟨⟨_, _, _, m + 1 + 1, rfl, rfl, rfl, by go_num, by omega, hlt, hLG', Lib.hid (fun h => absurd (of_decide_eq_true h) (by omega)), below_drewN hb'.out _⟩, by simp [intOf]; omega⟩
            · obtain rfl : k = n := by omega
              obtain ⟨⟨f1, f2⟩, f3, f4⟩ := hfin.out L G hLG.out
              have hb' := Lib.hid hb
              clear hb hLG
              rcases R with _ | _
              · clear hR
                go_wp2
                go_ret
                exact ⟨rfl, hb'.out⟩
              · have f5 := hmono.out (hR.out rfl)
                clear hR
                go_wp2
                go_ret
                exact ⟨rfl, hb'.out⟩
      · clear hp
        go_enter Tryd.func10, Tryd.ntmps10
        go_wp2_with (go_at_call 12; refine k0.out.mono ?_; rintro e w1 ⟨rfl, b1⟩)
        go_ret
        exact ⟨rfl, b1⟩
    · clear hp
      go_enter Tryd.func10, Tryd.ntmps10
      go_wp2_with (go_at_call 12; refine k0.out.mono ?_; rintro e w1 ⟨rfl, b1⟩)
      go_ret
      exact ⟨rfl, b1⟩
  · clear hp
    go_enter Tryd.func10, Tryd.ntmps10
    go_wp2_with (go_at_call 12; refine k0.out.mono ?_; rintro e w1 ⟨rfl, b1⟩)
    go_ret
    exact ⟨rfl, b1⟩

set_option maxRecDepth 100000 in
theorem contract (H : Type) (enc : TypeId × Value → H) (W : World) (base : Nat) (args : Array Value) (ds gs : List (DataW H)) (before : List MemPlace)
    (hval : ∀ (j : Nat) t v, Tryd.f10.params[j]? = some t → args[j]? = some v → Value.okWide Tryd.prog W .any base t v)
    (hW : DataW.Whole enc Tryd.prog Tryd.f10.params.toList Rows.fixedRisesSpec.vars false W args.toList ds gs before) (hL : laidMetH Tryd.prog Rows.fixedRisesRow.laid W) (hS : W.ShapedOpen Tryd.prog) :
    Calls Tryd.prog 10 args W fun e W' => ∃ v, e = .returned v ∧ Rows.fixedRisesSpec.post enc Tryd.prog Tryd.f10 false true false false W args v W' := by
  have hW0 := hW
  obtain ⟨p, q, hA0, hV, rfl, hfz, hnd⟩ := hW
  have hA : DataW.TrodAll enc Tryd.prog W 0 (fun _ => true) true Tryd.f10.params.toList args.toList ds p := hA0
  rw [Tryd.params10] at hA hval
  obtain ⟨v0, vs0, d0, ds0, p0, q0, hargs, rfl, rfl, h0, r0⟩ := trodAll_cons hA
  obtain ⟨v1, vs1, d1, ds1, p1, q1, rfl, rfl, rfl, h1, r1⟩ := trodAll_cons r0
  obtain ⟨v2, vs2, d2, ds2, p2, q2, rfl, rfl, rfl, h2, r2⟩ := trodAll_cons r1
  obtain ⟨rfl, rfl, rfl⟩ := trodAll_nil r2
  obtain rfl : args = #[v0, v1, v2] := by cases args; simp_all
  obtain ⟨A0, n0, cap0, X0, Y0, rfl, z0, y0⟩ := open_points (hval 0 29 v0 rfl rfl) h0
  obtain ⟨a1, rfl, _, _, z1⟩ := open_int Tryd.underlying3 (hval 1 3 v1 rfl rfl) h1
  have z1 := i64_bounds z1
  obtain ⟨a2, rfl, _, _, z2⟩ := open_int Tryd.underlying3 (hval 2 3 v2 rfl rfl) h2
  have z2 := i64_bounds z2
  have he : Env W := env_of hL hS
  refine (walk A0 n0 cap0 X0 Y0 a1 a2 W he z0 y0 z1.1 z1.2 z2.1 z2.2).mono fun e W' ⟨h1, h2⟩ => ?_
  subst h1
  exact ⟨_, rfl, law_post laidOut (by kernel_rfl) Tryd.underlying4 rfl (by kernel_rfl) hW0 rfl h2⟩

theorem reads (os : Os) {H : Type} (enc : TypeId × Value → H) : ∃ places, DataW.whole enc Tryd.prog ((World.laidAll Tryd.prog os Rows.fixedRisesRow.laid).forCall (fun _ _ => 0) ⟨#[], #[.slice none 0 0, .int .i64 0, .int .i64 0], []⟩).memory Tryd.f10.params.toList Rows.fixedRisesSpec.vars false #[.slice none 0 0, .int .i64 0, .int .i64 0].toList 8 = some ([.nil, .lit (.int .i64 0), .lit (.int .i64 0)], [], places) :=
  ⟨[], by kernel_rfl⟩

set_option maxRecDepth 100000 in
theorem lifted (os : Os) (started : os.Started) (H : Type) (enc : TypeId × Value → H) (F : Stop.Interp) :
    ReturnsInHanded {} Tryd.checked os 10 .any ((OpenSpec.ofChange Rows.fixedRisesSpec).preRow enc Tryd.prog Tryd.f10 Rows.fixedRisesRow.domain false Rows.fixedRisesRow.laid) (((OpenSpec.ofChange Rows.fixedRisesSpec).at F).post enc Tryd.prog Tryd.f10 false true false false) := by
  obtain ⟨places, hx⟩ := reads os enc
  refine returnsInHanded_of_row (C := Tryd.checked) (s := OpenSpec.ofChange Rows.fixedRisesSpec) own started (by kernel_rfl) Tryd.func10
    (witness_row_atRef (enc := enc) (C := Tryd.checked) false (World.laidAll Tryd.prog os Rows.fixedRisesRow.laid) #[.slice none 0 0, .int .i64 0, .int .i64 0] (World.laidAll_os _ _ _) (wit_vars os _) (wit_rows os _) (by kernel_rfl)
      (OpenSpec.preRow_of_cond 8 hx (by kernel_rfl) (fun k hk => by cases hk) (by kernel_rfl) (laidMet_laidAll _ (laid_fits os) (laid_ifaces os)))) ?_
  intro W base args ds gs before hval hW _ _ _ hL hS _
  exact contract H enc W base args ds gs before hval hW hL hS

theorem said : Rows.FixedRisesSaid :=
  OpenClaim.holds_of_cond 10 Tryd.f10 rfl rfl rfl rfl rfl rfl rfl ⟨rfl, rfl, rfl, rfl, rfl⟩ rfl rfl rfl rfl rfl (by kernel_rfl) Tryd.func10 (by kernel_rfl)
    (of_decide_eq_true (by kernel_rfl)) (by unfold Func.isWrapper; first | (rw [if_pos (by decide +kernel)]; kernel_rfl) | (rw [if_neg (by decide +kernel)]; exact ⟨rfl, rfl⟩))
    (fun os started H enc _ F => by rw [OpenClaim.pre_eq_preRow]; exact lifted os started H enc F)

theorem plain (f : FuncId) (fn : Func) (hf : Tryd.pinned.checked.prog.funcNamed Rows.fixedRisesRow.func = some f) (hfn : Tryd.pinned.checked.prog.funcs[f]? = some fn) :
    true = Tryd.pinned.checked.prog.looks [] ∧ ∀ (j : Nat) t, fn.params[j]? = some t → Tryd.pinned.checked.prog.wantsStandIn t = false := by
  obtain rfl : f = 10 := Option.some.inj ((show Tryd.prog.funcNamed Rows.fixedRisesRow.func = some 10 by kernel_rfl).symm.trans hf) |>.symm
  obtain rfl : fn = Tryd.f10 := (Option.some.inj (Tryd.func10.symm.trans hfn)).symm
  refine ⟨by kernel_rfl, fun j t ht => ?_⟩
  have hall : (Tryd.f10.params.toList.all fun t => Tryd.prog.wantsStandIn t == false) = true := by kernel_rfl
  have := List.all_eq_true.1 hall t (Array.mem_def.1 (Array.mem_of_getElem? ht))
  exact beq_iff_eq.1 this

theorem card : Rows.FixedRisesCardSaid :=
  Claim7.holds_tied_plain_at .later [] _ _ _ _ said (fun _ h => by cases h) (by kernel_rfl) (fun _ h => by cases h) fixedRises_row_tie rfl ⟨rfl, rfl⟩ (by kernel_rfl) rfl plain (by kernel_rfl)
end Go.Proofs.YtleddfceigmlmaaDoor.lawRises
