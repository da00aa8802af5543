/- The examples of the chapter hold ('alive'), and each function's contract in the form that the laws use. -/
import Derived.Test.YtleddfceigmlmaaDoorParseAll
namespace Go.Proofs.YtleddfceigmlmaaDoor
open Go.RowKit Go.Shelf Go.Sort

theorem drawn_below {w w' : World} (h : ∃ n, w' = w.drewN n) : Below w.heap.size w w' := by
  obtain ⟨n, rfl⟩ := h
  exact below_drewN (Below.refl _ _) n
theorem same_below {w w' : World} (h : w = w') : Below w.heap.size w w' := by subst h; exact Below.refl _ _

theorem ex_mul : mulV 2500 2500 = pairV 6250 0 := by kernel_rfl
theorem ex_div : divV 1000 3000 = pairV 333 0 := by kernel_rfl
theorem ex_ratio : ratioV 7 3 2 = pairV 10 0 := by kernel_rfl
theorem ex_round : roundV 15 10 = pairV 20 0 := by kernel_rfl
theorem ex_parse : parseV [50, 46, 53] = pairV 2500 0 := by kernel_rfl
theorem ex_parse0 : parseV [45, 48] = pairV 0 3 := by kernel_rfl
theorem ex_print : printL (-1500) = [45, 49, 46, 53, 48, 48] := by
  have e : Lib.decDigits 1 = [49] := Lib.decDigits_one (by omega)
  show (if (-1500 : Int) < 0 then [45] else []) ++ Lib.decDigits 1 ++ 46 :: dig3 500 = _
  rw [e]
  rfl
def exX (i : Nat) : Int := if i = 0 then 0 else 10
def exY (i : Nat) : Int := if i = 0 then 0 else -5
theorem ex_valid : valid 2 exX exY := by
  refine ⟨by omega, by omega, fun i hi => ?_⟩
  obtain rfl | rfl : i = 0 ∨ i = 1 := by omega
  · exact ⟨rfl, rfl, fun h => absurd h (by omega)⟩
  · exact ⟨rfl, rfl, fun _ => by decide⟩
theorem ex_at : atAll 2 exX exY 5 = pairV (-3) 0 := by
  unfold atAll
  rw [valB_true ex_valid, if_pos rfl]
  kernel_rfl

def addV (a b : Int) : Value := if inR a && inR b && inR (a + b) then pairV (a + b) 0 else pairV 0 12
theorem addV_pair (a b : Int) : ∃ v e, addV a b = pairV v e := by
  unfold addV
  split <;> exact ⟨_, _, rfl⟩
theorem ex_add : addV 1125899906842624 1 = pairV 0 12 := by kernel_rfl
theorem add_any (a b : Int) (w : World) : Calls Tryd.prog 13 #[.int .i64 a, .int .i64 b] w fun e w' => e = .returned (addV a b) ∧ w = w' := by
  rcases ha : inR a with _ | _
  · have hv : Hid (addV a b = pairV 0 12) := by show addV a b = _; simp [addV, ha]
    rw [hv.out]
    go_enter Tryd.func13, Tryd.ntmps13
    go_wp2_with (go_at_call 30; refine (inRange_any _ _).mono ?_; rintro e w' ⟨rfl, rfl⟩)
    go_ret2
    exact ⟨rfl, rfl⟩
  · rcases hb : inR b with _ | _
    · have hv : Hid (addV a b = pairV 0 12) := by show addV a b = _; simp [addV, hb]
      rw [hv.out]
      go_enter Tryd.func13, Tryd.ntmps13
      go_wp2_with (go_at_call 30; refine (inRange_any _ _).mono ?_; rintro e w' ⟨rfl, rfl⟩)
      go_ret2
      exact ⟨rfl, rfl⟩
    · obtain ⟨a1, a2⟩ := inR_of ha
      obtain ⟨b1, b2⟩ := inR_of hb
      rcases hc : inR (a + b) with _ | _
      · have hv : Hid (addV a b = pairV 0 12) := by show addV a b = _; simp [addV, hc]
        rw [hv.out]
        go_enter Tryd.func13, Tryd.ntmps13
        go_wp2_with (go_at_call 30; refine (inRange_any _ _).mono ?_; rintro e w' ⟨rfl, rfl⟩)
        go_ret2
        exact ⟨rfl, rfl⟩
      · have hv : Hid (addV a b = pairV (a + b) 0) := by show addV a b = _; simp [addV, ha, hb, hc]
        rw [hv.out]
        go_enter Tryd.func13, Tryd.ntmps13
        go_wp2_with (go_at_call 30; refine (inRange_any _ _).mono ?_; rintro e w' ⟨rfl, rfl⟩)
        go_ret2
        exact ⟨rfl, rfl⟩
theorem refAdd_any (a b : Int) (w : World) : Calls Tryd.prog 14 #[.int .i64 a, .int .i64 b] w fun e w' => e = .returned (addV a b) ∧ w = w' := by
  rcases ha : inR a with _ | _
  · have hv : Hid (addV a b = pairV 0 12) := by show addV a b = _; simp [addV, ha]
    rw [hv.out]
    go_enter Tryd.func14, Tryd.ntmps14
    go_wp2_with (go_at_call 31; refine (Within_any _ _).mono ?_; rintro e w' ⟨rfl, rfl⟩)
    go_ret2
    exact ⟨rfl, rfl⟩
  · rcases hb : inR b with _ | _
    · have hv : Hid (addV a b = pairV 0 12) := by show addV a b = _; simp [addV, hb]
      rw [hv.out]
      go_enter Tryd.func14, Tryd.ntmps14
      go_wp2_with (go_at_call 31; refine (Within_any _ _).mono ?_; rintro e w' ⟨rfl, rfl⟩)
      go_ret2
      exact ⟨rfl, rfl⟩
    · obtain ⟨a1, a2⟩ := inR_of ha
      obtain ⟨b1, b2⟩ := inR_of hb
      rcases hc : inR (a + b) with _ | _
      · have hv : Hid (addV a b = pairV 0 12) := by show addV a b = _; simp [addV, hc]
        rw [hv.out]
        go_enter Tryd.func14, Tryd.ntmps14
        go_wp2_with (go_at_call 31; refine (Within_any _ _).mono ?_; rintro e w' ⟨rfl, rfl⟩)
        go_ret2
        exact ⟨rfl, rfl⟩
      · have hv : Hid (addV a b = pairV (a + b) 0) := by show addV a b = _; simp [addV, ha, hb, hc]
        rw [hv.out]
        go_enter Tryd.func14, Tryd.ntmps14
        go_wp2_with (go_at_call 31; refine (Within_any _ _).mono ?_; rintro e w' ⟨rfl, rfl⟩)
        go_ret2
        exact ⟨rfl, rfl⟩

theorem ex_pts (w : World) : Pts (w.alloc (.cells #[.int .i64 0, .int .i64 0, .int .i64 10, .int .i64 (-5)] 36)) (w.alloc (.cells #[.int .i64 0, .int .i64 0, .int .i64 10, .int .i64 (-5)] 36)).heap.size (some ⟨w.heap.size, 0, none⟩) 2 exX exY := fun _ => by
  refine ⟨_, rfl, by simp, fun i hi => ?_⟩
  obtain rfl | rfl : i = 0 ∨ i = 1 := by omega
  · exact ⟨by simp [World.cell?_alloc_new, exX, add_0], by simp [World.cell?_alloc_new, exY, add_0]⟩
  · exact ⟨by simp [World.cell?_alloc_new, exX, Addr.add], by simp [World.cell?_alloc_new, exY, Addr.add]⟩
theorem at_ex (w : World) : Calls Tryd.prog 23 #[.slice (some ⟨w.heap.size, 0, none⟩) 2 2, .int .i64 5] (w.alloc (.cells #[.int .i64 0, .int .i64 0, .int .i64 10, .int .i64 (-5)] 36)) fun e w' => e = .returned (pairV (-3) 0) ∧ Below w.heap.size w w' := by
  have h := at_all (some ⟨w.heap.size, 0, none⟩) 2 2 exX exY 5 _ (ex_pts w) (by omega)
  rw [ex_at] at h
  exact h.mono fun e w' ⟨a, b⟩ => ⟨a, ((Below.refl _ _).alloc (Nat.le_refl _) _).trans (b.mono (by simp))⟩

set_option maxRecDepth 100000 in
set_option maxHeartbeats 2000000 in
theorem alive_any (w : World) (he : Env w) : Calls Tryd.prog 12 #[] w fun e w' => e = .returned (.bool true) ∧ Below w.heap.size w w' := by
  have k1 := fun w => mul_any 2500 2500 w
  have k2 := fun w => div_any 1000 3000 w
  have k3 := fun w => ratio_any 7 3 2 w
  have k4 := fun w => round_any 15 10 w
  have k5 := at_ex
  have k6 := fun w he => parse_any ⟨#[50, 46, 53]⟩ w he (by decide)
  have k7 := fun w he => parse_any ⟨#[45, 48]⟩ w he (by decide)
  have k8 := fun w => add_any 1125899906842624 1 w
  have k9 := fun w he => print_any (-1500) w he (by omega) (by omega)
  rw [ex_mul] at k1
  rw [ex_div] at k2
  rw [ex_ratio] at k3
  rw [ex_round] at k4
  simp only [ex_parse] at k6
  simp only [ex_parse0] at k7
  rw [ex_add] at k8
  rw [ex_print] at k9
  unfold pairV at k1 k2 k3 k4 k5 k6 k7 k8
  have k1 := Lib.hid k1
  have k2 := Lib.hid k2
  have k3 := Lib.hid k3
  have k4 := Lib.hid k4
  have k5 := Lib.hid k5
  have k6 := Lib.hid k6
  have k7 := Lib.hid k7
  have k8 := Lib.hid k8
  have k9 := Lib.hid k9
  have h0 : Hid (Env w ∧ Below w.heap.size w w) := ⟨he, Below.refl _ _⟩
  have st : Hid (∀ a b, Env a ∧ Below w.heap.size w a → Below a.heap.size a b → Env b ∧ Below w.heap.size w b) := fun a b h1 h2 => ⟨h1.1.below h2, h1.2.trans (h2.mono h1.2.size)⟩
  go_enter Tryd.func12, Tryd.ntmps12
  go_wp2_with (first
    | (go_at_call 15; refine (k1.out _).mono ?_; rintro e w1 ⟨rfl, b⟩; have h1 := Lib.hid (st.out _ _ h0.out (drawn_below b)); clear b)
    | (go_at_call 17; refine (k2.out _).mono ?_; rintro e w2 ⟨rfl, b⟩; have h2 := Lib.hid (st.out _ _ h1.out (drawn_below b)); clear b)
    | (go_at_call 19; refine (k3.out _).mono ?_; rintro e w3 ⟨rfl, b⟩; have h3 := Lib.hid (st.out _ _ h2.out (drawn_below b)); clear b)
    | (go_at_call 21; refine (k4.out _).mono ?_; rintro e w4 ⟨rfl, b⟩; have h4 := Lib.hid (st.out _ _ h3.out (same_below b)); clear b)
    | (go_at_call 23; refine (k5.out _).mono ?_; rintro e w5 ⟨rfl, b⟩; have h5 := Lib.hid (st.out _ _ h4.out b); clear b)
    | (go_at_call 13; refine (k8.out _).mono ?_; rintro e w8 ⟨rfl, b⟩; have h8 := Lib.hid (st.out _ _ h7.out (same_below b)); clear b)
    | (go_at_call 27; refine (k9.out _ h8.out.1).mono ?_; rintro e w9 ⟨rfl, b⟩; have h9 := Lib.hid (st.out _ _ h8.out b); clear b)
    | (go_at_call_of 25 (⟨#[50, 46, 53]⟩ : ByteArray); refine (k6.out _ h5.out.1).mono ?_; rintro e w6 ⟨rfl, b⟩; have h6 := Lib.hid (st.out _ _ h5.out b); clear b)
    | (go_at_call_of 25 (⟨#[45, 48]⟩ : ByteArray); refine (k7.out _ h6.out.1).mono ?_; rintro e w7 ⟨rfl, b⟩; have h7 := Lib.hid (st.out _ _ h6.out b); clear b))
  go_ret
  exact ⟨by simp, h9.out.2⟩
end Go.Proofs.YtleddfceigmlmaaDoor
