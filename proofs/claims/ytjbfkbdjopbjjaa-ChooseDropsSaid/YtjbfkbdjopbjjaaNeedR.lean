/- The reference's Need and Fits. -/
import Derived.Test.YtjbfkbdjopbjjaaLessR
namespace Go.Proofs.Ytjbfkbdjopbjjaa
open Go.RowKit

instance (n : Nat) (c : List Int) : Decidable (Ch n c) := by unfold Ch; exact inferInstance
def chB (l : List It) (c : List Int) : Bool := decide (Ch l.length c)
def nS (l : List It) (g : Nat → Int) (c : List Int) : Int := if Ch l.length c then sK g c else 0
theorem need_yes {l : List It} {c : List Int} (h : Ch l.length c) : chB l c = true ∧ ∀ g, nS l g c = sK g c := ⟨decide_eq_true h, fun g => by unfold nS; rw [if_pos h]⟩
theorem need_no {l : List It} {c : List Int} (h : ¬ Ch l.length c) : chB l c = false ∧ ∀ g, nS l g c = 0 := ⟨decide_eq_false h, fun g => by unfold nS; rw [if_neg h]⟩
def NeedE (l : List It) (c : List Int) : Ending := .returned (.tuple #[.int .i64 (nS l (iA l) c), .int .i64 (nS l (iB l) c), .int .i64 (nS l (iV l) c), .bool (chB l c)])
theorem needE_yes {l : List It} {c : List Int} (h : Ch l.length c) : .returned (.tuple #[.int .i64 (sK (iA l) c), .int .i64 (sK (iB l) c), .int .i64 (sK (iV l) c), .bool true]) = NeedE l c := by
  obtain ⟨h1, h2⟩ := need_yes h
  unfold NeedE
  rw [h1, h2, h2, h2]
theorem needE_no {l : List It} {c : List Int} (h : ¬ Ch l.length c) : .returned (.tuple #[.int .i64 0, .int .i64 0, .int .i64 0, .bool false]) = NeedE l c := by
  obtain ⟨h1, h2⟩ := need_no h
  unfold NeedE
  rw [h1, h2, h2, h2]
theorem ch_no {l : List It} {c : List Int} {k : Nat} (hk : k < c.length) (h : ix c k < 0 ∨ (l.length : Int) ≤ ix c k ∨ (0 < k ∧ ix c k ≤ ix c (k - 1))) : ¬ Ch l.length c := by
  refine ch_bad hk ?_
  rw [← ix_at hk]
  rcases h with h | h | ⟨h0, h⟩
  · exact .inl h
  · exact .inr (.inl h)
  · exact .inr (.inr ⟨h0, by rw [← ix_at (by omega)]; exact h⟩)
theorem ch_yes {l : List It} {c : List Int} {k kk : Nat} (h : Ch l.length (c.take k)) (hk : k < c.length) (hx : ix c k = (kk : Int)) (hl : kk < l.length) (hp : 0 < k → ix c (k - 1) < ix c k) : Ch l.length (c.take (k + 1)) := by
  rw [ix_at hk] at hx hp
  refine ch_next h hk (by omega) (by omega) (fun h0 => ?_)
  have := hp h0
  rwa [ix_at (by omega)] at this
theorem sum_next {c : List Int} {k kk : Nat} (g : Nat → Int) (hk : k < c.length) (hx : ix c k = (kk : Int)) : sK g (c.take k) + g kk = sK g (c.take (k + 1)) := by
  rw [sK_take g hk, ← ix_at hk, hx, Int.toNat_natCast]
def NeedPost (l : List It) (c : List Int) (W : World) (en : Ending) (w' : World) : Prop := en = NeedE l c ∧ Below W.heap.size W w'
set_option maxRecDepth 100000 in
set_option maxHeartbeats 8000000 in
theorem need_any (A B : Option Addr) (l : List It) (c : List Int) (d e : Nat) (w : World) (hp : Its w w.heap.size A l) (hq : Rd w w.heap.size B e (cellsI c)) (hr : Rt l) (hm : c.length ≤ 1000000) :
    Calls Try.prog 15 #[.slice A l.length d, .slice B c.length e] w (NeedPost l c w) := by
  have hP := Lib.hid hp
  have hQ := Lib.hid hq
  have hl12 := hr.1
  have hYes : Hid (∀ (_ : Ch l.length c) (w' : World) (_ : Below w.heap.size w w'), NeedPost l c w (.returned (.tuple #[.int .i64 (sK (iA l) c), .int .i64 (sK (iB l) c), .int .i64 (sK (iV l) c), .bool true])) w') := Lib.hid (fun h w' b => ⟨needE_yes h, b⟩)
  have hNo : Hid (∀ (k : Nat) (_ : k < c.length) (_ : ix c k < 0 ∨ (l.length : Int) ≤ ix c k ∨ (0 < k ∧ ix c k ≤ ix c (k - 1))) (w' : World) (_ : Below w.heap.size w w'), NeedPost l c w (.returned (.tuple #[.int .i64 0, .int .i64 0, .int .i64 0, .bool false])) w') := Lib.hid (fun k hk h w' b => ⟨needE_no (ch_no hk h), b⟩)
  have hNx := Lib.hid (fun (k kk : Nat) (h : Ch l.length (c.take k)) (hk : k < c.length) (hx : ix c k = (kk : Int)) (hl : kk < l.length) (hp : 0 < k → ix c (k - 1) < ix c k) => ch_yes h hk hx hl hp)
  have hBd := Lib.hid (fun (k : Nat) (h : Ch l.length (c.take k)) => fit_bounds hr h)
  have hIt := Lib.hid (fun (k : Nat) => rt_at hr k)
  generalize NeedPost l c w = goal at *
  clear hp hq hr
  go_enter Try.func15, Try.ntmps15
  go_wp2
  go_loopw [8, 9, 10, 11] (fun v8 v9 v10 i wr => ∃ (k : Nat) (s1 s2 s3 : Int), k ≤ c.length ∧ i = .int .i64 k ∧ v8 = .int .i64 s1 ∧ v9 = .int .i64 s2 ∧ v10 = .int .i64 s3 ∧ Hid (s1 = sK (iA l) (c.take k) ∧ s2 = sK (iB l) (c.take k) ∧ s3 = sK (iV l) (c.take k)) ∧ Hid (Ch l.length (c.take k)) ∧ Hid (Below w.heap.size w wr)) (fun _ _ _ i _ => c.length - (intOf i).toNat)
  case atStart => exact ⟨0, 0, 0, 0, by omega, rfl, rfl, rfl, rfl, Lib.hid ⟨rfl, rfl, rfl⟩, Lib.hid (ch_nil _), Lib.hid (Below.refl _ _)⟩
  case round =>
    obtain ⟨k, s1, s2, s3, hk, rfl, rfl, rfl, rfl, hS, hC, hB⟩ := hrel
    by_cases hlt : k < c.length
    · obtain ⟨bd, rfl, _, c1⟩ := (hQ.out.below hB.out).get (cellsI_ix hlt)
      have hNo1 := Lib.hid (hNo.out k hlt)
      by_cases hx0 : ix c k < 0
      · have hR := Lib.hid (hNo1.out (.inl hx0) wr hB.out)
        clear hNo1 hNo hNx hYes hBd hIt hS hC hP hQ
        generalize ix c k = x at *
        by_cases hk0 : k = 0
        all_goals
          first
            | (subst hk0; have c1 : wr.cell? bd = some (.int .i64 x) := c1)
            | skip
          go_wp2
          exact bodyPost_ret (by simp [results, Try.results15, go_sem]) rfl hR.out
      · obtain ⟨kk, hkk⟩ : ∃ kk : Nat, ix c k = (kk : Int) := ⟨(ix c k).toNat, by omega⟩
        by_cases hxl : kk < l.length
        · obtain ⟨ad, rfl, _, x1, x2, x3⟩ := (hP.out.below hB.out).get hxl
          obtain ⟨b1, b2, b3⟩ := hBd.out k hC.out
          obtain ⟨i1, i2, i3⟩ := hIt.out kk
          obtain ⟨e1, e2, e3⟩ := hS.out
          rw [← e1] at b1
          rw [← e2] at b2
          rw [← e3] at b3
          have hS2 : Hid (s1 + iA l kk = sK (iA l) (c.take (k + 1)) ∧ s2 + iB l kk = sK (iB l) (c.take (k + 1)) ∧ s3 + iV l kk = sK (iV l) (c.take (k + 1))) := Lib.hid ⟨by rw [e1]; exact sum_next _ hlt hkk, by rw [e2]; exact sum_next _ hlt hkk, by rw [e3]; exact sum_next _ hlt hkk⟩
          have hC2 := Lib.hid (fun hp => hNx.out k kk hC.out hlt hkk hxl hp)
          clear e1 e2 e3 hS hC hNx hBd hIt hYes hNo hP
          rw [hkk] at c1
          have hHk := Lib.hid hkk
          clear hkk hx0
          generalize iA l kk = y1 at *
          generalize iB l kk = y2 at *
          generalize iV l kk = y3 at *
          by_cases hk0 : k = 0
          · have hC3 := Lib.hid (hC2.out (fun h => by omega))
            subst hk0
            have c1 : wr.cell? bd = some (.int .i64 (kk : Int)) := c1
            clear hC2 hNo1 hQ hHk
            go_wp2
            go_quiet (fail)
            go_wp2
            exact ⟨⟨1, _, _, _, by omega, rfl, rfl, rfl, rfl, hS2, hC3, Lib.hid (below_drewN hB.out _)⟩, by simp [intOf]; omega⟩
          · obtain ⟨j, hj⟩ : ∃ j, j = k - 1 := ⟨_, rfl⟩
            have hjl : j < c.length := by omega
            obtain ⟨bd2, hbd2, _, c0⟩ := (hQ.out.below hB.out).get (cellsI_ix hjl)
            injection hbd2 with hbd2
            subst hbd2
            have hkj : (k : Int) - 1 = (j : Int) := by omega
            have hw1 : IntKind.i64.wrap ((k : Int) - 1) = (j : Int) := by rw [hkj]; exact IntWalk.i64_in _ (by omega)
            have hkp : 0 < k := by omega
            have hNo2 := Lib.hid (fun (h : (kk : Int) ≤ ix c j) => hNo1.out (.inr (.inr ⟨hkp, by rw [hHk.out, ← hj]; exact h⟩)) wr hB.out)
            have hC3 := Lib.hid (fun (h : ix c j < (kk : Int)) => hC2.out (fun _ => by rw [hHk.out, ← hj]; exact h))
            clear hC2 hNo1 hQ hHk hkj hj
            generalize ix c j = y at *
            have hcase : j = 0 ∨ 0 < j := by omega
            rcases hcase with hj0 | hj0
            all_goals
              first
                | (subst hj0; have c0 : wr.cell? bd = some (.int .i64 y) := c0)
                | skip
              by_cases hy : (kk : Int) ≤ y
              · have hR := Lib.hid (hNo2.out hy)
                clear hNo2 hC3 hS2
                go_wp2
                exact bodyPost_ret (by simp [results, Try.results15, go_sem]) rfl hR.out
              · have hC4 := Lib.hid (hC3.out (by omega))
                clear hNo2 hC3
                go_wp2
                go_quiet (fail)
                go_wp2
                exact ⟨⟨k + 1, _, _, _, by omega, by go_num, rfl, rfl, rfl, hS2, hC4, Lib.hid (below_drewN hB.out _)⟩, by simp [intOf]; omega⟩
        · have hR := Lib.hid (hNo1.out (.inr (.inl (by omega))) wr hB.out)
          clear hNo1 hNo hNx hYes hBd hIt hS hC hP hQ hx0
          rw [hkk] at c1
          clear hkk
          by_cases hk0 : k = 0
          all_goals
            first
              | (subst hk0; have c1 : wr.cell? bd = some (.int .i64 (kk : Int)) := c1)
              | skip
            go_wp2
            exact bodyPost_ret (by simp [results, Try.results15, go_sem]) rfl hR.out
    · obtain rfl : k = c.length := by omega
      have hCc := hC.out
      have hSc := hS.out
      rw [List.take_length] at hCc hSc
      obtain ⟨e1, e2, e3⟩ := hSc
      have hR := hYes.out hCc wr hB.out
      rw [← e1, ← e2, ← e3] at hR
      have hR := Lib.hid hR
      clear hNo hNx hYes hBd hIt hS hC hP hQ hCc e1 e2 e3
      go_wp2
      exact bodyPost_ret (by simp [results, Try.results15, go_sem]) rfl hR.out
def fitB (l : List It) (c : List Int) (a b : Int) : Bool := chB l c && (decide (nS l (iA l) c ≤ a) && decide (nS l (iB l) c ≤ b))
theorem fitB_iff {l : List It} {c : List Int} {a b : Int} : fitB l c a b = true ↔ Fit l c a b := by
  unfold fitB Fit
  by_cases h : Ch l.length c
  · obtain ⟨h1, h2⟩ := need_yes h
    rw [h1, h2, h2, Bool.true_and, Bool.and_eq_true, decide_eq_true_iff, decide_eq_true_iff]
    exact ⟨fun k => ⟨h, k⟩, fun k => k.2⟩
  · rw [(need_no h).1, Bool.false_and]
    exact ⟨fun k => (by cases k), fun k => absurd k.1 h⟩
theorem fitB_not {l : List It} {c : List Int} {a b : Int} : fitB l c a b = false ↔ ¬ Fit l c a b := by rw [← fitB_iff, Bool.not_eq_true]
set_option maxRecDepth 100000 in
set_option maxHeartbeats 1000000 in
theorem fits_any (A B : Option Addr) (l : List It) (c : List Int) (d e : Nat) (a b : Int) (w : World) (hp : Its w w.heap.size A l) (hq : Rd w w.heap.size B e (cellsI c)) (hr : Rt l) (hm : c.length ≤ 1000000) :
    Calls Try.prog 17 #[.slice A l.length d, .slice B c.length e, .int .i64 a, .int .i64 b] w fun en w' => en = .returned (.bool (fitB l c a b)) ∧ Below w.heap.size w w' := by
  have k := need_any A B l c d e w hp hq hr hm
  unfold NeedPost NeedE at k
  have k := Lib.hid k
  have hE : Hid (fitB l c a b = (chB l c && (decide (nS l (iA l) c ≤ a) && decide (nS l (iB l) c ≤ b)))) := Lib.hid rfl
  generalize fitB l c a b = r at *
  generalize nS l (iA l) c = x at *
  generalize nS l (iB l) c = y at *
  generalize nS l (iV l) c = z at *
  generalize chB l c = q at *
  clear hp hq hr
  go_enter Try.func17, Try.ntmps17
  cases q
  all_goals
    by_cases h1 : x ≤ a
    all_goals
      by_cases h2 : y ≤ b
      all_goals
        go_wp2_with (go_at_call 15; (with_reducible refine (k.out).mono ?_); rintro en w1 ⟨rfl, b1⟩; (have B1 := Lib.hid b1); clear b1)
        go_ret
        exact ⟨congrArg (fun b => Ending.returned (.bool b)) (by rw [hE.out]; simp [h1, h2]), B1.out⟩
end Go.Proofs.Ytjbfkbdjopbjjaa
