/- The package's Right. -/
import Derived.Test.YtlaklfiodmnocaaMapV
import Derived.Test.YtlaklfiodmnocaaRefRight
namespace Go.Proofs.Ytlaklfiodmnocaa
open Go.RowKit

theorem zeroB (w : World) : (zeroValue 4).run Try.prog w = .ok (.bool false) w := by kernel_rfl
theorem isNode_yes (n : Int) (w : World) (h1 : 0 ≤ n) (h2 : n ≤ 9999) : Calls Try.prog 31 #[.int .i64 n] w fun e w' => e = .returned (.bool true) ∧ w = w' := by
  go_enter Try.func31, Try.ntmps31
  go_wp2
  go_ret
  exact ⟨rfl, rfl⟩
theorem isNode_no (n : Int) (w : World) (h : n < 0 ∨ 9999 < n) : Calls Try.prog 31 #[.int .i64 n] w fun e w' => e = .returned (.bool false) ∧ w = w' := by
  rcases h with h | h
  · go_enter Try.func31, Try.ntmps31
    go_wp2
    go_ret
    exact ⟨rfl, rfl⟩
  · have h0 : 0 ≤ n := by omega
    have hd : decide (n ≤ 9999) = false := decide_eq_false (by omega)
    have hd2 : ¬ n ≤ 9999 := by omega
    go_enter Try.func31, Try.ntmps31
    go_wp2
    go_ret
    exact ⟨rfl, rfl⟩
/-- The IDs that were met, as a map holds them. -/
def idm (l : List Ed) (k : Nat) : Int → Option Value := fun i => if i ∈ (l.take k).map Ed.id then some (.bool true) else none
theorem idm_zero (l : List Ed) : idm l 0 = fun _ => none := by funext i; unfold idm; simp
theorem idm_succ {l : List Ed} {k : Nat} (h : k < l.length) : upd (idm l k) (eI l k) (.bool true) = idm l (k + 1) := by
  funext i
  unfold upd idm
  by_cases hi : i = eI l k
  · rw [if_pos hi, if_pos ((mem_ids h).2 (.inr hi.symm))]
  · rw [if_neg hi]
    by_cases hm : i ∈ (l.take k).map Ed.id
    · rw [if_pos hm, if_pos ((mem_ids h).2 (.inl hm))]
    · rw [if_neg hm, if_neg]
      intro h1
      rcases (mem_ids h).1 h1 with h2 | h2
      · exact hm h2
      · exact hi h2.symm
theorem idm_in {l : List Ed} {k : Nat} {i : Int} (h : i ∈ (l.take k).map Ed.id) (z : Value) : (idm l k i).getD z = .bool true := by unfold idm; rw [if_pos h]; rfl
theorem idm_out {l : List Ed} {k : Nat} {i : Int} (h : i ∉ (l.take k).map Ed.id) (z : Value) : (idm l k i).getD z = z := by unfold idm; rw [if_neg h]; rfl

set_option maxRecDepth 100000 in
set_option maxHeartbeats 4000000 in
theorem gRight_any (A : Option Addr) (l : List Ed) (c : Nat) (w : World) (hp : Es w w.heap.size A l) (hmax : l.length ≤ 9223372036854775807) :
    Calls Try.prog 12 #[.slice A l.length c] w fun e w' => e = .returned (.int .i64 (rightN l : Nat)) ∧ Below w.heap.size w w' := by
  have hP := Lib.hid hp
  clear hp
  by_cases h200 : 200 < l.length
  · rw [show rightN l = 4 from if_pos h200]
    clear hP
    go_enter Try.func12, Try.ntmps12
    go_wp2
    go_ret
    exact ⟨rfl, Below.refl _ _⟩
  · have hmm := @run_makeMap Try.prog
    have hG0 := right_short h200
    generalize rightN l = goal at *
    have hG := Lib.hid hG0
    clear hG0
    go_enter Try.func12, Try.ntmps12
    go_wp2
    clear hmm
    have hM0 : Hid (MapV (w.alloc (.map #[] 0)) w.heap.size 0 (idm l 0)) := Lib.hid (by rw [idm_zero]; exact mapV_made w)
    have hB0 : Hid (Below w.heap.size w (w.alloc (.map #[] 0))) := Lib.hid ((Below.refl _ _).alloc (Nat.le_refl _) _)
    go_loopw [12] (fun i wr => ∃ k : Nat, k ≤ l.length ∧ i = .int .i64 k ∧ Hid (Below w.heap.size w wr) ∧ Hid (MapV wr w.heap.size k (idm l k)) ∧ Hid (rgo (l.take k) (l.drop k) = goal)) (fun i _ => l.length - (intOf i).toNat)
    case atStart => exact ⟨0, by omega, rfl, hB0, hM0, Lib.hid hG.out.symm⟩
    case round =>
      obtain ⟨k, hk, rfl, hB, hM, hG⟩ := hrel
      clear hM0 hB0
      by_cases hlt : k < l.length
      · obtain ⟨ad, rfl, hab, c0⟩ := hP.out.get hlt
        obtain ⟨x0, x1, x2, x3⟩ := c0.keep (w' := wr) (by rw [block_of_add]; exact hab) (fun q hq => hB.out.cell hq)
        have hbad := Lib.hid (fun (h : ¬ Rng ⟨eI l k, eF l k, eT l k, eC l k⟩) => (rgo_bad hlt h).symm.trans hG.out)
        have htw := Lib.hid (fun (h : Rng ⟨eI l k, eF l k, eT l k, eC l k⟩) (h2 : eI l k ∈ (l.take k).map Ed.id) => (rgo_twice hlt h h2).symm.trans hG.out)
        have hnx := Lib.hid (fun (h : Rng ⟨eI l k, eF l k, eT l k, eC l k⟩) (h2 : eI l k ∉ (l.take k).map Ed.id) => (rgo_next hlt h h2).symm.trans hG.out)
        have hup := Lib.hid (idm_succ hlt)
        generalize eI l k = y0 at *
        generalize eF l k = y1 at *
        generalize eT l k = y2 at *
        generalize eC l k = y3 at *
        have hB2 := Lib.hid (hB.out.alloc hB.out.size (.cells #[.int .i64 y0, .int .i64 y1, .int .i64 y2, .int .i64 y3] 42))
        have hM2 := Lib.hid (hM.out.alloc (.cells #[.int .i64 y0, .int .i64 y1, .int .i64 y2, .int .i64 y3] 42))
        clear c0 hG hP hM
        by_cases hr : Rng ⟨y0, y1, y2, y3⟩
        · obtain ⟨r1, r2, r3, r4, r5, r6⟩ := id hr
          have htw := Lib.hid (htw.out hr)
          have hnx := Lib.hid (hnx.out hr)
          have k1 := Lib.hid (fun W => isNode_yes y1 W r1 r2)
          have k2 := Lib.hid (fun W => isNode_yes y2 W r3 r4)
          have r5 : 0 ≤ y3 := r5
          have r6 : y3 ≤ 1000000 := r6
          clear hbad hr r1 r2 r3 r4
          by_cases hm : y0 ∈ (l.take k).map Ed.id
          · have hR := Lib.hid (htw.out hm)
            have hL : Hid ((idm l k y0).getD (.bool false) = .bool true) := Lib.hid (idm_in hm _)
            clear htw hnx hm hup
            go_wp2_with (first
              | (go_at_call 31; (first | ((with_reducible refine (k1.out _).mono ?_); rintro e wq ⟨rfl, rfl⟩) | ((with_reducible refine (k2.out _).mono ?_); rintro e wq ⟨rfl, rfl⟩)))
              | (at_lookup; refine wpList_lookup_v rfl (.tmp 36) (.tmp 38) rfl Try.underlying48 Try.underlying3 (zeroB _) rfl rfl hM2.out ?_; rw [hL.out]))
            go_ret
            exact ⟨congrArg (fun n : Nat => Ending.returned (.int .i64 n)) hR.out, hB2.out⟩
          · have hR := Lib.hid (hnx.out hm)
            have hL : Hid ((idm l k y0).getD (.bool false) = .bool false) := Lib.hid (idm_out hm _)
            clear htw hnx hm
            go_wp2_with (first
              | (go_at_call 31; (first | ((with_reducible refine (k1.out _).mono ?_); rintro e wq ⟨rfl, rfl⟩) | ((with_reducible refine (k2.out _).mono ?_); rintro e wq ⟨rfl, rfl⟩)))
              | (at_lookup; refine wpList_lookup_v rfl (.tmp 36) (.tmp 38) rfl Try.underlying48 Try.underlying3 (zeroB _) rfl rfl hM2.out ?_; rw [hL.out])
              | (at_mapUpdate; refine wpList_mapUpdate_v (v := .bool true) rfl (.tmp 40) (.tmp 42) (.const (.bool true)) rfl Try.underlying48 Try.underlying3 rfl rfl rfl hM2.out ?_; intro w3 h3 g3 z3; (have H3 := Lib.hid h3); (have G3 := Lib.hid g3); (have Z3 := Lib.hid z3); clear h3 g3 z3))
            exact ⟨⟨k + 1, by omega, by go_num, Lib.hid (hB2.out.grown G3.out hB2.out.size (fun j hj => by cases hj; exact Nat.le_refl _)), Lib.hid (by have := H3.out; rw [hup.out] at this; exact this), hR⟩, by simp [intOf]; omega⟩
        · have hR := Lib.hid (hbad.out hr)
          have hc : (y1 < 0 ∨ 9999 < y1) ∨ (0 ≤ y1 ∧ y1 ≤ 9999 ∧ (y2 < 0 ∨ 9999 < y2)) ∨ (0 ≤ y1 ∧ y1 ≤ 9999 ∧ 0 ≤ y2 ∧ y2 ≤ 9999 ∧ y3 < 0) ∨ (0 ≤ y1 ∧ y1 ≤ 9999 ∧ 0 ≤ y2 ∧ y2 ≤ 9999 ∧ 0 ≤ y3 ∧ 1000000 < y3) := by
            unfold Rng at hr
            simp only at hr
            omega
          clear hbad htw hnx hr hup hM2
          rcases hc with h1 | ⟨h1, h2, h3⟩ | ⟨h1, h2, h3, h4, h5⟩ | ⟨h1, h2, h3, h4, h5, h6⟩
          · have k1 := Lib.hid (fun W => isNode_no y1 W h1)
            clear h1
            go_wp2_with (go_at_call 31; (with_reducible refine (k1.out _).mono ?_); rintro e wq ⟨rfl, rfl⟩)
            go_ret
            exact ⟨congrArg (fun n : Nat => Ending.returned (.int .i64 n)) hR.out, hB2.out⟩
          · have k1 := Lib.hid (fun W => isNode_yes y1 W h1 h2)
            have k2 := Lib.hid (fun W => isNode_no y2 W h3)
            clear h1 h2 h3
            go_wp2_with (first
              | (go_at_call 31; (with_reducible refine (k1.out _).mono ?_); rintro e wq ⟨rfl, rfl⟩)
              | (go_at_call 31; (with_reducible refine (k2.out _).mono ?_); rintro e wq ⟨rfl, rfl⟩))
            go_ret
            exact ⟨congrArg (fun n : Nat => Ending.returned (.int .i64 n)) hR.out, hB2.out⟩
          · have k1 := Lib.hid (fun W => isNode_yes y1 W h1 h2)
            have k2 := Lib.hid (fun W => isNode_yes y2 W h3 h4)
            clear h1 h2 h3 h4
            go_wp2_with (first
              | (go_at_call 31; (with_reducible refine (k1.out _).mono ?_); rintro e wq ⟨rfl, rfl⟩)
              | (go_at_call 31; (with_reducible refine (k2.out _).mono ?_); rintro e wq ⟨rfl, rfl⟩))
            go_ret
            exact ⟨congrArg (fun n : Nat => Ending.returned (.int .i64 n)) hR.out, hB2.out⟩
          · have k1 := Lib.hid (fun W => isNode_yes y1 W h1 h2)
            have k2 := Lib.hid (fun W => isNode_yes y2 W h3 h4)
            clear h1 h2 h3 h4
            go_wp2_with (first
              | (go_at_call 31; (with_reducible refine (k1.out _).mono ?_); rintro e wq ⟨rfl, rfl⟩)
              | (go_at_call 31; (with_reducible refine (k2.out _).mono ?_); rintro e wq ⟨rfl, rfl⟩))
            go_ret
            exact ⟨congrArg (fun n : Nat => Ending.returned (.int .i64 n)) hR.out, hB2.out⟩
      · have hR : Hid (goal = 0) := Lib.hid (hG.out.symm.trans (rgo_end (by omega)))
        clear hG hP hM
        go_wp2
        go_ret
        exact ⟨congrArg (fun n : Nat => Ending.returned (.int .i64 n)) hR.out.symm, hB.out⟩
end Go.Proofs.Ytlaklfiodmnocaa
