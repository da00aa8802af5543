/- The reference's Valid and Value. -/
import Derived.Test.YtdemnbbofigcdaaNetR
import Derived.Test.YtdemnbbofigcdaaRightR
namespace Go.Proofs.Ytdemnbbofigcdaa
open Go.RowKit

noncomputable def vB (l : List Ed) (f : List Int) (s t : Int) : Bool := @decide (IsFlow l f s t) (Classical.propDecidable _)
theorem vB_iff {l : List Ed} {f : List Int} {s t : Int} : vB l f s t = true ↔ IsFlow l f s t := @decide_eq_true_iff _ (Classical.propDecidable _)
theorem vB_not {l : List Ed} {f : List Int} {s t : Int} : vB l f s t = false ↔ ¬ IsFlow l f s t := by rw [← vB_iff, Bool.not_eq_true]
theorem flow_ends {l : List Ed} {f : List Int} {s t : Int} (h1 : f.length = l.length) (h2 : ∀ k, k < l.length → 0 ≤ ix f k ∧ ix f k ≤ eC l k)
    (h3 : ∀ k, k < l.length → (eF l k ≠ s → eF l k ≠ t → net l f (eF l k) = 0) ∧ (eT l k ≠ s → eT l k ≠ t → net l f (eT l k) = 0)) : IsFlow l f s t := by
  refine ⟨h1, h2, fun n hn1 hn2 => ?_⟩
  by_cases hm : n ∈ nodesL l
  · obtain ⟨e, he, hx⟩ := mem_nodes.1 hm
    obtain ⟨k, hk, rfl⟩ := List.mem_iff_getElem.1 he
    rw [e_eta hk] at hx
    rcases hx with rfl | rfl
    · exact (h3 k hk).1 hn1 hn2
    · exact (h3 k hk).2 hn1 hn2
  · exact net_out hm
theorem flow_low {l : List Ed} {f : List Int} (hg : Grph l) (h1 : f.length = l.length) (h2 : ∀ k, k < l.length → 0 ≤ ix f k ∧ ix f k ≤ eC l k) : Low l f :=
  ⟨h1, hg.1, fun k hk => by
    have h3 := h2 k hk
    have h4 : eC l k ≤ 1000000 := (hg.2.1 _ (e_mem hk)).2.2.2.2.2
    omega⟩
theorem IsFlow.low {l : List Ed} {f : List Int} {s t : Int} (hg : Grph l) (h : IsFlow l f s t) : Low l f := flow_low hg h.len h.box

set_option maxRecDepth 100000 in
set_option maxHeartbeats 4000000 in
theorem valid_any (A B : Option Addr) (l : List Ed) (f : List Int) (c d : Nat) (s t : Int) (w : World) (hp : Es w w.heap.size A l) (hq : Rd w w.heap.size B d (cellsI f)) (hg : Grph l) (hmf : f.length ≤ 1000000) :
    Calls Try.prog 13 #[.slice A l.length c, .slice B f.length d, .int .i64 s, .int .i64 t] w fun e w' => e = .returned (.bool (vB l f s t)) ∧ Below w.heap.size w w' := by
  have hgl := hg.1
  by_cases hlen : f.length = l.length
  · have hne : ((f.length : Int) != (l.length : Int)) = false := by rw [hlen]; simp
    have hP := Lib.hid hp
    have hQ := Lib.hid hq
    have hLow := Lib.hid (fun (h : ∀ k, k < l.length → 0 ≤ ix f k ∧ ix f k ≤ eC l k) => flow_low hg hlen h)
    have hYes := Lib.hid (fun (h2 : ∀ k, k < l.length → 0 ≤ ix f k ∧ ix f k ≤ eC l k) (h3 : ∀ k, k < l.length → (eF l k ≠ s → eF l k ≠ t → net l f (eF l k) = 0) ∧ (eT l k ≠ s → eT l k ≠ t → net l f (eT l k) = 0)) => vB_iff.2 (flow_ends hlen h2 h3))
    have hNo1 : Hid (∀ k, k < l.length → ¬ (0 ≤ ix f k ∧ ix f k ≤ eC l k) → vB l f s t = false) := Lib.hid (fun k hk h => vB_not.2 (fun hf => h (hf.box k hk)))
    have hNo2 : Hid (∀ n, n ≠ s → n ≠ t → net l f n ≠ 0 → vB l f s t = false) := Lib.hid (fun n h1 h2 h3 => vB_not.2 (fun hf => h3 (hf.bal n h1 h2)))
    generalize vB l f s t = v at *
    have hLen := Lib.hid hlen
    clear hp hq hg hlen
    go_enter Try.func13, Try.ntmps13
    go_wp2
    go_loopw [9] (fun i wr => ∃ k : Nat, k ≤ l.length ∧ i = .int .i64 k ∧ Hid (Below w.heap.size w wr) ∧ Hid (∀ j, j < k → 0 ≤ ix f j ∧ ix f j ≤ eC l j)) (fun i _ => l.length - (intOf i).toNat)
    case atStart => exact ⟨0, by omega, rfl, Lib.hid (Below.refl _ _), Lib.hid (fun j hj => absurd hj (by omega))⟩
    case round =>
      obtain ⟨k, hk, rfl, hB, hI⟩ := hrel
      by_cases hlt : k < l.length
      · have hkf : k < f.length := by have := hLen.out; omega
        obtain ⟨ad, rfl, hab, _, _, _, x3⟩ := (hP.out.below hB.out).get hlt
        obtain ⟨bd, rfl, _, c1⟩ := (hQ.out.below hB.out).get (cellsI_ix hkf)
        have hN1 := Lib.hid (hNo1.out k hlt)
        have hNx : Hid (0 ≤ ix f k ∧ ix f k ≤ eC l k → ∀ j, j < k + 1 → 0 ≤ ix f j ∧ ix f j ≤ eC l j) := Lib.hid (fun h j hj => by
          by_cases hjk : j = k
          · rw [hjk]; exact h
          · exact hI.out j (by omega))
        have hi1 : (k : Int) < (f.length : Int) := by omega
        have hi2 : (k : Int) < (l.length : Int) := by omega
        have hi3 : (0 : Int) ≤ (k : Int) := by omega
        clear hI hNo1 hNo2 hYes hLow hP hQ
        generalize ix f k = x at *
        generalize eC l k = y3 at *
        by_cases hk0 : k = 0
        all_goals
          first
            | (subst hk0; have x3 : wr.cell? { block := ad.block, off := ad.off + 3 } = some (.int .i64 y3) := x3; have c1 : wr.cell? bd = some (.int .i64 x) := c1)
            | skip
          by_cases hx : x < 0
          · have hR := Lib.hid (hN1.out (by omega))
            have hd : decide (x < 0) = true := decide_eq_true hx
            clear hN1 hNx
            go_wp2
            go_quiet (fail)
            go_wp2
            go_ret
            exact ⟨by rw [hR.out]; rfl, below_drewN hB.out _⟩
          · have hd : decide (x < 0) = false := decide_eq_false hx
            by_cases hy : y3 < x
            · have hR := Lib.hid (hN1.out (by omega))
              clear hN1 hNx
              go_wp2
              go_quiet (fail)
              go_wp2
              go_ret
              exact ⟨by rw [hR.out]; rfl, below_drewN hB.out _⟩
            · have hR := Lib.hid (hNx.out (by omega))
              have hd2 : decide (x > y3) = false := decide_eq_false hy
              clear hN1 hNx
              go_wp2
              go_quiet (fail)
              go_wp2
              first
                | exact ⟨⟨1, by omega, rfl, Lib.hid (below_drewN hB.out _), hR⟩, by simp [intOf]; omega⟩
                | exact ⟨⟨k + 1, by omega, by go_num, Lib.hid (below_drewN hB.out _), hR⟩, by simp [intOf]; omega⟩
      · obtain rfl : k = l.length := by omega
        have hLw := hLow.out hI.out
        have hY := Lib.hid (hYes.out hI.out)
        have kN := Lib.hid (fun (n : Int) (W : World) (b : Below w.heap.size w W) => net_any A B l f c d n W (hP.out.up b) (hQ.out.up b) hLw)
        clear hLow hYes hNo1 hI hQ hLw hLen
        go_wp2
        go_loopw [10] (fun i wr => ∃ k : Nat, k ≤ l.length ∧ i = .int .i64 k ∧ Hid (Below w.heap.size w wr) ∧ Hid (∀ j, j < k → (eF l j ≠ s → eF l j ≠ t → net l f (eF l j) = 0) ∧ (eT l j ≠ s → eT l j ≠ t → net l f (eT l j) = 0))) (fun i _ => l.length - (intOf i).toNat)
        case atStart => exact ⟨0, by omega, rfl, hB, Lib.hid (fun j hj => absurd hj (by omega))⟩
        case round =>
          clear hB
          obtain ⟨k, hk, rfl, hB, hI⟩ := hrel
          by_cases hlt : k < l.length
          · obtain ⟨ad, rfl, hab, _, x1, x2, _⟩ := (hP.out.below hB.out).get hlt
            have hn1 := Lib.hid (hNo2.out (eF l k))
            have hn2 := Lib.hid (hNo2.out (eT l k))
            have k1 := Lib.hid (kN.out (eF l k) wr hB.out)
            have k2 := Lib.hid (kN.out (eT l k) wr hB.out)
            have hNx : Hid ((eF l k ≠ s → eF l k ≠ t → net l f (eF l k) = 0) ∧ (eT l k ≠ s → eT l k ≠ t → net l f (eT l k) = 0) → ∀ j, j < k + 1 → (eF l j ≠ s → eF l j ≠ t → net l f (eF l j) = 0) ∧ (eT l j ≠ s → eT l j ≠ t → net l f (eT l j) = 0)) := Lib.hid (fun h j hj => by
              by_cases hjk : j = k
              · rw [hjk]; exact h
              · exact hI.out j (by omega))
            have hi2 : (k : Int) < (l.length : Int) := by omega
            clear hI hNo2 kN hP hY
            generalize eF l k = y1 at *
            generalize eT l k = y2 at *
            generalize net l f y1 = z1 at *
            generalize net l f y2 = z2 at *
            have hF : ((y1 != s) = false) ∨ ((y1 != s) = true ∧ (y1 != t) = false) ∨ ((y1 != s) = true ∧ (y1 != t) = true ∧ (z1 != 0) = false) ∨ ((y1 != s) = true ∧ (y1 != t) = true ∧ (z1 != 0) = true) := by
              cases (y1 != s) <;> cases (y1 != t) <;> cases (z1 != 0) <;> simp
            have hT : ((y2 != s) = false) ∨ ((y2 != s) = true ∧ (y2 != t) = false) ∨ ((y2 != s) = true ∧ (y2 != t) = true ∧ (z2 != 0) = false) ∨ ((y2 != s) = true ∧ (y2 != t) = true ∧ (z2 != 0) = true) := by
              cases (y2 != s) <;> cases (y2 != t) <;> cases (z2 != 0) <;> simp
            rcases hF with f1 | ⟨f1, f2⟩ | ⟨f1, f2, f3⟩ | ⟨f1, f2, f3⟩
            all_goals
              first
                | (have hR : Hid (v = false) := Lib.hid (hn1.out (by simpa using f1) (by simpa using f2) (by simpa using f3))
                   clear hn1 hn2 hNx k2 hT
                   go_wp2_with (go_at_call 28; (with_reducible refine (k1.out).mono ?_); rintro e wq ⟨rfl, rfl⟩)
                   go_ret
                   exact ⟨by rw [hR.out]; rfl, hB.out⟩)
                | (rcases hT with g1 | ⟨g1, g2⟩ | ⟨g1, g2, g3⟩ | ⟨g1, g2, g3⟩
                   all_goals
                     first
                       | (have hR : Hid (v = false) := Lib.hid (hn2.out (by simpa using g1) (by simpa using g2) (by simpa using g3))
                          clear hn1 hn2 hNx
                          go_wp2_with (first
                            | (go_at_call 28; (with_reducible refine (k1.out).mono ?_); rintro e wq ⟨rfl, rfl⟩)
                            | (go_at_call 28; (with_reducible refine (k2.out).mono ?_); rintro e wq ⟨rfl, rfl⟩))
                          go_ret
                          exact ⟨by rw [hR.out]; rfl, hB.out⟩)
                       | (have hR := Lib.hid (hNx.out ⟨fun a b => by simp_all, fun a b => by simp_all⟩)
                          clear hn1 hn2 hNx
                          go_wp2_with (first
                            | (go_at_call 28; (with_reducible refine (k1.out).mono ?_); rintro e wq ⟨rfl, rfl⟩)
                            | (go_at_call 28; (with_reducible refine (k2.out).mono ?_); rintro e wq ⟨rfl, rfl⟩))
                          exact ⟨⟨k + 1, by omega, by go_num, hB, hR⟩, by simp [intOf]; omega⟩))
          · obtain rfl : k = l.length := by omega
            have hR := Lib.hid (hY.out hI.out)
            clear hI hNo2 kN hP hY
            go_wp2
            go_ret
            exact ⟨by rw [hR.out]; rfl, hB.out⟩
  · have hne : ((f.length : Int) != (l.length : Int)) = true := bne_iff_ne.2 (by omega)
    have hR : Hid (vB l f s t = false) := Lib.hid (vB_not.2 (fun hf => hlen hf.len))
    clear hp hq
    go_enter Try.func13, Try.ntmps13
    go_wp2
    go_ret
    exact ⟨by rw [hR.out]; rfl, Below.refl _ _⟩
end Go.Proofs.Ytdemnbbofigcdaa
