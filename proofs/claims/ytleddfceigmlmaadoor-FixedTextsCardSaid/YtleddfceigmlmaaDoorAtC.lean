/- The reference's At returns 'atAll', too. -/
import Derived.Test.YtleddfceigmlmaaDoorAtB
namespace Go.Proofs.YtleddfceigmlmaaDoor
open Go.RowKit Go.Shelf Go.Sort

theorem atV_low {n : Nat} {X Y : Nat → Int} {x : Int} (hv : valid n X Y) (h : x ≤ X 0) : atV n X Y x = pairV (Y 0) 0 := by
  have hn := hv.1
  have hr := rises hv
  have h0 := cnt_iff (x := x) hr 0 (by omega)
  have hc := cnt_le n X x
  unfold atV
  by_cases e : x = X 0
  · have g : 0 < cnt n X x := h0.1 (by omega)
    have g1 : cnt n X x = 1 := by
      rcases Nat.lt_or_ge 1 n with k | k
      · have h1 := cnt_iff (x := x) hr 1 k
        have h2 := (hv.2.2 1 k).2.2 (by omega)
        simp only [Nat.sub_self] at h2
        have : ¬ 1 < cnt n X x := fun q => by have := h1.2 q; omega
        omega
      · omega
    rw [g1, if_neg (by omega)]
    by_cases k : 1 = n
    · subst k
      rfl
    · rw [if_neg k]
      have z : x - X (1 - 1) = 0 := by simp only [Nat.sub_self]; omega
      rw [z, Int.mul_zero, Int.zero_ediv, Int.add_zero]
  · have g : cnt n X x = 0 := by
      have : ¬ 0 < cnt n X x := fun q => by have := h0.2 q; omega
      omega
    rw [if_pos g]
theorem atV_high {n : Nat} {X Y : Nat → Int} {x : Int} (hv : valid n X Y) (h : X (n - 1) ≤ x) : atV n X Y x = pairV (Y (n - 1)) 0 := by
  have hn := hv.1
  have hr := rises hv
  have hc : cnt n X x = n := cnt_all (fun i hi => Int.le_trans (hr i (n - 1) (by omega) (by omega)) h)
  unfold atV
  rw [hc, if_neg (by omega), if_pos rfl]
theorem atV_mid {n m : Nat} {X Y : Nat → Int} {x : Int} (hv : valid n X Y) (hm : m + 1 < n) (h1 : X m ≤ x) (h2 : x < X (m + 1)) :
    cnt n X x = m + 1 ∧ atV n X Y x = pairV (Y m + (Y (m + 1) - Y m) * (x - X m) / (X (m + 1) - X m)) 0 := by
  have hr := rises hv
  have a := (cnt_iff (x := x) hr m (by omega)).1 h1
  have b : ¬ m + 1 < cnt n X x := fun q => by have := (cnt_iff (x := x) hr (m + 1) hm).2 q; omega
  have hc : cnt n X x = m + 1 := by omega
  refine ⟨hc, ?_⟩
  unfold atV
  rw [hc, if_neg (by omega), if_neg (by omega), Nat.add_sub_cancel]

set_option maxRecDepth 100000 in
set_option maxHeartbeats 2000000 in
theorem refAt_all (A : Option Addr) (n cap : Nat) (X Y : Nat → Int) (x : Int) (w : World) (hp : Pts w w.heap.size A n X Y) (hmax : n ≤ 9223372036854775807) :
    Calls Tryd.prog 24 #[.slice A n cap, .int .i64 x] w fun e w' => e = .returned (atAll n X Y x) ∧ Below w.heap.size w w' := by
  have hV := refPoints_any A n cap X Y w hp hmax
  rcases hv : valB n X Y with _ | _
  · have he : Hid (atAll n X Y x = pairV 0 1) := by show atAll n X Y x = _; simp [atAll, hv]
    rw [he.out]
    rw [hv] at hV
    have hV := Lib.hid hV
    clear hp hv he
    go_enter Tryd.func24, Tryd.ntmps24
    go_wp2_with (go_at_call 41; refine hV.out.mono ?_; rintro e w1 ⟨rfl, q, rfl⟩)
    go_ret2
    exact ⟨rfl, below_drewN (Below.refl _ _) _⟩
  · have he : atAll n X Y x = atV n X Y x := by simp [atAll, hv]
    rw [he]
    rw [hv] at hV
    have hV := Lib.hid hV
    have hv' := valB_of hv
    have hn1 := hv'.1
    have hn2 := hv'.2.1
    obtain ⟨ad, rfl, hl, hc⟩ := hp (by omega)
    have hcell : ∀ w1, Below w.heap.size w w1 → ∀ i, i < n → w1.cell? (ad.add (i * 2)) = some (.int .i64 (X i)) ∧ w1.cell? { block := (ad.add (i * 2)).block, off := (ad.add (i * 2)).off + 1 } = some (.int .i64 (Y i)) :=
      fun w1 hb i hi => ⟨(hb.cell (by rw [block_of_add]; exact hl)).trans (hc i hi).1, (hb.cell (by show (ad.add (i * 2)).block < _; rw [block_of_add]; exact hl)).trans (hc i hi).2⟩
    have hcell := Lib.hid hcell
    clear hp hc he hv
    have hl := Lib.hid hl
    have hn3 : ((n : Int) - 1).toNat = n - 1 := by omega
    by_cases c0 : x ≤ X 0
    · have hA : Hid (atV n X Y x = pairV (Y 0) 0) := atV_low hv' c0
      rw [hA.out]
      go_enter Tryd.func24, Tryd.ntmps24
      go_wp2_with (go_at_call 41; refine hV.out.mono ?_; rintro e w1 ⟨rfl, q, hw⟩; (have hb : Below w.heap.size w w1 := hw ▸ below_drewN (Below.refl _ _) _); (obtain ⟨a1, a2⟩ := hcell.out w1 hb (n - 1) (by omega)); (have a3 := fun o => (hcell.out (w1.alloc o) (hb.alloc hb.size o) 0 (by omega)).1); (have a4 := fun o => (hcell.out (w1.alloc o) (hb.alloc hb.size o) 0 (by omega)).2); simp only [Nat.zero_mul, add_0] at a3 a4; (have hb := Lib.hid hb); clear hw)
      go_ret2
      exact ⟨rfl, hb.out.alloc hb.out.size _⟩
    · by_cases c1 : X (n - 1) ≤ x
      · have hA : Hid (atV n X Y x = pairV (Y (n - 1)) 0) := atV_high hv' c1
        rw [hA.out]
        go_enter Tryd.func24, Tryd.ntmps24
        go_wp2_with (go_at_call 41; refine hV.out.mono ?_; rintro e w1 ⟨rfl, q, hw⟩; (have hb : Below w.heap.size w w1 := hw ▸ below_drewN (Below.refl _ _) _); (obtain ⟨a1, a2⟩ := hcell.out w1 hb (n - 1) (by omega)); (have a3 := fun o => (hcell.out (w1.alloc o) (hb.alloc hb.size o) 0 (by omega)).1); (have a4 := fun o => (hcell.out (w1.alloc o) (hb.alloc hb.size o) 0 (by omega)).2); simp only [Nat.zero_mul, add_0] at a3 a4; (have hb := Lib.hid hb); clear hw)
        go_ret2
        exact ⟨rfl, hb.out.alloc hb.out.size _⟩
      · have hlt1 : 1 < n := by
          rcases Nat.lt_or_ge 1 n with h | h
          · exact h
          · obtain rfl : n = 1 := by omega
            exact absurd (show X (1 - 1) ≤ x by simp only [Nat.sub_self]; omega) c1
        have c0' : X 0 < x := by omega
        have c1' : x < X (n - 1) := by omega
        clear c0 c1
        go_enter Tryd.func24, Tryd.ntmps24
        go_wp2_with (go_at_call 41; refine hV.out.mono ?_; rintro e w1 ⟨rfl, q, hw⟩; (have hb : Below w.heap.size w w1 := hw ▸ below_drewN (Below.refl _ _) _); (obtain ⟨a1, a2⟩ := hcell.out w1 hb (n - 1) (by omega)); (have a3 := fun o => (hcell.out (w1.alloc o) (hb.alloc hb.size o) 0 (by omega)).1); (have a4 := fun o => (hcell.out (w1.alloc o) (hb.alloc hb.size o) 0 (by omega)).2); simp only [Nat.zero_mul, add_0] at a3 a4; (have hb := Lib.hid hb); clear hw)
        go_loop [7] (fun i => ∃ k : Nat, i = .int .i64 k ∧ k + 1 < n ∧ X k ≤ x) (fun i => n - (intOf i).toNat)
        case atStart => exact ⟨0, rfl, by omega, by omega⟩
        case round =>
          obtain ⟨k, rfl, hk, hx⟩ := hrel
          have b1 := fun o => (hcell.out (w1.alloc o) (hb.out.alloc hb.out.size o) (k + 1) (by omega)).1
          have hk1 : ((k : Int) + 1) < (n : Int) := by omega
          have hk2 : ((k : Int) + 1).toNat = k + 1 := by omega
          by_cases hx1 : X (k + 1) ≤ x
          · have hk3 : k + 1 + 1 < n := by
              rcases Nat.lt_or_ge (k + 1 + 1) n with h | h
              · exact h
              · have e : k + 1 = n - 1 := by omega
                rw [e] at hx1
                omega
            go_wp2
            exact ⟨⟨k + 1, by go_num, hk3, hx1⟩, by simp [intOf]; omega⟩
          · have hx1' : x < X (k + 1) := by omega
            obtain ⟨hcn, hmid⟩ := atV_mid hv' hk hx hx1'
            obtain ⟨q1, q2, q3, q4, q5, q6, q7, q8⟩ := mid_facts hv' hcn hk
            have hpb := mul_bd (a := Y (k + 1) - Y k) (b := x - X k) (by omega) (by omega) (by omega) (by omega)
            have fb := floor_bd ((Y (k + 1) - Y k) * (x - X k)) (X (k + 1) - X k) (by omega) (by omega) (by omega)
            have p1 := hpb.1
            have p2 := hpb.2
            have p3 := fb.2.2.1
            have p4 := fb.2.2.2
            have E1 : IntKind.i64.wrap (Y (k + 1) - Y k) = Y (k + 1) - Y k := i64_in' (by omega) (by omega)
            have E2 : IntKind.i64.wrap (x - X k) = x - X k := i64_in' (by omega) (by omega)
            have E3 : IntKind.i64.wrap (X (k + 1) - X k) = X (k + 1) - X k := i64_in' (by omega) (by omega)
            have E4 : IntKind.i64.wrap ((Y (k + 1) - Y k) * (x - X k)) = (Y (k + 1) - Y k) * (x - X k) := i64_in' (by omega) (by omega)
            have E5 : IntKind.i64.wrap (Y k + (Y (k + 1) - Y k) * (x - X k) / (X (k + 1) - X k)) = Y k + (Y (k + 1) - Y k) * (x - X k) / (X (k + 1) - X k) := i64_in' (by omega) (by omega)
            have hpos : 0 < X (k + 1) - X k := by omega
            have E6 : IntKind.i64.wrap ((k : Int) + 1) = (k : Int) + 1 := i64_in' (by omega) (by omega)
            have hk4 : (k : Int) < (n : Int) := by omega
            have hmid := Lib.hid hmid
            have d1 := fun o => (hcell.out (w1.alloc o) (hb.out.alloc hb.out.size o) k (by omega)).1
            have d2 := fun o => (hcell.out (w1.alloc o) (hb.out.alloc hb.out.size o) k (by omega)).2
            have d3 := fun o => (hcell.out (w1.alloc o) (hb.out.alloc hb.out.size o) (k + 1) (by omega)).2
            have hB2 := fun o o' => (hb.out.alloc hb.out.size o).alloc (Nat.le_trans hb.out.size (by simp)) o'
            have hB3 := fun o o' o'' => (hB2 o o').alloc (Nat.le_trans hb.out.size (by simp; omega)) o''
            have f1 := fun o o' => (hcell.out _ (hB2 o o') k (by omega)).1
            have f2 := fun o o' => (hcell.out _ (hB2 o o') k (by omega)).2
            have f3 := fun o o' => (hcell.out _ (hB2 o o') (k + 1) (by omega)).1
            have f4 := fun o o' => (hcell.out _ (hB2 o o') (k + 1) (by omega)).2
            have g1 := fun o o' o'' => (hcell.out _ (hB3 o o' o'') k (by omega)).1
            have g2 := fun o o' o'' => (hcell.out _ (hB3 o o' o'') k (by omega)).2
            have g3 := fun o o' o'' => (hcell.out _ (hB3 o o' o'') (k + 1) (by omega)).1
            have g4 := fun o o' o'' => (hcell.out _ (hB3 o o' o'') (k + 1) (by omega)).2
            have hB3 := Lib.hid hB3
            clear hpb fb hcn hB2
            go_wp2
            go_region
            all_goals
              go_wp2
              go_quiet ((go_at_call 37; first | exact quiet_left (Floor_any _ _ _ hpos (by omega) (by omega)) | exact quiet_add_left (Floor_any _ _ _ hpos (by omega) (by omega))))
              go_wp2
              go_ret2
              exact ⟨congrArg Ending.returned hmid.out.symm, below_drewN (Below.drew (hB3.out _ _ _)) _⟩
end Go.Proofs.YtleddfceigmlmaaDoor
