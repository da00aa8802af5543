/- fixed.At and the reference's At: each returns 'atV'. -/
import Derived.Test.YtleddfceigmlmaaDoorAtA
import Derived.Test.YtleddfceigmlmaaDoorFloor
import Derived.Shelf.SlSorted.Search
import Derived.BigRegion
namespace Go.Proofs.YtleddfceigmlmaaDoor
open Go.RowKit Go.Shelf Go.Sort

def searchRen : Ren := ⟨fun | 16 => 39 | n => n, fun | 3 => 3 | 35 => 42 | 4 => 4 | 38 => 66 | n => n, fun | n => n⟩
theorem searchLays : SlLaysO.n16 Tryd.prog searchRen := {
  mixed := by kernel_rfl
  f16 := Tryd.func39.trans (congrArg some (by kernel_rfl))
  t3 := Tryd.underlying3
  a3 := Tryd.isAgg3
  z3 := Tryd.sizeOf3
  v3 := Tryd.zeroValue3
  t4 := Tryd.underlying4
  a4 := Tryd.isAgg4
  z4 := Tryd.sizeOf4
  v4 := Tryd.zeroValue4
  t35 := Tryd.underlying42
  a35 := Tryd.isAgg42
  z35 := Tryd.sizeOf42
  v35 := Tryd.zeroValue42
  t38 := Tryd.underlying66
  a38 := Tryd.isAgg66
  z38 := Tryd.sizeOf66
  v38 := Tryd.zeroValue66 }

/-- How many of the first n points lie at or below x. -/
def cnt (n : Nat) (X : Nat → Int) (x : Int) : Nat := (List.range n).countP (fun i => !decide (x < X i))

theorem cnt_succ (n : Nat) (X : Nat → Int) (x : Int) : cnt (n + 1) X x = cnt n X x + (if X n ≤ x then 1 else 0) := by
  unfold cnt
  rw [List.range_succ, List.countP_append]
  by_cases h : X n ≤ x
  · have : (!decide (x < X n)) = true := by simp; omega
    simp [h]
  · have : (!decide (x < X n)) = false := by simp; omega
    simp [h]
theorem cnt_le (n : Nat) (X : Nat → Int) (x : Int) : cnt n X x ≤ n := by
  induction n with
  | zero => simp [cnt]
  | succ n ih => rw [cnt_succ]; split <;> omega
theorem cnt_all {n : Nat} {X : Nat → Int} {x : Int} (h : ∀ i, i < n → X i ≤ x) : cnt n X x = n := by
  induction n with
  | zero => simp [cnt]
  | succ n ih => rw [cnt_succ, ih (fun i hi => h i (by omega)), if_pos (h n (by omega))]
/-- Where the X rise: the points at or below x are the first ones. -/
theorem cnt_iff {n : Nat} {X : Nat → Int} {x : Int} (hm : ∀ i j, i ≤ j → j < n → X i ≤ X j) : ∀ i, i < n → (X i ≤ x ↔ i < cnt n X x) := by
  induction n with
  | zero => intro i hi; omega
  | succ n ih =>
    have ih := ih (fun i j h1 h2 => hm i j h1 (by omega))
    intro i hi
    rw [cnt_succ]
    have hc := cnt_le n X x
    by_cases h : X n ≤ x
    · have ha : ∀ j, j < n → X j ≤ x := fun j hj => Int.le_trans (hm j n (by omega) (by omega)) h
      rw [if_pos h, cnt_all ha]
      constructor
      · intro _; omega
      · intro _
        rcases Nat.lt_or_ge i n with g | g
        · exact ha i g
        · obtain rfl : i = n := by omega
          exact h
    · rw [if_neg h]
      rcases Nat.lt_or_ge i n with g | g
      · rw [ih i g]; omega
      · obtain rfl : i = n := by omega
        constructor
        · intro g; exact absurd g h
        · intro g; omega
theorem rises {n : Nat} {X Y : Nat → Int} (hv : valid n X Y) : ∀ i j, i ≤ j → j < n → X i ≤ X j := by
  intro i j hij hj
  induction j with
  | zero =>
    obtain rfl : i = 0 := by omega
    exact Int.le_refl _
  | succ j ih =>
    rcases Nat.lt_or_ge i (j + 1) with h | h
    · have h1 := ih (by omega) (by omega)
      have h2 := (hv.2.2 (j + 1) hj).2.2 (by omega)
      rw [Nat.add_sub_cancel] at h2
      omega
    · obtain rfl : i = j + 1 := by omega
      exact Int.le_refl _
theorem coB_of {x : Int} (h : coB x = true) : -1000000000 ≤ x ∧ x ≤ 1000000000 := of_decide_eq_true h
/-- Between two points. -/
theorem mid_facts {n m : Nat} {X Y : Nat → Int} {x : Int} (hv : valid n X Y) (hc : cnt n X x = m + 1) (hm : m + 1 < n) :
    X m ≤ x ∧ x < X (m + 1) ∧ -1000000000 ≤ X m ∧ X (m + 1) ≤ 1000000000 ∧ -1000000000 ≤ Y m ∧ Y m ≤ 1000000000 ∧ -1000000000 ≤ Y (m + 1) ∧ Y (m + 1) ≤ 1000000000 := by
  have h1 := (cnt_iff (x := x) (rises hv) m (by omega)).2 (by omega)
  have h2 : ¬ X (m + 1) ≤ x := fun h => by have := (cnt_iff (x := x) (rises hv) (m + 1) hm).1 h; omega
  have a := coB_of (hv.2.2 m (by omega)).1
  have b := coB_of (hv.2.2 (m + 1) hm).1
  have c := coB_of (hv.2.2 m (by omega)).2.1
  have d := coB_of (hv.2.2 (m + 1) hm).2.1
  exact ⟨h1, by omega, a.1, b.2, c.1, c.2, d.1, d.2⟩
theorem mul_bd {a b : Int} (h1 : -2000000000 ≤ a) (h2 : a ≤ 2000000000) (h3 : 0 ≤ b) (h4 : b ≤ 2000000000) : -4000000000000000000 ≤ a * b ∧ a * b ≤ 4000000000000000000 := by
  have e1 := Int.mul_le_mul_of_nonneg_right h2 h3
  have e2 := Int.mul_le_mul_of_nonneg_right h1 h3
  omega

def atV (n : Nat) (X Y : Nat → Int) (x : Int) : Value :=
  if cnt n X x = 0 then pairV (Y 0) 0 else if cnt n X x = n then pairV (Y (n - 1)) 0
  else pairV (Y (cnt n X x - 1) + (Y (cnt n X x) - Y (cnt n X x - 1)) * (x - X (cnt n X x - 1)) / (X (cnt n X x) - X (cnt n X x - 1))) 0

theorem closure_any (b1 b2 : Nat) (ad : Addr) (n cap i : Nat) (X : Nat → Int) (x : Int) (W : World) (h1 : W.cell? ⟨b1, 0, none⟩ = some (.slice (some ad) n cap)) (h2 : W.cell? ⟨b2, 0, none⟩ = some (.int .i64 x))
    (hx : W.cell? (ad.add (i * 2)) = some (.int .i64 (X i))) (hi : i < n) :
    Calls Tryd.prog 40 #[.int .i64 i, .pointer (some ⟨b1, 0, none⟩), .pointer (some ⟨b2, 0, none⟩)] W fun e w' => e = .returned (.bool (decide (x < X i))) ∧ ∃ q, w' = W.drewN q := by
  have hi' : (i : Int) < (n : Int) := by omega
  go_enter Tryd.func40, Tryd.ntmps40
  go_wp2
  go_quiet (fail)
  go_wp2
  go_ret
  exact ⟨rfl, _, rfl⟩

theorem grow_nil (W : World) : grow W #[] = W := by cases W; simp [grow]
theorem Pts.more {w : World} {B B' : Nat} {A : Option Addr} {n : Nat} {X Y : Nat → Int} (h : Pts w B A n X Y) (hB : B ≤ B') : Pts w B' A n X Y := fun hn => by
  obtain ⟨ad, e, hl, hc⟩ := h hn
  exact ⟨ad, e, by omega, hc⟩
set_option maxRecDepth 100000 in
set_option maxHeartbeats 2000000 in
theorem at_any (ad : Addr) (n cap : Nat) (X Y : Nat → Int) (x : Int) (w : World) (hp : Pts w w.heap.size (some ad) n X Y) (hv : valid n X Y) :
    Calls Tryd.prog 23 #[.slice (some ad) n cap, .int .i64 x] w fun e w' => e = .returned (atV n X Y x) ∧ Below w.heap.size w w' := by
  unfold atV
  have hV := fun W h1 h2 => validPoints_any (some ad) n cap X Y W h1 h2
  rw [valB_true hv] at hV
  have hn2 := hv.2.1
  have hn1 := hv.1
  have hp1 : Pts ((w.alloc (.cells #[.slice (some ad) n cap] 29)).alloc (.cells #[.int .i64 x] 3)) ((w.alloc (.cells #[.slice (some ad) n cap] 29)).alloc (.cells #[.int .i64 x] 3)).heap.size (some ad) n X Y := by
    have hb : Below w.heap.size w ((w.alloc (.cells #[.slice (some ad) n cap] 29)).alloc (.cells #[.int .i64 x] 3)) := ((Below.refl _ _).alloc (Nat.le_refl _) _).alloc (by simp) _
    exact (hp.below hb).more hb.size
  have hV := Lib.hid (hV _ hp1 (by omega))
  have hW1 : ∀ w1, Below ((w.alloc (.cells #[.slice (some ad) n cap] 29)).alloc (.cells #[.int .i64 x] 3)).heap.size ((w.alloc (.cells #[.slice (some ad) n cap] 29)).alloc (.cells #[.int .i64 x] 3)) w1 →
      w.heap.size + 2 ≤ w1.heap.size ∧ w1.cell? ⟨w.heap.size, 0, none⟩ = some (.slice (some ad) n cap) ∧ w1.cell? ⟨w.heap.size + 1, 0, none⟩ = some (.int .i64 x) ∧ Below w.heap.size w w1 ∧ Pts w1 w.heap.size (some ad) n X Y ∧
      Calls Tryd.prog 39 #[.int .i64 n, .func (.func 40) #[] #[.pointer (some ⟨w.heap.size, 0, none⟩), .pointer (some ⟨w.heap.size + 1, 0, none⟩)]] w1 fun e w' => e = .returned (.int .i64 (cnt n X x)) ∧ ∃ q os, w' = grow (w1.drewN q) os := by
    intro w1 hb1
    have hs := hb1.size
    simp at hs
    have c1 : w1.cell? ⟨w.heap.size, 0, none⟩ = some (.slice (some ad) n cap) := (hb1.cell (by simp; omega)).trans (cell_alloc_sl _ (cell_new_sl _ _ _))
    have c2 : w1.cell? ⟨w.heap.size + 1, 0, none⟩ = some (.int .i64 x) := (hb1.cell (by simp)).trans (by simp)
    have hb0 : Below w.heap.size w w1 := (((Below.refl _ _).alloc (Nat.le_refl _) _).alloc (by simp) _).trans (hb1.mono (by simp; omega))
    have hp' := hp.below hb0
    refine ⟨by omega, c1, c2, hb0, hp', ?_⟩
    refine Any.sort_Search searchLays 40 _ n (fun i => decide (x < X i)) w1 ?_ (by omega) ?_ ?_
    · exact enters_of Tryd.func40 (by kernel_rfl) rfl
    · intro m os i hi
      obtain ⟨ad', e, hl, hc⟩ := hp' (by omega)
      obtain rfl : ad' = ad := by injection e with e; exact e.symm
      have hg : Below w1.heap.size w1 (grow (w1.drewN m) os) := below_grown_sl _ _ _ _ (Nat.le_refl _)
      refine (closure_any w.heap.size (w.heap.size + 1) ad' n cap i X x _ ((hg.cell (by show w.heap.size < _; omega)).trans c1) ((hg.cell (by show w.heap.size + 1 < _; omega)).trans c2) ((hg.cell (by rw [block_of_add]; omega)).trans (hc i hi).1) hi).mono ?_
      rintro e w' ⟨rfl, q, rfl⟩
      exact ⟨rfl, q, #[], (grow_nil _).symm⟩
    · intro a b hab hbn ha
      simp only [decide_eq_true_eq] at ha ⊢
      have := rises hv a b hab hbn
      omega
  have hW1 := Lib.hid hW1
  clear hp hp1
  obtain ⟨k, hk⟩ : ∃ k, cnt n X x = k := ⟨_, rfl⟩
  have hmid : ∀ m, k = m + 1 → m + 1 < n → _ := fun m h1 h2 => mid_facts hv (hk.trans h1) h2
  have hkn : k ≤ n := by rw [← hk]; exact Nat.le_trans List.countP_le_length (by simp)
  rw [hk] at hW1 ⊢
  clear hk
  by_cases k0 : k = 0
  · subst k0
    rw [if_pos rfl]
    go_enter Tryd.func23, Tryd.ntmps23
    go_wp2_with (first
      | (go_at_call 38
         refine hV.out.mono ?_
         rintro e w1 ⟨rfl, hb1⟩
         obtain ⟨z1, z2, z3, z4, z5, z6⟩ := hW1.out w1 hb1
         have z4 := Lib.hid z4
         have z5 := Lib.hid z5
         have z6 := Lib.hid z6
         clear hb1)
      | (go_at_call 39
         refine z6.out.mono ?_
         rintro e w2 ⟨rfl, q, os, hw2⟩
         have hg : Below w1.heap.size w1 w2 := by rw [hw2]; exact below_grown_sl _ _ _ _ (Nat.le_refl _)
         clear hw2
         have g1 : w2.cell? ⟨w.heap.size, 0, none⟩ = some (.slice (some ad) n cap) := (hg.cell (by show w.heap.size < _; omega)).trans z2
         obtain ⟨ad', e1, hl, hc⟩ := (z5.out.below (hg.mono (by omega))) (by omega)
         obtain rfl : ad' = ad := by injection e1 with e1; exact e1.symm
         obtain ⟨_, hy⟩ := hc 0 (by omega)
         simp only [Nat.zero_mul, add_0] at hy
         have hbb := Lib.hid (z4.out.trans (hg.mono (show w.heap.size ≤ w1.heap.size by omega)))
         clear hc e1 hg))
    go_ret2
    exact ⟨rfl, hbb.out⟩
  · rw [if_neg k0]
    by_cases kn : k = n
    · subst kn
      rw [if_pos rfl]
      have hn1' : ((k : Int) - 1).toNat = k - 1 := by omega
      have hn2' : ((k : Int) == 0) = false := by simp; omega
      go_enter Tryd.func23, Tryd.ntmps23
      go_wp2_with (first
        | (go_at_call 38
           refine hV.out.mono ?_
           rintro e w1 ⟨rfl, hb1⟩
           obtain ⟨z1, z2, z3, z4, z5, z6⟩ := hW1.out w1 hb1
           have z4 := Lib.hid z4
           have z5 := Lib.hid z5
           have z6 := Lib.hid z6
           clear hb1)
        | (go_at_call 39
           refine z6.out.mono ?_
           rintro e w2 ⟨rfl, q, os, hw2⟩
           have hg : Below w1.heap.size w1 w2 := by rw [hw2]; exact below_grown_sl _ _ _ _ (Nat.le_refl _)
           clear hw2
           have g1 : w2.cell? ⟨w.heap.size, 0, none⟩ = some (.slice (some ad) k cap) := (hg.cell (by show w.heap.size < _; omega)).trans z2
           obtain ⟨ad', e1, hl, hc⟩ := (z5.out.below (hg.mono (by omega))) (by omega)
           obtain rfl : ad' = ad := by injection e1 with e1; exact e1.symm
           obtain ⟨_, hy⟩ := hc (k - 1) (by omega)
           have hbb := Lib.hid (z4.out.trans (hg.mono (show w.heap.size ≤ w1.heap.size by omega)))
           clear hc e1 hg))
      go_ret2
      exact ⟨rfl, hbb.out⟩
    · rw [if_neg kn]
      obtain ⟨m, rfl⟩ : ∃ m, k = m + 1 := ⟨k - 1, by omega⟩
      have hlt : m + 1 < n := by have := hkn; omega
      obtain ⟨q1, q2, q3, q4, q5, q6, q7, q8⟩ := hmid m rfl hlt
      have hpb := mul_bd (a := Y (m + 1) - Y m) (b := x - X m) (by omega) (by omega) (by omega) (by omega)
      have fb := floor_bd ((Y (m + 1) - Y m) * (x - X m)) (X (m + 1) - X m) (by omega) (by omega) (by omega)
      have p1 := hpb.1
      have p2 := hpb.2
      have p3 := fb.2.2.1
      have p4 := fb.2.2.2
      have E1 : IntKind.i64.wrap (Y (m + 1) - Y m) = Y (m + 1) - Y m := i64_in' (by omega) (by omega)
      have E2 : IntKind.i64.wrap (x - X m) = x - X m := i64_in' (by omega) (by omega)
      have E3 : IntKind.i64.wrap (X (m + 1) - X m) = X (m + 1) - X m := i64_in' (by omega) (by omega)
      have E4 : IntKind.i64.wrap ((Y (m + 1) - Y m) * (x - X m)) = (Y (m + 1) - Y m) * (x - X m) := i64_in' (by omega) (by omega)
      have E5 : IntKind.i64.wrap (Y m + (Y (m + 1) - Y m) * (x - X m) / (X (m + 1) - X m)) = Y m + (Y (m + 1) - Y m) * (x - X m) / (X (m + 1) - X m) := i64_in' (by omega) (by omega)
      have hpos : 0 < X (m + 1) - X m := by omega
      clear hpb fb hmid
      rw [Nat.add_sub_cancel]
      have kn' : ((m : Int) + 1 == (n : Int)) = false := by simp; omega
      have k0' : ((m : Int) + 1 == 0) = false := by simp; omega
      have hm1 : ((m : Int) + 1) < (n : Int) := by omega
      have hm2 : ((m : Int) + 1).toNat = m + 1 := by omega
      have hm3 : IntKind.i64.wrap (m : Int) = m := i64_in' (by omega) (by omega)
      have hm4 : (m : Int) < (n : Int) := by omega
      clear kn k0
      go_enter Tryd.func23, Tryd.ntmps23
      go_wp2_with (first
        | (go_at_call 38
           refine hV.out.mono ?_
           rintro e w1 ⟨rfl, hb1⟩
           obtain ⟨z1, z2, z3, z4, z5, z6⟩ := hW1.out w1 hb1
           have z4 := Lib.hid z4
           have z5 := Lib.hid z5
           have z6 := Lib.hid z6
           clear hb1)
        | (go_at_call 39
           refine z6.out.mono ?_
           rintro e w2 ⟨rfl, q, os, hw2⟩
           have hg : Below w1.heap.size w1 w2 := by rw [hw2]; exact below_grown_sl _ _ _ _ (Nat.le_refl _)
           clear hw2
           have g1 : w2.cell? ⟨w.heap.size, 0, none⟩ = some (.slice (some ad) n cap) := (hg.cell (by show w.heap.size < _; omega)).trans z2
           have g2 : w2.cell? ⟨w.heap.size + 1, 0, none⟩ = some (.int .i64 x) := (hg.cell (by show w.heap.size + 1 < _; omega)).trans z3
           have gs : w.heap.size + 1 < w2.heap.size := by have := hg.size; omega
           obtain ⟨ad', e1, hl, hc⟩ := (z5.out.below (hg.mono (by omega))) (by omega)
           obtain rfl : ad' = ad := by injection e1 with e1; exact e1.symm
           obtain ⟨hx0, hy0⟩ := hc m (by omega)
           obtain ⟨hx1, hy1⟩ := hc (m + 1) (by omega)
           have hbb := Lib.hid (z4.out.trans (hg.mono (show w.heap.size ≤ w1.heap.size by omega)))
           have hA1 : ∀ (p : Addr) (v : Value), p.block < w2.heap.size → w2.cell? p = some v → ∀ o, (w2.alloc o).cell? p = some v := fun p v h1 h2 o => (((Below.refl _ _).alloc (Nat.le_refl _) o).cell h1).trans h2
           have hA2 : ∀ (p : Addr) (v : Value), p.block < w2.heap.size → w2.cell? p = some v → ∀ o o', ((w2.alloc o).alloc o').cell? p = some v := fun p v h1 h2 o o' => ((((Below.refl _ _).alloc (Nat.le_refl _) o).alloc (by simp) o').cell h1).trans h2
           have b0 : (ad'.add (m * 2)).block < w2.heap.size := by rw [block_of_add]; omega
           have b1 : (ad'.add ((m + 1) * 2)).block < w2.heap.size := by rw [block_of_add]; omega
           have g1a := hA1 ⟨w.heap.size, 0, none⟩ _ (show w.heap.size < w2.heap.size by omega) g1
           have g1b := hA2 ⟨w.heap.size, 0, none⟩ _ (show w.heap.size < w2.heap.size by omega) g1
           have g2b := hA2 ⟨w.heap.size + 1, 0, none⟩ _ (show w.heap.size + 1 < w2.heap.size by omega) g2
           have x0a := hA1 _ _ (by first | exact b0 | (show _ < _; exact b0)) hx0
           have x0b := hA2 _ _ (by first | exact b0 | (show _ < _; exact b0)) hx0
           have y0a := hA1 _ _ (by first | exact b0 | (show _ < _; exact b0)) hy0
           have y0b := hA2 _ _ (by first | exact b0 | (show _ < _; exact b0)) hy0
           have x1a := hA1 _ _ (by first | exact b1 | (show _ < _; exact b1)) hx1
           have x1b := hA2 _ _ (by first | exact b1 | (show _ < _; exact b1)) hx1
           have y1a := hA1 _ _ (by first | exact b1 | (show _ < _; exact b1)) hy1
           have y1b := hA2 _ _ (by first | exact b1 | (show _ < _; exact b1)) hy1
           clear hA1 hA2 b0 b1
           have hl := Lib.hid hl
           clear hc e1 hg z1 z2 z3 z4 z5 z6))
      go_region
      all_goals
        go_wp2
        go_quiet ((go_at_call 36; first | exact quiet_left (floorDiv_any _ _ _ hpos (by omega) (by omega)) | exact quiet_add_left (floorDiv_any _ _ _ hpos (by omega) (by omega))))
        go_wp2
        go_ret2
        exact ⟨rfl, below_drewN (Below.drew ((hbb.out.alloc hbb.out.size _).alloc (Nat.le_trans hbb.out.size (by simp)) _)) _⟩
noncomputable def atAll (n : Nat) (X Y : Nat → Int) (x : Int) : Value := if valB n X Y then atV n X Y x else pairV 0 1
theorem atAll_pair (n : Nat) (X Y : Nat → Int) (x : Int) : ∃ v e, atAll n X Y x = pairV v e := by
  unfold atAll atV
  repeat (first | exact ⟨_, _, rfl⟩ | split)
theorem valB_of {n : Nat} {X Y : Nat → Int} (h : valB n X Y = true) : valid n X Y := by
  unfold valB at h
  exact @of_decide_eq_true _ (Classical.propDecidable _) h

set_option maxRecDepth 100000 in
set_option maxHeartbeats 2000000 in
theorem at_all (A : Option Addr) (n cap : Nat) (X Y : Nat → Int) (x : Int) (w : World) (hp : Pts w w.heap.size A n X Y) (hmax : n ≤ 9223372036854775807) :
    Calls Tryd.prog 23 #[.slice A n cap, .int .i64 x] w fun e w' => e = .returned (atAll n X Y x) ∧ Below w.heap.size w w' := by
  rcases hv : valB n X Y with _ | _
  · have he : Hid (atAll n X Y x = pairV 0 1) := by show atAll n X Y x = _; simp [atAll, hv]
    rw [he.out]
    have hp1 : Pts ((w.alloc (.cells #[.slice A n cap] 29)).alloc (.cells #[.int .i64 x] 3)) ((w.alloc (.cells #[.slice A n cap] 29)).alloc (.cells #[.int .i64 x] 3)).heap.size A n X Y := by
      have hb : Below w.heap.size w ((w.alloc (.cells #[.slice A n cap] 29)).alloc (.cells #[.int .i64 x] 3)) := ((Below.refl _ _).alloc (Nat.le_refl _) _).alloc (by simp) _
      exact (hp.below hb).more hb.size
    have hV := validPoints_any A n cap X Y _ hp1 hmax
    rw [hv] at hV
    have hV := Lib.hid hV
    have hB : ∀ w1, Below ((w.alloc (.cells #[.slice A n cap] 29)).alloc (.cells #[.int .i64 x] 3)).heap.size ((w.alloc (.cells #[.slice A n cap] 29)).alloc (.cells #[.int .i64 x] 3)) w1 → Below w.heap.size w w1 :=
      fun w1 hb1 => (((Below.refl _ _).alloc (Nat.le_refl _) _).alloc (by simp) _).trans (hb1.mono (by simp; omega))
    have hB := Lib.hid hB
    clear hp hp1 hv he
    go_enter Tryd.func23, Tryd.ntmps23
    go_wp2_with (go_at_call 38; refine hV.out.mono ?_; rintro e w1 ⟨rfl, hb1⟩; have z := Lib.hid (hB.out w1 hb1); clear hb1)
    go_ret2
    exact ⟨rfl, z.out⟩
  · have he : atAll n X Y x = atV n X Y x := by simp [atAll, hv]
    rw [he]
    have hv' := valB_of hv
    obtain ⟨ad, rfl, _, _⟩ := hp (by have := hv'.1; omega)
    exact at_any ad n cap X Y x w hp hv'

end Go.Proofs.YtleddfceigmlmaaDoor
