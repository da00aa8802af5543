/- Comparing: cmp.Compare, cmp.Or, the package's compareTrails; slices.Index and Contains. -/
import Derived.Test.YtlaklfiodmnocaaMapV
import Derived.Test.YtlaklfiodmnocaaApp
import Derived.Test.YtlaklfiodmnocaaRefRight
import Derived.Deep.RegionHeld3
namespace Go.Proofs.Ytlaklfiodmnocaa
open Go.RowKit

def cmpI (x y : Int) : Int := if x < y then -1 else if y < x then 1 else 0
theorem compare_any (x y : Int) (w : World) : Calls Try.prog 42 #[.int .i64 x, .int .i64 y] w fun e w' => e = .returned (.int .i64 (cmpI x y)) ∧ w = w' := by
  have hx : ∀ z : Int, (z != z) = false := fun z => by simp
  unfold cmpI
  by_cases h1 : x < y
  · rw [if_pos h1]
    go_enter Try.func42, Try.ntmps42
    go_wp2
    go_ret
    exact ⟨rfl, rfl⟩
  · rw [if_neg h1]
    by_cases h2 : y < x
    · rw [if_pos h2]
      go_enter Try.func42, Try.ntmps42
      go_wp2
      go_ret
      exact ⟨rfl, rfl⟩
    · rw [if_neg h2]
      go_enter Try.func42, Try.ntmps42
      go_wp2
      go_ret
      exact ⟨rfl, rfl⟩
/-- The first of three that is not zero. -/
def or3 (a b c : Int) : Int := if a ≠ 0 then a else if b ≠ 0 then b else c
set_option maxHeartbeats 2000000 in
theorem or_any (g : Nat) (a b c : Int) (w : World) (h0 : w.cell? ⟨g, 0, none⟩ = some (.int .i64 a)) (h1 : w.cell? ⟨g, 1, none⟩ = some (.int .i64 b)) (h2 : w.cell? ⟨g, 2, none⟩ = some (.int .i64 c)) :
    Calls Try.prog 72 #[.slice (some ⟨g, 0, none⟩) 3 3] w fun e w' => e = .returned (.int .i64 (or3 a b c)) ∧ w = w' := by
  have hR : Hid (or3 a b c = if a ≠ 0 then a else if b ≠ 0 then b else c) := Lib.hid rfl
  generalize or3 a b c = r at *
  go_enter Try.func72, Try.ntmps72
  go_wp2
  go_loop [8] (fun i => ∃ k : Nat, k ≤ 3 ∧ i = .int .i64 k ∧ Hid (0 < k → a = 0) ∧ Hid (1 < k → b = 0) ∧ Hid (2 < k → c = 0)) (fun i => 3 - (intOf i).toNat)
  case atStart => exact ⟨0, by omega, rfl, Lib.hid (by omega), Lib.hid (by omega), Lib.hid (by omega)⟩
  case round =>
    obtain ⟨k, hk, rfl, ka, kb, kc⟩ := hrel
    have hc : k = 0 ∨ k = 1 ∨ k = 2 ∨ k = 3 := by omega
    rcases hc with rfl | rfl | rfl | rfl
    · by_cases hz : a = 0
      · have hb : (a != 0) = false := by rw [hz]; rfl
        have kA : Hid (0 < 1 → a = 0) := Lib.hid (fun _ => hz)
        clear hz
        go_wp2
        exact ⟨⟨1, by omega, rfl, kA, Lib.hid (by omega), Lib.hid (by omega)⟩, by simp [intOf]⟩
      · have hb : (a != 0) = true := bne_iff_ne.2 hz
        have hr : r = a := by rw [hR.out, if_pos hz]
        subst hr
        clear hz
        go_wp2
        go_ret
        exact ⟨rfl, rfl⟩
    · have ha := ka.out (by omega)
      by_cases hz : b = 0
      · have hb : (b != 0) = false := by rw [hz]; rfl
        have kA : Hid (0 < 2 → a = 0) := Lib.hid (fun _ => ha)
        have kB : Hid (1 < 2 → b = 0) := Lib.hid (fun _ => hz)
        clear hz ha
        go_wp2
        exact ⟨⟨2, by omega, rfl, kA, kB, Lib.hid (by omega)⟩, by simp [intOf]⟩
      · have hb : (b != 0) = true := bne_iff_ne.2 hz
        have hr : r = b := by rw [hR.out, if_neg (by simp [ha]), if_pos hz]
        subst hr
        clear hz ha
        go_wp2
        go_ret
        exact ⟨rfl, rfl⟩
    · have ha := ka.out (by omega)
      have hb0 := kb.out (by omega)
      have hr : r = c := by rw [hR.out, if_neg (by simp [ha]), if_neg (by simp [hb0])]
      by_cases hz : c = 0
      · have hb : (c != 0) = false := by rw [hz]; rfl
        have kA : Hid (0 < 3 → a = 0) := Lib.hid (fun _ => ha)
        have kB : Hid (1 < 3 → b = 0) := Lib.hid (fun _ => hb0)
        have kC : Hid (2 < 3 → c = 0) := Lib.hid (fun _ => hz)
        clear hz ha hb0 hr
        go_wp2
        exact ⟨⟨3, by omega, rfl, kA, kB, kC⟩, by simp [intOf]⟩
      · have hb : (c != 0) = true := bne_iff_ne.2 hz
        subst hr
        clear hz ha hb0
        go_wp2
        go_ret
        exact ⟨rfl, rfl⟩
    · have ha := ka.out (by omega)
      have hb0 := kb.out (by omega)
      have hc0 := kc.out (by omega)
      have hr : r = 0 := by rw [hR.out, if_neg (by simp [ha]), if_neg (by simp [hb0]), hc0]
      subst hr
      clear ha hb0 hc0
      go_wp2
      go_ret
      exact ⟨rfl, rfl⟩

structure Tr where
  node : Int
  cost : Int
  edges : Int
  first : Int
deriving DecidableEq
def trV (t : Tr) : Value := .agg #[.int .i64 t.node, .int .i64 t.cost, .int .i64 t.edges, .int .i64 t.first]
def cmpT (a b : Tr) : Int := or3 (cmpI a.cost b.cost) (cmpI a.edges b.edges) (cmpI a.first b.first)
set_option maxRecDepth 100000 in
set_option maxHeartbeats 4000000 in
theorem compareTrails_any (a b : Tr) (w : World) : Calls Try.prog 61 #[trV a, trV b] w fun e w' => e = .returned (.int .i64 (cmpT a b)) ∧ Below w.heap.size w w' := by
  obtain ⟨a0, a1, a2, a3⟩ := a
  obtain ⟨b0, b1, b2, b3⟩ := b
  unfold trV cmpT
  simp only
  have kc := Lib.hid compare_any
  generalize hr1 : cmpI a1 b1 = r1
  generalize hr2 : cmpI a2 b2 = r2
  generalize hr3 : cmpI a3 b3 = r3
  have k1 := Lib.hid (fun W => hr1 ▸ kc.out a1 b1 W)
  have k2 := Lib.hid (fun W => hr2 ▸ kc.out a2 b2 W)
  have k3 := Lib.hid (fun W => hr3 ▸ kc.out a3 b3 W)
  clear kc hr1 hr2 hr3
  go_enter Try.func61, Try.ntmps61
  go_wp2
  obtain ⟨wx, hwx⟩ : ∃ wx, (w.alloc (.cells #[.int .i64 a0, .int .i64 a1, .int .i64 a2, .int .i64 a3] 69)).alloc (.cells #[.int .i64 b0, .int .i64 b1, .int .i64 b2, .int .i64 b3] 69) = wx := ⟨_, rfl⟩
  have hs1 : w.heap.size < (w.alloc (.cells #[.int .i64 a0, .int .i64 a1, .int .i64 a2, .int .i64 a3] 69)).heap.size := by simp
  have hxa := box_four (w1 := wx) (by rw [← hwx]; exact (Below.refl _ (w.alloc (.cells #[.int .i64 a0, .int .i64 a1, .int .i64 a2, .int .i64 a3] 69))).alloc (Nat.le_refl _) (.cells #[.int .i64 b0, .int .i64 b1, .int .i64 b2, .int .i64 b3] 69))
  have hxb := box_four (w1 := wx) (by rw [← hwx]; exact Below.refl ((w.alloc (.cells #[.int .i64 a0, .int .i64 a1, .int .i64 a2, .int .i64 a3] 69)).alloc (.cells #[.int .i64 b0, .int .i64 b1, .int .i64 b2, .int .i64 b3] 69)).heap.size _)
  have hB : Hid (Below w.heap.size w wx) := Lib.hid (by rw [← hwx]; exact ((Below.refl w.heap.size w).alloc (Nat.le_refl _) _).alloc (by simp) _)
  have hsz : wx.heap.size = w.heap.size + 2 := by rw [← hwx]; simp
  have hsw : (w.alloc (.cells #[.int .i64 a0, .int .i64 a1, .int .i64 a2, .int .i64 a3] 69)).heap.size = w.heap.size + 1 := by simp
  rw [hsw] at hxb
  rw [hwx]
  have hSz := Lib.hid hsz
  clear hwx hs1 hsz hsw
  obtain ⟨_, x1, x2, x3⟩ := hxa
  obtain ⟨_, y1, y2, y3⟩ := hxb
  have hO := Lib.hid (or_any wx.heap.size r1 r2 r3 (wx.alloc (.cells #[.int .i64 r1, .int .i64 r2, .int .i64 r3] 3)).drew (World.news_of_block (heap_alloc_new wx (.cells #[.int .i64 r1, .int .i64 r2, .int .i64 r3] 3)) 0 _ rfl)
    (by have h := World.news_of_block (heap_alloc_new wx (.cells #[.int .i64 r1, .int .i64 r2, .int .i64 r3] 3)) 1 _ rfl; rw [add_pos] at h; exact h) (by have h := World.news_of_block (heap_alloc_new wx (.cells #[.int .i64 r1, .int .i64 r2, .int .i64 r3] 3)) 2 _ rfl; rw [add_pos] at h; exact h))
  have hK := Lib.hid (show ∀ (W : World), Below wx.heap.size wx W → W.cell? ⟨w.heap.size, 1, none⟩ = some (.int .i64 a1) ∧ W.cell? ⟨w.heap.size, 2, none⟩ = some (.int .i64 a2) ∧ W.cell? ⟨w.heap.size, 3, none⟩ = some (.int .i64 a3) ∧ W.cell? ⟨w.heap.size + 1, 1, none⟩ = some (.int .i64 b1) ∧ W.cell? ⟨w.heap.size + 1, 2, none⟩ = some (.int .i64 b2) ∧ W.cell? ⟨w.heap.size + 1, 3, none⟩ = some (.int .i64 b3) from fun W hW =>
    ⟨(hW.cell (p := ⟨w.heap.size, 1, none⟩) (by have := hSz.out; show w.heap.size < _; omega)).trans x1, (hW.cell (p := ⟨w.heap.size, 2, none⟩) (by have := hSz.out; show w.heap.size < _; omega)).trans x2, (hW.cell (p := ⟨w.heap.size, 3, none⟩) (by have := hSz.out; show w.heap.size < _; omega)).trans x3,
      (hW.cell (p := ⟨w.heap.size + 1, 1, none⟩) (by have := hSz.out; show w.heap.size + 1 < _; omega)).trans y1, (hW.cell (p := ⟨w.heap.size + 1, 2, none⟩) (by have := hSz.out; show w.heap.size + 1 < _; omega)).trans y2, (hW.cell (p := ⟨w.heap.size + 1, 3, none⟩) (by have := hSz.out; show w.heap.size + 1 < _; omega)).trans y3⟩)
  go_region_held3 (fun W => W.cell? ⟨w.heap.size, 1, none⟩ = some (.int .i64 a1) ∧ W.cell? ⟨w.heap.size, 2, none⟩ = some (.int .i64 a2) ∧ W.cell? ⟨w.heap.size, 3, none⟩ = some (.int .i64 a3) ∧ W.cell? ⟨w.heap.size + 1, 1, none⟩ = some (.int .i64 b1) ∧ W.cell? ⟨w.heap.size + 1, 2, none⟩ = some (.int .i64 b2) ∧ W.cell? ⟨w.heap.size + 1, 3, none⟩ = some (.int .i64 b3))
    (first
      | exact hK.out _ (Below.refl _ _).drew
      | exact hK.out _ ((Below.refl _ _).drew.alloc (Nat.le_refl _) _)
      | exact hK.out _ (((Below.refl _ _).alloc (Nat.le_refl _) _).drew))
    (first
      | (go_at_call 42; (first | ((with_reducible refine (k1.out _).mono ?_); rintro e wq ⟨rfl, rfl⟩) | ((with_reducible refine (k2.out _).mono ?_); rintro e wq ⟨rfl, rfl⟩) | ((with_reducible refine (k3.out _).mono ?_); rintro e wq ⟨rfl, rfl⟩)))
      | (go_at_call 72; (with_reducible refine (hO.out).mono ?_); rintro e wq ⟨rfl, rfl⟩))
  go_wp2
  go_ret
  exact ⟨rfl, (hB.out.alloc hB.out.size _).drew⟩

set_option maxRecDepth 100000 in
set_option maxHeartbeats 1000000 in
theorem index_any (A : Option Addr) (l : List Int) (c : Nat) (n : Int) (w : World) (hp : Rd w w.heap.size A c (cellsI l)) (hmax : l.length ≤ 1000000000) :
    Calls Try.prog 64 #[.slice A l.length c, .int .i64 n] w fun e w' => e = .returned (.int .i64 (plc l n)) ∧ w = w' := by
  have hP := Lib.hid hp
  clear hp
  go_enter Try.func64, Try.ntmps64
  go_wp2
  go_loop [8] (fun i => ∃ k : Nat, k ≤ l.length ∧ i = .int .i64 k ∧ Hid (n ∉ l.take k)) (fun i => l.length - (intOf i).toNat)
  case atStart => exact ⟨0, by omega, rfl, Lib.hid (by simp)⟩
  case round =>
    obtain ⟨k, hk, rfl, hN⟩ := hrel
    by_cases hlt : k < l.length
    · obtain ⟨ad, rfl, _, c1⟩ := hP.out.get (cellsI_ix hlt)
      have hY := Lib.hid (fun (h : ix l k = n) => plc_at hlt hN.out h)
      have hX := Lib.hid (fun (h : ¬ ix l k = n) => not_take_next hlt hN.out h)
      generalize ix l k = x at c1 hY hX
      clear hN hP
      by_cases hk0 : k = 0
      all_goals
        first
          | (subst hk0; have c1 : w.cell? ad = some (.int .i64 x) := c1)
          | skip
        by_cases hx : x = n
        · have hR := Lib.hid (hY.out hx)
          subst hx
          clear hX hY
          go_wp2
          go_ret
          exact ⟨congrArg (fun b => Ending.returned (.int .i64 b)) hR.out.symm, rfl⟩
        · have hR := Lib.hid (hX.out hx)
          have hb := beq_eq_false_iff_ne.2 (Ne.symm hx)
          clear hX hY
          go_wp2
          first
            | exact ⟨⟨1, by omega, rfl, hR⟩, by simp [intOf]; omega⟩
            | exact ⟨⟨k + 1, by omega, by go_num, hR⟩, by simp [intOf]; omega⟩
    · obtain rfl : k = l.length := by omega
      have hR : Hid (plc l n = -1) := Lib.hid (plc_not (by have := hN.out; rwa [List.take_length] at this))
      clear hN hP
      go_wp2
      go_ret
      exact ⟨congrArg (fun b => Ending.returned (.int .i64 b)) hR.out.symm, rfl⟩
theorem plc_in {l : List Int} {n : Int} (h : n ∈ l) : 0 ≤ plc l n := by
  induction l with
  | nil => cases h
  | cons x l ih =>
    rw [plc]
    split
    · omega
    · rename_i hx
      rcases List.mem_cons.1 h with rfl | h
      · exact absurd rfl hx
      · have := ih h
        rw [if_neg (by omega)]
        omega
theorem contains_any (A : Option Addr) (l : List Int) (c : Nat) (n : Int) (w : World) (hp : Rd w w.heap.size A c (cellsI l)) (hmax : l.length ≤ 1000000000) :
    Calls Try.prog 52 #[.slice A l.length c, .int .i64 n] w fun e w' => e = .returned (.bool (hasB l n)) ∧ w = w' := by
  have k1 := Lib.hid (index_any A l c n w hp hmax)
  clear hp
  by_cases hm : n ∈ l
  · rw [hasB_true hm]
    have h0 := plc_in hm
    generalize plc l n = y at *
    go_enter Try.func52, Try.ntmps52
    go_wp2_with (go_at_call 64; (with_reducible refine (k1.out).mono ?_); rintro e wq ⟨rfl, rfl⟩)
    go_ret
    exact ⟨rfl, rfl⟩
  · rw [hasB_false hm]
    have h0 := plc_not hm
    rw [h0] at k1
    clear h0
    go_enter Try.func52, Try.ntmps52
    go_wp2_with (go_at_call 64; (with_reducible refine (k1.out).mono ?_); rintro e wq ⟨rfl, rfl⟩)
    go_ret
    exact ⟨rfl, rfl⟩
end Go.Proofs.Ytlaklfiodmnocaa
