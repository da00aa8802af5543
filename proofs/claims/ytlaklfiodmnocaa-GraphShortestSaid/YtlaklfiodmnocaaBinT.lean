/- slices.BinarySearchFunc at trails; the package's insert at trails. -/
import Derived.Test.YtlaklfiodmnocaaTr
import Derived.Deep.QuietTactic
import Derived.BigQuiet
namespace Go.Proofs.Ytlaklfiodmnocaa
open Go.RowKit

def BinPostT (l : List Tr) (x : Tr) (w : World) (e : Ending) (w' : World) : Prop := ∃ (i : Nat) (b : Bool), e = .returned (.tuple #[.int .i64 (i : Int), .bool b]) ∧ PartsT l x i ∧ Below w.heap.size w w'

set_option maxRecDepth 100000 in
set_option maxHeartbeats 4000000 in
theorem bin_anyT (A : Option Addr) (l : List Tr) (c : Nat) (x : Tr) (w : World) (hp : Tls w w.heap.size A l) (hmax : l.length ≤ 1000000) (hs : SrtT l) :
    Calls Try.prog 70 #[.slice A l.length c, trV x, .func (.func 61) #[] #[]] w (BinPostT l x w) := by
  have hP := Lib.hid hp
  have hS := Lib.hid hs
  have kc := Lib.hid (fun (a : Tr) (W : World) => compareTrails_any a x W)
  have hcn := Lib.hid (fun (a : Tr) => cmpT_neg a x)
  have hPa : Hid (∀ i, i ≤ l.length → (∀ k, k < i → ltT (tx l k) x) → (∀ k, i ≤ k → k < l.length → ¬ ltT (tx l k) x) → PartsT l x i) := Lib.hid (fun i h1 h2 h3 => ⟨h1, h2, h3⟩)
  have hlo : Hid (∀ m, m < l.length → ltT (tx l m) x → ∀ k, k < m + 1 → ltT (tx l k) x) := Lib.hid (fun m hm h k hk => by
    rcases Classical.em (ltT (tx l k) x) with h1 | h1
    · exact h1
    · have h2 := srt_mono hS.out (show k ≤ m by omega) hm
      unfold ltT at *
      omega)
  have hhi : Hid (∀ m, m < l.length → ¬ ltT (tx l m) x → ∀ k, m ≤ k → k < l.length → ¬ ltT (tx l k) x) := Lib.hid (fun m hm h k hk hkl => by
    have h2 := srt_mono hS.out hk hkl
    unfold ltT at *
    omega)
  have hend : Hid (∀ (i : Nat) (b : Bool) (W : World), PartsT l x i → Below w.heap.size w W → BinPostT l x w (.returned (.tuple #[.int .i64 (i : Int), .bool b])) W) := Lib.hid (fun i b W h1 h2 => ⟨i, b, rfl, h1, h2⟩)
  have hkeep : Hid (∀ W : World, Below w.heap.size w W → Tls W w.heap.size A l) := Lib.hid (fun W h => hP.out.below h)
  have kc' : Hid (∀ (a : Tr) (W : World), Calls Try.prog 61 #[.agg #[.int .i64 a.node, .int .i64 a.cost, .int .i64 a.edges, .int .i64 a.first], .agg #[.int .i64 x.node, .int .i64 x.cost, .int .i64 x.edges, .int .i64 x.first]] W fun e w' => e = .returned (.int .i64 (cmpT a x)) ∧ Below W.heap.size W w') := Lib.hid (fun a W => kc.out a W)
  rw [show trV x = .agg #[.int .i64 x.node, .int .i64 x.cost, .int .i64 x.edges, .int .i64 x.first] from rfl]
  obtain ⟨Q, hQ⟩ : ∃ Q : Nat → Prop, Q = fun i => ∀ k, k < i → ltT (tx l k) x := ⟨_, rfl⟩
  obtain ⟨R, hR⟩ : ∃ R : Nat → Prop, R = fun i => ∀ k, i ≤ k → k < l.length → ¬ ltT (tx l k) x := ⟨_, rfl⟩
  have hQ0 : Hid (Q 0) := Lib.hid (by rw [hQ]; exact fun k hk => absurd hk (by omega))
  have hR0 : Hid (R l.length) := Lib.hid (by rw [hR]; exact fun k hk hkl => absurd hk (by omega))
  have hQs : Hid (∀ m, m < l.length → cmpT (tx l m) x < 0 → Q (m + 1)) := Lib.hid (fun m hm h => by rw [hQ]; exact hlo.out m hm ((hcn.out _).1 h))
  have hRs : Hid (∀ m, m < l.length → ¬ cmpT (tx l m) x < 0 → R m) := Lib.hid (fun m hm h => by rw [hR]; exact hhi.out m hm (fun h2 => h ((hcn.out _).2 h2)))
  have hfin : Hid (∀ (i : Nat) (b : Bool) (W : World), i ≤ l.length → Q i → R i → Below w.heap.size w W → BinPostT l x w (.returned (.tuple #[.int .i64 (i : Int), .bool b])) W) := Lib.hid (fun i b W h1 h2 h3 h4 => hend.out i b W (hPa.out i h1 (by rw [hQ] at h2; exact h2) (by rw [hR] at h3; exact h3)) h4)
  clear hp hs hP hS kc hcn hPa hlo hhi hend hQ hR
  obtain ⟨goal, hgo⟩ : ∃ goal, BinPostT l x w = goal := ⟨_, rfl⟩
  rw [hgo] at hfin ⊢
  clear hgo
  generalize hx0 : x.node = x0 at *
  generalize hx1 : x.cost = x1 at *
  generalize hx2 : x.edges = x2 at *
  generalize hx3 : x.first = x3 at *
  clear hx0 hx1 hx2 hx3
  go_enter Try.func70, Try.ntmps70
  go_wp2
  have hX := box_four (Below.refl (w.alloc (.cells #[.int .i64 x0, .int .i64 x1, .int .i64 x2, .int .i64 x3] 69)).heap.size _)
  obtain ⟨wx, hwx⟩ : ∃ wx, w.alloc (.cells #[.int .i64 x0, .int .i64 x1, .int .i64 x2, .int .i64 x3] 69) = wx := ⟨_, rfl⟩
  have hws : wx.heap.size = w.heap.size + 1 := by rw [← hwx]; simp
  have hBx : Hid (Below w.heap.size w wx) := Lib.hid (by rw [← hwx]; exact (Below.refl _ _).alloc (Nat.le_refl _) _)
  rw [hwx] at hX ⊢
  have hWs := Lib.hid hws
  have hXk : Hid (∀ W : World, Below wx.heap.size wx W → W.cell? ⟨w.heap.size, 0, none⟩ = some (.int .i64 x0) ∧ W.cell? ⟨w.heap.size, 1, none⟩ = some (.int .i64 x1) ∧ W.cell? ⟨w.heap.size, 2, none⟩ = some (.int .i64 x2) ∧ W.cell? ⟨w.heap.size, 3, none⟩ = some (.int .i64 x3)) := Lib.hid (fun W hW => by
    have hl : w.heap.size < wx.heap.size := by rw [hWs.out]; omega
    exact ⟨(hW.cell (p := ⟨w.heap.size, 0, none⟩) hl).trans hX.1, (hW.cell (p := ⟨w.heap.size, 1, none⟩) hl).trans hX.2.1, (hW.cell (p := ⟨w.heap.size, 2, none⟩) hl).trans hX.2.2.1, (hW.cell (p := ⟨w.heap.size, 3, none⟩) hl).trans hX.2.2.2⟩)
  have hBw : Hid (∀ W : World, Below wx.heap.size wx W → Below w.heap.size w W) := Lib.hid (fun W hW => hBx.out.trans (hW.mono hBx.out.size))
  clear hwx hws hX
  go_loopw [9, 10] (fun a b wr => ∃ lo hi : Nat, lo ≤ hi ∧ hi ≤ l.length ∧ a = .int .i64 lo ∧ b = .int .i64 hi ∧ Hid (Below wx.heap.size wx wr) ∧ Hid (Q lo) ∧ Hid (R hi)) (fun a b _ => (intOf b).toNat - (intOf a).toNat)
  case atStart => exact ⟨0, l.length, by omega, Nat.le_refl _, rfl, rfl, Lib.hid (Below.refl _ _), hQ0, hR0⟩
  case round =>
    obtain ⟨lo, hi, hlh, hhl, rfl, rfl, hB, h1, h2⟩ := hrel
    clear hQ0 hR0
    by_cases hlt : lo < hi
    · obtain ⟨m, hm⟩ : ∃ m, m = (lo + hi) / 2 := ⟨_, rfl⟩
      have hml : m < l.length := by omega
      have hme : ((lo : Int) + (hi : Int)) / 2 = (m : Int) := by omega
      obtain ⟨ad, rfl, hab, _⟩ := (hkeep.out _ (hBw.out _ hB.out)).get hml
      have hE : Hid (∀ W : World, Below wx.heap.size wx W → At4 W (ad.add (m * 4)) (.int .i64 (tx l m).node) (.int .i64 (tx l m).cost) (.int .i64 (tx l m).edges) (.int .i64 (tx l m).first)) := Lib.hid (fun W hW => by
        obtain ⟨ad', h3, _, h4⟩ := (hkeep.out _ (hBw.out _ hW)).get hml
        injection h3 with h3
        rw [h3]
        exact h4)
      have k1 := fun (W : World) => kc'.out (tx l m) W
      have hq := hQs.out m hml
      have hr := hRs.out m hml
      generalize (tx l m).node = y0 at *
      generalize (tx l m).cost = y1 at *
      generalize (tx l m).edges = y2 at *
      generalize (tx l m).first = y3 at *
      generalize cmpT (tx l m) x = z at *
      have hA8 : Hid (∀ W : World, Below wx.heap.size wx W → W.cell? (ad.add (m * 4)) = some (.int .i64 y0) ∧ W.cell? { block := (ad.add (m * 4)).block, off := (ad.add (m * 4)).off + 1 } = some (.int .i64 y1) ∧ W.cell? { block := (ad.add (m * 4)).block, off := (ad.add (m * 4)).off + 2 } = some (.int .i64 y2) ∧ W.cell? { block := (ad.add (m * 4)).block, off := (ad.add (m * 4)).off + 3 } = some (.int .i64 y3) ∧
          W.cell? ⟨w.heap.size, 0, none⟩ = some (.int .i64 x0) ∧ W.cell? ⟨w.heap.size, 1, none⟩ = some (.int .i64 x1) ∧ W.cell? ⟨w.heap.size, 2, none⟩ = some (.int .i64 x2) ∧ W.cell? ⟨w.heap.size, 3, none⟩ = some (.int .i64 x3)) := Lib.hid (fun W hW => ⟨(hE.out W hW).1, (hE.out W hW).2.1, (hE.out W hW).2.2.1, (hE.out W hW).2.2.2, hXk.out W hW⟩)
      have hM := Lib.hid hm
      have hLt := Lib.hid hlt
      have K1 := Lib.hid k1
      have hMl := Lib.hid hml
      have hQ' := Lib.hid hq
      have hR' := Lib.hid hr
      have hi1 : (0 : Int) ≤ (m : Int) := by omega
      have hi2 : (m : Int) < (l.length : Int) := by omega
      clear hm k1 hE hq hr hkeep kc' hQs hRs
      by_cases hz : z < 0
      · have hN := Lib.hid (hQ'.out hz)
        have hzd : decide (z < 0) = true := decide_eq_true hz
        have hml1 : m + 1 ≤ hi := by have := hM.out; have := hLt.out; omega
        clear hQ' hR'
        go_wp2
        go_region_held3 (fun W => W.cell? (ad.add (m * 4)) = some (.int .i64 y0) ∧ W.cell? { block := (ad.add (m * 4)).block, off := (ad.add (m * 4)).off + 1 } = some (.int .i64 y1) ∧ W.cell? { block := (ad.add (m * 4)).block, off := (ad.add (m * 4)).off + 2 } = some (.int .i64 y2) ∧ W.cell? { block := (ad.add (m * 4)).block, off := (ad.add (m * 4)).off + 3 } = some (.int .i64 y3) ∧
            W.cell? ⟨w.heap.size, 0, none⟩ = some (.int .i64 x0) ∧ W.cell? ⟨w.heap.size, 1, none⟩ = some (.int .i64 x1) ∧ W.cell? ⟨w.heap.size, 2, none⟩ = some (.int .i64 x2) ∧ W.cell? ⟨w.heap.size, 3, none⟩ = some (.int .i64 x3))
          (first
            | exact hA8.out _ hB.out.drew
            | exact hA8.out _ D2.out)
          ((go_at_call 61; (with_reducible refine (K1.out _).mono ?_); rintro e w2 ⟨rfl, b2⟩; (have D2 := Lib.hid (hB.out.drew.trans (b2.mono hB.out.size))); clear b2))
        go_wp2
        exact ⟨⟨m + 1, hi, by omega, hhl, by go_num, rfl, D2, hN, h2⟩, by have := hM.out; have := hLt.out; simp [intOf]; omega⟩
      · have hN := Lib.hid (hR'.out (by omega))
        have hzd : decide (z < 0) = false := decide_eq_false hz
        have hml2 : lo ≤ m := by have := hM.out; have := hLt.out; omega
        have hml3 : m ≤ l.length := by omega
        clear hQ' hR'
        go_wp2
        go_region_held3 (fun W => W.cell? (ad.add (m * 4)) = some (.int .i64 y0) ∧ W.cell? { block := (ad.add (m * 4)).block, off := (ad.add (m * 4)).off + 1 } = some (.int .i64 y1) ∧ W.cell? { block := (ad.add (m * 4)).block, off := (ad.add (m * 4)).off + 2 } = some (.int .i64 y2) ∧ W.cell? { block := (ad.add (m * 4)).block, off := (ad.add (m * 4)).off + 3 } = some (.int .i64 y3) ∧
            W.cell? ⟨w.heap.size, 0, none⟩ = some (.int .i64 x0) ∧ W.cell? ⟨w.heap.size, 1, none⟩ = some (.int .i64 x1) ∧ W.cell? ⟨w.heap.size, 2, none⟩ = some (.int .i64 x2) ∧ W.cell? ⟨w.heap.size, 3, none⟩ = some (.int .i64 x3))
          (first
            | exact hA8.out _ hB.out.drew
            | exact hA8.out _ D2.out)
          ((go_at_call 61; (with_reducible refine (K1.out _).mono ?_); rintro e w2 ⟨rfl, b2⟩; (have D2 := Lib.hid (hB.out.drew.trans (b2.mono hB.out.size))); clear b2))
        go_wp2
        exact ⟨⟨lo, m, hml2, hml3, rfl, rfl, D2, h1, hN⟩, by have := hM.out; have := hLt.out; simp [intOf]; omega⟩
    · obtain rfl : lo = hi := by omega
      have hG := Lib.hid (fun (b : Bool) (W : World) (hW : Below wx.heap.size wx W) => hfin.out lo b W hhl h1.out h2.out (hBw.out W hW))
      clear h1 h2 hfin
      by_cases hln : lo < l.length
      · obtain ⟨ad, rfl, hab, _⟩ := (hkeep.out _ (hBw.out _ hB.out)).get hln
        have hE : Hid (∀ W : World, Below wx.heap.size wx W → At4 W (ad.add (lo * 4)) (.int .i64 (tx l lo).node) (.int .i64 (tx l lo).cost) (.int .i64 (tx l lo).edges) (.int .i64 (tx l lo).first)) := Lib.hid (fun W hW => by
          obtain ⟨ad', h3, _, h4⟩ := (hkeep.out _ (hBw.out _ hW)).get hln
          injection h3 with h3
          rw [h3]
          exact h4)
        have k1 := fun (W : World) => kc'.out (tx l lo) W
        clear hQs hRs
        generalize (tx l lo).node = y0 at *
        generalize (tx l lo).cost = y1 at *
        generalize (tx l lo).edges = y2 at *
        generalize (tx l lo).first = y3 at *
        generalize cmpT (tx l lo) x = z at *
        have hA8 : Hid (∀ W : World, Below wx.heap.size wx W → W.cell? (ad.add (lo * 4)) = some (.int .i64 y0) ∧ W.cell? { block := (ad.add (lo * 4)).block, off := (ad.add (lo * 4)).off + 1 } = some (.int .i64 y1) ∧ W.cell? { block := (ad.add (lo * 4)).block, off := (ad.add (lo * 4)).off + 2 } = some (.int .i64 y2) ∧ W.cell? { block := (ad.add (lo * 4)).block, off := (ad.add (lo * 4)).off + 3 } = some (.int .i64 y3) ∧
            W.cell? ⟨w.heap.size, 0, none⟩ = some (.int .i64 x0) ∧ W.cell? ⟨w.heap.size, 1, none⟩ = some (.int .i64 x1) ∧ W.cell? ⟨w.heap.size, 2, none⟩ = some (.int .i64 x2) ∧ W.cell? ⟨w.heap.size, 3, none⟩ = some (.int .i64 x3)) := Lib.hid (fun W hW => ⟨(hE.out W hW).1, (hE.out W hW).2.1, (hE.out W hW).2.2.1, (hE.out W hW).2.2.2, hXk.out W hW⟩)
        have K1 := Lib.hid k1
        have hi1 : (0 : Int) ≤ (lo : Int) := by omega
        have hi2 : (lo : Int) < (l.length : Int) := by omega
        have hi3 : decide ((lo : Int) < (l.length : Int)) = true := decide_eq_true hi2
        have hi4 : decide (lo < l.length) = true := decide_eq_true hln
        clear k1 hE hkeep kc'
        go_wp2
        go_region_held3 (fun W => W.cell? (ad.add (lo * 4)) = some (.int .i64 y0) ∧ W.cell? { block := (ad.add (lo * 4)).block, off := (ad.add (lo * 4)).off + 1 } = some (.int .i64 y1) ∧ W.cell? { block := (ad.add (lo * 4)).block, off := (ad.add (lo * 4)).off + 2 } = some (.int .i64 y2) ∧ W.cell? { block := (ad.add (lo * 4)).block, off := (ad.add (lo * 4)).off + 3 } = some (.int .i64 y3) ∧
            W.cell? ⟨w.heap.size, 0, none⟩ = some (.int .i64 x0) ∧ W.cell? ⟨w.heap.size, 1, none⟩ = some (.int .i64 x1) ∧ W.cell? ⟨w.heap.size, 2, none⟩ = some (.int .i64 x2) ∧ W.cell? ⟨w.heap.size, 3, none⟩ = some (.int .i64 x3))
          (first
            | exact hA8.out _ hB.out.drew
            | exact hA8.out _ D2.out)
          ((go_at_call 61; (with_reducible refine (K1.out _).mono ?_); rintro e w2 ⟨rfl, b2⟩; (have D2 := Lib.hid (hB.out.drew.trans (b2.mono hB.out.size))); clear b2))
        all_goals
          go_wp2
          exact hG.out _ _ D2.out
      · have hi3 : decide ((lo : Int) < (l.length : Int)) = false := decide_eq_false (by omega)
        have hi4 : decide (lo < l.length) = false := decide_eq_false hln
        clear hkeep kc' hQs hRs
        go_wp2
        go_quiet (fail)
        go_wp2
        exact hG.out _ _ (below_drewN hB.out _)

/-- A trail put at index i. -/
def putT (l : List Tr) (x : Tr) (i : Nat) : List Tr := l.take i ++ (x :: l.drop i)
theorem putT_len {l : List Tr} {x : Tr} {i : Nat} (h : i ≤ l.length) : (putT l x i).length = l.length + 1 := by
  unfold putT
  rw [List.length_append, List.length_take, List.length_cons, List.length_drop]
  omega
/-- What an insertion into a list of trails leaves. -/
def InsLT (W : World) (base : Nat) (A : Option Addr) (l : List Tr) (x : Tr) (e : Ending) (w' : World) : Prop :=
  ∃ (A' : Option Addr) (cap' i : Nat), e = .returned (.slice A' (l.length + 1) cap') ∧ PartsT l x i ∧ Ow w' base 69 4 A' (l.length + 1) cap' (cellsT (putT l x i)) ∧ W.grownBy w' (blk A) ∧ (blk A' = blk A ∨ ∃ g, blk A' = some g ∧ W.heap.size ≤ g)
theorem insLT_of {W W1 w' : World} {base i : Nat} {A : Option Addr} {l : List Tr} {x : Tr} {T : TypeId} {e : Ending} (hb : Below W.heap.size W W1) (hp : PartsT l x i)
    (h : InsPost (W1.alloc (.cells #[.int .i64 x.node, .int .i64 x.cost, .int .i64 x.edges, .int .i64 x.first] T)) base 69 4 A l.length ((cellsT l).take (i * 4) ++ ([.int .i64 x.node, .int .i64 x.cost, .int .i64 x.edges, .int .i64 x.first] ++ (cellsT l).drop (i * 4))) e w') : InsLT W base A l x e w' := by
  obtain ⟨A', cap', h1, h2, h3, h4⟩ := h
  have hc : (cellsT l).take (i * 4) ++ ([Value.int .i64 x.node, .int .i64 x.cost, .int .i64 x.edges, .int .i64 x.first] ++ (cellsT l).drop (i * 4)) = cellsT (putT l x i) := by
    unfold putT
    rw [cellsT_take, cellsT_drop, cellsT_append]
    rfl
  rw [hc] at h2
  have hg : W.grownBy W1 none := ⟨hb.os, hb.tape, hb.output, hb.size, fun k hk _ => hb.block k hk⟩
  refine ⟨A', cap', i, h1, hp, h2, grown_two (grown_two (grown_any hg) (World.grownBy_alloc W1 _ _)) h3, h4.imp id (fun ⟨g, hg, hge⟩ => ⟨g, hg, ?_⟩)⟩
  exact Nat.le_trans hb.size (Nat.le_trans (by simp) hge)

set_option maxRecDepth 100000 in
set_option maxHeartbeats 2000000 in
theorem insert_tr (A : Option Addr) (l : List Tr) (cap base : Nat) (x : Tr) (w : World) (ho : Ow w base 69 4 A l.length cap (cellsT l)) (hl : SrtT l) (hn : l.length ≤ 1000000) (hb : base ≤ w.heap.size) :
    Calls Try.prog 60 #[.slice A l.length cap, trV x, .func (.func 61) #[] #[]] w (InsLT w base A l x) := by
  have k1 := Lib.hid (fun (W : World) (b : Below w.heap.size w W) => bin_anyT A l cap x W (ho.up b).tls hn hl)
  have k2 := Lib.hid (fun (W : World) (b : Below w.heap.size w W) (i : Nat) (hi : i ≤ l.length) => insert_anyT A l.length cap base W.heap.size i (cellsT l) [.int .i64 x.node, .int .i64 x.cost, .int .i64 x.edges, .int .i64 x.first] (W.alloc (.cells #[.int .i64 x.node, .int .i64 x.cost, .int .i64 x.edges, .int .i64 x.first] 69)) ((ho.up b).alloc _) (heap_alloc_new W _) rfl (fun u hu => four_i64 (a := x.node) (b := x.cost) (c := x.edges) (d := x.first) hu) (cellsT_one l) hn (by have := b.size; simp; omega) hi (fun e => by have := ((ho.up b).lt _ e).2; omega))
  have hI := Lib.hid (fun (W1 : World) (hW : Below w.heap.size w W1) (i : Nat) (hp : PartsT l x i) (e : Ending) (w' : World) => insLT_of (W := w) (W1 := W1) (w' := w') (base := base) (A := A) (T := 69) (e := e) hW hp)
  have hle : Hid (∀ i, PartsT l x i → i ≤ l.length) := Lib.hid (fun i h => h.1)
  obtain ⟨goal, hgo⟩ : ∃ goal, InsLT w base A l x = goal := ⟨_, rfl⟩
  rw [hgo] at hI ⊢
  unfold BinPostT at k1
  rw [show trV x = .agg #[.int .i64 x.node, .int .i64 x.cost, .int .i64 x.edges, .int .i64 x.first] from rfl] at k1 ⊢
  generalize PartsT l x = PP at *
  obtain ⟨x0, x1, x2, x3⟩ := x
  simp only at *
  clear ho hl hgo
  go_enter Try.func60, Try.ntmps60
  have B1 : Hid (Below w.heap.size w (w.alloc (.cells #[.int .i64 x0, .int .i64 x1, .int .i64 x2, .int .i64 x3] 69))) := Lib.hid ((Below.refl _ _).alloc (Nat.le_refl _) _)
  go_wp2_with (first
    | (go_at_call 70; (with_reducible refine (k1.out _ B1.out).mono ?_); rintro e w2 ⟨i, b, rfl, hp, b2⟩; (have HP := Lib.hid hp); (have hx4 := box_four b2); (obtain ⟨y0, y1, y2, y3⟩ := hx4); (have B2 := Lib.hid (B1.out.trans (b2.mono B1.out.size))); clear hp b2)
    | (go_at_call 71; (with_reducible refine (k2.out w2 B2.out i (hle.out i HP.out)).mono ?_); rintro e w3 h2; (have H2 := Lib.hid (hI.out w2 B2.out i HP.out e w3 h2)); (obtain ⟨A', cap', h4, _⟩ := h2); subst h4))
  exact H2.out
end Go.Proofs.Ytlaklfiodmnocaa
