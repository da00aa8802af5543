/- Put and its helpers: the program's and the reference's. -/
import Derived.Test.YtlgjddmghmgmmaaDoorGet
namespace Go.Proofs.YtlgjddmghmgmmaaDoor
open Go.RowKit

theorem own_cells {w : World} {base e n : Nat} {v : Value} {l : List UInt8} (h : w.ownsRow base e 1 v n (cells8 l)) : n = l.length := by
  have := h.1
  rw [cells8_len] at this
  omega
/-- While a number is being put: what stands there, and what is left of the number. -/
def Put1 (w : World) (base : Nat) (goal : List UInt8) (b v : Value) (wr : World) : Prop :=
  ∃ (A : Option Addr) (c r : Nat) (l : List UInt8), b = .slice A l.length c ∧ v = .int .i64 r ∧ r < 9223372036854775808 ∧ l ++ put r = goal ∧
    wr.ownsRow base 5 1 (.slice A l.length c) l.length (cells8 l) ∧ Below base w wr

theorem one_u8 {x : Int} {u : Value} (h : u ∈ #[Value.int .u8 x].toList) : u.oneCell' = true := by
  simp at h
  subst h
  rfl
theorem snoc8 {l : List UInt8} {x : Nat} {y : Int} (hx : x < 256) (hy : y = (x : Int)) : cells8 (l ++ [UInt8.ofNat x]) = cells8 l ++ #[Value.int .u8 y].toList := by
  rw [cells8_append, hy]
  simp [cells8, Nat.mod_eq_of_lt hx]
theorem put_next {w w2 : World} {base : Nat} {goal l : List UInt8} {r c2 : Nat} {A2 : Option Addr} (hg : l ++ put r = goal) (h : 128 ≤ r) (ho : w2.ownsRow base 5 1 (.slice A2 (l.length + 1) c2) (l.length + 1) (cells8 l ++ #[Value.int .u8 ((r : Int) % 128 + 128)].toList)) (hb : Below base w w2) (hr : r < 9223372036854775808) :
    Put1 w base goal (.slice A2 (l.length + 1) c2) (.int .i64 ((r : Int) / 128)) w2 := by
  refine ⟨A2, c2, r / 128, l ++ [UInt8.ofNat (r % 128 + 128)], by rw [List.length_append]; rfl, by congr 1, by omega, ?_, ?_, hb⟩
  · rw [← hg, put_large h, List.append_assoc]
    rfl
  · rw [← snoc8 (x := r % 128 + 128) (by omega) (by omega)] at ho
    rw [List.length_append]
    exact ho
theorem put_last {w w2 : World} {base : Nat} {goal l : List UInt8} {r c2 : Nat} {A2 : Option Addr} (hg : l ++ put r = goal) (h : ¬ 128 ≤ r) (ho : w2.ownsRow base 5 1 (.slice A2 (l.length + 1) c2) (l.length + 1) (cells8 l ++ #[Value.int .u8 (r : Int)].toList)) (hb : Below base w w2) :
    Made w base goal (.returned (.slice A2 (l.length + 1) c2)) w2 := by
  rw [put_small (by omega)] at hg
  subst hg
  refine ⟨A2, c2, by rw [List.length_append]; rfl, ?_, hb⟩
  rw [← snoc8 (x := r) (by omega) rfl] at ho
  rw [List.length_append]
  exact ho

set_option maxRecDepth 100000 in
set_option maxHeartbeats 2000000 in
theorem appendNumber_any (base : Nat) (A : Option Addr) (l : List UInt8) (c : Nat) (n : Int) (w : World) (hown : w.ownsRow base 5 1 (.slice A l.length c) l.length (cells8 l)) (hbase : base ≤ w.heap.size) (hl : l.length ≤ 10000000) (n1 : -9223372036854775808 ≤ n) (n2 : n ≤ 9223372036854775807) :
    Calls Tryd.prog 33 #[.slice A l.length c, .int .i64 n] w (Made w base (l ++ put n.toNat)) := by
  obtain ⟨i0, hi, hz0, hz1, hz2⟩ := info_parts info_u8
  have hI := Lib.hid (And.intro hi (And.intro hz0 (And.intro hz1 hz2)))
  clear hi hz0 hz1 hz2
  obtain ⟨m, hm⟩ : ∃ m, n.toNat = m := ⟨_, rfl⟩
  rw [hm]
  have hmax : ∀ ts t w, (Builtin.max_ ts t #[.int .i64 n, .int .i64 0]).run Tryd.prog w = .ok (.int .i64 (m : Int)) w := fun ts t w => by
    rw [run_max_int2]
    congr 2
    split <;> omega
  have hml : m < 9223372036854775808 := by omega
  clear hm n1 n2
  have hO := Lib.hid hown
  have hB := Lib.hid hbase
  clear hown hbase
  obtain ⟨goal, hg⟩ : ∃ goal, l ++ put m = goal := ⟨_, rfl⟩
  rw [hg]
  have hgl : goal.length ≤ l.length + 9 := by rw [← hg, List.length_append]; have := put_nine hml; omega
  have hG := Lib.hid hg
  clear hg
  go_enter Tryd.func33, Tryd.ntmps33
  go_wp2
  go_loopw [0, 1] (fun b v wr => Put1 w base goal b v wr) (fun _ v _ => (intOf v).toNat)
  case atStart => exact ⟨A, c, m, l, rfl, rfl, hml, hG.out, hO.out, Below.refl _ _⟩
  case round =>
    obtain ⟨A', c', r, l', rfl, rfl, hr, hgo, hown, hb⟩ := hrel
    have hl' : l'.length + 1 ≤ goal.length := by rw [← hgo, List.length_append]; have := put_pos r; omega
    have hGo := Lib.hid hgo
    have hOwn := Lib.hid hown
    have hBe := Lib.hid hb
    clear hgo hown hb
    by_cases h128 : 128 ≤ r
    · go_wp2_with (at_builtin; refine wpList_append_feed _ rfl _ _ 22 rfl base 5 i0 (.int .u8 0) 1 Tryd.underlying22 hI.out.1 hI.out.2.1 hI.out.2.2.1 hI.out.2.2.2 rfl _ _ _ rfl (hOwn.out.alloc _) _ 1 _ rfl (feed_new rfl) (fun u hu => one_u8 hu) (by unfold maxLen; omega) (by omega) (by have := hBe.out.size; have := hB.out; simp; omega) ?_; intro A2 c2 w2 hown2 hgrow2; (have hOwn2 := Lib.hid hown2); (have hBe2 := Lib.hid (below_grown (hBe.out.alloc (Nat.le_trans hB.out hBe.out.size) _) (hOwn.out.alloc _) hgrow2 (Nat.le_refl _) (by have := hBe.out.size; have := hB.out; simp; omega))); clear hown2 hgrow2)
      have hP := Lib.hid (put_next hGo.out h128 hOwn2.out hBe2.out hr)
      exact ⟨hP.out, by simp [intOf]; omega⟩
    · go_wp2_with (at_builtin; refine wpList_append_feed _ rfl _ _ 22 rfl base 5 i0 (.int .u8 0) 1 Tryd.underlying22 hI.out.1 hI.out.2.1 hI.out.2.2.1 hI.out.2.2.2 rfl _ _ _ rfl (hOwn.out.alloc _) _ 1 _ rfl (feed_new rfl) (fun u hu => one_u8 hu) (by unfold maxLen; omega) (by omega) (by have := hBe.out.size; have := hB.out; simp; omega) ?_; intro A2 c2 w2 hown2 hgrow2; (have hOwn2 := Lib.hid hown2); (have hBe2 := Lib.hid (below_grown (hBe.out.alloc (Nat.le_trans hB.out hBe.out.size) _) (hOwn.out.alloc _) hgrow2 (Nat.le_refl _) (by have := hBe.out.size; have := hB.out; simp; omega))); clear hown2 hgrow2)
      go_ret
      exact put_last hGo.out h128 hOwn2.out hBe2.out

theorem Rd.feed8 {w : World} {B c : Nat} {A : Option Addr} {l : List UInt8} (h : Rd w B A c (cells8 l)) : Feed w (.slice A l.length c) l.length (cells8 l) := by
  have := h.feed
  rwa [cells8_len] at this
theorem Made.after {w w1 w2 : World} {base base' : Nat} {l : List UInt8} {e : Ending} (hm : Made w1 base l e w2) (hb : Below base' w w1) (h : base' ≤ base) : Made w base' l e w2 := by
  obtain ⟨A, c, rfl, h1, h2⟩ := hm
  exact ⟨A, c, rfl, own_less h1 h, hb.trans (h2.mono h)⟩
theorem made_zero {w w2 : World} {base c : Nat} {A : Option Addr} {l : List UInt8} (ho : w2.ownsRow base 5 1 (.slice A (0 + l.length) c) (0 + l.length) ([] ++ cells8 l)) (hb : Below base w w2) : Made w base l (.returned (.slice A l.length c)) w2 := by
  rw [Nat.zero_add] at ho
  exact ⟨A, c, rfl, ho, hb⟩

set_option maxRecDepth 100000 in
set_option maxHeartbeats 1000000 in
theorem copied_any (A : Option Addr) (l : List UInt8) (c : Nat) (r : Int) (w : World) (hp : Rd w w.heap.size A c (cells8 l)) (hl : l.length ≤ 10000000) (r0 : 0 ≤ r) (r1 : r ≤ 10000000) :
    Calls Tryd.prog 34 #[.slice A l.length c, .int .i64 r] w (Made w w.heap.size l) := by
  obtain ⟨i0, hi, hz0, hz1, hz2⟩ := info_parts info_u8
  have hI := Lib.hid (And.intro hi (And.intro hz0 (And.intro hz1 hz2)))
  clear hi hz0 hz1 hz2
  obtain ⟨m, hm⟩ : ∃ m, l.length + r.toNat = m := ⟨_, rfl⟩
  have hM : Hid ((l.length : Int) + r = (m : Int)) := Lib.hid (by omega)
  have hml : m ≤ 20000000 := by omega
  clear hm
  have hP := Lib.hid hp
  clear hp
  go_enter Tryd.func34, Tryd.ntmps34
  go_wp2_with (first
    | (at_make; refine wpList_make_own _ rfl _ _ 22 rfl w.heap.size 5 i0 (.int .u8 0) 1 Tryd.underlying22 hI.out.1 hI.out.2.1 hI.out.2.2.1 .i64 .i64 _ m rfl rfl hM.out (by rw [hI.out.2.2.2]; omega) (by unfold maxLen; omega) (Nat.le_refl _) ?_; intro w1 hown1 hgrow1; (have hB1 := Lib.hid ((Below.refl w.heap.size w).grown hgrow1 (Nat.le_refl _) (fun k hk => by cases hk))); (have hO1 := Lib.hid hown1); clear hown1 hgrow1)
    | (at_builtin; refine wpList_append_feed _ rfl _ _ 22 rfl w.heap.size 5 i0 (.int .u8 0) 1 Tryd.underlying22 hI.out.1 hI.out.2.1 hI.out.2.2.1 hI.out.2.2.2 rfl _ _ _ rfl hO1.out _ l.length _ rfl (hP.out.below hB1.out).feed8 (cells8_one _) (by unfold maxLen; omega) (by omega) hB1.out.size ?_; intro A2 c2 w2 hown2 hgrow2; (have hB2 := Lib.hid (below_grown hB1.out hO1.out hgrow2 (Nat.le_refl _) hB1.out.size)); (have hO2 := Lib.hid hown2); clear hown2 hgrow2))
  go_ret
  exact made_zero hO2.out hB2.out

set_option maxHeartbeats 1000000 in
theorem put_any (A : Option Addr) (l : List UInt8) (c : Nat) (n : Int) (w : World) (hp : Rd w w.heap.size A c (cells8 l)) (hl : l.length ≤ 10000000) (n1 : -9223372036854775808 ≤ n) (n2 : n ≤ 9223372036854775807) :
    Calls Tryd.prog 15 #[.slice A l.length c, .int .i64 n] w (Made w w.heap.size (l ++ put n.toNat)) := by
  have k1 := Lib.hid (copied_any A l c 9 w hp hl (by omega) (by omega))
  have k2 := fun A1 c1 w1 h1 h2 => appendNumber_any w.heap.size A1 l c1 n w1 h1 h2 hl n1 n2
  generalize l ++ put n.toNat = g at k2 ⊢
  have k2 := Lib.hid k2
  clear hp
  go_enter Tryd.func15, Tryd.ntmps15
  go_wp2_with (first
    | (go_at_call 34; refine k1.out.mono ?_; rintro e w1 ⟨A1, c1, rfl, h1, b1⟩; (have H1 := Lib.hid h1); (have B1 := Lib.hid b1); clear h1 b1)
    | (go_at_call 33; refine (k2.out A1 c1 w1 H1.out B1.out.size).mono ?_; rintro e w2 ⟨A2, c2, rfl, h2, b2⟩; (have H2 := Lib.hid h2); (have B2 := Lib.hid (B1.out.trans b2)); clear h2 b2))
  go_ret
  exact ⟨A2, c2, rfl, H2.out, B2.out⟩
end Go.Proofs.YtlgjddmghmgmmaaDoor
