/- GetList: the program's and the reference's. -/
import Derived.Test.YtlgjddmghmgmmaaDoorGetText
import Derived.Test.YtlgjddmghmgmmaaDoorSame
namespace Go.Proofs.YtlgjddmghmgmmaaDoor
open Go.RowKit

/-- What GetList hands back. -/
def ListPost (w : World) (l : List UInt8) (e : Ending) (w' : World) : Prop :=
  ∃ A c, e = .returned (.tuple #[.slice A (tL l).length c, .int .i64 (tK l : Nat), .int .i64 (tE l : Nat)]) ∧ w'.ownsRow w.heap.size 3 1 (.slice A (tL l).length c) (tL l).length (cellsI (tL l)) ∧ Below w.heap.size w w'
theorem list_bad {w w' : World} {e : Nat} {l : List UInt8} (h : tE l = e) (he : ¬ e = 0) (hb : Below w.heap.size w w') : ListPost w l (.returned (.tuple #[.slice none 0 0, .int .i64 0, .int .i64 e])) w' := by
  obtain ⟨h1, h2⟩ := tL_bad (l := l) (by omega)
  refine ⟨none, 0, ?_, ?_, hb⟩
  · rw [h1, h2, h]
    rfl
  · rw [h1]
    exact World.ownsRow_nil _ _ _ _
theorem one_i64 {x : Int} {u : Value} (h : u ∈ #[Value.int .i64 x].toList) : u.oneCell' = true := by
  simp at h
  subst h
  rfl
/-- While a list is being read. -/
def GetL (w : World) (m : List UInt8) (k0 i : Nat) (v s : Value) (wr : World) : Prop :=
  ∃ (A : Option Addr) (c p : Nat) (g : List Int), v = .slice A g.length c ∧ g.length = i ∧ s = .int .i64 p ∧ k0 + lsK i m = p ∧ lsE i m = 0 ∧ lsN i m = g ∧ wr.ownsRow w.heap.size 3 1 (.slice A g.length c) g.length (cellsI g) ∧ Below w.heap.size w wr
theorem getL_next {w w2 : World} {m : List UInt8} {k0 p c2 : Nat} {g : List Int} {A2 : Option Addr} {x k : Nat} (hp : k0 + lsK g.length m = p) (he : lsE g.length m = 0) (hg : lsN g.length m = g) (hx : gN (m.drop (lsK g.length m)) = x) (hk : gK (m.drop (lsK g.length m)) = k) (h0 : gE (m.drop (lsK g.length m)) = 0)
    (ho : w2.ownsRow w.heap.size 3 1 (.slice A2 (g.length + 1) c2) (g.length + 1) (cellsI g ++ #[Value.int .i64 (x : Int)].toList)) (hb : Below w.heap.size w w2) :
    GetL w m k0 (g.length + 1) (.slice A2 (g.length + 1) c2) (.int .i64 ((p : Int) + (k : Int))) w2 := by
  refine ⟨A2, c2, p + k, g ++ [(x : Int)], by rw [List.length_append]; rfl, by rw [List.length_append]; rfl, rfl, by rw [lsK_snoc, hk]; omega, by rw [lsE_snoc _ _ he, h0], by rw [lsN_snoc, hg, hx], ?_, hb⟩
  rw [List.length_append, cellsI_append]
  exact ho

theorem getList_end {w wr : World} {l : List UInt8} {A : Option Addr} {c p : Nat} {xs : List Int} (h : gE l = 0) (h2 : gN l ≤ 10000) (he : lsE (gN l) (l.drop (gK l)) = 0) (hg : lsN (gN l) (l.drop (gK l)) = xs) (hp : gK l + lsK (gN l) (l.drop (gK l)) = p)
    (ho : wr.ownsRow w.heap.size 3 1 (.slice A xs.length c) xs.length (cellsI xs)) (hb : Below w.heap.size w wr) : ListPost w l (.returned (.tuple #[.slice A xs.length c, .int .i64 (p : Nat), .int .i64 0])) wr := by
  have h0 : tE l = 0 := by rw [tE_ls h h2, he]
  obtain ⟨h3, h4⟩ := tL_ok h0
  rw [hg] at h3
  rw [hp] at h4
  exact ⟨A, c, by rw [h3, h4, h0]; rfl, by rw [h3]; exact ho, hb⟩

set_option maxRecDepth 100000 in
set_option maxHeartbeats 2000000 in
theorem getList_any (A : Option Addr) (l : List UInt8) (c : Nat) (w : World) (hp : Rd w w.heap.size A c (cells8 l)) (hll : l.length ≤ 1000000000) (hmax : c ≤ 9223372036854775807) :
    Calls Tryd.prog 21 #[.slice A l.length c] w (ListPost w l) := by
  obtain ⟨i0, hi, hz0, hz1, hz2⟩ := info_parts info_i64
  have hI := Lib.hid (And.intro hi (And.intro hz0 (And.intro hz1 hz2)))
  clear hi hz0 hz1 hz2
  have hlc := hp.1
  rw [cells8_len] at hlc
  have hk := gK_le l
  have hn := gN_lt l
  have k1 := get_at _ rfl hp (by omega)
  by_cases he : gE l = 0
  · by_cases h2 : 10000 < gN l
    · have hB := Lib.hid (list_bad (w := w) (tE_long he h2) (by omega) (Below.refl _ _))
      rw [he] at k1
      generalize gN l = n at *
      generalize gK l = k at *
      have k1 := Lib.hid k1
      clear he hp
      go_enter Tryd.func21, Tryd.ntmps21
      go_wp2_with (go_at_call 12; refine k1.out.mono ?_; rintro e w' ⟨rfl, rfl⟩)
      go_ret3
      exact hB.out
    · have hEnd := Lib.hid (fun (wr : World) (A' : Option Addr) (c' p : Nat) (xs : List Int) => getList_end (w := w) (wr := wr) (A := A') (c := c') (p := p) (xs := xs) he (by omega))
      have hBad := Lib.hid (fun (i e : Nat) (w' : World) (h : lsE i (l.drop (gK l)) = e) (h0 : ¬ e = 0) (hi : i ≤ gN l) (hb : Below w.heap.size w w') => list_bad (w := w) (w' := w') (l := l) (e := e) (by rw [tE_ls he (by omega), lsE_stays i (gN l) _ (by omega) hi, h]) h0 hb)
      have hLe := Lib.hid (fun i => lsK_le i (l.drop (gK l)))
      rw [he] at k1
      have hP := Lib.hid hp
      have hDl : (l.drop (gK l)).length + gK l = l.length := by rw [List.length_drop]; omega
      have hDr := Lib.hid (fun i => drop_drop' l (gK l) (lsK i (l.drop (gK l))))
      generalize hm : l.drop (gK l) = m at *
      generalize gN l = n at *
      generalize gK l = k0 at *
      have k1 := Lib.hid k1
      have hM := Lib.hid hm
      clear he hp hm
      go_enter Tryd.func21, Tryd.ntmps21
      go_wp2_with (go_at_call 12; refine k1.out.mono ?_; rintro e w' ⟨rfl, rfl⟩)
      go_loopw [2, 3, 21] (fun v s i wr => ∃ j : Nat, j ≤ n ∧ i = .int .i64 j ∧ GetL w m k0 j v s wr) (fun _ _ i _ => n - (intOf i).toNat)
      case atStart => exact ⟨0, by omega, rfl, none, 0, k0, [], rfl, rfl, rfl, rfl, rfl, rfl, World.ownsRow_nil _ _ _ _, Below.refl _ _⟩
      case round =>
        obtain ⟨j, hj, rfl, A', c', p, g, rfl, hgl, rfl, hpp, hE0, hg, hown, hb⟩ := hrel
        subst hgl
        have hple : p ≤ l.length := by have := hLe.out g.length; omega
        have hOwn := Lib.hid hown
        have hBe := Lib.hid hb
        by_cases hlt : g.length < n
        · have hRd := rd_from (hP.out.below hb) (k := p) hple
          have hge : l.drop p = m.drop (lsK g.length m) := by rw [← hpp]; exact (hDr.out g.length).symm
          rw [hge] at hRd
          have hlen : l.length - p = (m.drop (lsK g.length m)).length := by rw [← hge, List.length_drop]
          have hk2 := (gK_le (m.drop (lsK g.length m))).2
          have hn2 := gN_lt (m.drop (lsK g.length m))
          have hNx := fun (w2 : World) (A2 : Option Addr) (c2 : Nat) (h0 : gE (m.drop (lsK g.length m)) = 0) => getL_next (w := w) (w2 := w2) (A2 := A2) (c2 := c2) hpp hE0 hg rfl rfl h0
          have hEr := fun (h0 : ¬ gE (m.drop (lsK g.length m)) = 0) => hBad.out (g.length + 1) _ wr (lsE_snoc _ _ hE0) h0 hlt hb
          have kA := fun (A3 : Option Addr) (c3 : Nat) (hr : Rd wr w.heap.size A3 c3 (cells8 (m.drop (lsK g.length m)))) (hc : c3 ≤ 9223372036854775807) => get_at (l.length - p) hlen (hr.more hb.size) (by omega)
          generalize m.drop (lsK g.length m) = q at *
          have hcq : c - p ≤ 9223372036854775807 := by omega
          have hgs : g.length ≤ 10000 := by omega
          clear hpp hE0 hg hown hb hge hlen
          have HNx := Lib.hid hNx
          have HEr := Lib.hid hEr
          clear hNx hEr
          by_cases hq : gE q = 0
          · have HNx2 := Lib.hid (fun w2 A2 c2 => HNx.out w2 A2 c2 hq)
            rw [hq] at kA
            generalize gN q = x at *
            generalize gK q = y at *
            by_cases hcp : c = p
            · rw [if_pos hcp] at hRd
              have kC := Lib.hid (kA _ _ hRd hcq)
              subst hcp
              rw [Nat.sub_self, show l.length - c = 0 by omega] at kC
              clear kA hRd HNx HEr hq hP hBad hEnd hLe hDr hM k1
              go_wp2_with (first
                | (go_at_call 12; refine kC.out.mono ?_; rintro e w' ⟨rfl, rfl⟩)
                | (at_builtin; refine wpList_append_feed _ rfl _ _ 34 rfl w.heap.size 3 i0 (.int .i64 0) 8 Tryd.underlying34 hI.out.1 hI.out.2.1 hI.out.2.2.1 hI.out.2.2.2 rfl _ _ _ rfl (hOwn.out.alloc _) _ 1 _ rfl (feed_new rfl) (fun u hu => one_i64 hu) (by unfold maxLen; omega) (by omega) (by have := hBe.out.size; simp; omega) ?_; intro A2 c2 w2 hown2 hgrow2; (have O2 := Lib.hid hown2); (have B2 := Lib.hid (below_grown (hBe.out.alloc hBe.out.size _) (hOwn.out.alloc _) hgrow2 (Nat.le_refl _) (by have := hBe.out.size; simp; omega))); clear hown2 hgrow2))
              exact ⟨⟨g.length + 1, by omega, by go_num, HNx2.out _ _ _ O2.out B2.out⟩, by simp [intOf]; omega⟩
            · rw [if_neg hcp] at hRd
              have kC := Lib.hid (kA _ _ hRd hcq)
              clear kA hRd HNx HEr hq hP hBad hEnd hLe hDr hM k1
              go_wp2_with (first
                | (go_at_call 12; refine kC.out.mono ?_; rintro e w' ⟨rfl, rfl⟩)
                | (at_builtin; refine wpList_append_feed _ rfl _ _ 34 rfl w.heap.size 3 i0 (.int .i64 0) 8 Tryd.underlying34 hI.out.1 hI.out.2.1 hI.out.2.2.1 hI.out.2.2.2 rfl _ _ _ rfl (hOwn.out.alloc _) _ 1 _ rfl (feed_new rfl) (fun u hu => one_i64 hu) (by unfold maxLen; omega) (by omega) (by have := hBe.out.size; simp; omega) ?_; intro A2 c2 w2 hown2 hgrow2; (have O2 := Lib.hid hown2); (have B2 := Lib.hid (below_grown (hBe.out.alloc hBe.out.size _) (hOwn.out.alloc _) hgrow2 (Nat.le_refl _) (by have := hBe.out.size; simp; omega))); clear hown2 hgrow2))
              exact ⟨⟨g.length + 1, by omega, by go_num, HNx2.out _ _ _ O2.out B2.out⟩, by simp [intOf]; omega⟩
          · have HE2 := Lib.hid (HEr.out hq)
            rw [gN_bad hq, gK_bad hq] at kA
            generalize gE q = e at *
            by_cases hcp : c = p
            · rw [if_pos hcp] at hRd
              have kC := Lib.hid (kA _ _ hRd hcq)
              subst hcp
              rw [Nat.sub_self, show l.length - c = 0 by omega] at kC
              clear kA hRd HNx HEr hP hBad hEnd hLe hDr hM k1
              go_wp2_with (go_at_call 12; refine kC.out.mono ?_; rintro e w' ⟨rfl, rfl⟩)
              go_ret3
              exact HE2.out
            · rw [if_neg hcp] at hRd
              have kC := Lib.hid (kA _ _ hRd hcq)
              clear kA hRd HNx HEr hP hBad hEnd hLe hDr hM k1
              go_wp2_with (go_at_call 12; refine kC.out.mono ?_; rintro e w' ⟨rfl, rfl⟩)
              go_ret3
              exact HE2.out
        · obtain rfl : n = g.length := by omega
          have hF := Lib.hid (hEnd.out wr A' c' p g hE0 hg hpp hown hb)
          clear hpp hE0 hg hown hb hEnd hBad hP hLe hDr hM k1
          go_wp2
          go_ret3
          exact hF.out
  · have hB := Lib.hid (list_bad (w := w) (tE_bad he) he (Below.refl _ _))
    rw [gN_bad he, gK_bad he] at k1
    generalize gE l = e at *
    have k1 := Lib.hid k1
    clear hp
    go_enter Tryd.func21, Tryd.ntmps21
    go_wp2_with (go_at_call 12; refine k1.out.mono ?_; rintro e w' ⟨rfl, rfl⟩)
    go_ret3
    exact hB.out
end Go.Proofs.YtlgjddmghmgmmaaDoor
