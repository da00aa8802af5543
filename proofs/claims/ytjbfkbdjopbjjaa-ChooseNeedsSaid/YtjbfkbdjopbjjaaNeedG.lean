/- The package's Need and Fits. -/
import Derived.Test.YtjbfkbdjopbjjaaNeedR
import Derived.Test.YtjbfkbdjopbjjaaRightG
import Derived.BigRegion
import Derived.BigQuiet
namespace Go.Proofs.Ytjbfkbdjopbjjaa
open Go.RowKit

/-- The least index that may follow the first k ones. -/
def nxI (c : List Int) (k : Nat) : Int := if k = 0 then 0 else ix c (k - 1) + 1
theorem nxI_zero (c : List Int) : nxI c 0 = 0 := rfl
theorem nxI_succ (c : List Int) (k : Nat) : nxI c (k + 1) = ix c k + 1 := rfl
theorem nxI_in {n k : Nat} {c : List Int} (h : Ch n (c.take k)) (hk : k ≤ c.length) : 0 ≤ nxI c k ∧ nxI c k ≤ n := by
  unfold nxI
  by_cases h0 : k = 0
  · rw [if_pos h0]; omega
  · rw [if_neg h0]
    have hm : ix c (k - 1) ∈ c.take k := by
      rw [ix_at (by omega)]
      exact List.mem_take_iff_getElem.2 ⟨k - 1, by omega, rfl⟩
    have := h.2 _ hm
    omega
theorem nx_no {n k : Nat} {c : List Int} (h : ix c k < nxI c k ∨ (n : Int) ≤ ix c k) : ix c k < 0 ∨ (n : Int) ≤ ix c k ∨ (0 < k ∧ ix c k ≤ ix c (k - 1)) := by
  unfold nxI at h
  by_cases h0 : k = 0
  · rw [if_pos h0] at h
    omega
  · rw [if_neg h0] at h
    omega
theorem nx_yes {k : Nat} {c : List Int} (h : nxI c k ≤ ix c k) (h0 : 0 < k) : ix c (k - 1) < ix c k := by
  unfold nxI at h
  rw [if_neg (by omega)] at h
  omega
/-- A box of three numbers. -/
def Bx3 (w : World) (g : Nat) (a b c : Int) : Prop := At3 w ⟨g, 0, none⟩ (.int .i64 a) (.int .i64 b) (.int .i64 c) ∧ ∀ q, w.frozen? ⟨g, q, none⟩ = false
theorem box3_new (w : World) (a b c : Int) (T : TypeId) : Bx3 (w.alloc (.cells #[.int .i64 a, .int .i64 b, .int .i64 c] T)) w.heap.size a b c := by
  have h := World.news_of_block (heap_alloc_new w (.cells #[.int .i64 a, .int .i64 b, .int .i64 c] T))
  exact ⟨⟨h 0 _ rfl, h 1 _ rfl, h 2 _ rfl⟩, fun q => by simp⟩
section
variable {w : World} {g : Nat} {a b c : Int}
theorem Bx3.drew (h : Bx3 w g a b c) : Bx3 w.drew g a b c := h
theorem Bx3.set0 (h : Bx3 w g a b c) (x : Int) : Bx3 (w.setCell ⟨g, 0, none⟩ (.int .i64 x)) g x b c := by
  obtain ⟨⟨z0, z1, z2⟩, zf⟩ := h
  exact ⟨⟨World.cell?_setCell_same _ _ _ z0, (World.cell?_setCell_other _ _ _ _ (by simp)).trans z1, (World.cell?_setCell_other _ _ _ _ (by simp)).trans z2⟩, fun q => by rw [World.frozen?_setCell]; exact zf q⟩
theorem Bx3.set1 (h : Bx3 w g a b c) (x : Int) : Bx3 (w.setCell ⟨g, 1, none⟩ (.int .i64 x)) g a x c := by
  obtain ⟨⟨z0, z1, z2⟩, zf⟩ := h
  exact ⟨⟨(World.cell?_setCell_other _ _ _ _ (by simp)).trans z0, World.cell?_setCell_same _ _ _ z1, (World.cell?_setCell_other _ _ _ _ (by simp)).trans z2⟩, fun q => by rw [World.frozen?_setCell]; exact zf q⟩
theorem Bx3.set2 (h : Bx3 w g a b c) (x : Int) : Bx3 (w.setCell ⟨g, 2, none⟩ (.int .i64 x)) g a b x := by
  obtain ⟨⟨z0, z1, z2⟩, zf⟩ := h
  exact ⟨⟨(World.cell?_setCell_other _ _ _ _ (by simp)).trans z0, (World.cell?_setCell_other _ _ _ _ (by simp)).trans z1, World.cell?_setCell_same _ _ _ z2⟩, fun q => by rw [World.frozen?_setCell]; exact zf q⟩
end
set_option maxRecDepth 100000 in
set_option maxHeartbeats 8000000 in
theorem gNeed_any (A B : Option Addr) (l : List It) (c : List Int) (d e : Nat) (w : World) (hp : Its w w.heap.size A l) (_ : l.length ≤ d) (hq : Rd w w.heap.size B e (cellsI c)) (hr : Rt l) (hm : c.length ≤ 1000000) :
    Calls Try.prog 14 #[.slice A l.length d, .slice B c.length e] w (NeedPost l c w) := by
  have hP := Lib.hid hp
  have hQ := Lib.hid hq
  have hl12 := hr.1
  have hYes : Hid (∀ (_ : Ch l.length c) (w' : World) (_ : Below w.heap.size w w'), NeedPost l c w (.returned (.tuple #[.int .i64 (sK (iA l) c), .int .i64 (sK (iB l) c), .int .i64 (sK (iV l) c), .bool true])) w') := Lib.hid (fun h w' b => ⟨needE_yes h, b⟩)
  have hNo : Hid (∀ (k : Nat) (_ : k < c.length) (_ : ix c k < nxI c k ∨ (l.length : Int) ≤ ix c k) (w' : World) (_ : Below w.heap.size w w'), NeedPost l c w (.returned (.tuple #[.int .i64 0, .int .i64 0, .int .i64 0, .bool false])) w') := Lib.hid (fun k hk h w' b => ⟨needE_no (ch_no hk (nx_no h)), b⟩)
  have hNx := Lib.hid (fun (k kk : Nat) (h : Ch l.length (c.take k)) (hk : k < c.length) (hx : ix c k = (kk : Int)) (hl : kk < l.length) (hp : nxI c k ≤ ix c k) => ch_yes h hk hx hl (nx_yes hp))
  have hIn := Lib.hid (fun (k : Nat) (h : Ch l.length (c.take k)) (hk : k ≤ c.length) => nxI_in h hk)
  have hBd := Lib.hid (fun (k : Nat) (h : Ch l.length (c.take k)) => fit_bounds hr h)
  have hIt := Lib.hid (fun (k : Nat) => rt_at hr k)
  generalize NeedPost l c w = goal at *
  clear hp hq hr
  have hX0 : Hid (Bx3 (w.alloc (.cells #[.int .i64 0, .int .i64 0, .int .i64 0] 42)) w.heap.size 0 0 0) := Lib.hid (box3_new w 0 0 0 42)
  have hB0 : Hid (Below w.heap.size w (w.alloc (.cells #[.int .i64 0, .int .i64 0, .int .i64 0] 42))) := Lib.hid ((Below.refl _ _).alloc (Nat.le_refl _) _)
  go_enter Try.func14, Try.ntmps14
  go_wp2
  go_loopw [9, 14] (fun v9 i wr => ∃ (k : Nat) (nx s1 s2 s3 : Int), k ≤ c.length ∧ i = .int .i64 k ∧ v9 = .int .i64 nx ∧ Hid (nx = nxI c k) ∧ Hid (s1 = sK (iA l) (c.take k) ∧ s2 = sK (iB l) (c.take k) ∧ s3 = sK (iV l) (c.take k)) ∧ Hid (Ch l.length (c.take k)) ∧ Hid (Bx3 wr w.heap.size s1 s2 s3) ∧ Hid (Below w.heap.size w wr)) (fun _ i _ => c.length - (intOf i).toNat)
  case atStart => exact ⟨0, 0, 0, 0, 0, by omega, rfl, rfl, Lib.hid rfl, Lib.hid ⟨rfl, rfl, rfl⟩, Lib.hid (ch_nil _), hX0, hB0⟩
  case round =>
    clear hX0 hB0
    obtain ⟨k, nx, s1, s2, s3, hk, rfl, rfl, hn, hS, hC, hX, hB⟩ := hrel
    obtain ⟨n1, n2⟩ := hIn.out k hC.out hk
    rw [← hn.out] at n1 n2
    by_cases hlt : k < c.length
    · obtain ⟨bd, rfl, _, c1⟩ := (hQ.out.below hB.out).get (cellsI_ix hlt)
      have hNo1 := Lib.hid (hNo.out k hlt)
      rw [← hn.out] at hNo1
      by_cases hx0 : ix c k < nx
      · have hR := Lib.hid (hNo1.out (.inl hx0) wr hB.out)
        clear hNo1 hNo hNx hYes hBd hIt hS hC hP hQ hIn hX
        generalize ix c k = x at *
        by_cases hk0 : k = 0
        all_goals
          first
            | (subst hk0; have c1 : wr.cell? bd = some (.int .i64 x) := c1)
            | skip
          go_wp2
          exact bodyPost_ret (by simp [results, Try.results14, go_sem]) rfl hR.out
      · obtain ⟨kk, hkk⟩ : ∃ kk : Nat, ix c k = (kk : Int) := ⟨(ix c k).toNat, by omega⟩
        by_cases hxl : kk < l.length
        · obtain ⟨ad, rfl, hab, x0⟩ := hP.out.get hxl
          have hAt := fun (W : World) (h : Below w.heap.size w W) => x0.keep (w' := W) (B := w.heap.size) (by rw [block_of_add]; exact hab) (fun q hq => h.cell hq)
          obtain ⟨b1, b2, b3⟩ := hBd.out k hC.out
          obtain ⟨i1, i2, i3⟩ := hIt.out kk
          obtain ⟨e1, e2, e3⟩ := hS.out
          rw [← e1] at b1
          rw [← e2] at b2
          rw [← e3] at b3
          have hS2 : Hid (s1 + iA l kk = sK (iA l) (c.take (k + 1)) ∧ s2 + iB l kk = sK (iB l) (c.take (k + 1)) ∧ s3 + iV l kk = sK (iV l) (c.take (k + 1))) := Lib.hid ⟨by rw [e1]; exact sum_next _ hlt hkk, by rw [e2]; exact sum_next _ hlt hkk, by rw [e3]; exact sum_next _ hlt hkk⟩
          have hC2 := Lib.hid (hNx.out k kk hC.out hlt hkk hxl (by rw [← hn.out]; omega))
          have hn2 : Hid ((kk : Int) + 1 = nxI c (k + 1)) := Lib.hid (by rw [nxI_succ, hkk])
          clear e1 e2 e3 hS hC hNx hBd hIt hYes hNo hP hNo1 hn hIn hQ
          rw [hkk] at c1 hx0
          clear hkk
          generalize iA l kk = y1 at *
          generalize iB l kk = y2 at *
          generalize iV l kk = y3 at *
          obtain ⟨x1, _, _⟩ := hAt wr hB.out
          obtain ⟨⟨z0, _, _⟩, zf⟩ := hX.out
          have f0 := zf 0
          obtain ⟨wa, hwa⟩ : ∃ W, (wr.setCell ⟨w.heap.size, 0, none⟩ (.int .i64 (s1 + y1))).drew = W := ⟨_, rfl⟩
          have hXa : Bx3 wa w.heap.size (s1 + y1) s2 s3 := by rw [← hwa]; exact (hX.out.set0 _).drew
          have hBa : Below w.heap.size w wa := by rw [← hwa]; exact (Below.setCell hB.out (p := ⟨w.heap.size, 0, none⟩) (Nat.le_refl _) _).drew
          have hx2 := Lib.hid (hAt wa hBa).2.1
          obtain ⟨wb, hwb⟩ : ∃ W, (wa.setCell ⟨w.heap.size, 1, none⟩ (.int .i64 (s2 + y2))).drew = W := ⟨_, rfl⟩
          have hXb : Bx3 wb w.heap.size (s1 + y1) (s2 + y2) s3 := by rw [← hwb]; exact (hXa.set1 _).drew
          have hBb : Below w.heap.size w wb := by rw [← hwb]; exact (Below.setCell hBa (p := ⟨w.heap.size, 1, none⟩) (Nat.le_refl _) _).drew
          have hx3 := Lib.hid (hAt wb hBb).2.2
          have hXc : Hid (Bx3 ((wb.setCell ⟨w.heap.size, 2, none⟩ (.int .i64 (s3 + y3))).drew) w.heap.size (s1 + y1) (s2 + y2) (s3 + y3)) := Lib.hid ((hXb.set2 _).drew)
          have hBc : Hid (Below w.heap.size w ((wb.setCell ⟨w.heap.size, 2, none⟩ (.int .i64 (s3 + y3))).drew)) := Lib.hid ((Below.setCell hBb (p := ⟨w.heap.size, 2, none⟩) (Nat.le_refl _) _).drew)
          have hza := Lib.hid (And.intro hXa.1.2.1 (hXa.2 1))
          have hzb := Lib.hid (And.intro hXb.1.2.2 (hXb.2 2))
          have Hwa := Lib.hid hwa
          have Hwb := Lib.hid hwb
          clear hwa hwb hAt hX hB hXa hBa hXb hBb zf x0 hab
          have hp0 : (0 : Int) ≤ (kk : Int) := by omega
          have hp1 : (kk : Int) < (l.length : Int) := by omega
          by_cases hk0 : k = 0
          all_goals
            first
              | (subst hk0; have c1 : wr.cell? bd = some (.int .i64 (kk : Int)) := c1)
              | skip
            go_wp2
            go_region
            rw [Hwa.out]
            have x2 := hx2.out
            have z1 : wa.cell? ⟨w.heap.size, 1, none⟩ = some (.int .i64 s2) := hza.out.1
            have f1 := hza.out.2
            clear c1 z0 f0 x1
            go_wp2
            go_region
            rw [Hwb.out]
            have x3 := hx3.out
            have z2 : wb.cell? ⟨w.heap.size, 2, none⟩ = some (.int .i64 s3) := hzb.out.1
            have f2 := hzb.out.2
            clear x2 z1 f1
            go_wp2
            go_region
            clear x3 z2 f2
            go_wp2
            first
              | exact ⟨⟨1, _, _, _, _, by omega, rfl, rfl, hn2, hS2, hC2, hXc, hBc⟩, by simp [intOf]; omega⟩
              | exact ⟨⟨k + 1, _, _, _, _, by omega, by go_num, rfl, hn2, hS2, hC2, hXc, hBc⟩, by simp [intOf]; omega⟩
        · have hR := Lib.hid (hNo1.out (.inr (by omega)) wr hB.out)
          clear hNo1 hNo hNx hYes hBd hIt hS hC hP hQ hIn hX
          rw [hkk] at c1 hx0
          clear hkk
          by_cases hk0 : k = 0
          all_goals
            first
              | (subst hk0; have c1 : wr.cell? bd = some (.int .i64 (kk : Int)) := c1)
              | skip
            go_wp2
            exact bodyPost_ret (by simp [results, Try.results14, go_sem]) rfl hR.out
    · obtain rfl : k = c.length := by omega
      have hCc := hC.out
      have hSc := hS.out
      rw [List.take_length] at hCc hSc
      obtain ⟨e1, e2, e3⟩ := hSc
      have hR := fun (n : Nat) => hYes.out hCc (wr.drewN n) (below_drewN hB.out n)
      rw [← e1, ← e2, ← e3] at hR
      have hR := Lib.hid hR
      obtain ⟨⟨z0, z1, z2⟩, _⟩ := hX.out
      clear hNo hNx hYes hBd hIt hS hC hP hQ hCc e1 e2 e3 hIn hX
      go_wp2
      go_quiet (fail)
      go_wp2
      exact bodyPost_ret (by simp [results, Try.results14, go_sem]) rfl (hR.out _)
set_option maxRecDepth 100000 in
set_option maxHeartbeats 1000000 in
theorem gFits_any (A B : Option Addr) (l : List It) (c : List Int) (d e : Nat) (a b : Int) (w : World) (hp : Its w w.heap.size A l) (hd : l.length ≤ d) (hq : Rd w w.heap.size B e (cellsI c)) (hr : Rt l) (hm : c.length ≤ 1000000) :
    Calls Try.prog 16 #[.slice A l.length d, .slice B c.length e, .int .i64 a, .int .i64 b] w fun en w' => en = .returned (.bool (fitB l c a b)) ∧ Below w.heap.size w w' := by
  have k := gNeed_any A B l c d e w hp hd hq hr hm
  unfold NeedPost NeedE at k
  have k := Lib.hid k
  have hE : Hid (fitB l c a b = (chB l c && (decide (nS l (iA l) c ≤ a) && decide (nS l (iB l) c ≤ b)))) := Lib.hid rfl
  generalize fitB l c a b = r at *
  generalize nS l (iA l) c = x at *
  generalize nS l (iB l) c = y at *
  generalize nS l (iV l) c = z at *
  generalize chB l c = q at *
  clear hp hq hr
  go_enter Try.func16, Try.ntmps16
  cases q
  all_goals
    by_cases h1 : x ≤ a
    all_goals
      by_cases h2 : y ≤ b
      all_goals
        go_wp2_with (go_at_call 14; (with_reducible refine (k.out).mono ?_); rintro en w1 ⟨rfl, b1⟩; (have B1 := Lib.hid b1); clear b1)
        go_ret
        exact ⟨congrArg (fun b => Ending.returned (.bool b)) (by rw [hE.out]; simp [h1, h2]), B1.out⟩
end Go.Proofs.Ytjbfkbdjopbjjaa
