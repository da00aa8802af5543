/- slices.BinarySearchFunc at ints; the package's insert at ints. -/
import Derived.Test.YtlaklfiodmnocaaCmp
import Derived.Test.YtlaklfiodmnocaaInsI
namespace Go.Proofs.Ytlaklfiodmnocaa
open Go.RowKit

/-- i parts the list: what is before x, what is not. -/
def Parts (l : List Int) (x : Int) (i : Nat) : Prop := i ≤ l.length ∧ (∀ k, k < i → ix l k < x) ∧ ∀ k, i ≤ k → k < l.length → x ≤ ix l k
theorem parts_le {l : List Int} {x : Int} {i : Nat} (h : Parts l x i) : i ≤ l.length := h.1
def BinPost (l : List Int) (x : Int) (w : World) (e : Ending) (w' : World) : Prop := ∃ (i : Nat) (b : Bool), e = .returned (.tuple #[.int .i64 (i : Int), .bool b]) ∧ Parts l x i ∧ w = w'
theorem ix_mono {l : List Int} (h : l.Pairwise (· ≤ ·)) {a b : Nat} (hab : a ≤ b) (hb : b < l.length) : ix l a ≤ ix l b := by
  rw [ix_at hb, ix_at (by omega)]
  rcases Nat.lt_or_ge a b with hlt | hge
  · exact (List.pairwise_iff_getElem.1 h) a b (by omega) hb hlt
  · obtain rfl : a = b := by omega
    exact Int.le_refl _

set_option maxRecDepth 100000 in
set_option maxHeartbeats 2000000 in
theorem bin_anyI (A : Option Addr) (l : List Int) (c : Nat) (x : Int) (w : World) (hp : Rd w w.heap.size A c (cellsI l)) (hmax : l.length ≤ 1000000) (hs : l.Pairwise (· ≤ ·)) :
    Calls Try.prog 57 #[.slice A l.length c, .int .i64 x, .func (.func 42) #[] #[]] w (BinPost l x w) := by
  have hP := Lib.hid hp
  have hS := Lib.hid hs
  have kc := Lib.hid compare_any
  clear hp hs
  go_enter Try.func57, Try.ntmps57
  go_wp2
  go_loop [9, 10] (fun a b => ∃ lo hi : Nat, lo ≤ hi ∧ hi ≤ l.length ∧ a = .int .i64 lo ∧ b = .int .i64 hi ∧ Hid (∀ k, k < lo → ix l k < x) ∧ Hid (∀ k, hi ≤ k → k < l.length → x ≤ ix l k)) (fun a b => (intOf b).toNat - (intOf a).toNat)
  case atStart => exact ⟨0, l.length, by omega, Nat.le_refl _, rfl, rfl, Lib.hid (by omega), Lib.hid (by omega)⟩
  case round =>
    obtain ⟨lo, hi, hlh, hhl, rfl, rfl, h1, h2⟩ := hrel
    by_cases hlt : lo < hi
    · obtain ⟨m, hm⟩ : ∃ m, m = (lo + hi) / 2 := ⟨_, rfl⟩
      have hml : m < l.length := by omega
      obtain ⟨ad, rfl, _, c1⟩ := hP.out.get (cellsI_ix hml)
      have hlo : Hid (ix l m < x → ∀ k, k < m + 1 → ix l k < x) := Lib.hid (fun h k hk => Int.lt_of_le_of_lt (ix_mono hS.out (by omega) hml) h)
      have hhi : Hid (¬ ix l m < x → ∀ k, m ≤ k → k < l.length → x ≤ ix l k) := Lib.hid (fun h k hk hkl => Int.le_trans (Int.not_lt.1 h) (ix_mono hS.out hk hkl))
      generalize ix l m = y at c1 hlo hhi
      have k1 := kc.out y x
      have hme : ((lo : Int) + (hi : Int)) / 2 = (m : Int) := by omega
      have hM := Lib.hid hm
      have hLt := Lib.hid hlt
      clear hm hP kc
      by_cases hyx : y < x
      · rw [show cmpI y x = -1 from if_pos hyx] at k1
        have hN := Lib.hid (hlo.out hyx)
        have K1 := Lib.hid k1
        have hml1 : m + 1 ≤ hi := by have := hM.out; have := hLt.out; omega
        clear hlo hhi k1 hyx
        by_cases hm0 : m = 0
        all_goals
          first
            | (subst hm0; have c1 : w.cell? ad = some (.int .i64 y) := c1)
            | skip
          go_wp2_with (go_at_call 42; (with_reducible refine (K1.out _).mono ?_); rintro e wq ⟨rfl, rfl⟩)
          first
            | exact ⟨⟨1, hi, by omega, hhl, rfl, rfl, hN, h2⟩, by have := hM.out; have := hLt.out; simp [intOf]; omega⟩
            | exact ⟨⟨m + 1, hi, by omega, hhl, by go_num, rfl, hN, h2⟩, by have := hM.out; have := hLt.out; simp [intOf]; omega⟩
      · have hN := Lib.hid (hhi.out hyx)
        have hc0 : ¬ cmpI y x < 0 := by unfold cmpI; rw [if_neg hyx]; split <;> omega
        generalize cmpI y x = z at *
        have K1 := Lib.hid k1
        have hml1 : lo ≤ m ∧ m < hi := by have := hM.out; have := hLt.out; omega
        obtain ⟨hml2, hml3⟩ := hml1
        clear hlo hhi k1 hyx
        by_cases hm0 : m = 0
        all_goals
          first
            | (subst hm0; have c1 : w.cell? ad = some (.int .i64 y) := c1)
            | skip
          go_wp2_with (go_at_call 42; (with_reducible refine (K1.out _).mono ?_); rintro e wq ⟨rfl, rfl⟩)
          first
            | exact ⟨⟨lo, 0, by omega, by omega, rfl, rfl, h1, hN⟩, by have := hM.out; have := hLt.out; simp [intOf]; omega⟩
            | exact ⟨⟨lo, m, by omega, by omega, rfl, rfl, h1, hN⟩, by have := hM.out; have := hLt.out; simp [intOf]; omega⟩
    · obtain rfl : lo = hi := by omega
      have hPt := Lib.hid (show Parts l x lo from ⟨hhl, h1.out, h2.out⟩)
      clear h1 h2
      by_cases hln : lo < l.length
      · obtain ⟨ad, rfl, _, c1⟩ := hP.out.get (cellsI_ix hln)
        generalize ix l lo = y at c1
        have k1 := kc.out y x
        generalize cmpI y x = z at *
        have K1 := Lib.hid k1
        clear kc hP k1
        by_cases hm0 : lo = 0
        all_goals
          first
            | (subst hm0; have c1 : w.cell? ad = some (.int .i64 y) := c1)
            | skip
          go_wp2_with (go_at_call 42; (with_reducible refine (K1.out _).mono ?_); rintro e wq ⟨rfl, rfl⟩)
          go_ret2
          first
            | exact ⟨0, _, rfl, hPt.out, rfl⟩
            | exact ⟨lo, _, rfl, hPt.out, rfl⟩
      · clear hP kc
        go_wp2
        go_ret2
        exact ⟨lo, _, rfl, hPt.out, rfl⟩

theorem parts_ins : ∀ {l : List Int} {x : Int} {i : Nat}, Inc l → x ∉ l → Parts l x i → l.take i ++ (x :: l.drop i) = ins x l
  | [], x, i, _, _, _ => by simp [ins]
  | y :: l, x, 0, h, hx, ⟨_, _, h3⟩ => by
    have h4 : x ≤ y := h3 0 (Nat.le_refl _) (by simp)
    have h5 : ¬ y = x := fun e => hx (by rw [e]; exact List.mem_cons_self ..)
    rw [ins, if_neg (by omega), if_neg h5]
    rfl
  | y :: l, x, i + 1, h, hx, ⟨h1, h2, h3⟩ => by
    have h4 : y < x := h2 0 (by omega)
    rw [ins, if_pos h4, List.take_succ_cons, List.drop_succ_cons, List.cons_append]
    congr 1
    refine parts_ins (inc_cons.1 h).2 (fun hm => hx (List.mem_cons_of_mem _ hm)) ⟨by simpa using h1, fun k hk => ?_, fun k hk hkl => ?_⟩
    · have := h2 (k + 1) (by omega)
      simpa [ix] using this
    · have := h3 (k + 1) (by omega) (by simpa using hkl)
      simpa [ix] using this
/-- What an insertion into a list of numbers leaves. -/
def InsL (W : World) (base : Nat) (A : Option Addr) (l : List Int) (e : Ending) (w' : World) : Prop :=
  ∃ A' cap', e = .returned (.slice A' l.length cap') ∧ Ow w' base 3 1 A' l.length cap' (cellsI l) ∧ W.grownBy w' (blk A) ∧ (blk A' = blk A ∨ ∃ g, blk A' = some g ∧ W.heap.size ≤ g)
theorem insL_of {W w' : World} {base i : Nat} {A : Option Addr} {l : List Int} {x : Int} {T : TypeId} {e : Ending} (hl : Inc l) (hx : x ∉ l) (hp : Parts l x i) (h : InsPost (W.alloc (.cells #[.int .i64 x] T)) base 3 1 A l.length ((cellsI l).take (i * 1) ++ ([.int .i64 x] ++ (cellsI l).drop (i * 1))) e w') : InsL W base A (ins x l) e w' := by
  obtain ⟨A', cap', h1, h2, h3, h4⟩ := h
  have hlen := ins_longer hx
  have hc : (cellsI l).take (i * 1) ++ ([Value.int .i64 x] ++ (cellsI l).drop (i * 1)) = cellsI (ins x l) := by
    rw [← parts_ins hl hx hp, Nat.mul_one]
    simp [cellsI, List.map_take, List.map_drop]
  rw [hc] at h2
  refine ⟨A', cap', by rw [hlen]; exact h1, by rw [hlen]; exact h2, grown_two (World.grownBy_alloc W _ _) h3, h4.imp id (fun ⟨g, hg, hge⟩ => ⟨g, hg, ?_⟩)⟩
  exact Nat.le_trans (by simp) hge
theorem cellsI_one' (l : List Int) : ∀ u ∈ cellsI l, u.oneCell' = true := cellsI_one l

set_option maxRecDepth 100000 in
set_option maxHeartbeats 2000000 in
theorem insert_int (A : Option Addr) (l : List Int) (cap base : Nat) (x : Int) (w : World) (ho : Ow w base 3 1 A l.length cap (cellsI l)) (hl : Inc l) (hx : x ∉ l) (hn : l.length ≤ 1000000) (hb : base ≤ w.heap.size) :
    Calls Try.prog 41 #[.slice A l.length cap, .int .i64 x, .func (.func 42) #[] #[]] w (InsL w base A (ins x l)) := by
  have k1 := Lib.hid (bin_anyI A l cap x w ho.rd hn (hl.imp (fun h => Int.le_of_lt h)))
  have hgv : blk A ≠ some w.heap.size := fun e => by have := (ho.lt _ e).2; omega
  have k2 := Lib.hid (fun (i : Nat) (hi : i ≤ l.length) => insert_anyI A l.length cap base w.heap.size i (cellsI l) [.int .i64 x] (w.alloc (.cells #[.int .i64 x] 3)) (ho.alloc _) (heap_alloc_new w _) rfl (fun u hu => one_i64 (x := x) hu) (cellsI_one l) hn (by simp; omega) hi hgv)
  have hI := Lib.hid (fun (i : Nat) (hp : Parts l x i) (e : Ending) (w' : World) => insL_of (W := w) (w' := w') (base := base) (A := A) (T := 3) (e := e) hl hx hp)
  clear ho hl hx hgv
  go_enter Try.func41, Try.ntmps41
  go_wp2_with (first
    | (go_at_call 57; (with_reducible refine (k1.out).mono ?_); rintro e wq ⟨i, b, rfl, hp, rfl⟩; (have HP := Lib.hid hp); clear hp)
    | (go_at_call 58; (with_reducible refine (k2.out i (parts_le HP.out)).mono ?_); rintro e w2 h2; (obtain ⟨A', cap', h4, h5⟩ := hI.out i HP.out e w2 h2); subst h4; (have H2 := Lib.hid h5); clear h2 h5))
  go_ret
  exact ⟨A', cap', rfl, H2.out⟩
end Go.Proofs.Ytlaklfiodmnocaa
