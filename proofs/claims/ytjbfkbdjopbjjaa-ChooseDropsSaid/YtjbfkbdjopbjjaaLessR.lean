/- The reference's Less and Same. -/
import Derived.Test.YtjbfkbdjopbjjaaApp
import Derived.Deep.QuietTactic
import Derived.BigQuiet
namespace Go.Proofs.Ytjbfkbdjopbjjaa
open Go.RowKit

theorem take_next {a b : List Int} {k : Nat} (h : a.take k = b.take k) (ha : k < a.length) (hb : k < b.length) (h2 : ix a k = ix b k) : a.take (k + 1) = b.take (k + 1) := by
  rw [List.take_succ_eq_append_getElem ha, List.take_succ_eq_append_getElem hb, h, ← ix_at ha, ← ix_at hb, h2]
theorem less_ix {a b : List Int} {i : Nat} (h : a.take i = b.take i) (ha : i < a.length) (hb : i < b.length) (hne : ¬ ix a i = ix b i) : lessL a b = decide (ix a i < ix b i) := by
  rw [ix_at ha, ix_at hb] at hne ⊢
  exact less_at h ha hb hne
set_option maxRecDepth 100000 in
set_option maxHeartbeats 2000000 in
theorem less_any (A B : Option Addr) (a b : List Int) (c d : Nat) (w : World) (ha : Rd w w.heap.size A c (cellsI a)) (hb : Rd w w.heap.size B d (cellsI b)) (hma : a.length ≤ 1000000) (hmb : b.length ≤ 1000000) :
    Calls Try.prog 21 #[.slice A a.length c, .slice B b.length d] w fun e w' => e = .returned (.bool (lessL a b)) ∧ Below w.heap.size w w' := by
  have hA := Lib.hid ha
  have hB := Lib.hid hb
  clear ha hb
  go_enter Try.func21, Try.ntmps21
  go_wp2
  go_loopw [5] (fun i wr => ∃ k : Nat, k ≤ a.length ∧ k ≤ b.length ∧ i = .int .i64 k ∧ Hid (Below w.heap.size w wr) ∧ Hid (a.take k = b.take k)) (fun i _ => a.length - (intOf i).toNat)
  case atStart => exact ⟨0, by omega, by omega, rfl, Lib.hid (Below.refl _ _), Lib.hid rfl⟩
  case round =>
    obtain ⟨k, hk, hkb, rfl, hBe, hT⟩ := hrel
    by_cases hlt : k < a.length
    · by_cases hlb : k < b.length
      · obtain ⟨ad, rfl, _, c1⟩ := (hA.out.below hBe.out).get (cellsI_ix hlt)
        obtain ⟨bd, rfl, _, c2⟩ := (hB.out.below hBe.out).get (cellsI_ix hlb)
        have hX := Lib.hid (fun (h : ix a k = ix b k) => take_next hT.out hlt hlb h)
        have hY := Lib.hid (fun (h : ¬ ix a k = ix b k) => less_ix hT.out hlt hlb h)
        generalize ix a k = x at c1 hX hY
        generalize ix b k = y at c2 hX hY
        clear hT hA hB
        by_cases hk0 : k = 0
        all_goals
          first
            | (subst hk0; have c1 : wr.cell? ad = some (.int .i64 x) := c1; have c2 : wr.cell? bd = some (.int .i64 y) := c2)
            | skip
          by_cases hx : x = y
          · have hR := Lib.hid (hX.out hx)
            subst hx
            clear hX hY
            go_wp2
            go_quiet (fail)
            go_wp2
            first
              | exact ⟨⟨1, by omega, by omega, rfl, Lib.hid (below_drewN hBe.out _), hR⟩, by simp [intOf]; omega⟩
              | exact ⟨⟨k + 1, by omega, by omega, by go_num, Lib.hid (below_drewN hBe.out _), hR⟩, by simp [intOf]; omega⟩
          · have hR := Lib.hid (hY.out hx)
            have hne2 : (x != y) = true := bne_iff_ne.2 hx
            clear hX hY
            go_wp2
            go_quiet (fail)
            go_wp2
            go_quiet (fail)
            go_wp2
            go_ret
            exact ⟨congrArg (fun b => Ending.returned (.bool b)) hR.out.symm, below_drewN (below_drewN hBe.out _) _⟩
      · have hR := Lib.hid (less_end hT.out hk hkb (.inr (by omega)))
        clear hT hA hB
        go_wp2
        go_ret
        exact ⟨congrArg (fun b => Ending.returned (.bool b)) (by rw [hR.out]), hBe.out⟩
    · have hR := Lib.hid (less_end hT.out hk hkb (.inl (by omega)))
      clear hT hA hB
      go_wp2
      go_ret
      exact ⟨congrArg (fun b => Ending.returned (.bool b)) (by rw [hR.out]), hBe.out⟩
def eqL (a b : List Int) : Bool := decide (a = b)
theorem eqL_true {a b : List Int} (h : a = b) : eqL a b = true := decide_eq_true h
theorem eqL_false {a b : List Int} (h : a ≠ b) : eqL a b = false := decide_eq_false h
theorem eqL_less (a b : List Int) : eqL a b = (!lessL a b && !lessL b a) := by
  by_cases h : a = b
  · subst h; rw [eqL_true rfl, less_self]; rfl
  · rw [eqL_false h]
    cases h1 : lessL a b with
    | true => rfl
    | false => cases h2 : lessL b a with
      | true => rfl
      | false => exact absurd (less_tri h1 h2) h
set_option maxRecDepth 100000 in
set_option maxHeartbeats 1000000 in
theorem same_any (A B : Option Addr) (a b : List Int) (c d : Nat) (w : World) (ha : Rd w w.heap.size A c (cellsI a)) (hb : Rd w w.heap.size B d (cellsI b)) (hma : a.length ≤ 1000000) (hmb : b.length ≤ 1000000) :
    Calls Try.prog 20 #[.slice A a.length c, .slice B b.length d] w fun e w' => e = .returned (.bool (eqL a b)) ∧ Below w.heap.size w w' := by
  have k1 := Lib.hid (less_any A B a b c d w ha hb hma hmb)
  have k2 := Lib.hid (fun (W : World) (h : Below w.heap.size w W) => less_any B A b a d c W (hb.up h) (ha.up h) hmb hma)
  have hE := Lib.hid (eqL_less a b)
  clear ha hb
  generalize eqL a b = r at *
  generalize lessL a b = x at *
  generalize lessL b a = y at *
  go_enter Try.func20, Try.ntmps20
  cases x
  · go_wp2_with (first
      | (go_at_call 21; (with_reducible refine (k1.out).mono ?_); rintro e w1 ⟨rfl, b1⟩; (have K2 := Lib.hid (k2.out w1 b1)); (have B1 := Lib.hid b1); clear b1)
      | (go_at_call 21; (with_reducible refine (K2.out).mono ?_); rintro e w2 ⟨rfl, b2⟩; (have B2 := Lib.hid (B1.out.trans (b2.mono B1.out.size))); clear b2))
    go_ret
    exact ⟨congrArg (fun b => Ending.returned (.bool b)) (by rw [hE.out]; simp), B2.out⟩
  · go_wp2_with (first
      | (go_at_call 21; (with_reducible refine (k1.out).mono ?_); rintro e w1 ⟨rfl, b1⟩; (have B1 := Lib.hid b1); clear b1))
    go_ret
    exact ⟨congrArg (fun b => Ending.returned (.bool b)) (by rw [hE.out]; simp), B1.out⟩
end Go.Proofs.Ytjbfkbdjopbjjaa
