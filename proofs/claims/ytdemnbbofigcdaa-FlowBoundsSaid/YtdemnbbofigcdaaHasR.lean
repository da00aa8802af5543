/- The reference's has and Same. -/
import Derived.Test.YtdemnbbofigcdaaHas
namespace Go.Proofs.Ytdemnbbofigcdaa
open Go.RowKit

set_option maxRecDepth 100000 in
set_option maxHeartbeats 1000000 in
theorem has_any (A : Option Addr) (l : List Int) (c : Nat) (n : Int) (w : World) (hp : Rd w w.heap.size A c (cellsI l)) (hmax : l.length ≤ 9223372036854775807) :
    Calls Try.prog 37 #[.slice A l.length c, .int .i64 n] w fun e w' => e = .returned (.bool (hasB l n)) ∧ w = w' := by
  have hP := Lib.hid hp
  clear hp
  go_enter Try.func37, Try.ntmps37
  go_wp2
  go_loop [5] (fun i => ∃ k : Nat, k ≤ l.length ∧ i = .int .i64 k ∧ Hid (n ∉ l.take k)) (fun i => l.length - (intOf i).toNat)
  case atStart => exact ⟨0, by omega, rfl, Lib.hid (by simp)⟩
  case round =>
    obtain ⟨k, hk, rfl, hN⟩ := hrel
    by_cases hlt : k < l.length
    · obtain ⟨ad, rfl, _, c1⟩ := hP.out.get (cellsI_ix hlt)
      have hY := Lib.hid (fun (h : ix l k = n) => hasB_true (h ▸ ix_mem hlt))
      have hX := Lib.hid (fun (h : ¬ ix l k = n) => not_take_next hlt hN.out h)
      generalize ix l k = x at c1 hY hX
      clear hN hP
      by_cases hk0 : k = 0
      all_goals
        first
          | (subst hk0; have c1 : w.cell? ad = some (.int .i64 x) := c1)
          | skip
        by_cases hx : x = n
        · have hR := Lib.hid (hY.out hx)
          subst hx
          clear hX hY
          go_wp2
          go_ret
          exact ⟨congrArg (fun b => Ending.returned (.bool b)) hR.out.symm, rfl⟩
        · have hR := Lib.hid (hX.out hx)
          have hb := beq_eq_false_iff_ne.2 hx
          clear hX hY
          go_wp2
          first
            | exact ⟨⟨1, by omega, rfl, hR⟩, by simp [intOf]; omega⟩
            | exact ⟨⟨k + 1, by omega, by go_num, hR⟩, by simp [intOf]; omega⟩
    · obtain rfl : k = l.length := by omega
      have hR : Hid (hasB l n = false) := Lib.hid (hasB_false (by have := hN.out; rwa [List.take_length] at this))
      clear hN hP
      go_wp2
      go_ret
      exact ⟨congrArg (fun b => Ending.returned (.bool b)) hR.out.symm, rfl⟩

set_option maxRecDepth 100000 in
set_option maxHeartbeats 1000000 in
theorem same_any (A B : Option Addr) (a b : List Int) (c d : Nat) (w : World) (ha : Rd w w.heap.size A c (cellsI a)) (hb : Rd w w.heap.size B d (cellsI b)) (hmax : a.length ≤ 9223372036854775807) :
    Calls Try.prog 20 #[.slice A a.length c, .slice B b.length d] w fun e w' => e = .returned (.bool (eqL a b)) ∧ Below w.heap.size w w' := by
  have hA := Lib.hid ha
  have hB := Lib.hid hb
  clear ha hb
  by_cases hl : a.length = b.length
  · have hne : ((a.length : Int) != (b.length : Int)) = false := by rw [hl]; simp
    have hL := Lib.hid hl
    clear hl
    go_enter Try.func20, Try.ntmps20
    go_wp2
    go_loopw [5] (fun i wr => ∃ k : Nat, k ≤ a.length ∧ i = .int .i64 k ∧ Below w.heap.size w wr ∧ Hid (a.take k = b.take k)) (fun i _ => a.length - (intOf i).toNat)
    case atStart => exact ⟨0, by omega, rfl, Below.refl _ _, Lib.hid rfl⟩
    case round =>
      obtain ⟨k, hk, rfl, hb, hT⟩ := hrel
      have hBe := Lib.hid hb
      clear hb
      by_cases hlt : k < a.length
      · have hlb : k < b.length := by have := hL.out; omega
        obtain ⟨ad, rfl, _, c1⟩ := (hA.out.below hBe.out).get (cellsI_ix hlt)
        obtain ⟨bd, rfl, _, c2⟩ := (hB.out.below hBe.out).get (cellsI_ix hlb)
        have hX := Lib.hid (fun (h : ix a k = ix b k) => take_next hT.out hlt hlb h)
        have hY : Hid (¬ ix a k = ix b k → eqL a b = false) := Lib.hid (fun h => eqL_false (fun e => h (by rw [e])))
        generalize ix a k = x at c1 hX hY
        generalize ix b k = y at c2 hX hY
        clear hT hA hB hL
        by_cases hk0 : k = 0
        all_goals
          first
            | (subst hk0; have c1 : wr.cell? ad = some (.int .i64 x) := c1; have c2 : wr.cell? bd = some (.int .i64 y) := c2)
            | skip
          by_cases hx : x = y
          · have hR := Lib.hid (hX.out hx)
            subst hx
            clear hX hY
            go_wp2
            go_quiet (fail)
            go_wp2
            first
              | exact ⟨⟨1, by omega, rfl, below_drewN hBe.out _, hR⟩, by simp [intOf]; omega⟩
              | exact ⟨⟨k + 1, by omega, by go_num, below_drewN hBe.out _, hR⟩, by simp [intOf]; omega⟩
          · have hR := Lib.hid (hY.out hx)
            have hne2 : (x != y) = true := bne_iff_ne.2 hx
            clear hX hY
            go_wp2
            go_quiet (fail)
            go_wp2
            go_ret
            exact ⟨congrArg (fun b => Ending.returned (.bool b)) hR.out.symm, below_drewN hBe.out _⟩
      · obtain rfl : k = a.length := by omega
        have hR : Hid (eqL a b = true) := Lib.hid (eqL_true (by have := hT.out; rw [List.take_length, hL.out, List.take_length] at this; exact this))
        clear hT hA hB hL
        go_wp2
        go_ret
        exact ⟨congrArg (fun b => Ending.returned (.bool b)) hR.out.symm, hBe.out⟩
  · have hne : ((a.length : Int) != (b.length : Int)) = true := bne_iff_ne.2 (by omega)
    have hR := Lib.hid (eqL_false (a := a) (b := b) (fun e => hl (by rw [e])))
    clear hA hB
    go_enter Try.func20, Try.ntmps20
    go_wp2
    go_ret
    exact ⟨congrArg (fun b => Ending.returned (.bool b)) hR.out.symm, Below.refl _ _⟩
end Go.Proofs.Ytdemnbbofigcdaa
