/- The reference's Get. -/
import Derived.Test.YtlgjddmghmgmmaaDoorGet
namespace Go.Proofs.YtlgjddmghmgmmaaDoor
open Go.RowKit

/-- The reference's inner loop: groups q + 1 and on have been added up. -/
def Down (l : List UInt8) (k : Nat) (n j : Value) : Prop :=
  (j = .int .i64 (-1) ∧ n = .int .i64 (val (l.take (k + 1)) : Nat)) ∨ ∃ q : Nat, q ≤ k ∧ j = .int .i64 q ∧ n = .int .i64 (val ((l.take (k + 1)).drop (q + 1)) : Nat)
theorem val_down {l : List UInt8} {k q : Nat} (hq : q ≤ k) (hk : k < l.length) : val ((l.take (k + 1)).drop q) = bx l q % 128 + 128 * val ((l.take (k + 1)).drop (q + 1)) := by
  have hq' : q < (l.take (k + 1)).length := by rw [List.length_take]; omega
  rw [List.drop_eq_getElem_cons hq', val, bx_at (by omega)]
  simp
theorem val_down_lt {l : List UInt8} {k q : Nat} (hk : k < 9) (hq : q ≤ k) : val ((l.take (k + 1)).drop (q + 1)) < 72057594037927936 := by
  refine Nat.lt_of_lt_of_le (val_lt _) ?_
  rw [show (72057594037927936 : Nat) = 128 ^ 8 by decide]
  exact Nat.pow_le_pow_right (by decide) (by rw [List.length_drop, List.length_take]; omega)
theorem Down.start {l : List UInt8} {k : Nat} : Down l k (.int .i64 0) (.int .i64 k) := .inr ⟨k, Nat.le_refl _, rfl, by
  rw [List.drop_of_length_le (by rw [List.length_take]; omega)]
  rfl⟩
theorem Down.last {l : List UInt8} {k x : Nat} {n : Int} (hk : k < l.length) (hx : bx l 0 = x) (hn : n = ((val ((l.take (k + 1)).drop (0 + 1)) : Nat) : Int) * 128 + (x : Int) % 128) : Down l k (.int .i64 n) (.int .i64 (-1)) := by
  refine .inl ⟨rfl, ?_⟩
  have := val_down (q := 0) (Nat.zero_le k) hk
  rw [List.drop_zero, hx] at this
  rw [hn, this]
  congr 1
  omega
theorem Down.more {l : List UInt8} {k q x : Nat} {n : Int} (h0 : 0 < q) (hq : q ≤ k) (hk : k < l.length) (hx : bx l q = x) (hn : n = ((val ((l.take (k + 1)).drop (q + 1)) : Nat) : Int) * 128 + (x : Int) % 128) : Down l k (.int .i64 n) (.int .i64 ((q : Int) - 1)) := by
  obtain ⟨p, rfl⟩ : ∃ p, q = p + 1 := ⟨q - 1, by omega⟩
  refine .inr ⟨p, by omega, by congr 1; omega, ?_⟩
  have := val_down hq hk
  rw [hx] at this
  rw [hn, this]
  congr 1
  omega

set_option maxRecDepth 100000 in
set_option maxHeartbeats 2000000 in
theorem refGet_any (A : Option Addr) (l : List UInt8) (c : Nat) (w : World) (hp : Rd w w.heap.size A c (cells8 l)) (hmax : c ≤ 9223372036854775807) :
    Calls Tryd.prog 13 #[.slice A l.length c] w fun e w' => e = .returned (getV l) ∧ w = w' := by
  have hlc := hp.1
  rw [cells8_len] at hlc
  have hP := Lib.hid hp
  clear hp
  go_enter Tryd.func13, Tryd.ntmps13
  go_wp2
  go_loop [5] (fun i => ∃ k : Nat, k ≤ 9 ∧ k ≤ pre l ∧ i = .int .i64 k) (fun i => 9 - (intOf i).toNat)
  case atStart => exact ⟨0, by omega, by omega, rfl⟩
  case round =>
    obtain ⟨k, hk, hkp, rfl⟩ := hrel
    have hple := pre_le l
    by_cases hlt : k < 9
    · by_cases hkl : k < l.length
      · obtain ⟨ad, rfl, _, hcell⟩ := hP.out.get (cells8_bx hkl)
        have hc0 := bx_lt l k
        generalize hx : bx l k = x at hcell hc0
        have hX := Lib.hid hx
        clear hx
        have hne : ¬ l = [] := fun h => by rw [h] at hkl; simp at hkl
        by_cases hk0 : k = 0
        · subst hk0
          have hcell : w.cell? ad = some (.int .u8 (x : Int)) := hcell
          by_cases h128 : 128 ≤ x
          · go_wp2
            exact ⟨⟨1, by omega, pre_gt hkp hkl (by rw [← bx_at hkl, hX.out]; exact h128), rfl⟩, by simp [intOf]⟩
          · have hV := Lib.hid (get_fine (k := 0) hkp (by omega) hkl (by rw [hX.out]; omega) (.inl rfl))
            go_wp2
            go_loop [6, 7] (fun n j => Down l 0 n j) (fun _ j => (intOf j + 1).toNat)
            case atStart => exact Down.start
            case round =>
              rcases hrel with ⟨rfl, rfl⟩ | ⟨q, hq, rfl, rfl⟩
              · go_wp2
                go_ret3
                exact ⟨congrArg Ending.returned hV.out.symm, rfl⟩
              · obtain rfl : q = 0 := by omega
                have hD := fun {n : Int} => Lib.hid (Down.last (n := n) hkl hX.out)
                have hb := val_down_lt (l := l) hlt hq
                generalize hv : val ((l.take (0 + 1)).drop (0 + 1)) = v at hb
                have hVv := Lib.hid hv
                clear hv
                go_wp2
                exact ⟨hD.out (by rw [hVv.out]), by simp [intOf]⟩
        · have h128 : 128 ≤ x ∨ x < 128 := by omega
          rcases h128 with h128 | h128
          · go_wp2
            exact ⟨⟨k + 1, by omega, pre_gt hkp hkl (by rw [← bx_at hkl, hX.out]; exact h128), by go_num⟩, by simp [intOf]; omega⟩
          · by_cases h0 : x = 0
            · subst h0
              have hV := Lib.hid (get_form hkp (by omega) hkl (by omega) hX.out)
              go_wp2
              go_ret3
              exact ⟨congrArg Ending.returned hV.out.symm, rfl⟩
            · have hV := Lib.hid (get_fine hkp (by omega) hkl (by rw [hX.out]; omega) (.inr (by rw [hX.out]; exact h0)))
              go_wp2
              go_loop [6, 7] (fun n j => Down l k n j) (fun _ j => (intOf j + 1).toNat)
              case atStart => exact Down.start
              case round =>
                clear hcell hX
                rcases hrel with ⟨rfl, rfl⟩ | ⟨q, hq, rfl, rfl⟩
                · go_wp2
                  go_ret3
                  exact ⟨congrArg Ending.returned hV.out.symm, rfl⟩
                · obtain ⟨ad', h1, _, hcq⟩ := hP.out.get (cells8_bx (i := q) (by omega))
                  injection h1 with h1
                  subst h1
                  have hcq0 := bx_lt l q
                  generalize hy : bx l q = y at hcq hcq0
                  have hb := val_down_lt (l := l) hlt hq
                  generalize hv : val ((l.take (k + 1)).drop (q + 1)) = v at hb
                  have hVv := Lib.hid hv
                  have hY := Lib.hid hy
                  clear hv hy
                  rcases Nat.eq_zero_or_pos q with hq0 | hq0
                  · subst hq0
                    have hcq : w.cell? ad = some (.int .u8 (y : Int)) := hcq
                    have hD := fun {n : Int} => Lib.hid (Down.last (n := n) hkl hY.out)
                    go_wp2
                    exact ⟨hD.out (by rw [hVv.out]), by simp [intOf]⟩
                  · have hD := fun {n : Int} => Lib.hid (Down.more (n := n) hq0 hq hkl hY.out)
                    go_wp2
                    exact ⟨hD.out (by rw [hVv.out]), by simp [intOf]⟩
      · have hV := Lib.hid (get_short (l := l) (by omega) (by omega))
        go_wp2
        go_ret3
        exact ⟨congrArg Ending.returned hV.out.symm, rfl⟩
    · obtain rfl : k = 9 := by omega
      have hV := Lib.hid (get_long (l := l) (by omega))
      go_wp2
      go_ret3
      exact ⟨congrArg Ending.returned hV.out.symm, rfl⟩
end Go.Proofs.YtlgjddmghmgmmaaDoor
