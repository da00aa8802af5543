/- Comparing: cmp.Compare, cmp.Or, the package's compareTrails; slices.Index and Contains. -/
import Derived.Test.YtdemnbbofigcdaaMapV
import Derived.Test.YtdemnbbofigcdaaApp
import Derived.Test.YtdemnbbofigcdaaRefRight
import Derived.Deep.RegionHeld3
namespace Go.Proofs.Ytdemnbbofigcdaa
open Go.RowKit

def cmpI (x y : Int) : Int := if x < y then -1 else if y < x then 1 else 0
/-- The first of three that is not zero. -/
def or3 (a b c : Int) : Int := if a ≠ 0 then a else if b ≠ 0 then b else c
structure Tr where
  node : Int
  cost : Int
  edges : Int
  first : Int
deriving DecidableEq
def trV (t : Tr) : Value := .agg #[.int .i64 t.node, .int .i64 t.cost, .int .i64 t.edges, .int .i64 t.first]
def cmpT (a b : Tr) : Int := or3 (cmpI a.cost b.cost) (cmpI a.edges b.edges) (cmpI a.first b.first)
set_option maxRecDepth 100000 in
set_option maxHeartbeats 1000000 in
theorem index_any (A : Option Addr) (l : List Int) (c : Nat) (n : Int) (w : World) (hp : Rd w w.heap.size A c (cellsI l)) (hmax : l.length ≤ 1000000000) :
    Calls Try.prog 49 #[.slice A l.length c, .int .i64 n] w fun e w' => e = .returned (.int .i64 (plc l n)) ∧ w = w' := by
  have hP := Lib.hid hp
  clear hp
  go_enter Try.func49, Try.ntmps49
  go_wp2
  go_loop [8] (fun i => ∃ k : Nat, k ≤ l.length ∧ i = .int .i64 k ∧ Hid (n ∉ l.take k)) (fun i => l.length - (intOf i).toNat)
  case atStart => exact ⟨0, by omega, rfl, Lib.hid (by simp)⟩
  case round =>
    obtain ⟨k, hk, rfl, hN⟩ := hrel
    by_cases hlt : k < l.length
    · obtain ⟨ad, rfl, _, c1⟩ := hP.out.get (cellsI_ix hlt)
      have hY := Lib.hid (fun (h : ix l k = n) => plc_at hlt hN.out h)
      have hX := Lib.hid (fun (h : ¬ ix l k = n) => not_take_next hlt hN.out h)
      generalize ix l k = x at c1 hY hX
      clear hN hP
      by_cases hk0 : k = 0
      all_goals
        first
          | (subst hk0; have c1 : w.cell? ad = some (.int .i64 x) := c1)
          | skip
        by_cases hx : x = n
        · have hR := Lib.hid (hY.out hx)
          subst hx
          clear hX hY
          go_wp2
          go_ret
          exact ⟨congrArg (fun b => Ending.returned (.int .i64 b)) hR.out.symm, rfl⟩
        · have hR := Lib.hid (hX.out hx)
          have hb := beq_eq_false_iff_ne.2 (Ne.symm hx)
          clear hX hY
          go_wp2
          first
            | exact ⟨⟨1, by omega, rfl, hR⟩, by simp [intOf]; omega⟩
            | exact ⟨⟨k + 1, by omega, by go_num, hR⟩, by simp [intOf]; omega⟩
    · obtain rfl : k = l.length := by omega
      have hR : Hid (plc l n = -1) := Lib.hid (plc_not (by have := hN.out; rwa [List.take_length] at this))
      clear hN hP
      go_wp2
      go_ret
      exact ⟨congrArg (fun b => Ending.returned (.int .i64 b)) hR.out.symm, rfl⟩
theorem plc_in {l : List Int} {n : Int} (h : n ∈ l) : 0 ≤ plc l n := by
  induction l with
  | nil => cases h
  | cons x l ih =>
    rw [plc]
    split
    · omega
    · rename_i hx
      rcases List.mem_cons.1 h with rfl | h
      · exact absurd rfl hx
      · have := ih h
        rw [if_neg (by omega)]
        omega
theorem contains_any (A : Option Addr) (l : List Int) (c : Nat) (n : Int) (w : World) (hp : Rd w w.heap.size A c (cellsI l)) (hmax : l.length ≤ 1000000000) :
    Calls Try.prog 35 #[.slice A l.length c, .int .i64 n] w fun e w' => e = .returned (.bool (hasB l n)) ∧ w = w' := by
  have k1 := Lib.hid (index_any A l c n w hp hmax)
  clear hp
  by_cases hm : n ∈ l
  · rw [hasB_true hm]
    have h0 := plc_in hm
    generalize plc l n = y at *
    go_enter Try.func35, Try.ntmps35
    go_wp2_with (go_at_call 49; (with_reducible refine (k1.out).mono ?_); rintro e wq ⟨rfl, rfl⟩)
    go_ret
    exact ⟨rfl, rfl⟩
  · rw [hasB_false hm]
    have h0 := plc_not hm
    rw [h0] at k1
    clear h0
    go_enter Try.func35, Try.ntmps35
    go_wp2_with (go_at_call 49; (with_reducible refine (k1.out).mono ?_); rintro e wq ⟨rfl, rfl⟩)
    go_ret
    exact ⟨rfl, rfl⟩
end Go.Proofs.Ytdemnbbofigcdaa
