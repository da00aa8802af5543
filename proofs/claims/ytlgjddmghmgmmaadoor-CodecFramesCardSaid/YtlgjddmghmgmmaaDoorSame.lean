/- Same, bytes.Equal, SameList, natural. -/
import Derived.Test.YtlgjddmghmgmmaaDoorMem
import Derived.Deep.QuietTactic
import Derived.BigQuiet
import Derived.WalkSpells
namespace Go.Proofs.YtlgjddmghmgmmaaDoor
open Go.RowKit

set_option maxHeartbeats 1000000 in
theorem same_any (A B : Option Addr) (l m : List UInt8) (c d : Nat) (w : World) (hl : Rd w w.heap.size A c (cells8 l)) (hm : Rd w w.heap.size B d (cells8 m)) :
    Calls Tryd.prog 14 #[.slice A l.length c, .slice B m.length d] w fun e w' => e = .returned (.bool (eqB l m)) ∧ w = w' := by
  have k1 := convert_rd hl 22 9 5 Tryd.underlying22 Tryd.underlying5 Tryd.underlying9
  have k2 := convert_rd hm 22 9 5 Tryd.underlying22 Tryd.underlying5 Tryd.underlying9
  clear hl hm
  by_cases h : l = m
  · have hE := Lib.hid (eqB_true h)
    rw [h] at k1
    generalize strOf m = s at k1 k2
    subst h
    go_enter Tryd.func14, Tryd.ntmps14
    go_wp2
    go_ret
    exact ⟨congrArg (fun b => Ending.returned (.bool b)) hE.out.symm, rfl⟩
  · have hE := Lib.hid (eqB_false h)
    have hs : ((strOf l).toList == (strOf m).toList) = false := beq_eq_false_iff_ne.2 (by rw [ByteArray.toList_eq, ByteArray.toList_eq]; exact h)
    generalize strOf m = s at k2 hs
    generalize strOf l = t at k1 hs
    go_enter Tryd.func14, Tryd.ntmps14
    go_wp2
    go_ret
    exact ⟨congrArg (fun b => Ending.returned (.bool b)) hE.out.symm, rfl⟩
set_option maxHeartbeats 1000000 in
theorem equal_any (A B : Option Addr) (l m : List UInt8) (c d : Nat) (w : World) (hl : Rd w w.heap.size A c (cells8 l)) (hm : Rd w w.heap.size B d (cells8 m)) :
    Calls Tryd.prog 37 #[.slice A l.length c, .slice B m.length d] w fun e w' => e = .returned (.bool (eqB l m)) ∧ w = w' := by
  have k1 := convert_rd hl 22 9 5 Tryd.underlying22 Tryd.underlying5 Tryd.underlying9
  have k2 := convert_rd hm 22 9 5 Tryd.underlying22 Tryd.underlying5 Tryd.underlying9
  clear hl hm
  by_cases h : l = m
  · have hE := Lib.hid (eqB_true h)
    rw [h] at k1
    generalize strOf m = s at k1 k2
    subst h
    go_enter Tryd.func37, Tryd.ntmps37
    go_wp2
    go_ret
    exact ⟨congrArg (fun b => Ending.returned (.bool b)) hE.out.symm, rfl⟩
  · have hE := Lib.hid (eqB_false h)
    have hs : ((strOf l).toList == (strOf m).toList) = false := beq_eq_false_iff_ne.2 (by rw [ByteArray.toList_eq, ByteArray.toList_eq]; exact h)
    generalize strOf m = s at k2 hs
    generalize strOf l = t at k1 hs
    go_enter Tryd.func37, Tryd.ntmps37
    go_wp2
    go_ret
    exact ⟨congrArg (fun b => Ending.returned (.bool b)) hE.out.symm, rfl⟩

def ixI (l : List Int) (i : Nat) : Int := l[i]?.getD 0
theorem ixI_at {l : List Int} {i : Nat} (h : i < l.length) : ixI l i = l[i] := by unfold ixI; rw [List.getElem?_eq_getElem h]; rfl
theorem cellsI_ix {l : List Int} {i : Nat} (h : i < l.length) : (cellsI l)[i]? = some (.int .i64 (ixI l i)) := by rw [cellsI_at h, ixI_at h]

set_option maxRecDepth 100000 in
set_option maxHeartbeats 1000000 in
theorem sameList_any (A B : Option Addr) (l : List Int) (c d : Nat) (w : World) (hl : Rd w w.heap.size A c (cellsI l)) (hm : Rd w w.heap.size B d (cellsI l)) (_ : l.length ≤ 10000000) :
    Calls Tryd.prog 25 #[.slice A l.length c, .slice B l.length d] w fun e w' => e = .returned (.bool true) ∧ Below w.heap.size w w' := by
  have hL := Lib.hid hl
  have hM := Lib.hid hm
  clear hl hm
  go_enter Tryd.func25, Tryd.ntmps25
  go_wp2
  go_loopw [5] (fun i wr => ∃ k : Nat, k ≤ l.length ∧ i = .int .i64 k ∧ Below w.heap.size w wr) (fun i _ => l.length - (intOf i).toNat)
  case atStart => exact ⟨0, by omega, rfl, Below.refl _ _⟩
  case round =>
    obtain ⟨k, hk, rfl, hb⟩ := hrel
    by_cases hlt : k < l.length
    · obtain ⟨ad, rfl, _, c1⟩ := (hL.out.below hb).get (cellsI_ix hlt)
      obtain ⟨ad2, rfl, _, c2⟩ := (hM.out.below hb).get (cellsI_ix hlt)
      generalize ixI l k = x at c1 c2
      have hB := Lib.hid hb
      clear hb hL hM
      by_cases hk0 : k = 0
      · subst hk0
        have c1 : wr.cell? ad = some (.int .i64 x) := c1
        have c2 : wr.cell? ad2 = some (.int .i64 x) := c2
        go_wp2
        go_quiet (fail)
        go_wp2
        exact ⟨⟨1, by omega, rfl, below_drewN hB.out _⟩, by simp [intOf]; omega⟩
      · go_wp2
        go_quiet (fail)
        go_wp2
        exact ⟨⟨k + 1, by omega, by go_num, below_drewN hB.out _⟩, by simp [intOf]; omega⟩
    · have hB := Lib.hid hb
      clear hb hL hM
      go_wp2
      go_ret
      exact ⟨rfl, hB.out⟩

/-- natural's answer. -/
def natB (l : List Int) : Bool := decide (l.length ≤ 300 ∧ ∀ x ∈ l, 0 ≤ x)
theorem natB_true {l : List Int} (h1 : l.length ≤ 300) (h2 : ∀ i, i < l.length → 0 ≤ ixI l i) : natB l = true := decide_eq_true ⟨h1, fun x hx => by
  obtain ⟨i, hi, rfl⟩ := List.getElem_of_mem hx
  rw [← ixI_at hi]
  exact h2 i hi⟩
theorem natB_long {l : List Int} (h1 : ¬ l.length ≤ 300) : natB l = false := decide_eq_false fun h => h1 h.1
theorem natB_neg {l : List Int} {k : Nat} (hk : k < l.length) (h : ixI l k < 0) : natB l = false := decide_eq_false fun h2 => by
  have := h2.2 l[k] (List.getElem_mem hk)
  rw [ixI_at hk] at h
  omega
theorem natB_of {l : List Int} (h : natB l = true) : l.length ≤ 300 ∧ ∀ x ∈ l, 0 ≤ x := of_decide_eq_true h
set_option maxRecDepth 100000 in
set_option maxHeartbeats 1000000 in
theorem natural_any (A : Option Addr) (l : List Int) (c : Nat) (w : World) (hl : Rd w w.heap.size A c (cellsI l)) (_ : c ≤ 9223372036854775807) :
    Calls Tryd.prog 32 #[.slice A l.length c] w fun e w' => e = .returned (.bool (natB l)) ∧ w = w' := by
  have hlc := hl.1
  rw [cellsI_len] at hlc
  have hL := Lib.hid hl
  clear hl
  go_enter Tryd.func32, Tryd.ntmps32
  go_wp2
  go_loop [3] (fun i => ∃ k : Nat, k ≤ l.length ∧ k ≤ 301 ∧ i = .int .i64 k ∧ Hid (∀ i, i < k → 0 ≤ ixI l i)) (fun i => l.length - (intOf i).toNat)
  case atStart => exact ⟨0, by omega, by omega, rfl, Lib.hid (fun i h => absurd h (by omega))⟩
  case round =>
    obtain ⟨k, hk, hk3, rfl, hA⟩ := hrel
    by_cases hlt : k < l.length
    · by_cases hlt3 : k < 301
      · obtain ⟨ad, rfl, _, c1⟩ := hL.out.get (cellsI_ix hlt)
        generalize hx : ixI l k = x at c1
        have hX := Lib.hid hx
        clear hx hL
        by_cases hneg : x < 0
        · have hV := Lib.hid (natB_neg hlt (by rw [hX.out]; exact hneg))
          by_cases hk0 : k = 0
          · subst hk0
            have c1 : w.cell? ad = some (.int .i64 x) := c1
            go_wp2
            go_ret
            exact ⟨congrArg (fun b => Ending.returned (.bool b)) hV.out.symm, rfl⟩
          · go_wp2
            go_ret
            exact ⟨congrArg (fun b => Ending.returned (.bool b)) hV.out.symm, rfl⟩
        · have hV : Hid (∀ i, i < k + 1 → 0 ≤ ixI l i) := Lib.hid (fun i hi => by
            rcases Nat.lt_or_ge i k with h | h
            · exact hA.out i h
            · obtain rfl : i = k := by omega
              rw [hX.out]; omega)
          by_cases hk0 : k = 0
          · subst hk0
            have c1 : w.cell? ad = some (.int .i64 x) := c1
            go_wp2
            exact ⟨⟨1, by omega, by omega, rfl, hV⟩, by simp [intOf]; omega⟩
          · go_wp2
            exact ⟨⟨k + 1, by omega, by omega, by go_num, hV⟩, by simp [intOf]; omega⟩
      · have hV := Lib.hid (natB_long (l := l) (by omega))
        have hD : Hid (decide ((l.length : Int) ≤ 300) = false) := Lib.hid (decide_eq_false (by omega))
        go_wp2
        go_ret
        exact ⟨congrArg (fun b => Ending.returned (.bool b)) (hD.out.trans hV.out.symm), rfl⟩
    · obtain rfl : k = l.length := by omega
      by_cases h300 : l.length ≤ 300
      · have hV := Lib.hid (natB_true h300 hA.out)
        have hD : Hid (decide ((l.length : Int) ≤ 300) = true) := Lib.hid (decide_eq_true (by omega))
        clear hL
        go_wp2
        go_ret
        exact ⟨congrArg (fun b => Ending.returned (.bool b)) (hD.out.trans hV.out.symm), rfl⟩
      · have hV := Lib.hid (natB_long h300)
        have hD : Hid (decide ((l.length : Int) ≤ 300) = false) := Lib.hid (decide_eq_false (by omega))
        clear hL
        go_wp2
        go_ret
        exact ⟨congrArg (fun b => Ending.returned (.bool b)) (hD.out.trans hV.out.symm), rfl⟩
end Go.Proofs.YtlgjddmghmgmmaaDoor
