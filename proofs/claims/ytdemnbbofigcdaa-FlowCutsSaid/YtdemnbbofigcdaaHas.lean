/- The reference's Has and Same; the law's place: functions that only read lists of numbers. -/
import Derived.Test.YtdemnbbofigcdaaMem
import Derived.Deep.QuietTactic
import Derived.BigQuiet
namespace Go.Proofs.Ytdemnbbofigcdaa
open Go.RowKit

def hasB (l : List Int) (n : Int) : Bool := decide (n ∈ l)
theorem hasB_true {l : List Int} {n : Int} (h : n ∈ l) : hasB l n = true := decide_eq_true h
theorem hasB_false {l : List Int} {n : Int} (h : n ∉ l) : hasB l n = false := decide_eq_false h
theorem hasB_iff {l : List Int} {n : Int} : hasB l n = true ↔ n ∈ l := decide_eq_true_iff
theorem hasB_not {l : List Int} {n : Int} : hasB l n = false ↔ n ∉ l := decide_eq_false_iff_not
theorem mem_take_succ {l : List Int} {k : Nat} (hk : k < l.length) {n : Int} : n ∈ l.take (k + 1) ↔ n ∈ l.take k ∨ n = ix l k := by
  rw [List.take_succ_eq_append_getElem hk, List.mem_append, List.mem_singleton, ix_at hk]
theorem ix_mem {l : List Int} {k : Nat} (hk : k < l.length) : ix l k ∈ l := by
  rw [ix_at hk]
  exact List.getElem_mem hk
theorem not_take_next {l : List Int} {k : Nat} (hk : k < l.length) {n : Int} (h : n ∉ l.take k) (h2 : ¬ ix l k = n) : n ∉ l.take (k + 1) := fun hm => by
  rcases (mem_take_succ hk).1 hm with h3 | h3
  · exact h h3
  · exact h2 h3.symm

/-- The index of a number, -1 if it is not there. -/
def plc : List Int → Int → Int
  | [], _ => -1
  | x :: l, n => if x = n then 0 else if plc l n = -1 then -1 else plc l n + 1
theorem plc_ge : ∀ (l : List Int) (n : Int), -1 ≤ plc l n
  | [], _ => by simp [plc]
  | x :: l, n => by
    have := plc_ge l n
    unfold plc
    split
    · omega
    · split <;> omega
theorem plc_lt : ∀ (l : List Int) (n : Int), plc l n < l.length
  | [], _ => by simp [plc]
  | x :: l, n => by
    have := plc_lt l n
    unfold plc
    rw [List.length_cons]
    split
    · omega
    · split <;> omega
theorem plc_not : ∀ {l : List Int} {n : Int}, n ∉ l → plc l n = -1
  | [], _, _ => rfl
  | x :: l, n, h => by
    have h1 : n ∉ l := fun hm => h (List.mem_cons_of_mem _ hm)
    have h2 : ¬ x = n := fun e => h (by simp [e])
    rw [plc, if_neg h2, plc_not h1, if_pos rfl]
theorem plc_at : ∀ {l : List Int} {n : Int} {k : Nat}, k < l.length → n ∉ l.take k → ix l k = n → plc l n = k
  | [], _, _, h, _, _ => absurd h (by simp)
  | x :: l, n, 0, _, _, h => by
    have h : x = n := h
    rw [plc, if_pos h]
    rfl
  | x :: l, n, k + 1, hk, ht, h => by
    rw [List.take_succ_cons] at ht
    have h1 : n ∉ l.take k := fun hm => ht (List.mem_cons_of_mem _ hm)
    have h2 : ¬ x = n := fun e => ht (by simp [e])
    have h3 := plc_at (l := l) (n := n) (k := k) (by simpa using hk) h1 h
    rw [plc, if_neg h2, h3, if_neg (by omega)]
    omega
theorem plc_mem {l : List Int} {n : Int} (h : 0 ≤ plc l n) : n ∈ l := by
  rcases Classical.em (n ∈ l) with hm | hm
  · exact hm
  · have := plc_not hm
    omega

def eqL (a b : List Int) : Bool := decide (a = b)
theorem eqL_true {a b : List Int} (h : a = b) : eqL a b = true := decide_eq_true h
theorem eqL_false {a b : List Int} (h : a ≠ b) : eqL a b = false := decide_eq_false h
theorem take_next {a b : List Int} {k : Nat} (h : a.take k = b.take k) (ha : k < a.length) (hb : k < b.length) (h2 : ix a k = ix b k) : a.take (k + 1) = b.take (k + 1) := by
  rw [List.take_succ_eq_append_getElem ha, List.take_succ_eq_append_getElem hb, h, ← ix_at ha, ← ix_at hb, h2]

end Go.Proofs.Ytdemnbbofigcdaa
