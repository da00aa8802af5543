/- The reference's Has and Same; the law's place: functions that only read lists of numbers. -/
import Derived.Test.YtlaklfiodmnocaaMem
import Derived.Deep.QuietTactic
import Derived.BigQuiet
namespace Go.Proofs.Ytlaklfiodmnocaa
open Go.RowKit

def hasB (l : List Int) (n : Int) : Bool := decide (n ∈ l)
theorem hasB_true {l : List Int} {n : Int} (h : n ∈ l) : hasB l n = true := decide_eq_true h
theorem hasB_false {l : List Int} {n : Int} (h : n ∉ l) : hasB l n = false := decide_eq_false h
theorem hasB_iff {l : List Int} {n : Int} : hasB l n = true ↔ n ∈ l := decide_eq_true_iff
theorem hasB_not {l : List Int} {n : Int} : hasB l n = false ↔ n ∉ l := decide_eq_false_iff_not
theorem mem_take_succ {l : List Int} {k : Nat} (hk : k < l.length) {n : Int} : n ∈ l.take (k + 1) ↔ n ∈ l.take k ∨ n = ix l k := by
  rw [List.take_succ_eq_append_getElem hk, List.mem_append, List.mem_singleton, ix_at hk]
theorem ix_mem {l : List Int} {k : Nat} (hk : k < l.length) : ix l k ∈ l := by
  rw [ix_at hk]
  exact List.getElem_mem hk
theorem not_take_next {l : List Int} {k : Nat} (hk : k < l.length) {n : Int} (h : n ∉ l.take k) (h2 : ¬ ix l k = n) : n ∉ l.take (k + 1) := fun hm => by
  rcases (mem_take_succ hk).1 hm with h3 | h3
  · exact h h3
  · exact h2 h3.symm

set_option maxRecDepth 100000 in
set_option maxHeartbeats 1000000 in
theorem has_any (A : Option Addr) (l : List Int) (c : Nat) (n : Int) (w : World) (hp : Rd w w.heap.size A c (cellsI l)) (hmax : l.length ≤ 9223372036854775807) :
    Calls Try.prog 24 #[.slice A l.length c, .int .i64 n] w fun e w' => e = .returned (.bool (hasB l n)) ∧ w = w' := by
  have hP := Lib.hid hp
  clear hp
  go_enter Try.func24, Try.ntmps24
  go_wp2
  go_loop [5] (fun i => ∃ k : Nat, k ≤ l.length ∧ i = .int .i64 k ∧ Hid (n ∉ l.take k)) (fun i => l.length - (intOf i).toNat)
  case atStart => exact ⟨0, by omega, rfl, Lib.hid (by simp)⟩
  case round =>
    obtain ⟨k, hk, rfl, hN⟩ := hrel
    by_cases hlt : k < l.length
    · obtain ⟨ad, rfl, _, c1⟩ := hP.out.get (cellsI_ix hlt)
      have hY := Lib.hid (fun (h : ix l k = n) => hasB_true (h ▸ ix_mem hlt))
      have hX := Lib.hid (fun (h : ¬ ix l k = n) => not_take_next hlt hN.out h)
      generalize ix l k = x at c1 hY hX
      clear hN hP
      by_cases hk0 : k = 0
      all_goals
        first
          | (subst hk0; have c1 : w.cell? ad = some (.int .i64 x) := c1)
          | skip
        by_cases hx : x = n
        · have hR := Lib.hid (hY.out hx)
          subst hx
          clear hX hY
          go_wp2
          go_ret
          exact ⟨congrArg (fun b => Ending.returned (.bool b)) hR.out.symm, rfl⟩
        · have hR := Lib.hid (hX.out hx)
          have hb := beq_eq_false_iff_ne.2 hx
          clear hX hY
          go_wp2
          first
            | exact ⟨⟨1, by omega, rfl, hR⟩, by simp [intOf]; omega⟩
            | exact ⟨⟨k + 1, by omega, by go_num, hR⟩, by simp [intOf]; omega⟩
    · obtain rfl : k = l.length := by omega
      have hR : Hid (hasB l n = false) := Lib.hid (hasB_false (by have := hN.out; rwa [List.take_length] at this))
      clear hN hP
      go_wp2
      go_ret
      exact ⟨congrArg (fun b => Ending.returned (.bool b)) hR.out.symm, rfl⟩

/-- The index of a number, -1 if it is not there. -/
def plc : List Int → Int → Int
  | [], _ => -1
  | x :: l, n => if x = n then 0 else if plc l n = -1 then -1 else plc l n + 1
theorem plc_ge : ∀ (l : List Int) (n : Int), -1 ≤ plc l n
  | [], _ => by simp [plc]
  | x :: l, n => by
    have := plc_ge l n
    unfold plc
    split
    · omega
    · split <;> omega
theorem plc_lt : ∀ (l : List Int) (n : Int), plc l n < l.length
  | [], _ => by simp [plc]
  | x :: l, n => by
    have := plc_lt l n
    unfold plc
    rw [List.length_cons]
    split
    · omega
    · split <;> omega
theorem plc_not : ∀ {l : List Int} {n : Int}, n ∉ l → plc l n = -1
  | [], _, _ => rfl
  | x :: l, n, h => by
    have h1 : n ∉ l := fun hm => h (List.mem_cons_of_mem _ hm)
    have h2 : ¬ x = n := fun e => h (by simp [e])
    rw [plc, if_neg h2, plc_not h1, if_pos rfl]
theorem plc_at : ∀ {l : List Int} {n : Int} {k : Nat}, k < l.length → n ∉ l.take k → ix l k = n → plc l n = k
  | [], _, _, h, _, _ => absurd h (by simp)
  | x :: l, n, 0, _, _, h => by
    have h : x = n := h
    rw [plc, if_pos h]
    rfl
  | x :: l, n, k + 1, hk, ht, h => by
    rw [List.take_succ_cons] at ht
    have h1 : n ∉ l.take k := fun hm => ht (List.mem_cons_of_mem _ hm)
    have h2 : ¬ x = n := fun e => ht (by simp [e])
    have h3 := plc_at (l := l) (n := n) (k := k) (by simpa using hk) h1 h
    rw [plc, if_neg h2, h3, if_neg (by omega)]
    omega
theorem plc_mem {l : List Int} {n : Int} (h : 0 ≤ plc l n) : n ∈ l := by
  rcases Classical.em (n ∈ l) with hm | hm
  · exact hm
  · have := plc_not hm
    omega

set_option maxRecDepth 100000 in
set_option maxHeartbeats 1000000 in
theorem place_any (A : Option Addr) (l : List Int) (c : Nat) (n : Int) (w : World) (hp : Rd w w.heap.size A c (cellsI l)) (hmax : l.length ≤ 9223372036854775807) :
    Calls Try.prog 26 #[.slice A l.length c, .int .i64 n] w fun e w' => e = .returned (.int .i64 (plc l n)) ∧ w = w' := by
  have hP := Lib.hid hp
  clear hp
  go_enter Try.func26, Try.ntmps26
  go_wp2
  go_loop [5] (fun i => ∃ k : Nat, k ≤ l.length ∧ i = .int .i64 k ∧ Hid (n ∉ l.take k)) (fun i => l.length - (intOf i).toNat)
  case atStart => exact ⟨0, by omega, rfl, Lib.hid (by simp)⟩
  case round =>
    obtain ⟨k, hk, rfl, hN⟩ := hrel
    by_cases hlt : k < l.length
    · obtain ⟨ad, rfl, _, c1⟩ := hP.out.get (cellsI_ix hlt)
      have hY := Lib.hid (fun (h : ix l k = n) => plc_at hlt hN.out h)
      have hX := Lib.hid (fun (h : ¬ ix l k = n) => not_take_next hlt hN.out h)
      generalize ix l k = x at c1 hY hX
      clear hN hP
      by_cases hk0 : k = 0
      all_goals
        first
          | (subst hk0; have c1 : w.cell? ad = some (.int .i64 x) := c1)
          | skip
        by_cases hx : x = n
        · have hR := Lib.hid (hY.out hx)
          subst hx
          clear hX hY
          go_wp2
          go_ret
          exact ⟨congrArg (fun b => Ending.returned (.int .i64 b)) hR.out.symm, rfl⟩
        · have hR := Lib.hid (hX.out hx)
          have hb := beq_eq_false_iff_ne.2 hx
          clear hX hY
          go_wp2
          first
            | exact ⟨⟨1, by omega, rfl, hR⟩, by simp [intOf]; omega⟩
            | exact ⟨⟨k + 1, by omega, by go_num, hR⟩, by simp [intOf]; omega⟩
    · obtain rfl : k = l.length := by omega
      have hR : Hid (plc l n = -1) := Lib.hid (plc_not (by have := hN.out; rwa [List.take_length] at this))
      clear hN hP
      go_wp2
      go_ret
      exact ⟨congrArg (fun b => Ending.returned (.int .i64 b)) hR.out.symm, rfl⟩

def eqL (a b : List Int) : Bool := decide (a = b)
theorem eqL_true {a b : List Int} (h : a = b) : eqL a b = true := decide_eq_true h
theorem eqL_false {a b : List Int} (h : a ≠ b) : eqL a b = false := decide_eq_false h
theorem take_next {a b : List Int} {k : Nat} (h : a.take k = b.take k) (ha : k < a.length) (hb : k < b.length) (h2 : ix a k = ix b k) : a.take (k + 1) = b.take (k + 1) := by
  rw [List.take_succ_eq_append_getElem ha, List.take_succ_eq_append_getElem hb, h, ← ix_at ha, ← ix_at hb, h2]

set_option maxRecDepth 100000 in
set_option maxHeartbeats 1000000 in
theorem same_any (A B : Option Addr) (a b : List Int) (c d : Nat) (w : World) (ha : Rd w w.heap.size A c (cellsI a)) (hb : Rd w w.heap.size B d (cellsI b)) (hmax : a.length ≤ 9223372036854775807) :
    Calls Try.prog 15 #[.slice A a.length c, .slice B b.length d] w fun e w' => e = .returned (.bool (eqL a b)) ∧ Below w.heap.size w w' := by
  have hA := Lib.hid ha
  have hB := Lib.hid hb
  clear ha hb
  by_cases hl : a.length = b.length
  · have hne : ((a.length : Int) != (b.length : Int)) = false := by rw [hl]; simp
    have hL := Lib.hid hl
    clear hl
    go_enter Try.func15, Try.ntmps15
    go_wp2
    go_loopw [5] (fun i wr => ∃ k : Nat, k ≤ a.length ∧ i = .int .i64 k ∧ Below w.heap.size w wr ∧ Hid (a.take k = b.take k)) (fun i _ => a.length - (intOf i).toNat)
    case atStart => exact ⟨0, by omega, rfl, Below.refl _ _, Lib.hid rfl⟩
    case round =>
      obtain ⟨k, hk, rfl, hb, hT⟩ := hrel
      have hBe := Lib.hid hb
      clear hb
      by_cases hlt : k < a.length
      · have hlb : k < b.length := by have := hL.out; omega
        obtain ⟨ad, rfl, _, c1⟩ := (hA.out.below hBe.out).get (cellsI_ix hlt)
        obtain ⟨bd, rfl, _, c2⟩ := (hB.out.below hBe.out).get (cellsI_ix hlb)
        have hX := Lib.hid (fun (h : ix a k = ix b k) => take_next hT.out hlt hlb h)
        have hY : Hid (¬ ix a k = ix b k → eqL a b = false) := Lib.hid (fun h => eqL_false (fun e => h (by rw [e])))
        generalize ix a k = x at c1 hX hY
        generalize ix b k = y at c2 hX hY
        clear hT hA hB hL
        by_cases hk0 : k = 0
        all_goals
          first
            | (subst hk0; have c1 : wr.cell? ad = some (.int .i64 x) := c1; have c2 : wr.cell? bd = some (.int .i64 y) := c2)
            | skip
          by_cases hx : x = y
          · have hR := Lib.hid (hX.out hx)
            subst hx
            clear hX hY
            go_wp2
            go_quiet (fail)
            go_wp2
            first
              | exact ⟨⟨1, by omega, rfl, below_drewN hBe.out _, hR⟩, by simp [intOf]; omega⟩
              | exact ⟨⟨k + 1, by omega, by go_num, below_drewN hBe.out _, hR⟩, by simp [intOf]; omega⟩
          · have hR := Lib.hid (hY.out hx)
            have hne2 : (x != y) = true := bne_iff_ne.2 hx
            clear hX hY
            go_wp2
            go_quiet (fail)
            go_wp2
            go_ret
            exact ⟨congrArg (fun b => Ending.returned (.bool b)) hR.out.symm, below_drewN hBe.out _⟩
      · obtain rfl : k = a.length := by omega
        have hR : Hid (eqL a b = true) := Lib.hid (eqL_true (by have := hT.out; rw [List.take_length, hL.out, List.take_length] at this; exact this))
        clear hT hA hB hL
        go_wp2
        go_ret
        exact ⟨congrArg (fun b => Ending.returned (.bool b)) hR.out.symm, hBe.out⟩
  · have hne : ((a.length : Int) != (b.length : Int)) = true := bne_iff_ne.2 (by omega)
    have hR := Lib.hid (eqL_false (a := a) (b := b) (fun e => hl (by rw [e])))
    clear hA hB
    go_enter Try.func15, Try.ntmps15
    go_wp2
    go_ret
    exact ⟨congrArg (fun b => Ending.returned (.bool b)) hR.out.symm, Below.refl _ _⟩
end Go.Proofs.Ytlaklfiodmnocaa
