/- The examples of the chapter: what each of the calls returns. -/
import Derived.Test.YtlkindlbllbmgaaRefNext
import Derived.Test.YtlkindlbllbmgaaMinus
namespace Go.Proofs.Ytlkindlbllbmgaa
open Go.RowKit

def exH : List Hr := [(3, 28800, 57600)]
theorem exH_in (t : Int) : inH exH t ↔ 0 ≤ t ∧ t ≤ 20000000 ∧ onB 3 (t / 86400 % 7) = true ∧ 28800 ≤ t % 86400 ∧ t % 86400 < 57600 := by
  unfold inH exH
  rw [openAt_one]
theorem on_3 (w : Int) (h0 : 0 ≤ w) (h1 : w ≤ 6) : onB 3 w = decide (w ≤ 1) := by
  obtain ⟨n, rfl⟩ : ∃ n : Nat, w = n := ⟨w.toNat, by omega⟩
  have hn : n = 0 ∨ n = 1 ∨ n = 2 ∨ n = 3 ∨ n = 4 ∨ n = 5 ∨ n = 6 := by omega
  rcases hn with rfl | rfl | rfl | rfl | rfl | rfl | rfl <;> decide
theorem exH_iff (t : Int) : inH exH t ↔ 0 ≤ t ∧ t ≤ 20000000 ∧ t / 86400 % 7 ≤ 1 ∧ 28800 ≤ t % 86400 ∧ t % 86400 < 57600 := by
  rw [exH_in, on_3 _ (by omega) (by omega), decide_eq_true_eq]
theorem ex_next1 : nextU exH 57600 = 115200 ∧ nextB exH 57600 = true :=
  next_yes ⟨by omega, (exH_iff _).2 (by omega), fun v h1 h2 h3 => by have := (exH_iff v).1 h3; omega⟩
theorem ex_next2 : nextU exH 144000 = 633600 ∧ nextB exH 144000 = true :=
  next_yes ⟨by omega, (exH_iff _).2 (by omega), fun v h1 h2 h3 => by have := (exH_iff v).1 h3; omega⟩
theorem ex_next3 : nextU [] 0 = 0 ∧ nextB [] 0 = false := next_not fun v _ => inH_nil v
theorem ex_in1 : inHB exH 28800 = true := inHB_true ((exH_iff _).2 (by omega))
theorem ex_in2 : inHB exH 144000 = false := inHB_false fun h => by have := (exH_iff _).1 h; omega
theorem ex_right : rightB exH = true := by decide

def exL : List Iv := [(5, 9), (20, 30), (9, 12), (7, 7), (40, 35)]
def exM : List Iv := [(5, 12), (20, 30)]
def exA : List Iv := [(0, 100)]
def exB : List Iv := [(10, 20), (90, 200)]
def exD : List Iv := [(0, 10), (20, 90)]
theorem exM_plain : plainL exM := by
  refine ⟨fun p hp => ?_, ?_⟩
  · simp [exM] at hp
    rcases hp with rfl | rfl <;> exact ⟨by decide, by decide, by decide⟩
  · simp [exM]
theorem exD_plain : plainL exD := by
  refine ⟨fun p hp => ?_, ?_⟩
  · simp [exD] at hp
    rcases hp with rfl | rfl <;> exact ⟨by decide, by decide, by decide⟩
  · simp [exD]
theorem ex_merge {m : List Iv} (h : isSet m (cov exL)) : m = exM :=
  isSet_unique h ⟨exM_plain, fun t => by
    unfold exM exL
    simp only [cov_cons, inIv, cov_nil, or_false]
    omega⟩
theorem ex_minus {m : List Iv} (h : isSet m (fun t => cov exA t ∧ ¬ cov exB t)) : m = exD :=
  isSet_unique h ⟨exD_plain, fun t => by
    unfold exA exB exD
    simp only [cov_cons, inIv, cov_nil, or_false]
    omega⟩
theorem ex_len {m : List Iv} (h : isSet m (cov exM)) : lenL m = 17 := by
  rw [isSet_unique h (isSet_self exM_plain)]
  decide
theorem lit_ivs (w : World) (cs : Array Value) (l : List Iv) (h : cs.toList = cellsL l) (hl : l.length ≤ 100) : Ivs (w.alloc (.cells cs 38)) (w.alloc (.cells cs 38)).heap.size (some ⟨w.heap.size, 0, none⟩) l := by
  have hs : cs.size = l.length * 2 := by rw [← Array.length_toList, h, cellsL_len]
  have k := World.ownsRow_lit (base := 0) (e := 38) (size := 2) w cs l.length (Nat.zero_le _) (by unfold maxLen; omega) hs
  rw [h] at k
  exact (own_ivs k).2

theorem merge_ex (w : World) : Calls Try.prog 26 #[.slice (some ⟨w.heap.size, 0, none⟩) 5 5] (w.alloc (.cells #[.int .i64 5, .int .i64 9, .int .i64 20, .int .i64 30, .int .i64 9, .int .i64 12, .int .i64 7, .int .i64 7, .int .i64 40, .int .i64 35] 38)) fun e w' =>
    ∃ A cap, e = .returned (.slice A 2 cap) ∧ Ivs w' w'.heap.size A exM ∧ Below w.heap.size w w' := by
  have h := merge_any (some ⟨w.heap.size, 0, none⟩) exL 5 _ (lit_ivs w #[.int .i64 5, .int .i64 9, .int .i64 20, .int .i64 30, .int .i64 9, .int .i64 12, .int .i64 7, .int .i64 7, .int .i64 40, .int .i64 35] exL rfl (by decide)) (by decide)
  refine h.mono ?_
  rintro e w' ⟨A, cap, m, rfl, _, hI, hs, hb⟩
  obtain rfl := ex_merge hs
  exact ⟨A, cap, rfl, hI, ((Below.refl _ _).alloc (Nat.le_refl _) _).trans (hb.mono (by simp))⟩
theorem minus_ex (w : World) : Calls Try.prog 32 #[.slice (some ⟨w.heap.size, 0, none⟩) 1 1, .slice (some ⟨w.heap.size + 1, 0, none⟩) 2 2] ((w.alloc (.cells #[.int .i64 0, .int .i64 100] 38)).alloc (.cells #[.int .i64 10, .int .i64 20, .int .i64 90, .int .i64 200] 38)) fun e w' =>
    ∃ A cap, e = .returned (.slice A 2 cap) ∧ Ivs w' w'.heap.size A exD ∧ Below w.heap.size w w' := by
  have i1 := lit_ivs w #[.int .i64 0, .int .i64 100] exA rfl (by decide)
  have i2 := lit_ivs (w.alloc (.cells #[.int .i64 0, .int .i64 100] 38)) #[.int .i64 10, .int .i64 20, .int .i64 90, .int .i64 200] exB rfl (by decide)
  have e : (w.alloc (.cells #[.int .i64 0, .int .i64 100] 38)).heap.size = w.heap.size + 1 := World.size_alloc ..
  rw [e] at i2
  have b1 := (Below.refl (w.alloc (.cells #[.int .i64 0, .int .i64 100] 38)).heap.size (w.alloc (.cells #[.int .i64 0, .int .i64 100] 38))).alloc (Nat.le_refl _) (.cells #[.int .i64 10, .int .i64 20, .int .i64 90, .int .i64 200] 38)
  have h := minus_any (some ⟨w.heap.size, 0, none⟩) (some ⟨w.heap.size + 1, 0, none⟩) exA exB 1 2 _ ((i1.below b1).more b1.size) i2 (by decide) (by decide)
  refine h.mono ?_
  rintro e w' ⟨A, cap, m, rfl, _, hI, hs, hb⟩
  obtain rfl := ex_minus hs
  exact ⟨A, cap, rfl, hI, (((Below.refl _ _).alloc (Nat.le_refl _) _).trans (b1.mono (by simp))).trans (hb.mono (by simp; omega))⟩
end Go.Proofs.Ytlkindlbllbmgaa
