/- The law's closure 'in'; three boxes behind a call; what bounds Max. -/
import Derived.Test.YtdemnbbofigcdaaLawM
import Derived.Test.YtdemnbbofigcdaaAlive
import Derived.Test.YtdemnbbofigcdaaOpen
namespace Go.Proofs.Ytdemnbbofigcdaa
open Go.RowKit

def inB (l : List Int) (s t n : Int) : Bool := decide ((n ∈ l ∧ n ≠ t) ∨ n = s)
theorem inB_in {l : List Int} {s t n : Int} (h : n ∈ l) (h2 : n ≠ t) : inB l s t n = true := decide_eq_true (.inl ⟨h, h2⟩)
theorem inB_out {l : List Int} {s t n : Int} (h : ∀ x ∈ l, ¬ (x = n ∧ n ≠ t)) : inB l s t n = decide (n = s) := by
  unfold inB
  congr 1
  apply propext
  constructor
  · rintro (⟨h1, h2⟩ | h1)
    · exact absurd ⟨rfl, h2⟩ (h n h1)
    · exact h1
  · exact .inr
set_option maxRecDepth 100000 in
set_option maxHeartbeats 1000000 in
theorem in_any (A : Option Addr) (l : List Int) (c b7 b8 b9 : Nat) (s t n : Int) (w : World) (hp : Rd w w.heap.size A c (cellsI l)) (hmax : l.length ≤ 100) (x7 : w.cell? ⟨b7, 0, none⟩ = some (.slice A l.length c)) (x8 : w.cell? ⟨b8, 0, none⟩ = some (.int .i64 s)) (x9 : w.cell? ⟨b9, 0, none⟩ = some (.int .i64 t)) :
    Calls Try.prog 25 #[.int .i64 n, .pointer (some ⟨b7, 0, none⟩), .pointer (some ⟨b9, 0, none⟩), .pointer (some ⟨b8, 0, none⟩)] w fun e w' => e = .returned (.bool (inB l s t n)) ∧ w = w' := by
  have hP := Lib.hid hp
  have hIn := Lib.hid (fun (h : n ∈ l) (h2 : n ≠ t) => inB_in (s := s) h h2)
  have hOut := Lib.hid (fun (h : ∀ x ∈ l, ¬ (x = n ∧ n ≠ t)) => inB_out (s := s) h)
  generalize inB l s t n = v at *
  obtain ⟨NN, hNN⟩ : ∃ NN : Nat → Prop, NN = fun k => ∀ x ∈ l.take k, ¬ (x = n ∧ n ≠ t) := ⟨_, rfl⟩
  have hN0 : Hid (NN 0) := Lib.hid (by rw [hNN]; simp)
  have hNs : Hid (∀ k, k < l.length → NN k → ¬ (ix l k = n ∧ n ≠ t) → NN (k + 1)) := Lib.hid (fun k hlt hN h => by
    rw [hNN] at hN ⊢
    intro x hx
    rw [List.take_succ_eq_append_getElem hlt, List.mem_append, List.mem_singleton] at hx
    rcases hx with hx | rfl
    · exact hN x hx
    · rw [← ix_at hlt]; exact h)
  have hNe : Hid (NN l.length → v = decide (n = s)) := Lib.hid (fun h => hOut.out (by rw [hNN] at h; have h : ∀ x ∈ l.take l.length, ¬ (x = n ∧ n ≠ t) := h; rwa [List.take_length] at h))
  clear hp hNN hOut
  go_enter Try.func25, Try.ntmps25
  go_wp2
  go_loop [6] (fun i => ∃ k : Nat, k ≤ l.length ∧ i = .int .i64 k ∧ Hid (NN k)) (fun i => l.length - (intOf i).toNat)
  case atStart => exact ⟨0, by omega, rfl, hN0⟩
  case round =>
    clear hN0
    obtain ⟨k, hk, rfl, hN⟩ := hrel
    by_cases hlt : k < l.length
    · obtain ⟨ad, rfl, _, c1⟩ := hP.out.get (cellsI_ix hlt)
      have hY := Lib.hid (fun (h : ix l k = n) (h2 : n ≠ t) => hIn.out (h ▸ ix_mem hlt) h2)
      have hX := Lib.hid (hNs.out k hlt hN.out)
      generalize ix l k = x at c1 hY hX
      clear hN hP hIn hNs hNe
      by_cases hk0 : k = 0
      all_goals
        first
          | (subst hk0; have c1 : w.cell? ad = some (.int .i64 x) := c1)
          | skip
        by_cases hx : x = n
        · have h1 : (x == n) = true := beq_iff_eq.2 hx
          by_cases ht : n = t
          · have h2 : (n != t) = false := by simp [ht]
            have hR := Lib.hid (hX.out (fun h => h.2 ht))
            clear hX hY hx ht
            go_wp2
            first
              | exact ⟨⟨1, by omega, rfl, hR⟩, by simp [intOf]; omega⟩
              | exact ⟨⟨k + 1, by omega, by go_num, hR⟩, by simp [intOf]; omega⟩
          · have h2 : (n != t) = true := bne_iff_ne.2 ht
            have hR := Lib.hid (hY.out hx ht)
            clear hX hY hx
            go_wp2
            go_ret
            exact ⟨congrArg (fun b => Ending.returned (.bool b)) hR.out.symm, rfl⟩
        · have h1 : (x == n) = false := beq_eq_false_iff_ne.2 hx
          have hR := Lib.hid (hX.out (fun h => hx h.1))
          clear hX hY hx
          go_wp2
          first
            | exact ⟨⟨1, by omega, rfl, hR⟩, by simp [intOf]; omega⟩
            | exact ⟨⟨k + 1, by omega, by go_num, hR⟩, by simp [intOf]; omega⟩
    · obtain rfl : k = l.length := by omega
      have hR := Lib.hid (hNe.out hN.out)
      clear hN hP hIn hNs hNe
      by_cases hs : n = s
      · have h1 : (n == s) = true := beq_iff_eq.2 hs
        rw [decide_eq_true hs] at hR
        clear hs
        go_wp2
        go_ret
        exact ⟨congrArg (fun b => Ending.returned (.bool b)) hR.out.symm, rfl⟩
      · have h1 : (n == s) = false := beq_eq_false_iff_ne.2 hs
        rw [decide_eq_false hs] at hR
        clear hs
        go_wp2
        go_ret
        exact ⟨congrArg (fun b => Ending.returned (.bool b)) hR.out.symm, rfl⟩
theorem box_three {w w1 : World} {t7 t8 t9 : TypeId} {v7 v8 v9 : Value} (h : Below (((w.alloc (.cells #[v7] t7)).alloc (.cells #[v8] t8)).alloc (.cells #[v9] t9)).heap.size (((w.alloc (.cells #[v7] t7)).alloc (.cells #[v8] t8)).alloc (.cells #[v9] t9)) w1) :
    (w1.cell? ⟨w.heap.size, 0, none⟩ = some v7 ∧ w1.cell? ⟨w.heap.size + 1, 0, none⟩ = some v8 ∧ w1.cell? ⟨w.heap.size + 2, 0, none⟩ = some v9) ∧ Below w.heap.size w w1 ∧ w.heap.size + 2 < w1.heap.size := by
  have s1 : (w.alloc (.cells #[v7] t7)).heap.size = w.heap.size + 1 := by simp
  have s2 : ((w.alloc (.cells #[v7] t7)).alloc (.cells #[v8] t8)).heap.size = w.heap.size + 2 := by simp
  have s3 : (((w.alloc (.cells #[v7] t7)).alloc (.cells #[v8] t8)).alloc (.cells #[v9] t9)).heap.size = w.heap.size + 3 := by simp
  have e7 : (((w.alloc (.cells #[v7] t7)).alloc (.cells #[v8] t8)).alloc (.cells #[v9] t9)).heap[w.heap.size]? = some (.cells #[v7] t7) := (Below.heap_alloc _ _ _ (by rw [s2]; omega)).trans ((Below.heap_alloc _ _ _ (by rw [s1]; omega)).trans (heap_alloc_new w _))
  have e8 : (((w.alloc (.cells #[v7] t7)).alloc (.cells #[v8] t8)).alloc (.cells #[v9] t9)).heap[w.heap.size + 1]? = some (.cells #[v8] t8) := (Below.heap_alloc _ _ _ (by rw [s2]; omega)).trans (by have := heap_alloc_new (w.alloc (.cells #[v7] t7)) (.cells #[v8] t8); rwa [s1] at this)
  have e9 : (((w.alloc (.cells #[v7] t7)).alloc (.cells #[v8] t8)).alloc (.cells #[v9] t9)).heap[w.heap.size + 2]? = some (.cells #[v9] t9) := by have := heap_alloc_new ((w.alloc (.cells #[v7] t7)).alloc (.cells #[v8] t8)) (.cells #[v9] t9); rwa [s2] at this
  refine ⟨⟨cell_lit ((h.block _ (by rw [s3]; omega)).trans e7) 0 _ rfl, cell_lit ((h.block _ (by rw [s3]; omega)).trans e8) 0 _ rfl, cell_lit ((h.block _ (by rw [s3]; omega)).trans e9) 0 _ rfl⟩, ?_, by have := h.size; rw [s3] at this; omega⟩
  exact ((((Below.refl w.heap.size w).alloc (Nat.le_refl _) _).alloc (by rw [s1]; omega) _).alloc (by rw [s2]; omega) _).trans (h.mono (by rw [s3]; omega))
theorem box_keep {w w1 : World} {v7 v8 v9 : Value} (h : w1.cell? ⟨w.heap.size, 0, none⟩ = some v7 ∧ w1.cell? ⟨w.heap.size + 1, 0, none⟩ = some v8 ∧ w1.cell? ⟨w.heap.size + 2, 0, none⟩ = some v9) (hw : w.heap.size + 2 < w1.heap.size) {W : World} (hb : Below w1.heap.size w1 W) :
    W.cell? ⟨w.heap.size, 0, none⟩ = some v7 ∧ W.cell? ⟨w.heap.size + 1, 0, none⟩ = some v8 ∧ W.cell? ⟨w.heap.size + 2, 0, none⟩ = some v9 :=
  ⟨(hb.cell (p := ⟨w.heap.size, 0, none⟩) (by show w.heap.size < _; omega)).trans h.1, (hb.cell (p := ⟨w.heap.size + 1, 0, none⟩) (by show w.heap.size + 1 < _; omega)).trans h.2.1, (hb.cell (p := ⟨w.heap.size + 2, 0, none⟩) hw).trans h.2.2⟩
theorem inB_s (l : List Int) (s t : Int) : inB l s t s = true := decide_eq_true (.inr rfl)
theorem inB_t {s t : Int} (l : List Int) (h : s ≠ t) : inB l s t t = false := decide_eq_false fun hh => by
  rcases hh with ⟨_, h2⟩ | h2
  · exact h2 rfl
  · exact h h2.symm
/-- Max: no flow has more, no set that separates has less. -/
theorem bound_calls {A : Option Addr} {l : List Ed} {c : Nat} {s t : Int} {w : World} (hp : Es w w.heap.size A l) (hc : l.length ≤ c) (hg : Grph l) (hst : s ≠ t) :
    Calls Try.prog 17 #[.slice A l.length c, .int .i64 s, .int .i64 t] w fun e w' => ∃ v, e = .returned (.int .i64 v) ∧ Below w.heap.size w w' ∧ (∀ f, IsFlow l f s t → net l f s ≤ v) ∧ (∀ X : Int → Bool, X s = true → X t = false → v ≤ capX l X) := by
  refine (gMax_any A l c s t w hp hc hg).mono fun e w' ⟨n, h1, _, h2, h3⟩ => ⟨n, h1, h3, ?_⟩
  obtain ⟨f, f1, f2, rfl⟩ := h2 hst
  exact ⟨fun g hf => rs_max f1 f2 hf, fun X hs ht => weak f1 hs ht⟩
end Go.Proofs.Ytdemnbbofigcdaa
