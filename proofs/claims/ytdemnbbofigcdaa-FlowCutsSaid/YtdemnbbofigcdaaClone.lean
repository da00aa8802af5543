/- slices.Clone at ints and at edges. -/
import Derived.Test.YtdemnbbofigcdaaPut
import Derived.Test.YtdemnbbofigcdaaTurned
import Derived.Lib.SliceRun
namespace Go.Proofs.Ytdemnbbofigcdaa
open Go.RowKit

theorem made_empty (w : World) (e : TypeId) (s : Nat) : (w.alloc (.cells #[] e)).ownsRow w.heap.size e s (.slice (some ⟨w.heap.size, 0, none⟩) 0 0) 0 [] :=
  World.ownsRow_made w #[] 0 (Nat.le_refl _) (Nat.zero_le _) (by simp)
set_option maxRecDepth 100000 in
set_option maxHeartbeats 1000000 in
theorem clone_int (A : Option Addr) (l : List Int) (c : Nat) (w : World) (hp : Rd w w.heap.size A c (cellsI l)) (hmax : l.length ≤ 1000000) :
    Calls Try.prog 39 #[.slice A l.length c] w (MadeI' w l) := by
  cases A with
  | none =>
    have hc := hp.2.1 rfl
    have hl := hp.1
    rw [cellsI_len] at hl
    obtain rfl : l = [] := List.eq_nil_of_length_eq_zero (by omega)
    clear hp hl
    subst hc
    have q0 : ∀ (w : World) (a : Option Addr) (n c n' c' : Nat), (binOp .eql 23 (.slice a n c) (.slice none n' c')).run Try.prog w = .ok (.bool a.isNone) w := fun w a n c n' c' => Lib.run_eql_slice_nil w _ _ a n c n' c' Try.underlying23
    go_enter Try.func39, Try.ntmps39
    go_wp2
    go_ret
    exact ⟨none, 0, rfl, ownI_nil _ _, Below.refl _ _⟩
  | some ad =>
    have hF := Lib.hid ((hp.up ((Below.refl _ _).alloc (Nat.le_refl _) (.cells #[] 3))).feedI)
    have hO := Lib.hid (made_empty w 3 1)
    obtain ⟨i0, hi, hz0, hz1, hz2⟩ := info_parts info_i64
    have hI := Lib.hid hi
    have hZ0 := Lib.hid hz0
    have hZ1 := Lib.hid hz1
    have hZ2 := Lib.hid hz2
    clear hp hi hz0 hz1 hz2
    have q0 : ∀ (w : World) (a : Option Addr) (n c n' c' : Nat), (binOp .eql 23 (.slice a n c) (.slice none n' c')).run Try.prog w = .ok (.bool a.isNone) w := fun w a n c n' c' => Lib.run_eql_slice_nil w _ _ a n c n' c' Try.underlying23
    go_enter Try.func39, Try.ntmps39
    go_wp2_with (at_builtin; refine wpList_append_feed _ rfl (.tmp 5) (.tmp 6) 23 rfl w.heap.size 3 i0 (.int .i64 0) 1 8 Try.underlying23 hI.out hZ0.out hZ1.out hZ2.out rfl (by decide) _ 0 [] rfl hO.out _ l.length (cellsI l) rfl hF.out (cellsI_one l) (by unfold maxLen; omega) (by omega) (by simp) ?_; intro A' c' w' h1 h2; (have H1 := Lib.hid h1); (have H2 := Lib.hid h2); clear h1 h2)
    go_ret
    have h1 := H1.out
    have h2 := H2.out
    simp only [Nat.zero_add, List.nil_append] at h1 ⊢
    exact ⟨A', c', rfl, h1, below_grown ((Below.refl w.heap.size w).alloc (Nat.le_refl _) _) hO.out h2 (Nat.le_refl _) (by simp)⟩
theorem Es.cells {w : World} {B : Nat} {ad : Addr} {l : List Ed} (h : Es w B (some ad) l) : ∀ j u, (cellsE l)[j]? = some u → w.cell? (ad.add j) = some u := by
  intro j u hu
  have hj := (List.getElem?_eq_some_iff.1 hu).1
  rw [cellsE_len] at hj
  have hi : j / 4 < l.length := by omega
  obtain ⟨ad', ha, _, c0, c1, c2, c3⟩ := h.get hi
  injection ha with ha
  subst ha
  obtain ⟨d0, d1, d2, d3⟩ := cellsE_at l (j / 4) hi
  obtain ⟨e0, e1, e2, e3⟩ := e_at hi
  have hm : j % 4 = 0 ∨ j % 4 = 1 ∨ j % 4 = 2 ∨ j % 4 = 3 := by omega
  rcases hm with hm | hm | hm | hm
  · have hj2 : j = j / 4 * 4 := by omega
    rw [hj2] at hu ⊢
    rw [d0] at hu
    injection hu with hu
    rw [← hu, ← e0]
    exact c0
  · have hj2 : j = j / 4 * 4 + (0 + 1) := by omega
    rw [hj2] at hu ⊢
    rw [add_next]
    rw [d1] at hu
    injection hu with hu
    rw [← hu, ← e1]
    exact c1
  · have hj2 : j = j / 4 * 4 + (1 + 1) := by omega
    rw [hj2] at hu ⊢
    rw [add_next]
    rw [d2] at hu
    injection hu with hu
    rw [← hu, ← e2]
    exact c2
  · have hj2 : j = j / 4 * 4 + (2 + 1) := by omega
    rw [hj2] at hu ⊢
    rw [add_next]
    rw [d3] at hu
    injection hu with hu
    rw [← hu, ← e3]
    exact c3
set_option maxRecDepth 100000 in
set_option maxHeartbeats 1000000 in
theorem clone_ed (A : Option Addr) (l : List Ed) (c : Nat) (w : World) (hp : Es w w.heap.size A l) (hmax : l.length ≤ 1000000) :
    Calls Try.prog 43 #[.slice A l.length c] w (MadeE' w l) := by
  cases A with
  | none =>
    have hl : l = [] := by
      rcases l with _ | ⟨e, l⟩
      · rfl
      · obtain ⟨ad, h, _⟩ := hp (by simp)
        cases h
    subst hl
    clear hp
    have q0 : ∀ (w : World) (a : Option Addr) (n c n' c' : Nat), (binOp .eql 22 (.slice a n c) (.slice none n' c')).run Try.prog w = .ok (.bool a.isNone) w := fun w a n c n' c' => Lib.run_eql_slice_nil w _ _ a n c n' c' Try.underlying22
    go_enter Try.func43, Try.ntmps43
    go_wp2
    go_ret
    exact ⟨none, 0, rfl, ownE_nil _ _, Below.refl _ _⟩
  | some ad =>
    have hF : Hid (Feed 4 (w.alloc (.cells #[] 33)) (.slice (some ad) l.length c) l.length (cellsE l)) := Lib.hid ⟨cellsE_len l, .inr ⟨ad, c, rfl, (hp.up ((Below.refl _ _).alloc (Nat.le_refl _) (.cells #[] 33))).cells⟩⟩
    have hO := Lib.hid (made_empty w 33 4)
    obtain ⟨i0, hi, hz0, hz1, hz2⟩ := info_parts info_ed
    have hI := Lib.hid hi
    have hZ0 := Lib.hid hz0
    have hZ1 := Lib.hid hz1
    have hZ2 := Lib.hid hz2
    clear hp hi hz0 hz1 hz2
    have q0 : ∀ (w : World) (a : Option Addr) (n c n' c' : Nat), (binOp .eql 22 (.slice a n c) (.slice none n' c')).run Try.prog w = .ok (.bool a.isNone) w := fun w a n c n' c' => Lib.run_eql_slice_nil w _ _ a n c n' c' Try.underlying22
    go_enter Try.func43, Try.ntmps43
    go_wp2_with (at_builtin; refine wpList_append_feed _ rfl (.tmp 5) (.tmp 6) 22 rfl w.heap.size 33 i0 (.agg #[.int .i64 0, .int .i64 0, .int .i64 0, .int .i64 0]) 4 32 Try.underlying22 hI.out hZ0.out hZ1.out hZ2.out rfl (by decide) _ 0 [] rfl hO.out _ l.length (cellsE l) rfl hF.out (cellsE_one l) (by unfold maxLen; omega) (by omega) (by simp) ?_; intro A' c' w' h1 h2; (have H1 := Lib.hid h1); (have H2 := Lib.hid h2); clear h1 h2)
    go_ret
    have h1 := H1.out
    have h2 := H2.out
    simp only [Nat.zero_add, List.nil_append] at h1 ⊢
    exact ⟨A', c', rfl, h1, below_grown ((Below.refl w.heap.size w).alloc (Nat.le_refl _) _) hO.out h2 (Nat.le_refl _) (by simp)⟩
end Go.Proofs.Ytdemnbbofigcdaa
