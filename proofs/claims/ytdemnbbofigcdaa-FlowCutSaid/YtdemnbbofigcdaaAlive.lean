/- The examples of the chapter hold ('alive'). -/
import Derived.Test.YtdemnbbofigcdaaAliveM
import Derived.Test.YtdemnbbofigcdaaHasR
import Derived.Test.YtdemnbbofigcdaaRightR
namespace Go.Proofs.Ytdemnbbofigcdaa
open Go.RowKit

theorem rd_lit {w : World} {T : TypeId} {cs : Array Value} {fr : Nat × Nat} {xs : List Value} {n g : Nat} (h : xs = cs.toList) (hn : cs.size = n) (hg : g = w.heap.size) : Rd (w.alloc (.cells cs T fr)) (w.alloc (.cells cs T fr)).heap.size (some ⟨g, 0, none⟩) n xs := by
  subst hg
  refine ⟨by rw [h, Array.length_toList, hn]; exact Nat.le_refl _, (fun h => by cases h), fun _ => ⟨_, rfl, by simp, fun i u hu => ?_⟩⟩
  rw [h] at hu
  exact World.news_of_block (heap_alloc_new w _) i u hu
theorem balloc {w w1 : World} (h : Below w.heap.size w w1) (o : Obj) : Below w.heap.size w (w1.alloc o) := h.alloc h.size o
theorem bthen {w w1 w2 : World} (h : Below w.heap.size w w1) (h2 : Below w1.heap.size w1 w2) : Below w.heap.size w w2 := h.trans (h2.mono h.size)
theorem smp_cells : cellsE smp = (#[.int .i64 1, .int .i64 1, .int .i64 2, .int .i64 3, .int .i64 2, .int .i64 1, .int .i64 3, .int .i64 2, .int .i64 3, .int .i64 2, .int .i64 3, .int .i64 2, .int .i64 4, .int .i64 2, .int .i64 4, .int .i64 1, .int .i64 5, .int .i64 3, .int .i64 4, .int .i64 5] : Array Value).toList := rfl
theorem edges_any (w : World) : Calls Try.prog 27 #[] w fun e w' => ∃ A, e = .returned (.slice A 5 5) ∧ Es w' w'.heap.size A smp ∧ Below w.heap.size w w' := by
  have h : OwnE (w.alloc (.cells #[.int .i64 1, .int .i64 1, .int .i64 2, .int .i64 3, .int .i64 2, .int .i64 1, .int .i64 3, .int .i64 2, .int .i64 3, .int .i64 2, .int .i64 3, .int .i64 2, .int .i64 4, .int .i64 2, .int .i64 4, .int .i64 1, .int .i64 5, .int .i64 3, .int .i64 4, .int .i64 5] 33)) w.heap.size (some ⟨w.heap.size, 0, none⟩) 5 smp := by
    unfold OwnE
    rw [smp_cells]
    exact World.ownsRow_lit w _ 5 (Nat.le_refl _) (by unfold maxLen; omega) rfl
  have H := Lib.hid h.es
  clear h
  go_enter Try.func27, Try.ntmps27
  go_wp2
  go_ret
  exact ⟨_, rfl, H.out, (Below.refl _ _).alloc (Nat.le_refl _) _⟩
section
variable {A B : Option Addr} {c d : Nat} {W : World}
theorem ex_max (h : Es W W.heap.size A smp) (hc : 5 ≤ c) {s t v : Int} (hst : s ≠ t) (hv : ∀ f, IsFlow smp f s t → ¬ Rs smp f s t → net smp f s = v) :
    Calls Try.prog 17 #[.slice A 5 c, .int .i64 s, .int .i64 t] W fun e w' => e = .returned (.int .i64 v) ∧ Below W.heap.size W w' := by
  refine (gMax_any A smp c s t W h hc smp_grph).mono fun e w' ⟨n, h1, _, h2, h3⟩ => ⟨?_, h3⟩
  obtain ⟨f, f1, f2, rfl⟩ := h2 hst
  rw [h1, hv f f1 f2]
theorem ex_cut (h : Es W W.heap.size A smp) {s t : Int} {L : List Int} (hst : s ≠ t) (hws : (Lit.int .i64 s).wf = true) (hv : ∀ f, IsFlow smp f s t → ¬ Rs smp f s t → cutN smp (RsB smp f s) smp.length = L) :
    Calls Try.prog 21 #[.slice A 5 c, .int .i64 s, .int .i64 t] W fun e w' => ∃ A' c', e = .returned (.slice A' L.length c') ∧ Rd w' w'.heap.size A' c' (cellsI L) ∧ Below W.heap.size W w' := by
  refine (gCut_any A smp c s t W h smp_grph hws).mono fun e w' ⟨A', c', L', h1, h2, _, h3, h4⟩ => ?_
  obtain ⟨f, f1, f2, rfl⟩ := h3 hst
  rw [hv f f1 f2] at h1 h2
  exact ⟨A', c', h1, h2.rd, h4⟩
theorem ex_max14 (h : Es W W.heap.size A smp) : Calls Try.prog 17 #[.slice A 5 5, .int .i64 1, .int .i64 4] W fun e w' => e = .returned (.int .i64 5) ∧ Below W.heap.size W w' := ex_max h (Nat.le_refl _) (by decide) (fun _ => val14)
theorem ex_max41 (h : Es W W.heap.size A smp) : Calls Try.prog 17 #[.slice A 5 5, .int .i64 4, .int .i64 1] W fun e w' => e = .returned (.int .i64 0) ∧ Below W.heap.size W w' := ex_max h (Nat.le_refl _) (by decide) (fun _ => val41)
theorem ex_max19 (h : Es W W.heap.size A smp) : Calls Try.prog 17 #[.slice A 5 5, .int .i64 1, .int .i64 9] W fun e w' => e = .returned (.int .i64 0) ∧ Below W.heap.size W w' := ex_max h (Nat.le_refl _) (by decide) (fun _ => val19)
theorem ex_cut14 (h : Es W W.heap.size A smp) : Calls Try.prog 21 #[.slice A 5 5, .int .i64 1, .int .i64 4] W fun e w' => ∃ A' c', e = .returned (.slice A' 2 c') ∧ Rd w' w'.heap.size A' c' (cellsI [0, 1]) ∧ Below W.heap.size W w' := ex_cut (L := [0, 1]) h (by decide) (by rfl) (fun _ => cut14)
theorem ex_cut41 (h : Es W W.heap.size A smp) : Calls Try.prog 21 #[.slice A 5 5, .int .i64 4, .int .i64 1] W fun e w' => ∃ A' c', e = .returned (.slice A' 0 c') ∧ Rd w' w'.heap.size A' c' (cellsI []) ∧ Below W.heap.size W w' := ex_cut (L := []) h (by decide) (by rfl) (fun _ => cut41)
theorem ex_cut19 (h : Es W W.heap.size A smp) : Calls Try.prog 21 #[.slice A 5 5, .int .i64 1, .int .i64 9] W fun e w' => ∃ A' c', e = .returned (.slice A' 0 c') ∧ Rd w' w'.heap.size A' c' (cellsI []) ∧ Below W.heap.size W w' := ex_cut (L := []) h (by decide) (by rfl) (fun _ => cut19)
theorem ex_v1 (h : Es W W.heap.size A smp) (h2 : Rd W W.heap.size B 5 (cellsI [3, 2, 2, 1, 4])) : Calls Try.prog 14 #[.slice A 5 5, .slice B 5 5, .int .i64 1, .int .i64 4] W fun e w' => e = .returned (.bool true) ∧ Below W.heap.size W w' := by
  have k := gValid_any A B smp [3, 2, 2, 1, 4] 5 5 1 4 W h (Nat.le_refl _) h2 smp_grph (by decide)
  rw [v1] at k
  exact k
theorem ex_v2 (h : Es W W.heap.size A smp) (h2 : Rd W W.heap.size B 5 (cellsI [3, 2, 2, 1, 3])) : Calls Try.prog 14 #[.slice A 5 5, .slice B 5 5, .int .i64 1, .int .i64 4] W fun e w' => e = .returned (.bool false) ∧ Below W.heap.size W w' := by
  have k := gValid_any A B smp [3, 2, 2, 1, 3] 5 5 1 4 W h (Nat.le_refl _) h2 smp_grph (by decide)
  rw [v2] at k
  exact k
theorem ex_v3 (h : Es W W.heap.size A smp) (h2 : Rd W W.heap.size B 5 (cellsI [3, 2, 2, 1, 1])) : Calls Try.prog 14 #[.slice A 5 5, .slice B 5 5, .int .i64 1, .int .i64 3] W fun e w' => e = .returned (.bool false) ∧ Below W.heap.size W w' := by
  have k := gValid_any A B smp [3, 2, 2, 1, 1] 5 5 1 3 W h (Nat.le_refl _) h2 smp_grph (by decide)
  rw [v3] at k
  exact k
theorem ex_value (h : Es W W.heap.size A smp) (h2 : Rd W W.heap.size B 5 (cellsI [3, 2, 2, 1, 4])) : Calls Try.prog 15 #[.slice A 5 5, .slice B 5 5, .int .i64 1] W fun e w' => e = .returned (.int .i64 5) ∧ Below W.heap.size W w' := by
  have k := gValue_any A B smp [3, 2, 2, 1, 4] 5 5 1 W h (Nat.le_refl _) h2 (IsFlow.low smp_grph ex_flow)
  rw [net14] at k
  exact k
theorem ex_find (h : Es W W.heap.size A smp) : Calls Try.prog 19 #[.slice A 5 5, .int .i64 2, .int .i64 2] W fun e w' => ∃ A' c', e = .returned (.slice A' 5 c') ∧ Below W.heap.size W w' := by
  refine (gFind_any A smp 5 2 2 W h smp_grph).mono fun e w' ⟨A', c', f, h1, _, _, _, _, h4⟩ => ⟨A', c', h1, h4⟩
theorem ex_same (h : Rd W W.heap.size A c (cellsI [0, 1])) (h2 : Rd W W.heap.size B 2 (cellsI [0, 1])) : Calls Try.prog 20 #[.slice A 2 c, .slice B 2 2] W fun e w' => e = .returned (.bool true) ∧ Below W.heap.size W w' := by
  have k := same_any A B [0, 1] [0, 1] c 2 W h h2 (by decide)
  rw [eqL_true rfl] at k
  exact k
end
set_option maxRecDepth 100000 in
set_option maxHeartbeats 8000000 in
theorem alive_any (w : World) : Calls Try.prog 11 #[] w fun e w' => e = .returned (.bool true) ∧ Below w.heap.size w w' := by
  go_enter Try.func11, Try.ntmps11
  go_wp2_with (first
    | (go_at_call 27; (with_reducible refine (edges_any _).mono ?_); rintro e w1 ⟨A1, rfl, h1, b1⟩; (have E1 := Lib.hid h1); (have B1 := Lib.hid b1); clear h1 b1)
    | (go_at_call 17; (with_reducible refine (ex_max14 E1.out).mono ?_); rintro e w2 ⟨rfl, b2⟩; (have d2 : Below w1.heap.size w1 w2 := b2); (have E2 := Lib.hid (E1.out.up d2)); (have B2 := Lib.hid (bthen B1.out d2)); clear b2 d2)
    | (go_at_call 14; (with_reducible refine (ex_v1 (E2.out.up (balloc (Below.refl _ _) _)) ?_).mono ?_); (exact rd_lit (cs := #[.int .i64 3, .int .i64 2, .int .i64 2, .int .i64 1, .int .i64 4]) rfl rfl rfl); rintro e w3 ⟨rfl, b3⟩; (have d3 : Below w2.heap.size w2 w3 := (balloc (Below.refl w2.heap.size w2) _).trans (b3.mono (by simp))); (have E3 := Lib.hid (E2.out.up d3)); (have B3 := Lib.hid (bthen B2.out d3)); clear b3 d3)
    | (go_at_call 15; (with_reducible refine (ex_value (E3.out.up (balloc (Below.refl _ _) _)) ?_).mono ?_); (exact rd_lit (cs := #[.int .i64 3, .int .i64 2, .int .i64 2, .int .i64 1, .int .i64 4]) rfl rfl rfl); rintro e w4 ⟨rfl, b4⟩; (have d4 : Below w3.heap.size w3 w4 := (balloc (Below.refl w3.heap.size w3) _).trans (b4.mono (by simp))); (have E4 := Lib.hid (E3.out.up d4)); (have B4 := Lib.hid (bthen B3.out d4)); clear b4 d4)
    | (go_at_call 21; (with_reducible refine (ex_cut14 E4.out).mono ?_); rintro e w5 ⟨A5, c5, rfl, h5, b5⟩; (have R5 := Lib.hid h5); (have d5 : Below w4.heap.size w4 w5 := b5); clear h5; (have E5 := Lib.hid (E4.out.up d5)); (have B5 := Lib.hid (bthen B4.out d5)); clear b5 d5)
    | (go_at_call 20; (with_reducible refine (ex_same (R5.out.up (balloc (Below.refl _ _) _)) ?_).mono ?_); (exact rd_lit (cs := #[.int .i64 0, .int .i64 1]) rfl rfl rfl); rintro e w6 ⟨rfl, b6⟩; (have d6 : Below w5.heap.size w5 w6 := (balloc (Below.refl w5.heap.size w5) _).trans (b6.mono (by simp))); (have E6 := Lib.hid (E5.out.up d6)); (have B6 := Lib.hid (bthen B5.out d6)); clear b6 d6)
    | (go_at_call 17; (with_reducible refine (ex_max41 E6.out).mono ?_); rintro e w7 ⟨rfl, b7⟩; (have d7 : Below w6.heap.size w6 w7 := b7); (have E7 := Lib.hid (E6.out.up d7)); (have B7 := Lib.hid (bthen B6.out d7)); clear b7 d7)
    | (go_at_call 21; (with_reducible refine (ex_cut41 E7.out).mono ?_); rintro e w8 ⟨A8, c8, rfl, _, b8⟩; (have d8 : Below w7.heap.size w7 w8 := b8); (have E8 := Lib.hid (E7.out.up d8)); (have B8 := Lib.hid (bthen B7.out d8)); clear b8 d8)
    | (go_at_call 17; (with_reducible refine (ex_max19 E8.out).mono ?_); rintro e w9 ⟨rfl, b9⟩; (have d9 : Below w8.heap.size w8 w9 := b9); (have E9 := Lib.hid (E8.out.up d9)); (have B9 := Lib.hid (bthen B8.out d9)); clear b9 d9)
    | (go_at_call 21; (with_reducible refine (ex_cut19 E9.out).mono ?_); rintro e w10 ⟨A10, c10, rfl, _, b10⟩; (have d10 : Below w9.heap.size w9 w10 := b10); (have E10 := Lib.hid (E9.out.up d10)); (have B10 := Lib.hid (bthen B9.out d10)); clear b10 d10)
    | (go_at_call 14; (with_reducible refine (ex_v2 (E10.out.up (balloc (Below.refl _ _) _)) ?_).mono ?_); (exact rd_lit (cs := #[.int .i64 3, .int .i64 2, .int .i64 2, .int .i64 1, .int .i64 3]) rfl rfl rfl); rintro e w11 ⟨rfl, b11⟩; (have d11 : Below w10.heap.size w10 w11 := (balloc (Below.refl w10.heap.size w10) _).trans (b11.mono (by simp))); (have E11 := Lib.hid (E10.out.up d11)); (have B11 := Lib.hid (bthen B10.out d11)); clear b11 d11)
    | (go_at_call 14; (with_reducible refine (ex_v3 (E11.out.up (balloc (Below.refl _ _) _)) ?_).mono ?_); (exact rd_lit (cs := #[.int .i64 3, .int .i64 2, .int .i64 2, .int .i64 1, .int .i64 1]) rfl rfl rfl); rintro e w12 ⟨rfl, b12⟩; (have d12 : Below w11.heap.size w11 w12 := (balloc (Below.refl w11.heap.size w11) _).trans (b12.mono (by simp))); (have E12 := Lib.hid (E11.out.up d12)); (have B12 := Lib.hid (bthen B11.out d12)); clear b12 d12)
    | (go_at_call 19; (with_reducible refine (ex_find E12.out).mono ?_); rintro e w13 ⟨A13, c13, rfl, b13⟩; (have d13 : Below w12.heap.size w12 w13 := b13); (have E13 := Lib.hid (E12.out.up d13)); (have B13 := Lib.hid (bthen B12.out d13)); clear b13 d13)
    | fail)
  go_ret
  exact ⟨rfl, B13.out⟩
theorem few_any (A : Option Addr) (l : List Ed) (c : Nat) (w : World) (hp : Es w w.heap.size A l) (hmax : l.length ≤ 9223372036854775807) :
    Calls Try.prog 12 #[.slice A l.length c] w fun e w' => e = .returned (.bool (decide (l.length ≤ 60) && decide (rightN l = 0))) ∧ Below w.heap.size w w' := by
  have k := Lib.hid (right6_any A l c w hp hmax)
  clear hp
  generalize decide (rightN l = 0) = b at *
  by_cases h : l.length ≤ 60
  · rw [decide_eq_true h]
    have h2 : (l.length : Int) ≤ 60 := by omega
    go_enter Try.func12, Try.ntmps12
    go_wp2_with (go_at_call 26; (with_reducible refine (k.out).mono ?_); rintro e w2 ⟨rfl, b2⟩; (have B := Lib.hid b2); clear b2)
    go_ret
    exact ⟨by simp, B.out⟩
  · rw [decide_eq_false h]
    have h2 : ¬ (l.length : Int) ≤ 60 := by omega
    go_enter Try.func12, Try.ntmps12
    go_wp2
    go_ret
    exact ⟨by simp, Below.refl _ _⟩
end Go.Proofs.Ytdemnbbofigcdaa
