/- The examples of the chapter hold ('alive'). The package's four contracts come from YtjbfkbdjopbjjaaPack. -/
import Derived.Test.YtjbfkbdjopbjjaaFromG
namespace Go.Proofs.Ytjbfkbdjopbjjaa
open Go.RowKit

theorem rd_lit {w : World} {T : TypeId} {cs : Array Value} {fr : Nat × Nat} {xs : List Value} {n g : Nat} (h : xs = cs.toList) (hn : cs.size = n) (hg : g = w.heap.size) : Rd (w.alloc (.cells cs T fr)) (w.alloc (.cells cs T fr)).heap.size (some ⟨g, 0, none⟩) n xs := by
  subst hg
  refine ⟨by rw [h, Array.length_toList, hn]; exact Nat.le_refl _, (fun h => by cases h), fun _ => ⟨_, rfl, by simp, fun i u hu => ?_⟩⟩
  rw [h] at hu
  exact World.news_of_block (heap_alloc_new w _) i u hu
theorem balloc {w w1 : World} (h : Below w.heap.size w w1) (o : Obj) : Below w.heap.size w (w1.alloc o) := h.alloc h.size o
theorem bthen {w w1 w2 : World} (h : Below w.heap.size w w1) (h2 : Below w1.heap.size w1 w2) : Below w.heap.size w w2 := h.trans (h2.mono h.size)
theorem its_lit {w : World} {cs : Array Value} {l : List It} {g : Nat} (h : cellsT l = cs.toList) (hg : g = w.heap.size) (hl : l.length ≤ maxLen) : Its (w.alloc (.cells cs 42)) (w.alloc (.cells cs 42)).heap.size (some ⟨g, 0, none⟩) l := by
  subst hg
  have k : (w.alloc (.cells cs 42)).ownsRow w.heap.size 42 3 (.slice (some ⟨w.heap.size, 0, none⟩) l.length l.length) l.length (cellsT l) := by
    rw [h]
    exact World.ownsRow_lit w _ _ (Nat.le_refl _) hl (by rw [← Array.length_toList, ← h, cellsT_len])
  exact (own_its k).2
def thr : List It := [⟨3, 1, 10⟩, ⟨2, 2, 7⟩, ⟨4, 1, 9⟩]
def two : List It := [⟨1, 1, 0⟩, ⟨1, 1, 5⟩]
def neg : List It := [⟨-1, 0, 0⟩]
instance (l : List It) (c : List Int) (a b : Int) : Decidable (Fit l c a b) := by unfold Fit; exact inferInstance
theorem ch3 {c : List Int} (h : Ch 3 c) : c ∈ [[], [0], [1], [0, 1], [2], [0, 2], [1, 2], [0, 1, 2]] := by
  obtain ⟨n, hn, rfl⟩ := ch_bits h
  have hn : n < 8 := hn
  have : n = 0 ∨ n = 1 ∨ n = 2 ∨ n = 3 ∨ n = 4 ∨ n = 5 ∨ n = 6 ∨ n = 7 := by omega
  rcases this with rfl | rfl | rfl | rfl | rfl | rfl | rfl | rfl <;> simp [bitsL]
theorem ch2 {c : List Int} (h : Ch 2 c) : c ∈ [[], [0], [1], [0, 1]] := by
  obtain ⟨n, hn, rfl⟩ := ch_bits h
  have hn : n < 4 := hn
  have : n = 0 ∨ n = 1 ∨ n = 2 ∨ n = 3 := by omega
  rcases this with rfl | rfl | rfl | rfl <;> simp [bitsL]
theorem bst_fin {l : List It} {a b : Int} {x : List Int} (L : List (List Int)) (hL : ∀ c, Ch l.length c → c ∈ L) (hx : Fit l x a b) (h : ∀ c ∈ L, Fit l c a b → sK (iV l) c ≤ sK (iV l) x ∧ (sK (iV l) c = sK (iV l) x → lessL c x = false)) : Bst l a b x :=
  ⟨fun hn => absurd hx (hn x), fun _ => hx, fun c hc => h c (hL c hc.1) hc⟩
theorem thr_rt : Rt thr := by decide
theorem two_rt : Rt two := by decide
theorem thr_best : Bst thr 6 3 [0, 1] := bst_fin _ (fun _ h => ch3 h) (by decide) (by decide)
theorem two_best : Bst two 2 2 [0, 1] := bst_fin _ (fun _ h => ch2 h) (by decide) (by decide)
theorem three_any (w : World) : Calls Try.prog 22 #[] w fun e w' => ∃ A, e = .returned (.slice A 3 3) ∧ Its w' w'.heap.size A thr ∧ Below w.heap.size w w' := by
  have H := Lib.hid (its_lit (w := w) (cs := #[.int .i64 3, .int .i64 1, .int .i64 10, .int .i64 2, .int .i64 2, .int .i64 7, .int .i64 4, .int .i64 1, .int .i64 9]) (l := thr) rfl rfl (by decide))
  go_enter Try.func22, Try.ntmps22
  go_wp2
  go_ret
  exact ⟨_, rfl, H.out, (Below.refl _ _).alloc (Nat.le_refl _) _⟩
section
variable {A B : Option Addr} {c d : Nat} {W : World}
theorem ex_need (h : Its W W.heap.size A thr) (h2 : Rd W W.heap.size B 2 (cellsI [0, 2])) : Calls Try.prog 14 #[.slice A 3 3, .slice B 2 2] W fun e w' => e = .returned (.tuple #[.int .i64 7, .int .i64 2, .int .i64 19, .bool true]) ∧ Below W.heap.size W w' :=
  (gNeed_any A B thr [0, 2] 3 2 W h (by decide) h2 thr_rt (by decide)).mono fun e w' ⟨h1, h2⟩ => ⟨by rw [h1, ← needE_yes (by decide)]; rfl, h2⟩
theorem ex_not (h : Its W W.heap.size A thr) (h2 : Rd W W.heap.size B 2 (cellsI [2, 0])) : Calls Try.prog 14 #[.slice A 3 3, .slice B 2 2] W fun e w' => e = .returned (.tuple #[.int .i64 0, .int .i64 0, .int .i64 0, .bool false]) ∧ Below W.heap.size W w' :=
  (gNeed_any A B thr [2, 0] 3 2 W h (by decide) h2 thr_rt (by decide)).mono fun e w' ⟨h1, h2⟩ => ⟨by rw [h1, ← needE_no (by decide)], h2⟩
theorem best_is {l : List It} {a b : Int} {x : List Int} {n : Nat} (hx : Bst l a b x) (hr : Rt l) (hn : l.length = n) (hd : n ≤ d) (ha : -9223372036854775808 ≤ a ∧ a ≤ 9223372036854775807) (hb : -9223372036854775808 ≤ b ∧ b ≤ 9223372036854775807) (h : Its W W.heap.size A l) :
    Calls Try.prog 18 #[.slice A n d, .int .i64 a, .int .i64 b] W fun e w' => ∃ A' c', e = .returned (.tuple #[.slice A' x.length c', .int .i64 0]) ∧ OwnI w' W.heap.size A' c' x ∧ Below W.heap.size W w' := by
  subst hn
  have h0 := errN_iff.2 hr
  refine (gBest_any A l d a b W h hd (by have := hr.1; omega) ha hb).mono fun e w' ⟨A', c', y, h1, h2, _, h3, h4⟩ => ?_
  have := (h3 h0).unique hx
  subst this
  exact ⟨A', c', by rw [h1, h0], h2, h4⟩
theorem ex_best (h : Its W W.heap.size A thr) : Calls Try.prog 18 #[.slice A 3 3, .int .i64 6, .int .i64 3] W fun e w' => ∃ A' c', e = .returned (.tuple #[.slice A' 2 c', .int .i64 0]) ∧ Rd w' w'.heap.size A' c' (cellsI [0, 1]) ∧ Below W.heap.size W w' :=
  (best_is thr_best thr_rt rfl (Nat.le_refl _) (by omega) (by omega) h).mono fun _ _ ⟨A', c', h1, h2, h3⟩ => ⟨A', c', h1, h2.rd, h3⟩
theorem ex_best2 (h : Its W W.heap.size A two) : Calls Try.prog 18 #[.slice A 2 2, .int .i64 2, .int .i64 2] W fun e w' => ∃ A' c', e = .returned (.tuple #[.slice A' 2 c', .int .i64 0]) ∧ Rd w' w'.heap.size A' c' (cellsI [0, 1]) ∧ Below W.heap.size W w' :=
  (best_is two_best two_rt rfl (Nat.le_refl _) (by omega) (by omega) h).mono fun _ _ ⟨A', c', h1, h2, h3⟩ => ⟨A', c', h1, h2.rd, h3⟩
theorem ex_same (h : Rd W W.heap.size A c (cellsI [0, 1])) (h2 : Rd W W.heap.size B 2 (cellsI [0, 1])) : Calls Try.prog 20 #[.slice A 2 c, .slice B 2 2] W fun e w' => e = .returned (.bool true) ∧ Below W.heap.size W w' := by
  have k := same_any A B [0, 1] [0, 1] c 2 W h h2 (by decide) (by decide)
  rw [eqL_true rfl] at k
  exact k
theorem ex_fits (h : Its W W.heap.size A thr) (h2 : Rd W W.heap.size B 2 (cellsI [0, 2])) : Calls Try.prog 16 #[.slice A 3 3, .slice B 2 2, .int .i64 7, .int .i64 2] W fun e w' => e = .returned (.bool true) ∧ Below W.heap.size W w' := by
  have k := gFits_any A B thr [0, 2] 3 2 7 2 W h (by decide) h2 thr_rt (by decide)
  rw [fitB_iff.2 (by decide)] at k
  exact k
theorem ex_unfit (h : Its W W.heap.size A thr) (h2 : Rd W W.heap.size B 2 (cellsI [0, 2])) : Calls Try.prog 16 #[.slice A 3 3, .slice B 2 2, .int .i64 6, .int .i64 2] W fun e w' => e = .returned (.bool false) ∧ Below W.heap.size W w' := by
  have k := gFits_any A B thr [0, 2] 3 2 6 2 W h (by decide) h2 thr_rt (by decide)
  rw [fitB_not.2 (by decide)] at k
  exact k
theorem ex_neg (h : Its W W.heap.size A neg) : Calls Try.prog 12 #[.slice A 1 1] W fun e w' => e = .returned (.int .i64 2) ∧ Below W.heap.size W w' := by
  have k := gRight_any A neg 1 W h (by decide) (by decide)
  rw [errN_bad (k := 0) (by decide) (by decide) (by decide)] at k
  exact k
end
set_option maxRecDepth 100000 in
set_option maxHeartbeats 8000000 in
theorem alive_any (w0 : World) : Calls Try.prog 11 #[] w0 fun e w' => e = .returned (.bool true) ∧ Below w0.heap.size w0 w' := by
  have B0 := Lib.hid (Below.refl w0.heap.size w0)
  go_enter Try.func11, Try.ntmps11
  go_wp2_with (first
    | (go_at_call 22; (with_reducible refine (three_any w0).mono ?_); rintro e w1 ⟨A1, rfl, h1, b1⟩; (have E1 := Lib.hid h1); clear h1; (have d1 : Below w0.heap.size w0 w1 := b1); (have B1 := Lib.hid (bthen B0.out d1)); clear b1 d1)
    | (go_at_call 14; (with_reducible refine (ex_need (E1.out.up (balloc (Below.refl _ _) _)) ?_).mono ?_); (exact rd_lit (cs := #[.int .i64 0, .int .i64 2]) rfl rfl rfl); rintro e w2 ⟨rfl, b2⟩; (have d2 : Below w1.heap.size w1 w2 := (balloc (Below.refl w1.heap.size w1) _).trans (b2.mono (by simp))); (have B2 := Lib.hid (bthen B1.out d2)); clear b2 d2)
    | (go_at_call 22; (with_reducible refine (three_any w2).mono ?_); rintro e w3 ⟨A3, rfl, h3, b3⟩; (have E3 := Lib.hid h3); clear h3; (have d3 : Below w2.heap.size w2 w3 := b3); (have B3 := Lib.hid (bthen B2.out d3)); clear b3 d3)
    | (go_at_call 14; (with_reducible refine (ex_not (E3.out.up (balloc (Below.refl _ _) _)) ?_).mono ?_); (exact rd_lit (cs := #[.int .i64 2, .int .i64 0]) rfl rfl rfl); rintro e w4 ⟨rfl, b4⟩; (have d4 : Below w3.heap.size w3 w4 := (balloc (Below.refl w3.heap.size w3) _).trans (b4.mono (by simp))); (have B4 := Lib.hid (bthen B3.out d4)); clear b4 d4)
    | (go_at_call 22; (with_reducible refine (three_any w4).mono ?_); rintro e w5 ⟨A5, rfl, h5, b5⟩; (have E5 := Lib.hid h5); clear h5; (have d5 : Below w4.heap.size w4 w5 := b5); (have B5 := Lib.hid (bthen B4.out d5)); clear b5 d5)
    | (go_at_call 18; (with_reducible refine (ex_best E5.out).mono ?_); rintro e w6 ⟨A6, c6, rfl, h6, b6⟩; (have P6 := Lib.hid h6); clear h6; (have d6 : Below w5.heap.size w5 w6 := b6); (have B6 := Lib.hid (bthen B5.out d6)); clear b6 d6)
    | (go_at_call 18; (with_reducible refine (ex_best2 ?_).mono ?_); (exact its_lit (cs := #[.int .i64 (1), .int .i64 (1), .int .i64 (0), .int .i64 (1), .int .i64 (1), .int .i64 (5)]) rfl rfl (by decide)); rintro e w7 ⟨A7, c7, rfl, h7, b7⟩; (have Q7 := Lib.hid h7); clear h7; (have d7 : Below w6.heap.size w6 w7 := (balloc (Below.refl w6.heap.size w6) _).trans (b7.mono (by simp))); (have P7 := Lib.hid (P6.out.up d7)); (have B7 := Lib.hid (bthen B6.out d7)); clear b7 d7)
    | (go_at_call 20; (with_reducible refine (ex_same (P7.out.up (balloc (Below.refl _ _) _)) ?_).mono ?_); (exact rd_lit (cs := #[.int .i64 0, .int .i64 1]) rfl rfl rfl); rintro e w8 ⟨rfl, b8⟩; (have d8 : Below w7.heap.size w7 w8 := (balloc (Below.refl w7.heap.size w7) _).trans (b8.mono (by simp))); (have Q8 := Lib.hid (Q7.out.up d8)); (have B8 := Lib.hid (bthen B7.out d8)); clear b8 d8)
    | (go_at_call 20; (with_reducible refine (ex_same (Q8.out.up (balloc (Below.refl _ _) _)) ?_).mono ?_); (exact rd_lit (cs := #[.int .i64 0, .int .i64 1]) rfl rfl rfl); rintro e w9 ⟨rfl, b9⟩; (have d9 : Below w8.heap.size w8 w9 := (balloc (Below.refl w8.heap.size w8) _).trans (b9.mono (by simp))); (have B9 := Lib.hid (bthen B8.out d9)); clear b9 d9)
    | (go_at_call 22; (with_reducible refine (three_any w9).mono ?_); rintro e w10 ⟨A10, rfl, h10, b10⟩; (have E10 := Lib.hid h10); clear h10; (have d10 : Below w9.heap.size w9 w10 := b10); (have B10 := Lib.hid (bthen B9.out d10)); clear b10 d10)
    | (go_at_call 16; (with_reducible refine (ex_fits (E10.out.up (balloc (Below.refl _ _) _)) ?_).mono ?_); (exact rd_lit (cs := #[.int .i64 0, .int .i64 2]) rfl rfl rfl); rintro e w11 ⟨rfl, b11⟩; (have d11 : Below w10.heap.size w10 w11 := (balloc (Below.refl w10.heap.size w10) _).trans (b11.mono (by simp))); (have B11 := Lib.hid (bthen B10.out d11)); clear b11 d11)
    | (go_at_call 22; (with_reducible refine (three_any w11).mono ?_); rintro e w12 ⟨A12, rfl, h12, b12⟩; (have E12 := Lib.hid h12); clear h12; (have d12 : Below w11.heap.size w11 w12 := b12); (have B12 := Lib.hid (bthen B11.out d12)); clear b12 d12)
    | (go_at_call 16; (with_reducible refine (ex_unfit (E12.out.up (balloc (Below.refl _ _) _)) ?_).mono ?_); (exact rd_lit (cs := #[.int .i64 0, .int .i64 2]) rfl rfl rfl); rintro e w13 ⟨rfl, b13⟩; (have d13 : Below w12.heap.size w12 w13 := (balloc (Below.refl w12.heap.size w12) _).trans (b13.mono (by simp))); (have B13 := Lib.hid (bthen B12.out d13)); clear b13 d13)
    | (go_at_call 12; (with_reducible refine (ex_neg ?_).mono ?_); (exact its_lit (cs := #[.int .i64 (-1), .int .i64 (0), .int .i64 (0)]) rfl rfl (by decide)); rintro e w14 ⟨rfl, b14⟩; (have d14 : Below w13.heap.size w13 w14 := (balloc (Below.refl w13.heap.size w13) _).trans (b14.mono (by simp))); (have B14 := Lib.hid (bthen B13.out d14)); clear b14 d14)
    | fail)
  go_ret
  exact ⟨rfl, B14.out⟩
end Go.Proofs.Ytjbfkbdjopbjjaa
