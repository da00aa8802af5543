/- The examples of the chapter hold ('alive'). -/
import Derived.Test.YtelmkihndmkbkaaTag
namespace Go.Proofs.Ytelmkihndmkbkaa
open Go.RowKit

theorem rd_lit {w : World} {T : TypeId} {cs : Array Value} {fr : Nat × Nat} {xs : List Value} {n g : Nat} (h : xs = cs.toList) (hn : cs.size = n) (hg : g = w.heap.size) : Rd (w.alloc (.cells cs T fr)) (w.alloc (.cells cs T fr)).heap.size (some ⟨g, 0, none⟩) n xs := by
  subst hg
  refine ⟨by rw [h, Array.length_toList, hn]; exact Nat.le_refl _, (fun h => by cases h), fun _ => ⟨_, rfl, by simp, fun i u hu => ?_⟩⟩
  rw [h] at hu
  exact World.news_of_block (heap_alloc_new w _) i u hu
theorem mix_0 : mix 0 = 0 := by decide +kernel
theorem mix_1 : mix 11400714819323198485 = 16294208416658607535 := by decide +kernel
theorem mix_2 : mix 16294208416658607527 = mix (16294208416658607535 ^^^ 8) := by decide +kernel
def exB : List UInt8 := [21, 124, 74, 127, 185, 121, 55, 158]
theorem exB_blk : blk (exB.take 8) = 11400714819323198485 := by decide +kernel
theorem exB_tag : tag 0 exB = mix 16294208416658607527 := by
  rw [tag, tagL_step _ (show 0 < exB.length by decide), mix_0, exB_blk, Nat.zero_xor, mix_1, mix_2]
  show mix (tagL 16294208416658607535 [] ^^^ 8) = _
  rw [tagL_nil]
theorem ex0_tag : tag 0 [] = 0 := by
  rw [tag, tagL_nil, mix_0]
  exact mix_0
theorem exB_cells : cells8 exB = [.int .u8 21, .int .u8 124, .int .u8 74, .int .u8 127, .int .u8 185, .int .u8 121, .int .u8 55, .int .u8 158] := rfl
theorem ex_mix0 (w : World) : Calls Try.prog 12 #[.int .u64 0] w fun e w' => e = .returned (.int .u64 0) ∧ w = w' := by
  have k := mix_any 0 w (by omega)
  rw [mix_0] at k
  exact k
theorem ex_mix1 (w : World) : Calls Try.prog 12 #[.int .u64 11400714819323198485] w fun e w' => e = .returned (.int .u64 16294208416658607535) ∧ w = w' := by
  have k := mix_any 11400714819323198485 w (by omega)
  rw [mix_1] at k
  exact k
theorem ex_key (w : World) : Calls Try.prog 14 #[.int .u64 0, .int .i64 1] w fun e w' => e = .returned (.int .u64 16294208416658607535) ∧ w = w' := by
  have k := key_any 0 1 w
  rw [show keyV 0 1 = 16294208416658607535 by decide +kernel] at k
  exact k
theorem ex_tag0 (w : World) : Calls Try.prog 16 #[.int .u64 0, .slice none 0 0] w fun e w' => e = .returned (.int .u64 0) ∧ w = w' := by
  have k := tag_any 0 none [] 0 w (by omega) Rd.none_ (by simp) (by omega)
  rw [ex0_tag] at k
  exact k
theorem ex_check0 (w : World) : Calls Try.prog 18 #[.int .u64 0, .slice none 0 0, .int .u64 0] w fun e w' => e = .returned (.bool true) ∧ w = w' := by
  have k := check_any 0 none [] 0 0 w (by omega) Rd.none_ (by simp) (by omega)
  rw [ex0_tag] at k
  exact k
theorem ex_check1 (w : World) : Calls Try.prog 18 #[.int .u64 0, .slice none 0 0, .int .u64 1] w fun e w' => e = .returned (.bool false) ∧ w = w' := by
  have k := check_any 0 none [] 0 1 w (by omega) Rd.none_ (by simp) (by omega)
  rw [ex0_tag] at k
  exact k
/-- What the two sides of the last examples share: a letter. -/
theorem ex_last : ∃ z : Int, (∀ w, Calls Try.prog 12 #[.int .u64 16294208416658607527] w fun e w' => e = .returned (.int .u64 z) ∧ w = w') ∧
    (∀ w A c, Rd w w.heap.size A c (cells8 exB) → c ≤ 100 → Calls Try.prog 16 #[.int .u64 0, .slice A 8 c] w fun e w' => e = .returned (.int .u64 z) ∧ w = w') ∧
    (∀ w A c, Rd w w.heap.size A c (cells8 exB) → c ≤ 100 → Calls Try.prog 19 #[.int .u64 0, .slice A 8 c] w fun e w' => e = .returned (.int .u64 z) ∧ w = w') := by
  refine ⟨((mix 16294208416658607527 : Nat) : Int), fun w => mix_any 16294208416658607527 w (by omega), fun w A c h hc => ?_, fun w A c h hc => ?_⟩
  · rw [← exB_tag]
    exact tag_any 0 A exB c w (by omega) h (by decide) (by omega)
  · rw [← exB_tag]
    exact chain_any 0 A exB c w (by omega) h (by decide) (by omega)

set_option maxRecDepth 100000 in
set_option maxHeartbeats 4000000 in
theorem alive_any (w : World) : Calls Try.prog 11 #[] w fun e w' => e = .returned (.bool true) ∧ Below w.heap.size w w' := by
  obtain ⟨z, h1, h2, h3⟩ := ex_last
  have H1 := Lib.hid h1
  have H2 := Lib.hid h2
  have H3 := Lib.hid h3
  clear h1 h2 h3
  have hr : ∀ g, g = w.heap.size → Rd (w.alloc (.cells #[.int .u8 21, .int .u8 124, .int .u8 74, .int .u8 127, .int .u8 185, .int .u8 121, .int .u8 55, .int .u8 158] 5)) (w.alloc (.cells #[.int .u8 21, .int .u8 124, .int .u8 74, .int .u8 127, .int .u8 185, .int .u8 121, .int .u8 55, .int .u8 158] 5)).heap.size (some ⟨g, 0, none⟩) 8 (cells8 exB) := fun g hg => rd_lit exB_cells rfl hg
  have R := Lib.hid hr
  clear hr
  go_enter Try.func11, Try.ntmps11
  go_wp2_with (first
    | (go_at_call 12; (with_reducible refine (ex_mix0 _).mono ?_); rintro e w' ⟨rfl, rfl⟩)
    | (go_at_call 12; (with_reducible refine (ex_mix1 _).mono ?_); rintro e w' ⟨rfl, rfl⟩)
    | (go_at_call 12; (with_reducible refine (H1.out _).mono ?_); rintro e w' ⟨rfl, rfl⟩)
    | (go_at_call 14; (with_reducible refine (ex_key _).mono ?_); rintro e w' ⟨rfl, rfl⟩)
    | (go_at_call 16; (with_reducible refine (ex_tag0 _).mono ?_); rintro e w' ⟨rfl, rfl⟩)
    | (go_at_call 16; (with_reducible refine (H2.out _ _ _ (R.out _ rfl) (by omega)).mono ?_); rintro e w' ⟨rfl, rfl⟩)
    | (go_at_call 19; (with_reducible refine (H3.out _ _ _ (R.out _ rfl) (by omega)).mono ?_); rintro e w' ⟨rfl, rfl⟩)
    | (go_at_call 18; (with_reducible refine (ex_check0 _).mono ?_); rintro e w' ⟨rfl, rfl⟩)
    | (go_at_call 18; (with_reducible refine (ex_check1 _).mono ?_); rintro e w' ⟨rfl, rfl⟩)
    | fail)
  go_ret
  exact ⟨rfl, (Below.refl _ _).alloc (Nat.le_refl _) _⟩
end Go.Proofs.Ytelmkihndmkbkaa
