/- The examples of the chapter hold ('alive'). -/
import Derived.Test.YtlgjddmghmgmmaaDoorList
import Derived.Test.YtlgjddmghmgmmaaDoorGetList
import Derived.Test.YtlgjddmghmgmmaaDoorUnframe
import Derived.Lib.SlBytesConst
namespace Go.Proofs.YtlgjddmghmgmmaaDoor
open Go.RowKit

theorem rd_lit {w : World} {T : TypeId} {cs : Array Value} {fr : Nat × Nat} {xs : List Value} {n g : Nat} (h : xs = cs.toList) (hn : cs.size = n) (hg : g = w.heap.size) : Rd (w.alloc (.cells cs T fr)) (w.alloc (.cells cs T fr)).heap.size (some ⟨g, 0, none⟩) n xs := by
  subst hg
  refine ⟨by rw [h, Array.length_toList, hn]; exact Nat.le_refl _, (fun h => by cases h), fun _ => ⟨_, rfl, by simp, fun i u hu => ?_⟩⟩
  rw [h] at hu
  exact World.news_of_block (heap_alloc_new w _) i u hu
theorem same_eq {A B : Option Addr} {l : List UInt8} {c d : Nat} {w : World} (hl : Rd w w.heap.size A c (cells8 l)) (hm : Rd w w.heap.size B d (cells8 l)) :
    Calls Tryd.prog 14 #[.slice A l.length c, .slice B l.length d] w fun e w' => e = .returned (.bool true) ∧ w = w' := by
  have k := same_any A B l l c d w hl hm
  rw [eqB_true rfl] at k
  exact k
theorem up2 {A : Option Addr} {c : Nat} {xs : List Value} {w w1 w2 : World} (h : Rd w w.heap.size A c xs) (h1 : Below w.heap.size w w1) (h2 : Below w1.heap.size w1 w2) : Rd w2 w2.heap.size A c xs :=
  ((((h.below h1).more h1.size)).below h2).more h2.size
theorem up3 {A : Option Addr} {c : Nat} {xs : List Value} {w w1 w2 w3 : World} (h : Rd w w.heap.size A c xs) (h1 : Below w.heap.size w w1) (h2 : Below w1.heap.size w1 w2) (h3 : Below w2.heap.size w2 w3) : Rd w3 w3.heap.size A c xs :=
  ((up2 h h1 h2).below h3).more h3.size
def ex1 : List UInt8 := [172, 2]
theorem ex1_get : gN ex1 = 300 ∧ gK ex1 = 2 ∧ gE ex1 = 0 := by decide +kernel
def ex2 : List UInt8 := [128, 0]
theorem ex2_get : gE ex2 = 3 := by decide +kernel
def ex3 : List UInt8 := [128]
theorem ex3_get : gE ex3 = 5 := by decide +kernel
def ex4 : List UInt8 := [1, 0, 0, 0, 0, 0]
theorem ex4_frame : uE ex4 = 6 := by decide +kernel
theorem put300 : put 300 = [172, 2] := by rw [put_large (by omega), put_small (by omega)]; rfl
def ex9 : List UInt8 := [49, 50, 51, 52, 53, 54, 55, 56, 57]
theorem ex9_crc : crc ex9 = 3808858755 := by decide +kernel
theorem ex0_crc : crc [] = 0 := by decide +kernel
theorem ex0_frame : frame [] = [0, 0, 0, 0, 0] := by
  unfold frame putText
  rw [ex0_crc]
  show put 0 ++ [] ++ be4 0 = _
  rw [put_small (by omega)]
  rfl
theorem ex_text : putText [97, 98] = [2, 97, 98] := by
  unfold putText
  show put 2 ++ _ = _
  rw [put_small (by omega)]
  rfl
theorem ex_list : putList [1, 300] = [2, 1, 172, 2] := by
  unfold putList putL putI putL putI putL
  show put 2 ++ (put 1 ++ (put 300 ++ [])) = _
  rw [put300, put_small (by omega), put_small (by omega)]
  rfl

theorem cc1 : cells8 ex1 = [.int .u8 172, .int .u8 2] := rfl
theorem cc2 : cells8 ex2 = [.int .u8 128, .int .u8 0] := rfl
theorem cc3 : cells8 ex3 = [.int .u8 128] := rfl
theorem cc4 : cells8 ex4 = [.int .u8 1, .int .u8 0, .int .u8 0, .int .u8 0, .int .u8 0, .int .u8 0] := rfl
theorem cc5 : cells8 [172, 2] = [.int .u8 172, .int .u8 2] := rfl
theorem cc6 : cells8 [2, 97, 98] = [.int .u8 2, .int .u8 97, .int .u8 98] := rfl
theorem cc7 : cells8 [2, 1, 172, 2] = [.int .u8 2, .int .u8 1, .int .u8 172, .int .u8 2] := rfl
theorem cc8 : cells8 [0, 0, 0, 0, 0] = [.int .u8 0, .int .u8 0, .int .u8 0, .int .u8 0, .int .u8 0] := rfl
theorem cc9 : cells8 ex9 = [.int .u8 49, .int .u8 50, .int .u8 51, .int .u8 52, .int .u8 53, .int .u8 54, .int .u8 55, .int .u8 56, .int .u8 57] := rfl
theorem ccI : cellsI [1, 300] = [.int .i64 1, .int .i64 300] := rfl
theorem ex_get1 (W : World) (g : Nat) (hg : g = W.heap.size) : Calls Tryd.prog 12 #[.slice (some ⟨g, 0, none⟩) 2 2] (W.alloc (.cells #[.int .u8 172, .int .u8 2] 5)) fun e w' => e = .returned (.tuple #[.int .i64 300, .int .i64 2, .int .i64 0]) ∧ W.alloc (.cells #[.int .u8 172, .int .u8 2] 5) = w' := by
  have k := get_at (l := ex1) 2 rfl (rd_lit (w := W) (T := 5) (fr := (0, 0)) (cs := #[.int .u8 172, .int .u8 2]) (n := 2) cc1 rfl hg) (by omega)
  rw [ex1_get.1, ex1_get.2.1, ex1_get.2.2] at k
  exact k
theorem ex_get2 (W : World) (g : Nat) (hg : g = W.heap.size) : Calls Tryd.prog 12 #[.slice (some ⟨g, 0, none⟩) 2 2] (W.alloc (.cells #[.int .u8 128, .int .u8 0] 5)) fun e w' => e = .returned (.tuple #[.int .i64 0, .int .i64 0, .int .i64 3]) ∧ W.alloc (.cells #[.int .u8 128, .int .u8 0] 5) = w' := by
  have k := get_at (l := ex2) 2 rfl (rd_lit (w := W) (T := 5) (fr := (0, 0)) (cs := #[.int .u8 128, .int .u8 0]) (n := 2) cc2 rfl hg) (by omega)
  rw [gN_bad (by rw [ex2_get]; omega), gK_bad (by rw [ex2_get]; omega), ex2_get] at k
  exact k
theorem ex_get3 (W : World) (g : Nat) (hg : g = W.heap.size) : Calls Tryd.prog 12 #[.slice (some ⟨g, 0, none⟩) 1 1] (W.alloc (.cells #[.int .u8 128] 5)) fun e w' => e = .returned (.tuple #[.int .i64 0, .int .i64 0, .int .i64 5]) ∧ W.alloc (.cells #[.int .u8 128] 5) = w' := by
  have k := get_at (l := ex3) 1 rfl (rd_lit (w := W) (T := 5) (fr := (0, 0)) (cs := #[.int .u8 128]) (n := 1) cc3 rfl hg) (by omega)
  rw [gN_bad (by rw [ex3_get]; omega), gK_bad (by rw [ex3_get]; omega), ex3_get] at k
  exact k
theorem ex_unframe (W : World) (g : Nat) (he : Env W) (hg : g = W.heap.size) : Calls Tryd.prog 30 #[.slice (some ⟨g, 0, none⟩) 6 6] (W.alloc (.cells #[.int .u8 1, .int .u8 0, .int .u8 0, .int .u8 0, .int .u8 0, .int .u8 0] 5)) fun e w' => ∃ A' c', e = .returned (.tuple #[.slice A' 0 c', .int .i64 0, .int .i64 6]) ∧ Below W.heap.size W w' := by
  have b : Below W.heap.size W (W.alloc (.cells #[.int .u8 1, .int .u8 0, .int .u8 0, .int .u8 0, .int .u8 0, .int .u8 0] 5)) := (Below.refl _ _).alloc (Nat.le_refl _) _
  refine (unframe_any _ ex4 6 _ (he.below b) (rd_lit (w := W) (T := 5) (fr := (0, 0)) (cs := #[.int .u8 1, .int .u8 0, .int .u8 0, .int .u8 0, .int .u8 0, .int .u8 0]) (n := 6) cc4 rfl hg) (by simp [ex4]) (by omega)).mono fun e w' ⟨A', c', h1, _, h3⟩ => ⟨A', c', ?_, b.trans (h3.mono b.size)⟩
  obtain ⟨q1, q2⟩ := uB_bad (l := ex4) (by rw [ex4_frame]; omega)
  rw [h1, q1, q2, ex4_frame]
  rfl
def Lit (W : World) (n : Nat) (l : List UInt8) (e : Ending) (w' : World) : Prop := ∃ A c, e = .returned (.slice A n c) ∧ Rd w' w'.heap.size A c (cells8 l) ∧ Below W.heap.size W w'
theorem made_lit {f : FuncId} {args : Array Value} {W : World} {l m : List UInt8} {n : Nat} (hm : m = l) (hn : l.length = n) (h : Calls Tryd.prog f args W (Made W W.heap.size m)) : Calls Tryd.prog f args W (Lit W n l) := by
  subst hn hm
  exact h.mono fun e w' ⟨A, c, h1, h2, h3⟩ => ⟨A, c, h1, Rd.of_own h2, h3⟩
theorem ex_put (W : World) : Calls Tryd.prog 15 #[.slice none 0 0, .int .i64 300] W (Lit W 2 [172, 2]) := made_lit put300 rfl (put_any none [] 0 300 W Rd.none_ (by simp) (by omega) (by omega))
theorem ex_puttext (W : World) : Calls Tryd.prog 19 #[.slice none 0 0, .string ⟨#[97, 98]⟩] W (Lit W 3 [2, 97, 98]) := made_lit ex_text rfl (putText_any none [] 0 ⟨#[97, 98]⟩ W Rd.none_ (by simp) (by decide))
theorem ex_putlist (W : World) (A : Option Addr) (c : Nat) (h : Rd W W.heap.size A c (cellsI [1, 300])) : Calls Tryd.prog 23 #[.slice none 0 0, .slice A 2 c] W (Lit W 4 [2, 1, 172, 2]) := made_lit ex_list rfl (putList_any none A [] [1, 300] 0 c W Rd.none_ h (by simp) (by simp) (by intro n hn; simp at hn; omega))
theorem ex_frame (W : World) (he : Env W) : Calls Tryd.prog 28 #[.slice none 0 0] W (Lit W 5 [0, 0, 0, 0, 0]) := made_lit ex0_frame rfl (frame_any none [] 0 W he Rd.none_ (by simp))
theorem ex_sum (W : World) (A : Option Addr) (c : Nat) (he : Env W) (h : Rd W W.heap.size A c (cells8 ex9)) : Calls Tryd.prog 26 #[.slice A 9 c] W fun e w' => e = .returned (.int .u32 3808858755) ∧ W = w' := by
  have k := sum_any A ex9 c W he h (by simp [ex9])
  rw [ex9_crc] at k
  exact k
theorem ex_sum0 (W : World) (he : Env W) : Calls Tryd.prog 26 #[.slice none 0 0] W fun e w' => e = .returned (.int .u32 0) ∧ W = w' := by
  have k := sum_any none [] 0 W he Rd.none_ (by simp)
  rw [ex0_crc] at k
  exact k
theorem ex_same {A : Option Addr} {l : List UInt8} {c n g : Nat} {W : World} {cs : Array Value} (h : Rd W W.heap.size A c (cells8 l)) (hc : cells8 l = cs.toList) (hn : l.length = n) (hn2 : cs.size = n) (hg : g = W.heap.size) :
    Calls Tryd.prog 14 #[.slice A n c, .slice (some ⟨g, 0, none⟩) n n] (W.alloc (.cells cs 5)) fun e w' => e = .returned (.bool true) ∧ W.alloc (.cells cs 5) = w' := by
  have b : Below W.heap.size W (W.alloc (.cells cs 5)) := (Below.refl _ _).alloc (Nat.le_refl _) _
  have k := same_any A (some ⟨g, 0, none⟩) l l c n (W.alloc (.cells cs 5)) ((h.below b).more b.size) (rd_lit hc hn2 hg)
  rw [eqB_true rfl] at k
  subst hn
  exact k
theorem ex_sum9 (W : World) (g : Nat) (he : Env W) (hg : g = W.heap.size) : Calls Tryd.prog 26 #[.slice (some ⟨g, 0, none⟩) 9 9] (W.alloc (.cells #[.int .u8 49, .int .u8 50, .int .u8 51, .int .u8 52, .int .u8 53, .int .u8 54, .int .u8 55, .int .u8 56, .int .u8 57] 5 (9, 10))) fun e w' => e = .returned (.int .u32 3808858755) ∧ W.alloc (.cells #[.int .u8 49, .int .u8 50, .int .u8 51, .int .u8 52, .int .u8 53, .int .u8 54, .int .u8 55, .int .u8 56, .int .u8 57] 5 (9, 10)) = w' :=
  ex_sum _ _ 9 (he.below ((Below.refl _ _).alloc (Nat.le_refl _) _)) (rd_lit cc9 rfl hg)

set_option maxRecDepth 100000 in
set_option maxHeartbeats 4000000 in
theorem alive_any (w : World) (he : Env w) : Calls Tryd.prog 11 #[] w fun e w' => e = .returned (.bool true) ∧ Below w.heap.size w w' := by
  have E := Lib.hid he
  clear he
  have kc : ∀ (W : World) (o : Obj) (C : Array Value) (n c : Nat), (convert 22 22 (.slice (some ⟨W.heap.size + 1, 0, none⟩) n c)).run Tryd.prog ((W.alloc o).alloc (.cells C 5)) = .ok (.slice (some ⟨W.heap.size + 1, 0, none⟩) n c) ((W.alloc o).alloc (.cells C 5 (C.size, C.size + 1))) := fun W o C n c => by
    have h := Lib.run_convert_bytes_const (P := Tryd.prog) (W.alloc o) 22 5 C n c Tryd.underlying22 Tryd.underlying5
    rw [World.size_alloc] at h
    exact h
  go_enter Tryd.func11, Tryd.ntmps11
  go_wp2_with (first
    | (go_at_call 12; (with_reducible refine (ex_get1 _ _ ?_).mono ?_); (first | rfl | simp); rintro e w' ⟨rfl, rfl⟩)
    | (go_at_call 12; (with_reducible refine (ex_get2 _ _ ?_).mono ?_); (first | rfl | simp); rintro e w' ⟨rfl, rfl⟩)
    | (go_at_call 12; (with_reducible refine (ex_get3 _ _ ?_).mono ?_); (first | rfl | simp); rintro e w' ⟨rfl, rfl⟩)
    | (go_at_call 30; (with_reducible refine (ex_unframe _ _ ?_ ?_).mono ?_); (exact E.out.below ((((Below.refl _ _).alloc (Nat.le_refl _) _).alloc (by simp) _).alloc (by simp; omega) _)); (first | rfl | simp); rintro e w4 ⟨A4, c4, rfl, b4⟩; (have B4 : Hid (Below w.heap.size w w4) := Lib.hid (((((Below.refl _ _).alloc (Nat.le_refl _) _).alloc (by simp) _).alloc (by simp; omega) _).trans (b4.mono (by simp; omega)))); clear b4)
    | (go_at_call 15; (with_reducible refine (ex_put w4).mono ?_); rintro e w5 ⟨A5, c5, rfl, r5, b5⟩; (have R5 := Lib.hid r5); (have B5 := Lib.hid (B4.out.trans (b5.mono B4.out.size))); clear r5 b5)
    | (go_at_call 14; (with_reducible refine (ex_same (n := 2) R5.out cc5 rfl rfl ?_).mono ?_); rfl; rintro e w' ⟨rfl, rfl⟩)
    | (go_at_call 19; (with_reducible refine (ex_puttext _).mono ?_); rintro e w6 ⟨A6, c6, rfl, r6, b6⟩; (have R6 := Lib.hid r6); (have B6 : Hid (Below w.heap.size w w6) := Lib.hid ((B5.out.alloc B5.out.size _).trans (b6.mono (by have := B5.out.size; simp; omega)))); clear r6 b6)
    | (go_at_call 14; (with_reducible refine (ex_same (n := 3) R6.out cc6 rfl rfl ?_).mono ?_); rfl; rintro e w' ⟨rfl, rfl⟩)
    | (go_at_call 23; (with_reducible refine (ex_putlist _ _ _ ?_).mono ?_); (exact rd_lit ccI rfl (by simp)); rintro e w7 ⟨A7, c7, rfl, r7, b7⟩; (have R7 := Lib.hid r7); (have B7 : Hid (Below w.heap.size w w7) := Lib.hid (((B6.out.alloc B6.out.size _).alloc (by have := B6.out.size; simp; omega) _).trans (b7.mono (by have := B6.out.size; simp; omega)))); clear r7 b7)
    | (go_at_call 14; (with_reducible refine (ex_same (n := 4) R7.out cc7 rfl rfl ?_).mono ?_); rfl; rintro e w' ⟨rfl, rfl⟩)
    | (go_at_call 26; (with_reducible refine (ex_sum9 _ _ ?_ ?_).mono ?_); (exact E.out.below (B7.out.alloc B7.out.size _)); (first | rfl | simp); rintro e w' ⟨rfl, rfl⟩)
    | (go_at_call 26; (with_reducible refine (ex_sum0 _ ?_).mono ?_); (exact E.out.below ((B7.out.alloc B7.out.size _).alloc (by have := B7.out.size; simp; omega) _)); rintro e w' ⟨rfl, rfl⟩)
    | (go_at_call 28; (with_reducible refine (ex_frame _ ?_).mono ?_); (exact E.out.below ((B7.out.alloc B7.out.size _).alloc (by have := B7.out.size; simp; omega) _)); rintro e w8 ⟨A8, c8, rfl, r8, b8⟩; (have R8 := Lib.hid r8); (have B8 : Hid (Below w.heap.size w w8) := Lib.hid (((B7.out.alloc B7.out.size _).alloc (by have := B7.out.size; simp; omega) _).trans (b8.mono (by have := B7.out.size; simp; omega)))); clear r8 b8)
    | (go_at_call 14; (with_reducible refine (ex_same (n := 5) R8.out cc8 rfl rfl ?_).mono ?_); rfl; rintro e w' ⟨rfl, rfl⟩)
    | fail)
  go_ret
  exact ⟨rfl, B8.out.alloc B8.out.size _⟩
end Go.Proofs.YtlgjddmghmgmmaaDoor
