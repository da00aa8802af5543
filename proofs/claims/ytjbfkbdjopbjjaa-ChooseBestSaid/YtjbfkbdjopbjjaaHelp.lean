/- Boxes of two numbers; Best and Need as the laws use them. -/
import Derived.Test.YtjbfkbdjopbjjaaAlive
import Derived.Test.YtjbfkbdjopbjjaaPair
import Derived.Deep.QuietTactic
import Derived.BigQuiet
import Derived.Deep.RegionHeld3
import Derived.Deep.RegionWith
import Derived.BigRegion
import Derived.Deep.CutRange
import Derived.Deep.DeepCutAuto
namespace Go.Proofs.Ytjbfkbdjopbjjaa
open Go.RowKit

theorem cell_lt {w : World} {p : Addr} {v : Value} (h : w.cell? p = some v) : p.block < w.heap.size := World.block_lt_of_cell? _ _ h
/-- Two cells of a block. -/
def Bx2 (w : World) (g : Nat) (a b : Value) : Prop := w.cell? ⟨g, 0, none⟩ = some a ∧ w.cell? ⟨g, 1, none⟩ = some b
theorem Bx2.up {w w' : World} {g : Nat} {a b : Value} (h : Bx2 w g a b) (hb : Below w.heap.size w w') : Bx2 w' g a b :=
  ⟨(hb.cell (p := ⟨g, 0, none⟩) (cell_lt h.1)).trans h.1, (hb.cell (p := ⟨g, 1, none⟩) (cell_lt h.2)).trans h.2⟩
theorem Bx2.drewN {w : World} {g : Nat} {a b : Value} (h : Bx2 w g a b) (n : Nat) : Bx2 (w.drewN n) g a b := h
theorem bx2_new (w : World) (a b : Value) (T : TypeId) : Bx2 (w.alloc (.cells #[a, b] T)) w.heap.size a b := by
  have h := World.news_of_block (heap_alloc_new w (.cells #[a, b] T))
  exact ⟨h 0 _ rfl, h 1 _ rfl⟩
theorem below_new (w : World) (o : Obj) : Below w.heap.size w (w.alloc o) := (Below.refl _ _).alloc (Nat.le_refl _) _
section
variable {A B : Option Addr} {l : List It} {d c : Nat} {a b : Int} {w : World} {x : List Int}
theorem best_ok (hp : Its w w.heap.size A l) (hd : l.length ≤ d) (hr : Rt l) (ha : -9223372036854775808 ≤ a ∧ a ≤ 9223372036854775807) (hb : -9223372036854775808 ≤ b ∧ b ≤ 9223372036854775807) :
    Calls Try.prog 18 #[.slice A l.length d, .int .i64 a, .int .i64 b] w fun e w' => ∃ (B : Option Addr) (c : Nat) (x : List Int), e = .returned (.tuple #[.slice B x.length c, .int .i64 0]) ∧ OwnI w' w.heap.size B c x ∧ Bst l a b x ∧ Below w.heap.size w w' := by
  have h0 := errN_iff.2 hr
  refine (gBest_any A l d a b w hp hd (by have := hr.1; omega) ha hb).mono fun e w' ⟨B, c, x, h1, h2, _, h3, h4⟩ => ⟨B, c, x, by rw [h1, h0], h2, h3 h0, h4⟩
theorem best_err (hp : Its w w.heap.size A l) (hd : l.length ≤ d) (hm : l.length ≤ 9223372036854775807) (hr : errN l ≠ 0) (ha : -9223372036854775808 ≤ a ∧ a ≤ 9223372036854775807) (hb : -9223372036854775808 ≤ b ∧ b ≤ 9223372036854775807) :
    Calls Try.prog 18 #[.slice A l.length d, .int .i64 a, .int .i64 b] w fun e w' => ∃ (B : Option Addr) (c : Nat), e = .returned (.tuple #[.slice B 0 c, .int .i64 (errN l)]) ∧ Below w.heap.size w w' := by
  refine (gBest_any A l d a b w hp hd hm ha hb).mono fun e w' ⟨B, c, x, h1, _, h2, _, h4⟩ => ⟨B, c, ?_, h4⟩
  rw [h1, h2 hr]
  rfl
theorem need_ok {V : Int} (hp : Its w w.heap.size A l) (hd : l.length ≤ d) (hr : Rt l) (hq : Rd w w.heap.size B c (cellsI x)) (hx : Ch l.length x) (hV : sK (iV l) x = V) :
    Calls Try.prog 14 #[.slice A l.length d, .slice B x.length c] w fun e w' => ∃ s1 s2 : Int, e = .returned (.tuple #[.int .i64 s1, .int .i64 s2, .int .i64 V, .bool true]) ∧ Below w.heap.size w w' := by
  refine (gNeed_any A B l x d c w hp hd hq hr (by have := ch_len hx; have := hr.1; omega)).mono fun e w' ⟨h1, h2⟩ => ⟨sK (iA l) x, sK (iB l) x, ?_, h2⟩
  rw [h1, ← needE_yes hx, hV]
theorem fits_yes (hp : Its w w.heap.size A l) (hd : l.length ≤ d) (hr : Rt l) (hq : Rd w w.heap.size B c (cellsI x)) (hm : x.length ≤ 1000000) (hx : Fit l x a b) :
    Calls Try.prog 16 #[.slice A l.length d, .slice B x.length c, .int .i64 a, .int .i64 b] w fun e w' => e = .returned (.bool true) ∧ Below w.heap.size w w' := by
  have k := gFits_any A B l x d c a b w hp hd hq hr hm
  rw [fitB_iff.2 hx] at k
  exact k
theorem fits_no (hp : Its w w.heap.size A l) (hd : l.length ≤ d) (hr : Rt l) (hq : Rd w w.heap.size B c (cellsI x)) (hm : x.length ≤ 1000000) (hx : ¬ Fit l x a b) :
    Calls Try.prog 16 #[.slice A l.length d, .slice B x.length c, .int .i64 a, .int .i64 b] w fun e w' => e = .returned (.bool false) ∧ Below w.heap.size w w' := by
  have k := gFits_any A B l x d c a b w hp hd hq hr hm
  rw [fitB_not.2 hx] at k
  exact k
end
end Go.Proofs.Ytjbfkbdjopbjjaa
