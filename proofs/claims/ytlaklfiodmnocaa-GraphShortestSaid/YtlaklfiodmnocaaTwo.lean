/- A box of two numbers, as it reads behind a call. -/
import Derived.Test.YtlaklfiodmnocaaFin
import Derived.BigQuiet
import Derived.Deep.CutRange
import Derived.Deep.RegionHeld3
namespace Go.Proofs.Ytlaklfiodmnocaa
open Go.RowKit

theorem box_two {w w1 : World} {T : TypeId} {fr : Nat × Nat} {i j : Int} (b : Below (w.alloc (.cells #[.int .i64 i, .int .i64 j] T fr)).heap.size (w.alloc (.cells #[.int .i64 i, .int .i64 j] T fr)) w1) :
    w1.cell? ⟨w.heap.size, 0, none⟩ = some (.int .i64 i) ∧ w1.cell? ⟨w.heap.size, 1, none⟩ = some (.int .i64 j) ∧ Below w.heap.size w w1 ∧ w.heap.size < w1.heap.size ∧ Rd w1 w1.heap.size (some ⟨w.heap.size, 0, none⟩) 2 (cellsI [i, j]) := by
  have h0 := World.news_of_block (heap_alloc_new w (.cells #[.int .i64 i, .int .i64 j] T fr)) 0 (.int .i64 i) rfl
  have h1 := World.news_of_block (heap_alloc_new w (.cells #[.int .i64 i, .int .i64 j] T fr)) 1 (.int .i64 j) rfl
  rw [add_pos] at h0 h1
  refine ⟨(b.cell (by simp)).trans h0, (b.cell (by simp)).trans h1, ((Below.refl w.heap.size w).alloc (Nat.le_refl _) _).trans (b.mono (by simp)), ?_, (rd_lit rfl rfl rfl).up b⟩
  have := b.size
  simp at this
  omega
theorem place_q {A : Option Addr} {l : List Int} {c n : Nat} {x v : Int} {w : World} (hl : Rd w w.heap.size A c (cellsI l)) (hm : l.length ≤ 9223372036854775807) (hv : plc l x = v) :
    Calls Try.prog 26 #[.slice A l.length c, .int .i64 x] (w.drewN n) fun e w'' => e = .returned (.int .i64 v) ∧ ∃ k, w'' = w.drewN k := by
  subst hv
  exact (place_any A l c x (w.drewN n) hl hm).mono fun _ _ ⟨h, e⟩ => ⟨h, n, e.symm⟩
theorem has_q {A : Option Addr} {l : List Int} {c n : Nat} {x : Int} {v : Bool} {w : World} (hl : Rd w w.heap.size A c (cellsI l)) (hm : l.length ≤ 9223372036854775807) (hv : hasB l x = v) :
    Calls Try.prog 24 #[.slice A l.length c, .int .i64 x] (w.drewN n) fun e w'' => e = .returned (.bool v) ∧ ∃ k, w'' = w.drewN k := by
  subst hv
  exact (has_any A l c x (w.drewN n) hl hm).mono fun _ _ ⟨h, e⟩ => ⟨h, n, e.symm⟩
end Go.Proofs.Ytlaklfiodmnocaa
