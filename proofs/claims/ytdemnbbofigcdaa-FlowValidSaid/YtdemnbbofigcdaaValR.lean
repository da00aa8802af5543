/- The reference's Value. -/
import Derived.Test.YtdemnbbofigcdaaNetR
import Derived.Test.YtdemnbbofigcdaaAlive
import Derived.Test.YtdemnbbofigcdaaOpen
namespace Go.Proofs.Ytdemnbbofigcdaa
open Go.RowKit

theorem refValue_any (A B : Option Addr) (l : List Ed) (f : List Int) (c d : Nat) (s : Int) (w : World) (hp : Es w w.heap.size A l) (hq : Rd w w.heap.size B d (cellsI f)) (hl : Low l f) :
    Calls Try.prog 16 #[.slice A l.length c, .slice B f.length d, .int .i64 s] w fun e w' => e = .returned (.int .i64 (net l f s)) ∧ w = w' := by
  have k := Lib.hid (net_any A B l f c d s w hp hq hl)
  generalize net l f s = z at *
  clear hp hq hl
  go_enter Try.func16, Try.ntmps16
  go_wp2_with (go_at_call 28; (with_reducible refine (k.out).mono ?_); rintro e wq ⟨rfl, rfl⟩)
  go_ret
  exact ⟨rfl, rfl⟩
end Go.Proofs.Ytdemnbbofigcdaa
