/- 'Env' holds in every world of the rows. -/
import Derived.Test.YtleddfceigmlmaaDoorLaw
import Derived.Test.YtleddfceigmlmaaDoorAlive
import Derived.DataShut
namespace Go.Proofs.YtleddfceigmlmaaDoor
open Go.RowKit Go.Shelf

theorem i64_bounds {n : Int} (h : (Lit.int .i64 n).wf = true) : -9223372036854775808 ≤ n ∧ n ≤ 9223372036854775807 := by
  have := (Lit.wf_int_iff .i64 n).1 h
  exact this
theorem tab_type : (Tryd.prog.globals[5]?).map (·.type) = some 90 := by kernel_rfl
theorem tab_cells : Tryd.prog.cellsOf 90 = 20 := by kernel_rfl
theorem tab_cell : Tryd.prog.cellsOf 46 = 1 := by kernel_rfl
theorem env_of {W : World} (h : laidMetH Tryd.prog Rows.fixedAddsRow.laid W) (hs : W.ShapedOpen Tryd.prog) : Env W :=
  ⟨Tryd.laysM219.s1_3 W hs, Lib.tabIs_of_head tab_global tab_type Tryd.underlying90 Tryd.underlying46 tab_cell tab_cells (laidMet.tail (laidMet.tail h))⟩
theorem laid_fits (os : Os) : (World.holding Tryd.prog os ⟨#[], #[], []⟩).layFits Tryd.prog Rows.fixedAddsRow.laid [] = true := by kernel_rfl
theorem laid_ifaces (os : Os) : (World.holding Tryd.prog os ⟨#[], #[], []⟩).layIfaces Tryd.prog Rows.fixedAddsRow.laid (World.laidAll Tryd.prog os Rows.fixedAddsRow.laid) = true := by kernel_rfl
theorem wit_vars (os : Os) (args : Array Value) : ((World.laidAll Tryd.prog os Rows.fixedAddsRow.laid).forCall (fun _ _ => 0) ⟨#[], args, []⟩).variablesRefB Tryd.checked.prog = true := by kernel_rfl
theorem wit_rows (os : Os) (args : Array Value) : (((World.laidAll Tryd.prog os Rows.fixedAddsRow.laid).forCall (fun _ _ => 0) ⟨#[], args, []⟩).heap.toList.drop Tryd.checked.prog.globals.size).take ((begin Tryd.checked.prog (fun _ _ => 0) default).world.heap.size - Tryd.checked.prog.globals.size) = (begin Tryd.checked.prog (fun _ _ => 0) default).world.heap.toList.drop Tryd.checked.prog.globals.size := by kernel_rfl
end Go.Proofs.YtleddfceigmlmaaDoor
