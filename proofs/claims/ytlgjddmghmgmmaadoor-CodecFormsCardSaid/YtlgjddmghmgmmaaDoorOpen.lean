/- The arguments of the laws, opened; the table in every world of the rows. -/
import Derived.Test.YtlgjddmghmgmmaaDoorLaw
import Derived.Test.YtlgjddmghmgmmaaDoorSum
import Derived.Test.YtlgjddmghmgmmaaDoorList
namespace Go.Proofs.YtlgjddmghmgmmaaDoor
open Go.RowKit Go.ChangeShapes Go.WideShapes

theorem i64_bounds {n : Int} (h : (Lit.int .i64 n).wf = true) : -9223372036854775808 ≤ n ∧ n ≤ 9223372036854775807 := by
  have := (Lit.wf_int_iff .i64 n).1 h
  exact this
theorem u8_bounds {n : Int} (h : (Lit.int .u8 n).wf = true) : 0 ≤ n ∧ n ≤ 255 := by
  have := (Lit.wf_int_iff .u8 n).1 h
  exact this
/-- The cells of a slice of integers that came in. -/
theorem rd_in {w : World} {a : Addr} {len cap : Nat} {k : IntKind} {zs : List Int} (hl : len ≤ cap) (hz : zs.length = cap) (hc : ∀ i, i < zs.length → w.cell? (a.add i) = some (.int k (zs.getD i 0))) : Rd w w.heap.size (some a) cap ((zs.take len).map (Value.int k)) := by
  refine ⟨by rw [List.length_map, List.length_take]; omega, (fun h => by cases h), fun hn => ⟨a, rfl, ?_, fun i u hu => ?_⟩⟩
  · have h0 := hc 0 (by rw [List.length_map, List.length_take] at hn; omega)
    have := World.block_lt_of_cell? _ _ h0
    rwa [block_of_add] at this
  · rw [List.getElem?_map, List.getElem?_take] at hu
    split at hu
    · obtain ⟨x, hx, rfl⟩ := Option.map_eq_some_iff.1 hu
      have hi := (List.getElem?_eq_some_iff.1 hx).1
      rw [hc i hi]
      simp [List.getD, hx]
    · cases hu
section
variable {H : Type} {enc : TypeId × Value → H} {w : World} {base : Nat} {held : Bool} {v : Value} {d : DataW H} {p : List MemPlace} {r : Reach} {b0 : Nat}
theorem bs_of {zs : List Int} (hw : ∀ n ∈ zs, (Lit.int .u8 n).wf = true) : ∃ l : List UInt8, cells8 l = zs.map (Value.int .u8) := by
  refine ⟨zs.map fun n => UInt8.ofNat n.toNat, ?_⟩
  rw [cells8, List.map_map]
  refine List.map_congr_left fun n hn => ?_
  have := u8_bounds (hw n hn)
  show Value.int .u8 ((UInt8.ofNat n.toNat).toNat : Int) = _
  rw [ofNat_toNat (by omega)]
  congr 1
  omega
theorem open_bs_rd (h : DataW.Trod enc Tryd.prog w base (fun _ => true) held 22 v d p) (hs : ∃ a l c, v = .slice a l c) :
    ∃ (A : Option Addr) (c : Nat) (l : List UInt8), v = .slice A l.length c ∧ c ≤ maxLen ∧ Rd w w.heap.size A c (cells8 l) := by
  obtain ⟨a0, len, cap, rfl⟩ := hs
  obtain ⟨fuel, hf⟩ := h
  rcases open_ints Tryd.underlying22 Tryd.underlying5 (by kernel_rfl) hf with ⟨hcs, _⟩ | ⟨a, len', cap', zs, hcs, _, hl, hm, hz, _, hcell, hwz⟩
  · simp [Value.cells] at hcs
    obtain ⟨rfl, rfl, rfl⟩ := hcs
    exact ⟨none, 0, [], rfl, Nat.zero_le _, Rd.none_⟩
  · simp [Value.cells] at hcs
    obtain ⟨rfl, rfl, rfl⟩ := hcs
    simp only [if_true] at hz
    have hr := rd_in hl hz hcell
    obtain ⟨l, hl2⟩ := bs_of (zs := zs.take len) (fun n hn => hwz n (List.mem_of_mem_take hn))
    have hll : l.length = len := by
      have := congrArg List.length hl2
      rw [cells8_len, List.length_map, List.length_take] at this
      omega
    rw [← hl2] at hr
    exact ⟨some a, cap, l, by rw [hll], hm, hr⟩
theorem open_is_rd (h : DataW.Trod enc Tryd.prog w base (fun _ => true) held 34 v d p) (hs : ∃ a l c, v = .slice a l c) :
    ∃ (A : Option Addr) (c : Nat) (l : List Int), v = .slice A l.length c ∧ c ≤ maxLen ∧ ints l ∧ Rd w w.heap.size A c (cellsI l) := by
  obtain ⟨a0, len, cap, rfl⟩ := hs
  obtain ⟨fuel, hf⟩ := h
  rcases open_ints Tryd.underlying34 Tryd.underlying3 (by kernel_rfl) hf with ⟨hcs, _⟩ | ⟨a, len', cap', zs, hcs, _, hl, hm, hz, _, hcell, hwz⟩
  · simp [Value.cells] at hcs
    obtain ⟨rfl, rfl, rfl⟩ := hcs
    exact ⟨none, 0, [], rfl, Nat.zero_le _, (fun _ h => by cases h), Rd.none_⟩
  · simp [Value.cells] at hcs
    obtain ⟨rfl, rfl, rfl⟩ := hcs
    simp only [if_true] at hz
    have hr := rd_in hl hz hcell
    exact ⟨some a, cap, zs.take len, by rw [List.length_take, Nat.min_eq_left (by omega)], hm, fun n hn => i64_bounds (hwz n (List.mem_of_mem_take hn)), hr⟩
end
theorem tab_type : (Tryd.prog.globals[0]?).map (·.type) = some 53 := by kernel_rfl
theorem tab_cells : Tryd.prog.cellsOf 53 = 16 := by kernel_rfl
theorem tab_cell : Tryd.prog.cellsOf 40 = 1 := by kernel_rfl
theorem laid_tab : (Rows.laid_skiarea_codec_sumSteps : DataW Unit) = Lib.tabData .u32 steps := rfl
theorem env_of {W : World} (h : laidMetH Tryd.prog Rows.codecNumbersRow.laid W) : Env W :=
  Env.of (Lib.tabIs_of_head tab_global tab_type Tryd.underlying53 Tryd.underlying40 tab_cell tab_cells (rest := []) (by rw [← laid_tab]; exact h))
theorem laid_fits (os : Os) : (World.holding Tryd.prog os ⟨#[], #[], []⟩).layFits Tryd.prog Rows.codecNumbersRow.laid [] = true := by kernel_rfl
theorem laid_ifaces (os : Os) : (World.holding Tryd.prog os ⟨#[], #[], []⟩).layIfaces Tryd.prog Rows.codecNumbersRow.laid (World.laidAll Tryd.prog os Rows.codecNumbersRow.laid) = true := by kernel_rfl
theorem wit_vars (os : Os) (args : Array Value) : ((World.laidAll Tryd.prog os Rows.codecNumbersRow.laid).forCall (fun _ _ => 0) ⟨#[], args, []⟩).variablesRefB Tryd.checked.prog = true := by kernel_rfl
theorem wit_rows (os : Os) (args : Array Value) : (((World.laidAll Tryd.prog os Rows.codecNumbersRow.laid).forCall (fun _ _ => 0) ⟨#[], args, []⟩).heap.toList.drop Tryd.checked.prog.globals.size).take ((begin Tryd.checked.prog (fun _ _ => 0) default).world.heap.size - Tryd.checked.prog.globals.size) = (begin Tryd.checked.prog (fun _ _ => 0) default).world.heap.toList.drop Tryd.checked.prog.globals.size := by kernel_rfl

theorem ints_lsN : ∀ (k : Nat) (l : List UInt8), ints (lsN k l)
  | 0, _ => fun _ h => by cases h
  | k + 1, l => fun n h => by
    rw [lsN] at h
    rcases List.mem_cons.1 h with rfl | h
    · have := gN_lt l
      omega
    · exact ints_lsN k _ n h
theorem ints_tL (l : List UInt8) : ints (tL l) := by
  unfold tL
  split
  · exact ints_lsN _ _
  · exact fun _ h => by cases h
end Go.Proofs.YtlgjddmghmgmmaaDoor
