/- The arguments of the laws, opened. -/
import Derived.Test.YtelmkihndmkbkaaLaw
import Derived.Test.YtelmkihndmkbkaaAlive
import Derived.Lib.SmallJoins
namespace Go.Proofs.Ytelmkihndmkbkaa
open Go.RowKit Go.ChangeShapes Go.WideShapes

theorem u8_bounds {n : Int} (h : (Lit.int .u8 n).wf = true) : 0 ≤ n ∧ n ≤ 255 := by
  have := (Lit.wf_int_iff .u8 n).1 h
  exact this
theorem u64_nat {n : Int} (h : (Lit.int .u64 n).wf = true) : ∃ m : Nat, n = (m : Int) ∧ m < 18446744073709551616 := by
  have h1 : 0 ≤ n ∧ n ≤ 18446744073709551615 := (Lit.wf_int_iff .u64 n).1 h
  exact ⟨n.toNat, by omega, by omega⟩
/-- The cells of a slice of integers that came in. -/
theorem rd_in {w : World} {a : Addr} {len cap : Nat} {k : IntKind} {zs : List Int} (hl : len ≤ cap) (hz : zs.length = cap) (hc : ∀ i, i < zs.length → w.cell? (a.add i) = some (.int k (zs.getD i 0))) : Rd w w.heap.size (some a) cap ((zs.take len).map (Value.int k)) := by
  refine ⟨by rw [List.length_map, List.length_take]; omega, (fun h => by cases h), fun hn => ⟨a, rfl, ?_, fun i u hu => ?_⟩⟩
  · have h0 := hc 0 (by rw [List.length_map, List.length_take] at hn; omega)
    have := World.block_lt_of_cell? _ _ h0
    rwa [block_of_add] at this
  · rw [List.getElem?_map, List.getElem?_take] at hu
    split at hu
    · obtain ⟨x, hx, rfl⟩ := Option.map_eq_some_iff.1 hu
      have hi := (List.getElem?_eq_some_iff.1 hx).1
      rw [hc i hi]
      simp [List.getD, hx]
    · cases hu
theorem ofNat_toNat {n : Nat} (h : n < 256) : (UInt8.ofNat n).toNat = n := by
  rw [UInt8.toNat_ofNat', Nat.mod_eq_of_lt h]
theorem bs_of {zs : List Int} (hw : ∀ n ∈ zs, (Lit.int .u8 n).wf = true) : ∃ l : List UInt8, cells8 l = zs.map (Value.int .u8) := by
  refine ⟨zs.map fun n => UInt8.ofNat n.toNat, ?_⟩
  rw [cells8, List.map_map]
  refine List.map_congr_left fun n hn => ?_
  have := u8_bounds (hw n hn)
  show Value.int .u8 ((UInt8.ofNat n.toNat).toNat : Int) = _
  rw [ofNat_toNat (by omega)]
  congr 1
  omega
section
variable {H : Type} {enc : TypeId × Value → H} {w : World} {base : Nat} {held : Bool} {v : Value} {d : DataW H} {p : List MemPlace} {r : Reach} {b0 : Nat}
theorem open_bs_rd (h : DataW.Trod enc Try.prog w base (fun _ => true) held 28 v d p) (hs : ∃ a l c, v = .slice a l c) :
    ∃ (A : Option Addr) (c : Nat) (l : List UInt8), v = .slice A l.length c ∧ c ≤ maxLen ∧ Rd w w.heap.size A c (cells8 l) := by
  obtain ⟨a0, len, cap, rfl⟩ := hs
  obtain ⟨fuel, hf⟩ := h
  rcases open_ints Try.underlying28 Try.underlying5 (by kernel_rfl) hf with ⟨hcs, _⟩ | ⟨a, len', cap', zs, hcs, _, hl, hm, hz, _, hcell, hwz⟩
  · simp [Value.cells] at hcs
    obtain ⟨rfl, rfl, rfl⟩ := hcs
    exact ⟨none, 0, [], rfl, Nat.zero_le _, Rd.none_⟩
  · simp [Value.cells] at hcs
    obtain ⟨rfl, rfl, rfl⟩ := hcs
    simp only [if_true] at hz
    have hr := rd_in hl hz hcell
    obtain ⟨l, hl2⟩ := bs_of (zs := zs.take len) (fun n hn => hwz n (List.mem_of_mem_take hn))
    have hll : l.length = len := by
      have := congrArg List.length hl2
      rw [cells8_len, List.length_map, List.length_take] at this
      omega
    rw [← hl2] at hr
    exact ⟨some a, cap, l, by rw [hll], hm, hr⟩
theorem okWide_array {P : Program} {t e : TypeId} {n : Nat} (ht : P.underlying t = some (.array n e)) (h : Value.okWide P w r b0 t v) : ∃ cs, v = .agg cs ∧ cs.size = P.cellsOf t := by
  simp only [Value.okWide, ht] at h
  obtain ⟨cs, h1, h2, _⟩ := h
  exact ⟨cs, h1, h2⟩
/-- An array of integers by value, of any length. -/
theorem open_arr {P : Program} {sp : Nat → Bool} {t e : TypeId} {n : Nat} {k : IntKind} (ht : P.underlying t = some (.array n e)) (he : P.underlying e = some (.int k)) (hce : P.cellsOf e = 1) (hct : P.cellsOf t = n)
    (hok : Value.okWide P w r b0 t v) (h : DataW.Trod enc P w base sp held t v d p) :
    ∃ zs : List Int, zs.length = n ∧ v = .agg (zs.map (Value.int k)).toArray ∧ ∀ z ∈ zs, (Lit.int k z).wf = true := by
  obtain ⟨cs, rfl, hsz⟩ := okWide_array ht hok
  rw [hct] at hsz
  obtain ⟨fuel, hf⟩ := h
  obtain ⟨xs, m, _, _, _, hl, hi⟩ := DataW.trod_array ht hf
  have one : ∀ i (hi' : i < cs.size), ∃ a : Int, cs[i] = .int k a ∧ (Lit.int k a).wf = true := by
    intro i hi'
    have h1 := hi i (by omega)
    rw [hce, Nat.mul_one] at h1
    have hx : xs[i]? = some (xs[i]'(by omega)) := List.getElem?_eq_getElem (by omega)
    have hone' : ((Value.agg cs).cells.toList.drop i).take 1 = [cs[i]] := by
      show (cs.toList.drop i).take 1 = _
      rw [List.drop_eq_getElem_cons (by simpa using hi')]
      rfl
    rw [hone', hx] at h1
    obtain ⟨a, ha, _, hwf⟩ := DataW.trod_int he h1
    exact ⟨a, by simpa using ha, hwf⟩
  have all : ∀ l : List Value, (∀ u ∈ l, ∃ a : Int, u = .int k a ∧ (Lit.int k a).wf = true) → ∃ zs : List Int, l = zs.map (Value.int k) ∧ ∀ z ∈ zs, (Lit.int k z).wf = true := by
    intro l
    induction l with
    | nil => exact fun _ => ⟨[], rfl, fun _ h => by cases h⟩
    | cons u l ih =>
      intro hu
      obtain ⟨a, rfl, ha⟩ := hu u (List.mem_cons_self ..)
      obtain ⟨zs, rfl, hz⟩ := ih fun x hx => hu x (List.mem_cons_of_mem _ hx)
      refine ⟨a :: zs, rfl, fun z hz' => ?_⟩
      rcases List.mem_cons.1 hz' with rfl | h
      · exact ha
      · exact hz z h
  obtain ⟨zs, hzs, hw⟩ := all cs.toList fun u hu => by
    obtain ⟨i, hi', rfl⟩ := List.mem_iff_getElem.1 hu
    exact one i (by simpa using hi')
  refine ⟨zs, ?_, ?_, hw⟩
  · have := congrArg List.length hzs
    simpa [hsz] using this.symm
  · rw [← hzs]
end
end Go.Proofs.Ytelmkihndmkbkaa
