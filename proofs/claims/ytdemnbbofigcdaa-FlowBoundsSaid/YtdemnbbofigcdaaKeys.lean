/- slices.Sorted(maps.Keys(m)): the keys of a map, increasing. -/
import Derived.Test.YtdemnbbofigcdaaShelf
import Derived.Test.YtdemnbbofigcdaaMapV
import Derived.Test.YtdemnbbofigcdaaPut
namespace Go.Proofs.Ytdemnbbofigcdaa
open Go.RowKit Go.MapKept Go.ChangeMaps Go.Maps Go.Sort Go.Shelf

theorem sortsA (m : Nat) : AnyZI.SortsIn Try.prog Try.sortedA_ren Fence.wide m :=
  ⟨fun blk off cap ss W hH hblk hsz => callsIn_wide.2 (AnyM.slices_Sort_int Try.sortA blk off cap ss W hH hblk hsz),
   fun p cap W => callsIn_wide.2 (AnyM.slices_Sort_int_none Try.sortA p cap W)⟩

/-- A value as a datum of its own. -/
def asHeld (v : Value) : Option (DataW Value × List MemPlace) := some (.held v, [])
theorem MapV.owns {w : World} {b n : Nat} {m : Int → Option Value} (h : MapV w b n m) {P : Program} {k : TypeId} (hk : P.underlying k = some (.int .i64)) (hn : n ≤ maxLen) (hwf : ∀ i v, m i = some v → (Lit.int .i64 i).wf = true) :
    ∃ D : DataW Value, w.ownsMap P k asHeld b n D ∧ (∀ i, i ∈ intKeys D ↔ (m i).isSome = true) ∧ (intKeys D).Nodup := by
  obtain ⟨es, clock, h1, h2, h3, h4, h5⟩ := h
  have hrd : ∀ x ∈ es.toList, ∃ i, x.key = .int .i64 i ∧ m i = some x.val ∧ WideElems.rd P k asHeld x = some (.int .i64 i, .held x.val) := fun x hx => by
    obtain ⟨i, hi, hm⟩ := h4 x hx
    refine ⟨i, hi, hm, ?_⟩
    have hkey : keyOf P k x.key = some (.int .i64 i) := by rw [hi]; exact keyOf_int_mk hk (hwf i _ hm)
    unfold WideElems.rd
    rw [hkey]
    rfl
  have hmem : ∀ i, i ∈ intKeys (DataW.map ((es.toList.map (WideElems.rg P k asHeld)).foldr DataW.insert [])) ↔ ∃ x ∈ es.toList, x.key = .int .i64 i := fun i => by
    unfold intKeys
    simp only [List.mem_map, (WideShapes.sorted_perm _).mem_iff]
    constructor
    · rintro ⟨p, ⟨x, hx, rfl⟩, hp⟩
      obtain ⟨j, hj, _, hr⟩ := hrd x hx
      rw [WideElems.rg_of hr] at hp
      have hp : j = i := hp
      exact ⟨x, hx, by rw [hj, hp]⟩
    · rintro ⟨x, hx, hxi⟩
      obtain ⟨j, hj, _, hr⟩ := hrd x hx
      refine ⟨_, ⟨x, hx, rfl⟩, ?_⟩
      rw [WideElems.rg_of hr]
      rw [hxi] at hj
      injection hj with _ hj
      exact hj.symm
  refine ⟨_, ⟨es, clock, h1, ⟨Nat.le_trans h3 hn, h2, fun x hx => ?_⟩, h3, rfl⟩, fun i => ?_, ?_⟩
  · obtain ⟨j, _, _, hr⟩ := hrd x hx
    exact ⟨_, hr⟩
  · rw [hmem]
    constructor
    · rintro ⟨x, hx, hxi⟩
      obtain ⟨j, hj, hm⟩ := h4 x hx
      rw [hxi] at hj
      injection hj with _ hj
      rw [hj, hm]
      rfl
    · intro hs
      obtain ⟨v, hv⟩ := Option.isSome_iff_exists.1 hs
      exact h5 i v hv
  · unfold intKeys
    have hp := (WideShapes.sorted_perm (es.toList.map (WideElems.rg P k asHeld)))
    refine ((hp.map _).nodup_iff).2 ?_
    rw [List.map_map]
    have hnd : es.toList.Pairwise (fun x y => x.key ≠ y.key) := ((stamped_iff es clock).1 h2).2.2
    rw [List.nodup_iff_pairwise_ne, List.pairwise_map]
    refine hnd.imp_of_mem ?_
    intro x y hx hy hne he
    obtain ⟨i, hi, _, hri⟩ := hrd x hx
    obtain ⟨j, hj, _, hrj⟩ := hrd y hy
    simp only [Function.comp_apply] at he
    rw [WideElems.rg_of hri, WideElems.rg_of hrj] at he
    have he : i = j := he
    exact hne (by rw [hi, hj, he])
theorem merge_inc {ss L : List Int} (hn : ss.Nodup) (hL : Inc L) (hm : ∀ i, i ∈ ss ↔ i ∈ L) : (ss.mergeSort fun x y => decide (x ≤ y)) = L := by
  refine inc_ext ?_ hL fun x => ?_
  · have hp := List.mergeSort_perm ss (fun x y => decide (x ≤ y))
    have hs : (ss.mergeSort fun x y => decide (x ≤ y)).Pairwise (fun a b => decide (a ≤ b) = true) := List.pairwise_mergeSort (fun a b c h1 h2 => by simp at *; omega) (fun a b => by simp; omega) ss
    have hd : (ss.mergeSort fun x y => decide (x ≤ y)).Pairwise (· ≠ ·) := List.nodup_iff_pairwise_ne.1 (hp.nodup_iff.2 hn)
    exact (hs.and hd).imp (fun ⟨h1, h2⟩ => by simp at h1; omega)
  · rw [(List.mergeSort_perm ss _).mem_iff]
    exact hm x
/-- Numbers of the call's own, over the world W. -/
def KeysPost (L : List Int) (W : World) (e : Ending) (w' : World) : Prop := ∃ A c, e = .returned (.slice A L.length c) ∧ OwnI w' W.heap.size A c L ∧ Below W.heap.size W w'
theorem keysA_any (b : Nat) (W : World) : Calls Try.prog 41 #[.map (some b)] W fun e w' => e = .returned (.func (.func 52) #[] #[.pointer (some ⟨W.heap.size, 0, none⟩)]) ∧ w' = W.alloc (.cells #[.map (some b)] 55) :=
  (callsIn_wide (n := 6)).1 (AnyZI.keys_in Try.keysA Fence.wide 6 trivial rfl (some b) W)
theorem keys_post {W w' : World} {L ss : List Int} {v : Value} {D : DataW Value} {m : Int → Option Value} {e : Ending} (hL : Inc L) (hm : ∀ i, i ∈ L ↔ (m i).isSome = true) (hD : ∀ i, i ∈ intKeys D ↔ (m i).isSome = true) (hnd : (intKeys D).Nodup) (hS : ss.Perm (intKeys D))
    (hrow : w'.ownsRow W.heap.size 3 1 v ss.length ((ss.mergeSort (fun x y => decide (x ≤ y))).map encZ)) (hb : Below W.heap.size W w') (he : e = .returned v) : KeysPost L W e w' := by
  have e1 := merge_inc (hS.nodup_iff.2 hnd) hL (fun i => by rw [hS.mem_iff, hD, hm])
  have hl : ss.length = L.length := by rw [← e1, List.length_mergeSort]
  rw [e1, hl] at hrow
  obtain ⟨A, c, rfl, _⟩ := own_shape hrow
  exact ⟨A, c, he, hrow, hb⟩
theorem sortedA_any (b n : Nat) (m : Int → Option Value) (L : List Int) (W : World) (h : MapV W b n m) (hn : n ≤ 1000000) (hwf : ∀ i v, m i = some v → (Lit.int .i64 i).wf = true) (hL : Inc L) (hm : ∀ i, i ∈ L ↔ (m i).isSome = true) :
    Calls Try.prog 40 #[.func (.func 52) #[] #[.pointer (some ⟨W.heap.size, 0, none⟩)]] (W.alloc (.cells #[.map (some b)] 55)) (KeysPost L (W.alloc (.cells #[.map (some b)] 55))) := by
  obtain ⟨D0, hown, hD, hnd⟩ := h.owns (P := Try.prog) (k := 3) Try.underlying3 (by unfold maxLen; omega) hwf
  have hsz := hown.size_le
  have hbl := hown.lt
  refine (callsIn_wide (n := 6)).1 ?_
  have hseq : SeqGives Fence.wide 3 Try.prog 52 #[.pointer (some ⟨W.heap.size, 0, none⟩)] encZ (fun ss => ss.Perm (intKeys D0)) (Maps.size D0) (W.alloc (.cells #[.map (some b)] 55)) :=
    AnyZI.keys_gives (ρ := Try.keysA_ren) { Try.keysA with } Fence.wide _ trivial rfl (by omega) W.heap.size b n D0 _ (by simp) (by simp) (by
      obtain ⟨es, clock, hb, Ft, hs, hD⟩ := hown
      exact ⟨es, clock, (Below.heap_alloc _ _ b hbl).trans hb, Ft, hs, hD⟩)
  have cS := AnyZI.sorted_in Try.sortedA Fence.wide 6 trivial trivial trivial trivial rfl (by omega) (sortsA _) (enters_of Try.func51 (by kernel_rfl) rfl) 52 #[.pointer (some ⟨W.heap.size, 0, none⟩)] trivial (enters_of Try.func52 (by kernel_rfl) rfl) _ _ (by unfold maxLen; omega) (by omega) _ hseq
  exact cS.mono fun e w' ⟨v, ss, he, hS, hrow, _, hb⟩ => keys_post hL hm hD hnd hS hrow hb he
end Go.Proofs.Ytdemnbbofigcdaa
