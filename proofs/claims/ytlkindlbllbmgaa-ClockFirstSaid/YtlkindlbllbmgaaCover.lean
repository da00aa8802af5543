/- Cover: the program's and the reference's: is a time in the set of a list? -/
import Derived.Test.YtlkindlbllbmgaaMem
import Derived.LoopTactic
namespace Go.Proofs.Ytlkindlbllbmgaa
open Go.RowKit

noncomputable def covB (l : List Iv) (t : Int) : Bool := @decide (cov l t) (Classical.propDecidable _)
theorem covB_true {l : List Iv} {t : Int} (h : cov l t) : covB l t = true := by unfold covB; exact @decide_eq_true _ (Classical.propDecidable _) h
theorem covB_false {l : List Iv} {t : Int} (h : ¬ cov l t) : covB l t = false := by unfold covB; exact @decide_eq_false _ (Classical.propDecidable _) h
theorem covB_of {l : List Iv} {t : Int} (h : covB l t = true) : cov l t := by unfold covB at h; exact @of_decide_eq_true _ (Classical.propDecidable _) h
theorem covB_not {l : List Iv} {t : Int} (h : covB l t = false) : ¬ cov l t := by unfold covB at h; exact @of_decide_eq_false _ (Classical.propDecidable _) h
/-- None of the first k intervals holds t. -/
def noneIn (l : List Iv) (k : Nat) (t : Int) : Prop := ∀ i, i < k → ¬ inIv (lx l i, ly l i) t
theorem noneIn_all {l : List Iv} {t : Int} (h : noneIn l l.length t) : covB l t = false := covB_false fun ⟨p, hp, hi⟩ => by
  obtain ⟨i, hi', rfl⟩ := List.getElem_of_mem hp
  exact h i hi' (by rw [lxy_at hi']; exact hi)
theorem covB_at {l : List Iv} {t : Int} {k : Nat} (hk : k < l.length) (h : inIv (lx l k, ly l k) t) : covB l t = true :=
  covB_true ⟨_, List.getElem_mem hk, by rw [← lxy_at hk]; exact h⟩
theorem noneIn_step {l : List Iv} {t : Int} {k : Nat} (h : noneIn l k t) (hk : ¬ inIv (lx l k, ly l k) t) : noneIn l (k + 1) t := fun i hi => by
  rcases Nat.lt_or_ge i k with c | c
  · exact h i c
  · obtain rfl : i = k := by omega
    exact hk

theorem new_two {w w' : World} {x y : Value} {T : TypeId} (b : Below (w.alloc (.cells #[x, y] T)).heap.size (w.alloc (.cells #[x, y] T)) w') :
    w'.cell? ⟨w.heap.size, 0, none⟩ = some x ∧ w'.cell? ⟨w.heap.size, 1, none⟩ = some y ∧ Below w.heap.size w w' := by
  refine ⟨(b.cell (by simp)).trans (by simp [World.cell?_alloc_new]), (b.cell (by simp)).trans (by simp [World.cell?_alloc_new]), ((Below.refl _ _).alloc (Nat.le_refl _) _).trans (b.mono (by simp))⟩
theorem inIv_val {l : List Iv} {k : Nat} {t : Int} (hv : valB (lx l k) (ly l k) = false) : ¬ inIv (lx l k, ly l k) t := fun h => by
  unfold inIv at h
  have := valB_not hv
  simp only at h
  omega

set_option maxRecDepth 100000 in
set_option maxHeartbeats 1000000 in
theorem cover_any (A : Option Addr) (l : List Iv) (cap : Nat) (t : Int) (w : World) (hp : Ivs w w.heap.size A l) (hmax : l.length ≤ 9223372036854775807) :
    Calls Try.prog 28 #[.slice A l.length cap, .int .i64 t] w fun e w' => e = .returned (.bool (covB l t)) ∧ Below w.heap.size w w' := by
  have hP := Lib.hid hp
  clear hp
  go_enter Try.func28, Try.ntmps28
  go_wp2
  go_loopw [9] (fun i wr => ∃ k : Nat, k ≤ l.length ∧ i = .int .i64 k ∧ Hid (noneIn l k t) ∧ Below w.heap.size w wr) (fun i _ => l.length - (intOf i).toNat)
  case atStart => exact ⟨0, by omega, rfl, Lib.hid (fun j hj => absurd hj (by omega)), Below.refl _ _⟩
  case round =>
    obtain ⟨k, hk, rfl, hok, hb⟩ := hrel
    by_cases hlt : k < l.length
    · obtain ⟨ad, rfl, hbl, hc⟩ := hP.out (by omega)
      obtain ⟨hx, hy⟩ := hc k hlt
      have hx0 : wr.cell? (ad.add (k * 2)) = some (.int .i64 (lx l k)) := (hb.cell (by rw [block_of_add]; exact hbl)).trans hx
      have hy0 : wr.cell? { block := (ad.add (k * 2)).block, off := (ad.add (k * 2)).off + 1 } = some (.int .i64 (ly l k)) := (hb.cell (by show (ad.add (k * 2)).block < _; rw [block_of_add]; exact hbl)).trans hy
      have hb' := Lib.hid hb
      clear hb hx hy hc hbl hP
      rcases hv : valB (lx l k) (ly l k) with _ | _
      · have hok' := Lib.hid (noneIn_step hok.out (inIv_val hv))
        clear hok
        go_wp2_with (go_at_call 41; refine (isValid_any _ _ _).mono ?_; rintro e w2 ⟨rfl, b⟩; (obtain ⟨z0, z1, z2⟩ := new_two b); (have zb := Lib.hid (hb'.out.trans (z2.mono hb'.out.size))); clear b z2)
        exact ⟨⟨k + 1, hlt, by go_num, hok', zb.out⟩, by simp [intOf]; omega⟩
      · have hvv := valB_of hv
        by_cases hxt : lx l k ≤ t
        · by_cases hty : t < ly l k
          · have hr := Lib.hid (covB_at hlt ⟨hvv.1, hvv.2.2, hxt, hty⟩)
            clear hok
            go_wp2_with (go_at_call 41; refine (isValid_any _ _ _).mono ?_; rintro e w2 ⟨rfl, b⟩; (obtain ⟨z0, z1, z2⟩ := new_two b); (have zb := Lib.hid (hb'.out.trans (z2.mono hb'.out.size))); clear b z2)
            go_ret
            exact ⟨congrArg (fun b => Ending.returned (.bool b)) hr.out.symm, zb.out⟩
          · have hok' := Lib.hid (noneIn_step hok.out (fun h => hty h.2.2.2))
            have hdec : decide (t < ly l k) = false := decide_eq_false hty
            clear hok
            go_wp2_with (go_at_call 41; refine (isValid_any _ _ _).mono ?_; rintro e w2 ⟨rfl, b⟩; (obtain ⟨z0, z1, z2⟩ := new_two b); (have zb := Lib.hid (hb'.out.trans (z2.mono hb'.out.size))); clear b z2)
            exact ⟨⟨k + 1, hlt, by go_num, hok', zb.out⟩, by simp [intOf]; omega⟩
        · have hok' := Lib.hid (noneIn_step hok.out (fun h => hxt h.2.2.1))
          have hdec : decide (lx l k ≤ t) = false := decide_eq_false hxt
          clear hok
          go_wp2_with (go_at_call 41; refine (isValid_any _ _ _).mono ?_; rintro e w2 ⟨rfl, b⟩; (obtain ⟨z0, z1, z2⟩ := new_two b); (have zb := Lib.hid (hb'.out.trans (z2.mono hb'.out.size))); clear b z2)
          exact ⟨⟨k + 1, hlt, by go_num, hok', zb.out⟩, by simp [intOf]; omega⟩
    · obtain rfl : k = l.length := by omega
      have hr := Lib.hid (noneIn_all hok.out)
      have hb' := Lib.hid hb
      clear hb hok hP
      go_wp2
      go_ret
      exact ⟨congrArg (fun b => Ending.returned (.bool b)) hr.out.symm, hb'.out⟩
end Go.Proofs.Ytlkindlbllbmgaa
