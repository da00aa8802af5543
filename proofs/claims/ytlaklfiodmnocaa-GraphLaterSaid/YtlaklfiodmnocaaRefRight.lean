/- The reference's Right: is a list of edges a graph? -/
import Derived.Test.YtlaklfiodmnocaaBack
namespace Go.Proofs.Ytlaklfiodmnocaa
open Go.RowKit

def Rng (e : Ed) : Prop := 0 ≤ e.frm ∧ e.frm ≤ 9999 ∧ 0 ≤ e.to ∧ e.to ≤ 9999 ∧ 0 ≤ e.cost ∧ e.cost ≤ 1000000
instance (e : Ed) : Decidable (Rng e) := by unfold Rng; infer_instance
def rgo : List Ed → List Ed → Nat
  | _, [] => 0
  | s, e :: l => if ¬ Rng e then 2 else if e.id ∈ s.map Ed.id then 7 else rgo (s ++ [e]) l
def rightN (l : List Ed) : Nat := if 200 < l.length then 4 else rgo [] l
theorem drop_e {l : List Ed} {k : Nat} (h : k < l.length) : l.drop k = ⟨eI l k, eF l k, eT l k, eC l k⟩ :: l.drop (k + 1) := by
  rw [List.drop_eq_getElem_cons h, e_eta h]
theorem take_e {l : List Ed} {k : Nat} (h : k < l.length) : l.take (k + 1) = l.take k ++ [⟨eI l k, eF l k, eT l k, eC l k⟩] := by
  rw [List.take_succ_eq_append_getElem h, e_eta h]
theorem rgo_bad {l : List Ed} {k : Nat} (h : k < l.length) (hb : ¬ Rng ⟨eI l k, eF l k, eT l k, eC l k⟩) : rgo (l.take k) (l.drop k) = 2 := by
  rw [drop_e h, rgo, if_pos hb]
theorem rgo_twice {l : List Ed} {k : Nat} (h : k < l.length) (hb : Rng ⟨eI l k, eF l k, eT l k, eC l k⟩) (hd : eI l k ∈ (l.take k).map Ed.id) : rgo (l.take k) (l.drop k) = 7 := by
  rw [drop_e h, rgo, if_neg (fun h => h hb), if_pos hd]
theorem rgo_next {l : List Ed} {k : Nat} (h : k < l.length) (hb : Rng ⟨eI l k, eF l k, eT l k, eC l k⟩) (hd : eI l k ∉ (l.take k).map Ed.id) : rgo (l.take k) (l.drop k) = rgo (l.take (k + 1)) (l.drop (k + 1)) := by
  rw [drop_e h, rgo, if_neg (fun h => h hb), if_neg hd, take_e h]
theorem rgo_end {l : List Ed} {k : Nat} (h : k = l.length) : rgo (l.take k) (l.drop k) = 0 := by
  rw [h, List.drop_length, rgo]
theorem mem_ids {l : List Ed} {k : Nat} (h : k < l.length) {x : Int} : x ∈ (l.take (k + 1)).map Ed.id ↔ x ∈ (l.take k).map Ed.id ∨ eI l k = x := by
  rw [take_e h, List.map_append, List.mem_append]
  constructor
  · rintro (h | h)
    · exact .inl h
    · simp at h
      exact .inr h.symm
  · rintro (h | h)
    · exact .inl h
    · exact .inr (by simp [h])
theorem rgo_zero : ∀ {l s : List Ed}, rgo s l = 0 ↔ (∀ e ∈ l, Rng e) ∧ (∀ e ∈ l, e.id ∉ s.map Ed.id) ∧ (l.map Ed.id).Nodup
  | [], s => by simp [rgo]
  | e :: l, s => by
    rw [rgo]
    by_cases h1 : Rng e
    · rw [if_neg (fun h => h h1)]
      by_cases h2 : e.id ∈ s.map Ed.id
      · rw [if_pos h2]
        constructor
        · intro h; omega
        · rintro ⟨_, h, _⟩
          exact absurd h2 (h e (List.mem_cons_self ..))
      · rw [if_neg h2, rgo_zero]
        rw [List.map_cons, List.nodup_cons]
        constructor
        · rintro ⟨a, b, c⟩
          refine ⟨fun x hx => ?_, fun x hx => ?_, fun hm => ?_, c⟩
          · rcases List.mem_cons.1 hx with rfl | hx
            · exact h1
            · exact a x hx
          · rcases List.mem_cons.1 hx with rfl | hx
            · exact h2
            · exact fun hm => b x hx (by rw [List.map_append]; exact List.mem_append_left _ hm)
          · obtain ⟨x, hx, hxe⟩ := List.mem_map.1 hm
            exact b x hx (by rw [List.map_append]; exact List.mem_append_right _ (by simp [hxe]))
        · rintro ⟨a, b, c, d⟩
          refine ⟨fun x hx => a x (List.mem_cons_of_mem _ hx), fun x hx hm => ?_, d⟩
          rw [List.map_append] at hm
          rcases List.mem_append.1 hm with hm | hm
          · exact b x (List.mem_cons_of_mem _ hx) hm
          · simp at hm
            exact c (List.mem_map.2 ⟨x, hx, hm⟩)
    · rw [if_pos h1]
      constructor
      · intro h; omega
      · rintro ⟨h, _⟩
        exact absurd (h e (List.mem_cons_self ..)) h1
/-- A graph. -/
def Grph (l : List Ed) : Prop := l.length ≤ 200 ∧ (∀ e ∈ l, Rng e) ∧ (l.map Ed.id).Nodup
theorem right_iff {l : List Ed} : rightN l = 0 ↔ Grph l := by
  unfold rightN Grph
  split
  · constructor
    · intro h; omega
    · rintro ⟨h, _⟩; omega
  · rw [rgo_zero]
    constructor
    · rintro ⟨a, _, c⟩
      exact ⟨by omega, a, c⟩
    · rintro ⟨_, a, c⟩
      exact ⟨a, fun _ _ => by simp, c⟩
theorem right_short {l : List Ed} (h : ¬ 200 < l.length) : rightN l = rgo [] l := if_neg h
theorem box_four {w w1 : World} {T : TypeId} {v0 v1 v2 v3 : Value} (b : Below (w.alloc (.cells #[v0, v1, v2, v3] T)).heap.size (w.alloc (.cells #[v0, v1, v2, v3] T)) w1) :
    w1.cell? ⟨w.heap.size, 0, none⟩ = some v0 ∧ w1.cell? ⟨w.heap.size, 1, none⟩ = some v1 ∧ w1.cell? ⟨w.heap.size, 2, none⟩ = some v2 ∧ w1.cell? ⟨w.heap.size, 3, none⟩ = some v3 := by
  have h : ∀ i u, #[v0, v1, v2, v3].toList[i]? = some u → w1.cell? ⟨w.heap.size, i, none⟩ = some u := fun i u hu => by
    have := World.news_of_block (heap_alloc_new w (.cells #[v0, v1, v2, v3] T)) i u hu
    rw [add_pos] at this
    exact (b.cell (by simp)).trans this
  exact ⟨h 0 _ rfl, h 1 _ rfl, h 2 _ rfl, h 3 _ rfl⟩

set_option maxRecDepth 100000 in
set_option maxHeartbeats 4000000 in
theorem refRight_any (A : Option Addr) (l : List Ed) (c : Nat) (w : World) (hp : Es w w.heap.size A l) (hmax : l.length ≤ 9223372036854775807) :
    Calls Try.prog 13 #[.slice A l.length c] w fun e w' => e = .returned (.int .i64 (rightN l : Nat)) ∧ Below w.heap.size w w' := by
  have hP := Lib.hid hp
  clear hp
  by_cases h200 : 200 < l.length
  · rw [show rightN l = 4 from if_pos h200]
    clear hP
    go_enter Try.func13, Try.ntmps13
    go_wp2
    go_ret
    exact ⟨rfl, Below.refl _ _⟩
  rw [right_short h200]
  obtain ⟨goal, hg⟩ : ∃ g, rgo [] l = g := ⟨_, rfl⟩
  rw [hg]
  have hG0 : Hid (rgo (l.take 0) (l.drop 0) = goal) := Lib.hid hg
  clear hg
  go_enter Try.func13, Try.ntmps13
  go_wp2
  go_loopw [3] (fun i wr => ∃ k : Nat, k ≤ l.length ∧ i = .int .i64 k ∧ Below w.heap.size w wr ∧ Hid (rgo (l.take k) (l.drop k) = goal)) (fun i _ => l.length - (intOf i).toNat)
  case atStart => exact ⟨0, by omega, rfl, Below.refl _ _, hG0⟩
  case round =>
    obtain ⟨k, hk, rfl, hb, hG⟩ := hrel
    have hB := Lib.hid hb
    clear hb hG0
    by_cases hlt : k < l.length
    · obtain ⟨ad, rfl, hab, c0⟩ := hP.out.get hlt
      obtain ⟨x0, x1, x2, x3⟩ := c0.keep (w' := wr) (by rw [block_of_add]; exact hab) (fun q hq => hB.out.cell hq)
      clear c0
      have hbad : Hid (¬ Rng ⟨eI l k, eF l k, eT l k, eC l k⟩ → goal = 2) := Lib.hid (fun h => hG.out.symm.trans (rgo_bad hlt h))
      have htw : Hid (Rng ⟨eI l k, eF l k, eT l k, eC l k⟩ → eI l k ∈ (l.take k).map Ed.id → goal = 7) := Lib.hid (fun h h2 => hG.out.symm.trans (rgo_twice hlt h h2))
      have hnx : Hid (Rng ⟨eI l k, eF l k, eT l k, eC l k⟩ → eI l k ∉ (l.take k).map Ed.id → rgo (l.take (k + 1)) (l.drop (k + 1)) = goal) := Lib.hid (fun h h2 => (rgo_next hlt h h2).symm.trans hG.out)
      generalize eI l k = y0 at *
      generalize eF l k = y1 at *
      generalize eT l k = y2 at *
      generalize eC l k = y3 at *
      have hB2 := Lib.hid (hB.out.alloc hB.out.size (.cells #[.int .i64 y0, .int .i64 y1, .int .i64 y2, .int .i64 y3] 42))
      by_cases hr : Rng ⟨y0, y1, y2, y3⟩
      · obtain ⟨r1, r2, r3, r4, r5, r6⟩ := id hr
        have htw := Lib.hid (htw.out hr)
        have hnx := Lib.hid (hnx.out hr)
        have r1 : 0 ≤ y1 := r1
        have r2 : y1 ≤ 9999 := r2
        have r3 : 0 ≤ y2 := r3
        have r4 : y2 ≤ 9999 := r4
        have r5 : 0 ≤ y3 := r5
        have r6 : y3 ≤ 1000000 := r6
        have hX := Lib.hid (box_four (Below.refl (wr.alloc (.cells #[.int .i64 y0, .int .i64 y1, .int .i64 y2, .int .i64 y3] 42)).heap.size _)).1
        have hZ := Lib.hid (show wr.heap.size < (wr.alloc (.cells #[.int .i64 y0, .int .i64 y1, .int .i64 y2, .int .i64 y3] 42)).heap.size by simp)
        clear hbad hG hr
        obtain ⟨w0, rfl⟩ : ∃ w0, w0 = wr := ⟨wr, rfl⟩
        go_wp2
        clear x0 x1 x2 x3
        go_loopw [5] (fun i wr => ∃ j : Nat, j ≤ k ∧ i = .int .i64 j ∧ Below (w0.alloc (.cells #[.int .i64 y0, .int .i64 y1, .int .i64 y2, .int .i64 y3] 42)).heap.size (w0.alloc (.cells #[.int .i64 y0, .int .i64 y1, .int .i64 y2, .int .i64 y3] 42)) wr ∧ Hid (y0 ∉ (l.take j).map Ed.id)) (fun i _ => k - (intOf i).toNat)
        case atStart => exact ⟨0, by omega, rfl, Below.refl _ _, Lib.hid (by simp)⟩
        case round =>
          obtain ⟨j, hj, rfl, hb, hN⟩ := hrel
          have hBj := Lib.hid hb
          have hBw := Lib.hid (hB2.out.trans (hb.mono hB2.out.size))
          have z0 := (hb.cell (p := ⟨w0.heap.size, 0, none⟩) hZ.out).trans hX.out
          clear hb
          by_cases hjk : j < k
          · obtain ⟨ad', e', _, c0⟩ := hP.out.get (k := j) (by omega)
            obtain rfl : ad = ad' := Option.some.inj e'
            obtain ⟨x0, _, _, _⟩ := c0.keep (w' := wr) (by rw [block_of_add]; exact hab) (fun q hq => hBw.out.cell hq)
            clear c0 e'
            have hmem := Lib.hid (fun x => mem_ids (l := l) (k := j) (by omega) (x := x))
            have hsub : Hid (eI l j = y0 → y0 ∈ (l.take k).map Ed.id) := Lib.hid (fun h => by
              have h1 := (hmem.out y0).2 (.inr h)
              obtain ⟨e, he, hee⟩ := List.mem_map.1 h1
              exact List.mem_map.2 ⟨e, List.mem_of_mem_take (i := j + 1) (by rw [List.take_take, Nat.min_eq_left (by omega)]; exact he), hee⟩)
            have hnot : Hid (¬ eI l j = y0 → y0 ∉ (l.take (j + 1)).map Ed.id) := Lib.hid (fun h hm => by
              rcases (hmem.out y0).1 hm with h1 | h1
              · exact hN.out h1
              · exact h h1)
            generalize eI l j = z at *
            have q1 : (j : Int) < (l.length : Int) := by omega
            have q2 : (0 : Int) ≤ (j : Int) := by omega
            clear hmem hN hP
            by_cases hz : z = y0
            · have hR := Lib.hid (htw.out (hsub.out hz))
              subst hz
              clear hsub hnot htw hnx hX hZ
              go_wp2
              go_quiet (fail)
              go_wp2
              go_ret
              exact ⟨congrArg (fun n : Nat => Ending.returned (.int .i64 n)) hR.out.symm, below_drewN hBw.out _⟩
            · have hR := Lib.hid (hnot.out hz)
              have hb := beq_eq_false_iff_ne.2 hz
              clear hsub hnot htw hnx
              go_wp2
              go_quiet (fail)
              go_wp2
              exact ⟨⟨j + 1, by omega, by go_num, below_drewN hBj.out _, hR⟩, by simp [intOf]; omega⟩
          · obtain rfl : j = k := by omega
            have hR := Lib.hid (hnx.out hN.out)
            clear hN hP htw hnx hX hZ z0
            go_wp2
            exact ⟨⟨j + 1, by omega, by go_num, hBw.out, hR⟩, by simp [intOf]; omega⟩
      · have hR := Lib.hid (hbad.out hr)
        have hc : y1 < 0 ∨ (0 ≤ y1 ∧ 9999 < y1) ∨ (0 ≤ y1 ∧ y1 ≤ 9999 ∧ y2 < 0) ∨ (0 ≤ y1 ∧ y1 ≤ 9999 ∧ 0 ≤ y2 ∧ 9999 < y2) ∨ (0 ≤ y1 ∧ y1 ≤ 9999 ∧ 0 ≤ y2 ∧ y2 ≤ 9999 ∧ y3 < 0) ∨ (0 ≤ y1 ∧ y1 ≤ 9999 ∧ 0 ≤ y2 ∧ y2 ≤ 9999 ∧ 0 ≤ y3 ∧ 1000000 < y3) := by
          unfold Rng at hr
          simp only at hr
          omega
        clear hbad htw hnx hG hr hP
        rcases hc with h1 | ⟨h1, h2⟩ | ⟨h1, h2, h3⟩ | ⟨h1, h2, h3, h4⟩ | ⟨h1, h2, h3, h4, h5⟩ | ⟨h1, h2, h3, h4, h5, h6⟩
        all_goals
          go_wp2
          go_ret
          exact ⟨congrArg (fun n : Nat => Ending.returned (.int .i64 n)) hR.out.symm, hB2.out⟩
    · have hR : Hid (goal = 0) := Lib.hid (hG.out.symm.trans (rgo_end (by omega)))
      clear hG hP
      go_wp2
      go_ret
      exact ⟨congrArg (fun n : Nat => Ending.returned (.int .i64 n)) hR.out.symm, hB.out⟩
end Go.Proofs.Ytlaklfiodmnocaa
