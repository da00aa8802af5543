/- The reference's Reach and Back. -/
import Derived.Test.YtlaklfiodmnocaaNodes
namespace Go.Proofs.Ytlaklfiodmnocaa
open Go.RowKit

/-- The numbers of a list, increasing, each once. -/
def sortU (l : List Int) : List Int := l.foldl (fun o x => ins x o) []
theorem sortU_step {l : List Int} {k : Nat} (h : k < l.length) : sortU (l.take (k + 1)) = ins (ix l k) (sortU (l.take k)) := by
  unfold sortU
  rw [List.take_succ_eq_append_getElem h, List.foldl_append, ix_at h]
  rfl
theorem sortU_gen : ∀ (l : List Int) (o : List Int), Inc o → Inc (l.foldl (fun o x => ins x o) o) ∧ ∀ x, x ∈ l.foldl (fun o x => ins x o) o ↔ x ∈ o ∨ x ∈ l
  | [], o, h => ⟨h, fun x => by simp⟩
  | y :: l, o, h => by
    obtain ⟨h1, h2⟩ := sortU_gen l (ins y o) (ins_inc h)
    refine ⟨h1, fun x => ?_⟩
    rw [List.foldl_cons, h2, mem_ins, List.mem_cons]
    constructor
    · rintro ((rfl | h) | h)
      · exact .inr (.inl rfl)
      · exact .inl h
      · exact .inr (.inr h)
    · rintro (h | rfl | h)
      · exact .inl (.inr h)
      · exact .inl (.inl rfl)
      · exact .inr h
theorem sortU_inc (l : List Int) : Inc (sortU l) := (sortU_gen l [] List.Pairwise.nil).1
theorem mem_sortU {l : List Int} {x : Int} : x ∈ sortU l ↔ x ∈ l := by
  have := (sortU_gen l [] List.Pairwise.nil).2 x
  unfold sortU
  simpa using this
theorem sortU_len : ∀ l : List Int, (sortU l).length ≤ l.length := by
  have key : ∀ (l : List Int) (o : List Int), (l.foldl (fun o x => ins x o) o).length ≤ o.length + l.length := by
    intro l
    induction l with
    | nil => intro o; simp
    | cons e l ih =>
      intro o
      have h1 := ih (ins e o)
      have h3 := ins_len (n := e) (l := o)
      rw [List.foldl_cons, List.length_cons]
      omega
  intro l
  have := key l []
  unfold sortU
  simpa using this
theorem nodup_len : ∀ {a b : List Int}, a.Nodup → (∀ x ∈ a, x ∈ b) → a.length ≤ b.length
  | [], _, _, _ => by simp
  | x :: a, b, h, hs => by
    have hx := hs x (List.mem_cons_self ..)
    obtain ⟨h1, h2⟩ := List.nodup_cons.1 h
    have h3 : a.length ≤ (b.erase x).length := nodup_len h2 fun y hy => by
      have hne : y ≠ x := fun e => h1 (e ▸ hy)
      exact (List.mem_erase_of_ne hne).2 (hs y (List.mem_cons_of_mem _ hy))
    have h4 := List.length_erase_of_mem hx
    have h5 := List.length_pos_of_mem hx
    rw [List.length_cons]
    omega
/-- What can be reached, as the function hands it back. -/
noncomputable def reachL (l : List Ed) (from_ : List Int) : List Int := sortU ((from_ ++ l.map Ed.to).filter fun x => @decide (inReach l from_ x) (Classical.propDecidable _))
theorem reach_inc (l : List Ed) (f : List Int) : Inc (reachL l f) := sortU_inc _
theorem mem_reach {l : List Ed} {f : List Int} {x : Int} : x ∈ reachL l f ↔ inReach l f x := by
  unfold reachL
  rw [mem_sortU, List.mem_filter]
  constructor
  · rintro ⟨_, h⟩
    exact @of_decide_eq_true _ (Classical.propDecidable _) h
  · intro h
    refine ⟨?_, @decide_eq_true _ (Classical.propDecidable _) h⟩
    obtain ⟨a, ha, hr⟩ := h
    rw [List.mem_append, List.mem_map]
    rcases hr.last with rfl | ⟨e, he, rfl⟩
    · exact .inl ha
    · exact .inr ⟨e, he, rfl⟩
/-- What has been found so far. -/
def Found (l : List Ed) (f o : List Int) : Prop := Inc o ∧ (∀ x ∈ o, inReach l f x) ∧ ∀ x ∈ f, x ∈ o
def Closed (l : List Ed) (o : List Int) : Prop := ∀ e ∈ l, e.frm ∈ o → e.to ∈ o
theorem found_start (l : List Ed) (f : List Int) : Found l f (sortU f) :=
  ⟨sortU_inc f, fun x hx => ⟨x, mem_sortU.1 hx, .refl x⟩, fun _ hx => mem_sortU.2 hx⟩
theorem found_step {l : List Ed} {f o : List Int} {e : Ed} (h : Found l f o) (he : e ∈ l) (hf : e.frm ∈ o) : Found l f (ins e.to o) := by
  obtain ⟨h1, h2, h3⟩ := h
  refine ⟨ins_inc h1, fun x hx => ?_, fun x hx => mem_ins.2 (.inr (h3 x hx))⟩
  rcases mem_ins.1 hx with rfl | hx
  · obtain ⟨a, ha, hr⟩ := h2 _ hf
    exact ⟨a, ha, hr.snoc he⟩
  · exact h2 x hx
theorem found_len {l : List Ed} {f o : List Int} (h : Found l f o) : o.length ≤ f.length + l.length := by
  have := nodup_len (b := f ++ l.map Ed.to) (inc_nodup h.1) fun x hx => by
    obtain ⟨a, ha, hr⟩ := h.2.1 x hx
    rw [List.mem_append, List.mem_map]
    rcases hr.last with rfl | ⟨e, he, rfl⟩
    · exact .inl ha
    · exact .inr ⟨e, he, rfl⟩
  simpa using this
theorem found_end {l : List Ed} {f o : List Int} (h : Found l f o) (hc : Closed l o) : o = reachL l f := by
  refine inc_ext h.1 (reach_inc l f) fun x => ?_
  rw [mem_reach]
  refine ⟨h.2.1 x, ?_⟩
  rintro ⟨a, ha, hr⟩
  exact hr.closed (S := fun y => y ∈ o) hc (h.2.2 a ha)
/-- Within a pass: what stood there at its beginning (p), and what stands there now. -/
def Pass (l : List Ed) (f p : List Int) (k : Nat) (o : List Int) : Prop := Found l f o ∧ p.length ≤ o.length ∧ (o.length = p.length → o = p ∧ ∀ e ∈ l.take k, e.frm ∈ p → e.to ∈ p)
theorem pass_zero {l : List Ed} {f p : List Int} (h : Found l f p) : Pass l f p 0 p := ⟨h, Nat.le_refl _, fun _ => ⟨rfl, by simp⟩⟩
theorem mem_takeE {l : List Ed} {k : Nat} (hk : k < l.length) {e : Ed} : e ∈ l.take (k + 1) ↔ e ∈ l.take k ∨ e = ⟨eI l k, eF l k, eT l k, eC l k⟩ := by
  rw [List.take_succ_eq_append_getElem hk, List.mem_append, List.mem_singleton, e_eta hk]
theorem e_mem {l : List Ed} {k : Nat} (hk : k < l.length) : (⟨eI l k, eF l k, eT l k, eC l k⟩ : Ed) ∈ l := by
  rw [← e_eta hk]
  exact List.getElem_mem hk
theorem pass_no {l : List Ed} {f p o : List Int} {k : Nat} (h : Pass l f p k o) (hk : k < l.length) (hn : eF l k ∉ o) : Pass l f p (k + 1) o := by
  obtain ⟨h1, h2, h3⟩ := h
  refine ⟨h1, h2, fun hl => ?_⟩
  obtain ⟨h4, h5⟩ := h3 hl
  refine ⟨h4, fun e he hf => ?_⟩
  rcases (mem_takeE hk).1 he with h6 | rfl
  · exact h5 e h6 hf
  · exact absurd (h4 ▸ hf) hn
theorem pass_yes {l : List Ed} {f p o : List Int} {k : Nat} (h : Pass l f p k o) (hk : k < l.length) (hn : eF l k ∈ o) : Pass l f p (k + 1) (ins (eT l k) o) := by
  obtain ⟨h1, h2, h3⟩ := h
  have hf := found_step h1 (e_mem hk) hn
  rcases Classical.em (eT l k ∈ o) with ht | ht
  · have e := ins_same h1.1 ht
    refine ⟨hf, by show _ ≤ (ins (eT l k) o).length; rw [e]; exact h2, fun hl => ?_⟩
    have hl : (ins (eT l k) o).length = p.length := hl
    rw [e] at hl
    obtain ⟨h4, h5⟩ := h3 hl
    refine ⟨e.trans h4, fun e2 he hf2 => ?_⟩
    rcases (mem_takeE hk).1 he with h6 | rfl
    · exact h5 e2 h6 hf2
    · exact h4 ▸ ht
  · have e := ins_longer ht
    exact ⟨hf, by show _ ≤ (ins (eT l k) o).length; omega, fun hl => by have hl : (ins (eT l k) o).length = p.length := hl; omega⟩
theorem pass_end {l : List Ed} {f p o : List Int} (h : Pass l f p l.length o) (hl : o.length = p.length) : Closed l o := by
  obtain ⟨h4, h5⟩ := h.2.2 hl
  rw [List.take_length] at h5
  rw [h4]
  exact h5

set_option maxRecDepth 100000 in
set_option maxHeartbeats 4000000 in
theorem reach_any (A B : Option Addr) (l : List Ed) (f : List Int) (c d : Nat) (w : World) (hp : Es w w.heap.size A l) (hq : Rd w w.heap.size B d (cellsI f)) (hmax : l.length ≤ 1000000) (hmf : f.length ≤ 1000000) :
    Calls Try.prog 17 #[.slice A l.length c, .slice B f.length d] w (MadeI' w (reachL l f)) := by
  have hP := Lib.hid hp
  have hQ := Lib.hid hq
  clear hp hq
  go_enter Try.func17, Try.ntmps17
  go_wp2
  go_loopw [5, 6] (fun v i wr => ∃ (k : Nat) (A' : Option Addr) (c' : Nat) (o : List Int), k ≤ f.length ∧ o.length ≤ k ∧ i = .int .i64 k ∧ v = .slice A' o.length c' ∧ Hid (OwnI wr w.heap.size A' c' o) ∧ Hid (Below w.heap.size w wr) ∧ Hid (sortU (f.take k) = o)) (fun _ i _ => f.length - (intOf i).toNat)
  case atStart => exact ⟨0, none, 0, [], by omega, by simp, rfl, rfl, Lib.hid (ownI_nil _ _), Lib.hid (Below.refl _ _), Lib.hid rfl⟩
  case round =>
    obtain ⟨k, A', c', o, hk, hok, rfl, rfl, hO, hB, hT⟩ := hrel
    by_cases hlt : k < f.length
    · obtain ⟨ad, rfl, hab, c0⟩ := hQ.out.get (cellsI_ix hlt)
      have c1 := (hB.out.cell (p := ad.add k) (by rw [block_of_add]; exact hab)).trans c0
      have hN := Lib.hid (sortU_step hlt)
      rw [hT.out] at hN
      generalize ix f k = y at *
      have k1 := fun W => put_any A' o c' y W
      have l1 := ins_len (n := y) (l := o)
      have hL1 := Lib.hid (show o.length ≤ 10000000 by omega)
      have hL2 := Lib.hid (show (ins y o).length ≤ k + 1 by omega)
      generalize ins y o = o1 at *
      have K1 := Lib.hid k1
      clear c0 hT hP hQ k1 l1 hok
      by_cases hk0 : k = 0
      all_goals
        first
          | (subst hk0; have c1 : wr.cell? ad = some (.int .i64 y) := c1)
          | skip
        go_wp2_with (go_at_call 36; (with_reducible refine (K1.out _ ?_ hL1.out).mono ?_); (exact hO.out.rd); rintro e w2 ⟨A2, c2, rfl, h2, b2⟩; (have H2 := Lib.hid (h2.less hB.out.size)); (have D2 : Hid (Below w.heap.size w w2) := Lib.hid (hB.out.trans (b2.mono hB.out.size))); clear h2 b2)
        first
          | exact ⟨⟨1, A2, c2, o1, by omega, hL2.out, rfl, rfl, H2, D2, hN⟩, by simp [intOf]; omega⟩
          | exact ⟨⟨k + 1, A2, c2, o1, by omega, hL2.out, by go_num, rfl, H2, D2, hN⟩, by simp [intOf]; omega⟩
    · obtain rfl : k = f.length := by omega
      have hF : Hid (Found l f o) := Lib.hid (by have := hT.out; rw [List.take_length] at this; rw [← this]; exact found_start l f)
      clear hT hQ hok
      go_wp2
      obtain ⟨w0, rfl⟩ : ∃ w0, w0 = wr := ⟨wr, rfl⟩
      go_loopw [5, 7] (fun v s wr => ∃ (A' : Option Addr) (c' : Nat) (o : List Int) (t : Int), -1 ≤ t ∧ t ≤ o.length ∧ s = .int .i64 t ∧ v = .slice A' o.length c' ∧ Hid (OwnI wr w.heap.size A' c' o) ∧ Hid (Below w.heap.size w wr) ∧ Hid (Found l f o) ∧ Hid (t = o.length → Closed l o)) (fun _ s _ => ((f.length : Int) + l.length + 1 - intOf s).toNat)
      case atStart => exact ⟨A', c', o, -1, by omega, by omega, rfl, rfl, hO, hB, hF, Lib.hid (fun h => absurd h (by omega))⟩
      case round =>
        obtain ⟨A1, c1, p, t, ht1, ht2, rfl, rfl, hO1, hB1, hF1, hC1⟩ := hrel
        have hpl := found_len hF1.out
        clear hO hB hF
        by_cases ht : t < p.length
        · obtain ⟨w1, rfl⟩ : ∃ w1, w1 = wr := ⟨wr, rfl⟩
          clear hC1
          go_wp2
          go_loopw [5, 8] (fun v i wr => ∃ (k : Nat) (A' : Option Addr) (c' : Nat) (o : List Int), k ≤ l.length ∧ i = .int .i64 k ∧ v = .slice A' o.length c' ∧ Hid (OwnI wr w.heap.size A' c' o) ∧ Hid (Below w.heap.size w wr) ∧ Hid (Pass l f p k o)) (fun _ i _ => l.length - (intOf i).toNat)
          case atStart => exact ⟨0, A1, c1, p, by omega, rfl, rfl, hO1, hB1, Lib.hid (pass_zero hF1.out)⟩
          case round =>
            obtain ⟨k, A2, c2, o2, hk, rfl, rfl, hO2, hB2, hT2⟩ := hrel
            have hol := found_len hT2.out.1
            have hpo := hT2.out.2.1
            clear hO1 hB1 hF1
            by_cases hlt : k < l.length
            · obtain ⟨ad, rfl, hab, c0⟩ := hP.out.get hlt
              have hX := Lib.hid (fun (wr2 : World) (h : Below w.heap.size w wr2) => c0.keep (by rw [block_of_add]; exact hab) (fun q hq => h.cell hq))
              obtain ⟨_, x1, x2, _⟩ := hX.out wr hB2.out
              have kH := has_any A2 o2 c2 (eF l k) wr hO2.out.rd (by omega)
              by_cases hm : eF l k ∈ o2
              · have hN := Lib.hid (pass_yes hT2.out hlt hm)
                rw [hasB_true hm] at kH
                generalize eF l k = y1 at *
                generalize eT l k = y2 at *
                have k1 := fun W => put_any A2 o2 c2 y2 W
                have hL1 := Lib.hid (show o2.length ≤ 10000000 by omega)
                generalize ins y2 o2 = o3 at *
                have K1 := Lib.hid k1
                have KH := Lib.hid kH
                clear c0 hT2 hP hm k1 kH
                go_wp2_with (first
                  | (go_at_call 24; (with_reducible refine (KH.out).mono ?_); rintro e wq ⟨rfl, rfl⟩)
                  | (go_at_call 36; (with_reducible refine (K1.out _ ?_ hL1.out).mono ?_); (exact hO2.out.rd); rintro e w3 ⟨A3, c3, rfl, h3, b3⟩; (have H3 := Lib.hid (h3.less hB2.out.size)); (have D3 : Hid (Below w.heap.size w w3) := Lib.hid (hB2.out.trans (b3.mono hB2.out.size))); clear h3 b3))
                exact ⟨⟨k + 1, A3, c3, o3, by omega, by go_num, rfl, H3, D3, hN⟩, by simp [intOf]; omega⟩
              · have hN := Lib.hid (pass_no hT2.out hlt hm)
                rw [hasB_false hm] at kH
                generalize eF l k = y1 at *
                have KH := Lib.hid kH
                clear c0 hT2 hP hm kH x2
                go_wp2_with (go_at_call 24; (with_reducible refine (KH.out).mono ?_); rintro e wq ⟨rfl, rfl⟩)
                exact ⟨⟨k + 1, A2, c2, o2, by omega, by go_num, rfl, hO2, hB2, hN⟩, by simp [intOf]; omega⟩
            · obtain rfl : k = l.length := by omega
              have hF2 := Lib.hid hT2.out.1
              have hC2 : Hid ((p.length : Int) = o2.length → Closed l o2) := Lib.hid (fun h => pass_end hT2.out (by omega))
              clear hT2 hP
              go_wp2
              exact ⟨⟨A2, c2, o2, p.length, by omega, by omega, rfl, rfl, hO2, hB2, hF2, hC2⟩, by simp [intOf]; omega⟩
        · have hE := Lib.hid (found_end hF1.out (hC1.out (by omega)))
          clear hP hF1 hC1
          go_wp2
          go_ret
          rw [← hE.out]
          exact ⟨A1, c1, rfl, hO1.out, hB1.out⟩
end Go.Proofs.Ytlaklfiodmnocaa
