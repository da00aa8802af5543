/- The reference's Back, free, Without. -/
import Derived.Test.YtlaklfiodmnocaaReach
namespace Go.Proofs.Ytlaklfiodmnocaa
open Go.RowKit

noncomputable def backL (l : List Ed) (t : List Int) : List Int := reachL (l.map turn) t
theorem back_inc (l : List Ed) (f : List Int) : Inc (backL l f) := reach_inc _ _
theorem mem_back {l : List Ed} {f : List Int} {x : Int} : x ∈ backL l f ↔ ∃ a ∈ f, Rch l x a := by
  unfold backL
  rw [mem_reach]
  unfold inReach
  simp only [rch_turned]
theorem back_any (A B : Option Addr) (l : List Ed) (f : List Int) (c d : Nat) (w : World) (hp : Es w w.heap.size A l) (hq : Rd w w.heap.size B d (cellsI f)) (hmax : l.length ≤ 1000000) (hmf : f.length ≤ 1000000) :
    Calls Try.prog 19 #[.slice A l.length c, .slice B f.length d] w (MadeI' w (backL l f)) := by
  have k1 := Lib.hid (turned_any A l c w hp (by omega))
  have hlm : (l.map turn).length ≤ 1000000 := by rw [List.length_map]; exact hmax
  have k2 := Lib.hid (fun (A2 : Option Addr) (c2 : Nat) (W : World) (h1 : Es W W.heap.size A2 (l.map turn)) (h2 : Rd W W.heap.size B d (cellsI f)) => reach_any A2 B (l.map turn) f c2 d W h1 h2 hlm hmf)
  unfold backL
  have hQ := Lib.hid hq
  generalize reachL (l.map turn) f = r at *
  generalize l.map turn = m at *
  clear hp hq hlm
  go_enter Try.func19, Try.ntmps19
  go_wp2_with (first
    | (go_at_call 38; (with_reducible refine (k1.out).mono ?_); rintro e w2 ⟨A2, c2, rfl, h2, b2⟩; (have H2 := Lib.hid h2); (have D2 := Lib.hid b2); clear h2 b2)
    | (go_at_call 17; (with_reducible refine (k2.out A2 c2 _ ?_ ?_).mono ?_); (exact H2.out.es); (exact hQ.out.up D2.out); rintro e w3 ⟨A3, c3, rfl, h3, b3⟩; (have H3 := Lib.hid (h3.less D2.out.size)); (have D3 := Lib.hid (D2.out.trans (b3.mono D2.out.size))); clear h3 b3))
  go_ret
  exact ⟨A3, c3, rfl, H3.out, D3.out⟩

/-- Does no edge lead to a node from one that was not placed? -/
def freeB (l : List Ed) (o : List Int) (n : Int) : Bool := decide (∀ e ∈ l, e.to = n → e.frm ∈ o)
theorem freeB_true {l : List Ed} {o : List Int} {n : Int} (h : ∀ e ∈ l, e.to = n → e.frm ∈ o) : freeB l o n = true := decide_eq_true h
theorem freeB_of {l : List Ed} {o : List Int} {n : Int} (h : freeB l o n = true) : ∀ e ∈ l, e.to = n → e.frm ∈ o := of_decide_eq_true h
theorem freeB_at {l : List Ed} {o : List Int} {n : Int} {k : Nat} (hk : k < l.length) (h1 : eT l k = n) (h2 : eF l k ∉ o) : freeB l o n = false := decide_eq_false fun h => h2 (h _ (e_mem hk) h1)
def Free1 (l : List Ed) (o : List Int) (n : Int) (k : Nat) : Prop := ∀ e ∈ l.take k, e.to = n → e.frm ∈ o
theorem free1_step {l : List Ed} {o : List Int} {n : Int} {k : Nat} (h : Free1 l o n k) (hk : k < l.length) (h2 : eT l k = n → eF l k ∈ o) : Free1 l o n (k + 1) := fun e he ht => by
  rcases (mem_takeE hk).1 he with h3 | rfl
  · exact h e h3 ht
  · exact h2 ht

set_option maxRecDepth 100000 in
set_option maxHeartbeats 2000000 in
theorem free_any (A B : Option Addr) (l : List Ed) (o : List Int) (n : Int) (c d : Nat) (w : World) (hp : Es w w.heap.size A l) (hq : Rd w w.heap.size B d (cellsI o)) (hmax : l.length ≤ 1000000) (hmo : o.length ≤ 100000000) :
    Calls Try.prog 44 #[.slice A l.length c, .slice B o.length d, .int .i64 n] w fun e w' => e = .returned (.bool (freeB l o n)) ∧ w = w' := by
  have hP := Lib.hid hp
  have kH := Lib.hid (fun (y : Int) => has_any B o d y w hq (by omega))
  clear hp hq
  go_enter Try.func44, Try.ntmps44
  go_wp2
  go_loop [7] (fun i => ∃ k : Nat, k ≤ l.length ∧ i = .int .i64 k ∧ Hid (Free1 l o n k)) (fun i => l.length - (intOf i).toNat)
  case atStart => exact ⟨0, by omega, rfl, Lib.hid (fun e he => by simp at he)⟩
  case round =>
    obtain ⟨k, hk, rfl, hN⟩ := hrel
    by_cases hlt : k < l.length
    · obtain ⟨ad, rfl, hab, _, x1, x2, _⟩ := hP.out.get hlt
      have k1 := kH.out (eF l k)
      by_cases hm : eF l k ∈ o
      · have hY := Lib.hid (free1_step hN.out hlt (fun _ => hm))
        rw [hasB_true hm] at k1
        generalize eF l k = y1 at *
        generalize eT l k = y2 at *
        have K1 := Lib.hid k1
        clear hN hP hm k1 kH
        by_cases ht : y2 = n
        · subst ht
          go_wp2_with (go_at_call 24; (with_reducible refine (K1.out).mono ?_); rintro e wq ⟨rfl, rfl⟩)
          exact ⟨⟨k + 1, by omega, by go_num, hY⟩, by simp [intOf]; omega⟩
        · have hb := beq_eq_false_iff_ne.2 ht
          go_wp2_with (go_at_call 24; (with_reducible refine (K1.out).mono ?_); rintro e wq ⟨rfl, rfl⟩)
          exact ⟨⟨k + 1, by omega, by go_num, hY⟩, by simp [intOf]; omega⟩
      · rw [hasB_false hm] at k1
        by_cases ht : eT l k = n
        · have hR := Lib.hid (freeB_at hlt ht hm)
          generalize eF l k = y1 at *
          generalize eT l k = y2 at *
          have K1 := Lib.hid k1
          clear hN hP hm k1 kH
          subst ht
          go_wp2_with (go_at_call 24; (with_reducible refine (K1.out).mono ?_); rintro e wq ⟨rfl, rfl⟩)
          go_ret
          exact ⟨congrArg (fun b => Ending.returned (.bool b)) hR.out.symm, rfl⟩
        · have hY := Lib.hid (free1_step hN.out hlt (fun h => absurd h ht))
          generalize eF l k = y1 at *
          generalize eT l k = y2 at *
          have hb := beq_eq_false_iff_ne.2 ht
          clear hN hP hm k1 kH
          go_wp2
          exact ⟨⟨k + 1, by omega, by go_num, hY⟩, by simp [intOf]; omega⟩
    · obtain rfl : k = l.length := by omega
      have hR : Hid (freeB l o n = true) := Lib.hid (freeB_true (by have := hN.out; unfold Free1 at this; rwa [List.take_length] at this))
      clear hN hP kH
      go_wp2
      go_ret
      exact ⟨congrArg (fun b => Ending.returned (.bool b)) hR.out.symm, rfl⟩

/-- The edges whose ID is not listed. -/
def wo (l : List Ed) (ids : List Int) : List Ed := l.filter fun e => !hasB ids e.id
theorem wo_yes {l : List Ed} {ids : List Int} {k : Nat} (hk : k < l.length) (h : eI l k ∉ ids) : wo (l.take (k + 1)) ids = wo (l.take k) ids ++ [⟨eI l k, eF l k, eT l k, eC l k⟩] := by
  unfold wo
  rw [List.take_succ_eq_append_getElem hk, List.filter_append, e_eta hk]
  simp [hasB_false h]
theorem wo_no {l : List Ed} {ids : List Int} {k : Nat} (hk : k < l.length) (h : eI l k ∈ ids) : wo (l.take (k + 1)) ids = wo (l.take k) ids := by
  unfold wo
  rw [List.take_succ_eq_append_getElem hk, List.filter_append, e_eta hk]
  simp [hasB_true h]

set_option maxRecDepth 100000 in
set_option maxHeartbeats 2000000 in
theorem refWithout_any (A B : Option Addr) (l : List Ed) (f : List Int) (c d : Nat) (w : World) (hp : Es w w.heap.size A l) (hq : Rd w w.heap.size B d (cellsI f)) (hmax : l.length ≤ 1000000) (hmf : f.length ≤ 100000000) :
    Calls Try.prog 29 #[.slice A l.length c, .slice B f.length d] w (MadeE' w (wo l f)) := by
  have hP := Lib.hid hp
  have kH := Lib.hid (fun (y : Int) (W : World) (b : Below w.heap.size w W) => has_any B f d y W (hq.up b) (by omega))
  clear hp hq
  go_enter Try.func29, Try.ntmps29
  go_wp2
  go_loopw [5, 6] (fun v i wr => ∃ (k : Nat) (A' : Option Addr) (c' : Nat) (o : List Ed), k ≤ l.length ∧ o.length ≤ k ∧ i = .int .i64 k ∧ v = .slice A' o.length c' ∧ Hid (OwnE wr w.heap.size A' c' o) ∧ Hid (Below w.heap.size w wr) ∧ Hid (wo (l.take k) f = o)) (fun _ i _ => l.length - (intOf i).toNat)
  case atStart => exact ⟨0, none, 0, [], by omega, by simp, rfl, rfl, Lib.hid (ownE_nil _ _), Lib.hid (Below.refl _ _), Lib.hid rfl⟩
  case round =>
    obtain ⟨k, A', c', o, hk, hok, rfl, rfl, hO, hB, hT⟩ := hrel
    by_cases hlt : k < l.length
    · obtain ⟨ad, rfl, hab, c0⟩ := hP.out.get hlt
      obtain ⟨x0, x1, x2, x3⟩ := c0.keep (w' := wr) (by rw [block_of_add]; exact hab) (fun q hq => hB.out.cell hq)
      have k1 := kH.out (eI l k) wr hB.out
      by_cases hm : eI l k ∈ f
      · have hN := Lib.hid (wo_no hlt hm)
        rw [hT.out] at hN
        rw [hasB_true hm] at k1
        generalize eI l k = y0 at *
        have K1 := Lib.hid k1
        clear c0 hT hP hm k1 kH x1 x2 x3
        go_wp2_with (go_at_call 24; (with_reducible refine (K1.out).mono ?_); rintro e wq ⟨rfl, rfl⟩)
        exact ⟨⟨k + 1, A', c', o, by omega, by omega, by go_num, rfl, hO, hB, hN⟩, by simp [intOf]; omega⟩
      · have hN := Lib.hid (wo_yes hlt hm)
        rw [hT.out] at hN
        rw [hasB_false hm] at k1
        generalize eI l k = y0 at *
        generalize eF l k = y1 at *
        generalize eT l k = y2 at *
        generalize eC l k = y3 at *
        have K1 := Lib.hid k1
        clear c0 hT hP hm k1 kH
        go_wp2_with (first
          | (go_at_call 24; (with_reducible refine (K1.out).mono ?_); rintro e wq ⟨rfl, rfl⟩)
          | (at_builtin; refine wpList_app_ed (e := ⟨y0, y1, y2, y3⟩) rfl (.tmp 21) (.tmp 26) rfl rfl rfl hO.out hB.out (Nat.le_refl _) (by omega) ?_; intro A3 c3 w3 h3 d3; (have H3 := Lib.hid h3); (have D3 := Lib.hid d3); clear h3 d3))
        exact ⟨⟨k + 1, A3, c3, _, by omega, by rw [List.length_append]; simp only [List.length_singleton]; omega, by go_num, by rw [List.length_append]; rfl, H3, D3, hN⟩, by simp [intOf]; omega⟩
    · obtain rfl : k = l.length := by omega
      have hE : Hid (o = wo l f) := Lib.hid (by have := hT.out; rw [List.take_length] at this; exact this.symm)
      clear hT hP kH
      go_wp2
      go_ret
      rw [← hE.out]
      exact ⟨A', c', rfl, hO.out, hB.out⟩
end Go.Proofs.Ytlaklfiodmnocaa
