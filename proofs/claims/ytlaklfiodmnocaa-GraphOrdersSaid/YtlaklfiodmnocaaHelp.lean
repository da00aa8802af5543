/- The laws' own functions: sample, right, edge, walk; SameEdges of the reference. -/
import Derived.Test.YtlaklfiodmnocaaOpen
import Derived.Deep.QuietTactic
import Derived.BigQuiet
import Derived.IntWalk
namespace Go.Proofs.Ytlaklfiodmnocaa
open Go.RowKit

theorem right_any (A : Option Addr) (l : List Ed) (c : Nat) (w : World) (hp : Es w w.heap.size A l) (hmax : l.length ≤ 9223372036854775807) :
    Calls Try.prog 14 #[.slice A l.length c] w fun e w' => e = .returned (.bool (decide (rightN l = 0))) ∧ Below w.heap.size w w' := by
  have k := Lib.hid (refRight_any A l c w hp hmax)
  clear hp
  by_cases h : rightN l = 0
  · rw [h] at k
    rw [decide_eq_true h]
    go_enter Try.func14, Try.ntmps14
    go_wp2_with (go_at_call 13; refine k.out.mono ?_; rintro e w2 ⟨rfl, b⟩; have B := Lib.hid b; clear b)
    go_ret
    exact ⟨rfl, B.out⟩
  · rw [decide_eq_false h]
    generalize rightN l = n at *
    have hb : ((n : Int) == 0) = false := beq_eq_false_iff_ne.2 (by omega)
    go_enter Try.func14, Try.ntmps14
    go_wp2_with (go_at_call 13; refine k.out.mono ?_; rintro e w2 ⟨rfl, b⟩; have B := Lib.hid b; clear b)
    go_ret
    exact ⟨by simp, B.out⟩
/-- The first edge with an ID. -/
def findE (l : List Ed) (id : Int) : Option Ed := l.find? fun e => e.id == id
def edV (o : Option Ed) : Value := match o with
  | some e => .tuple #[.agg #[.int .i64 e.id, .int .i64 e.frm, .int .i64 e.to, .int .i64 e.cost], .bool true]
  | none => .tuple #[.agg #[.int .i64 0, .int .i64 0, .int .i64 0, .int .i64 0], .bool false]
theorem findE_at {l : List Ed} {id : Int} {k : Nat} (hk : k < l.length) (h : ∀ e ∈ l.take k, ¬ e.id = id) (hx : eI l k = id) : findE l id = some ⟨eI l k, eF l k, eT l k, eC l k⟩ := by
  unfold findE
  rw [List.find?_eq_some_iff_append]
  exact ⟨beq_iff_eq.2 hx, l.take k, l.drop (k + 1), by rw [← drop_e hk, List.take_append_drop], fun a ha => by simp [h a ha]⟩
theorem nofindE_step {l : List Ed} {id : Int} {k : Nat} (hk : k < l.length) (h : ∀ e ∈ l.take k, ¬ e.id = id) (hx : ¬ eI l k = id) : ∀ e ∈ l.take (k + 1), ¬ e.id = id := fun e he => by
  rcases (mem_takeE hk).1 he with h1 | rfl
  · exact h e h1
  · exact hx
theorem findE_not {l : List Ed} {id : Int} (h : ∀ e ∈ l.take l.length, ¬ e.id = id) : findE l id = none := by
  unfold findE
  rw [List.take_length] at h
  rw [List.find?_eq_none]
  intro e he
  simp [h e he]

set_option maxRecDepth 100000 in
set_option maxHeartbeats 2000000 in
theorem edge_any (A : Option Addr) (l : List Ed) (c : Nat) (n : Int) (w : World) (hp : Es w w.heap.size A l) (hmax : l.length ≤ 1000000000) :
    Calls Try.prog 49 #[.slice A l.length c, .int .i64 n] w fun e w' => e = .returned (edV (findE l n)) ∧ Below w.heap.size w w' := by
  have hP := Lib.hid hp
  clear hp
  go_enter Try.func49, Try.ntmps49
  go_wp2
  have b1 := Lib.hid ((Below.refl w.heap.size w).alloc (Nat.le_refl _) (.cells #[.int .i64 0, .int .i64 0, .int .i64 0, .int .i64 0] 42))
  go_loop [6] (fun i => ∃ k : Nat, k ≤ l.length ∧ i = .int .i64 k ∧ Hid (∀ e ∈ l.take k, ¬ e.id = n)) (fun i => l.length - (intOf i).toNat)
  case atStart => exact ⟨0, by omega, rfl, Lib.hid (by simp)⟩
  case round =>
    obtain ⟨k, hk, rfl, hN⟩ := hrel
    by_cases hlt : k < l.length
    · obtain ⟨ad, rfl, hab, c0⟩ := hP.out.get hlt
      obtain ⟨x0, x1, x2, x3⟩ := c0.keep (w' := w.alloc (.cells #[.int .i64 0, .int .i64 0, .int .i64 0, .int .i64 0] 42)) (by rw [block_of_add]; exact hab) (fun q hq => b1.out.cell hq)
      by_cases hx : eI l k = n
      · have hR := Lib.hid (findE_at hlt hN.out hx)
        generalize eI l k = y0 at *
        generalize eF l k = y1 at *
        generalize eT l k = y2 at *
        generalize eC l k = y3 at *
        subst hx
        clear c0 hN hP
        go_wp2
        rw [hR.out]
        exact bodyPost_ret (v := edV (some ⟨y0, y1, y2, y3⟩)) (by simp [results, Try.results49, go_sem, edV]) rfl ⟨rfl, (Below.refl _ _).alloc (Nat.le_refl _) _⟩
      · have hY := Lib.hid (nofindE_step hlt hN.out hx)
        have hb := beq_eq_false_iff_ne.2 hx
        generalize eI l k = y0 at *
        clear c0 hN hP x1 x2 x3
        go_wp2
        exact ⟨⟨k + 1, by omega, by go_num, hY⟩, by simp [intOf]; omega⟩
    · obtain rfl : k = l.length := by omega
      have hR := Lib.hid (findE_not hN.out)
      clear hN hP
      go_wp2
      rw [hR.out]
      exact bodyPost_ret (v := edV none) (by simp [results, Try.results49, go_sem, edV]) rfl ⟨rfl, (Below.refl _ _).alloc (Nat.le_refl _) _⟩

/-- What a path that is given by the IDs of its edges costs, and whether it leads from a node to another one. -/
def wlk (l : List Ed) : List Int → Int → Int → Int → Int × Bool
  | [], n, at_, tg => (n, decide (at_ = tg))
  | i :: p, n, at_, tg => match findE l i with
    | none => (0, false)
    | some e => if e.frm = at_ then wlk l p (n + e.cost) e.to tg else (0, false)
theorem wlk_drop {l : List Ed} {p : List Int} {n a t : Int} {k : Nat} (hk : k < p.length) : wlk l (p.drop k) n a t = match findE l (ix p k) with
    | none => (0, false)
    | some e => if e.frm = a then wlk l (p.drop (k + 1)) (n + e.cost) e.to t else (0, false) := by
  rw [drop_ix hk, wlk]
theorem findE_mem {l : List Ed} {i : Int} {e : Ed} (h : findE l i = some e) : e ∈ l ∧ e.id = i := by
  unfold findE at h
  have h2 := List.find?_some h
  exact ⟨List.mem_of_find?_eq_some h, by simpa using h2⟩

set_option maxRecDepth 100000 in
set_option maxHeartbeats 4000000 in
theorem walk_any (A B : Option Addr) (l : List Ed) (p : List Int) (c d : Nat) (fr tg : Int) (w : World) (hp : Es w w.heap.size A l) (hq : Rd w w.heap.size B d (cellsI p)) (hg : Grph l) (hpl : p.length ≤ 1000) :
    Calls Try.prog 25 #[.slice A l.length c, .slice B p.length d, .int .i64 fr, .int .i64 tg] w fun e w' => e = .returned (.tuple #[.int .i64 (wlk l p 0 fr tg).1, .bool (wlk l p 0 fr tg).2]) ∧ Below w.heap.size w w' := by
  have hgl := hg.1
  have kE := Lib.hid (fun (n : Int) (W : World) (b : Below w.heap.size w W) => edge_any A l c n W (hp.up b) (by omega))
  have hQ := Lib.hid hq
  have hG := Lib.hid hg
  obtain ⟨gn, gb, hgo⟩ : ∃ gn gb, wlk l p 0 fr tg = (gn, gb) := ⟨_, _, rfl⟩
  rw [hgo]
  have hG0 : Hid (wlk l (p.drop 0) 0 fr tg = (gn, gb)) := Lib.hid hgo
  clear hp hq hg hgo
  go_enter Try.func25, Try.ntmps25
  go_wp2
  go_loopw [10, 11, 12] (fun v a i wr => ∃ (k : Nat) (n at_ : Int), k ≤ p.length ∧ i = .int .i64 k ∧ v = .int .i64 n ∧ a = .int .i64 at_ ∧ 0 ≤ n ∧ n ≤ 1000000 * k ∧ Hid (Below w.heap.size w wr) ∧ Hid (wlk l (p.drop k) n at_ tg = (gn, gb))) (fun _ _ i _ => p.length - (intOf i).toNat)
  case atStart => exact ⟨0, 0, fr, by omega, rfl, rfl, rfl, by omega, by omega, Lib.hid (Below.refl _ _), hG0⟩
  case round =>
    obtain ⟨k, n, a, hk, rfl, rfl, rfl, hn0, hn1, hB, hW⟩ := hrel
    clear hG0
    by_cases hlt : k < p.length
    · obtain ⟨ad, rfl, hab, c0⟩ := hQ.out.get (cellsI_ix hlt)
      have c1 := (hB.out.cell (p := ad.add k) (by rw [block_of_add]; exact hab)).trans c0
      have k1 := kE.out (ix p k) wr hB.out
      have hS := hW.out
      rw [wlk_drop hlt] at hS
      generalize ix p k = x at *
      rcases hf : findE l x with _ | ⟨e0, e1, e2, e3⟩
      · rw [hf] at k1 hS
        unfold edV at k1
        simp only at k1 hS
        have K1 := Lib.hid k1
        have hR := Lib.hid hS
        clear c0 hW k1 hS kE hQ hf
        by_cases hk0 : k = 0
        all_goals
          first
            | (subst hk0; have c1 : wr.cell? ad = some (.int .i64 x) := c1)
            | skip
          go_wp2_with (go_at_call 49; (with_reducible refine (K1.out).mono ?_); rintro e w2 ⟨rfl, b⟩; (have B2 := Lib.hid (hB.out.trans (b.mono hB.out.size))); clear b)
          go_ret2
          exact ⟨congrArg (fun q : Int × Bool => Ending.returned (.tuple #[.int .i64 q.1, .bool q.2])) hR.out, B2.out.alloc B2.out.size _⟩
      · have hm := findE_mem hf
        have hrg := (hG.out.2.1 _ hm.1).2.2.2.2
        simp only at hrg
        rw [hf] at k1 hS
        unfold edV at k1
        simp only at k1 hS
        have K1 := Lib.hid k1
        clear c0 hW k1 kE hQ hf hm
        by_cases ha : e1 = a
        · rw [if_pos ha] at hS
          have hR := Lib.hid hS
          have hr3 := hrg.1
          have hr4 := hrg.2
          subst ha
          clear hS hrg
          by_cases hk0 : k = 0
          all_goals
            first
              | (subst hk0; have c1 : wr.cell? ad = some (.int .i64 x) := c1)
              | skip
            go_wp2_with (go_at_call 49; (with_reducible refine (K1.out).mono ?_); rintro e w2 ⟨rfl, b⟩; (have B2 := Lib.hid (hB.out.trans (b.mono hB.out.size))); clear b)
            have hq1 : IntKind.i64.wrap (n + e3) = n + e3 := IntWalk.i64_in _ (by omega)
            go_quiet (fail)
            go_wp2
            first
              | exact ⟨⟨1, n + e3, e2, by omega, rfl, rfl, rfl, by omega, by omega, Lib.hid (below_drewN (B2.out.alloc B2.out.size _) _), hR⟩, by simp [intOf]; omega⟩
              | exact ⟨⟨k + 1, n + e3, e2, by omega, by go_num, rfl, rfl, by omega, by omega, Lib.hid (below_drewN (B2.out.alloc B2.out.size _) _), hR⟩, by simp [intOf]; omega⟩
        · rw [if_neg ha] at hS
          have hR := Lib.hid hS
          have hne : (e1 != a) = true := bne_iff_ne.2 ha
          clear hS hrg
          by_cases hk0 : k = 0
          all_goals
            first
              | (subst hk0; have c1 : wr.cell? ad = some (.int .i64 x) := c1)
              | skip
            go_wp2_with (go_at_call 49; (with_reducible refine (K1.out).mono ?_); rintro e w2 ⟨rfl, b⟩; (have B2 := Lib.hid (hB.out.trans (b.mono hB.out.size))); clear b)
            go_ret2
            exact ⟨congrArg (fun q : Int × Bool => Ending.returned (.tuple #[.int .i64 q.1, .bool q.2])) hR.out, B2.out.alloc B2.out.size _⟩
    · obtain rfl : k = p.length := by omega
      have hS := hW.out
      rw [List.drop_length, wlk] at hS
      by_cases hat : a = tg
      · rw [decide_eq_true hat] at hS
        have hR := Lib.hid hS
        subst hat
        clear hW hS kE hQ
        go_wp2
        go_ret2
        exact ⟨congrArg (fun q : Int × Bool => Ending.returned (.tuple #[.int .i64 q.1, .bool q.2])) hR.out, hB.out⟩
      · rw [decide_eq_false hat] at hS
        have hR := Lib.hid hS
        have hb := beq_eq_false_iff_ne.2 hat
        clear hW hS kE hQ
        go_wp2
        go_ret2
        exact ⟨congrArg (fun q : Int × Bool => Ending.returned (.tuple #[.int .i64 q.1, .bool q.2])) hR.out, hB.out⟩

set_option maxRecDepth 100000 in
set_option maxHeartbeats 4000000 in
theorem sameEdges_any (A B : Option Addr) (l : List Ed) (c d : Nat) (w : World) (hp : Es w w.heap.size A l) (hq : Es w w.heap.size B l) (hmax : l.length ≤ 1000000) :
    Calls Try.prog 28 #[.slice A l.length c, .slice B l.length d] w fun e w' => e = .returned (.bool true) ∧ Below w.heap.size w w' := by
  have hP := Lib.hid hp
  have hQ := Lib.hid hq
  clear hp hq
  go_enter Try.func28, Try.ntmps28
  go_wp2
  go_loopw [5] (fun i wr => ∃ k : Nat, k ≤ l.length ∧ i = .int .i64 k ∧ Hid (Below w.heap.size w wr)) (fun i _ => l.length - (intOf i).toNat)
  case atStart => exact ⟨0, by omega, rfl, Lib.hid (Below.refl _ _)⟩
  case round =>
    obtain ⟨k, hk, rfl, hB⟩ := hrel
    by_cases hlt : k < l.length
    · obtain ⟨ad, rfl, _, x0, x1, x2, x3⟩ := (hP.out.below hB.out).get hlt
      obtain ⟨bd, rfl, _, z0, z1, z2, z3⟩ := (hQ.out.below hB.out).get hlt
      generalize eI l k = y0 at *
      generalize eF l k = y1 at *
      generalize eT l k = y2 at *
      generalize eC l k = y3 at *
      clear hP hQ
      go_wp2
      go_quiet (fail)
      go_wp2
      exact ⟨⟨k + 1, by omega, by go_num, Lib.hid (below_drewN hB.out _)⟩, by simp [intOf]; omega⟩
    · clear hP hQ
      go_wp2
      go_ret
      exact ⟨rfl, hB.out⟩
end Go.Proofs.Ytlaklfiodmnocaa
