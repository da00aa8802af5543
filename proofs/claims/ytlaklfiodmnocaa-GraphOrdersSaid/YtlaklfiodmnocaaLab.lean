/- The reference's labels: what they read as; find, through, less. -/
import Derived.Test.YtlaklfiodmnocaaRefOrder
import Derived.IntWalk
namespace Go.Proofs.Ytlaklfiodmnocaa
open Go.RowKit

structure Lb where
  node : Int
  cost : Int
  edges : Int
  ok : Bool
deriving DecidableEq
def lbV (x : Lb) : Value := .agg #[.int .i64 x.node, .int .i64 x.cost, .int .i64 x.edges, .bool x.ok]
def lb0 : Lb := ⟨0, 0, 0, false⟩
def lx (L : List Lb) (i : Nat) : Lb := L[i]?.getD lb0
theorem lx_at {L : List Lb} {i : Nat} (h : i < L.length) : lx L i = L[i] := by unfold lx; rw [List.getElem?_eq_getElem h]; rfl
def cellsB : List Lb → List Value
  | [] => []
  | e :: l => .int .i64 e.node :: .int .i64 e.cost :: .int .i64 e.edges :: .bool e.ok :: cellsB l
theorem cellsB_len : ∀ l : List Lb, (cellsB l).length = l.length * 4
  | [] => rfl
  | e :: l => by rw [cellsB, List.length_cons, List.length_cons, List.length_cons, List.length_cons, cellsB_len l, List.length_cons]; omega
theorem cellsB_append : ∀ l m : List Lb, cellsB (l ++ m) = cellsB l ++ cellsB m
  | [], m => rfl
  | e :: l, m => by rw [List.cons_append, cellsB, cellsB, cellsB_append l m]; rfl
theorem cellsB_at : ∀ (l : List Lb) (i : Nat) (h : i < l.length), (cellsB l)[i * 4]? = some (.int .i64 l[i].node) ∧ (cellsB l)[i * 4 + 1]? = some (.int .i64 l[i].cost) ∧ (cellsB l)[i * 4 + 2]? = some (.int .i64 l[i].edges) ∧ (cellsB l)[i * 4 + 3]? = some (.bool l[i].ok)
  | e :: l, 0, _ => ⟨rfl, rfl, rfl, rfl⟩
  | e :: l, i + 1, h => by
    have k := cellsB_at l i (by simpa using h)
    rw [cellsB, show (i + 1) * 4 = i * 4 + 1 + 1 + 1 + 1 by omega]
    simpa using k
/-- A slice that reads as the labels. -/
def Ls (w : World) (B : Nat) (A : Option Addr) (L : List Lb) : Prop :=
  0 < L.length → ∃ ad, A = some ad ∧ ad.block < B ∧ ∀ i, i < L.length → At4 w (ad.add (i * 4)) (.int .i64 (lx L i).node) (.int .i64 (lx L i).cost) (.int .i64 (lx L i).edges) (.bool (lx L i).ok)
theorem Ls.keep {w w' : World} {B : Nat} {A : Option Addr} {l : List Lb} (h : Ls w B A l) (hk : ∀ p : Addr, p.block < B → w'.cell? p = w.cell? p) : Ls w' B A l := fun hn => by
  obtain ⟨ad, e, hl, hc⟩ := h hn
  exact ⟨ad, e, hl, fun i hi => (hc i hi).keep (by rw [block_of_add]; exact hl) hk⟩
theorem Ls.below {w w' : World} {B : Nat} {A : Option Addr} {l : List Lb} (h : Ls w B A l) (hb : Below B w w') : Ls w' B A l := h.keep fun _ hp => hb.cell hp
theorem Ls.more {w : World} {B B' : Nat} {A : Option Addr} {l : List Lb} (h : Ls w B A l) (hB : B ≤ B') : Ls w B' A l := fun hn => by
  obtain ⟨ad, e, hl, hc⟩ := h hn
  exact ⟨ad, e, Nat.lt_of_lt_of_le hl hB, hc⟩
theorem Ls.up {w w' : World} {A : Option Addr} {l : List Lb} (h : Ls w w.heap.size A l) (b : Below w.heap.size w w') : Ls w' w'.heap.size A l := (h.below b).more b.size
theorem Ls.get {w : World} {B : Nat} {A : Option Addr} {L : List Lb} (h : Ls w B A L) {k : Nat} (hk : k < L.length) :
    ∃ ad, A = some ad ∧ ad.block < B ∧ At4 w (ad.add (k * 4)) (.int .i64 (lx L k).node) (.int .i64 (lx L k).cost) (.int .i64 (lx L k).edges) (.bool (lx L k).ok) := by
  obtain ⟨ad, e, hl, hc⟩ := h (by omega)
  exact ⟨ad, e, hl, hc k hk⟩
theorem own_ls {w : World} {base e n cap : Nat} {A : Option Addr} {l : List Lb} (h : w.ownsRow base e 4 (.slice A n cap) n (cellsB l)) : Ls w w.heap.size A l := by
  have hn : n = l.length := by have := h.1; rw [cellsB_len] at this; omega
  refine fun hpos => ?_
  rcases h.2 with ⟨hv, h0⟩ | ⟨g, cap', cur, hv, _, hg, _⟩
  · omega
  · injection hv with hA
    subst hA
    refine ⟨_, rfl, (Array.getElem?_eq_some_iff.1 hg).1, fun i hi => ?_⟩
    have hc := h.cells (g := g) rfl
    obtain ⟨c0, c1, c2, c3⟩ := cellsB_at l i hi
    have k0 := hc _ _ c0
    have k1 := hc _ _ c1
    have k2 := hc _ _ c2
    have k3 := hc _ _ c3
    rw [add_next] at k1 k2 k3
    rw [lx_at hi]
    exact ⟨k0, k1, k2, k3⟩
/-- The label of a node. -/
def findL (L : List Lb) (n : Int) : Lb := (L.find? fun x => x.node == n).getD ⟨n, 0, 0, false⟩
theorem findL_at {L : List Lb} {n : Int} {k : Nat} (hk : k < L.length) (h : ∀ x ∈ L.take k, ¬ x.node = n) (hx : (lx L k).node = n) : findL L n = lx L k := by
  unfold findL
  have : L.find? (fun x => x.node == n) = some (lx L k) := by
    rw [List.find?_eq_some_iff_append]
    refine ⟨beq_iff_eq.2 hx, L.take k, L.drop (k + 1), ?_, fun a ha => by simp [h a ha]⟩
    rw [lx_at hk, ← List.drop_eq_getElem_cons hk, List.take_append_drop]
  rw [this]
  rfl
theorem findL_not {L : List Lb} {n : Int} (h : ∀ x ∈ L, ¬ x.node = n) : findL L n = ⟨n, 0, 0, false⟩ := by
  unfold findL
  have : L.find? (fun x => x.node == n) = none := by
    rw [List.find?_eq_none]
    intro x hx
    simp [h x hx]
  rw [this]
  rfl
theorem nofind_step {L : List Lb} {n : Int} {k : Nat} (hk : k < L.length) (h : ∀ x ∈ L.take k, ¬ x.node = n) (hx : ¬ (lx L k).node = n) : ∀ x ∈ L.take (k + 1), ¬ x.node = n := fun x hm => by
  rw [List.take_succ_eq_append_getElem hk, List.mem_append, List.mem_singleton] at hm
  rcases hm with hm | rfl
  · exact h x hm
  · rw [← lx_at hk]; exact hx

set_option maxRecDepth 100000 in
set_option maxHeartbeats 2000000 in
theorem find_any (A : Option Addr) (L : List Lb) (c : Nat) (n : Int) (w : World) (hp : Ls w w.heap.size A L) (hmax : L.length ≤ 1000000000) :
    Calls Try.prog 47 #[.slice A L.length c, .int .i64 n] w fun e w' => e = .returned (lbV (findL L n)) ∧ Below w.heap.size w w' := by
  have hP := Lib.hid hp
  clear hp
  go_enter Try.func47, Try.ntmps47
  go_wp2
  have b1 := Lib.hid ((Below.refl w.heap.size w).alloc (Nat.le_refl _) (.cells #[.int .i64 0, .int .i64 0, .int .i64 0, .bool false] 74))
  go_loop [5] (fun i => ∃ k : Nat, k ≤ L.length ∧ i = .int .i64 k ∧ Hid (∀ x ∈ L.take k, ¬ x.node = n)) (fun i => L.length - (intOf i).toNat)
  case atStart => exact ⟨0, by omega, rfl, Lib.hid (by simp)⟩
  case round =>
    obtain ⟨k, hk, rfl, hN⟩ := hrel
    by_cases hlt : k < L.length
    · obtain ⟨ad, rfl, hab, c0⟩ := hP.out.get hlt
      obtain ⟨x0, x1, x2, x3⟩ := c0.keep (w' := w.alloc (.cells #[.int .i64 0, .int .i64 0, .int .i64 0, .bool false] 74)) (by rw [block_of_add]; exact hab) (fun q hq => b1.out.cell hq)
      by_cases hx : (lx L k).node = n
      · have hR := Lib.hid (findL_at hlt hN.out hx)
        generalize (lx L k) = x at *
        subst hx
        clear c0 hN hP
        go_wp2
        rw [hR.out]
        exact bodyPost_ret (v := lbV x) (by simp [results, Try.results47, go_sem, lbV]) rfl ⟨rfl, (Below.refl _ _).alloc (Nat.le_refl _) _⟩
      · have hY := Lib.hid (nofind_step hlt hN.out hx)
        have hb := beq_eq_false_iff_ne.2 hx
        generalize (lx L k) = x at *
        clear c0 hN hP x1 x2 x3
        go_wp2
        exact ⟨⟨k + 1, by omega, by go_num, hY⟩, by simp [intOf]; omega⟩
    · obtain rfl : k = L.length := by omega
      have hR : Hid (findL L n = ⟨n, 0, 0, false⟩) := Lib.hid (findL_not (by have := hN.out; rwa [List.take_length] at this))
      clear hN hP
      go_wp2
      rw [hR.out]
      exact bodyPost_ret (v := lbV ⟨n, 0, 0, false⟩) (by simp [results, Try.results47, go_sem, lbV]) rfl ⟨rfl, (Below.refl _ _).alloc (Nat.le_refl _) _⟩

theorem i64_cost {c d : Int} (h1 : 0 ≤ c) (h2 : c ≤ 1000000000000) (h3 : 0 ≤ d) (h4 : d ≤ 1000000) : IntKind.i64.wrap (c + d) = c + d := IntWalk.i64_in _ (by omega)
/-- The label of the From of an edge for paths that begin with this edge. -/
def thrL (e : Ed) (x : Lb) : Lb := ⟨e.frm, x.cost + e.cost, x.edges + 1, x.ok⟩
set_option maxRecDepth 100000 in
set_option maxHeartbeats 2000000 in
theorem through_any (e : Ed) (x : Lb) (w : World) (h1 : 0 ≤ x.cost) (h2 : x.cost ≤ 1000000000000) (h3 : 0 ≤ e.cost) (h4 : e.cost ≤ 1000000) (h5 : 0 ≤ x.edges) (h6 : x.edges ≤ 1000000) :
    Calls Try.prog 48 #[.agg #[.int .i64 e.id, .int .i64 e.frm, .int .i64 e.to, .int .i64 e.cost], lbV x] w fun r w' => r = .returned (lbV (thrL e x)) ∧ Below w.heap.size w w' := by
  obtain ⟨e0, e1, e2, e3⟩ := e
  obtain ⟨x0, x1, x2, x3⟩ := x
  simp only at h1 h2 h3 h4 h5 h6
  unfold lbV thrL
  go_enter Try.func48, Try.ntmps48
  go_wp2
  exact bodyPost_ret (v := lbV ⟨e1, x1 + e3, x2 + 1, x3⟩) (by simp [results, Try.results48, go_sem, lbV]) rfl ⟨rfl, (((Below.refl w.heap.size w).alloc (Nat.le_refl _) _).alloc (by simp) _).alloc (by simp; omega) _⟩
/-- Is a label better than another one? -/
def lessB (a b : Lb) : Bool := if a.ok = true ∧ b.ok = true then decide (a.cost < b.cost ∨ a.cost = b.cost ∧ a.edges < b.edges) else a.ok && !b.ok
set_option maxRecDepth 100000 in
set_option maxHeartbeats 2000000 in
theorem less_any (a b : Lb) (w : World) :
    Calls Try.prog 62 #[lbV a, lbV b] w fun r w' => r = .returned (.bool (lessB a b)) ∧ Below w.heap.size w w' := by
  obtain ⟨a0, a1, a2, a3⟩ := a
  obtain ⟨b0, b1, b2, b3⟩ := b
  have hB := Lib.hid (((Below.refl w.heap.size w).alloc (Nat.le_refl _) (.cells #[.int .i64 a0, .int .i64 a1, .int .i64 a2, .bool a3] 74)).alloc (by simp) (.cells #[.int .i64 b0, .int .i64 b1, .int .i64 b2, .bool b3] 74))
  unfold lbV
  cases a3 with
  | false =>
    rw [show lessB ⟨a0, a1, a2, false⟩ ⟨b0, b1, b2, b3⟩ = false from rfl]
    go_enter Try.func62, Try.ntmps62
    go_wp2
    go_ret
    exact ⟨rfl, hB.out⟩
  | true =>
    cases b3 with
    | false =>
      rw [show lessB ⟨a0, a1, a2, true⟩ ⟨b0, b1, b2, false⟩ = true from rfl]
      go_enter Try.func62, Try.ntmps62
      go_wp2
      go_ret
      exact ⟨rfl, hB.out⟩
    | true =>
      rw [show lessB ⟨a0, a1, a2, true⟩ ⟨b0, b1, b2, true⟩ = decide (a1 < b1 ∨ a1 = b1 ∧ a2 < b2) from rfl]
      by_cases h1 : a1 < b1
      · rw [decide_eq_true (Or.inl h1)]
        go_enter Try.func62, Try.ntmps62
        go_wp2
        go_ret
        exact ⟨rfl, hB.out⟩
      · by_cases h2 : a1 = b1
        · subst h2
          by_cases h3 : a2 < b2
          · rw [decide_eq_true (Or.inr ⟨rfl, h3⟩)]
            go_enter Try.func62, Try.ntmps62
            go_wp2
            go_ret
            exact ⟨rfl, hB.out⟩
          · rw [decide_eq_false (by omega)]
            go_enter Try.func62, Try.ntmps62
            go_wp2
            go_ret
            exact ⟨rfl, hB.out⟩
        · rw [decide_eq_false (by omega)]
          have hb := beq_eq_false_iff_ne.2 h2
          go_enter Try.func62, Try.ntmps62
          go_wp2
          go_ret
          exact ⟨rfl, hB.out⟩
end Go.Proofs.Ytlaklfiodmnocaa
