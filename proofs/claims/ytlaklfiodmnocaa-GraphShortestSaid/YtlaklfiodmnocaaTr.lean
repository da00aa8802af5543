/- Trails: lists of them in memory; their order. -/
import Derived.Test.YtlaklfiodmnocaaCmp
import Derived.Test.YtlaklfiodmnocaaInsT
namespace Go.Proofs.Ytlaklfiodmnocaa
open Go.RowKit

def tr0 : Tr := ⟨0, 0, 0, 0⟩
def tx (L : List Tr) (i : Nat) : Tr := L[i]?.getD tr0
theorem tx_at {L : List Tr} {i : Nat} (h : i < L.length) : tx L i = L[i] := by unfold tx; rw [List.getElem?_eq_getElem h]; rfl
def cellT (e : Tr) : List Value := [.int .i64 e.node, .int .i64 e.cost, .int .i64 e.edges, .int .i64 e.first]
def cellsT : List Tr → List Value
  | [] => []
  | e :: l => .int .i64 e.node :: .int .i64 e.cost :: .int .i64 e.edges :: .int .i64 e.first :: cellsT l
theorem cellsT_len : ∀ l : List Tr, (cellsT l).length = l.length * 4
  | [] => rfl
  | e :: l => by rw [cellsT, List.length_cons, List.length_cons, List.length_cons, List.length_cons, cellsT_len l, List.length_cons]; omega
theorem cellsT_append : ∀ l m : List Tr, cellsT (l ++ m) = cellsT l ++ cellsT m
  | [], m => rfl
  | e :: l, m => by rw [List.cons_append, cellsT, cellsT, cellsT_append l m]; rfl
theorem cellsT_one : ∀ l : List Tr, ∀ u ∈ cellsT l, u.oneCell' = true
  | [], _, h => by cases h
  | e :: l, u, h => by
    rw [cellsT] at h
    simp only [List.mem_cons] at h
    rcases h with rfl | rfl | rfl | rfl | h
    · rfl
    · rfl
    · rfl
    · rfl
    · exact cellsT_one l u h
theorem cellsT_at : ∀ (l : List Tr) (i : Nat) (h : i < l.length), (cellsT l)[i * 4]? = some (.int .i64 l[i].node) ∧ (cellsT l)[i * 4 + 1]? = some (.int .i64 l[i].cost) ∧ (cellsT l)[i * 4 + 2]? = some (.int .i64 l[i].edges) ∧ (cellsT l)[i * 4 + 3]? = some (.int .i64 l[i].first)
  | e :: l, 0, _ => ⟨rfl, rfl, rfl, rfl⟩
  | e :: l, i + 1, h => by
    have k := cellsT_at l i (by simpa using h)
    rw [cellsT, show (i + 1) * 4 = i * 4 + 1 + 1 + 1 + 1 by omega]
    simpa using k
theorem cellsT_take : ∀ (l : List Tr) (i : Nat), (cellsT l).take (i * 4) = cellsT (l.take i)
  | [], i => by simp [cellsT]
  | e :: l, 0 => by simp [cellsT]
  | e :: l, i + 1 => by
    rw [cellsT, show (i + 1) * 4 = i * 4 + 1 + 1 + 1 + 1 by omega, List.take_succ_cons, List.take_succ_cons, List.take_succ_cons, List.take_succ_cons, cellsT_take l i, List.take_succ_cons, cellsT]
theorem cellsT_drop : ∀ (l : List Tr) (i : Nat), (cellsT l).drop (i * 4) = cellsT (l.drop i)
  | [], i => by simp [cellsT]
  | e :: l, 0 => by simp [cellsT]
  | e :: l, i + 1 => by
    rw [cellsT, show (i + 1) * 4 = i * 4 + 1 + 1 + 1 + 1 by omega, List.drop_succ_cons, List.drop_succ_cons, List.drop_succ_cons, List.drop_succ_cons, cellsT_drop l i, List.drop_succ_cons]
/-- A slice that reads as the trails. -/
def Tls (w : World) (B : Nat) (A : Option Addr) (L : List Tr) : Prop :=
  0 < L.length → ∃ ad, A = some ad ∧ ad.block < B ∧ ∀ i, i < L.length → At4 w (ad.add (i * 4)) (.int .i64 (tx L i).node) (.int .i64 (tx L i).cost) (.int .i64 (tx L i).edges) (.int .i64 (tx L i).first)
theorem Tls.keep {w w' : World} {B : Nat} {A : Option Addr} {l : List Tr} (h : Tls w B A l) (hk : ∀ p : Addr, p.block < B → w'.cell? p = w.cell? p) : Tls w' B A l := fun hn => by
  obtain ⟨ad, e, hl, hc⟩ := h hn
  exact ⟨ad, e, hl, fun i hi => (hc i hi).keep (by rw [block_of_add]; exact hl) hk⟩
theorem Tls.below {w w' : World} {B : Nat} {A : Option Addr} {l : List Tr} (h : Tls w B A l) (hb : Below B w w') : Tls w' B A l := h.keep fun _ hp => hb.cell hp
theorem Tls.get {w : World} {B : Nat} {A : Option Addr} {L : List Tr} (h : Tls w B A L) {k : Nat} (hk : k < L.length) :
    ∃ ad, A = some ad ∧ ad.block < B ∧ At4 w (ad.add (k * 4)) (.int .i64 (tx L k).node) (.int .i64 (tx L k).cost) (.int .i64 (tx L k).edges) (.int .i64 (tx L k).first) := by
  obtain ⟨ad, e, hl, hc⟩ := h (by omega)
  exact ⟨ad, e, hl, hc k hk⟩
theorem Ow.tls {w : World} {base n cap : Nat} {e : TypeId} {A : Option Addr} {l : List Tr} (h : Ow w base e 4 A n cap (cellsT l)) : Tls w w.heap.size A l := fun hpos => by
  have hn : n = l.length := by have := h.1; rw [cellsT_len] at this; omega
  have hc := fun (ad : Addr) (hA : A = some ad) => h.cells (ad := ad) hA
  rcases h.2 with ⟨_, h0, _⟩ | ⟨g, off, pre, post, rfl, _, h3, _⟩
  · omega
  · refine ⟨_, rfl, (Array.getElem?_eq_some_iff.1 h3).1, fun i hi => ?_⟩
    obtain ⟨c0, c1, c2, c3⟩ := cellsT_at l i hi
    have k0 := hc _ rfl _ _ c0
    have k1 := hc _ rfl _ _ c1
    have k2 := hc _ rfl _ _ c2
    have k3 := hc _ rfl _ _ c3
    rw [add_next] at k1 k2 k3
    rw [tx_at hi]
    exact ⟨k0, k1, k2, k3⟩
/-- The order of trails. -/
def ltT (a b : Tr) : Prop := a.cost < b.cost ∨ a.cost = b.cost ∧ (a.edges < b.edges ∨ a.edges = b.edges ∧ a.first < b.first)
instance (a b : Tr) : Decidable (ltT a b) := by unfold ltT; infer_instance
theorem cmpI_cases (x y : Int) : (cmpI x y = -1 ∧ x < y) ∨ (cmpI x y = 1 ∧ y < x) ∨ (cmpI x y = 0 ∧ x = y) := by
  unfold cmpI
  by_cases h1 : x < y
  · rw [if_pos h1]; omega
  · rw [if_neg h1]
    by_cases h2 : y < x
    · rw [if_pos h2]; omega
    · rw [if_neg h2]; omega
theorem cmpT_neg (a b : Tr) : cmpT a b < 0 ↔ ltT a b := by
  unfold cmpT or3 ltT
  rcases cmpI_cases a.cost b.cost with ⟨h1, k1⟩ | ⟨h1, k1⟩ | ⟨h1, k1⟩
  · rw [h1, if_pos (by decide)]; omega
  · rw [h1, if_pos (by decide)]; omega
  · rw [h1, if_neg (by decide)]
    rcases cmpI_cases a.edges b.edges with ⟨h2, k2⟩ | ⟨h2, k2⟩ | ⟨h2, k2⟩
    · rw [h2, if_pos (by decide)]; omega
    · rw [h2, if_pos (by decide)]; omega
    · rw [h2, if_neg (by decide)]
      rcases cmpI_cases a.first b.first with ⟨h3, k3⟩ | ⟨h3, k3⟩ | ⟨h3, k3⟩
      · rw [h3]; omega
      · rw [h3]; omega
      · rw [h3]; omega
theorem ltT_trans {a b c : Tr} (h : ltT a b) (h2 : ¬ ltT c b) : ltT a c := by unfold ltT at *; omega
theorem nlt_trans {a b c : Tr} (h : ¬ ltT b a) (h2 : ¬ ltT c b) : ¬ ltT c a := by unfold ltT at *; omega
def SrtT (l : List Tr) : Prop := l.Pairwise (fun a b => ¬ ltT b a)
theorem srt_mono {l : List Tr} (h : SrtT l) {a b : Nat} (hab : a ≤ b) (hb : b < l.length) : ¬ ltT (tx l b) (tx l a) := by
  rw [tx_at hb, tx_at (by omega)]
  rcases Nat.lt_or_ge a b with hlt | hge
  · exact (List.pairwise_iff_getElem.1 h) a b (by omega) hb hlt
  · obtain rfl : a = b := by omega
    unfold ltT
    omega
/-- i parts the list: what is before x, what is not. -/
def PartsT (l : List Tr) (x : Tr) (i : Nat) : Prop := i ≤ l.length ∧ (∀ k, k < i → ltT (tx l k) x) ∧ ∀ k, i ≤ k → k < l.length → ¬ ltT (tx l k) x
theorem partsT_le {l : List Tr} {x : Tr} {i : Nat} (h : PartsT l x i) : i ≤ l.length := h.1
end Go.Proofs.Ytlaklfiodmnocaa
