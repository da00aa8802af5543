/- What the laws say of flows, in mathematics: edges turned round, one capacity that grows, sets that separate, the edges of the cut. -/
import Derived.Test.YtdemnbbofigcdaaCutG
namespace Go.Proofs.Ytdemnbbofigcdaa

/-! ### Turned round -/
theorem e_turn {l : List Ed} {k : Nat} (hk : k < l.length) : eF (l.map turn) k = eT l k ∧ eT (l.map turn) k = eF l k ∧ eC (l.map turn) k = eC l k := by
  have e : (l.map turn)[k]? = some (turn l[k]) := by rw [List.getElem?_map, List.getElem?_eq_getElem hk]; rfl
  obtain ⟨_, h2, h3, h4⟩ := e_at hk
  unfold eF eT eC at *
  rw [e]
  exact ⟨h3.symm, h2.symm, h4.symm⟩
theorem net_turn (l : List Ed) (f : List Int) (n : Int) : net (l.map turn) f n = - net l f n := by
  have h : sumK l.length (netK (l.map turn) f n) = sumK l.length (fun k => 0 - netK l f n k) := sumK_congr fun k hk => by
    obtain ⟨h1, h2, _⟩ := e_turn hk
    unfold netK
    rw [h1, h2]
    omega
  unfold net
  rw [List.length_map, h, sumK_sub, sumK_zero]
  omega
theorem flow_turn {l : List Ed} {f : List Int} {s t : Int} (h : IsFlow l f s t) : IsFlow (l.map turn) f t s :=
  ⟨by rw [List.length_map]; exact h.len, fun k hk => by
    rw [List.length_map] at hk
    rw [(e_turn hk).2.2]
    exact h.box k hk, fun n h1 h2 => by rw [net_turn, h.bal n h2 h1]; rfl⟩
theorem turn_max {l : List Ed} {f g : List Int} {s t : Int} (hst : s ≠ t) (hf : IsFlow l f s t) (hf2 : ¬ Rs l f s t) (hg : IsFlow (l.map turn) g t s) (hg2 : ¬ Rs (l.map turn) g t s) : net (l.map turn) g t = net l f s := by
  have h1 := rs_max hg hg2 (flow_turn hf)
  rw [net_turn, ← net_ends hf hst] at h1
  have h2 := flow_turn hg
  rw [map_turn] at h2
  have h3 := rs_max hf hf2 h2
  have h4 := net_ends hg (fun e => hst e.symm)
  have h5 := net_turn l g s
  omega

/-! ### A capacity that grows -/
def grow (l : List Ed) (i : Nat) (d : Int) : List Ed := l.set i ⟨eI l i, eF l i, eT l i, eC l i + d⟩
theorem grow_len (l : List Ed) (i : Nat) (d : Int) : (grow l i d).length = l.length := by unfold grow; rw [List.length_set]
theorem e_grow {l : List Ed} {i k : Nat} {d : Int} (hi : i < l.length) : eI (grow l i d) k = eI l k ∧ eF (grow l i d) k = eF l k ∧ eT (grow l i d) k = eT l k ∧ eC (grow l i d) k = eC l k + (if k = i then d else 0) := by
  by_cases h : k = i
  · subst h
    have e : (grow l k d)[k]? = some ⟨eI l k, eF l k, eT l k, eC l k + d⟩ := by unfold grow; rw [List.getElem?_set_self hi]
    rw [if_pos rfl]
    refine ⟨?_, ?_, ?_, ?_⟩
    · show ((grow l k d)[k]?.getD _).id = _; rw [e]; rfl
    · show ((grow l k d)[k]?.getD _).frm = _; rw [e]; rfl
    · show ((grow l k d)[k]?.getD _).to = _; rw [e]; rfl
    · show ((grow l k d)[k]?.getD _).cost = _; rw [e]; rfl
  · have e : (grow l i d)[k]? = l[k]? := by unfold grow; rw [List.getElem?_set_ne (fun e => h e.symm)]
    rw [if_neg h, Int.add_zero]
    unfold eI eF eT eC
    rw [e]
    exact ⟨rfl, rfl, rfl, rfl⟩
theorem net_grow {l : List Ed} {i : Nat} {d : Int} (hi : i < l.length) (f : List Int) (n : Int) : net (grow l i d) f n = net l f n := by
  unfold net
  rw [grow_len]
  refine sumK_congr fun k _ => ?_
  obtain ⟨_, h1, h2, _⟩ := e_grow (k := k) (d := d) hi
  unfold netK
  rw [h1, h2]
theorem flow_grow {l : List Ed} {f : List Int} {s t d : Int} {i : Nat} (hi : i < l.length) (hd : 0 ≤ d) (h : IsFlow l f s t) : IsFlow (grow l i d) f s t :=
  ⟨by rw [grow_len]; exact h.len, fun k hk => by
    rw [grow_len] at hk
    have h1 := h.box k hk
    rw [(e_grow hi).2.2.2]
    split <;> omega, fun n h1 h2 => by rw [net_grow hi]; exact h.bal n h1 h2⟩
theorem cap_grow {l : List Ed} {d : Int} {i : Nat} (hi : i < l.length) (hd : 0 ≤ d) (X : Int → Bool) : capX (grow l i d) X ≤ capX l X + d := by
  unfold capX
  rw [grow_len]
  have h1 : sumK l.length (fun k => if X (eF (grow l i d) k) = true ∧ X (eT (grow l i d) k) = false then eC (grow l i d) k else 0) = sumK l.length (fun k => if X (eF l k) = true ∧ X (eT l k) = false then eC l k else 0) + ((if X (eF (grow l i d) i) = true ∧ X (eT (grow l i d) i) = false then eC (grow l i d) i else 0) - (if X (eF l i) = true ∧ X (eT l i) = false then eC l i else 0)) :=
    sumK_one hi fun k _ hne => by
      obtain ⟨_, h1, h2, h3⟩ := e_grow (k := k) (d := d) hi
      rw [h1, h2, h3, if_neg hne, Int.add_zero]
  rw [h1]
  obtain ⟨_, h1, h2, h3⟩ := e_grow (k := i) (d := d) hi
  rw [h1, h2, h3, if_pos rfl]
  split <;> omega
theorem grow_max {l : List Ed} {f g : List Int} {s t d : Int} {i : Nat} (hi : i < l.length) (hd : 0 ≤ d) (hf : IsFlow l f s t) (hf2 : ¬ Rs l f s t) (hg : IsFlow (grow l i d) g s t) (hg2 : ¬ Rs (grow l i d) g s t) :
    net l f s ≤ net (grow l i d) g s ∧ net (grow l i d) g s ≤ net l f s + d := by
  have h1 := rs_max hg hg2 (flow_grow hi hd hf)
  rw [net_grow hi] at h1
  have h2 := weak hg (X := RsB l f s) (rsB_iff.2 .base) (rsB_not.2 hf2)
  have h3 := cap_grow hi hd (RsB l f s)
  rw [← rs_cut hf hf2] at h3
  exact ⟨h1, Int.le_trans h2 h3⟩

/-! ### Bounds of the value -/
theorem cost_sum {l : List Ed} (hg : Grph l) {X : Int → Bool} : ∀ {k : Nat}, k ≤ l.length → 0 ≤ sumK k (fun k => if X (eF l k) = true ∧ X (eT l k) = false then eC l k else 0) ∧ sumK k (fun k => if X (eF l k) = true ∧ X (eT l k) = false then eC l k else 0) ≤ 1000000 * (k : Int)
  | 0, _ => ⟨Int.le_refl _, Int.le_refl _⟩
  | k + 1, h => by
    have h1 := cost_sum hg (X := X) (k := k) (by omega)
    have h2 := (hg.2.1 _ (e_mem (show k < l.length by omega))).2.2.2.2
    have h3 : 0 ≤ eC l k ∧ eC l k ≤ 1000000 := h2
    rw [sumK]
    split <;> omega
theorem net_bound {l : List Ed} (hg : Grph l) {f : List Int} {s t : Int} (h : IsFlow l f s t) (n : Int) : -200000000 ≤ net l f n ∧ net l f n ≤ 200000000 := by
  have h1 := low_sum (h.low hg) n (Nat.le_refl l.length)
  have h2 := hg.1
  unfold net
  omega

/-! ### The edges of the cut -/
theorem cut_mem {l : List Ed} {X : Int → Bool} {x : Int} : ∀ {n : Nat}, x ∈ cutN l X n ↔ ∃ k : Nat, k < n ∧ x = (k : Int) ∧ X (eF l k) = true ∧ X (eT l k) = false
  | 0 => by
    rw [cutN]
    constructor
    · intro h; cases h
    · rintro ⟨k, hk, _⟩; omega
  | n + 1 => by
    rw [cutN, List.mem_append, cut_mem]
    constructor
    · rintro (⟨k, hk, h⟩ | h)
      · exact ⟨k, by omega, h⟩
      · split at h
        · rename_i hc
          exact ⟨n, by omega, List.mem_singleton.1 h, hc⟩
        · cases h
    · rintro ⟨k, hk, h1, h2⟩
      by_cases hkn : k = n
      · subst hkn
        right
        rw [if_pos h2, h1]
        exact List.mem_singleton.2 rfl
      · exact .inl ⟨k, by omega, h1, h2⟩
theorem cut_inc {l : List Ed} {X : Int → Bool} : ∀ n : Nat, Inc (cutN l X n)
  | 0 => List.Pairwise.nil
  | n + 1 => by
    rw [cutN]
    refine List.pairwise_append.2 ⟨cut_inc n, ?_, fun a ha b hb => ?_⟩
    · split
      · exact List.pairwise_singleton _ _
      · exact List.Pairwise.nil
    · obtain ⟨k, hk, rfl, _⟩ := cut_mem.1 ha
      split at hb
      · rw [List.mem_singleton.1 hb]
        omega
      · cases hb
theorem reach_len (l : List Ed) (f : List Int) : (reachL l f).length ≤ f.length + l.length := found_len ⟨reach_inc l f, fun _ h => mem_reach.1 h, fun x h => mem_reach.2 ⟨x, h, .refl x⟩⟩
/-- The capacities at a list of indices. -/
def sumC (l : List Ed) : List Int → Int
  | [] => 0
  | x :: L => eC l x.toNat + sumC l L
theorem sumC_append (l : List Ed) : ∀ a b : List Int, sumC l (a ++ b) = sumC l a + sumC l b
  | [], b => by rw [List.nil_append, sumC]; omega
  | x :: a, b => by rw [List.cons_append, sumC, sumC, sumC_append l a b]; omega
theorem cut_sum (l : List Ed) (X : Int → Bool) : ∀ n : Nat, sumC l (cutN l X n) = sumK n (fun k => if X (eF l k) = true ∧ X (eT l k) = false then eC l k else 0)
  | 0 => rfl
  | n + 1 => by
    rw [cutN, sumC_append, cut_sum l X n, sumK]
    congr 1
    split
    · rw [sumC, sumC, Int.toNat_natCast]
      omega
    · rfl
/-- Without the edges that lead out of a set nothing beyond it is reached. -/
theorem cut_reach {l : List Ed} {X : Int → Bool} {s x : Int} {ids : List Int} (hs : X s = true) (hids : ∀ k : Nat, k < l.length → X (eF l k) = true → X (eT l k) = false → eI l k ∈ ids) (h : x ∈ reachL (wo l ids) [s]) : X x = true := by
  obtain ⟨a, ha, hr⟩ := mem_reach.1 h
  rw [List.mem_singleton.1 ha] at hr
  refine hr.closed (S := fun x => X x = true) (fun e he hx => ?_) hs
  unfold wo at he
  obtain ⟨he, hid⟩ := List.mem_filter.1 he
  obtain ⟨k, hk, rfl⟩ := List.mem_iff_getElem.1 he
  rw [e_eta hk] at hx hid ⊢
  cases hX : X (eT l k) with
  | true => rfl
  | false =>
    have := hids k hk hx hX
    rw [hasB_true this] at hid
    cases hid
end Go.Proofs.Ytdemnbbofigcdaa
