/- Flows, separating sets, what is reached in the rest of a flow. Plain mathematics. -/
import Derived.Test.YtdemnbbofigcdaaRefRight
namespace Go.Proofs.Ytdemnbbofigcdaa

/-! ### Sums -/
def sumK : Nat → (Nat → Int) → Int
  | 0, _ => 0
  | n + 1, g => sumK n g + g n
theorem sumK_congr {g h : Nat → Int} : ∀ {n : Nat}, (∀ k, k < n → g k = h k) → sumK n g = sumK n h
  | 0, _ => rfl
  | n + 1, e => by rw [sumK, sumK, sumK_congr (fun k hk => e k (by omega)), e n (by omega)]
theorem sumK_add (g h : Nat → Int) : ∀ n : Nat, sumK n (fun k => g k + h k) = sumK n g + sumK n h
  | 0 => rfl
  | n + 1 => by rw [sumK, sumK, sumK, sumK_add g h n]; omega
theorem sumK_sub (g h : Nat → Int) : ∀ n : Nat, sumK n (fun k => g k - h k) = sumK n g - sumK n h
  | 0 => rfl
  | n + 1 => by rw [sumK, sumK, sumK, sumK_sub g h n]; omega
theorem sumK_le {g h : Nat → Int} : ∀ {n : Nat}, (∀ k, k < n → g k ≤ h k) → sumK n g ≤ sumK n h
  | 0, _ => Int.le_refl _
  | n + 1, e => by
    have h1 := sumK_le (n := n) (fun k hk => e k (by omega))
    have h2 := e n (by omega)
    rw [sumK, sumK]
    omega
theorem sumK_zero : ∀ n : Nat, sumK n (fun _ => 0) = 0
  | 0 => rfl
  | n + 1 => by rw [sumK, sumK_zero n]; rfl
/-- Where sums of terms that are no greater agree, the terms agree. -/
theorem sumK_eq {g h : Nat → Int} : ∀ {n : Nat}, (∀ k, k < n → g k ≤ h k) → sumK n g = sumK n h → ∀ k, k < n → g k = h k
  | 0, _, _, k, hk => absurd hk (by omega)
  | n + 1, e, he, k, hk => by
    have h1 := sumK_le (n := n) (fun k hk => e k (by omega))
    have h2 := e n (by omega)
    rw [sumK, sumK] at he
    by_cases hkn : k = n
    · subst hkn; omega
    · exact sumK_eq (n := n) (fun k hk => e k (by omega)) (by omega) k (by omega)
/-- A change of one term. -/
theorem sumK_one {g h : Nat → Int} {i : Nat} : ∀ {n : Nat}, i < n → (∀ k, k < n → k ≠ i → g k = h k) → sumK n g = sumK n h + (g i - h i)
  | 0, hi, _ => absurd hi (by omega)
  | n + 1, hi, e => by
    rw [sumK, sumK]
    by_cases hin : i = n
    · subst hin
      rw [sumK_congr (n := i) (fun k hk => e k (by omega) (by omega))]
      omega
    · rw [sumK_one (n := n) (by omega) (fun k hk hki => e k (by omega) hki), e n (by omega) (fun h => hin h.symm)]
      omega
def sumL : List Int → (Int → Int) → Int
  | [], _ => 0
  | x :: l, g => g x + sumL l g
theorem sumL_sub (g h : Int → Int) : ∀ l : List Int, sumL l (fun n => g n - h n) = sumL l g - sumL l h
  | [] => rfl
  | x :: l => by rw [sumL, sumL, sumL, sumL_sub g h l]; omega
theorem sumL_add (g h : Int → Int) : ∀ l : List Int, sumL l (fun n => g n + h n) = sumL l g + sumL l h
  | [] => rfl
  | x :: l => by rw [sumL, sumL, sumL, sumL_add g h l]; omega
theorem sumL_none {g : Int → Int} : ∀ {l : List Int}, (∀ n ∈ l, g n = 0) → sumL l g = 0
  | [], _ => rfl
  | x :: l, h => by rw [sumL, h x (List.mem_cons_self ..), sumL_none (fun n hn => h n (List.mem_cons_of_mem _ hn))]; rfl
theorem sumL_single {g : Int → Int} {s : Int} : ∀ {l : List Int}, l.Nodup → s ∈ l → (∀ n ∈ l, n ≠ s → g n = 0) → sumL l g = g s
  | [], _, h, _ => by cases h
  | x :: l, hn, hs, h => by
    rw [List.nodup_cons] at hn
    rw [sumL]
    by_cases hx : x = s
    · subst hx
      rw [sumL_none (fun n hn' => h n (List.mem_cons_of_mem _ hn') (fun e => hn.1 (e ▸ hn')))]
      omega
    · rw [h x (List.mem_cons_self ..) hx, sumL_single hn.2 ((List.mem_cons.1 hs).resolve_left (fun e => hx e.symm)) (fun n hn' => h n (List.mem_cons_of_mem _ hn'))]
      omega
theorem sumL_pick {a v : Int} {l : List Int} (hl : l.Nodup) : sumL l (fun n => if a = n then v else 0) = if a ∈ l then v else 0 := by
  by_cases h : a ∈ l
  · rw [if_pos h, sumL_single hl h (fun n _ hn => if_neg (fun e => hn e.symm)), if_pos rfl]
  · rw [if_neg h, sumL_none (fun n hn => if_neg (fun (e : a = n) => h (by rw [e]; exact hn)))]
theorem sum_swap (G : Int → Nat → Int) (l : List Int) : ∀ K : Nat, sumL l (fun n => sumK K (G n)) = sumK K (fun k => sumL l (fun n => G n k))
  | 0 => by rw [sumK]; exact sumL_none (fun _ _ => rfl)
  | K + 1 => by
    rw [sumK, ← sum_swap G l K, ← sumL_add]
    rfl

/-! ### Flows -/
def netK (l : List Ed) (f : List Int) (n : Int) (k : Nat) : Int := (if eF l k = n then ix f k else 0) - (if eT l k = n then ix f k else 0)
def net (l : List Ed) (f : List Int) (n : Int) : Int := sumK l.length (netK l f n)
structure IsFlow (l : List Ed) (f : List Int) (s t : Int) : Prop where
  len : f.length = l.length
  box : ∀ k, k < l.length → 0 ≤ ix f k ∧ ix f k ≤ eC l k
  bal : ∀ n, n ≠ s → n ≠ t → net l f n = 0
theorem net_out {l : List Ed} {f : List Int} {n : Int} (h : n ∉ nodesL l) : net l f n = 0 := by
  unfold net
  rw [sumK_congr (h := fun _ => 0), sumK_zero]
  intro k hk
  unfold netK
  have hm := fun (e : Ed) (he : e ∈ l) (hx : n = e.frm ∨ n = e.to) => h (mem_nodes.2 ⟨e, he, hx⟩)
  have h0 : l[k] ∈ l := List.getElem_mem hk
  rw [if_neg (fun e => hm _ h0 (.inl (by rw [e_eta hk]; exact e.symm))), if_neg (fun e => hm _ h0 (.inr (by rw [e_eta hk]; exact e.symm)))]
  rfl
/-- What leaves a set, less what enters it, is the value. -/
theorem value_cut {l : List Ed} {f : List Int} {s t : Int} (h : IsFlow l f s t) {X : Int → Bool} (hs : X s = true) (ht : X t = false) :
    net l f s = sumK l.length (fun k => (if X (eF l k) = true then ix f k else 0) - (if X (eT l k) = true then ix f k else 0)) := by
  have hN : ((ins s (nodesL l)).filter X).Nodup := (inc_nodup (ins_inc (nodes_inc l))).sublist List.filter_sublist
  have hsm : s ∈ (ins s (nodesL l)).filter X := List.mem_filter.2 ⟨mem_ins.2 (.inl rfl), hs⟩
  have h1 : sumL ((ins s (nodesL l)).filter X) (net l f) = net l f s := sumL_single hN hsm (fun n hn hne => h.bal n hne (fun e => by rw [e] at hn; rw [(List.mem_filter.1 hn).2] at ht; cases ht))
  rw [← h1]
  show sumL _ (fun n => sumK l.length (netK l f n)) = _
  rw [sum_swap]
  refine sumK_congr fun k hk => ?_
  have hm : ∀ a, (a = eF l k ∨ a = eT l k) → (a ∈ (ins s (nodesL l)).filter X ↔ X a = true) := fun a ha => by
    rw [List.mem_filter, mem_ins]
    constructor
    · exact fun h => h.2
    · refine fun h => ⟨.inr (mem_nodes.2 ⟨l[k], List.getElem_mem hk, ?_⟩), h⟩
      rw [e_eta hk]
      exact ha
  show sumL _ (fun n => (if eF l k = n then ix f k else 0) - (if eT l k = n then ix f k else 0)) = _
  rw [sumL_sub, sumL_pick hN, sumL_pick hN]
  congr 1
  · by_cases hx : X (eF l k) = true
    · rw [if_pos hx, if_pos ((hm _ (.inl rfl)).2 hx)]
    · rw [if_neg hx, if_neg (fun h => hx ((hm _ (.inl rfl)).1 h))]
  · by_cases hx : X (eT l k) = true
    · rw [if_pos hx, if_pos ((hm _ (.inr rfl)).2 hx)]
    · rw [if_neg hx, if_neg (fun h => hx ((hm _ (.inr rfl)).1 h))]
/-- The capacity of a set. -/
def capX (l : List Ed) (X : Int → Bool) : Int := sumK l.length (fun k => if X (eF l k) = true ∧ X (eT l k) = false then eC l k else 0)
theorem cut_term {l : List Ed} {f : List Int} {s t : Int} (h : IsFlow l f s t) (X : Int → Bool) {k : Nat} (hk : k < l.length) :
    (if X (eF l k) = true then ix f k else 0) - (if X (eT l k) = true then ix f k else 0) ≤ if X (eF l k) = true ∧ X (eT l k) = false then eC l k else 0 := by
  have := h.box k hk
  cases X (eF l k) <;> cases X (eT l k) <;> simp <;> omega
theorem weak {l : List Ed} {f : List Int} {s t : Int} (h : IsFlow l f s t) {X : Int → Bool} (hs : X s = true) (ht : X t = false) : net l f s ≤ capX l X := by
  rw [value_cut h hs ht]
  exact sumK_le fun k hk => cut_term h X hk
/-- Where more could flow to. -/
inductive Rs (l : List Ed) (f : List Int) (s : Int) : Int → Prop
  | base : Rs l f s s
  | fwd {k : Nat} : k < l.length → Rs l f s (eF l k) → ix f k < eC l k → Rs l f s (eT l k)
  | bwd {k : Nat} : k < l.length → Rs l f s (eT l k) → 0 < ix f k → Rs l f s (eF l k)
noncomputable def RsB (l : List Ed) (f : List Int) (s x : Int) : Bool := @decide (Rs l f s x) (Classical.propDecidable _)
theorem rsB_iff {l : List Ed} {f : List Int} {s x : Int} : RsB l f s x = true ↔ Rs l f s x := @decide_eq_true_iff _ (Classical.propDecidable _)
theorem rsB_not {l : List Ed} {f : List Int} {s x : Int} : RsB l f s x = false ↔ ¬ Rs l f s x := by
  rw [← rsB_iff, Bool.not_eq_true]
theorem rs_cut {l : List Ed} {f : List Int} {s t : Int} (h : IsFlow l f s t) (ht : ¬ Rs l f s t) : net l f s = capX l (RsB l f s) := by
  rw [value_cut h (rsB_iff.2 .base) (rsB_not.2 ht)]
  refine sumK_congr fun k hk => ?_
  have hb := h.box k hk
  cases h1 : RsB l f s (eF l k) with
  | true =>
    cases h2 : RsB l f s (eT l k) with
    | true => simp
    | false =>
      have h3 : ¬ ix f k < eC l k := fun hlt => rsB_not.1 h2 (.fwd hk (rsB_iff.1 h1) hlt)
      simp
      omega
  | false =>
    cases h2 : RsB l f s (eT l k) with
    | false => simp
    | true =>
      have h3 : ¬ 0 < ix f k := fun hlt => rsB_not.1 h1 (.bwd hk (rsB_iff.1 h2) hlt)
      simp
      omega
/-- A set of this capacity holds all that is reached. -/
theorem rs_least {l : List Ed} {f : List Int} {s t : Int} (h : IsFlow l f s t) {X : Int → Bool} (hs : X s = true) (ht : X t = false) (he : net l f s = capX l X) {x : Int} (hx : Rs l f s x) : X x = true := by
  rw [value_cut h hs ht] at he
  have hk := sumK_eq (fun k hk => cut_term h X hk) he
  induction hx with
  | base => exact hs
  | @fwd k hkl _ hlt ih =>
    have h1 := hk k hkl
    cases h2 : X (eT l k) with
    | true => rfl
    | false =>
      rw [ih, h2] at h1
      simp at h1
      omega
  | @bwd k hkl _ hlt ih =>
    have h1 := hk k hkl
    cases h2 : X (eF l k) with
    | true => rfl
    | false =>
      rw [ih, h2] at h1
      simp at h1
      omega
theorem rs_max {l : List Ed} {f g : List Int} {s t : Int} (hf : IsFlow l f s t) (ht : ¬ Rs l f s t) (hg : IsFlow l g s t) : net l g s ≤ net l f s := by
  rw [rs_cut hf ht]
  exact weak hg (rsB_iff.2 .base) (rsB_not.2 ht)
theorem rs_value {l : List Ed} {f g : List Int} {s t : Int} (hf : IsFlow l f s t) (ht : ¬ Rs l f s t) (hg : IsFlow l g s t) (ht2 : ¬ Rs l g s t) : net l f s = net l g s :=
  Int.le_antisymm (rs_max hg ht2 hf) (rs_max hf ht hg)
theorem rs_same {l : List Ed} {f g : List Int} {s t : Int} (hf : IsFlow l f s t) (ht : ¬ Rs l f s t) (hg : IsFlow l g s t) (ht2 : ¬ Rs l g s t) (x : Int) : Rs l f s x ↔ Rs l g s x :=
  ⟨fun h => rsB_iff.1 (rs_least hf (rsB_iff.2 .base) (rsB_not.2 ht2) ((rs_value hf ht hg ht2).trans (rs_cut hg ht2)) h),
   fun h => rsB_iff.1 (rs_least hg (rsB_iff.2 .base) (rsB_not.2 ht) ((rs_value hg ht2 hf ht).trans (rs_cut hf ht)) h)⟩
/-- What leaves s arrives at t. -/
theorem net_ends {l : List Ed} {f : List Int} {s t : Int} (h : IsFlow l f s t) (hst : s ≠ t) : net l f s = - net l f t := by
  rw [value_cut h (X := fun x => decide (x ≠ t)) (by simp [hst]) (by simp)]
  have : ∀ k, (if decide (eF l k ≠ t) = true then ix f k else 0) - (if decide (eT l k ≠ t) = true then ix f k else 0) = 0 - netK l f t k := fun k => by
    unfold netK
    by_cases h1 : eF l k = t <;> by_cases h2 : eT l k = t <;> simp [h1, h2]
  rw [sumK_congr (fun k _ => this k), sumK_sub, sumK_zero]
  unfold net
  omega

/-! ### More along a way -/
/-- Edges as the search writes them: k + 1 along the edge k, -(k + 1) against it. -/
def idx (x : Int) : Nat := x.natAbs - 1
def hdE (l : List Ed) (x : Int) : Int := if 0 < x then eT l (idx x) else eF l (idx x)
def tlE (l : List Ed) (x : Int) : Int := if 0 < x then eF l (idx x) else eT l (idx x)
def room (l : List Ed) (f : List Int) (x : Int) : Int := if 0 < x then eC l (idx x) - ix f (idx x) else ix f (idx x)
def put1 (f : List Int) (x d : Int) : List Int := f.set (idx x) (if 0 < x then ix f (idx x) + d else ix f (idx x) - d)
def aug (d : Int) : List Int → List Int → List Int
  | f, [] => f
  | f, x :: w => aug d (put1 f x d) w
/-- A way, from its end back to its start. -/
def Way (l : List Ed) : List Int → Int → Int → Prop
  | [], a, b => a = b
  | x :: w, a, b => hdE l x = a ∧ idx x < l.length ∧ Way l w (tlE l x) b
theorem ix_set {f : List Int} {i k : Nat} {v : Int} (hi : i < f.length) : ix (f.set i v) k = if k = i then v else ix f k := by
  unfold ix
  by_cases h : k = i
  · subst h
    rw [if_pos rfl, List.getElem?_set_self hi]
    rfl
  · rw [if_neg h, List.getElem?_set_ne (fun e => h e.symm)]
theorem put1_len (f : List Int) (x d : Int) : (put1 f x d).length = f.length := by unfold put1; rw [List.length_set]
theorem aug_len (d : Int) : ∀ (w f : List Int), (aug d f w).length = f.length
  | [], _ => rfl
  | x :: w, f => by rw [aug, aug_len d w, put1_len]
theorem net_put1 {l : List Ed} {f : List Int} {x d : Int} (hl : f.length = l.length) (hi : idx x < l.length) (n : Int) : net l (put1 f x d) n = net l f n + ((if tlE l x = n then d else 0) - (if hdE l x = n then d else 0)) := by
  have hif : idx x < f.length := by omega
  have hat : ∀ k, ix (put1 f x d) k = if k = idx x then (if 0 < x then ix f (idx x) + d else ix f (idx x) - d) else ix f k := fun k => ix_set hif
  unfold net
  rw [sumK_one (g := netK l (put1 f x d) n) (h := netK l f n) hi (fun k _ hk => by unfold netK; rw [hat k, if_neg hk])]
  congr 1
  unfold netK tlE hdE
  rw [hat (idx x), if_pos rfl]
  by_cases hx : 0 < x
  · simp only [if_pos hx]
    by_cases h1 : eF l (idx x) = n <;> by_cases h2 : eT l (idx x) = n <;> simp [h1, h2] <;> omega
  · simp only [if_neg hx]
    by_cases h1 : eF l (idx x) = n <;> by_cases h2 : eT l (idx x) = n <;> simp [h1, h2] <;> omega
theorem net_aug {l : List Ed} {d : Int} (n : Int) : ∀ {w f : List Int} {a b : Int}, f.length = l.length → Way l w a b → net l (aug d f w) n = net l f n + ((if b = n then d else 0) - (if a = n then d else 0))
  | [], f, a, b, _, h => by
    obtain rfl : a = b := h
    rw [aug]
    omega
  | x :: w, f, a, b, hl, h => by
    obtain ⟨h1, h2, h3⟩ := h
    rw [aug, net_aug n (by rw [put1_len]; exact hl) h3, net_put1 hl h2, h1]
    omega
theorem room_put1 {l : List Ed} {f : List Int} {x y d : Int} (hl : f.length = l.length) (hi : idx x < l.length) (hne : idx y ≠ idx x) : room l (put1 f x d) y = room l f y := by
  unfold room put1
  rw [ix_set (by omega), if_neg hne]
theorem aug_box {l : List Ed} {d : Int} (hd : 0 ≤ d) : ∀ {w f : List Int}, f.length = l.length → (∀ k, k < l.length → 0 ≤ ix f k ∧ ix f k ≤ eC l k) → (∀ x ∈ w, idx x < l.length ∧ d ≤ room l f x) → (w.map idx).Nodup → ∀ k, k < l.length → 0 ≤ ix (aug d f w) k ∧ ix (aug d f w) k ≤ eC l k
  | [], _, _, hb, _, _, k, hk => hb k hk
  | x :: w, f, hl, hb, hr, hn, k, hk => by
    rw [List.map_cons, List.nodup_cons] at hn
    obtain ⟨h1, h2⟩ := hr x (List.mem_cons_self ..)
    rw [aug]
    refine aug_box hd (by rw [put1_len]; exact hl) (fun j hj => ?_) (fun y hy => ?_) hn.2 k hk
    · have hbj := hb j hj
      unfold put1
      rw [ix_set (by omega)]
      by_cases hji : j = idx x
      · rw [if_pos hji]
        subst hji
        unfold room at h2
        by_cases hx : 0 < x
        · rw [if_pos hx] at h2 ⊢; omega
        · rw [if_neg hx] at h2 ⊢; omega
      · rw [if_neg hji]; exact hbj
    · obtain ⟨h3, h4⟩ := hr y (List.mem_cons_of_mem _ hy)
      refine ⟨h3, ?_⟩
      rw [room_put1 hl h1 (fun e => hn.1 (e ▸ List.mem_map_of_mem hy))]
      exact h4
theorem aug_flow {l : List Ed} {f w : List Int} {s t d : Int} (h : IsFlow l f s t) (hst : s ≠ t) (hd : 0 ≤ d) (hw : Way l w t s) (hr : ∀ x ∈ w, idx x < l.length ∧ d ≤ room l f x) (hn : (w.map idx).Nodup) :
    IsFlow l (aug d f w) s t ∧ net l (aug d f w) s = net l f s + d := by
  refine ⟨⟨by rw [aug_len]; exact h.len, aug_box hd h.len h.box hr hn, fun n h1 h2 => ?_⟩, ?_⟩
  · rw [net_aug n h.len hw, h.bal n h1 h2, if_neg (fun e => h1 e.symm), if_neg (fun e => h2 e.symm)]
    rfl
  · rw [net_aug s h.len hw, if_pos rfl, if_neg (fun e => hst e.symm)]
    omega
end Go.Proofs.Ytdemnbbofigcdaa
