/- The best choice of the items from an index on; the choices in their order. Plain mathematics. -/
import Derived.Test.YtjbfkbdjopbjjaaScan
namespace Go.Proofs.Ytjbfkbdjopbjjaa

/-- A choice of the items from index f on that fits. -/
def FitF (l : List It) (f : Nat) (c : List Int) (a b : Int) : Prop := Ch l.length c ∧ (∀ y ∈ c, (f : Int) ≤ y) ∧ sK (iA l) c ≤ a ∧ sK (iB l) c ≤ b
/-- The best one among those that begin below index i. -/
structure Mid (l : List It) (f i : Nat) (a b : Int) (x : List Int) (m : Int) : Prop where
  val : m = sK (iV l) x
  ch : Ch l.length x
  low : ∀ y ∈ x, (f : Int) ≤ y
  fit : x = [] ∨ (sK (iA l) x ≤ a ∧ sK (iB l) x ≤ b)
  hd : ∀ y x', x = y :: x' → y < (i : Int)
  top : ∀ c, FitF l f c a b → (∀ y c', c = y :: c' → y < (i : Int)) → sK (iV l) c ≤ m ∧ (sK (iV l) c = m → lessL c x = false)
section
variable {l : List It} {f i : Nat} {a b m : Int} {x : List Int}
theorem mid_start (l : List It) (f : Nat) (a b : Int) : Mid l f f a b [] 0 := by
  refine ⟨rfl, ch_nil _, fun y h => (by cases h), .inl rfl, fun y x' h => (by cases h), fun c hc hh => ?_⟩
  cases c with
  | nil => exact ⟨Int.le_refl _, fun _ => rfl⟩
  | cons y c' =>
    have := hh y c' rfl
    have := hc.2.1 y (List.mem_cons_self ..)
    omega
theorem fitF_tail {y : Int} {c : List Int} (h : FitF l f (y :: c) a b) (hi : y = (i : Int)) : FitF l (i + 1) c (a - iA l i) (b - iB l i) := by
  subst hi
  obtain ⟨⟨h1, h2⟩, h3, h4, h5⟩ := h
  rw [sK, Int.toNat_natCast] at h4 h5
  rw [List.pairwise_cons] at h1
  exact ⟨⟨h1.2, fun x hx => h2 x (List.mem_cons_of_mem _ hx)⟩, fun x hx => by have := h1.1 x hx; omega, by omega, by omega⟩
theorem Mid.bd (h : Mid l f i a b x m) (hr : Rt l) : (0 ≤ m ∧ m ≤ 12000000000) ∧ x.length ≤ 12 := by
  have h1 := (fit_bounds hr h.ch).2.2
  rw [← h.val] at h1
  have := ch_len h.ch
  have := hr.1
  exact ⟨h1, by omega⟩
/-- A choice that begins with i, or one that begins below it. -/
theorem Mid.more {z : Int} {x' : List Int} (h : Mid l f i a b x m) (hv : z = sK (iV l) x') (hc : Ch l.length x') (hl : ∀ y ∈ x', (f : Int) ≤ y) (hf : x' = [] ∨ (sK (iA l) x' ≤ a ∧ sK (iB l) x' ≤ b)) (hh : ∀ y t, x' = y :: t → y < (i : Int) + 1)
    (hold : ∀ c, sK (iV l) c ≤ m ∧ (sK (iV l) c = m → lessL c x = false) → sK (iV l) c ≤ z ∧ (sK (iV l) c = z → lessL c x' = false))
    (hnew : ∀ c, FitF l (i + 1) c (a - iA l i) (b - iB l i) → iV l i + sK (iV l) c ≤ z ∧ (iV l i + sK (iV l) c = z → lessL ((i : Int) :: c) x' = false)) : Mid l f (i + 1) a b x' z := by
  refine ⟨hv, hc, hl, hf, fun y t e => by have := hh y t e; omega, fun c hcf hhd => ?_⟩
  cases c with
  | nil => exact hold _ (h.top _ hcf (fun y c' e => by cases e))
  | cons y c' =>
    have hy := hhd y c' rfl
    by_cases hyi : y = (i : Int)
    · have k := hnew c' (fitF_tail hcf hyi)
      subst hyi
      rw [sK, Int.toNat_natCast]
      exact k
    · exact hold _ (h.top _ hcf (fun y' c'' e => by injection e with e _; omega))
theorem Mid.skip (h : Mid l f i a b x m) (hr : Rt l) (hs : a < iA l i ∨ b < iB l i) : Mid l f (i + 1) a b x m := by
  refine h.more h.val h.ch h.low h.fit (fun y t e => by have := h.hd y t e; omega) (fun c k => k) (fun c hc => ?_)
  have := fit_bounds hr hc.1
  have := hc.2.2
  omega
theorem Mid.keep {r : List Int} {mr : Int} (h : Mid l f i a b x m) (h2 : Mid l (i + 1) l.length (a - iA l i) (b - iB l i) r mr) (hk : mr + iV l i ≤ m) : Mid l f (i + 1) a b x m := by
  refine h.more h.val h.ch h.low h.fit (fun y t e => by have := h.hd y t e; omega) (fun c k => k) (fun c hc => ?_)
  have k := (h2.top c hc (fun y c' e => hc.1.2 y (by rw [e]; exact List.mem_cons_self ..) |>.2)).1
  refine ⟨by omega, fun e => ?_⟩
  cases x with
  | nil => rfl
  | cons y x' =>
    have := h.hd y x' rfl
    rw [lessL, if_neg (by omega), decide_eq_false (by omega)]
theorem Mid.take {r : List Int} {mr : Int} (h : Mid l f i a b x m) (h2 : Mid l (i + 1) l.length (a - iA l i) (b - iB l i) r mr) (ha : iA l i ≤ a) (hb : iB l i ≤ b) (hf : f ≤ i) (hi : i < l.length) (hk : m < mr + iV l i) : Mid l f (i + 1) a b ((i : Int) :: r) (mr + iV l i) := by
  have hs : ∀ g : Nat → Int, sK g ((i : Int) :: r) = g i + sK g r := fun g => by rw [sK, Int.toNat_natCast]
  refine h.more (by rw [hs, ← h2.val]; omega) ⟨List.pairwise_cons.2 ⟨fun y hy => by have := h2.low y hy; omega, h2.ch.1⟩, fun y hy => ?_⟩ (fun y hy => ?_) (.inr ?_) (fun y t e => by injection e with e _; omega) (fun c k => ⟨by omega, fun e => by omega⟩) (fun c hc => ?_)
  · rcases List.mem_cons.1 hy with rfl | hy
    · omega
    · exact h2.ch.2 y hy
  · rcases List.mem_cons.1 hy with rfl | hy
    · omega
    · have := h2.low y hy; omega
  · rw [hs, hs]
    rcases h2.fit with rfl | ⟨k1, k2⟩
    · rw [sK, sK]; omega
    · omega
  · have k := h2.top c hc (fun y c' e => hc.1.2 y (by rw [e]; exact List.mem_cons_self ..) |>.2)
    refine ⟨by omega, fun e => ?_⟩
    rw [lessL, if_pos rfl]
    exact k.2 (by omega)
theorem Mid.bst (h : Mid l 0 l.length a b x m) (hr : Rt l) : Bst l a b x := by
  refine ⟨fun hn => ?_, fun ⟨c, hc⟩ => ?_, fun c hc => ?_⟩
  · rcases h.fit with e | k
    · exact e
    · exact absurd ⟨h.ch, k⟩ (hn x)
  · rcases h.fit with e | k
    · rw [e]; exact fit_nil.2 (fit_some hr hc)
    · exact ⟨h.ch, k⟩
  · rw [← h.val]
    exact h.top c ⟨hc.1, fun y hy => by have := hc.1.2 y hy; omega, hc.2⟩ (fun y c' e => (hc.1.2 y (by rw [e]; exact List.mem_cons_self ..)).2)
end
end Go.Proofs.Ytjbfkbdjopbjjaa
