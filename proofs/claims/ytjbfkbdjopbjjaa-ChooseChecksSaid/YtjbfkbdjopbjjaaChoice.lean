/- Choices of items: sums, the order of choices, the best one, its consequences, the scan of all choices. Plain mathematics. -/
import Derived.WalkKit
namespace Go.Proofs.Ytjbfkbdjopbjjaa

structure It where
  a : Int
  b : Int
  v : Int
deriving DecidableEq
/-! ### Sums over a choice -/
def iA (l : List It) (k : Nat) : Int := (l[k]?.map It.a).getD 0
def iB (l : List It) (k : Nat) : Int := (l[k]?.map It.b).getD 0
def iV (l : List It) (k : Nat) : Int := (l[k]?.map It.v).getD 0
def sK (g : Nat → Int) : List Int → Int
  | [] => 0
  | x :: c => g x.toNat + sK g c
theorem sK_append (g : Nat → Int) : ∀ c d : List Int, sK g (c ++ d) = sK g c + sK g d
  | [], d => by rw [List.nil_append, sK, Int.zero_add]
  | x :: c, d => by rw [List.cons_append, sK, sK, sK_append g c d]; omega
theorem sK_take (g : Nat → Int) {c : List Int} {i : Nat} (h : i < c.length) : sK g (c.take (i + 1)) = sK g (c.take i) + g (c[i]).toNat := by
  rw [List.take_succ_eq_append_getElem h, sK_append, sK, sK, Int.add_zero]
theorem sK_congr {g h : Nat → Int} : ∀ {c : List Int}, (∀ x ∈ c, g x.toNat = h x.toNat) → sK g c = sK h c
  | [], _ => rfl
  | x :: c, hx => by rw [sK, sK, hx x (List.mem_cons_self ..), sK_congr (fun y hy => hx y (List.mem_cons_of_mem _ hy))]
theorem sK_bounds {g : Nat → Int} {m : Int} : ∀ {c : List Int}, (∀ x ∈ c, 0 ≤ g x.toNat ∧ g x.toNat ≤ m) → 0 ≤ sK g c ∧ sK g c ≤ c.length * m
  | [], _ => by rw [sK]; simp
  | x :: c, hx => by
    obtain ⟨h1, h2⟩ := hx x (List.mem_cons_self ..)
    obtain ⟨k1, k2⟩ := sK_bounds (g := g) (m := m) (c := c) (fun y hy => hx y (List.mem_cons_of_mem _ hy))
    rw [sK, List.length_cons]
    refine ⟨by omega, ?_⟩
    have : ((c.length + 1 : Nat) : Int) * m = c.length * m + m := by rw [Int.natCast_add, Int.add_mul]; simp
    rw [this]
    omega
theorem sK_map {g h : Nat → Int} {s : Int → Int} : ∀ {c : List Int}, (∀ x ∈ c, h (s x).toNat = g x.toNat) → sK h (c.map s) = sK g c
  | [], _ => rfl
  | x :: c, hx => by rw [List.map_cons, sK, sK, hx x (List.mem_cons_self ..), sK_map (fun y hy => hx y (List.mem_cons_of_mem _ hy))]
/-! ### Choices -/
def Ch (n : Nat) (c : List Int) : Prop := c.Pairwise (· < ·) ∧ ∀ x ∈ c, 0 ≤ x ∧ x < (n : Int)
theorem ch_nil (n : Nat) : Ch n [] := ⟨.nil, fun x h => by cases h⟩
theorem inc_len : ∀ {c : List Int} {lo hi : Int}, c.Pairwise (· < ·) → (∀ x ∈ c, lo ≤ x ∧ x < hi) → lo ≤ hi → (c.length : Int) ≤ hi - lo
  | [], _, _, _, _, h => by simp; omega
  | x :: c, lo, hi, hp, hb, _ => by
    rw [List.pairwise_cons] at hp
    obtain ⟨b1, b2⟩ := hb x (List.mem_cons_self ..)
    have := inc_len (c := c) (lo := x + 1) (hi := hi) hp.2 (fun y hy => ⟨hp.1 y hy, (hb y (List.mem_cons_of_mem _ hy)).2⟩) (by omega)
    rw [List.length_cons]
    omega
theorem ch_len {n : Nat} {c : List Int} (h : Ch n c) : c.length ≤ n := by
  have := inc_len h.1 h.2 (by omega)
  omega
theorem ch_more {n m : Nat} {c : List Int} (h : Ch n c) (hm : n ≤ m) : Ch m c := ⟨h.1, fun x hx => by have := h.2 x hx; omega⟩
theorem ch_take {n : Nat} {c : List Int} (h : Ch n c) (i : Nat) : Ch n (c.take i) := ⟨h.1.sublist (List.take_sublist ..), fun x hx => h.2 x (List.mem_of_mem_take hx)⟩
theorem ch_next {n i : Nat} {c : List Int} (h : Ch n (c.take i)) (hi : i < c.length) (h0 : 0 ≤ c[i]) (h1 : c[i] < (n : Int)) (hp : ∀ h : 0 < i, c[i - 1] < c[i]) : Ch n (c.take (i + 1)) := by
  rw [List.take_succ_eq_append_getElem hi]
  refine ⟨List.pairwise_append.2 ⟨h.1, by simp, fun x hx y hy => ?_⟩, fun x hx => ?_⟩
  · rw [List.mem_singleton] at hy
    subst hy
    obtain ⟨j, hj, rfl⟩ := List.getElem_of_mem hx
    rw [List.length_take] at hj
    rw [List.getElem_take]
    have hp := hp (by omega)
    by_cases hji : j = i - 1
    · subst hji; exact hp
    · have h2 := (List.pairwise_iff_getElem.1 h.1) j (i - 1) (by rw [List.length_take]; omega) (by rw [List.length_take]; omega) (by omega)
      rw [List.getElem_take, List.getElem_take] at h2
      omega
  · rcases List.mem_append.1 hx with hx | hx
    · exact h.2 x hx
    · rw [List.mem_singleton] at hx
      subst hx
      exact ⟨h0, h1⟩
theorem ch_bad {n i : Nat} {c : List Int} (hi : i < c.length) (h : c[i] < 0 ∨ (n : Int) ≤ c[i] ∨ ∃ _ : 0 < i, c[i] ≤ c[i - 1]) : ¬ Ch n c := fun hc => by
  have h1 := hc.2 _ (List.getElem_mem hi)
  rcases h with h | h | ⟨h0, h⟩
  · omega
  · omega
  · have := (List.pairwise_iff_getElem.1 hc.1) (i - 1) i (by omega) hi (by omega)
    omega
/-! ### The order of choices -/
def lessL : List Int → List Int → Bool
  | [], [] => false
  | [], _ :: _ => true
  | _ :: _, [] => false
  | x :: a, y :: b => if x = y then lessL a b else decide (x < y)
theorem less_self : ∀ a : List Int, lessL a a = false
  | [] => rfl
  | x :: a => by rw [lessL, if_pos rfl]; exact less_self a
theorem less_nil (a : List Int) : lessL a [] = false := by cases a <;> rfl
theorem less_tri : ∀ {a b : List Int}, lessL a b = false → lessL b a = false → a = b
  | [], [], _, _ => rfl
  | [], _ :: _, h, _ => by cases h
  | _ :: _, [], _, h => by cases h
  | x :: a, y :: b, h, k => by
    rw [lessL] at h k
    by_cases hxy : x = y
    · rw [if_pos hxy] at h
      rw [if_pos hxy.symm] at k
      rw [hxy, less_tri h k]
    · rw [if_neg hxy, decide_eq_false_iff_not] at h
      rw [if_neg (fun e => hxy e.symm), decide_eq_false_iff_not] at k
      omega
theorem less_asymm : ∀ {a b : List Int}, lessL a b = true → lessL b a = false
  | [], [], h => by cases h
  | [], _ :: _, _ => rfl
  | _ :: _, [], h => by cases h
  | x :: a, y :: b, h => by
    rw [lessL] at h ⊢
    by_cases hxy : x = y
    · rw [if_pos hxy] at h
      rw [if_pos hxy.symm]
      exact less_asymm h
    · rw [if_neg hxy, decide_eq_true_iff] at h
      rw [if_neg (fun e => hxy e.symm), decide_eq_false_iff_not]
      omega
theorem less_trans : ∀ {a b c : List Int}, lessL a b = true → lessL b c = true → lessL a c = true
  | _, [], [], _, k => by cases k
  | _ :: _, [], _ :: _, h, _ => by cases h
  | [], _ :: _, [], _, k => by cases k
  | [], _, _ :: _, _, _ => rfl
  | _ :: _, _ :: _, [], _, k => by cases k
  | x :: a, y :: b, z :: c, h, k => by
    rw [lessL] at h k ⊢
    by_cases hxy : x = y
    · rw [if_pos hxy] at h
      by_cases hyz : y = z
      · rw [if_pos hyz] at k
        rw [if_pos (hxy.trans hyz)]
        exact less_trans h k
      · rw [if_neg hyz] at k
        rw [if_neg (fun e => hyz (hxy.symm.trans e)), hxy]
        exact k
    · rw [if_neg hxy, decide_eq_true_iff] at h
      by_cases hyz : y = z
      · rw [if_neg (fun e => hxy (e.trans hyz.symm)), decide_eq_true_iff]
        omega
      · rw [if_neg hyz, decide_eq_true_iff] at k
        rw [if_neg (by omega), decide_eq_true_iff]
        omega
/-- Where b does not come before a, and a before c, b does not come … : the least one stays the least. -/
theorem less_keep {a b c : List Int} (h : lessL b a = false) (k : lessL c a = true) : lessL b c = false := by
  cases h2 : lessL b c with
  | false => rfl
  | true => rw [less_trans h2 k] at h; cases h
theorem less_map {s : Int → Int} (hs : ∀ x y : Int, x < y → s x < s y) : ∀ a b : List Int, lessL (a.map s) (b.map s) = lessL a b
  | [], [] => rfl
  | [], _ :: _ => rfl
  | _ :: _, [] => rfl
  | x :: a, y :: b => by
    rw [List.map_cons, List.map_cons, lessL, lessL, less_map hs a b]
    by_cases hxy : x = y
    · rw [if_pos hxy, if_pos (by rw [hxy])]
    · rcases Int.lt_or_lt_of_ne hxy with h | h
      · have := hs x y h
        rw [if_neg hxy, if_neg (by omega), decide_eq_true h, decide_eq_true this]
      · have := hs y x h
        rw [if_neg hxy, if_neg (by omega), decide_eq_false (by omega), decide_eq_false (by omega)]
theorem less_drop {a b : List Int} : ∀ {i : Nat}, a.take i = b.take i → i ≤ a.length → i ≤ b.length → lessL (a.drop i) (b.drop i) = lessL a b
  | 0, _, _, _ => rfl
  | i + 1, h, ha, hb => by
    match a, b, h, ha, hb with
    | x :: a, y :: b, h, ha, hb =>
      rw [List.take_succ_cons, List.take_succ_cons, List.cons.injEq] at h
      rw [List.drop_succ_cons, List.drop_succ_cons, lessL, if_pos h.1]
      exact less_drop h.2 (by simpa using ha) (by simpa using hb)
    | [], _, _, ha, _ => simp at ha
    | _ :: _, [], _, _, hb => simp at hb
/-- At the first difference. -/
theorem less_at {a b : List Int} {i : Nat} (h : a.take i = b.take i) (ha : i < a.length) (hb : i < b.length) (hne : a[i] ≠ b[i]) : lessL a b = decide (a[i] < b[i]) := by
  rw [← less_drop h (by omega) (by omega), List.drop_eq_getElem_cons ha, List.drop_eq_getElem_cons hb, lessL, if_neg hne]
/-- Where one of the lists ends and no difference was met. -/
theorem less_end {a b : List Int} {i : Nat} (h : a.take i = b.take i) (ha : i ≤ a.length) (hb : i ≤ b.length) (he : i = a.length ∨ i = b.length) : lessL a b = decide (a.length < b.length) := by
  rw [← less_drop h ha hb]
  by_cases hai : i = a.length
  · rw [hai, List.drop_length]
    by_cases hl : a.length < b.length
    · rw [List.drop_eq_getElem_cons hl, decide_eq_true hl]; rfl
    · rw [List.drop_eq_nil_of_le (by omega), decide_eq_false hl]; rfl
  · have hbi : i = b.length := he.resolve_left hai
    rw [hbi, List.drop_length, less_nil, decide_eq_false (by omega)]
/-! ### The best choice -/
def Rt (l : List It) : Prop := l.length ≤ 12 ∧ ∀ e ∈ l, (0 ≤ e.a ∧ e.a ≤ 1000000000) ∧ (0 ≤ e.b ∧ e.b ≤ 1000000000) ∧ (0 ≤ e.v ∧ e.v ≤ 1000000000)
theorem rt_at {l : List It} (h : Rt l) (k : Nat) : (0 ≤ iA l k ∧ iA l k ≤ 1000000000) ∧ (0 ≤ iB l k ∧ iB l k ≤ 1000000000) ∧ (0 ≤ iV l k ∧ iV l k ≤ 1000000000) := by
  unfold iA iB iV
  by_cases hk : k < l.length
  · rw [List.getElem?_eq_getElem hk]
    exact h.2 _ (List.getElem_mem hk)
  · rw [List.getElem?_eq_none (by omega)]
    simp
def Fit (l : List It) (c : List Int) (a b : Int) : Prop := Ch l.length c ∧ sK (iA l) c ≤ a ∧ sK (iB l) c ≤ b
theorem fit_bounds {l : List It} (h : Rt l) {c : List Int} (hc : Ch l.length c) : (0 ≤ sK (iA l) c ∧ sK (iA l) c ≤ 12000000000) ∧ (0 ≤ sK (iB l) c ∧ sK (iB l) c ≤ 12000000000) ∧ (0 ≤ sK (iV l) c ∧ sK (iV l) c ≤ 12000000000) := by
  have hl := ch_len hc
  have h12 := h.1
  have k1 := sK_bounds (g := iA l) (m := 1000000000) (c := c) (fun x _ => (rt_at h x.toNat).1)
  have k2 := sK_bounds (g := iB l) (m := 1000000000) (c := c) (fun x _ => (rt_at h x.toNat).2.1)
  have k3 := sK_bounds (g := iV l) (m := 1000000000) (c := c) (fun x _ => (rt_at h x.toNat).2.2)
  omega
theorem fit_nil {l : List It} {a b : Int} : Fit l [] a b ↔ 0 ≤ a ∧ 0 ≤ b := ⟨fun h => h.2, fun h => ⟨ch_nil _, h⟩⟩
theorem fit_some {l : List It} (h : Rt l) {c : List Int} {a b : Int} (hc : Fit l c a b) : 0 ≤ a ∧ 0 ≤ b := by
  have := fit_bounds h hc.1
  have := hc.2
  omega
structure Bst (l : List It) (a b : Int) (x : List Int) : Prop where
  nil' : (∀ c, ¬ Fit l c a b) → x = []
  fit : (∃ c, Fit l c a b) → Fit l x a b
  top : ∀ c, Fit l c a b → sK (iV l) c ≤ sK (iV l) x ∧ (sK (iV l) c = sK (iV l) x → lessL c x = false)
theorem Bst.unique {l : List It} {a b : Int} {x y : List Int} (hx : Bst l a b x) (hy : Bst l a b y) : x = y := by
  by_cases h : ∃ c, Fit l c a b
  · have fx := hx.fit h
    have fy := hy.fit h
    obtain ⟨h1, h2⟩ := hx.top y fy
    obtain ⟨h3, h4⟩ := hy.top x fx
    have e : sK (iV l) x = sK (iV l) y := by omega
    exact less_tri (h4 e) (h2 e.symm)
  · have h' : ∀ c, ¬ Fit l c a b := fun c hc => h ⟨c, hc⟩
    rw [hx.nil' h', hy.nil' h']
theorem Bst.ch {l : List It} {a b : Int} {x : List Int} (h : Bst l a b x) : Ch l.length x := by
  by_cases hf : ∃ c, Fit l c a b
  · exact (h.fit hf).1
  · rw [h.nil' (fun c hc => hf ⟨c, hc⟩)]; exact ch_nil _
theorem Bst.fits_iff {l : List It} (hr : Rt l) {a b : Int} {x : List Int} (h : Bst l a b x) : Fit l x a b ↔ 0 ≤ a ∧ 0 ≤ b :=
  ⟨fun k => fit_some hr k, fun k => h.fit ⟨[], fit_nil.2 k⟩⟩
/-! ### Consequences -/
theorem Bst.limits {l : List It} (hr : Rt l) {a b a' b' : Int} {x y : List Int} (hx : Bst l a b x) (hy : Bst l a' b' y) (ha : a ≤ a') (hb : b ≤ b') : sK (iV l) x ≤ sK (iV l) y := by
  by_cases h : ∃ c, Fit l c a b
  · have fx := hx.fit h
    exact (hy.top x ⟨fx.1, by have := fx.2; omega⟩).1
  · rw [hx.nil' (fun c hc => h ⟨c, hc⟩)]
    exact (fit_bounds hr hy.ch).2.2.1
theorem iA_more {l : List It} {e : It} {k : Nat} (hk : k < l.length) : iA (l ++ [e]) k = iA l k ∧ iB (l ++ [e]) k = iB l k ∧ iV (l ++ [e]) k = iV l k := by
  unfold iA iB iV
  rw [List.getElem?_append_left hk]
  exact ⟨rfl, rfl, rfl⟩
theorem iA_last {l : List It} {e : It} : iA (l ++ [e]) l.length = e.a ∧ iB (l ++ [e]) l.length = e.b ∧ iV (l ++ [e]) l.length = e.v := by
  unfold iA iB iV
  simp
theorem sums_more {l : List It} {e : It} {c : List Int} (h : Ch l.length c) : sK (iA (l ++ [e])) c = sK (iA l) c ∧ sK (iB (l ++ [e])) c = sK (iB l) c ∧ sK (iV (l ++ [e])) c = sK (iV l) c :=
  ⟨sK_congr fun x hx => (iA_more (by have := h.2 x hx; omega)).1, sK_congr fun x hx => (iA_more (by have := h.2 x hx; omega)).2.1, sK_congr fun x hx => (iA_more (by have := h.2 x hx; omega)).2.2⟩
/-- A choice of one item more: without the last one, or with it at its end. -/
theorem ch_last {n : Nat} {c : List Int} (h : Ch (n + 1) c) : Ch n c ∨ ∃ d, Ch n d ∧ c = d ++ [(n : Int)] := by
  rcases List.eq_nil_or_concat c with rfl | ⟨d, y, rfl⟩
  · exact .inl (ch_nil _)
  · rw [List.concat_eq_append] at h ⊢
    have hp := List.pairwise_append.1 h.1
    have hy := h.2 y (by simp)
    have hd : ∀ x ∈ d, x < y := fun x hx => hp.2.2 x hx y (by simp)
    by_cases he : y = n
    · subst he
      exact .inr ⟨d, ⟨hp.1, fun x hx => ⟨(h.2 x (by simp [hx])).1, hd x hx⟩⟩, rfl⟩
    · refine .inl ⟨h.1, fun x hx => ?_⟩
      have hx0 := h.2 x hx
      rcases List.mem_append.1 hx with hx | hx
      · have := hd x hx; omega
      · rw [List.mem_singleton] at hx; omega
theorem Bst.adds {l : List It} {e : It} (hr : Rt (l ++ [e])) {a b : Int} {x y : List Int} (hx : Bst l a b x) (hy : Bst (l ++ [e]) a b y) : sK (iV l) x ≤ sK (iV (l ++ [e])) y ∧ sK (iV (l ++ [e])) y ≤ sK (iV l) x + e.v := by
  have hln : (l ++ [e]).length = l.length + 1 := by simp
  have hrl : Rt l := ⟨by have := hr.1; omega, fun z hz => hr.2 z (by simp [hz])⟩
  have hev := (hr.2 e (by simp))
  by_cases h : 0 ≤ a ∧ 0 ≤ b
  · have fx := (hx.fits_iff hrl).2 h
    have fy := (hy.fits_iff hr).2 h
    obtain ⟨s1, s2, s3⟩ := sums_more (e := e) fx.1
    refine ⟨?_, ?_⟩
    · have := (hy.top x ⟨by rw [hln]; exact ch_more fx.1 (by omega), by rw [s1]; exact fx.2.1, by rw [s2]; exact fx.2.2⟩).1
      rw [s3] at this
      exact this
    · obtain ⟨fc, fa, fb⟩ := fy
      rw [hln] at fc
      rcases ch_last fc with hc | ⟨d, hd, rfl⟩
      · obtain ⟨t1, t2, t3⟩ := sums_more (e := e) hc
        have := (hx.top y ⟨hc, by rw [← t1]; exact fa, by rw [← t2]; exact fb⟩).1
        rw [t3]
        omega
      · obtain ⟨t1, t2, t3⟩ := sums_more (e := e) hd
        obtain ⟨u1, u2, u3⟩ := iA_last (l := l) (e := e)
        rw [sK_append, sK, sK, Int.toNat_natCast, t1, u1] at fa
        rw [sK_append, sK, sK, Int.toNat_natCast, t2, u2] at fb
        rw [sK_append, sK, sK, Int.toNat_natCast, t3, u3]
        have := (hx.top d ⟨hd, by omega, by omega⟩).1
        omega
  · have hn : ∀ c, ¬ Fit l c a b := fun c hc => h (fit_some hrl hc)
    have hn2 : ∀ c, ¬ Fit (l ++ [e]) c a b := fun c hc => h (fit_some hr hc)
    rw [hx.nil' hn, hy.nil' hn2]
    simp only [sK]
    omega
end Go.Proofs.Ytjbfkbdjopbjjaa
