/- The plain mathematics of opening hours: In, Next. -/
import Derived.WalkKit
namespace Go.Proofs.Ytlkindlbllbmgaa

abbrev Hr := Int × Int × Int
/-- Is the bit w of d set? -/
def onB (d w : Int) : Bool := decide (d / 2 ^ w.toNat % 2 = 1)
def openAt (l : List Hr) (w s : Int) : Prop := ∃ h, h ∈ l ∧ onB h.1 w = true ∧ h.2.1 ≤ s ∧ s < h.2.2
def inH (l : List Hr) (t : Int) : Prop := 0 ≤ t ∧ t ≤ 20000000 ∧ openAt l (t / 86400 % 7) (t % 86400)
noncomputable def inHB (l : List Hr) (t : Int) : Bool := @decide (inH l t) (Classical.propDecidable _)
theorem inHB_true {l : List Hr} {t : Int} (h : inH l t) : inHB l t = true := by unfold inHB; exact @decide_eq_true _ (Classical.propDecidable _) h
theorem inHB_false {l : List Hr} {t : Int} (h : ¬ inH l t) : inHB l t = false := by unfold inHB; exact @decide_eq_false _ (Classical.propDecidable _) h
theorem inHB_of {l : List Hr} {t : Int} (h : inHB l t = true) : inH l t := by unfold inHB at h; exact @of_decide_eq_true _ (Classical.propDecidable _) h
theorem inHB_not {l : List Hr} {t : Int} (h : inHB l t = false) : ¬ inH l t := by unfold inHB at h; exact @of_decide_eq_false _ (Classical.propDecidable _) h

def rightH (h : Hr) : Bool := decide (1 ≤ h.1 ∧ h.1 ≤ 127 ∧ 0 ≤ h.2.1 ∧ h.2.1 < h.2.2 ∧ h.2.2 ≤ 86400)
def rightB (l : List Hr) : Bool := decide (l.length ≤ 16) && l.all rightH

theorem openAt_nil (w s : Int) : ¬ openAt [] w s := fun ⟨_, h, _⟩ => absurd h List.not_mem_nil
theorem openAt_append {l m : List Hr} {w s : Int} : openAt (l ++ m) w s ↔ openAt l w s ∨ openAt m w s := by
  constructor
  · rintro ⟨h, hm, hr⟩
    rcases List.mem_append.1 hm with c | c
    · exact .inl ⟨h, c, hr⟩
    · exact .inr ⟨h, c, hr⟩
  · rintro (⟨h, hm, hr⟩ | ⟨h, hm, hr⟩)
    · exact ⟨h, List.mem_append_left _ hm, hr⟩
    · exact ⟨h, List.mem_append_right _ hm, hr⟩
theorem openAt_one {h : Hr} {w s : Int} : openAt [h] w s ↔ onB h.1 w = true ∧ h.2.1 ≤ s ∧ s < h.2.2 := by
  constructor
  · rintro ⟨g, hm, hr⟩
    rw [List.mem_singleton] at hm
    subst hm
    exact hr
  · exact fun hr => ⟨h, List.mem_singleton.2 rfl, hr⟩
theorem inH_append {l m : List Hr} {t : Int} : inH (l ++ m) t ↔ inH l t ∨ inH m t := by
  unfold inH
  rw [openAt_append]
  constructor
  · rintro ⟨a, b, c | c⟩
    · exact .inl ⟨a, b, c⟩
    · exact .inr ⟨a, b, c⟩
  · rintro (⟨a, b, c⟩ | ⟨a, b, c⟩)
    · exact ⟨a, b, .inl c⟩
    · exact ⟨a, b, .inr c⟩
theorem inH_nil (t : Int) : ¬ inH [] t := fun h => openAt_nil _ _ h.2.2
theorem inH_week {l : List Hr} {t : Int} (h0 : 0 ≤ t) (h1 : t + 604800 ≤ 20000000) : inH l t ↔ inH l (t + 604800) := by
  unfold inH
  rw [show (t + 604800) / 86400 % 7 = t / 86400 % 7 by omega, show (t + 604800) % 86400 = t % 86400 by omega]
  constructor
  · rintro ⟨a, b, c⟩
    exact ⟨by omega, by omega, c⟩
  · rintro ⟨a, b, c⟩
    exact ⟨by omega, by omega, c⟩

/-! ### Next -/
def nextOk (l : List Hr) (t u : Int) : Prop := t ≤ u ∧ inH l u ∧ ∀ v, t ≤ v → v < u → ¬ inH l v
def nextNo (l : List Hr) (t : Int) : Prop := ∀ v, t ≤ v → ¬ inH l v
noncomputable def nextU (l : List Hr) (t : Int) : Int := @dite _ (∃ u, nextOk l t u) (Classical.propDecidable _) (fun h => h.choose) (fun _ => 0)
noncomputable def nextB (l : List Hr) (t : Int) : Bool := @decide (∃ u, nextOk l t u) (Classical.propDecidable _)
theorem nextOk_unique {l : List Hr} {t u v : Int} (h : nextOk l t u) (k : nextOk l t v) : u = v := by
  rcases Int.lt_trichotomy u v with c | c | c
  · exact absurd h.2.1 (k.2.2 u h.1 c)
  · exact c
  · exact absurd k.2.1 (h.2.2 v k.1 c)
theorem next_yes {l : List Hr} {t u : Int} (h : nextOk l t u) : nextU l t = u ∧ nextB l t = true := by
  have he : ∃ u, nextOk l t u := ⟨u, h⟩
  refine ⟨?_, by unfold nextB; exact @decide_eq_true _ (Classical.propDecidable _) he⟩
  unfold nextU
  rw [dif_pos he]
  exact nextOk_unique he.choose_spec h
theorem next_not {l : List Hr} {t : Int} (h : nextNo l t) : nextU l t = 0 ∧ nextB l t = false := by
  have he : ¬ ∃ u, nextOk l t u := fun ⟨u, k⟩ => h u k.1 k.2.1
  exact ⟨by unfold nextU; rw [dif_neg he], by unfold nextB; exact @decide_eq_false _ (Classical.propDecidable _) he⟩
theorem nextOk_zero {l : List Hr} {t u : Int} (h : nextOk l (max t 0) u) : nextOk l t u :=
  ⟨by have := h.1; omega, h.2.1, fun v h1 h2 h3 => h.2.2 v (by have := h3.1; omega) h2 h3⟩
theorem nextNo_zero {l : List Hr} {t : Int} (h : nextNo l (max t 0)) : nextNo l t := fun v h1 h3 => h v (by have := h3.1; omega) h3
theorem nextNo_late {l : List Hr} {t : Int} (h : 20000000 < t) : nextNo l t := fun v h1 h3 => by have := h3.2.1; omega

/-- On the day d, from t on. -/
def dayOk (l : List Hr) (t d u : Int) : Prop := t ≤ u ∧ d * 86400 ≤ u ∧ u < d * 86400 + 86400 ∧ inH l u ∧ ∀ v, t ≤ v → d * 86400 ≤ v → v < u → ¬ inH l v
def dayNo (l : List Hr) (t d : Int) : Prop := ∀ v, t ≤ v → d * 86400 ≤ v → v < d * 86400 + 86400 → ¬ inH l v
/-- Nothing from t up to the day d. -/
def upTo (l : List Hr) (t d : Int) : Prop := ∀ v, t ≤ v → v < d * 86400 → ¬ inH l v
theorem upTo_start (l : List Hr) (t : Int) (_ : 0 ≤ t) : upTo l t (t / 86400) := fun v h1 h2 => by omega
theorem upTo_next {l : List Hr} {t d : Int} (h : upTo l t d) (k : dayNo l t d) : upTo l t (d + 1) := fun v h1 h2 => by
  rcases Int.lt_or_le v (d * 86400) with c | c
  · exact h v h1 c
  · exact k v h1 c (by omega)
theorem upTo_found {l : List Hr} {t d u : Int} (h : upTo l t d) (k : dayOk l t d u) : nextOk l t u := ⟨k.1, k.2.2.2.1, fun v h1 h2 => by
  rcases Int.lt_or_le v (d * 86400) with c | c
  · exact h v h1 c
  · exact k.2.2.2.2 v h1 c h2⟩
theorem week_down {l : List Hr} {a : Int} (ha : 0 ≤ a) (h : ∀ v, a ≤ v → v < a + 604800 → ¬ inH l v) : ∀ (n : Nat) (v : Int), a ≤ v → v < a + 604800 * (n + 1 : Nat) → ¬ inH l v
  | 0, v, h1, h2 => h v h1 (by omega)
  | n + 1, v, h1, h2 => fun h3 => by
    rcases Int.lt_or_le v (a + 604800) with c | c
    · exact h v h1 c h3
    · refine week_down ha h n (v - 604800) (by omega) (by omega) ?_
      have := h3.2.1
      rw [inH_week (by omega) (by omega), Int.sub_add_cancel]
      exact h3
theorem upTo_eight {l : List Hr} {t : Int} (ht : 0 ≤ t) (h : upTo l t (t / 86400 + 8)) : nextNo l t := fun v h1 h3 => by
  have hb := h3.2.1
  exact week_down (a := t) ht (fun w h4 h5 => h w h4 (by omega)) 40 v h1 (by omega) h3

section
variable {l : List Hr} {h : Hr} {t d u b : Int}
theorem dayNo_nil (t d : Int) : dayNo [] t d := fun v _ _ _ => inH_nil v
theorem dayNo_snoc (a : dayNo l t d) (k : dayNo [h] t d) : dayNo (l ++ [h]) t d := fun v h1 h2 h3 h4 => (inH_append.1 h4).elim (a v h1 h2 h3) (k v h1 h2 h3)
theorem dayOk_new (a : dayNo l t d) (k : dayOk [h] t d u) : dayOk (l ++ [h]) t d u :=
  ⟨k.1, k.2.1, k.2.2.1, inH_append.2 (.inr k.2.2.2.1), fun v h1 h2 h3 h4 => (inH_append.1 h4).elim (a v h1 h2 (by have := k.2.2.1; omega)) (k.2.2.2.2 v h1 h2 h3)⟩
theorem dayOk_keep (a : dayOk l t d b) (k : dayNo [h] t d) : dayOk (l ++ [h]) t d b :=
  ⟨a.1, a.2.1, a.2.2.1, inH_append.2 (.inl a.2.2.2.1), fun v h1 h2 h3 h4 => (inH_append.1 h4).elim (a.2.2.2.2 v h1 h2 h3) (k v h1 h2 (by have := a.2.2.1; omega))⟩
theorem dayOk_less (a : dayOk l t d b) (k : dayOk [h] t d u) (hlt : u < b) : dayOk (l ++ [h]) t d u :=
  ⟨k.1, k.2.1, k.2.2.1, inH_append.2 (.inr k.2.2.2.1), fun v h1 h2 h3 h4 => (inH_append.1 h4).elim (a.2.2.2.2 v h1 h2 (by omega)) (k.2.2.2.2 v h1 h2 h3)⟩
theorem dayOk_more (a : dayOk l t d b) (k : dayOk [h] t d u) (hlt : ¬ u < b) : dayOk (l ++ [h]) t d b :=
  ⟨a.1, a.2.1, a.2.2.1, inH_append.2 (.inl a.2.2.2.1), fun v h1 h2 h3 h4 => (inH_append.1 h4).elim (a.2.2.2.2 v h1 h2 h3) (k.2.2.2.2 v h1 h2 (by omega))⟩
theorem inH_day {v : Int} (h2 : d * 86400 ≤ v) (h3 : v < d * 86400 + 86400) : v / 86400 = d ∧ v % 86400 = v - d * 86400 := by omega
/-- The time at which one element opens on the day d, from t on. -/
theorem one_yes (_ : 0 ≤ d) (hu : u = max t (d * 86400 + max 0 (min h.2.1 86400))) (h1 : u < d * 86400 + 86400) (h2 : inH [h] u) : dayOk [h] t d u := by
  refine ⟨by omega, by omega, h1, h2, fun v a1 a2 a3 a4 => ?_⟩
  obtain ⟨_, _, a5⟩ := a4
  rw [openAt_one, (inH_day a2 (by omega)).2] at a5
  omega
theorem one_no (hd : 0 ≤ d) (hu : u = max t (d * 86400 + max 0 (min h.2.1 86400))) (h1 : u < d * 86400 + 86400) (h2 : ¬ inH [h] u) : dayNo [h] t d := fun v a1 a2 a3 a4 => by
  obtain ⟨b1, b2, b3⟩ := a4
  rw [openAt_one, (inH_day a2 a3).1, (inH_day a2 a3).2] at b3
  have hle : u ≤ v := by omega
  have hdu : d * 86400 ≤ u := by omega
  refine h2 ⟨by omega, by omega, ?_⟩
  rw [openAt_one, (inH_day hdu h1).1, (inH_day hdu h1).2]
  exact ⟨b3.1, by omega, by omega⟩
theorem one_late (hu : u = max t (d * 86400 + max 0 (min h.2.1 86400))) (h1 : ¬ u < d * 86400 + 86400) : dayNo [h] t d := fun v a1 a2 a3 a4 => by
  obtain ⟨b1, b2, b3⟩ := a4
  rw [openAt_one, (inH_day a2 a3).2] at b3
  omega
end

/-- What firstSecond finds. -/
structure FsOk (l : List Hr) (w least r : Int) : Prop where
  le : r ≤ 86400
  at_ : r < 86400 → least ≤ r ∧ 0 ≤ r ∧ openAt l w r
  none_ : ∀ s, least ≤ s → 0 ≤ s → s < r → ¬ openAt l w s
theorem FsOk.start (w least : Int) : FsOk [] w least 86400 := ⟨Int.le_refl _, fun h => by omega, fun s _ _ _ => openAt_nil w s⟩
theorem FsOk.shut {l : List Hr} {h : Hr} {w least r : Int} (k : FsOk l w least r) (hn : ∀ s, least ≤ s → 0 ≤ s → s < r → ¬ openAt [h] w s) : FsOk (l ++ [h]) w least r :=
  ⟨k.le, fun a => ⟨(k.at_ a).1, (k.at_ a).2.1, openAt_append.2 (.inl (k.at_ a).2.2)⟩, fun s a b c e => (openAt_append.1 e).elim (k.none_ s a b c) (hn s a b c)⟩
theorem FsOk.off {l : List Hr} {h : Hr} {w least r : Int} (k : FsOk l w least r) (hb : onB h.1 w = false) : FsOk (l ++ [h]) w least r :=
  k.shut fun s _ _ _ e => by rw [openAt_one, hb] at e; exact absurd e.1 (by decide)
theorem FsOk.late {l : List Hr} {h : Hr} {w least r x : Int} (k : FsOk l w least r) (hx : x = max (max h.2.1 least) 0) (hb : ¬ x < h.2.2) : FsOk (l ++ [h]) w least r :=
  k.shut fun s _ _ _ e => by rw [openAt_one] at e; omega
theorem FsOk.opens {l : List Hr} {h : Hr} {w least r x : Int} (k : FsOk l w least r) (hx : x = max (max h.2.1 least) 0) (ho : onB h.1 w = true) (hb : x < h.2.2) : FsOk (l ++ [h]) w least (min r x) := by
  have hm : min r x ≤ r ∧ min r x ≤ x ∧ (min r x = r ∨ min r x = x) := by omega
  refine ⟨by have := k.le; omega, fun a => ?_, fun s a b c e => ?_⟩
  · rcases hm.2.2 with e | e
    · rw [e] at a ⊢
      exact ⟨(k.at_ a).1, (k.at_ a).2.1, openAt_append.2 (.inl (k.at_ a).2.2)⟩
    · rw [e] at a ⊢
      exact ⟨by omega, by omega, openAt_append.2 (.inr (openAt_one.2 ⟨ho, by omega, hb⟩))⟩
  · rcases openAt_append.1 e with e | e
    · exact k.none_ s a b (by omega) e
    · rw [openAt_one] at e; omega
theorem FsOk.day_yes {l : List Hr} {t d r : Int} (k : FsOk l (d % 7) (t - d * 86400) r) (hd : 0 ≤ d) (h1 : r < 86400) (h2 : d * 86400 + r ≤ 20000000) : dayOk l t d (d * 86400 + r) := by
  obtain ⟨k1, k2, k3⟩ := k.at_ h1
  have e := inH_day (d := d) (v := d * 86400 + r) (by omega) (by omega)
  refine ⟨by omega, by omega, by omega, ⟨by omega, h2, ?_⟩, fun v a1 a2 a3 a4 => ?_⟩
  · rw [e.1, e.2, show d * 86400 + r - d * 86400 = r by omega]; exact k3
  · obtain ⟨_, _, a5⟩ := a4
    rw [(inH_day a2 (by omega)).1, (inH_day a2 (by omega)).2] at a5
    exact k.none_ _ (by omega) (by omega) (by omega) a5
theorem FsOk.day_no {l : List Hr} {t d r : Int} (k : FsOk l (d % 7) (t - d * 86400) r) (h1 : ¬ r < 86400 ∨ 20000000 < d * 86400 + r) : dayNo l t d := fun v a1 a2 a3 a4 => by
  obtain ⟨b1, b2, a5⟩ := a4
  have := k.le
  rw [(inH_day a2 a3).1, (inH_day a2 a3).2] at a5
  exact k.none_ _ (by omega) (by omega) (by omega) a5
end Go.Proofs.Ytlkindlbllbmgaa
