/- The mathematics of the package's trails. -/
import Derived.Test.YtlaklfiodmnocaaBinT
import Derived.Test.YtlaklfiodmnocaaRefShort
import Derived.Test.YtlaklfiodmnocaaMapV
namespace Go.Proofs.Ytlaklfiodmnocaa

def posK (l : List Ed) (k : Nat) (y : Int) : List Int := ((List.range k).filter (fun p => decide (eT l p = y))).map Int.ofNat
theorem posK_step (l : List Ed) (k : Nat) : (fun y => if y = eT l k then posK l k (eT l k) ++ [(k : Int)] else posK l k y) = posK l (k + 1) := by
  funext y
  unfold posK
  rw [List.range_succ, List.filter_append, List.map_append]
  by_cases h : y = eT l k
  · subst h
    simp
  · have h2 : ¬ eT l k = y := fun e => h e.symm
    simp [h, h2]
theorem mem_posK {l : List Ed} {k : Nat} {y i : Int} : i ∈ posK l k y ↔ ∃ p, p < k ∧ eT l p = y ∧ i = (p : Int) := by
  unfold posK
  simp only [List.mem_map, List.mem_filter, List.mem_range, decide_eq_true_eq]
  constructor
  · rintro ⟨p, ⟨h1, h2⟩, h3⟩
    exact ⟨p, h1, h2, h3.symm⟩
  · rintro ⟨p, h1, h2, h3⟩
    exact ⟨p, ⟨h1, h2⟩, h3.symm⟩
theorem posK_len (l : List Ed) (k : Nat) (y : Int) : (posK l k y).length ≤ k := by
  unfold posK
  rw [List.length_map]
  have := List.length_filter_le (fun p => decide (eT l p = y)) (List.range k)
  rw [List.length_range] at this
  exact this
abbrev TM := Int → Option Tr
def updT (m : TM) (y : Int) (T : Tr) : TM := fun x => if x = y then some T else m x
def tv (m : TM) : Int → Option Value := fun x => (m x).map trV
theorem tv_upd (m : TM) (y : Int) (T : Tr) : upd (tv m) y (trV T) = tv (updT m y T) := by
  funext x
  unfold upd tv updT
  by_cases h : x = y
  · rw [if_pos h, if_pos h]; rfl
  · rw [if_neg h, if_neg h]
theorem tv_none : (fun _ => none) = tv (fun _ => none) := rfl
def nu (l : List Ed) (m : TM) : Nat := ((List.range l.length).filter (fun p => (m (eT l p)).isNone)).length
theorem filter_three (xs : List Nat) (P Q R : Nat → Bool) (h : ∀ x, R x = (P x || Q x)) (hd : ∀ x, (P x && Q x) = false) : (xs.filter P).length + (xs.filter Q).length = (xs.filter R).length := by
  induction xs with
  | nil => rfl
  | cons x xs ih =>
    have h1 := h x
    have h2 := hd x
    rw [List.filter_cons, List.filter_cons, List.filter_cons, h1]
    cases hp : P x <;> cases hq : Q x <;> simp_all <;> omega
theorem nu_new {l : List Ed} {m : TM} {T : Tr} (h : m T.node = none) : (posK l l.length T.node).length + nu l (updT m T.node T) = nu l m := by
  unfold posK nu
  rw [List.length_map]
  apply filter_three
  · intro p
    unfold updT
    by_cases hp : eT l p = T.node
    · rw [if_pos hp, hp, h]; simp
    · rw [if_neg hp]; simp [hp]
  · intro p
    unfold updT
    by_cases hp : eT l p = T.node
    · rw [if_pos hp]; simp
    · simp [hp]
/-- The trail through an edge. -/
def cand (l : List Ed) (p : Nat) (s : Tr) : Tr := ⟨eF l p, s.cost + eC l p, s.edges + 1, (p : Int)⟩
def Good (l : List Ed) (t : Int) (T : Tr) : Prop := ∃ k : Nat, T.edges = (k : Int) ∧ Best l t T.node T.cost k ∧
  (k = 0 ∨ ∃ p k' : Nat, k = k' + 1 ∧ T.first = (p : Int) ∧ p < l.length ∧ eF l p = T.node ∧ Best l t (eT l p) (T.cost - eC l p) k' ∧ ∀ p', p' < p → ¬ (eF l p' = T.node ∧ Best l t (eT l p') (T.cost - eC l p') k'))
structure Dj (l : List Ed) (t : Int) (m : TM) (O : List Tr) (R : List Int) (N : Nat) : Prop where
  srt : SrtT O
  good : ∀ x T, m x = some T → T.node = x ∧ Good l t T
  start : m t = none → ⟨t, 0, 0, 0⟩ ∈ O
  front : ∀ p s, p < l.length → m (eT l p) = some s → m (eF l p) = none → cand l p s ∈ O ∨ (p : Int) ∈ R
  sound : ∀ T ∈ O, T = ⟨t, 0, 0, 0⟩ ∨ ∃ p s, p < l.length ∧ m (eT l p) = some s ∧ T = cand l p s
  few : ∃ K : List Int, K.Nodup ∧ (∀ x ∈ K, x = t ∨ x ∈ nodesL l) ∧ (∀ x ∈ K, m x ≠ none) ∧ ∀ x T, m x = some T → T.edges < K.length
  meas : O.length + R.length + nu l m ≤ N
theorem tj_start (l : List Ed) (t : Int) : Dj l t (fun _ => none) [⟨t, 0, 0, 0⟩] [] (l.length + 1) := by
  refine ⟨List.pairwise_singleton _ _, fun _ _ h => (by cases h), fun _ => List.mem_singleton.2 rfl, fun _ _ _ h => (by cases h), fun T h => .inl (List.mem_singleton.1 h), ⟨[], List.nodup_nil, (fun _ h => by cases h), (fun _ h => by cases h), fun _ _ h => (by cases h)⟩, ?_⟩
  have h1 : nu l (fun _ => none) ≤ l.length := by
    unfold nu
    have := List.length_filter_le (fun p => ((fun _ => none : TM) (eT l p)).isNone) (List.range l.length)
    rw [List.length_range] at this
    exact this
  simp only [List.length_cons, List.length_nil]
  omega
theorem good_has {l : List Ed} {t : Int} {T : Tr} (h : Good l t T) : ∃ k : Nat, T.edges = (k : Int) ∧ Best l t T.node T.cost k := by
  obtain ⟨k, h1, h2, _⟩ := h
  exact ⟨k, h1, h2⟩
theorem e_pos {l : List Ed} {e : Ed} (h : e ∈ l) : ∃ p, p < l.length ∧ eF l p = e.frm ∧ eT l p = e.to ∧ eC l p = e.cost := by
  obtain ⟨p, hp, rfl⟩ := List.mem_iff_getElem.1 h
  exact ⟨p, hp, by rw [e_eta hp], by rw [e_eta hp], by rw [e_eta hp]⟩
/-- Whatever path there is from an unknown node, an open trail is no worse. -/
theorem tj_front {l : List Ed} {t : Int} {m : TM} {O : List Tr} {N : Nat} (hc : ∀ e ∈ l, 0 ≤ e.cost) (h : Dj l t m O [] N) : ∀ {p : List Ed} {x : Int}, Sub p l → Pth p x t → m x = none → ∃ T ∈ O, leI T.cost T.edges (cst p) p.length
  | [], x, _, hp, hx => by
    obtain rfl : x = t := hp
    exact ⟨_, h.start hx, by unfold leI cst; simp⟩
  | e :: p, x, hs, hp, hx => by
    obtain ⟨h1, h2⟩ := sub_cons.1 hs
    obtain ⟨hf, h3⟩ := hp
    have hce := hc e h1
    rw [cst, List.length_cons]
    cases hm : m e.to with
    | none =>
      obtain ⟨T, hT, hle⟩ := tj_front hc h h2 h3 hm
      exact ⟨T, hT, by unfold leI at *; omega⟩
    | some s =>
      obtain ⟨q, hq, q1, q2, q3⟩ := e_pos h1
      obtain ⟨hn, hg⟩ := h.good _ _ hm
      obtain ⟨k, hk, hb⟩ := good_has hg
      rw [hn] at hb
      have hle := hb.2 p h2 h3
      rcases h.front q s hq (by rw [q2]; exact hm) (by rw [q1, hf]; exact hx) with hT | hT
      · refine ⟨_, hT, ?_⟩
        unfold cand leI
        unfold le2 at hle
        simp only
        rw [hk, q3]
        omega
      · cases hT
theorem tj_done {l : List Ed} {t : Int} {m : TM} {N : Nat} (hc : ∀ e ∈ l, 0 ≤ e.cost) (h : Dj l t m [] [] N) {x : Int} (hx : m x = none) : ¬ Rch l x t := fun hr => by
  obtain ⟨p, p1, p2⟩ := rch_path hr
  obtain ⟨T, hT, _⟩ := tj_front hc h p1 p2 hx
  cases hT
theorem tj_known {l : List Ed} {t : Int} {m : TM} {T : Tr} {O : List Tr} {N : Nat} (h : Dj l t m (T :: O) [] N) (hm : m T.node ≠ none) : Dj l t m O [] (N - 1) ∧ N - 1 < N := by
  have hM := h.meas
  rw [List.length_cons] at hM
  refine ⟨⟨(List.pairwise_cons.1 h.srt).2, h.good, fun ht => ?_, fun p s hp h1 h2 => ?_, fun T' hT' => h.sound T' (List.mem_cons_of_mem _ hT'), h.few, by omega⟩, by omega⟩
  · rcases List.mem_cons.1 (h.start ht) with e | e
    · rw [← e] at hm; exact absurd ht hm
    · exact e
  · rcases h.front p s hp h1 h2 with e | e
    · rcases List.mem_cons.1 e with e | e
      · rw [← e] at hm
        exact absurd h2 hm
      · exact .inl e
    · cases e
theorem tj_good {l : List Ed} {t : Int} {m : TM} {T : Tr} {O : List Tr} {N : Nat} (hc : ∀ e ∈ l, 0 ≤ e.cost) (h : Dj l t m (T :: O) [] N) (hm : m T.node = none) : Good l t T := by
  have hmin : ∀ T' ∈ T :: O, ¬ ltT T' T := fun T' hT' => by
    rcases List.mem_cons.1 hT' with rfl | h1
    · unfold ltT; omega
    · exact (List.pairwise_cons.1 h.srt).1 T' h1
  have hle : ∀ {p : List Ed}, Sub p l → Pth p T.node t → leI T.cost T.edges (cst p) p.length := fun {p} p1 p2 => by
    obtain ⟨T', hT', h1⟩ := tj_front hc h p1 p2 hm
    have h2 := hmin T' hT'
    unfold leI at *
    unfold ltT at h2
    omega
  rcases h.sound T (List.mem_cons_self ..) with h1 | ⟨p, s, hp, hs, h1⟩
  · refine ⟨0, by rw [h1]; rfl, ?_, .inl rfl⟩
    rw [h1]
    exact best_self hc t
  · obtain ⟨hn, hgs⟩ := h.good _ _ hs
    obtain ⟨k, hk, hb⟩ := good_has hgs
    rw [hn] at hb
    have hT1 : T.node = eF l p := by rw [h1]; rfl
    have hT2 : T.cost = s.cost + eC l p := by rw [h1]; rfl
    have hT3 : T.edges = ((k + 1 : Nat) : Int) := by rw [h1]; show s.edges + 1 = _; omega
    have hT4 : T.first = (p : Int) := by rw [h1]; rfl
    have hbest : Best l t T.node T.cost (k + 1) := by
      refine ⟨?_, fun q q1 q2 => ?_⟩
      · have := Has2.cons (e_mem hp) hb.1
        rw [hT1, hT2]
        exact this
      · have := hle q1 q2
        rw [hT3] at this
        unfold leI at this
        unfold le2
        omega
    refine ⟨k + 1, hT3, hbest, .inr ⟨p, k, rfl, hT4, hp, hT1.symm, ?_, ?_⟩⟩
    · rw [hT2, show s.cost + eC l p - eC l p = s.cost by omega]
      exact hb
    · rintro p' hp' ⟨e1, e2⟩
      have hpl : p' < l.length := by omega
      have hce := hc _ (e_mem hpl)
      simp only at hce
      cases hz : m (eT l p') with
      | none =>
        obtain ⟨⟨q, q1, q2, q3, q4⟩, _⟩ := e2
        obtain ⟨T', hT', h2⟩ := tj_front hc h q1 q2 hz
        have h3 := hmin T' hT'
        rw [q3, q4] at h2
        unfold leI at h2
        unfold ltT at h3
        omega
      | some s' =>
        obtain ⟨hn', hgs'⟩ := h.good _ _ hz
        obtain ⟨k', hk', hb'⟩ := good_has hgs'
        rw [hn'] at hb'
        obtain ⟨u1, u2⟩ := hb'.unique e2
        rcases h.front p' s' hpl hz (by rw [e1]; exact hm) with h2 | h2
        · have h3 := hmin _ h2
          unfold cand ltT at h3
          simp only at h3
          omega
        · cases h2
theorem tj_new {l : List Ed} {t : Int} {m : TM} {T : Tr} {O : List Tr} {N : Nat} (hc : ∀ e ∈ l, 0 ≤ e.cost) (h : Dj l t m (T :: O) [] N) (hm : m T.node = none) : Dj l t (updT m T.node T) O (posK l l.length T.node) (N - 1) ∧ N - 1 < N := by
  have hM := h.meas
  have hnu := nu_new (l := l) hm
  rw [List.length_cons, List.length_nil] at hM
  have hgood := tj_good hc h hm
  have hup : ∀ {x : Int}, x ≠ T.node → updT m T.node T x = m x := fun {x} hx => if_neg hx
  have hat : updT m T.node T T.node = some T := if_pos rfl
  refine ⟨⟨(List.pairwise_cons.1 h.srt).2, fun x T' hx => ?_, fun ht => ?_, fun p s hp h1 h2 => ?_, fun T' hT' => ?_, ?_, by omega⟩, by omega⟩
  · by_cases hxe : x = T.node
    · rw [hxe, hat] at hx
      injection hx with hx
      rw [← hx, hxe]
      exact ⟨rfl, hgood⟩
    · rw [hup hxe] at hx
      exact h.good x T' hx
  · by_cases hte : t = T.node
    · rw [hte, hat] at ht; cases ht
    · rw [hup hte] at ht
      rcases List.mem_cons.1 (h.start ht) with e | e
      · exact absurd (by rw [← e]) hte
      · exact e
  · by_cases hfe : eF l p = T.node
    · rw [hfe, hat] at h2; cases h2
    · rw [hup hfe] at h2
      by_cases hte : eT l p = T.node
      · exact .inr (mem_posK.2 ⟨p, hp, hte, rfl⟩)
      · rw [hup hte] at h1
        rcases h.front p s hp h1 h2 with e | e
        · rcases List.mem_cons.1 e with e | e
          · exact absurd (by rw [← e]; rfl) hfe
          · exact .inl e
        · cases e
  · rcases h.sound T' (List.mem_cons_of_mem _ hT') with e | ⟨p, s, hp, hs, e⟩
    · exact .inl e
    · refine .inr ⟨p, s, hp, ?_, e⟩
      rw [hup (fun e2 => by rw [e2, hm] at hs; cases hs)]
      exact hs
  · obtain ⟨K, k1, k2, k3, k4⟩ := h.few
    refine ⟨T.node :: K, List.nodup_cons.2 ⟨fun hx => k3 _ hx hm, k1⟩, fun x hx => ?_, fun x hx => ?_, fun x T' hx => ?_⟩
    · rcases List.mem_cons.1 hx with rfl | hx
      · rcases h.sound T (List.mem_cons_self ..) with e | ⟨p, s, hp, hs, e⟩
        · exact .inl (by rw [e])
        · exact .inr (mem_nodes.2 ⟨_, e_mem hp, .inl (by rw [e]; rfl)⟩)
      · exact k2 x hx
    · by_cases hxe : x = T.node
      · rw [hxe, hat]; exact fun e => by cases e
      · rw [hup hxe]
        exact k3 x ((List.mem_cons.1 hx).resolve_left hxe)
    · rw [List.length_cons]
      by_cases hxe : x = T.node
      · rw [hxe, hat] at hx
        injection hx with hx
        rw [← hx]
        rcases h.sound T (List.mem_cons_self ..) with e | ⟨p, s, hp, hs, e⟩
        · rw [e]; show (0 : Int) < _; omega
        · have := k4 _ _ hs
          rw [e]
          show s.edges + 1 < _
          omega
      · rw [hup hxe] at hx
        have := k4 _ _ hx
        omega
theorem mem_putT {l : List Tr} {x y : Tr} {i : Nat} : y ∈ putT l x i ↔ y = x ∨ y ∈ l := by
  unfold putT
  rw [List.mem_append, List.mem_cons]
  constructor
  · rintro (h | h | h)
    · exact .inr (List.mem_of_mem_take h)
    · exact .inl h
    · exact .inr (List.mem_of_mem_drop h)
  · rintro (h | h)
    · exact .inr (.inl h)
    · rw [← List.take_append_drop i l, List.mem_append] at h
      rcases h with h | h
      · exact .inl h
      · exact .inr (.inr h)
theorem putT_srt {l : List Tr} {x : Tr} {i : Nat} (h : SrtT l) (hp : PartsT l x i) : SrtT (putT l x i) := by
  obtain ⟨hi, h1, h2⟩ := hp
  have hlt : ∀ a ∈ l.take i, ltT a x := fun a ha => by
    obtain ⟨j, hj, rfl⟩ := List.mem_iff_getElem.1 ha
    rw [List.length_take] at hj
    have := h1 j (by omega)
    rw [tx_at (by omega)] at this
    rw [List.getElem_take]
    exact this
  have hge : ∀ a ∈ l.drop i, ¬ ltT a x := fun a ha => by
    obtain ⟨j, hj, rfl⟩ := List.mem_iff_getElem.1 ha
    rw [List.length_drop] at hj
    have := h2 (i + j) (by omega) (by omega)
    rw [tx_at (by omega)] at this
    rw [List.getElem_drop]
    exact this
  have h3 := h
  unfold SrtT at h3 ⊢
  rw [← List.take_append_drop i l, List.pairwise_append] at h3
  unfold putT
  rw [List.pairwise_append]
  refine ⟨h3.1, List.pairwise_cons.2 ⟨hge, h3.2.1⟩, fun a ha b hb => ?_⟩
  rcases List.mem_cons.1 hb with rfl | hb
  · have := hlt a ha
    unfold ltT at *
    omega
  · exact h3.2.2 a ha b hb
theorem tj_put {l : List Ed} {t : Int} {m : TM} {O : List Tr} {R : List Int} {N p j : Nat} {s : Tr} (h : Dj l t m O ((p : Int) :: R) N) (hp : p < l.length) (hs : m (eT l p) = some s) (hj : PartsT O (cand l p s) j) : Dj l t m (putT O (cand l p s) j) R N := by
  have hM := h.meas
  refine ⟨putT_srt h.srt hj, h.good, fun ht => mem_putT.2 (.inr (h.start ht)), fun q s' hq h1 h2 => ?_, fun T' hT' => ?_, h.few, ?_⟩
  · rcases h.front q s' hq h1 h2 with e | e
    · exact .inl (mem_putT.2 (.inr e))
    · rcases List.mem_cons.1 e with e | e
      · obtain rfl : q = p := by omega
        rw [hs] at h1
        injection h1 with h1
        rw [h1]
        exact .inl (mem_putT.2 (.inl rfl))
      · exact .inr e
  · rcases mem_putT.1 hT' with e | e
    · exact .inr ⟨p, s, hp, hs, e⟩
    · exact h.sound T' e
  · rw [putT_len hj.1]
    rw [List.length_cons] at hM
    omega
theorem tj_bound {l : List Ed} {t : Int} {m : TM} {O : List Tr} {R : List Int} {N : Nat} (hg : Grph l) (h : Dj l t m O R N) {x : Int} {T : Tr} (hx : m x = some T) : 0 ≤ T.cost ∧ T.cost ≤ 401000000 ∧ 0 ≤ T.edges ∧ T.edges ≤ 401 := by
  obtain ⟨K, k1, k2, k3, k4⟩ := h.few
  have h1 := k4 _ _ hx
  have h2 := nodup_len k1 (b := t :: nodesL l) fun y hy => by
    rcases k2 y hy with e | e
    · rw [e]; exact List.mem_cons_self ..
    · exact List.mem_cons_of_mem _ e
  have h3 := nodes_len l
  have hgl := hg.1
  rw [List.length_cons] at h2
  obtain ⟨k, hk, ⟨⟨p, p1, p2, p3, p4⟩, _⟩⟩ := good_has (h.good _ _ hx).2
  have c1 := cst_nonneg (fun e he => (hg.2.1 e he).2.2.2.2.1) p1
  have c2 := cst_le (fun e he => (hg.2.1 e he).2.2.2.2.2) p1
  rw [p3] at c1 c2
  rw [p4] at c2
  omega
end Go.Proofs.Ytlaklfiodmnocaa
