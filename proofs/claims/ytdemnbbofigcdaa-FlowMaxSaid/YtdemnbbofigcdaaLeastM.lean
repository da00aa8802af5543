/- The turns along and against the edges. Mathematics. -/
import Derived.Test.YtdemnbbofigcdaaFindG
import Derived.Test.YtdemnbbofigcdaaBackG
namespace Go.Proofs.Ytdemnbbofigcdaa
open Go.RowKit

/-- Of the first n edges, those along which more can flow; those against which more can. -/
def alN (l : List Ed) (f : List Int) : Nat → List Ed
  | 0 => []
  | k + 1 => alN l f k ++ if ix f k < eC l k then [⟨eI l k, eF l k, eT l k, eC l k⟩] else []
def agN (l : List Ed) (f : List Int) : Nat → List Ed
  | 0 => []
  | k + 1 => agN l f k ++ if 0 < ix f k then [⟨eI l k, eF l k, eT l k, eC l k⟩] else []
theorem al_sub (l : List Ed) (f : List Int) : ∀ {n : Nat}, n ≤ l.length → (alN l f n).Sublist (l.take n)
  | 0, _ => by rw [alN]; exact List.nil_sublist _
  | k + 1, h => by
    rw [alN, List.take_succ_eq_append_getElem (by omega), e_eta (show k < l.length by omega)]
    refine List.Sublist.append (al_sub l f (by omega)) ?_
    split
    · exact List.Sublist.refl _
    · exact List.nil_sublist _
theorem ag_sub (l : List Ed) (f : List Int) : ∀ {n : Nat}, n ≤ l.length → (agN l f n).Sublist (l.take n)
  | 0, _ => by rw [agN]; exact List.nil_sublist _
  | k + 1, h => by
    rw [agN, List.take_succ_eq_append_getElem (by omega), e_eta (show k < l.length by omega)]
    refine List.Sublist.append (ag_sub l f (by omega)) ?_
    split
    · exact List.Sublist.refl _
    · exact List.nil_sublist _
theorem grph_sub {l m : List Ed} (hg : Grph l) (h : m.Sublist l) : Grph m :=
  ⟨Nat.le_trans h.length_le hg.1, fun e he => hg.2.1 e (h.subset he), hg.2.2.sublist (h.map _)⟩
theorem al_mem {l : List Ed} {f : List Int} {e : Ed} : ∀ {n : Nat}, n ≤ l.length → (e ∈ alN l f n ↔ ∃ k, k < n ∧ ix f k < eC l k ∧ e = ⟨eI l k, eF l k, eT l k, eC l k⟩)
  | 0, _ => by
    rw [alN]
    constructor
    · intro h; cases h
    · rintro ⟨k, hk, _⟩; omega
  | n + 1, h => by
    rw [alN, List.mem_append, al_mem (by omega)]
    constructor
    · rintro (⟨k, hk, h1⟩ | h1)
      · exact ⟨k, by omega, h1⟩
      · split at h1
        · rename_i hlt
          exact ⟨n, by omega, hlt, List.mem_singleton.1 h1⟩
        · cases h1
    · rintro ⟨k, hk, h1, h2⟩
      by_cases hkn : k = n
      · subst hkn
        right
        rw [if_pos h1, h2]
        exact List.mem_singleton.2 rfl
      · exact .inl ⟨k, by omega, h1, h2⟩
theorem ag_mem {l : List Ed} {f : List Int} {e : Ed} : ∀ {n : Nat}, n ≤ l.length → (e ∈ agN l f n ↔ ∃ k, k < n ∧ 0 < ix f k ∧ e = ⟨eI l k, eF l k, eT l k, eC l k⟩)
  | 0, _ => by
    rw [agN]
    constructor
    · intro h; cases h
    · rintro ⟨k, hk, _⟩; omega
  | n + 1, h => by
    rw [agN, List.mem_append, ag_mem (by omega)]
    constructor
    · rintro (⟨k, hk, h1⟩ | h1)
      · exact ⟨k, by omega, h1⟩
      · split at h1
        · rename_i hlt
          exact ⟨n, by omega, hlt, List.mem_singleton.1 h1⟩
        · cases h1
    · rintro ⟨k, hk, h1, h2⟩
      by_cases hkn : k = n
      · subst hkn
        right
        rw [if_pos h1, h2]
        exact List.mem_singleton.2 rfl
      · exact .inl ⟨k, by omega, h1, h2⟩
/-- One turn: along the edges, then against them. -/
noncomputable def turnL (l : List Ed) (f : List Int) (I : List Int) : List Int := backL (agN l f l.length) (reachL (alN l f l.length) I)
theorem rs_along {l : List Ed} {f : List Int} {s a x : Int} (ha : Rs l f s a) (h : Rch (alN l f l.length) a x) : Rs l f s x := by
  refine h.closed (S := fun x => Rs l f s x) (fun e he hs => ?_) ha
  obtain ⟨k, hk, h1, rfl⟩ := (al_mem (Nat.le_refl _)).1 he
  exact .fwd hk hs h1
theorem rs_against {l : List Ed} {f : List Int} {s a x : Int} (ha : Rs l f s a) (h : Rch (agN l f l.length) x a) : Rs l f s x := by
  have h2 := h.turned
  refine h2.closed (S := fun x => Rs l f s x) (fun e he hs => ?_) ha
  obtain ⟨e0, he0, rfl⟩ := List.mem_map.1 he
  obtain ⟨k, hk, h1, rfl⟩ := (ag_mem (Nat.le_refl _)).1 he0
  exact .bwd hk hs h1
theorem turn_rs {l : List Ed} {f : List Int} {s x : Int} {I : List Int} (hI : ∀ x ∈ I, Rs l f s x) (hx : x ∈ turnL l f I) : Rs l f s x := by
  unfold turnL at hx
  rw [mem_back] at hx
  obtain ⟨a, ha, h1⟩ := hx
  rw [mem_reach] at ha
  obtain ⟨b, hb, h2⟩ := ha
  exact rs_against (rs_along (hI b hb) h2) h1
theorem turn_has {l : List Ed} {f : List Int} {x : Int} {I : List Int} (hx : x ∈ I) : x ∈ turnL l f I := by
  unfold turnL
  rw [mem_back]
  exact ⟨x, mem_reach.2 ⟨x, hx, .refl x⟩, .refl x⟩
theorem nodup_full {a b : List Int} (hn : a.Nodup) (hs : ∀ x ∈ a, x ∈ b) (hl : b.length ≤ a.length) {y : Int} (hy : y ∈ b) : y ∈ a := by
  apply Classical.byContradiction
  intro hna
  have h1 := nodup_len (a := y :: a) (b := b) (List.nodup_cons.2 ⟨hna, hn⟩) (fun x hx => by
    rcases List.mem_cons.1 hx with rfl | hx
    · exact hy
    · exact hs x hx)
  rw [List.length_cons] at h1
  omega
theorem turn_end {l : List Ed} {f : List Int} {s : Int} {I : List Int} (hI : ∀ x ∈ I, Rs l f s x) (hs : s ∈ I) (hn : I.Nodup) (he : (turnL l f I).length = I.length) (x : Int) : x ∈ I ↔ Rs l f s x := by
  have hsame : ∀ y, y ∈ turnL l f I → y ∈ I := fun y hy => nodup_full hn (fun z hz => turn_has hz) (by omega) hy
  refine ⟨hI x, fun hr => ?_⟩
  induction hr with
  | base => exact hs
  | @fwd k hk _ hlt ih =>
    refine hsame _ ?_
    unfold turnL
    rw [mem_back]
    refine ⟨_, mem_reach.2 ⟨_, ih, ?_⟩, .refl _⟩
    exact Rch.edge (e := ⟨eI l k, eF l k, eT l k, eC l k⟩) ((al_mem (Nat.le_refl _)).2 ⟨k, hk, hlt, rfl⟩)
  | @bwd k hk _ hlt ih =>
    refine hsame _ ?_
    unfold turnL
    rw [mem_back]
    refine ⟨_, mem_reach.2 ⟨_, ih, .refl _⟩, ?_⟩
    exact Rch.edge (e := ⟨eI l k, eF l k, eT l k, eC l k⟩) ((ag_mem (Nat.le_refl _)).2 ⟨k, hk, hlt, rfl⟩)
end Go.Proofs.Ytdemnbbofigcdaa
