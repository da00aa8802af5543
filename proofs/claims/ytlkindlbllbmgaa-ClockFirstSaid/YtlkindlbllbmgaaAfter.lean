/- after: the least number of a list that is greater than another one. -/
import Derived.Test.YtlkindlbllbmgaaCoverR
namespace Go.Proofs.Ytlkindlbllbmgaa
open Go.RowKit

noncomputable def aftU (E : List Int) (n : Int) : Int := @dite _ (∃ u, nextE E n u) (Classical.propDecidable _) (fun h => h.choose) (fun _ => 0)
noncomputable def aftB (E : List Int) (n : Int) : Bool := @decide (∃ u, nextE E n u) (Classical.propDecidable _)
theorem aft_yes {E : List Int} {n u : Int} (h : nextE E n u) : aftU E n = u ∧ aftB E n = true := by
  have he : ∃ u, nextE E n u := ⟨u, h⟩
  refine ⟨?_, by unfold aftB; exact @decide_eq_true _ (Classical.propDecidable _) he⟩
  unfold aftU
  rw [dif_pos he]
  exact nextE_unique he.choose_spec h
theorem aft_no {E : List Int} {n : Int} (h : noE E n) : aftU E n = 0 ∧ aftB E n = false := by
  have he : ¬ ∃ u, nextE E n u := fun ⟨u, k⟩ => by have := h u k.1; have := k.2.1; omega
  exact ⟨by unfold aftU; rw [dif_neg he], by unfold aftB; exact @decide_eq_false _ (Classical.propDecidable _) he⟩
theorem aftB_of {E : List Int} {n : Int} (h : aftB E n = true) : nextE E n (aftU E n) := by
  unfold aftB at h
  obtain ⟨u, hu⟩ := @of_decide_eq_true _ (Classical.propDecidable _) h
  rw [(aft_yes hu).1]; exact hu
theorem noE_or : ∀ (E : List Int) (n : Int), noE E n ∨ ∃ u, nextE E n u
  | [], n => .inl fun e h => absurd h List.not_mem_nil
  | x :: E, n => by
    rcases noE_or E n with h | ⟨u, h⟩
    · rcases Int.lt_or_le n x with c | c
      · exact .inr ⟨x, List.mem_cons_self, c, fun e he hn => by
          rcases List.mem_cons.1 he with rfl | he
          · exact Int.le_refl _
          · have := h e he; omega⟩
      · exact .inl fun e he => by
          rcases List.mem_cons.1 he with rfl | he
          · exact c
          · exact h e he
    · rcases Int.lt_or_le n x with c | c
      · refine .inr ⟨min x u, ?_, by have := h.2.1; omega, fun e he hn => by
          rcases List.mem_cons.1 he with rfl | he
          · omega
          · have := h.2.2 e he hn; omega⟩
        rcases Int.le_total x u with d | d
        · rw [show min x u = x by omega]; exact List.mem_cons_self
        · rw [show min x u = u by omega]; exact List.mem_cons_of_mem _ h.1
      · exact .inr ⟨u, List.mem_cons_of_mem _ h.1, h.2.1, fun e he hn => by
          rcases List.mem_cons.1 he with rfl | he
          · omega
          · exact h.2.2 e he hn⟩
theorem aftB_not {E : List Int} {n : Int} (h : aftB E n = false) : noE E n := by
  rcases noE_or E n with k | ⟨u, k⟩
  · exact k
  · rw [(aft_yes k).2] at h; exact absurd h (by decide)

def ix (E : List Int) (i : Nat) : Int := E[i]?.getD 0
theorem ix_at {E : List Int} {i : Nat} (h : i < E.length) : ix E i = E[i] := by unfold ix; rw [List.getElem?_eq_getElem h]; rfl
def Ints (w : World) (B : Nat) (A : Option Addr) (E : List Int) : Prop :=
  0 < E.length → ∃ ad, A = some ad ∧ ad.block < B ∧ ∀ i, i < E.length → w.cell? (ad.add i) = some (.int .i64 (ix E i))
theorem Ints.below {w w' : World} {B : Nat} {A : Option Addr} {E : List Int} (h : Ints w B A E) (hb : Below B w w') : Ints w' B A E := fun hn => by
  obtain ⟨ad, e, hl, hc⟩ := h hn
  exact ⟨ad, e, hl, fun i hi => (hb.cell (by rw [block_of_add]; exact hl)).trans (hc i hi)⟩
theorem Ints.more {w : World} {B B' : Nat} {A : Option Addr} {E : List Int} (h : Ints w B A E) (hB : B ≤ B') : Ints w B' A E := fun hn => by
  obtain ⟨ad, e, hl, hc⟩ := h hn
  exact ⟨ad, e, Nat.lt_of_lt_of_le hl hB, hc⟩
theorem own_ints {w : World} {base e n cap : Nat} {A : Option Addr} {E : List Int} (h : w.ownsRow base e 1 (.slice A n cap) n (E.map (Value.int .i64))) : n = E.length ∧ Ints w w.heap.size A E := by
  have hn : n = E.length := by have := h.1; rw [List.length_map] at this; omega
  refine ⟨hn, fun hpos => ?_⟩
  rcases h.2 with ⟨hv, h0⟩ | ⟨g, cap', cur, hv, _, hg, _⟩
  · omega
  · injection hv with hA
    subst hA
    refine ⟨_, rfl, (Array.getElem?_eq_some_iff.1 hg).1, fun i hi => ?_⟩
    have hc := h.cells (g := g) rfl i (.int .i64 E[i]) (by rw [List.getElem?_map, List.getElem?_eq_getElem hi]; rfl)
    rw [ix_at hi]
    exact hc

/-- After the first k numbers: what has been found. -/
def Found (E : List Int) (n : Int) (k : Nat) (u : Int) (b : Bool) : Prop := (b = true → nextE (E.take k) n u) ∧ (b = false → u = 0 ∧ noE (E.take k) n)
theorem take_ix {E : List Int} {k : Nat} (h : k < E.length) : E.take (k + 1) = E.take k ++ [ix E k] := by rw [List.take_succ_eq_append_getElem h, ix_at h]
theorem Found.pass {E : List Int} {n : Int} {k : Nat} {u : Int} {b : Bool} (h : Found E n k u b) (hk : k < E.length) (hn : ¬ n < ix E k ∨ b = true ∧ u ≤ ix E k) : Found E n (k + 1) u b := by
  refine ⟨fun hb => ?_, fun hb => ?_⟩
  · obtain ⟨a1, a2, a3⟩ := h.1 hb
    rw [take_ix hk]
    refine ⟨List.mem_append_left _ a1, a2, fun e he hne => ?_⟩
    rcases List.mem_append.1 he with c | c
    · exact a3 e c hne
    · rw [List.mem_singleton] at c; subst c; omega
  · obtain ⟨a1, a2⟩ := h.2 hb
    refine ⟨a1, ?_⟩
    rw [take_ix hk]
    intro e he
    rcases List.mem_append.1 he with c | c
    · exact a2 e c
    · rw [List.mem_singleton] at c; subst c
      rcases hn with d | d
      · omega
      · rw [hb] at d; exact absurd d.1 (by decide)
theorem Found.take_ {E : List Int} {n : Int} {k : Nat} {u : Int} {b : Bool} (h : Found E n k u b) (hk : k < E.length) (hn : n < ix E k) (hb : b = false ∨ ix E k < u) : Found E n (k + 1) (ix E k) true := by
  refine ⟨fun _ => ?_, fun c => absurd c (by decide)⟩
  rw [take_ix hk]
  refine ⟨List.mem_append_right _ (List.mem_singleton.2 rfl), hn, fun e he hne => ?_⟩
  rcases List.mem_append.1 he with c | c
  · cases hb' : b
    · have := (h.2 hb').2 e c; omega
    · have := (h.1 hb').2.2 e c hne
      rw [hb'] at hb
      rcases hb with d | d
      · exact absurd d (by decide)
      · omega
  · rw [List.mem_singleton] at c; subst c; exact Int.le_refl _
theorem Found.all {E : List Int} {n u : Int} {b : Bool} (h : Found E n E.length u b) : u = aftU E n ∧ b = aftB E n := by
  unfold Found at h
  rw [List.take_length] at h
  cases b
  · obtain ⟨a1, a2⟩ := h.2 rfl
    exact ⟨by rw [a1, (aft_no a2).1], (aft_no a2).2.symm⟩
  · have a := h.1 rfl
    exact ⟨(aft_yes a).1.symm, (aft_yes a).2.symm⟩

set_option maxRecDepth 100000 in
set_option maxHeartbeats 1000000 in
theorem after_any (A : Option Addr) (E : List Int) (cap : Nat) (n : Int) (w : World) (hp : Ints w w.heap.size A E) (hmax : E.length ≤ 9223372036854775807) :
    Calls Try.prog 44 #[.slice A E.length cap, .int .i64 n] w fun e w' => e = .returned (.tuple #[.int .i64 (aftU E n), .bool (aftB E n)]) ∧ w = w' := by
  have hP := Lib.hid hp
  clear hp
  go_enter Try.func44, Try.ntmps44
  go_wp2
  go_loop [6, 7, 8] (fun u b i => ∃ (k : Nat) (U : Int) (F : Bool), k ≤ E.length ∧ i = .int .i64 k ∧ u = .int .i64 U ∧ b = .bool F ∧ Hid (Found E n k U F)) (fun _ _ i => E.length - (intOf i).toNat)
  case atStart => exact ⟨0, 0, false, by omega, rfl, rfl, rfl, Lib.hid ⟨fun c => absurd c (by decide), fun _ => ⟨rfl, fun e he => absurd he (by simp)⟩⟩⟩
  case round =>
    obtain ⟨k, U, F, hk, rfl, rfl, rfl, hF⟩ := hrel
    by_cases hlt : k < E.length
    · obtain ⟨ad, rfl, hl, hc⟩ := hP.out (by omega)
      have hx := hc k hlt
      clear hc hP hl
      by_cases hn : n < ix E k
      · cases F
        · have hF' := Lib.hid (hF.out.take_ hlt hn (.inl rfl))
          clear hF
          go_wp2
          exact ⟨⟨k + 1, _, _, hlt, by go_num, rfl, rfl, hF'⟩, by simp [intOf]; omega⟩
        · by_cases hu : ix E k < U
          · have hF' := Lib.hid (hF.out.take_ hlt hn (.inr hu))
            clear hF
            go_wp2
            exact ⟨⟨k + 1, _, _, hlt, by go_num, rfl, rfl, hF'⟩, by simp [intOf]; omega⟩
          · have hF' := Lib.hid (hF.out.pass hlt (.inr ⟨rfl, by omega⟩))
            clear hF
            have hd : decide (ix E k < U) = false := decide_eq_false hu
            go_wp2
            exact ⟨⟨k + 1, _, _, hlt, by go_num, rfl, rfl, hF'⟩, by simp [intOf]; omega⟩
      · have hF' := Lib.hid (hF.out.pass hlt (.inl hn))
        clear hF
        have hd : decide (n < ix E k) = false := decide_eq_false hn
        go_wp2
        exact ⟨⟨k + 1, _, _, hlt, by go_num, rfl, rfl, hF'⟩, by simp [intOf]; omega⟩
    · obtain rfl : k = E.length := by omega
      obtain ⟨e1, e2⟩ := hF.out.all
      subst e1 e2
      clear hF hP
      go_wp2
      go_ret2
      exact ⟨rfl, rfl⟩
end Go.Proofs.Ytlkindlbllbmgaa
