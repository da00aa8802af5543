/- The reference's way. -/
import Derived.Test.YtdemnbbofigcdaaSearchR
import Derived.Test.YtdemnbbofigcdaaBfs
import Derived.BigRegion
namespace Go.Proofs.Ytdemnbbofigcdaa
open Go.RowKit

/-- On the way back: what is looked for stays among what was found, or nothing is found. -/
def BackI (l : List Ed) (f S V : List Int) (t c : Int) (W : List Int) (n : Nat) : Prop := Back l f S V t c W n ∧ (t ∈ S → c ∈ S) ∧ (t ∉ S → c = t ∧ W = [])
theorem backI_start {l : List Ed} {f S V : List Int} {t : Int} : BackI l f S V t t [] S.length := ⟨back_start, fun h => h, fun _ => ⟨rfl, rfl⟩⟩
theorem backI_skip {l : List Ed} {f S V W : List Int} {s t c : Int} {i k n : Nat} (hS : Srch l f s S V i k) (h : BackI l f S V t c W (n + 1)) (hn : n < S.length) (hne : ix S n ≠ c ∨ ix V n = 0) : BackI l f S V t c W n := ⟨back_skip hS h.1 hn hne, h.2⟩
theorem backI_take {l : List Ed} {f S V W : List Int} {s t c : Int} {i k n : Nat} (hS : Srch l f s S V i k) (h : BackI l f S V t c W (n + 1)) (hn : n < S.length) (he : ix S n = c) (hv : ix V n ≠ 0) : BackI l f S V t (tlE l (ix V n)) (W ++ [ix V n]) n := by
  have hn0 : 0 < n := by
    rcases Nat.eq_zero_or_pos n with h0 | h0
    · rw [h0] at hv; exact absurd hS.v0 hv
    · exact h0
  obtain ⟨_, _, _, _, a, ha, v5⟩ := hS.via n hn0 hn
  refine ⟨back_take hS h.1 hn he hv, fun _ => by rw [← v5]; exact ix_mem (by omega), fun ht => ?_⟩
  obtain ⟨h1, _⟩ := h.2.2 ht
  exact absurd (by rw [← h1, ← he]; exact ix_mem hn) ht
def WayIs (l : List Ed) (f : List Int) (s t : Int) (S W : List Int) : Prop := (t ∉ S → W = []) ∧ (t ∈ S → Way l W t s) ∧ (∀ x ∈ W, idx x < l.length ∧ 0 < room l f x ∧ x ≠ 0) ∧ (W.map idx).Nodup
theorem backI_end {l : List Ed} {f S V W : List Int} {s t c : Int} {i k : Nat} (hS : Srch l f s S V i k) (h : BackI l f S V t c W 0) : WayIs l f s t S W := by
  refine ⟨fun ht => (h.2.2 ht).2, fun ht => ?_, fun x hx => ?_, h.1.nodup⟩
  · have := back_end hS h.1 (h.2.1 ht)
    rw [← this]
    exact h.1.way
  · obtain ⟨j, _, j1, j2, rfl⟩ := h.1.from' x hx
    exact ⟨(h.1.room _ hx).1, (h.1.room _ hx).2, (hS.via j j1 j2).2.1⟩
def WayPost (w : World) (l : List Ed) (f : List Int) (s t : Int) (S : List Int) (e : Ending) (w' : World) : Prop :=
  ∃ (A : Option Addr) (c : Nat) (W : List Int), e = .returned (.slice A W.length c) ∧ OwnI w' w.heap.size A c W ∧ WayIs l f s t S W ∧ Below w.heap.size w w'
theorem nodup_lenN {l : List Nat} {n : Nat} (h : l.Nodup) (hk : ∀ k ∈ l, k < n) : l.length ≤ n := by
  have h1 := nodup_len (a := l.map fun k : Nat => (k : Int)) (b := (List.range n).map fun k : Nat => (k : Int)) (List.pairwise_map.2 (List.Pairwise.imp (fun hne e => hne (by omega)) h)) (fun x hx => by
    obtain ⟨k, hk1, rfl⟩ := List.mem_map.1 hx
    exact List.mem_map.2 ⟨k, List.mem_range.2 (hk k hk1), rfl⟩)
  rwa [List.length_map, List.length_map, List.length_range] at h1
theorem way_len {l : List Ed} {f S V W : List Int} {t c : Int} {n : Nat} (h : BackI l f S V t c W n) : W.length ≤ l.length := by
  have h1 := nodup_lenN (l := W.map idx) (n := l.length) h.1.nodup (fun k hk => by
    obtain ⟨x, hx, rfl⟩ := List.mem_map.1 hk
    exact (h.1.room x hx).1)
  rwa [List.length_map] at h1

set_option maxRecDepth 100000 in
set_option maxHeartbeats 4000000 in
theorem way_any (A A1 A2 : Option Addr) (l : List Ed) (f S V : List Int) (c c1 c2 base : Nat) (s t : Int) (w : World) (hp : Es w w.heap.size A l) (h1 : OwnI w base A1 c1 S) (h2 : OwnI w base A2 c2 V) (hS : Srch l f s S V S.length 0) (hmax : l.length ≤ 200) :
    Calls Try.prog 45 #[.slice A l.length c, .slice A1 S.length c1, .slice A2 V.length c2, .int .i64 t] w (WayPost w l f s t S) := by
  obtain ⟨g1, rfl, _, _⟩ := own_addr h1 hS.pos
  obtain ⟨g2, rfl, _, _⟩ := own_addr h2 (by rw [hS.len]; exact hS.pos)
  have hP := Lib.hid hp
  have hR1 := Lib.hid h1.rd
  have hR2 := Lib.hid h2.rd
  have hR2' := hR2
  have hLe := Lib.hid hS.len
  have hps := hS.pos
  have hsl := srch_len hS
  have hB0 := Lib.hid (backI_start (l := l) (f := f) (S := S) (V := V) (t := t))
  have hSk := Lib.hid (fun (c : Int) (W : List Int) (n : Nat) (h : BackI l f S V t c W (n + 1)) => backI_skip hS h)
  have hTk := Lib.hid (fun (c : Int) (W : List Int) (n : Nat) (h : BackI l f S V t c W (n + 1)) => backI_take hS h)
  have hVi := Lib.hid hS.via
  have hV0 := Lib.hid hS.v0
  have hWl := Lib.hid (fun (c : Int) (W : List Int) (n : Nat) (h : BackI l f S V t c W n) => way_len h)
  have hEnd : Hid (∀ (c : Int) (W : List Int), BackI l f S V t c W 0 → ∀ (A' : Option Addr) (c' : Nat) (w' : World), OwnI w' w.heap.size A' c' W → Below w.heap.size w w' → WayPost w l f s t S (.returned (.slice A' W.length c')) w') := Lib.hid (fun c W h A' c' w' h3 h4 => ⟨A', c', W, rfl, h3, backI_end hS h, h4⟩)
  generalize WayPost w l f s t S = goal at *
  generalize BackI l f S V t = BB at *
  clear hp h1 h2 hS
  go_enter Try.func45, Try.ntmps45
  have hw0 : IntKind.i64.wrap ((S.length : Int) - 1) = (S.length : Int) - 1 := IntWalk.i64_in _ (by omega)
  go_wp2
  clear hw0
  have hst : ((S.length : Int) - 1) = ((S.length : Nat) : Int) - 1 := rfl
  go_loopw [3, 9, 10] (fun v3 v9 i wr => ∃ (n q c9 : Nat) (z cc : Int) (A9 : Option Addr) (W : List Int), n ≤ S.length ∧ i = .int .i64 z ∧ v3 = .int .i64 cc ∧ v9 = .slice A9 q c9 ∧ Hid (z = (n : Int) - 1) ∧ Hid (q = W.length) ∧ Hid (BB cc W n) ∧ Hid (OwnI wr w.heap.size A9 c9 W) ∧ Hid (Below w.heap.size w wr)) (fun _ _ i _ => (intOf i + 1).toNat)
  case atStart => exact ⟨S.length, 0, 0, _, t, none, [], Nat.le_refl _, rfl, rfl, rfl, Lib.hid rfl, Lib.hid rfl, hB0, Lib.hid (ownI_nil _ _), Lib.hid (Below.refl _ _)⟩
  case round =>
    clear hB0 hst
    obtain ⟨n, q, c9, z, cc, A9, W, hn, rfl, rfl, rfl, hz, hq, hBk, hO, hB⟩ := hrel
    cases n with
    | zero =>
      obtain rfl : z = -1 := by have := hz.out; omega
      obtain rfl := hq.out
      have hR := Lib.hid (hEnd.out cc W hBk.out A9 c9 wr hO.out hB.out)
      clear hEnd hSk hTk hVi hWl hP hR1 hR2
      go_wp2
      exact hR.out
    | succ m =>
      obtain rfl : z = (m : Int) := by have := hz.out; omega
      have hmS : m < S.length := by omega
      have hmV : m < V.length := by rw [hLe.out]; exact hmS
      obtain ⟨sd, e1, _, cs⟩ := (hR1.out.below hB.out).get (cellsI_ix hmS)
      injection e1 with e1
      subst e1
      obtain ⟨vd, e2, _, cv⟩ := (hR2.out.below hB.out).get (cellsI_ix hmV)
      injection e2 with e2
      subst e2
      rw [add_pos] at cs cv
      have hsk := Lib.hid (hSk.out cc W m hBk.out hmS)
      have htk := Lib.hid (hTk.out cc W m hBk.out hmS)
      have hwl := hWl.out cc W _ hBk.out
      have hvi := Lib.hid (hVi.out m)
      have hi1 : (m : Int) < (S.length : Int) := by omega
      have hi2 : (m : Int) < (V.length : Int) := by omega
      have hi3 : (0 : Int) ≤ (m : Int) := by omega
      have hge : (m : Int) ≥ 0 := hi3
      have hwm : IntKind.i64.wrap ((m : Int) - 1) = (m : Int) - 1 := IntWalk.i64_in _ (by omega)
      obtain rfl := hq.out
      clear hEnd hSk hTk hVi hWl hR1 hR2 hBk hz hq
      generalize ix S m = u at *
      generalize hv : ix V m = v at *
      by_cases hu : u = cc
      · have hub : (u != cc) = false := by simp [hu]
        by_cases hv0 : v = 0
        · have hvb : (v == 0) = true := beq_iff_eq.2 hv0
          have hR := Lib.hid (hsk.out (.inr hv0))
          clear hsk htk hvi hP hu hv0 hv
          go_wp2
          exact ⟨⟨m, _, c9, _, cc, A9, W, by omega, rfl, rfl, rfl, Lib.hid rfl, Lib.hid rfl, hR, hO, hB⟩, by simp [intOf]⟩
        · have hvb : (v == 0) = false := beq_eq_false_iff_ne.2 hv0
          have hR := Lib.hid (htk.out hu hv0)
          obtain ⟨v1, _, _, _⟩ := hvi.out (by
            rcases Nat.eq_zero_or_pos m with h | h
            · exact absurd (by rw [← hv, h]; exact hV0.out) hv0
            · exact h) hmS
          have hxw := Lib.hid v1
          obtain ⟨kk, hkk⟩ : ∃ kk, idx v = kk := ⟨_, rfl⟩
          have hk := v1
          rw [hkk] at hk
          have hC := Lib.hid (fun (W : World) (h : Below w.heap.size w W) => (hP.out.below h).get hk)
          have hC2 := Lib.hid (fun (W : World) (h : Below w.heap.size w W) => (show W.cell? ⟨g2, m, none⟩ = some (.int .i64 v) from by
            obtain ⟨vd, e2, _, cv⟩ := (hR2'.out.below h).get (cellsI_ix hmV)
            injection e2 with e2
            subst e2
            rw [add_pos, hv] at cv
            exact cv))
          have hBx := Lib.hid (hB.out.alloc hB.out.size (.cells #[.int .i64 v] 3))
          have hOx := Lib.hid (World.ownsRow.alloc hO.out (.cells #[.int .i64 v] 3))
          have hik : (kk : Int) < (l.length : Int) := by omega
          have hik0 : (0 : Int) ≤ (kk : Int) := by omega
          by_cases hvp : 0 < v
          · have htl : tlE l v = eF l kk := by unfold tlE; rw [if_pos hvp, hkk]
            have e3 : v - 1 = (kk : Int) := by rw [← hkk]; unfold idx; omega
            have e4 : IntKind.i64.wrap (v - 1) = (kk : Int) := by rw [e3]; exact IntWalk.i64_in _ (by omega)
            rw [htl] at hR
            generalize eF l kk = y1 at *
            have hvg : v > 0 := hvp
            have e3 := Lib.hid e3
            clear hsk htk hvi hu hv0 hv v1 hxw hkk htl hP hV0 hLe
            go_wp2_with (at_builtin; refine wpList_app_one rfl (.tmp 31) (.tmp 36) rfl v rfl rfl (World.news_of_block (heap_alloc_new wr (.cells #[.int .i64 v] 3)) 0 _ rfl) hOx.out hBx.out.size (by omega) ?_; intro g5 c5 w5 h5 g5g l5; (have H5 := Lib.hid h5); (have E5 := Lib.hid (hBx.out.grown g5g hBx.out.size (fun k h => (own_lt' hOx.out k h).1))); (have cv5 := hC2.out w5 E5.out); (obtain ⟨ad, rfl, hab, x0, x1, x2, x3⟩ := hC.out w5 E5.out); clear h5 g5g l5)
            exact ⟨⟨m, _, c5, _, y1, _, W ++ [v], by omega, rfl, rfl, rfl, Lib.hid rfl, Lib.hid (by rw [List.length_append]; rfl), hR, H5, E5⟩, by simp [intOf]⟩
          · have htl : tlE l v = eT l kk := by unfold tlE; rw [if_neg hvp, hkk]
            have e3 : -v - 1 = (kk : Int) := by rw [← hkk]; unfold idx; omega
            have hvb2 : -1000 ≤ v := by omega
            have e4 : IntKind.i64.wrap (-v) = -v := IntWalk.i64_in _ (by omega)
            have e5 : IntKind.i64.wrap (-v - 1) = (kk : Int) := by rw [e3]; exact IntWalk.i64_in _ (by omega)
            rw [htl] at hR
            generalize eT l kk = y1 at *
            have hvg : ¬ v > 0 := hvp
            have e3 := Lib.hid e3
            clear hsk htk hvi hu hv0 hv v1 hxw hkk htl hP hV0 hLe
            go_wp2_with (at_builtin; refine wpList_app_one rfl (.tmp 31) (.tmp 36) rfl v rfl rfl (World.news_of_block (heap_alloc_new wr (.cells #[.int .i64 v] 3)) 0 _ rfl) hOx.out hBx.out.size (by omega) ?_; intro g5 c5 w5 h5 g5g l5; (have H5 := Lib.hid h5); (have E5 := Lib.hid (hBx.out.grown g5g hBx.out.size (fun k h => (own_lt' hOx.out k h).1))); (have cv5 := hC2.out w5 E5.out); (obtain ⟨ad, rfl, hab, x0, x1, x2, x3⟩ := hC.out w5 E5.out); clear h5 g5g l5)
            exact ⟨⟨m, _, c5, _, y1, _, W ++ [v], by omega, rfl, rfl, rfl, Lib.hid rfl, Lib.hid (by rw [List.length_append]; rfl), hR, H5, E5⟩, by simp [intOf]⟩
      · have hub : (u != cc) = true := bne_iff_ne.2 hu
        have hR := Lib.hid (hsk.out (.inl hu))
        clear hsk htk hvi hP hu hv
        go_wp2
        exact ⟨⟨m, _, c9, _, cc, A9, W, by omega, rfl, rfl, rfl, Lib.hid rfl, Lib.hid rfl, hR, hO, hB⟩, by simp [intOf]⟩
end Go.Proofs.Ytdemnbbofigcdaa
