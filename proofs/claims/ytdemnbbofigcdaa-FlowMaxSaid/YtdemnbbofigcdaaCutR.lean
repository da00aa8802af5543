/- The reference's Max and Cut. -/
import Derived.Test.YtdemnbbofigcdaaFindR
import Derived.Test.YtdemnbbofigcdaaCutG
import Derived.Test.YtdemnbbofigcdaaValR
import Derived.Test.YtdemnbbofigcdaaHasR
namespace Go.Proofs.Ytdemnbbofigcdaa
open Go.RowKit

set_option maxRecDepth 100000 in
set_option maxHeartbeats 1000000 in
/-- The reference's Max: the value of a flow from s to t that leaves no way for more; 0 where they are one. -/
theorem rMax_any (A : Option Addr) (l : List Ed) (c : Nat) (s t : Int) (w : World) (hp : Es w w.heap.size A l) (hg : Grph l) :
    Calls Try.prog 18 #[.slice A l.length c, .int .i64 s, .int .i64 t] w fun e w' => ∃ n, e = .returned (.int .i64 n) ∧ (s = t → n = 0) ∧ (s ≠ t → ∃ f, IsFlow l f s t ∧ ¬ Rs l f s t ∧ n = net l f s) ∧ Below w.heap.size w w' := by
  by_cases hst : s = t
  · have hb : (s == t) = true := beq_iff_eq.2 hst
    have hst' := Lib.hid hst
    clear hp hg hst
    go_enter Try.func18, Try.ntmps18
    go_wp2
    go_ret
    exact ⟨0, rfl, fun _ => rfl, fun h => absurd hst'.out h, Below.refl _ _⟩
  · have hb : (s == t) = false := beq_eq_false_iff_ne.2 hst
    have kF := Lib.hid (rFind_any A l c s t w hp hg)
    have kV := Lib.hid (fun (B : Option Addr) (d : Nat) (f : List Int) (W : World) (b : Below w.heap.size w W) (ho : OwnI W w.heap.size B d f) (hl : Low l f) => refValue_any A B l f c d s W (hp.up b) ho.rd hl)
    have hLow := Lib.hid (fun (f : List Int) (h : IsFlow l f s t) => IsFlow.low hg h)
    have hst' := Lib.hid hst
    clear hp hg hst
    go_enter Try.func18, Try.ntmps18
    go_wp2_with (first
      | (go_at_call 30; (with_reducible refine (kF.out).mono ?_); rintro e w1 ⟨A1, c1, f, rfl, h1, h2, h3, h4, b1⟩; (have hf := h4 hst'.out); (have kV1 := kV.out A1 c1 f w1 b1 h2 (hLow.out f hf.1)); rw [h1] at kV1; (have KV1 := Lib.hid kV1); (have HF := Lib.hid hf); (have B1 := Lib.hid b1); clear h1 h2 h3 h4 b1 kV1 hf)
      | (go_at_call 16; (with_reducible refine (KV1.out).mono ?_); rintro e wq ⟨rfl, rfl⟩)
      | fail)
    go_ret
    exact ⟨_, rfl, fun h => absurd h hst'.out, fun _ => ⟨f, HF.out.1, HF.out.2, rfl⟩, B1.out⟩

set_option maxRecDepth 100000 in
set_option maxHeartbeats 8000000 in
theorem rCut_any (A : Option Addr) (l : List Ed) (c : Nat) (s t : Int) (w : World) (hp : Es w w.heap.size A l) (hg : Grph l) :
    Calls Try.prog 22 #[.slice A l.length c, .int .i64 s, .int .i64 t] w (CutPost w l s t) := by
  have hgl := hg.1
  by_cases hst : s = t
  · have hb : (s == t) = true := beq_iff_eq.2 hst
    have hR : Hid (CutPost w l s t (.returned (.slice none 0 0)) w) := Lib.hid ⟨none, 0, [], rfl, ownI_nil _ _, fun _ => rfl, fun h => absurd hst h, Below.refl _ _⟩
    generalize CutPost w l s t = goal at *
    clear hp hg hst
    go_enter Try.func22, Try.ntmps22
    go_wp2
    exact hR.out
  · have hb : (s == t) = false := beq_eq_false_iff_ne.2 hst
    have kF := Lib.hid (rFind_any A l c s t w hp hg)
    have kL := Lib.hid (fun (B : Option Addr) (d : Nat) (f : List Int) (W : World) (b : Below w.heap.size w W) (ho : OwnI W w.heap.size B d f) (hl : Low l f) => search_any A B l f c d s W (hp.up b) ho.rd hl)
    have hLow := Lib.hid (fun (f : List Int) (h : IsFlow l f s t) => IsFlow.low hg h)
    have hP := Lib.hid hp
    have hst' := Lib.hid hst
    have hEnd : Hid (∀ (f : List Int) (A' : Option Addr) (c' : Nat) (w' : World), IsFlow l f s t → ¬ Rs l f s t → OwnI w' w.heap.size A' c' (cutN l (RsB l f s) l.length) → Below w.heap.size w w' → CutPost w l s t (.returned (.slice A' (cutN l (RsB l f s) l.length).length c')) w') := Lib.hid (fun f A' c' w' h1 h2 h3 h4 => ⟨A', c', _, rfl, h3, fun h => absurd h hst, fun _ => ⟨f, h1, h2, rfl⟩, h4⟩)
    generalize CutPost w l s t = goal at *
    clear hp hg hst
    go_enter Try.func22, Try.ntmps22
    go_upto_region 5 with (first
      | (go_at_call 30; (with_reducible refine (kF.out).mono ?_); rintro e w1 ⟨A1, c1, f, rfl, h1, h2, h3, h4, b1⟩; (have hf := h4 hst'.out); (have kL1 := kL.out A1 c1 f w1 b1 h2 (hLow.out f hf.1)); rw [h1] at kL1; (have KL1 := Lib.hid kL1); (have HF := Lib.hid hf); (have B1 := Lib.hid b1); clear h1 h2 h3 h4 b1 kL1 hf)
      | (go_at_call 36; (with_reducible refine (KL1.out).mono ?_); rintro e w2 ⟨A2, A3, c2, c3, I, V, rfl, h5, h6, h7, b2⟩; (have HI := Lib.hid h5); (have HM := Lib.hid h7); (have B2 := Lib.hid (B1.out.trans (b2.mono B1.out.size))); clear h5 h6 h7 b2))
    have hIl := srch_len HM.out
    have hX : Hid (∀ x, RsB l f s x = true ↔ x ∈ I) := Lib.hid (fun x => rsB_iff.trans (srch_end HM.out).symm)
    have hE := Lib.hid (fun (A' : Option Addr) (c' : Nat) (w' : World) => hEnd.out f A' c' w' HF.out.1 HF.out.2)
    generalize RsB l f s = X at *
    have hCs : Hid (∀ k, cutN l X (k + 1) = cutN l X k ++ if X (eF l k) = true ∧ X (eT l k) = false then [(k : Int)] else []) := Lib.hid (fun _ => rfl)
    have hCl := Lib.hid (cutN_len l X)
    have hC0 : Hid (cutN l X 0 = []) := Lib.hid rfl
    generalize cutN l X = CC at *
    clear kF kL KL1 hEnd HF HM hst' hLow
    go_wp2
    go_loopw [7, 10] (fun v6 i wr => ∃ (k q6 c6 : Nat) (A6 : Option Addr), k ≤ l.length ∧ i = .int .i64 k ∧ v6 = .slice A6 q6 c6 ∧ Hid (q6 = (CC k).length) ∧ Hid (OwnI wr w2.heap.size A6 c6 (CC k)) ∧ Hid (Below w2.heap.size w2 wr)) (fun _ i _ => l.length - (intOf i).toNat)
    case atStart => exact ⟨0, 0, 0, none, by omega, rfl, rfl, Lib.hid (by rw [hC0.out]; rfl), Lib.hid (by rw [hC0.out]; exact ownI_nil _ _), Lib.hid (Below.refl _ _)⟩
    case round =>
      clear hC0
      obtain ⟨k, q6, c6, A6, hk, rfl, rfl, hq6, hO, hB⟩ := hrel
      by_cases hlt : k < l.length
      · obtain ⟨ad, rfl, hab, x0, x1, x2, x3⟩ := (hP.out.below (B2.out.trans (hB.out.mono B2.out.size))).get hlt
        have hst := Lib.hid (hCs.out k)
        have hcl : q6 ≤ k := by have := hCl.out k; rw [hq6.out]; exact this
        have hx1 := Lib.hid (hX.out (eF l k))
        have hx2 := Lib.hid (hX.out (eT l k))
        clear hE hX hCs hCl
        generalize eI l k = y0 at *
        generalize eF l k = y1 at *
        generalize eT l k = y2 at *
        generalize eC l k = y3 at *
        have hRx := Lib.hid ((HI.out.up hB.out).rd)
        have k1 := Lib.hid (has_any A2 I c2 y1 _ hRx.out (by omega))
        have k2 := Lib.hid (has_any A2 I c2 y2 _ hRx.out (by omega))
        have e1 : Hid (X y1 = hasB I y1) := Lib.hid (by
          cases h : hasB I y1 with
          | true => exact hx1.out.2 (hasB_iff.1 h)
          | false => cases h2 : X y1 with
            | false => rfl
            | true => rw [hasB_true (hx1.out.1 h2)] at h; cases h)
        have e2 : Hid (X y2 = hasB I y2) := Lib.hid (by
          cases h : hasB I y2 with
          | true => exact hx2.out.2 (hasB_iff.1 h)
          | false => cases h2 : X y2 with
            | false => rfl
            | true => rw [hasB_true (hx2.out.1 h2)] at h; cases h)
        generalize hasB I y1 = b1 at *
        generalize hasB I y2 = b2 at *
        rw [e1.out, e2.out] at hst
        clear e1 e2 hx1 hx2 hRx
        have hcase : b1 = false ∨ (b1 = true ∧ b2 = true) ∨ (b1 = true ∧ b2 = false) := by cases b1 <;> cases b2 <;> simp
        rcases hcase with rfl | ⟨rfl, rfl⟩ | ⟨rfl, rfl⟩
        · rw [if_neg (by simp), List.append_nil] at hst
          go_wp2_with (go_at_call 37; (with_reducible refine (k1.out).mono ?_); rintro e wq ⟨rfl, rfl⟩)
          exact ⟨⟨k + 1, q6, c6, A6, by omega, by go_num, rfl, Lib.hid (by rw [hst.out]; exact hq6.out), Lib.hid (by rw [hst.out]; exact hO.out), hB⟩, by simp [intOf]; omega⟩
        · rw [if_neg (by simp), List.append_nil] at hst
          go_wp2_with (first
            | (go_at_call 37; (with_reducible refine (k1.out).mono ?_); rintro e wq ⟨rfl, rfl⟩)
            | (go_at_call 37; (with_reducible refine (k2.out).mono ?_); rintro e wq ⟨rfl, rfl⟩))
          exact ⟨⟨k + 1, q6, c6, A6, by omega, by go_num, rfl, Lib.hid (by rw [hst.out]; exact hq6.out), Lib.hid (by rw [hst.out]; exact hO.out), hB⟩, by simp [intOf]; omega⟩
        · rw [if_pos (by simp)] at hst
          obtain rfl := hq6.out
          have hmx := Nat.le_trans hcl hk
          have hNew : Hid ((wr.alloc (.cells #[.int .i64 (k : Int)] 3)).cell? ⟨wr.heap.size, 0, none⟩ = some (.int .i64 (k : Int))) := Lib.hid (World.news_of_block (heap_alloc_new wr (.cells #[.int .i64 (k : Int)] 3)) 0 _ rfl)
          have hSz : Hid (w2.heap.size ≤ (wr.alloc (.cells #[.int .i64 (k : Int)] 3)).heap.size) := Lib.hid (Nat.le_trans hB.out.size (by simp))
          go_wp2_with (first
            | (go_at_call 37; (with_reducible refine (k1.out).mono ?_); rintro e wq ⟨rfl, rfl⟩)
            | (go_at_call 37; (with_reducible refine (k2.out).mono ?_); rintro e wq ⟨rfl, rfl⟩)
            | (at_builtin; refine wpList_app_one rfl (.tmp 48) (.tmp 50) rfl (gx := wr.heap.size) (k : Int) rfl rfl hNew.out (World.ownsRow.alloc hO.out _) hSz.out (by omega) ?_; intro g5 c5 w5 h5 g6 l6; (have O5 := Lib.hid h5); (have B5 := Lib.hid ((hB.out.alloc hB.out.size _).grown g6 hSz.out (fun q h => (own_lt' hO.out q h).1))); clear h5 g6 l6))
          exact ⟨⟨k + 1, _, c5, _, by omega, by go_num, rfl, Lib.hid (by rw [hst.out, List.length_append]; rfl), Lib.hid (by rw [hst.out]; exact O5.out), B5⟩, by simp [intOf]; omega⟩
      · obtain rfl : k = l.length := by omega
        obtain rfl := hq6.out
        have hR := Lib.hid (hE.out A6 c6 wr (hO.out.less B2.out.size) (B2.out.trans (hB.out.mono B2.out.size)))
        clear hE hX hCs hCl hP hO hB
        go_wp2
        exact hR.out
/-- Two answers of Max are one. -/
theorem max_same {l : List Ed} {s t n : Int} {fn : Nat} {vs : Array Value} {W : World} (k : Calls Try.prog fn vs W fun e w' => ∃ n, e = .returned (.int .i64 n) ∧ (s = t → n = 0) ∧ (s ≠ t → ∃ f, IsFlow l f s t ∧ ¬ Rs l f s t ∧ n = net l f s) ∧ Below W.heap.size W w')
    (h1 : s = t → n = 0) (h2 : s ≠ t → ∃ f, IsFlow l f s t ∧ ¬ Rs l f s t ∧ n = net l f s) : Calls Try.prog fn vs W fun e w' => e = .returned (.int .i64 n) ∧ Below W.heap.size W w' :=
  k.mono fun e w' ⟨m, k1, k2, k3, k4⟩ => ⟨by
    rw [k1]
    by_cases hst : s = t
    · rw [h1 hst, k2 hst]
    · obtain ⟨f, f1, f2, rfl⟩ := h2 hst
      obtain ⟨g, g1, g2, rfl⟩ := k3 hst
      rw [rs_value f1 f2 g1 g2], k4⟩
/-- Two answers of Cut are one. -/
theorem cut_eq {l : List Ed} {s t : Int} {L M : List Int} (a1 : s = t → L = []) (a2 : s ≠ t → ∃ f, IsFlow l f s t ∧ ¬ Rs l f s t ∧ L = cutN l (RsB l f s) l.length) (b1 : s = t → M = []) (b2 : s ≠ t → ∃ f, IsFlow l f s t ∧ ¬ Rs l f s t ∧ M = cutN l (RsB l f s) l.length) : L = M := by
  by_cases hst : s = t
  · rw [a1 hst, b1 hst]
  · obtain ⟨f, f1, f2, rfl⟩ := a2 hst
    obtain ⟨g, g1, g2, rfl⟩ := b2 hst
    exact cutN_congr (fun x => Bool.eq_iff_iff.2 (rsB_iff.trans ((rs_same f1 f2 g1 g2 x).trans rsB_iff.symm))) _
theorem cut_short {l : List Ed} {s t : Int} {L : List Int} (a1 : s = t → L = []) (a2 : s ≠ t → ∃ f, IsFlow l f s t ∧ ¬ Rs l f s t ∧ L = cutN l (RsB l f s) l.length) : L.length ≤ l.length := by
  by_cases hst : s = t
  · rw [a1 hst]; exact Nat.zero_le _
  · obtain ⟨f, _, _, rfl⟩ := a2 hst
    exact cutN_len ..
theorem same_self {A B : Option Addr} {a : List Int} {n c d : Nat} {w : World} (ha : Rd w w.heap.size A c (cellsI a)) (hb : Rd w w.heap.size B d (cellsI a)) (hn : a.length = n) (hmax : n ≤ 1000000) :
    Calls Try.prog 20 #[.slice A n c, .slice B n d] w fun e w' => e = .returned (.bool true) ∧ Below w.heap.size w w' := by
  have h := same_any A B a a c d w ha hb (by omega)
  have e : eqL a a = true := eqL_true rfl
  rwa [e, hn] at h
end Go.Proofs.Ytdemnbbofigcdaa
