/- The package's Cut. -/
import Derived.Test.YtdemnbbofigcdaaLeastG
import Derived.Test.YtdemnbbofigcdaaCmp
import Derived.Test.YtdemnbbofigcdaaTwoRows
namespace Go.Proofs.Ytdemnbbofigcdaa
open Go.RowKit

/-- Of the first n edges, the indices of those that lead out of a set. -/
def cutN (l : List Ed) (X : Int → Bool) : Nat → List Int
  | 0 => []
  | k + 1 => cutN l X k ++ if X (eF l k) = true ∧ X (eT l k) = false then [(k : Int)] else []
theorem cutN_len (l : List Ed) (X : Int → Bool) : ∀ n : Nat, (cutN l X n).length ≤ n
  | 0 => Nat.le_refl _
  | n + 1 => by
    have := cutN_len l X n
    rw [cutN, List.length_append]
    split <;> simp <;> omega
theorem cutN_congr {l : List Ed} {X Y : Int → Bool} (h : ∀ x, X x = Y x) : ∀ n : Nat, cutN l X n = cutN l Y n
  | 0 => rfl
  | n + 1 => by rw [cutN, cutN, cutN_congr h n, h, h]
def CutPost (W : World) (l : List Ed) (s t : Int) (e : Ending) (w' : World) : Prop :=
  ∃ (A : Option Addr) (c : Nat) (L : List Int), e = .returned (.slice A L.length c) ∧ OwnI w' W.heap.size A c L ∧ (s = t → L = []) ∧ (s ≠ t → ∃ f, IsFlow l f s t ∧ ¬ Rs l f s t ∧ L = cutN l (RsB l f s) l.length) ∧ Below W.heap.size W w'
set_option maxRecDepth 100000 in
set_option maxHeartbeats 8000000 in
theorem gCut_any (A : Option Addr) (l : List Ed) (c : Nat) (s t : Int) (w : World) (hp : Es w w.heap.size A l) (hg : Grph l) (hws : (Lit.int .i64 s).wf = true) :
    Calls Try.prog 21 #[.slice A l.length c, .int .i64 s, .int .i64 t] w (CutPost w l s t) := by
  have hgl := hg.1
  by_cases hst : s = t
  · have hb : (s == t) = true := beq_iff_eq.2 hst
    have hR : Hid (CutPost w l s t (.returned (.slice none 0 0)) w) := Lib.hid ⟨none, 0, [], rfl, ownI_nil _ _, fun _ => rfl, fun h => absurd hst h, Below.refl _ _⟩
    generalize CutPost w l s t = goal at *
    clear hp hg hst hws
    go_enter Try.func21, Try.ntmps21
    go_wp2
    exact hR.out
  · have hb : (s == t) = false := beq_eq_false_iff_ne.2 hst
    have kF := Lib.hid (gFind_any A l c s t w hp hg)
    have kL := Lib.hid (fun (B : Option Addr) (d : Nat) (f : List Int) (W : World) (b : Below w.heap.size w W) (ho : OwnI W w.heap.size B d f) (hl : f.length = l.length) => gLeast_any A B l f c d s W (hp.up b) ho.rd hl hg hws)
    have hP := Lib.hid hp
    have hst' := Lib.hid hst
    have hEnd : Hid (∀ (f : List Int) (A' : Option Addr) (c' : Nat) (w' : World), IsFlow l f s t → ¬ Rs l f s t → OwnI w' w.heap.size A' c' (cutN l (RsB l f s) l.length) → Below w.heap.size w w' → CutPost w l s t (.returned (.slice A' (cutN l (RsB l f s) l.length).length c')) w') := Lib.hid (fun f A' c' w' h1 h2 h3 h4 => ⟨A', c', _, rfl, h3, fun h => absurd h hst, fun _ => ⟨f, h1, h2, rfl⟩, h4⟩)
    generalize CutPost w l s t = goal at *
    clear hp hg hws hst
    go_enter Try.func21, Try.ntmps21
    go_upto_region 4 with (first
      | (go_at_call 19; (with_reducible refine (kF.out).mono ?_); rintro e w1 ⟨A1, c1, f, rfl, h1, h2, h3, h4, b1⟩; (have kL1 := kL.out A1 c1 f w1 b1 h2 h1); rw [h1] at kL1; (have KL1 := Lib.hid kL1); (have HF := Lib.hid (h4 hst'.out)); (have B1 := Lib.hid b1); clear h1 h2 h3 h4 b1 kL1)
      | (go_at_call 34; (with_reducible refine (KL1.out).mono ?_); rintro e w2 ⟨A2, c2, I, rfl, h5, h6, h7, b2⟩; (have HI := Lib.hid h5); (have HL := Lib.hid h6); (have HM := Lib.hid h7); (have B2 := Lib.hid (B1.out.trans (b2.mono B1.out.size))); clear h5 h6 h7 b2))
    have hIn : Hid (0 < I.length) := Lib.hid (List.length_pos_of_mem ((HM.out s).2 .base))
    have hX : Hid (∀ x, RsB l f s x = true ↔ x ∈ I) := Lib.hid (fun x => rsB_iff.trans (HM.out x).symm)
    have hE := Lib.hid (fun (A' : Option Addr) (c' : Nat) (w' : World) => hEnd.out f A' c' w' HF.out.1 HF.out.2)
    generalize RsB l f s = X at *
    have hCs : Hid (∀ k, cutN l X (k + 1) = cutN l X k ++ if X (eF l k) = true ∧ X (eT l k) = false then [(k : Int)] else []) := Lib.hid (fun _ => rfl)
    have hCl := Lib.hid (cutN_len l X)
    have hC0 : Hid (cutN l X 0 = []) := Lib.hid rfl
    generalize cutN l X = CC at *
    clear kF kL KL1 hEnd HF HM hst'
    go_wp2
    go_loopw [6, 22] (fun v6 i wr => ∃ (k q6 c6 : Nat) (A6 : Option Addr), k ≤ l.length ∧ i = .int .i64 k ∧ v6 = .slice A6 q6 c6 ∧ Hid (q6 = (CC k).length) ∧ Hid (OwnI wr w2.heap.size A6 c6 (CC k)) ∧ Hid (Below w2.heap.size w2 wr)) (fun _ i _ => l.length - (intOf i).toNat)
    case atStart => exact ⟨0, 0, 0, none, by omega, rfl, rfl, Lib.hid (by rw [hC0.out]; rfl), Lib.hid (by rw [hC0.out]; exact ownI_nil _ _), Lib.hid (Below.refl _ _)⟩
    case round =>
      clear hC0
      obtain ⟨k, q6, c6, A6, hk, rfl, rfl, hq6, hO, hB⟩ := hrel
      by_cases hlt : k < l.length
      · obtain ⟨ad, rfl, hab, x0, x1, x2, x3⟩ := (hP.out.below (B2.out.trans (hB.out.mono B2.out.size))).get hlt
        have hst := Lib.hid (hCs.out k)
        have hcl : q6 ≤ k := by have := hCl.out k; rw [hq6.out]; exact this
        have hx1 := Lib.hid (hX.out (eF l k))
        have hx2 := Lib.hid (hX.out (eT l k))
        clear hE hX hCs hCl
        generalize eI l k = y0 at *
        generalize eF l k = y1 at *
        generalize eT l k = y2 at *
        generalize eC l k = y3 at *
        have hBx := Lib.hid (hB.out.alloc hB.out.size (.cells #[.int .i64 y0, .int .i64 y1, .int .i64 y2, .int .i64 y3] 33))
        have hOx := Lib.hid (World.ownsRow.alloc hO.out (.cells #[.int .i64 y0, .int .i64 y1, .int .i64 y2, .int .i64 y3] 33))
        obtain ⟨z0, z1, z2, z3⟩ := box_four (Below.refl (wr.alloc (.cells #[.int .i64 y0, .int .i64 y1, .int .i64 y2, .int .i64 y3] 33)).heap.size _)
        have hRx := Lib.hid ((HI.out.up hBx.out).rd)
        have k1 := Lib.hid (contains_any A2 I c2 y1 _ hRx.out (by have := HL.out; omega))
        have k2 := Lib.hid (contains_any A2 I c2 y2 _ hRx.out (by have := HL.out; omega))
        have e1 : Hid (X y1 = hasB I y1) := Lib.hid (by
          cases h : hasB I y1 with
          | true => exact hx1.out.2 (hasB_iff.1 h)
          | false => cases h2 : X y1 with
            | false => rfl
            | true => rw [hasB_true (hx1.out.1 h2)] at h; cases h)
        have e2 : Hid (X y2 = hasB I y2) := Lib.hid (by
          cases h : hasB I y2 with
          | true => exact hx2.out.2 (hasB_iff.1 h)
          | false => cases h2 : X y2 with
            | false => rfl
            | true => rw [hasB_true (hx2.out.1 h2)] at h; cases h)
        generalize hasB I y1 = b1 at *
        generalize hasB I y2 = b2 at *
        rw [e1.out, e2.out] at hst
        clear e1 e2 hx1 hx2 hRx hB hO
        have hcase : b1 = false ∨ (b1 = true ∧ b2 = true) ∨ (b1 = true ∧ b2 = false) := by cases b1 <;> cases b2 <;> simp
        rcases hcase with rfl | ⟨rfl, rfl⟩ | ⟨rfl, rfl⟩
        · rw [if_neg (by simp), List.append_nil] at hst
          go_wp2_with (go_at_call 35; (with_reducible refine (k1.out).mono ?_); rintro e wq ⟨rfl, rfl⟩)
          exact ⟨⟨k + 1, q6, c6, A6, by omega, by go_num, rfl, Lib.hid (by rw [hst.out]; exact hq6.out), Lib.hid (by rw [hst.out]; exact hOx.out), hBx⟩, by simp [intOf]; omega⟩
        · rw [if_neg (by simp), List.append_nil] at hst
          go_wp2_with (first
            | (go_at_call 35; (with_reducible refine (k1.out).mono ?_); rintro e wq ⟨rfl, rfl⟩)
            | (go_at_call 35; (with_reducible refine (k2.out).mono ?_); rintro e wq ⟨rfl, rfl⟩))
          exact ⟨⟨k + 1, q6, c6, A6, by omega, by go_num, rfl, Lib.hid (by rw [hst.out]; exact hq6.out), Lib.hid (by rw [hst.out]; exact hOx.out), hBx⟩, by simp [intOf]; omega⟩
        · rw [if_pos (by simp)] at hst
          obtain rfl := hq6.out
          have hmx := Nat.le_trans hcl hk
          have hs1 : (wr.alloc (.cells #[.int .i64 y0, .int .i64 y1, .int .i64 y2, .int .i64 y3] 33)).heap.size = wr.heap.size + 1 := by simp
          have hNew : Hid (((wr.alloc (.cells #[.int .i64 y0, .int .i64 y1, .int .i64 y2, .int .i64 y3] 33)).alloc (.cells #[.int .i64 (k : Int)] 3)).cell? ⟨wr.heap.size + 1, 0, none⟩ = some (.int .i64 (k : Int))) := Lib.hid (by
            have := World.news_of_block (heap_alloc_new (wr.alloc (.cells #[.int .i64 y0, .int .i64 y1, .int .i64 y2, .int .i64 y3] 33)) (.cells #[.int .i64 (k : Int)] 3)) 0 _ rfl
            rw [hs1] at this
            exact this)
          have hSz : Hid (w2.heap.size ≤ ((wr.alloc (.cells #[.int .i64 y0, .int .i64 y1, .int .i64 y2, .int .i64 y3] 33)).alloc (.cells #[.int .i64 (k : Int)] 3)).heap.size) := Lib.hid (Nat.le_trans hBx.out.size (by simp))
          clear hs1
          go_wp2_with (first
            | (go_at_call 35; (with_reducible refine (k1.out).mono ?_); rintro e wq ⟨rfl, rfl⟩)
            | (go_at_call 35; (with_reducible refine (k2.out).mono ?_); rintro e wq ⟨rfl, rfl⟩)
            | (at_builtin; refine wpList_app_one rfl (.tmp 38) (.tmp 40) rfl (gx := wr.heap.size + 1) (k : Int) rfl rfl hNew.out (World.ownsRow.alloc hOx.out _) hSz.out (by omega) ?_; intro g5 c5 w5 h5 g6 l6; (have O5 := Lib.hid h5); (have B5 := Lib.hid ((hBx.out.alloc hBx.out.size _).grown g6 hSz.out (fun q h => (own_lt' hOx.out q h).1))); clear h5 g6 l6))
          exact ⟨⟨k + 1, _, c5, _, by omega, by go_num, rfl, Lib.hid (by rw [hst.out, List.length_append]; rfl), Lib.hid (by rw [hst.out]; exact O5.out), B5⟩, by simp [intOf]; omega⟩
      · obtain rfl : k = l.length := by omega
        obtain rfl := hq6.out
        have hR := Lib.hid (hE.out A6 c6 wr (hO.out.less B2.out.size) (B2.out.trans (hB.out.mono B2.out.size)))
        clear hE hX hCs hCl hP hO hB
        go_wp2
        exact hR.out
end Go.Proofs.Ytdemnbbofigcdaa
