/- The reference's search. -/
import Derived.Test.YtdemnbbofigcdaaSrch
import Derived.Test.YtdemnbbofigcdaaNetR
import Derived.Test.YtdemnbbofigcdaaTwoRows
import Derived.Laws.OwnMore
namespace Go.Proofs.Ytdemnbbofigcdaa
open Go.RowKit

theorem dj_step {A B : Option Addr} {g h : Nat} (hD : blk A ≠ blk B) (hl : blk A = some g ∨ g = h) (hB : ∀ k, blk B = some k → k < h) : some g ≠ blk B := by
  rcases hl with hl | hl
  · rw [← hl]; exact hD
  · intro e
    have := hB g e.symm
    omega
theorem own_lt' {w : World} {base c : Nat} {A : Option Addr} {l : List Int} (h : OwnI w base A c l) : ∀ k, blk A = some k → base ≤ k ∧ k < w.heap.size := fun k hk => World.ownsRow.lt h k (by rw [own_block]; exact hk)
def SrchPost (W : World) (l : List Ed) (f : List Int) (s : Int) (e : Ending) (w' : World) : Prop :=
  ∃ (A1 A2 : Option Addr) (c1 c2 : Nat) (S V : List Int), e = .returned (.tuple #[.slice A1 S.length c1, .slice A2 V.length c2]) ∧ OwnI w' W.heap.size A1 c1 S ∧ OwnI w' W.heap.size A2 c2 V ∧ Srch l f s S V S.length 0 ∧ Below W.heap.size W w'
theorem own_one (w : World) (base : Nat) (x : Int) (hb : base ≤ w.heap.size) : OwnI (w.alloc (.cells #[.int .i64 x] 3)) base (some ⟨w.heap.size, 0, none⟩) 1 [x] :=
  World.ownsRow_lit w #[.int .i64 x] 1 hb (by unfold maxLen; omega) rfl
set_option maxRecDepth 100000 in
set_option maxHeartbeats 8000000 in
theorem search_any (A B : Option Addr) (l : List Ed) (f : List Int) (c d : Nat) (s : Int) (w : World) (hp : Es w w.heap.size A l) (hq : Rd w w.heap.size B d (cellsI f)) (hl : Low l f) :
    Calls Try.prog 36 #[.slice A l.length c, .slice B f.length d, .int .i64 s] w (SrchPost w l f s) := by
  have hP := Lib.hid hp
  have hQ := Lib.hid hq
  have hLen := Lib.hid hl.1
  have hmax := hl.2.1
  have hs0 := Lib.hid (srch_start l f s)
  have hSl := Lib.hid (fun (S V : List Int) (i k : Nat) (h : Srch l f s S V i k) => srch_len h)
  have hVl := Lib.hid (fun (S V : List Int) (i k : Nat) (h : Srch l f s S V i k) => h.len)
  have hFw := Lib.hid (fun (S V : List Int) (i k : Nat) (h : Srch l f s S V i k) => srch_r1 h)
  have hBw := Lib.hid (fun (S V : List Int) (i k : Nat) (h : Srch l f s S V i k) => srch_r2 h)
  have hSt := Lib.hid (fun (S V : List Int) (i k : Nat) (h : Srch l f s S V i k) => srch_step h)
  have hRo := Lib.hid (fun (S V : List Int) (i : Nat) (h : Srch l f s S V i l.length) => srch_row h)
  have hE : Hid (∀ (S V : List Int), Srch l f s S V S.length 0 → ∀ (A1 A2 : Option Addr) (c1 c2 : Nat) (w' : World), OwnI w' w.heap.size A1 c1 S → OwnI w' w.heap.size A2 c2 V → Below w.heap.size w w' → SrchPost w l f s (.returned (.tuple #[.slice A1 S.length c1, .slice A2 V.length c2])) w') := Lib.hid (fun S V h A1 A2 c1 c2 w' h1 h2 h3 => ⟨A1, A2, c1, c2, S, V, rfl, h1, h2, h, h3⟩)
  obtain ⟨goal, hgo⟩ : ∃ goal, SrchPost w l f s = goal := ⟨_, rfl⟩
  rw [hgo] at hE ⊢
  generalize Srch l f s = SR at *
  clear hp hq hl hgo
  go_enter Try.func36, Try.ntmps36
  go_wp2
  have hO1 : Hid (OwnI ((w.alloc (.cells #[.int .i64 s] 3)).alloc (.cells #[.int .i64 0] 3)) w.heap.size (some ⟨w.heap.size, 0, none⟩) 1 [s]) := Lib.hid (World.ownsRow.alloc (own_one w w.heap.size s (Nat.le_refl _)) _)
  have hO2 : Hid (OwnI ((w.alloc (.cells #[.int .i64 s] 3)).alloc (.cells #[.int .i64 0] 3)) w.heap.size (some ⟨w.heap.size + 1, 0, none⟩) 1 [0]) := Lib.hid (by
    have h := own_one (w.alloc (.cells #[.int .i64 s] 3)) w.heap.size 0 (by simp)
    have e : (w.alloc (.cells #[.int .i64 s] 3)).heap.size = w.heap.size + 1 := by simp
    rw [e] at h
    exact h)
  have hB0 : Hid (Below w.heap.size w ((w.alloc (.cells #[.int .i64 s] 3)).alloc (.cells #[.int .i64 0] 3))) := Lib.hid (((Below.refl w.heap.size w).alloc (Nat.le_refl _) _).alloc (by simp) _)
  have hD0 : Hid (blk (some ⟨w.heap.size, 0, none⟩) ≠ blk (some ⟨w.heap.size + 1, 0, none⟩)) := Lib.hid (fun e => by injection e with e; have e : w.heap.size = w.heap.size + 1 := e; omega)
  go_loopw [8, 9, 10] (fun v8 v9 v10 wr => ∃ (S V : List Int) (A1 A2 : Option Addr) (c1 c2 q1 q2 i : Nat), v8 = .slice A1 q1 c1 ∧ v9 = .slice A2 q2 c2 ∧ v10 = .int .i64 i ∧ Hid (q1 = S.length) ∧ Hid (q2 = V.length) ∧ Hid (i ≤ S.length) ∧ Hid (SR S V i 0) ∧ Hid (OwnI wr w.heap.size A1 c1 S) ∧ Hid (OwnI wr w.heap.size A2 c2 V) ∧ Hid (blk A1 ≠ blk A2) ∧ Hid (Below w.heap.size w wr)) (fun _ _ v10 _ => 1000 - (intOf v10).toNat)
  case atStart => exact ⟨[s], [0], _, _, _, _, _, _, 0, rfl, rfl, rfl, Lib.hid rfl, Lib.hid rfl, Lib.hid (by simp), hs0, hO1, hO2, hD0, hB0⟩
  case round =>
    clear hs0 hO1 hO2 hB0 hD0
    obtain ⟨S, V, A1, A2, c1, c2, q1, q2, i, rfl, rfl, rfl, hq1, hq2, hi, hS, hO1, hO2, hD, hB⟩ := hrel
    obtain rfl := hq1.out
    obtain rfl := hq2.out
    have hsl := hSl.out S V i 0 hS.out
    by_cases hlt : i < S.length
    · have hlt2 : (i : Int) < (S.length : Int) := by omega
      clear hE hi
      go_wp2
      go_loopw [8, 9, 11] (fun v8 v9 v11 wr => ∃ (S V : List Int) (A1 A2 : Option Addr) (c1 c2 q1 q2 k : Nat), v8 = .slice A1 q1 c1 ∧ v9 = .slice A2 q2 c2 ∧ v11 = .int .i64 k ∧ k ≤ l.length ∧ Hid (q1 = S.length) ∧ Hid (q2 = V.length) ∧ Hid (i < S.length) ∧ Hid (SR S V i k) ∧ Hid (OwnI wr w.heap.size A1 c1 S) ∧ Hid (OwnI wr w.heap.size A2 c2 V) ∧ Hid (blk A1 ≠ blk A2) ∧ Hid (Below w.heap.size w wr)) (fun _ _ v11 _ => l.length - (intOf v11).toNat)
      case atStart => exact ⟨S, V, A1, A2, c1, c2, _, _, 0, rfl, rfl, rfl, Nat.zero_le _, Lib.hid rfl, Lib.hid rfl, Lib.hid hlt, hS, hO1, hO2, hD, hB⟩
      case round =>
        clear hS hO1 hO2 hD hB
        obtain ⟨S2, V2, A3, A4, c3, c4, q1, q2, k, rfl, rfl, rfl, hk, hq1, hq2, hi2, hS, hO1, hO2, hD, hB⟩ := hrel
        obtain rfl := hq1.out
        obtain rfl := hq2.out
        have hs2 := hSl.out S2 V2 i k hS.out
        have hv2 := Lib.hid (hVl.out S2 V2 i k hS.out)
        by_cases hkl : k < l.length
        · obtain ⟨ad, rfl, hab, _, x1, x2, x3⟩ := (hP.out.below hB.out).get hkl
          have hkf : k < f.length := by have := hLen.out; omega
          have hif := hi2.out
          obtain ⟨bd, rfl, _, cf⟩ := (hQ.out.below hB.out).get (cellsI_ix hkf)
          obtain ⟨sd, rfl, _, cs⟩ := (hO1.out.rd).get (cellsI_ix hif)
          have r1 := Lib.hid (hFw.out S2 V2 i k hS.out hif hkl)
          have r2 := Lib.hid (hBw.out S2 V2 i k hS.out hif hkl)
          have r0 := Lib.hid (hSt.out S2 V2 i k hS.out)
          have hum := Lib.hid (ix_mem hif)
          have hul := Lib.hid (fun (x : Int) => ix_left (S := S2) (x := x) hif)
          have hx2 : Hid (∀ W : World, Below w.heap.size w W → W.cell? { block := (ad.add (k * 4)).block, off := (ad.add (k * 4)).off + 2 } = some (.int .i64 (eT l k))) := Lib.hid (fun W h => by
            obtain ⟨ad', e', _, _, _, h2, _⟩ := (hP.out.below h).get hkl
            obtain rfl : ad = ad' := Option.some.inj e'
            exact h2)
          have hRd := Lib.hid hO1.out.rd
          have hRdN := Lib.hid (fun (n : Nat) => (OwnI.drewN hO1.out n).rd)
          have hi1 : (k : Int) < (f.length : Int) := by omega
          have hi4 : (k : Int) < (l.length : Int) := by omega
          have hi3 : (0 : Int) ≤ (k : Int) := by omega
          have hi5 : (i : Int) < (S2.length : Int) := by omega
          have hi6 : (0 : Int) ≤ (i : Int) := by omega
          have hm2 : Hid (S2.length ≤ 9223372036854775807) := Lib.hid (by omega)
          obtain ⟨b2, hb2⟩ : ∃ b, hasB S2 (eT l k) = b := ⟨_, rfl⟩
          obtain ⟨b1, hb1⟩ : ∃ b, hasB S2 (eF l k) = b := ⟨_, rfl⟩
          have hB2 := Lib.hid hb2
          have hB1 := Lib.hid hb1
          have hm := Lib.hid (fun (x : Int) => hasB_iff (l := S2) (n := x))
          clear hb1 hb2 hFw hBw hSt hS hRo hSl hVl hP hQ hk
          generalize eF l k = y1 at *
          generalize eT l k = y2 at *
          generalize eC l k = y3 at *
          generalize ix f k = x at *
          generalize ix S2 i = u at *
          have hF : ((y1 == u) = false ∧ Hid (y1 = u → x < y3 → y2 ∈ S2)) ∨ ((y1 == u) = true ∧ decide (x < y3) = false ∧ Hid (y1 = u → x < y3 → y2 ∈ S2)) ∨ ((y1 == u) = true ∧ decide (x < y3) = true ∧ b2 = true ∧ Hid (y1 = u → x < y3 → y2 ∈ S2)) ∨ ((y1 == u) = true ∧ decide (x < y3) = true ∧ b2 = false ∧ Hid (y1 = u ∧ x < y3 ∧ y2 ∉ S2)) := by
            by_cases h1 : y1 = u
            · have e1 : (y1 == u) = true := beq_iff_eq.2 h1
              by_cases h2 : x < y3
              · cases hb : b2 with
                | true => exact .inr (.inr (.inl ⟨e1, decide_eq_true h2, rfl, Lib.hid (fun _ _ => (hm.out y2).1 (hB2.out.trans hb))⟩))
                | false => exact .inr (.inr (.inr ⟨e1, decide_eq_true h2, rfl, Lib.hid ⟨h1, h2, hasB_not.1 (hB2.out.trans hb)⟩⟩))
              · exact .inr (.inl ⟨e1, decide_eq_false h2, Lib.hid (fun _ b => absurd b h2)⟩)
            · exact .inl ⟨beq_eq_false_iff_ne.2 h1, Lib.hid (fun a _ => absurd a h1)⟩
          have hT : ((y2 == u) = false ∧ Hid (y2 = u → 0 < x → y1 ∈ S2)) ∨ ((y2 == u) = true ∧ decide (x > 0) = false ∧ Hid (y2 = u → 0 < x → y1 ∈ S2)) ∨ ((y2 == u) = true ∧ decide (x > 0) = true ∧ b1 = true ∧ Hid (y2 = u → 0 < x → y1 ∈ S2)) ∨ ((y2 == u) = true ∧ decide (x > 0) = true ∧ b1 = false ∧ Hid (y2 = u ∧ 0 < x ∧ y1 ∉ S2)) := by
            by_cases h1 : y2 = u
            · have e1 : (y2 == u) = true := beq_iff_eq.2 h1
              by_cases h2 : 0 < x
              · cases hb : b1 with
                | true => exact .inr (.inr (.inl ⟨e1, decide_eq_true h2, rfl, Lib.hid (fun _ _ => (hm.out y1).1 (hB1.out.trans hb))⟩))
                | false => exact .inr (.inr (.inr ⟨e1, decide_eq_true h2, rfl, Lib.hid ⟨h1, h2, hasB_not.1 (hB1.out.trans hb)⟩⟩))
              · exact .inr (.inl ⟨e1, decide_eq_false h2, Lib.hid (fun _ b => absurd b h2)⟩)
            · exact .inl ⟨beq_eq_false_iff_ne.2 h1, Lib.hid (fun a _ => absurd a h1)⟩
          have hOy := Lib.hid (fun (n : Nat) (o : Obj) => World.ownsRow.alloc (OwnI.drewN hO2.out n) o)
          have hOx := Lib.hid (fun (n : Nat) (o : Obj) => World.ownsRow.alloc (OwnI.drewN hO1.out n) o)
          have hBx := Lib.hid (fun (n : Nat) (o : Obj) => (below_drewN hB.out n).alloc (below_drewN hB.out n).size o)
          have hSz := Lib.hid (fun (n : Nat) (o : Obj) => ((below_drewN (Below.refl wr.heap.size wr) n).alloc (below_drewN (Below.refl wr.heap.size wr) n).size o).size)
          clear hm
          rcases hF with ⟨f1, hP1⟩ | ⟨f1, f2, hP1⟩ | ⟨f1, f2, rfl, hP1⟩ | ⟨f1, f2, rfl, hP1⟩
          case inr.inr.inr =>
            have hR := Lib.hid (r1.out hP1.out.1 hP1.out.2.1 hP1.out.2.2)
            have g1 : (y2 == u) = false := beq_eq_false_iff_ne.2 (fun e => hP1.out.2.2 (by rw [e]; exact hum.out))
            clear hT r0 r1 r2 hum hP1
            go_wp2
            go_quiet ((go_at_call 37; exact has_q hRd.out hm2.out hB2.out))
            go_wp2_with (first
              | (at_builtin; refine wpList_app_one rfl (.tmp 59) (.tmp 65) rfl y2 rfl rfl (World.news_of_block (heap_alloc_new (wr.drewN _) (.cells #[.int .i64 y2] 3)) 0 _ rfl) (hOx.out _ _) (hBx.out _ _).size (by omega) ?_; intro g5 c5 w5 h5 g5g l5; (have H5 := Lib.hid h5); (have E5 := Lib.hid ((hBx.out _ _).grown g5g (hBx.out _ _).size (fun k h => (own_lt' hO1.out k h).1))); (have K5 := Lib.hid (OwnI.grown (hOy.out _ _) g5g (.inl (fun e => hD.out e.symm)))); (have D5 := Lib.hid (dj_step hD.out l5 (fun k h => Nat.lt_of_lt_of_le (own_lt' hO2.out k h).2 (hSz.out _ _)))); (have L5 := Lib.hid (own_lt' h5)); clear h5 g5g l5)
              | (at_builtin; refine wpList_app_one rfl (.tmp 67) (.tmp 70) rfl ((k : Int) + 1) rfl rfl (World.news_of_block (heap_alloc_new w5 (.cells #[.int .i64 ((k : Int) + 1)] 3)) 0 _ rfl) (World.ownsRow.alloc K5.out _) ((E5.out.alloc E5.out.size _).size) (by have := hv2.out; omega) ?_; intro g6 c6 w6 h6 g6g l6; (have H6 := Lib.hid h6); (have E6 := Lib.hid ((E5.out.alloc E5.out.size _).grown g6g (E5.out.alloc E5.out.size _).size (fun k h => (own_lt' K5.out k h).1))); (have K6 : Hid (OwnI w6 w.heap.size (some ⟨g5, 0, none⟩) c5 _) := Lib.hid (OwnI.grown (World.ownsRow.alloc H5.out _) g6g (.inl (fun e => D5.out e)))); (have D6 := Lib.hid (dj_step (A := A4) (B := some ⟨g5, 0, none⟩) (fun e => D5.out e.symm) l6 (fun k h => Nat.lt_of_lt_of_le (L5.out k h).2 (by simp)))); clear h6 g6g l6))
            have x2' := hx2.out w6 E6.out
            have hif5 : i < (S2 ++ [y2]).length := by rw [List.length_append]; omega
            obtain ⟨sd', e', _, cs'⟩ := (K6.out.rd).get (cellsI_ix hif5)
            injection e' with e'
            subst e'
            rw [hul.out y2, add_pos] at cs'
            have hi7 : (i : Int) < (S2.length : Int) + 1 := by omega
            clear x2 cs
            go_quiet (fail)
            go_wp2
            exact ⟨⟨S2 ++ [y2], V2 ++ [(k : Int) + 1], some ⟨g5, 0, none⟩, some ⟨g6, 0, none⟩, c5, c6, _, _, k + 1, rfl, rfl, by go_num, by omega, Lib.hid (by rw [List.length_append]; rfl), Lib.hid (by rw [List.length_append]; rfl), Lib.hid (by rw [List.length_append]; omega), hR, Lib.hid (OwnI.drewN K6.out _), Lib.hid (OwnI.drewN H6.out _), Lib.hid (fun e => D6.out e.symm), Lib.hid (below_drewN E6.out _)⟩, by simp [intOf]; omega⟩
          all_goals
            rcases hT with ⟨g1, hP2⟩ | ⟨g1, g2, hP2⟩ | ⟨g1, g2, rfl, hP2⟩ | ⟨g1, g2, rfl, hP2⟩
          all_goals
            first
              | (have hR := Lib.hid (r0.out hP1.out hP2.out)
                 clear r0 r1 r2 hum hP1 hP2 hOx hOy hBx hSz hx2 hul
                 first
                   | (have g4 : decide (0 < x) = true := g2; have g5 : 0 < x := of_decide_eq_true g2)
                   | (have g4 : decide (0 < x) = false := g2; have g5 : x ≤ 0 := by have := of_decide_eq_false g2; omega)
                   | skip
                 go_wp2
                 go_quiet ((go_at_call 37; exact has_q hRd.out hm2.out hB2.out))
                 go_wp2
                 go_quiet ((go_at_call 37; exact has_q2 hRd.out hm2.out hB1.out))
                 go_wp2
                 exact ⟨⟨S2, V2, some sd, A4, c3, c4, _, _, k + 1, rfl, rfl, by go_num, by omega, Lib.hid rfl, Lib.hid rfl, hi2, hR, Lib.hid (OwnI.drewN hO1.out _), Lib.hid (OwnI.drewN hO2.out _), hD, Lib.hid (below_drewN hB.out _)⟩, by simp [intOf]; omega⟩)
              | (have hR := Lib.hid (r2.out hP2.out.1 hP2.out.2.1 hP2.out.2.2)
                 clear r0 r1 r2 hum hP1 hP2 hx2 hul
                 first
                   | (have g4 : decide (0 < x) = true := g2; have g5 : 0 < x := of_decide_eq_true g2)
                   | (have g4 : decide (0 < x) = false := g2; have g5 : x ≤ 0 := by have := of_decide_eq_false g2; omega)
                   | skip
                 go_wp2
                 go_quiet ((go_at_call 37; exact has_q hRd.out hm2.out hB2.out))
                 go_wp2
                 go_quiet ((go_at_call 37; exact has_q2 hRd.out hm2.out hB1.out))
                 go_wp2_with (first
                   | (at_builtin; refine wpList_app_one rfl (.tmp 99) (.tmp 105) rfl y1 rfl rfl (World.news_of_block (heap_alloc_new (wr.drewN _) (.cells #[.int .i64 y1] 3)) 0 _ rfl) (hOx.out _ _) (hBx.out _ _).size (by omega) ?_; intro g5 c5 w5 h5 g5g l5; (have H5 := Lib.hid h5); (have E5 := Lib.hid ((hBx.out _ _).grown g5g (hBx.out _ _).size (fun k h => (own_lt' hO1.out k h).1))); (have K5 := Lib.hid (OwnI.grown (hOy.out _ _) g5g (.inl (fun e => hD.out e.symm)))); (have D5 := Lib.hid (dj_step hD.out l5 (fun k h => Nat.lt_of_lt_of_le (own_lt' hO2.out k h).2 (hSz.out _ _)))); (have L5 := Lib.hid (own_lt' h5)); clear h5 g5g l5)
                   | (at_builtin; refine wpList_app_one rfl (.tmp 107) (.tmp 111) rfl (-(k : Int) - 1) rfl rfl (World.news_of_block (heap_alloc_new w5 (.cells #[.int .i64 (-(k : Int) - 1)] 3)) 0 _ rfl) (World.ownsRow.alloc K5.out _) ((E5.out.alloc E5.out.size _).size) (by have := hv2.out; omega) ?_; intro g6 c6 w6 h6 g6g l6; (have H6 := Lib.hid h6); (have E6 := Lib.hid ((E5.out.alloc E5.out.size _).grown g6g (E5.out.alloc E5.out.size _).size (fun k h => (own_lt' K5.out k h).1))); (have K6 : Hid (OwnI w6 w.heap.size (some ⟨g5, 0, none⟩) c5 _) := Lib.hid (OwnI.grown (World.ownsRow.alloc H5.out _) g6g (.inl (fun e => D5.out e)))); (have D6 := Lib.hid (dj_step (A := A4) (B := some ⟨g5, 0, none⟩) (fun e => D5.out e.symm) l6 (fun k h => Nat.lt_of_lt_of_le (L5.out k h).2 (by simp)))); clear h6 g6g l6))
                 exact ⟨⟨S2 ++ [y1], V2 ++ [-(k : Int) - 1], some ⟨g5, 0, none⟩, some ⟨g6, 0, none⟩, c5, c6, _, _, k + 1, rfl, rfl, by go_num, by omega, Lib.hid (by rw [List.length_append]; rfl), Lib.hid (by rw [List.length_append]; rfl), Lib.hid (by rw [List.length_append]; have := hi2.out; omega), hR, K6, H6, Lib.hid (fun e => D6.out e.symm), E6⟩, by simp [intOf]; omega⟩)
        · obtain rfl : k = l.length := by omega
          have hR := Lib.hid (hRo.out S2 V2 i hS.out)
          have hif := hi2.out
          clear hS hFw hBw hSt hSl hVl hP hQ hi2
          go_wp2
          exact ⟨⟨S2, V2, A3, A4, c3, c4, _, _, i + 1, rfl, rfl, by go_num, Lib.hid rfl, Lib.hid rfl, Lib.hid (by omega), hR, hO1, hO2, hD, hB⟩, by simp [intOf]; omega⟩
    · obtain rfl : i = S.length := by have := hi.out; omega
      have hF := Lib.hid (hE.out S V hS.out A1 A2 c1 c2 wr hO1.out hO2.out hB.out)
      clear hE hS hO1 hO2 hD hB hi hFw hBw hSt hRo hSl hVl hP hQ
      go_wp2
      exact hF.out
end Go.Proofs.Ytdemnbbofigcdaa
