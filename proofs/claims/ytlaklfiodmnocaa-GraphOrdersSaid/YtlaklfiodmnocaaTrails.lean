/- The package's trails. -/
import Derived.Test.YtlaklfiodmnocaaDijk
import Derived.Test.YtlaklfiodmnocaaOrdG
import Derived.BigRegion
namespace Go.Proofs.Ytlaklfiodmnocaa
open Go.RowKit

theorem zeroT (w : World) : (zeroValue 69).run Try.prog w = .ok (.agg #[.int .i64 0, .int .i64 0, .int .i64 0, .int .i64 0]) w := by kernel_rfl
theorem ow_new (w : World) (base : Nat) (x0 x1 x2 x3 : Int) (h : base ≤ w.heap.size) : Ow (w.alloc (.cells #[.int .i64 x0, .int .i64 x1, .int .i64 x2, .int .i64 x3] 69)) base 69 4 (some ⟨w.heap.size, 0, none⟩) 1 1 (cellsT [⟨x0, x1, x2, x3⟩]) :=
  ⟨rfl, .inr ⟨w.heap.size, 0, [], [], rfl, h, heap_alloc_new w _, rfl, Nat.le_refl _, by unfold maxLen; omega, Nat.le_refl _⟩⟩
theorem at4_grown {w w' : World} {g : Nat} {row : Option Nat} {a b c d : Value} (h : At4 w ⟨g, 0, none⟩ a b c d) (hg : w.grownBy w' row) (hl : g < w.heap.size) (hne : some g ≠ row) : At4 w' ⟨g, 0, none⟩ a b c d :=
  at4_by h fun q hq => World.cell?_of_block (hg.block _ (by rw [hq]; exact hl) (by rw [hq]; exact hne))
def TrsPost (W : World) (l : List Ed) (t : Int) (e : Ending) (w' : World) : Prop := ∃ b n m N, e = .returned (.map (some b)) ∧ MapV w' b n (tv m) ∧ Dj l t m [] [] N ∧ Below W.heap.size W w'
set_option maxRecDepth 100000 in
set_option maxHeartbeats 8000000 in
theorem trails_any (A : Option Addr) (l : List Ed) (c : Nat) (t : Int) (w : World) (hp : Es w w.heap.size A l) (hg : Grph l) :
    Calls Try.prog 45 #[.slice A l.length c, .int .i64 t] w (TrsPost w l t) := by
  have hgl := hg.1
  have hP := Lib.hid hp
  have hmm := @run_makeMap Try.prog
  have hPS := Lib.hid (posK_step l)
  have hPl := Lib.hid (fun (k : Nat) (y : Int) => posK_len l k y)
  have hPm := Lib.hid (fun (y i : Int) => (mem_posK (l := l) (k := l.length) (y := y) (i := i)).1)
  have hst := Lib.hid (tj_start l t)
  have hc := fun e he => (hg.2.1 e he).2.2.2.2.1
  have hKn := Lib.hid (fun (m : TM) (T : Tr) (O : List Tr) (N : Nat) (h : Dj l t m (T :: O) [] N) (hm : m T.node ≠ none) => tj_known h hm)
  have hNw := Lib.hid (fun (m : TM) (T : Tr) (O : List Tr) (N : Nat) (h : Dj l t m (T :: O) [] N) (hm : m T.node = none) => tj_new hc h hm)
  have hPt := Lib.hid (fun (m : TM) (O : List Tr) (R : List Int) (N p j : Nat) (s : Tr) (h : Dj l t m O ((p : Int) :: R) N) (hp : p < l.length) (hs : m (eT l p) = some s) (hj : PartsT O (cand l p s) j) => tj_put h hp hs hj)
  have hBd := Lib.hid (fun (m : TM) (O : List Tr) (R : List Int) (N : Nat) (x : Int) (T : Tr) (h : Dj l t m O R N) (hx : m x = some T) => tj_bound hg h hx)
  have hMs := Lib.hid (fun (m : TM) (O : List Tr) (R : List Int) (N : Nat) (h : Dj l t m O R N) => h.meas)
  have hSr := Lib.hid (fun (m : TM) (O : List Tr) (R : List Int) (N : Nat) (h : Dj l t m O R N) => h.srt)
  have hCn := Lib.hid (fun (p : Nat) (s : Tr) => (rfl : cand l p s = ⟨eF l p, s.cost + eC l p, s.edges + 1, (p : Int)⟩))
  have hEc := Lib.hid (fun (p : Nat) (h : p < l.length) => (show 0 ≤ eC l p ∧ eC l p ≤ 1000000 from (hg.2.1 _ (e_mem h)).2.2.2.2))
  have hE : Hid (∀ (b n : Nat) (m : TM) (N : Nat) (w' : World), MapV w' b n (tv m) → Dj l t m [] [] N → Below w.heap.size w w' → TrsPost w l t (.returned (.map (some b))) w') := Lib.hid (fun b n m N w' h1 h2 h3 => ⟨b, n, m, N, rfl, h1, h2, h3⟩)
  obtain ⟨goal, hgo⟩ : ∃ goal, TrsPost w l t = goal := ⟨_, rfl⟩
  rw [hgo] at hE ⊢
  generalize Dj l t = DD at *
  clear hp hg hgo hc
  go_enter Try.func45, Try.ntmps45
  go_wp2
  clear hmm
  have hG0 : Hid (Grp (w.alloc (.map #[] 0)) w.heap.size 0 w.heap.size (posK l 0)) := Lib.hid (grp_made w w.heap.size)
  have hB0 : Hid (Below w.heap.size w (w.alloc (.map #[] 0))) := Lib.hid ((Below.refl _ _).alloc (Nat.le_refl _) _)
  go_loopw [19] (fun i wr => ∃ k : Nat, k ≤ l.length ∧ i = .int .i64 k ∧ Hid (Below w.heap.size w wr) ∧ Hid (Grp wr w.heap.size k w.heap.size (posK l k))) (fun i _ => l.length - (intOf i).toNat)
  case atStart => exact ⟨0, by omega, rfl, hB0, hG0⟩
  case round =>
    obtain ⟨k, hk, rfl, hB, hG⟩ := hrel
    clear hG0 hB0
    by_cases hlt : k < l.length
    · clear hKn hNw hPt hBd hMs hSr hCn hEc hE hst hPm
      obtain ⟨ad, rfl, hab, x0, x1, x2, x3⟩ := (hP.out.below hB.out).get hlt
      have hN : Hid (updL (posK l k) (eT l k) (posK l k (eT l k) ++ [(k : Int)]) = posK l (k + 1)) := Lib.hid (posK_step l k)
      have hlen : Hid ((posK l k (eT l k)).length ≤ 1000000000) := Lib.hid (by have := posK_len l k (eT l k); omega)
      clear hPS hPl
      generalize eI l k = y0 at *
      generalize eF l k = y1 at *
      generalize eT l k = y2 at *
      generalize eC l k = y3 at *
      have hBx := Lib.hid (hB.out.alloc hB.out.size (.cells #[.int .i64 y0, .int .i64 y1, .int .i64 y2, .int .i64 y3] 42))
      have hX := box_four (Below.refl (wr.alloc (.cells #[.int .i64 y0, .int .i64 y1, .int .i64 y2, .int .i64 y3] 42)).heap.size _)
      obtain ⟨wx, hwx⟩ : ∃ wx, wr.alloc (.cells #[.int .i64 y0, .int .i64 y1, .int .i64 y2, .int .i64 y3] 42) = wx := ⟨_, rfl⟩
      have hws : wx.heap.size = wr.heap.size + 1 := by rw [← hwx]; simp
      have hgx : Hid (wr.grownBy wx none) := Lib.hid (by rw [← hwx]; exact World.grownBy_alloc wr _ _)
      rw [hwx] at hBx hX
      obtain ⟨A1, c1, hat⟩ := grp_at hG.out y2
      have hO1 : Hid (OwnI wx w.heap.size A1 c1 (posK l k y2)) := Lib.hid (by rw [← hwx]; exact World.ownsRow.alloc hat.1 _)
      have hb1 : Hid (∀ g0, blk A1 = some g0 → g0 < wr.heap.size) := Lib.hid (fun g0 h => (World.ownsRow.lt hat.1 g0 (by rw [← h]; cases A1 <;> rfl)).2)
      have hb2 : Hid (∀ g0, blk A1 = some g0 → w.heap.size ≤ g0) := Lib.hid (fun g0 h => (World.ownsRow.lt hat.1 g0 (by rw [← h]; cases A1 <;> rfl)).1)
      have hbb := Lib.hid hG.out.lt
      have hAt := Lib.hid hat
      have hWs := Lib.hid hws
      obtain ⟨_, _, z2, _⟩ := hX
      clear hat hws hG hP
      go_wp2
      clear x0 x1 x2 x3 hwx
      have hl1 := hAt.out.2.1 wx.drew (hgx.out.block _ hbb.out (fun e => by cases e))
      have hl2 := hAt.out.2.1 (wx.alloc (.cells #[.int .i64 (k : Int)] 3)).drew ((Below.heap_alloc _ _ _ (by rw [hWs.out]; have := hbb.out; omega)).trans (hgx.out.block _ hbb.out (fun e => by cases e)))
      have hS1 : Hid (∀ W : World, Below wx.heap.size wx W → W.cell? ⟨wr.heap.size, 2, none⟩ = some (.int .i64 y2)) := Lib.hid (fun W hW => (hW.cell (p := ⟨wr.heap.size, 2, none⟩) (by rw [hWs.out]; exact Nat.lt_succ_self _)).trans z2)
      go_region_held3 (fun W => W.cell? ⟨wr.heap.size, 2, none⟩ = some (.int .i64 y2))
        (first
          | exact hS1.out _ (Below.refl _ _).drew
          | exact hS1.out _ ((Below.refl _ _).alloc (Nat.le_refl _) _).drew
          | exact hS2
          | exact hS3)
        ((refine step_app_one (by rfl) _ _ (by rfl) (base := w.heap.size) (A := A1) (c := c1) (l := posK l k y2) (k : Int) (gx := wx.heap.size) (by rfl) (by rfl) (World.news_of_block (heap_alloc_new wx _) 0 _ rfl) (World.ownsRow.alloc hO1.out _) (by have := hBx.out.size; show _ ≤ (wx.alloc _).heap.size; simp; omega) hlen.out ?_; intro g3 c3 w3 h3 g4 l4; (obtain ⟨w4, r4, hG4, g5, z5⟩ := hAt.out.2.2 _ w3 (k : Int) g3 c3 (grown_drew (grown_two hgx.out (World.grownBy_alloc wx _ _))) g4 h3 l4); (have HG4 := Lib.hid hG4); (have G4 := Lib.hid g4); (have G5 := Lib.hid g5); (have e3 : w3.heap[wr.heap.size]? = ((wx.alloc (.cells #[.int .i64 (k : Int)] 3)).drew).heap[wr.heap.size]? := g4.block _ (by show wr.heap.size < (wx.alloc _).heap.size; simp; rw [hWs.out]; omega) (fun e => Nat.lt_irrefl _ (hb1.out _ e.symm))); (have e4 : w4.heap[wr.heap.size]? = w3.heap[wr.heap.size]? := g5.block _ (Nat.lt_of_lt_of_le (by show wr.heap.size < (wx.alloc _).heap.size; simp; rw [hWs.out]; omega) g4.size) (fun e => by injection e with e; have := hbb.out; omega)); (have e0 := hS1.out _ (((Below.refl wx.heap.size wx).alloc (Nat.le_refl _) (.cells #[.int .i64 (k : Int)] 3)).drew)); (have hS2 : w3.cell? ⟨wr.heap.size, 2, none⟩ = some (.int .i64 y2) := (World.cell?_of_block (a := ⟨wr.heap.size, 2, none⟩) e3).trans e0); (have hS3 : w4.cell? ⟨wr.heap.size, 2, none⟩ = some (.int .i64 y2) := (World.cell?_of_block (a := ⟨wr.heap.size, 2, none⟩) e4).trans hS2); clear h3 g4 l4 hG4 g5 z5 e3 e4 e0))
      all_goals
        go_wp2
        exact ⟨⟨k + 1, by omega, by go_num, Lib.hid ((((hBx.out.alloc hBx.out.size _).drew).grown G4.out (Nat.le_trans hBx.out.size (by show wx.heap.size ≤ (wx.alloc _).heap.size; simp)) hb2.out).grown G5.out (Nat.le_trans hBx.out.size (Nat.le_trans (by show wx.heap.size ≤ (wx.alloc _).heap.size; simp) G4.out.size)) (fun q hq => by cases hq; exact Nat.le_refl _)), Lib.hid (by rw [← hN.out]; exact HG4.out)⟩, by simp [intOf]; omega⟩
    · obtain rfl : k = l.length := by omega
      have G1 := Lib.hid hG.out
      have B1 := Lib.hid hB.out
      clear hG hB
      obtain ⟨w1, rfl⟩ : ∃ w1, w1 = wr := ⟨wr, rfl⟩
      have hmm := @run_makeMap Try.prog
      go_wp2
      clear hmm hPS hPl
      have hM0 : Hid (MapV ((w1.alloc (.map #[] 0)).alloc (.cells #[.int .i64 t, .int .i64 0, .int .i64 0, .int .i64 0] 69)) w1.heap.size 0 (tv (fun _ => none))) := Lib.hid ((mapV_made w1).alloc _)
      have hO0 : Hid (Ow ((w1.alloc (.map #[] 0)).alloc (.cells #[.int .i64 t, .int .i64 0, .int .i64 0, .int .i64 0] 69)) w1.heap.size 69 4 (some ⟨w1.heap.size + 1, 0, none⟩) 1 1 (cellsT [⟨t, 0, 0, 0⟩])) := Lib.hid (by
        have h := ow_new (w1.alloc (.map #[] 0)) w1.heap.size t 0 0 0 (by simp)
        have e : (w1.alloc (.map #[] 0)).heap.size = w1.heap.size + 1 := by simp
        rw [e] at h
        exact h)
      have hB0 : Hid (Below w1.heap.size w1 ((w1.alloc (.map #[] 0)).alloc (.cells #[.int .i64 t, .int .i64 0, .int .i64 0, .int .i64 0] 69))) := Lib.hid (((Below.refl w1.heap.size w1).alloc (Nat.le_refl _) _).alloc (by simp) _)
      go_loopg [9] (l.length + 1) (fun kx v9 wr => ∃ (A9 : Option Addr) (c9 q9 : Nat) (O : List Tr) (m : TM) (nb : Nat), v9 = .slice A9 q9 c9 ∧ Hid (q9 = O.length) ∧ Hid (kx ≤ 201) ∧ Hid (DD m O [] kx) ∧ Hid (Ow wr w1.heap.size 69 4 A9 q9 c9 (cellsT O)) ∧ Hid (MapV wr w1.heap.size nb (tv m)) ∧ Hid (Below w1.heap.size w1 wr))
      case atStart => exact ⟨_, _, _, _, _, _, rfl, Lib.hid rfl, Lib.hid (by omega), hst, hO0, hM0, hB0⟩
      case round =>
        clear hst hO0 hM0 hB0
        obtain ⟨w2, rfl⟩ : ∃ w2, w2 = wr := ⟨wr, rfl⟩
        obtain ⟨A9, c9, q9, O, m, nb, rfl, hq, hkx, hD, hO, hM, hB⟩ := hrel
        cases O with
        | nil =>
          obtain rfl : q9 = 0 := hq.out
          have hF := Lib.hid (hE.out _ _ _ _ w2 hM.out hD.out (B1.out.trans (hB.out.mono B1.out.size)))
          clear hKn hNw hPt hBd hMs hSr hCn hEc hE hPm hD hO hM hB hq hP
          go_wp2
          exact hF.out
        | cons T O1 =>
          obtain ⟨g6, off, rfl, hg6, hg6w⟩ := hO.out.head (by rw [hq.out]; simp)
          have hBoth : (m T.node ≠ none → DD m O1 [] (gk - 1) ∧ gk - 1 < gk) ∧ (m T.node = none → DD (updT m T.node T) O1 (posK l l.length T.node) (gk - 1) ∧ gk - 1 < gk) := ⟨hKn.out m T O1 gk hD.out, hNw.out m T O1 gk hD.out⟩
          have hupd := tv_upd m T.node T
          have hcn := fun p => hCn.out p T
          have hself : updT m T.node T T.node = some T := if_pos rfl
          have htl := hO.out.tail (by rw [hq.out]; simp)
          obtain ⟨n, tc, te, tf⟩ := T
          simp only at hBoth hupd hcn hself
          have c0 : w2.cell? ⟨g6, off, none⟩ = some (.int .i64 n) := hO.out.cells (ad := ⟨g6, off, none⟩) rfl 0 _ rfl
          have c1 : w2.cell? ⟨g6, off + 1, none⟩ = some (.int .i64 tc) := by have := hO.out.cells (ad := ⟨g6, off, none⟩) rfl 1 _ rfl; rw [add_at] at this; exact this
          have c2 : w2.cell? ⟨g6, off + 2, none⟩ = some (.int .i64 te) := by have := hO.out.cells (ad := ⟨g6, off, none⟩) rfl 2 _ rfl; rw [add_at] at this; exact this
          have c3 : w2.cell? ⟨g6, off + 3, none⟩ = some (.int .i64 tf) := by have := hO.out.cells (ad := ⟨g6, off, none⟩) rfl 3 _ rfl; rw [add_at] at this; exact this
          have hq61 : (1 : Int) ≤ (q9 : Int) := by have := hq.out; simp only [List.length_cons] at this; omega
          have hq60 : (0 : Int) < (q9 : Int) := by omega
          have hqc : (q9 : Int) ≤ (c9 : Int) := by have := hO.out.capp.1; omega
          have hqF : Hid (q9 - 1 = O1.length) := Lib.hid (by rw [hq.out]; simp)
          have hHid : Hid (Ow w2 w1.heap.size 69 4 (if c9 = 1 then some (⟨g6, off, none⟩ : Addr) else some ⟨g6, off + 4, none⟩) (q9 - 1) (c9 - 1) (cellsT O1)) := Lib.hid (by
            have h := htl
            rw [Option.map_some, add_at] at h
            exact h)
          have hX4 := box_four (Below.refl (w2.alloc (.cells #[.int .i64 n, .int .i64 tc, .int .i64 te, .int .i64 tf] 69)).heap.size _)
          have hMa := Lib.hid (hM.out.alloc (.cells #[.int .i64 n, .int .i64 tc, .int .i64 te, .int .i64 tf] 69))
          have hBa := Lib.hid (hB.out.alloc hB.out.size (.cells #[.int .i64 n, .int .i64 tc, .int .i64 te, .int .i64 tf] 69))
          have h12 := Lib.hid hM.out.lt
          clear htl hO hM hB hKn hNw hE hD hq
          cases hmn : m n with
          | some s =>
            obtain ⟨s0, s1, s2, s3⟩ := s
            obtain ⟨hD1, hgk⟩ := hBoth.1 (by rw [hmn]; exact fun e => by cases e)
            have hDn := Lib.hid hD1
            have hGk := Lib.hid hgk
            have hL : Hid ((tv m n).getD (.agg #[.int .i64 0, .int .i64 0, .int .i64 0, .int .i64 0]) = .agg #[.int .i64 s0, .int .i64 s1, .int .i64 s2, .int .i64 s3] ∧ (tv m n).isSome = true) := Lib.hid (by unfold tv; rw [hmn]; exact ⟨rfl, rfl⟩)
            clear hBoth hupd hcn hself hD1 hgk hPt hBd hMs hSr hCn hEc hPm hmn
            by_cases hc1 : c9 = 1
            all_goals
              first
                | (subst hc1; have hT : Hid (Ow w2 w1.heap.size 69 4 (some (⟨g6, off, none⟩ : Addr)) (q9 - 1) (1 - 1) (cellsT O1)) := Lib.hid (by have := hHid.out; rw [if_pos rfl] at this; exact this))
                | (have hT : Hid (Ow w2 w1.heap.size 69 4 (some (⟨g6, off + 4, none⟩ : Addr)) (q9 - 1) (c9 - 1) (cellsT O1)) := Lib.hid (by have := hHid.out; rw [if_neg hc1] at this; exact this))
              clear hHid
              go_wp2_with (at_lookup; refine wpList_lookup_ok_v rfl (.tmp 48) (.tmp 50) rfl Try.underlying66 Try.underlying3 (zeroT _) rfl rfl hMa.out ?_; rw [hL.out.1, hL.out.2])
              go_roundg (gk - 1)
              case measure => exact hGk.out
              case rel => exact ⟨_, _, _, O1, m, nb, rfl, hqF, Lib.hid (by have := hkx.out; omega), hDn, Lib.hid ((hT.out.alloc _).alloc _), Lib.hid (hMa.out.alloc _), Lib.hid (hBa.out.alloc hBa.out.size _)⟩
          | none =>
            obtain ⟨hD1, hgk⟩ := hBoth.2 hmn
            have hDn := Lib.hid hD1
            have hGk := Lib.hid hgk
            have hUp := Lib.hid hupd
            have hCd := Lib.hid hcn
            have hSf := Lib.hid hself
            have hL : Hid ((tv m n).getD (.agg #[.int .i64 0, .int .i64 0, .int .i64 0, .int .i64 0]) = .agg #[.int .i64 0, .int .i64 0, .int .i64 0, .int .i64 0] ∧ (tv m n).isSome = false) := Lib.hid (by unfold tv; rw [hmn]; exact ⟨rfl, rfl⟩)
            have hbt := hBd.out _ O1 _ _ n ⟨n, tc, te, tf⟩ hD1 hself
            simp only at hbt
            have hBt := Lib.hid hbt
            obtain ⟨A5, c5, hat⟩ := grp_at G1.out n
            have hAt := Lib.hid hat
            have hbn := Lib.hid G1.out.lt
            have hTn : Hid ((posK l l.length n).length ≤ 200) := Lib.hid (Nat.le_trans (posK_len l l.length n) hgl)
            have hMb := Lib.hid (hMa.out.alloc (.cells #[.int .i64 0, .int .i64 0, .int .i64 0, .int .i64 0] 69))
            have hBb := Lib.hid (hBa.out.alloc hBa.out.size (.cells #[.int .i64 0, .int .i64 0, .int .i64 0, .int .i64 0] 69))
            have hXb : Hid (At4 ((w2.alloc (.cells #[.int .i64 n, .int .i64 tc, .int .i64 te, .int .i64 tf] 69)).alloc (.cells #[.int .i64 0, .int .i64 0, .int .i64 0, .int .i64 0] 69)) ⟨w2.heap.size, 0, none⟩ (.int .i64 n) (.int .i64 tc) (.int .i64 te) (.int .i64 tf)) := Lib.hid (at4_grown hX4 (World.grownBy_alloc _ _ none) (by simp) (fun e => by cases e))
            have hXl : Hid (w2.heap.size < ((w2.alloc (.cells #[.int .i64 n, .int .i64 tc, .int .i64 te, .int .i64 tf] 69)).alloc (.cells #[.int .i64 0, .int .i64 0, .int .i64 0, .int .i64 0] 69)).heap.size) := Lib.hid (by simp; omega)
            have hXn : Hid (some w2.heap.size ≠ some w1.heap.size) := Lib.hid (fun e => by injection e with e; have := h12.out; omega)
            have hD0 : Hid (∀ o, blk (some ⟨g6, o, none⟩) = none ∨ blk (some ⟨g6, o, none⟩) ≠ some w2.heap.size) := Lib.hid (fun o => .inr (fun e => by injection e with e; have e : g6 = w2.heap.size := e; omega))
            clear hBoth hupd hcn hself hD1 hgk hBd hmn hbt hat hX4
            by_cases hc1 : c9 = 1
            all_goals
              first
                | (subst hc1; have hT : Hid (Ow w2 w1.heap.size 69 4 (some (⟨g6, off, none⟩ : Addr)) (q9 - 1) (1 - 1) (cellsT O1)) := Lib.hid (by have := hHid.out; rw [if_pos rfl] at this; exact this))
                | (have hT : Hid (Ow w2 w1.heap.size 69 4 (some (⟨g6, off + 4, none⟩ : Addr)) (q9 - 1) (c9 - 1) (cellsT O1)) := Lib.hid (by have := hHid.out; rw [if_neg hc1] at this; exact this))
              clear hHid
              have hTb := Lib.hid ((hT.out.alloc (.cells #[.int .i64 n, .int .i64 tc, .int .i64 te, .int .i64 tf] 69)).alloc (.cells #[.int .i64 0, .int .i64 0, .int .i64 0, .int .i64 0] 69))
              go_wp2_with (first
                | (at_lookup; refine wpList_lookup_ok_v rfl (.tmp 48) (.tmp 50) rfl Try.underlying66 Try.underlying3 (zeroT _) rfl rfl hMa.out ?_; rw [hL.out.1, hL.out.2])
                | (at_mapUpdate; refine wpList_mapUpdate_v (v := .agg #[.int .i64 n, .int .i64 tc, .int .i64 te, .int .i64 tf]) rfl (.tmp 55) (.tmp 57) (.tmp 58) rfl Try.underlying66 Try.underlying3 rfl rfl rfl hMb.out ?_; intro w4 h4 g4 z4; (have M4 := Lib.hid h4); (have B4 := Lib.hid (hBb.out.grown g4 hBb.out.size (fun k h => by cases h; exact Nat.le_refl _))); (have T4 := Lib.hid (hTb.out.kept g4 (.inr (fun e => hTb.out.ne_map hMb.out e.symm)))); (have X4 := Lib.hid (at4_grown hXb.out g4 hXl.out hXn.out)); (have L4 := Lib.hid (Nat.lt_of_lt_of_le hXl.out g4.size)); (have z0 := X4.out.1); (have hlk := hAt.out.2.1 w4 (B4.out.block _ hbn.out)); clear h4 g4 z4))
              clear hMb hBb hXb hXl hXn hTb hT hMa hBa hL c0 c1 c2 c3 hlk z0
              have M5 : Hid (MapV w4 w1.heap.size (nb + 1) (tv (updT m n ⟨n, tc, te, tf⟩))) := Lib.hid (by rw [← hUp.out]; exact M4.out)
              clear M4 hUp
              go_loopw [9, 64] (fun v9 i wr2 => ∃ (j q : Nat) (Ax : Option Addr) (cx : Nat) (O2 : List Tr) (nb2 : Nat), j ≤ (posK l l.length n).length ∧ i = .int .i64 j ∧ v9 = .slice Ax q cx ∧ Hid (q = O2.length) ∧ Hid (DD (updT m n ⟨n, tc, te, tf⟩) O2 ((posK l l.length n).drop j) (gk - 1)) ∧ Hid (Ow wr2 w1.heap.size 69 4 Ax q cx (cellsT O2)) ∧ Hid (blk Ax = none ∨ blk Ax ≠ some w2.heap.size) ∧ Hid (MapV wr2 w1.heap.size nb2 (tv (updT m n ⟨n, tc, te, tf⟩))) ∧ Hid (At4 wr2 ⟨w2.heap.size, 0, none⟩ (.int .i64 n) (.int .i64 tc) (.int .i64 te) (.int .i64 tf)) ∧ Hid (w2.heap.size < wr2.heap.size) ∧ Hid (Below w1.heap.size w1 wr2)) (fun _ i _ => (posK l l.length n).length - (intOf i).toNat)
              case atStart => exact ⟨0, q9 - 1, _, _, O1, nb + 1, Nat.zero_le _, rfl, rfl, hqF, hDn, T4, Lib.hid (hD0.out _), M5, X4, L4, B4⟩
              case round =>
                obtain ⟨j, q, Ax, cx, O2, nb2, hj, rfl, rfl, hq, hK, hO, hDj, hM, hX, hXl, hB⟩ := hrel
                clear hqF hDn T4 hD0 M5 X4 L4 B4
                have hT2 := hTn.out
                by_cases hlt : j < (posK l l.length n).length
                · obtain ⟨ad, rfl, hab, x0⟩ := (hAt.out.1.up hB.out).rd.get (cellsI_ix hlt)
                  have hdr := drop_ix hlt
                  obtain ⟨p, hpl, hpt, hpi⟩ := hPm.out n (ix (posK l l.length n) j) (by rw [ix_at hlt]; exact List.getElem_mem hlt)
                  rw [hpi] at x0 hdr
                  have hKd := hK.out
                  rw [hdr] at hKd
                  have hms := hMs.out _ _ _ _ hKd
                  have hsr := Lib.hid (hSr.out _ _ _ _ hKd)
                  have hput : Hid (∀ jj, PartsT O2 ⟨eF l p, tc + eC l p, te + 1, (p : Int)⟩ jj → DD (updT m n ⟨n, tc, te, tf⟩) (putT O2 ⟨eF l p, tc + eC l p, te + 1, (p : Int)⟩ jj) ((posK l l.length n).drop (j + 1)) (gk - 1)) := Lib.hid (fun jj h => hPt.out _ O2 _ (gk - 1) p jj ⟨n, tc, te, tf⟩ hKd hpl (by rw [hpt]; exact hSf.out) h)
                  obtain ⟨ad2, rfl, hab2, y0, y1, y2, y3⟩ := (hP.out.below (B1.out.trans (hB.out.mono B1.out.size))).get hpl
                  have hec := hEc.out p hpl
                  have hbt := hBt.out
                  have hO2l : O2.length ≤ 1000000 := by have := hkx.out; omega
                  obtain rfl := hq.out
                  clear hK hKd hPt hMs hSr hEc hPm hCd hms hdr hpt hpi hTn
                  generalize eI l p = e0 at *
                  generalize eF l p = e1 at *
                  generalize eT l p = e2 at *
                  generalize eC l p = e3 at *
                  have kI : Hid (∀ (W : World), Ow W w1.heap.size 69 4 Ax O2.length cx (cellsT O2) → w1.heap.size ≤ W.heap.size → Calls Try.prog 60 #[.slice Ax O2.length cx, .agg #[.int .i64 e1, .int .i64 (tc + e3), .int .i64 (te + 1), .int .i64 (p : Int)], .func (.func 61) #[] #[]] W (InsLT W w1.heap.size Ax O2 ⟨e1, tc + e3, te + 1, (p : Int)⟩)) := Lib.hid (fun W h hb => insert_tr Ax O2 cx w1.heap.size ⟨e1, tc + e3, te + 1, (p : Int)⟩ W h hsr.out hO2l hb)
                  generalize w2.heap.size = g10 at *
                  have z1 : wr.cell? ⟨g10, 1, none⟩ = some (.int .i64 tc) := hX.out.2.1
                  have z2 : wr.cell? ⟨g10, 2, none⟩ = some (.int .i64 te) := hX.out.2.2.1
                  have hkc : ∀ q : Addr, q.block < wr.heap.size → (wr.alloc (.cells #[.int .i64 0, .int .i64 0, .int .i64 0, .int .i64 0] 69)).cell? q = wr.cell? q := fun q h => ((Below.refl wr.heap.size wr).alloc (Nat.le_refl _) _).cell h
                  have v1 := (hkc _ (cell_lt z1)).trans z1
                  have v2 := (hkc _ (cell_lt z2)).trans z2
                  have v3 := (hkc _ (cell_lt y1)).trans y1
                  have v4 := (hkc _ (cell_lt y3)).trans y3
                  clear hkc
                  have hp0 : (0 : Int) ≤ (p : Int) := by omega
                  have hp1 : (p : Int) < (l.length : Int) := by omega
                  go_wp2
                  go_region
                  have hBx := Lib.hid ((hB.out.alloc hB.out.size (.cells #[.int .i64 e1, .int .i64 (tc + e3), .int .i64 (te + 1), .int .i64 (p : Int)] 69)).drew)
                  have hOx := Lib.hid ((hO.out.alloc (.cells #[.int .i64 e1, .int .i64 (tc + e3), .int .i64 (te + 1), .int .i64 (p : Int)] 69)).drew)
                  have hMx := Lib.hid ((hM.out.alloc (.cells #[.int .i64 e1, .int .i64 (tc + e3), .int .i64 (te + 1), .int .i64 (p : Int)] 69)).drew)
                  have hLx : Hid (g10 < ((wr.alloc (.cells #[.int .i64 e1, .int .i64 (tc + e3), .int .i64 (te + 1), .int .i64 (p : Int)] 69)).drew).heap.size) := Lib.hid (by show g10 < (wr.alloc _).heap.size; have := hXl.out; simp; omega)
                  have hXx : Hid (At4 ((wr.alloc (.cells #[.int .i64 e1, .int .i64 (tc + e3), .int .i64 (te + 1), .int .i64 (p : Int)] 69)).drew) ⟨g10, 0, none⟩ (.int .i64 n) (.int .i64 tc) (.int .i64 te) (.int .i64 tf)) := Lib.hid (at4_grown (row := none) hX.out (grown_drew (World.grownBy_alloc wr _ none)) hXl.out (fun e => by cases e))
                  have hNx : Hid (some g10 ≠ blk Ax) := Lib.hid (fun e => by
                    rcases hDj.out with h | h
                    · rw [h] at e; cases e
                    · exact h e.symm)
                  clear v1 v2 v3 v4 z1 z2 y0 y1 y2 y3 hX hXl hO hM hB
                  go_wp2_with (go_at_call 60; (with_reducible refine (kI.out _ hOx.out hBx.out.size).mono ?_); rintro e w6 ⟨A8, c8', jj, rfl, hpp, h8, g8, l8⟩; (have T8 := Lib.hid h8); (have P8 := Lib.hid hpp); (have B8 := Lib.hid (hBx.out.grown g8 hBx.out.size (fun k h => (hOx.out.lt k h).1))); (have M8 := Lib.hid (hMx.out.grown g8 (hOx.out.ne_map hMx.out))); (have X8 := Lib.hid (at4_grown hXx.out g8 hLx.out hNx.out)); (have D8 := Lib.hid (dj_new hLx.out hDj.out l8)); (have L8 := Lib.hid (Nat.lt_of_lt_of_le hLx.out g8.size)); clear hpp h8 g8 l8)
                  exact ⟨⟨j + 1, O2.length + 1, A8, c8', putT O2 _ jj, nb2, by omega, by go_num, rfl, Lib.hid (putT_len P8.out.1).symm, Lib.hid (hput.out jj P8.out), T8, D8, M8, X8, L8, B8⟩, by simp [intOf]; omega⟩
                · obtain rfl : j = (posK l l.length n).length := by omega
                  have hK3 : Hid (DD (updT m n ⟨n, tc, te, tf⟩) O2 [] (gk - 1)) := Lib.hid (by have := hK.out; rw [List.drop_length] at this; exact this)
                  clear hK
                  go_wp2
                  go_roundg (gk - 1)
                  case measure => exact hGk.out
                  case rel => exact ⟨Ax, cx, q, O2, _, nb2, rfl, hq, Lib.hid (by have := hkx.out; omega), hK3, hO, hM, hB⟩
end Go.Proofs.Ytlaklfiodmnocaa
