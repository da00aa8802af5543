/- A map from numbers to lists of numbers, filled in a loop; read behind it. -/
import Derived.Test.YtdemnbbofigcdaaMapV
import Derived.Test.YtdemnbbofigcdaaOw
import Derived.Test.YtdemnbbofigcdaaInsL
import Derived.Test.YtdemnbbofigcdaaRefRight
import Derived.Deep.RegionHeld3
namespace Go.Proofs.Ytdemnbbofigcdaa
open Go.RowKit

theorem zeroL (w : World) : (zeroValue 23).run Try.prog w = .ok (.slice none 0 0) w := by kernel_rfl
theorem zeroI (w : World) : (zeroValue 3).run Try.prog w = .ok (.int .i64 0) w := by kernel_rfl
def updL (m : Int → List Int) (i : Int) (l : List Int) : Int → List Int := fun j => if j = i then l else m j
/-- Block b is a map of at most n entries that holds, for each number, the list m says; no two in one row. -/
def Grp (w : World) (b n base : Nat) (m : Int → List Int) : Prop :=
  ∃ mv : Int → Option Value, MapV w b n mv ∧ (∀ i, (mv i = none ∧ m i = []) ∨ ∃ g c, mv i = some (.slice (some ⟨g, 0, none⟩) (m i).length c) ∧ OwnI w base (some ⟨g, 0, none⟩) c (m i)) ∧
    ∀ i j g g' n n' c c', i ≠ j → mv i = some (.slice (some ⟨g, 0, none⟩) n c) → mv j = some (.slice (some ⟨g', 0, none⟩) n' c') → g ≠ g'
theorem grp_made (w : World) (base : Nat) : Grp (w.alloc (.map #[] 0)) w.heap.size 0 base (fun _ => []) :=
  ⟨_, mapV_made w, fun _ => .inl ⟨rfl, rfl⟩, fun _ _ _ _ _ _ _ _ _ h => by cases h⟩
theorem Grp.lt {w : World} {b n base : Nat} {m : Int → List Int} (h : Grp w b n base m) : b < w.heap.size := by
  obtain ⟨mv, h1, _⟩ := h
  exact h1.lt
theorem Grp.up {w w' : World} {b n base : Nat} {m : Int → List Int} (h : Grp w b n base m) (hb : Below w.heap.size w w') : Grp w' b n base m := by
  obtain ⟨mv, h1, h2, h3⟩ := h
  refine ⟨mv, h1.below hb h1.lt, fun i => ?_, h3⟩
  rcases h2 i with h | ⟨g, c, e, ho⟩
  · exact .inl h
  · exact .inr ⟨g, c, e, ho.up hb⟩
/-- What is read at a key. -/
def GrpAt (w : World) (b n base : Nat) (m : Int → List Int) (i : Int) (A : Option Addr) (c : Nat) : Prop :=
  OwnI w base A c (m i) ∧ (∀ (W : World), W.heap[b]? = w.heap[b]? → (Instr.lookup 53 (.map (some b)) (.int .i64 i) false).run Try.prog W = .ok (.slice A (m i).length c) W) ∧
    ∀ (W W' : World) (x : Int) (g c' : Nat), w.grownBy W none → W.grownBy W' (blk A) → OwnI W' base (some ⟨g, 0, none⟩) c' (m i ++ [x]) → (blk A = some g ∨ g = W.heap.size) →
      ∃ W2, (Instr.mapUpdate 53 (.map (some b)) (.int .i64 i) (.slice (some ⟨g, 0, none⟩) ((m i).length + 1) c')).run Try.prog W' = .ok () W2 ∧ Grp W2 b (n + 1) base (updL m i (m i ++ [x])) ∧ W'.grownBy W2 (some b) ∧ W2.heap.size = W'.heap.size
theorem grp_at {w : World} {b n base : Nat} {m : Int → List Int} (h : Grp w b n base m) (i : Int) : ∃ A c, GrpAt w b n base m i A c := by
  obtain ⟨mv, h1, h2, h3⟩ := h
  have key : ∀ (A : Option Addr) (c : Nat), OwnI w base A c (m i) → (mv i).getD (.slice none 0 0) = .slice A (m i).length c → (∀ g0, blk A = some g0 → ∃ n0 c0, mv i = some (.slice (some ⟨g0, 0, none⟩) n0 c0)) → GrpAt w b n base m i A c := by
    intro A c ho hv hA
    refine ⟨ho, fun W hW => ?_, ?_⟩
    · have := (h1.kept hW).look (P := Try.prog) Try.underlying53 Try.underlying3 (zeroL W) i
      rw [hv] at this
      exact this
    · intro W W' x g c' hg1 hg2 hoW hlies
      have g1 := h1
      have g2 := h2
      have g3 := h3
      have hmW : MapV W b n mv := g1.grown hg1 (by simp)
      have hne : some b ≠ blk A := by
        intro e
        obtain ⟨n0, c0, hm⟩ := hA b e.symm
        rcases g2 i with ⟨h, _⟩ | ⟨g0, c1, h, ho1⟩
        · rw [h] at hm; cases hm
        · rw [h] at hm
          injection hm with hm
          injection hm with hm
          injection hm with hm
          injection hm with hm
          subst hm
          have hrow := ho1.2
          rcases hrow with ⟨hv, _⟩ | ⟨gg, cc, cu, hv, _, hgg, _⟩
          · cases hv
          · injection hv with hv
            injection hv with hv
            injection hv with hv
            subst hv
            exact g1.ne_cells hgg rfl
      have hmW' : MapV W' b n mv := hmW.grown hg2 hne
      obtain ⟨W2, r1, r2, r3, r4⟩ := hmW'.put (P := Try.prog) Try.underlying53 Try.underlying3 i (.slice (some ⟨g, 0, none⟩) ((m i).length + 1) c')
      refine ⟨W2, r1, ⟨_, r2, fun j => ?_, fun j k gj gk nj nk cj ck hjk hj hk => ?_⟩, r3, r4⟩
      · have hkeep : ∀ {g0 c0 : Nat} {l0 : List Int}, OwnI W' base (some ⟨g0, 0, none⟩) c0 l0 → OwnI W2 base (some ⟨g0, 0, none⟩) c0 l0 := fun ho0 => by
          refine World.ownsRow.kept ho0 r3 (.inr ?_)
          intro e
          injection e with e
          rcases ho0.2 with ⟨hv, _⟩ | ⟨gg, cc, cu, hv, _, hgg, _⟩
          · cases hv
          · injection hv with hv
            injection hv with hv
            injection hv with hv
            subst hv
            exact hmW'.ne_cells hgg e.symm
        by_cases hji : j = i
        · subst hji
          refine .inr ⟨g, c', ?_, ?_⟩
          · unfold upd updL
            rw [if_pos rfl, if_pos rfl, List.length_append]
            rfl
          · unfold updL
            rw [if_pos rfl]
            exact hkeep hoW
        · unfold upd updL
          rw [if_neg hji, if_neg hji]
          rcases g2 j with hn | ⟨gj, cj, hj, hoj⟩
          · exact .inl hn
          · refine .inr ⟨gj, cj, hj, hkeep ?_⟩
            have hoj2 : OwnI W base (some ⟨gj, 0, none⟩) cj (m j) := World.ownsRow.kept hoj hg1 (.inr (by simp [Value.ownBlock]))
            refine World.ownsRow.kept hoj2 hg2 (.inr ?_)
            intro e
            have e : some gj = blk A := e
            obtain ⟨n0, c0, hm⟩ := hA gj e.symm
            exact g3 i j gj gj n0 (m j).length c0 cj (Ne.symm hji) hm hj rfl
      · unfold upd at hj hk
        have hcase : ∀ {j0 gj0 nj0 cj0 : _}, j0 ≠ i → mv j0 = some (.slice (some ⟨gj0, 0, none⟩) nj0 cj0) → gj0 ≠ g := by
          intro j0 gj0 nj0 cj0 hne0 hm0 e
          subst e
          rcases hlies with hl | hl
          · obtain ⟨n0, c0, hm⟩ := hA gj0 hl
            exact g3 i j0 gj0 gj0 n0 nj0 c0 cj0 (Ne.symm hne0) hm hm0 rfl
          · rcases g2 j0 with ⟨h, _⟩ | ⟨g0, c1, h, ho1⟩
            · rw [h] at hm0; cases hm0
            · rw [h] at hm0
              injection hm0 with hm0
              injection hm0 with hm0
              injection hm0 with hm0
              injection hm0 with hm0
              subst hm0
              have := (World.ownsRow.lt ho1 _ rfl).2
              have h5 := hg1.size
              have : g0 < w.heap.size := this
              omega
        split at hj
        · rename_i hji
          split at hk
          · rename_i hki
            exact absurd (hji.trans hki.symm) hjk
          · rename_i hki
            injection hj with hj
            injection hj with hj
            injection hj with hj
            injection hj with hj
            subst hj
            exact fun e => hcase hki hk e.symm
        · rename_i hji
          split at hk
          · injection hk with hk
            injection hk with hk
            injection hk with hk
            injection hk with hk
            subst hk
            exact hcase hji hj
          · exact g3 j k gj gk nj nk cj ck hjk hj hk
  rcases h2 i with ⟨e1, e2⟩ | ⟨g, c, e1, ho⟩
  · refine ⟨none, 0, key none 0 ?_ ?_ (fun g0 h => by cases h)⟩
    · rw [e2]; exact ownI_nil _ _
    · rw [e1, e2]; rfl
  · exact ⟨_, c, key _ c ho (by rw [e1]; rfl) (fun g0 h => by
      injection h with h
      have h : g = g0 := h
      subst h
      exact ⟨_, _, e1⟩)⟩
theorem step_app_one {w : World} {ops : Array Oper} {o : Oper} {a : Act} {K : Act → World → Prop} {Q : Exit → Act → World → Prop} {E : Prop} (hgd : o.guard = none) (s x : Operand)
    (ho : o.op = .call { callee := .builtin .append, args := #[s, x], argTypes := #[23, 23] }) {base c : Nat} {A : Option Addr} {l : List Int} (y : Int) {gx : Nat}
    (hs : a.eval s = .slice A l.length c) (hx : a.eval x = .slice (some ⟨gx, 0, none⟩) 1 1) (hnew : w.cell? ⟨gx, 0, none⟩ = some (.int .i64 y)) (hown : OwnI w base A c l) (hbase : base ≤ w.heap.size) (hl : l.length ≤ 1000000000)
    (h : ∀ g c' w', OwnI w' base (some ⟨g, 0, none⟩) c' (l ++ [y]) → w.grownBy w' (blk A) → (blk A = some g ∨ g = w.heap.size) → K (a.put o.dst (.slice (some ⟨g, 0, none⟩) (l.length + 1) c')) w') :
    if Region.wanted o (yielded ops a.tmps) = true then Oper.wp Try.prog o a w K Q else E := by
  obtain ⟨i0, hi, hz0, hz1, hz2⟩ := info_parts info_i64
  have hob : (Value.slice A l.length c).ownBlock = blk A := by cases A <;> rfl
  refine step_append_lies _ hgd s x 23 ho base 3 i0 (.int .i64 0) 1 8 Try.underlying23 hi hz0 hz1 hz2 rfl (by decide) _ l.length (cellsI l) hs hown ⟨gx, 0, none⟩ 1 1 [.int .i64 y] hx (by rfl) (fun j u hj => ?_) (fun u hu => one_i64 (x := y) hu) (by decide) (by unfold maxLen; omega) (by omega) hbase _ rfl ?_
  · match j, hj with
    | 0, hj =>
      have hj : Value.int .i64 y = u := by simpa using hj
      rw [← hj]
      exact hnew
    | j + 1, hj => simp at hj
  · intro g c' w' h1 h2 h3 _
    rw [hob] at h2 h3
    refine h g c' w' ?_ h2 h3
    unfold OwnI
    rw [List.length_append, cellsI_append]
    exact h1
/-- The ends of the edges that begin at a node. -/
def tgt (l : List Ed) (i : Int) : List Int := (l.filter fun e => decide (e.frm = i)).map Ed.to
theorem tgt_step {l : List Ed} {k : Nat} (h : k < l.length) : updL (tgt (l.take k)) (eF l k) (tgt (l.take k) (eF l k) ++ [eT l k]) = tgt (l.take (k + 1)) := by
  funext j
  unfold updL tgt
  rw [List.take_succ_eq_append_getElem h, List.filter_append, List.map_append, e_eta h]
  by_cases hj : j = eF l k
  · subst hj
    simp
  · rw [if_neg hj]
    have : ¬ eF l k = j := fun e => hj e.symm
    simp [this]
theorem tgt_len (l : List Ed) (i : Int) : (tgt l i).length ≤ l.length := by
  unfold tgt
  rw [List.length_map]
  exact List.length_filter_le ..
def TgtPost (W : World) (n : Nat) (m : Int → List Int) (e : Ending) (w' : World) : Prop := ∃ b, e = .returned (.map (some b)) ∧ Grp w' b n W.heap.size m ∧ Below W.heap.size W w'
set_option maxRecDepth 100000 in
set_option maxHeartbeats 4000000 in
theorem targets_any (A : Option Addr) (l : List Ed) (c : Nat) (w : World) (hp : Es w w.heap.size A l) (hmax : l.length ≤ 1000000) :
    Calls Try.prog 38 #[.slice A l.length c] w (TgtPost w l.length (tgt l)) := by
  have hP := Lib.hid hp
  have hmm := @run_makeMap Try.prog
  clear hp
  go_enter Try.func38, Try.ntmps38
  go_wp2
  clear hmm
  have hG0 : Hid (Grp (w.alloc (.map #[] 0)) w.heap.size 0 w.heap.size (tgt (l.take 0))) := Lib.hid (grp_made w w.heap.size)
  have hB0 : Hid (Below w.heap.size w (w.alloc (.map #[] 0))) := Lib.hid ((Below.refl _ _).alloc (Nat.le_refl _) _)
  go_loopw [9] (fun i wr => ∃ k : Nat, k ≤ l.length ∧ i = .int .i64 k ∧ Hid (Below w.heap.size w wr) ∧ Hid (Grp wr w.heap.size k w.heap.size (tgt (l.take k)))) (fun i _ => l.length - (intOf i).toNat)
  case atStart => exact ⟨0, by omega, rfl, hB0, hG0⟩
  case round =>
    obtain ⟨k, hk, rfl, hB, hG⟩ := hrel
    clear hG0 hB0
    by_cases hlt : k < l.length
    · obtain ⟨ad, rfl, hab, x0, x1, x2, x3⟩ := (hP.out.below hB.out).get hlt
      have hN := Lib.hid (tgt_step hlt)
      have hlen : Hid ((tgt (l.take k) (eF l k)).length ≤ 1000000000) := Lib.hid (by have := tgt_len (l.take k) (eF l k); rw [List.length_take] at this; omega)
      generalize eI l k = y0 at *
      generalize eF l k = y1 at *
      generalize eT l k = y2 at *
      generalize eC l k = y3 at *
      have hBx := Lib.hid (hB.out.alloc hB.out.size (.cells #[.int .i64 y0, .int .i64 y1, .int .i64 y2, .int .i64 y3] 33))
      have hX := box_four (Below.refl (wr.alloc (.cells #[.int .i64 y0, .int .i64 y1, .int .i64 y2, .int .i64 y3] 33)).heap.size _)
      obtain ⟨wx, hwx⟩ : ∃ wx, wr.alloc (.cells #[.int .i64 y0, .int .i64 y1, .int .i64 y2, .int .i64 y3] 33) = wx := ⟨_, rfl⟩
      have hws : wx.heap.size = wr.heap.size + 1 := by rw [← hwx]; simp
      have hgx : Hid (wr.grownBy wx none) := Lib.hid (by rw [← hwx]; exact World.grownBy_alloc wr _ _)
      rw [hwx] at hBx hX
      obtain ⟨A1, c1, hat⟩ := grp_at hG.out y1
      have hO1 : Hid (OwnI wx w.heap.size A1 c1 (tgt (l.take k) y1)) := Lib.hid (by rw [← hwx]; exact World.ownsRow.alloc hat.1 _)
      have hb1 : Hid (∀ g0, blk A1 = some g0 → g0 < wr.heap.size) := Lib.hid (fun g0 h => (World.ownsRow.lt hat.1 g0 (by rw [← h]; cases A1 <;> rfl)).2)
      have hb2 : Hid (∀ g0, blk A1 = some g0 → w.heap.size ≤ g0) := Lib.hid (fun g0 h => (World.ownsRow.lt hat.1 g0 (by rw [← h]; cases A1 <;> rfl)).1)
      have hbb := Lib.hid hG.out.lt
      have hAt := Lib.hid hat
      have hWs := Lib.hid hws
      obtain ⟨_, z1, z2, _⟩ := hX
      clear hat hws hG hP
      go_wp2
      clear x0 x1 x2 x3 hwx
      have hl1 := hAt.out.2.1 wx.drew (hgx.out.block _ hbb.out (fun e => by cases e))
      have hl2 := hAt.out.2.1 (wx.alloc (.cells #[.int .i64 y2] 3)).drew ((Below.heap_alloc _ _ _ (by rw [hWs.out]; have := hbb.out; omega)).trans (hgx.out.block _ hbb.out (fun e => by cases e)))
      have hS1 : Hid (∀ W : World, Below wx.heap.size wx W → W.cell? ⟨wr.heap.size, 1, none⟩ = some (.int .i64 y1) ∧ W.cell? ⟨wr.heap.size, 2, none⟩ = some (.int .i64 y2)) := Lib.hid (fun W hW => ⟨(hW.cell (p := ⟨wr.heap.size, 1, none⟩) (by rw [hWs.out]; exact Nat.lt_succ_self _)).trans z1, (hW.cell (p := ⟨wr.heap.size, 2, none⟩) (by rw [hWs.out]; exact Nat.lt_succ_self _)).trans z2⟩)
      go_region_held3 (fun W => W.cell? ⟨wr.heap.size, 1, none⟩ = some (.int .i64 y1) ∧ W.cell? ⟨wr.heap.size, 2, none⟩ = some (.int .i64 y2))
        (first
          | exact hS1.out _ (Below.refl _ _).drew
          | exact hS1.out _ ((Below.refl _ _).alloc (Nat.le_refl _) _).drew
          | exact hS2
          | exact hS3)
        ((refine step_app_one (by rfl) _ _ (by rfl) (base := w.heap.size) (A := A1) (c := c1) (l := tgt (l.take k) y1) y2 (gx := wx.heap.size) (by rfl) (by rfl) (World.news_of_block (heap_alloc_new wx _) 0 _ rfl) (World.ownsRow.alloc hO1.out _) (by have := hBx.out.size; show _ ≤ (wx.alloc _).heap.size; simp; omega) hlen.out ?_; intro g3 c3 w3 h3 g4 l4; (obtain ⟨w4, r4, hG4, g5, z5⟩ := hAt.out.2.2 _ w3 y2 g3 c3 (grown_drew (grown_two hgx.out (World.grownBy_alloc wx _ _))) g4 h3 l4); (have HG4 := Lib.hid hG4); (have G4 := Lib.hid g4); (have G5 := Lib.hid g5); (have e3 : w3.heap[wr.heap.size]? = ((wx.alloc (.cells #[.int .i64 y2] 3)).drew).heap[wr.heap.size]? := g4.block _ (by show wr.heap.size < (wx.alloc _).heap.size; simp; rw [hWs.out]; omega) (fun e => Nat.lt_irrefl _ (hb1.out _ e.symm))); (have e4 : w4.heap[wr.heap.size]? = w3.heap[wr.heap.size]? := g5.block _ (Nat.lt_of_lt_of_le (by show wr.heap.size < (wx.alloc _).heap.size; simp; rw [hWs.out]; omega) g4.size) (fun e => by injection e with e; have := hbb.out; omega)); (have e0 := hS1.out _ (((Below.refl wx.heap.size wx).alloc (Nat.le_refl _) (.cells #[.int .i64 y2] 3)).drew)); (have hS2 : w3.cell? ⟨wr.heap.size, 1, none⟩ = some (.int .i64 y1) ∧ w3.cell? ⟨wr.heap.size, 2, none⟩ = some (.int .i64 y2) := ⟨(World.cell?_of_block (a := ⟨wr.heap.size, 1, none⟩) e3).trans e0.1, (World.cell?_of_block (a := ⟨wr.heap.size, 2, none⟩) e3).trans e0.2⟩); (have hS3 : w4.cell? ⟨wr.heap.size, 1, none⟩ = some (.int .i64 y1) ∧ w4.cell? ⟨wr.heap.size, 2, none⟩ = some (.int .i64 y2) := ⟨(World.cell?_of_block (a := ⟨wr.heap.size, 1, none⟩) e4).trans hS2.1, (World.cell?_of_block (a := ⟨wr.heap.size, 2, none⟩) e4).trans hS2.2⟩); clear h3 g4 l4 hG4 g5 z5 e3 e4 e0))
      all_goals
        go_wp2
        exact ⟨⟨k + 1, by omega, by go_num, Lib.hid ((((hBx.out.alloc hBx.out.size _).drew).grown G4.out (Nat.le_trans hBx.out.size (by show wx.heap.size ≤ (wx.alloc _).heap.size; simp)) hb2.out).grown G5.out (Nat.le_trans hBx.out.size (Nat.le_trans (by show wx.heap.size ≤ (wx.alloc _).heap.size; simp) G4.out.size)) (fun q hq => by cases hq; exact Nat.le_refl _)), Lib.hid (by rw [← hN.out]; exact HG4.out)⟩, by simp [intOf]; omega⟩
    · obtain rfl : k = l.length := by omega
      have hE := Lib.hid hG.out
      clear hG hP
      go_wp2
      go_ret
      refine ⟨_, rfl, ?_, hB.out⟩
      have := hE.out
      rwa [List.take_length] at this
end Go.Proofs.Ytdemnbbofigcdaa
