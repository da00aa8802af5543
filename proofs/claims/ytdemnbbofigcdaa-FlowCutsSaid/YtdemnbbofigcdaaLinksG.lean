/- The package's links of all nodes. -/
import Derived.Test.YtdemnbbofigcdaaStepG
import Derived.Deep.RegionHeld3
namespace Go.Proofs.Ytdemnbbofigcdaa
open Go.RowKit

def OwnK (l : List Ed) (af : Nat) (bi be : Nat → Nat) (w : World) (base : Nat) (A : Option Addr) (c : Nat) (L : List Int) : Prop := w.ownsRow base 69 3 (.slice A L.length c) L.length (cellsK l af bi be L)
theorem ownK_nil (l : List Ed) (af : Nat) (bi be : Nat → Nat) (w : World) (base : Nat) : OwnK l af bi be w base none 0 [] := World.ownsRow_nil _ _ _ _
theorem ownK_congr {l : List Ed} {af base c : Nat} {bi be bi' be' : Nat → Nat} {w : World} {A : Option Addr} {L : List Int} (h : OwnK l af bi be w base A c L) (e : ∀ x ∈ L, bi (idx x) = bi' (idx x) ∧ be (idx x) = be' (idx x)) : OwnK l af bi' be' w base A c L := by
  unfold OwnK at *
  rw [← cellsK_congr e]
  exact h
/-- Block b is a map that holds, for each number, the links m says; no two in one row. -/
def Lks (l : List Ed) (af : Nat) (bi be : Nat → Nat) (w : World) (b n base : Nat) (m : Int → List Int) : Prop :=
  ∃ mv : Int → Option Value, MapV w b n mv ∧ (∀ i, (mv i = none ∧ m i = []) ∨ ∃ g c, mv i = some (.slice (some ⟨g, 0, none⟩) (m i).length c) ∧ OwnK l af bi be w base (some ⟨g, 0, none⟩) c (m i)) ∧
    ∀ i j g g' n n' c c', i ≠ j → mv i = some (.slice (some ⟨g, 0, none⟩) n c) → mv j = some (.slice (some ⟨g', 0, none⟩) n' c') → g ≠ g'
section
variable {l : List Ed} {af : Nat} {bi be : Nat → Nat} {w w' : World} {b n base : Nat} {m : Int → List Int}
theorem lks_made (l : List Ed) (af : Nat) (bi be : Nat → Nat) (w : World) (base : Nat) : Lks l af bi be (w.alloc (.map #[] 0)) w.heap.size 0 base (fun _ => []) :=
  ⟨_, mapV_made w, fun _ => .inl ⟨rfl, rfl⟩, fun _ _ _ _ _ _ _ _ _ h => by cases h⟩
theorem Lks.lt (h : Lks l af bi be w b n base m) : b < w.heap.size := by
  obtain ⟨mv, h1, _⟩ := h
  exact h1.lt
theorem Lks.up (h : Lks l af bi be w b n base m) (hb : Below w.heap.size w w') : Lks l af bi be w' b n base m := by
  obtain ⟨mv, h1, h2, h3⟩ := h
  refine ⟨mv, h1.below hb h1.lt, fun i => ?_, h3⟩
  rcases h2 i with h | ⟨g, c, e, ho⟩
  · exact .inl h
  · exact .inr ⟨g, c, e, own_below ho hb⟩
theorem Lks.congr {bi' be' : Nat → Nat} (h : Lks l af bi be w b n base m) (e : ∀ i, ∀ x ∈ m i, bi (idx x) = bi' (idx x) ∧ be (idx x) = be' (idx x)) : Lks l af bi' be' w b n base m := by
  obtain ⟨mv, h1, h2, h3⟩ := h
  refine ⟨mv, h1, fun i => ?_, h3⟩
  rcases h2 i with h | ⟨g, c, e1, ho⟩
  · exact .inl h
  · exact .inr ⟨g, c, e1, ownK_congr ho (e i)⟩
/-- A block that is written below the rows and the map leaves it. -/
theorem Lks.grown {row : Option Nat} {base0 : Nat} (h : Lks l af bi be w b n base m) (hg : w.grownBy w' row) (hb : base0 ≤ b) (hb2 : base0 ≤ base) (hr : ∀ g, row = some g → g < base0) : Lks l af bi be w' b n base m := by
  obtain ⟨mv, h1, h2, h3⟩ := h
  refine ⟨mv, h1.grown hg (fun e => by have := hr _ e.symm; omega), fun i => ?_, h3⟩
  rcases h2 i with h | ⟨g, c, e1, ho⟩
  · exact .inl h
  · refine .inr ⟨g, c, e1, World.ownsRow.kept ho hg (.inr (fun e => ?_))⟩
    have h4 := (World.ownsRow.lt ho g rfl).1
    have := hr g e.symm
    omega
theorem zeroKs (w : World) : (zeroValue 66).run Try.prog w = .ok (.slice none 0 0) w := by kernel_rfl
/-- What is read at a key. -/
def LksAt (l : List Ed) (af : Nat) (bi be : Nat → Nat) (w : World) (b n base : Nat) (m : Int → List Int) (i : Int) (A : Option Addr) (c : Nat) : Prop :=
  OwnK l af bi be w base A c (m i) ∧ (∀ (W : World), W.heap[b]? = w.heap[b]? → (Instr.lookup 43 (.map (some b)) (.int .i64 i) false).run Try.prog W = .ok (.slice A (m i).length c) W) ∧
    ∀ (W W' : World) (x : Int) (g c' : Nat), w.grownBy W none → W.grownBy W' (blk A) → OwnK l af bi be W' base (some ⟨g, 0, none⟩) c' (m i ++ [x]) → (blk A = some g ∨ g = W.heap.size) →
      ∃ W2, (Instr.mapUpdate 43 (.map (some b)) (.int .i64 i) (.slice (some ⟨g, 0, none⟩) ((m i).length + 1) c')).run Try.prog W' = .ok () W2 ∧ Lks l af bi be W2 b (n + 1) base (updL m i (m i ++ [x])) ∧ W'.grownBy W2 (some b) ∧ W2.heap.size = W'.heap.size
theorem lks_at (h : Lks l af bi be w b n base m) (i : Int) : ∃ A c, LksAt l af bi be w b n base m i A c := by
  obtain ⟨mv, h1, h2, h3⟩ := h
  have key : ∀ (A : Option Addr) (c : Nat), OwnK l af bi be w base A c (m i) → (mv i).getD (.slice none 0 0) = .slice A (m i).length c → (∀ g0, blk A = some g0 → ∃ n0 c0, mv i = some (.slice (some ⟨g0, 0, none⟩) n0 c0)) → LksAt l af bi be w b n base m i A c := by
    intro A c ho hv hA
    refine ⟨ho, fun W hW => ?_, ?_⟩
    · have := (h1.kept hW).look (P := Try.prog) Try.underlying43 Try.underlying3 (zeroKs W) i
      rw [hv] at this
      exact this
    · intro W W' x g c' hg1 hg2 hoW hlies
      have g1 := h1
      have g2 := h2
      have g3 := h3
      have hmW : MapV W b n mv := g1.grown hg1 (by simp)
      have hne : some b ≠ blk A := by
        intro e
        obtain ⟨n0, c0, hm⟩ := hA b e.symm
        rcases g2 i with ⟨h, _⟩ | ⟨g0, c1, h, ho1⟩
        · rw [h] at hm; cases hm
        · rw [h] at hm
          injection hm with hm
          injection hm with hm
          injection hm with hm
          injection hm with hm
          subst hm
          have hrow := ho1.2
          rcases hrow with ⟨hv, _⟩ | ⟨gg, cc, cu, hv, _, hgg, _⟩
          · cases hv
          · injection hv with hv
            injection hv with hv
            injection hv with hv
            subst hv
            exact g1.ne_cells hgg rfl
      have hmW' : MapV W' b n mv := hmW.grown hg2 hne
      obtain ⟨W2, r1, r2, r3, r4⟩ := hmW'.put (P := Try.prog) Try.underlying43 Try.underlying3 i (.slice (some ⟨g, 0, none⟩) ((m i).length + 1) c')
      refine ⟨W2, r1, ⟨_, r2, fun j => ?_, fun j k gj gk nj nk cj ck hjk hj hk => ?_⟩, r3, r4⟩
      · have hkeep : ∀ {g0 c0 : Nat} {l0 : List Int}, OwnK l af bi be W' base (some ⟨g0, 0, none⟩) c0 l0 → OwnK l af bi be W2 base (some ⟨g0, 0, none⟩) c0 l0 := fun ho0 => by
          refine World.ownsRow.kept ho0 r3 (.inr ?_)
          intro e
          injection e with e
          rcases ho0.2 with ⟨hv, _⟩ | ⟨gg, cc, cu, hv, _, hgg, _⟩
          · cases hv
          · injection hv with hv
            injection hv with hv
            injection hv with hv
            subst hv
            exact hmW'.ne_cells hgg e.symm
        by_cases hji : j = i
        · subst hji
          refine .inr ⟨g, c', ?_, ?_⟩
          · unfold upd updL
            rw [if_pos rfl, if_pos rfl, List.length_append]
            rfl
          · unfold updL
            rw [if_pos rfl]
            exact hkeep hoW
        · unfold upd updL
          rw [if_neg hji, if_neg hji]
          rcases g2 j with hn | ⟨gj, cj, hj, hoj⟩
          · exact .inl hn
          · refine .inr ⟨gj, cj, hj, hkeep ?_⟩
            have hoj2 : OwnK l af bi be W base (some ⟨gj, 0, none⟩) cj (m j) := World.ownsRow.kept hoj hg1 (.inr (by simp [Value.ownBlock]))
            refine World.ownsRow.kept hoj2 hg2 (.inr ?_)
            intro e
            have e : some gj = blk A := e
            obtain ⟨n0, c0, hm⟩ := hA gj e.symm
            exact g3 i j gj gj n0 (m j).length c0 cj (Ne.symm hji) hm hj rfl
      · unfold upd at hj hk
        have hcase : ∀ {j0 gj0 nj0 cj0 : _}, j0 ≠ i → mv j0 = some (.slice (some ⟨gj0, 0, none⟩) nj0 cj0) → gj0 ≠ g := by
          intro j0 gj0 nj0 cj0 hne0 hm0 e
          subst e
          rcases hlies with hl | hl
          · obtain ⟨n0, c0, hm⟩ := hA gj0 hl
            exact g3 i j0 gj0 gj0 n0 nj0 c0 cj0 (Ne.symm hne0) hm hm0 rfl
          · rcases g2 j0 with ⟨h, _⟩ | ⟨g0, c1, h, ho1⟩
            · rw [h] at hm0; cases hm0
            · rw [h] at hm0
              injection hm0 with hm0
              injection hm0 with hm0
              injection hm0 with hm0
              injection hm0 with hm0
              subst hm0
              have := (World.ownsRow.lt ho1 _ rfl).2
              have h5 := hg1.size
              have : g0 < w.heap.size := this
              omega
        split at hj
        · rename_i hji
          split at hk
          · rename_i hki
            exact absurd (hji.trans hki.symm) hjk
          · rename_i hki
            injection hj with hj
            injection hj with hj
            injection hj with hj
            injection hj with hj
            subst hj
            exact fun e => hcase hki hk e.symm
        · rename_i hji
          split at hk
          · injection hk with hk
            injection hk with hk
            injection hk with hk
            injection hk with hk
            subst hk
            exact hcase hji hj
          · exact g3 j k gj gk nj nk cj ck hjk hj hk
  rcases h2 i with ⟨e1, e2⟩ | ⟨g, c, e1, ho⟩
  · refine ⟨none, 0, key none 0 ?_ ?_ (fun g0 h => by cases h)⟩
    · rw [e2]; exact ownK_nil _ _ _ _ _ _
    · rw [e1, e2]; rfl
  · exact ⟨_, c, key _ c ho (by rw [e1]; rfl) (fun g0 h => by
      injection h with h
      have h : g = g0 := h
      subst h
      exact ⟨_, _, e1⟩)⟩
end
theorem info_lk : (Try.prog.info? 69).map (fun i => (i.zero, i.size, i.bytes)) = some (some (.agg #[.int .i64 0, .int .i64 0, .nilFunc]), 3, 24) := by kernel_rfl
theorem step_app_lk {l : List Ed} {af : Nat} {bi be : Nat → Nat} {w : World} {ops : Array Oper} {o : Oper} {a : Act} {K : Act → World → Prop} {Q : Exit → Act → World → Prop} {E : Prop} (hgd : o.guard = none) (s x : Operand)
    (ho : o.op = .call { callee := .builtin .append, args := #[s, x], argTypes := #[66, 66] }) {base c : Nat} {A : Option Addr} {L : List Int} (y : Int) {gx : Nat}
    (hs : a.eval s = .slice A L.length c) (hx : a.eval x = .slice (some ⟨gx, 0, none⟩) 1 1) (hnew : w.heap[gx]? = some (.cells #[.int .i64 (tlE l y), .int .i64 (hdE l y), fvL af bi be y] 69)) (hown : OwnK l af bi be w base A c L) (hbase : base ≤ w.heap.size) (hl : L.length ≤ 1000000000)
    (h : ∀ g c' w', OwnK l af bi be w' base (some ⟨g, 0, none⟩) c' (L ++ [y]) → w.grownBy w' (blk A) → (blk A = some g ∨ g = w.heap.size) → K (a.put o.dst (.slice (some ⟨g, 0, none⟩) (L.length + 1) c')) w') :
    if Region.wanted o (yielded ops a.tmps) = true then Oper.wp Try.prog o a w K Q else E := by
  obtain ⟨i0, hi, hz0, hz1, hz2⟩ := info_parts info_lk
  have hob : (Value.slice A L.length c).ownBlock = blk A := by cases A <;> rfl
  refine step_append_lies _ hgd s x 66 ho base 69 i0 (.agg #[.int .i64 0, .int .i64 0, .nilFunc]) 3 24 Try.underlying66 hi hz0 hz1 hz2 rfl (by decide) _ L.length (cellsK l af bi be L) hs hown ⟨gx, 0, none⟩ 1 1 (cellsK l af bi be [y]) hx (by rfl) (fun j u hj => World.news_of_block hnew j u hj) (fun u hu => cellsK_one _ u hu) (by decide) (by unfold maxLen; omega) (by omega) hbase _ rfl ?_
  intro g c' w' h1 h2 h3 _
  rw [hob] at h2 h3
  refine h g c' w' ?_ h2 h3
  unfold OwnK
  rw [List.length_append, cellsK_append]
  exact h1
/-- The links of the nodes, with the edges before the k-th, and its own first one. -/
theorem lk_step {l : List Ed} {k : Nat} : updL (updL (lkN l k) (eF l k) (lkN l k (eF l k) ++ [(k : Int) + 1])) (eT l k) (updL (lkN l k) (eF l k) (lkN l k (eF l k) ++ [(k : Int) + 1]) (eT l k) ++ [-(k : Int) - 1]) = lkN l (k + 1) := by
  funext j
  unfold updL
  rw [lkN]
  generalize eT l k = y2
  generalize eF l k = y1
  by_cases h1 : j = y2
  · subst h1
    by_cases h2 : j = y1
    · subst h2; simp
    · have h3 : ¬ y1 = j := fun e => h2 e.symm
      simp [h2, h3]
  · have h4 : ¬ y2 = j := fun e => h1 e.symm
    by_cases h2 : j = y1
    · subst h2; simp [h1, h4]
    · have h3 : ¬ y1 = j := fun e => h2 e.symm
      simp [h1, h2, h3, h4]
theorem link_box {l : List Ed} {af b n base k : Nat} {bi be : Nat → Nat} {wr : World} {F : Value} (hL : Lks l af bi be wr b n base (lkN l k)) (hX : Bx wr base l k af F bi be) (hb : base ≤ wr.heap.size) :
    ∃ bi2 be2 : Nat → Nat, Lks l af bi2 be2 ((wr.alloc (.cells #[.int .i64 k] 3)).alloc (.cells #[.int .i64 (eI l k), .int .i64 (eF l k), .int .i64 (eT l k), .int .i64 (eC l k)] 33)) b n base (lkN l k) ∧
      Bx ((wr.alloc (.cells #[.int .i64 k] 3)).alloc (.cells #[.int .i64 (eI l k), .int .i64 (eF l k), .int .i64 (eT l k), .int .i64 (eC l k)] 33)) base l (k + 1) af F bi2 be2 ∧
      fvL af bi2 be2 ((k : Int) + 1) = .func (.func 46) #[] #[.pointer (some ⟨af, 0, none⟩), .pointer (some ⟨wr.heap.size, 0, none⟩), .pointer (some ⟨wr.heap.size + 1, 0, none⟩)] ∧
      fvL af bi2 be2 (-(k : Int) - 1) = .func (.func 47) #[] #[.pointer (some ⟨af, 0, none⟩), .pointer (some ⟨wr.heap.size, 0, none⟩)] := by
  refine ⟨fun j => if j = k then wr.heap.size else bi j, fun j => if j = k then wr.heap.size + 1 else be j, ?_, ?_, ?_, ?_⟩
  · refine (hL.congr (fun i x hx => ?_)).up (((Below.refl _ _).alloc (Nat.le_refl _) _).alloc (by simp) _)
    have := (lk_mem hx).1
    exact ⟨(if_neg (by omega)).symm, (if_neg (by omega)).symm⟩
  · have h1 := hX.up (((Below.refl wr.heap.size wr).alloc (Nat.le_refl _) (.cells #[.int .i64 k] 3)).alloc (by simp) (.cells #[.int .i64 (eI l k), .int .i64 (eF l k), .int .i64 (eT l k), .int .i64 (eC l k)] 33))
    have hs : (wr.alloc (.cells #[.int .i64 k] 3)).heap.size = wr.heap.size + 1 := by simp
    refine ⟨h1.f0, h1.fb, fun j hj => ?_, fun j hj => ?_⟩
    · by_cases hjk : j = k
      · subst hjk
        simp only [if_true]
        exact ⟨hb, (Below.heap_alloc _ _ _ (by rw [hs]; exact Nat.lt_succ_self _)).trans (heap_alloc_new wr _)⟩
      · simp only [if_neg hjk]
        exact h1.ib j (by omega)
    · by_cases hjk : j = k
      · subst hjk
        simp only [if_true]
        refine ⟨by omega, ?_⟩
        have := heap_alloc_new (wr.alloc (.cells #[.int .i64 j] 3)) (.cells #[.int .i64 (eI l j), .int .i64 (eF l j), .int .i64 (eT l j), .int .i64 (eC l j)] 33)
        rw [hs] at this
        exact this
      · simp only [if_neg hjk]
        exact h1.eb j (by omega)
  · unfold fvL
    rw [if_pos (by omega), idx_f]
    simp
  · unfold fvL
    rw [if_neg (by omega), idx_b]
    simp
theorem link_ends (l : List Ed) (k : Nat) : tlE l ((k : Int) + 1) = eF l k ∧ hdE l ((k : Int) + 1) = eT l k ∧ tlE l (-(k : Int) - 1) = eT l k ∧ hdE l (-(k : Int) - 1) = eF l k := by
  unfold tlE hdE
  rw [if_pos (show (0 : Int) < (k : Int) + 1 by omega), if_pos (show (0 : Int) < (k : Int) + 1 by omega), if_neg (show ¬ (0 : Int) < -(k : Int) - 1 by omega), if_neg (show ¬ (0 : Int) < -(k : Int) - 1 by omega), idx_f, idx_b]
  exact ⟨rfl, rfl, rfl, rfl⟩
/-- One more link at a node: what the append and the store into the map leave. -/
theorem link_turn {l : List Ed} {af n' : Nat} {bi be : Nat → Nat} {w W0 Wa w3 : World} {b n base : Nat} {m : Int → List Int} {F : Value} {y x : Int} {A1 : Option Addr} {c1 g3 c3 : Nat} (hL : Lks l af bi be W0 b n base m) (hat : LksAt l af bi be W0 b n base m y A1 c1) (hX : Bx W0 base l n' af F bi be)
    (hB : Below base w W0) (hb0 : base ≤ W0.heap.size) (hbb : base ≤ b) (hg1 : W0.grownBy Wa none) (hg2 : Wa.grownBy w3 (blk A1)) (h3 : OwnK l af bi be w3 base (some ⟨g3, 0, none⟩) c3 (m y ++ [x])) (hl : blk A1 = some g3 ∨ g3 = Wa.heap.size) :
    ∃ W2, (Instr.mapUpdate 43 (.map (some b)) (.int .i64 y) (.slice (some ⟨g3, 0, none⟩) ((m y).length + 1) c3)).run Try.prog w3 = .ok () W2 ∧ Lks l af bi be W2 b (n + 1) base (updL m y (m y ++ [x])) ∧ Bx W2 base l n' af F bi be ∧ Below base w W2 ∧ W0.heap.size ≤ W2.heap.size ∧
      (∀ (q : Nat) (cs : Array Value), W0.heap[q]? = some (.cells cs 33 (0, 0)) → w3.heap[q]? = W0.heap[q]? ∧ W2.heap[q]? = W0.heap[q]?) := by
  have hA : ∀ g, blk A1 = some g → base ≤ g ∧ g < W0.heap.size ∧ ∃ cu, W0.heap[g]? = some (.cells cu 69 (0, 0)) := by
    intro g hg
    rcases hat.1.2 with ⟨hv, _⟩ | ⟨gg, cc, cu, hv, a1, a2, _⟩
    · injection hv with hv
      rw [hv] at hg
      cases hg
    · injection hv with hv
      rw [hv] at hg
      injection hg with hg
      have hg : gg = g := hg
      subst hg
      exact ⟨a1, (Array.getElem?_eq_some_iff.1 a2).1, cu, a2⟩
  have hbm : ∀ cs t fz, W0.heap[b]? ≠ some (.cells cs t fz) := by
    obtain ⟨mv, h1, _⟩ := hL
    intro cs t fz e
    exact h1.ne_cells e rfl
  have hbA : ¬ some b = blk A1 := fun e => by
    obtain ⟨_, _, cu, hc⟩ := hA b e.symm
    exact hbm _ _ _ hc
  obtain ⟨W2, r1, r2, r3, r4⟩ := hat.2.2 Wa w3 x g3 c3 hg1 hg2 h3 hl
  have hbl := hL.lt
  have e1 : ∀ q, q < W0.heap.size → Wa.heap[q]? = W0.heap[q]? := fun q hq => hg1.block q hq (fun e => by cases e)
  have e2 : ∀ q, q < W0.heap.size → some q ≠ blk A1 → w3.heap[q]? = W0.heap[q]? := fun q hq hn => (hg2.block q (Nat.lt_of_lt_of_le hq hg1.size) hn).trans (e1 q hq)
  have e3 : ∀ q, q < W0.heap.size → some q ≠ blk A1 → q ≠ b → W2.heap[q]? = W0.heap[q]? := fun q hq hn hb => (r3.block q (Nat.lt_of_lt_of_le hq (Nat.le_trans hg1.size hg2.size)) (fun e => hb (by injection e))).trans (e2 q hq hn)
  have x1 : Bx Wa base l n' af F bi be := hX.row hg1 (fun g cs t h => by cases h)
  have x2 : Bx w3 base l n' af F bi be := x1.row hg2 (fun g cs t h hc => by
    obtain ⟨_, a2, cu, a3⟩ := hA g h
    rw [e1 g a2, a3] at hc
    injection hc with hc
    injection hc with _ hc
    exact hc.symm)
  have x3 : Bx W2 base l n' af F bi be := x2.row r3 (fun g cs t h hc => by
    injection h with h
    subst h
    rw [e2 _ hbl hbA] at hc
    exact absurd hc (hbm _ _ _))
  refine ⟨W2, r1, r2, x3, ((hB.grown hg1 hb0 (fun g h => by cases h)).grown hg2 (Nat.le_trans hb0 hg1.size) (fun g h => (hA g h).1)).grown r3 (Nat.le_trans hb0 (Nat.le_trans hg1.size hg2.size)) (fun g h => by cases h; exact hbb), Nat.le_trans hg1.size (Nat.le_trans hg2.size r3.size), fun q cs hq => ?_⟩
  have hql := (Array.getElem?_eq_some_iff.1 hq).1
  have hqA : some q ≠ blk A1 := fun e => by
    obtain ⟨_, _, cu, hc⟩ := hA q e.symm
    rw [hq] at hc
    injection hc with hc
    injection hc with _ hc
    revert hc
    decide
  exact ⟨e2 q hql hqA, e3 q hql hqA (fun e => hbm _ _ _ (by rw [← e]; exact hq))⟩
def LinksPost (W : World) (l : List Ed) (F : Value) (e : Ending) (w' : World) : Prop :=
  ∃ (b af : Nat) (bi be : Nat → Nat), e = .returned (.map (some b)) ∧ W.heap.size ≤ b ∧ Lks l af bi be w' b (2 * l.length) W.heap.size (lkN l l.length) ∧ Bx w' W.heap.size l l.length af F bi be ∧ Below W.heap.size W w'
set_option maxRecDepth 100000 in
set_option maxHeartbeats 8000000 in
theorem links_any (A B : Option Addr) (l : List Ed) (f : List Int) (c d : Nat) (w : World) (hp : Es w w.heap.size A l) (hmax : l.length ≤ 1000000) :
    Calls Try.prog 31 #[.slice A l.length c, .slice B f.length d] w (LinksPost w l (.slice B f.length d)) := by
  have hP := Lib.hid hp
  have hmm := @run_makeMap Try.prog
  have hmf : ∀ (fn : Fn) (first cap : Array Value) (w : World), (Instr.makeFunc fn first cap).run Try.prog w = .ok (.func fn first cap) w := fun _ _ _ _ => rfl
  clear hp
  go_enter Try.func31, Try.ntmps31
  go_wp2
  clear hmm
  have hs0 : (w.alloc (.cells #[.slice B f.length d] 23)).heap.size = w.heap.size + 1 := by simp
  have hL0 : Hid (Lks l w.heap.size (fun _ => 0) (fun _ => 0) ((w.alloc (.cells #[.slice B f.length d] 23)).alloc (.map #[] 0)) (w.heap.size + 1) (2 * 0) w.heap.size (lkN l 0)) := Lib.hid (by
    have := lks_made l w.heap.size (fun _ => 0) (fun _ => 0) (w.alloc (.cells #[.slice B f.length d] 23)) w.heap.size
    rw [hs0] at this
    exact this)
  have hX0 : Hid (Bx ((w.alloc (.cells #[.slice B f.length d] 23)).alloc (.map #[] 0)) w.heap.size l 0 w.heap.size (.slice B f.length d) (fun _ => 0) (fun _ => 0)) := Lib.hid ⟨Nat.le_refl _, (Below.heap_alloc _ _ _ (by rw [hs0]; exact Nat.lt_succ_self _)).trans (heap_alloc_new w _), fun k hk => absurd hk (by omega), fun k hk => absurd hk (by omega)⟩
  have hB0 : Hid (Below w.heap.size w ((w.alloc (.cells #[.slice B f.length d] 23)).alloc (.map #[] 0))) := Lib.hid (((Below.refl _ _).alloc (Nat.le_refl _) _).alloc (by rw [hs0]; omega) _)
  clear hs0
  go_loopw [13] (fun i wr => ∃ (k : Nat) (bi be : Nat → Nat), k ≤ l.length ∧ i = .int .i64 k ∧ Hid (Below w.heap.size w wr) ∧ Hid (Lks l w.heap.size bi be wr (w.heap.size + 1) (2 * k) w.heap.size (lkN l k)) ∧ Hid (Bx wr w.heap.size l k w.heap.size (.slice B f.length d) bi be)) (fun i _ => l.length - (intOf i).toNat)
  case atStart => exact ⟨0, _, _, by omega, rfl, hB0, hL0, hX0⟩
  case round =>
    obtain ⟨k, bi, be, hk, rfl, hB, hL, hX⟩ := hrel
    clear hL0 hX0 hB0
    by_cases hlt : k < l.length
    · obtain ⟨ad, rfl, hab, x0, x1, x2, x3⟩ := (hP.out.below hB.out).get hlt
      have hst := Lib.hid (lk_step (l := l) (k := k))
      have hlen1 : Hid ((lkN l k (eF l k)).length ≤ 1000000000) := Lib.hid (by have := lk_len l (eF l k) k; omega)
      have hlen2 : Hid ((updL (lkN l k) (eF l k) (lkN l k (eF l k) ++ [(k : Int) + 1]) (eT l k)).length ≤ 1000000000) := Lib.hid (by
        have h1 := lk_len l (eF l k) k
        have h2 := lk_len l (eT l k) k
        unfold updL
        split
        · rw [List.length_append, List.length_singleton]; omega
        · omega)
      obtain ⟨bi2, be2, hLx, hXx, hv1, hv2⟩ := link_box hL.out hX.out hB.out.size
      obtain ⟨t1, t2, t3, t4⟩ := link_ends l k
      have hHx := heap_alloc_new (wr.alloc (.cells #[.int .i64 k] 3)) (.cells #[.int .i64 (eI l k), .int .i64 (eF l k), .int .i64 (eT l k), .int .i64 (eC l k)] 33)
      rw [show (wr.alloc (.cells #[.int .i64 k] 3)).heap.size = wr.heap.size + 1 by simp] at hHx
      generalize eI l k = y0 at *
      generalize hy1 : eF l k = y1 at *
      generalize hy2 : eT l k = y2 at *
      generalize eC l k = y3 at *
      have hBx := Lib.hid ((hB.out.alloc hB.out.size (.cells #[.int .i64 k] 3)).alloc (Nat.le_trans hB.out.size (by simp)) (.cells #[.int .i64 y0, .int .i64 y1, .int .i64 y2, .int .i64 y3] 33))
      clear hP hL hX hy1 hy2
      go_wp2
      clear x0 x1 x2 x3 hmf
      have hLx := Lib.hid hLx
      have hXx := Lib.hid hXx
      obtain ⟨wx, hwx⟩ : ∃ wx, (wr.alloc (.cells #[.int .i64 k] 3)).alloc (.cells #[.int .i64 y0, .int .i64 y1, .int .i64 y2, .int .i64 y3] 33) = wx := ⟨_, rfl⟩
      rw [hwx] at hLx hXx hBx hHx ⊢
      have hE := Lib.hid hHx
      have hws : Hid (wx.heap.size = wr.heap.size + 2) := Lib.hid (by rw [← hwx]; simp)
      have hQ : Hid (∀ W : World, W.heap[wr.heap.size + 1]? = wx.heap[wr.heap.size + 1]? → W.cell? ⟨wr.heap.size + 1, 1, none⟩ = some (.int .i64 y1) ∧ W.cell? ⟨wr.heap.size + 1, 2, none⟩ = some (.int .i64 y2)) := Lib.hid (fun W hW => ⟨cell_lit (hW.trans hHx) 1 _ rfl, cell_lit (hW.trans hHx) 2 _ rfl⟩)
      have hS1 : Hid (∀ W : World, Below wx.heap.size wx W → W.cell? ⟨wr.heap.size + 1, 1, none⟩ = some (.int .i64 y1) ∧ W.cell? ⟨wr.heap.size + 1, 2, none⟩ = some (.int .i64 y2)) := Lib.hid (fun W hW => hQ.out W (hW.block _ (by rw [hws.out]; omega)))
      have hn1 : Hid (some (Obj.cells #[.int .i64 y1, .int .i64 y2, .func (.func 46) #[] #[.pointer (some ⟨w.heap.size, 0, none⟩), .pointer (some ⟨wr.heap.size, 0, none⟩), .pointer (some ⟨wr.heap.size + 1, 0, none⟩)]] 69) = some (Obj.cells #[.int .i64 (tlE l ((k : Int) + 1)), .int .i64 (hdE l ((k : Int) + 1)), fvL w.heap.size bi2 be2 ((k : Int) + 1)] 69)) := Lib.hid (by rw [t1, t2, hv1])
      have hn2 : Hid (some (Obj.cells #[.int .i64 y2, .int .i64 y1, .func (.func 47) #[] #[.pointer (some ⟨w.heap.size, 0, none⟩), .pointer (some ⟨wr.heap.size, 0, none⟩)]] 69) = some (Obj.cells #[.int .i64 (tlE l (-(k : Int) - 1)), .int .i64 (hdE l (-(k : Int) - 1)), fvL w.heap.size bi2 be2 (-(k : Int) - 1)] 69)) := Lib.hid (by rw [t3, t4, hv2])
      obtain ⟨z1, z2⟩ := hS1.out wx (Below.refl _ _)
      obtain ⟨A1, c1, hat⟩ := lks_at hLx.out y1
      have hO1 := Lib.hid hat.1
      have hAt := Lib.hid hat
      clear hv1 hv2 t1 t2 t3 t4 hHx hwx hat
      have hl1 := hAt.out.2.1 wx.drew rfl
      have hl2 := hAt.out.2.1 (wx.alloc (.cells #[.int .i64 y1, .int .i64 y2, .func (.func 46) #[] #[.pointer (some ⟨w.heap.size, 0, none⟩), .pointer (some ⟨wr.heap.size, 0, none⟩), .pointer (some ⟨wr.heap.size + 1, 0, none⟩)]] 69)).drew (Below.heap_alloc _ _ _ hLx.out.lt)
      go_region_held3 (fun W => W.cell? ⟨wr.heap.size + 1, 1, none⟩ = some (.int .i64 y1) ∧ W.cell? ⟨wr.heap.size + 1, 2, none⟩ = some (.int .i64 y2))
        (first
          | exact hS1.out _ (Below.refl _ _).drew
          | exact hS1.out _ ((Below.refl _ _).alloc (Nat.le_refl _) _).drew
          | exact hS2.out
          | exact hS3.out)
        ((refine step_app_lk (by rfl) _ _ (by rfl) (l := l) (af := w.heap.size) (bi := bi2) (be := be2) (base := w.heap.size) (A := A1) (c := c1) (L := lkN l k y1) ((k : Int) + 1) (gx := wx.heap.size) (by rfl) (by rfl) ((heap_alloc_new wx _).trans hn1.out) (World.ownsRow.alloc hO1.out _) (by have := hBx.out.size; show _ ≤ (wx.alloc _).heap.size; simp; omega) hlen1.out ?_; intro g3 c3 w3 h3 g4 l4; (obtain ⟨w4, r4, hL4, hX4, hB4, hS4, hq4⟩ := link_turn hLx.out hAt.out hXx.out hBx.out hBx.out.size (Nat.le_succ _) (grown_drew (World.grownBy_alloc wx _ none)) g4 h3 l4); (have HL4 := Lib.hid hL4); (have HX4 := Lib.hid hX4); (have HB4 := Lib.hid hB4); (have HS4 := Lib.hid hS4); (have hS2 := Lib.hid (hQ.out w3 (hq4 _ _ hE.out).1)); (have hS3 := Lib.hid (hQ.out w4 (hq4 _ _ hE.out).2)); (have hE4 := Lib.hid ((hq4 _ _ hE.out).2.trans hE.out)); clear h3 g4 l4 hL4 hX4 hB4 hS4 hq4))
      all_goals
        clear hl1 hl2 z1 z2
        go_wp2
        obtain ⟨A2, c2, hat2⟩ := lks_at HL4.out y2
        have hO2 := Lib.hid hat2.1
        have hAt2 := Lib.hid hat2
        have hl3 := hat2.2.1 w4.drew rfl
        have hl4 := hat2.2.1 (w4.alloc (.cells #[.int .i64 y2, .int .i64 y1, .func (.func 47) #[] #[.pointer (some ⟨w.heap.size, 0, none⟩), .pointer (some ⟨wr.heap.size, 0, none⟩)]] 69)).drew (Below.heap_alloc _ _ _ HL4.out.lt)
        have hS5 : Hid (∀ W : World, Below w4.heap.size w4 W → W.cell? ⟨wr.heap.size + 1, 1, none⟩ = some (.int .i64 y1) ∧ W.cell? ⟨wr.heap.size + 1, 2, none⟩ = some (.int .i64 y2)) := Lib.hid (fun W hW => hQ.out W ((hW.block _ (Array.getElem?_eq_some_iff.1 hE4.out).1).trans (hE4.out.trans hE.out.symm)))
        obtain ⟨z3, z4⟩ := hS3.out
        clear hat2
        go_region_held3 (fun W => W.cell? ⟨wr.heap.size + 1, 1, none⟩ = some (.int .i64 y1) ∧ W.cell? ⟨wr.heap.size + 1, 2, none⟩ = some (.int .i64 y2))
          (first
            | exact hS5.out _ (Below.refl _ _).drew
            | exact hS5.out _ ((Below.refl _ _).alloc (Nat.le_refl _) _).drew
            | exact hS6.out
            | exact hS7.out)
          ((refine step_app_lk (by rfl) _ _ (by rfl) (l := l) (af := w.heap.size) (bi := bi2) (be := be2) (base := w.heap.size) (A := A2) (c := c2) (L := updL (lkN l k) y1 (lkN l k y1 ++ [(k : Int) + 1]) y2) (-(k : Int) - 1) (gx := w4.heap.size) (by rfl) (by rfl) ((heap_alloc_new w4 _).trans hn2.out) (World.ownsRow.alloc hO2.out _) (by have := HB4.out.size; show _ ≤ (w4.alloc _).heap.size; simp; omega) hlen2.out ?_; intro g5 c5 w5 h5 g6 l6; (obtain ⟨w6, r6, hL6, hX6, hB6, hS6', hq6⟩ := link_turn HL4.out hAt2.out HX4.out HB4.out HB4.out.size (Nat.le_succ _) (grown_drew (World.grownBy_alloc w4 _ none)) g6 h5 l6); (have HL6 := Lib.hid hL6); (have HX6 := Lib.hid hX6); (have HB6 := Lib.hid hB6); (have hS6 := Lib.hid (hQ.out w5 ((hq6 _ _ hE4.out).1.trans (hE4.out.trans hE.out.symm)))); (have hS7 := Lib.hid (hQ.out w6 ((hq6 _ _ hE4.out).2.trans (hE4.out.trans hE.out.symm)))); clear h5 g6 l6 hL6 hX6 hB6 hS6' hq6))
        all_goals
          go_wp2
          exact ⟨⟨k + 1, bi2, be2, by omega, by go_num, HB6, Lib.hid (by rw [← hst.out]; exact HL6.out), HX6⟩, by simp [intOf]; omega⟩
    · obtain rfl : k = l.length := by omega
      have hR : Hid (LinksPost w l (.slice B f.length d) (.returned (.map (some (w.heap.size + 1)))) wr) := Lib.hid ⟨_, _, bi, be, rfl, by omega, hL.out, hX.out, hB.out⟩
      clear hP hL hX
      generalize LinksPost w l (.slice B f.length d) = Q at *
      go_wp2
      exact hR.out
end Go.Proofs.Ytdemnbbofigcdaa
