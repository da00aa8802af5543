/- The package's leastSet. -/
import Derived.Test.YtdemnbbofigcdaaLeastM
namespace Go.Proofs.Ytdemnbbofigcdaa
open Go.RowKit

theorem own_blockE (A : Option Addr) (n c : Nat) : (Value.slice A n c).ownBlock = blk A := by cases A <;> rfl
theorem wpList_app_ed1 {w : World} {ops : Array Oper} {rest : List Oper} {o : Oper} {a : Act} {Q : Exit → Act → World → Prop} (hgd : o.guard = none) (s x : Operand)
    (ho : o.op = .call { callee := .builtin .append, args := #[s, x], argTypes := #[22, 22] }) {base c : Nat} {A : Option Addr} {l : List Ed} (e : Ed) {gx : Nat} {T : TypeId}
    (hs : a.eval s = .slice A l.length c) (hx : a.eval x = .slice (some ⟨gx, 0, none⟩) 1 1) (hnew : w.heap[gx]? = some (.cells #[.int .i64 e.id, .int .i64 e.frm, .int .i64 e.to, .int .i64 e.cost] T)) (hown : OwnE w base A c l) (hbase : base ≤ w.heap.size) (hl : l.length ≤ 1000000000)
    (h : ∀ g c' w', OwnE w' base (some ⟨g, 0, none⟩) c' (l ++ [e]) → w.grownBy w' (blk A) → (blk A = some g ∨ g = w.heap.size) → wpList Try.prog ops Q rest (a.put o.dst (.slice (some ⟨g, 0, none⟩) (l.length + 1) c')) w') : wpList Try.prog ops Q (o :: rest) a w := by
  obtain ⟨i0, hi, hz0, hz1, hz2⟩ := info_parts info_ed
  refine wpList_append_lies _ hgd s x 22 ho base 33 i0 (.agg #[.int .i64 0, .int .i64 0, .int .i64 0, .int .i64 0]) 4 32 Try.underlying22 hi hz0 hz1 hz2 rfl (by decide) _ l.length (cellsE l) hs hown ⟨gx, 0, none⟩ 1 1 [.int .i64 e.id, .int .i64 e.frm, .int .i64 e.to, .int .i64 e.cost] hx (by rfl) (fun j u hj => World.news_of_block hnew j u hj) (fun u hu => four_i64 (a := e.id) (b := e.frm) (c := e.to) (d := e.cost) hu) (by decide) (by unfold maxLen; omega) (by omega) hbase _ rfl ?_
  intro g c' w' h1 h2 h3 _
  rw [own_blockE] at h2 h3
  refine h g c' w' ?_ h2 h3
  unfold OwnE
  rw [List.length_append, cellsE_append]
  exact h1
theorem OwnE.grown {w w' : World} {base c : Nat} {row : Option Nat} {A : Option Addr} {l : List Ed} (h : OwnE w base A c l) (hg : w.grownBy w' row) (hne : blk A = none ∨ blk A ≠ row) : OwnE w' base A c l := by
  refine World.ownsRow.kept h hg ?_
  rw [own_blockE]
  exact hne
def LeastPost (W : World) (l : List Ed) (f : List Int) (s : Int) (e : Ending) (w' : World) : Prop :=
  ∃ (A : Option Addr) (c : Nat) (I : List Int), e = .returned (.slice A I.length c) ∧ OwnI w' W.heap.size A c I ∧ I.length ≤ 1000 ∧ (∀ x, x ∈ I ↔ Rs l f s x) ∧ Below W.heap.size W w'
theorem al_len (l : List Ed) (f : List Int) {n : Nat} (h : n ≤ l.length) : (alN l f n).length ≤ l.length := by
  have h1 := (al_sub l f h).length_le
  rw [List.length_take] at h1
  omega
theorem ag_len (l : List Ed) (f : List Int) {n : Nat} (h : n ≤ l.length) : (agN l f n).length ≤ l.length := by
  have h1 := (ag_sub l f h).length_le
  rw [List.length_take] at h1
  omega
theorem own_ltE {w : World} {base c : Nat} {A : Option Addr} {l : List Ed} (h : OwnE w base A c l) : ∀ k, blk A = some k → base ≤ k ∧ k < w.heap.size := fun k hk => World.ownsRow.lt h k (by rw [own_blockE]; exact hk)

theorem ed_two {W wa w' : World} {base c1 c2 g : Nat} {A1 A2 : Option Addr} {L1 L2 : List Ed} (O1 : OwnE wa base A1 c1 L1) (O2 : OwnE wa base A2 c2 L2) (hD : blk A1 = none ∨ blk A1 ≠ blk A2) (hB : Below base W wa) (hb : base ≤ wa.heap.size) (h6 : wa.grownBy w' (blk A1)) (l6 : blk A1 = some g ∨ g = wa.heap.size) :
    OwnE w' base A2 c2 L2 ∧ Below base W w' ∧ blk A2 ≠ some g ∧ (∀ q, q < wa.heap.size → some q ≠ blk A1 → w'.heap[q]? = wa.heap[q]?) := by
  refine ⟨O2.grown h6 ?_, hB.grown h6 hb (fun q h => (own_ltE O1 q h).1), fun e => ?_, fun q h1 h2 => h6.block q h1 h2⟩
  · rcases hD with h | h
    · cases hA2 : blk A2 with
      | none => exact .inl rfl
      | some q => exact .inr (fun e => by rw [h] at e; cases e)
    · exact .inr (fun e => h e.symm)
  · rcases l6 with l6 | l6
    · rcases hD with h | h
      · rw [h] at l6; cases l6
      · exact h (l6.trans e.symm)
    · have := (own_ltE O2 _ e).2
      omega
set_option maxRecDepth 100000 in
set_option maxHeartbeats 8000000 in
theorem gLeast_any (A B : Option Addr) (l : List Ed) (f : List Int) (c d : Nat) (s : Int) (w : World) (hp : Es w w.heap.size A l) (hq : Rd w w.heap.size B d (cellsI f)) (hl : f.length = l.length) (hg : Grph l) (hws : (Lit.int .i64 s).wf = true) :
    Calls Try.prog 34 #[.slice A l.length c, .slice B f.length d, .int .i64 s] w (LeastPost w l f s) := by
  have hgl := hg.1
  have hP := Lib.hid hp
  have hQ := Lib.hid hq
  have hLen := Lib.hid hl
  have hG1 := grph_sub hg (by have := al_sub l f (Nat.le_refl l.length); rwa [List.take_length] at this)
  have hG2 := grph_sub hg (by have := ag_sub l f (Nat.le_refl l.length); rwa [List.take_length] at this)
  have hR := Lib.hid (fun (A1 A2 : Option Addr) (c1 c2 : Nat) (I : List Int) (W : World) (h1 : OwnE W w.heap.size A1 c1 (alN l f l.length)) (h2 : Rd W W.heap.size A2 c2 (cellsI I)) (hI : I.length ≤ 1000) (hw : WfL I) => gReach_any A1 A2 (alN l f l.length) I c1 c2 W h1.es h2 hG1 hI hw)
  have hBk := Lib.hid (fun (A1 A2 : Option Addr) (c1 c2 : Nat) (I : List Int) (W : World) (h1 : OwnE W w.heap.size A1 c1 (agN l f l.length)) (h2 : Rd W W.heap.size A2 c2 (cellsI I)) (hI : I.length ≤ 1000) (hw : WfL I) => gBack_any A1 A2 (agN l f l.length) I c1 c2 W h1.es h2 hG2 hI hw)
  have hWf : Hid (∀ I : List Int, (∀ x ∈ I, Rs l f s x) → WfL I) := Lib.hid (fun I h x hx => by
    rcases rs_node (h x hx) with rfl | hm
    · exact hws
    · obtain ⟨e, he, hx⟩ := mem_nodes.1 hm
      obtain ⟨r1, r2, r3, r4, _⟩ := hg.2.1 e he
      rcases hx with rfl | rfl
      · exact wf_node r1 r2
      · exact wf_node r3 r4)
  have hNl : Hid (∀ I : List Int, I.Nodup → (∀ x ∈ I, Rs l f s x) → I.length ≤ 2 * l.length + 1) := Lib.hid (fun I hn h => by
    have h1 := nodup_len hn (b := s :: nodesL l) (fun x hx => by
      rcases rs_node (h x hx) with e | e
      · rw [e]; exact List.mem_cons_self ..
      · exact List.mem_cons_of_mem _ e)
    have h2 := nodes_len l
    rw [List.length_cons] at h1
    omega)
  have hRr : Hid (∀ I : List Int, (∀ x ∈ I, Rs l f s x) → (∀ x ∈ reachL (alN l f l.length) I, Rs l f s x) ∧ (reachL (alN l f l.length) I).Nodup) := Lib.hid (fun I h => ⟨fun x hx => by
    obtain ⟨a, ha, h2⟩ := mem_reach.1 hx
    exact rs_along (h a ha) h2, inc_nodup (reach_inc _ _)⟩)
  have hTr : Hid (∀ I : List Int, (∀ x ∈ I, Rs l f s x) → (∀ x ∈ turnL l f I, Rs l f s x) ∧ (turnL l f I).Nodup ∧ (∀ x ∈ I, x ∈ turnL l f I)) := Lib.hid (fun I h => ⟨fun x hx => turn_rs h hx, inc_nodup (back_inc _ _), fun x hx => turn_has hx⟩)
  have hTe : Hid (∀ I : List Int, (∀ x ∈ I, Rs l f s x) → s ∈ I → I.Nodup → (turnL l f I).length = I.length → ∀ x, x ∈ I ↔ Rs l f s x) := Lib.hid (fun I h1 h2 h3 h4 => turn_end h1 h2 h3 h4)
  have hEnd : Hid (∀ (A' : Option Addr) (c' : Nat) (I : List Int) (w' : World), OwnI w' w.heap.size A' c' I → I.length ≤ 1000 → (∀ x, x ∈ I ↔ Rs l f s x) → Below w.heap.size w w' → LeastPost w l f s (.returned (.slice A' I.length c')) w') := Lib.hid (fun A' c' I w' h1 h2 h3 h4 => ⟨A', c', I, rfl, h1, h2, h3, h4⟩)
  have hTd : Hid (∀ I, turnL l f I = backL (agN l f l.length) (reachL (alN l f l.length) I)) := Lib.hid (fun _ => rfl)
  have hal := Lib.hid (fun (k : Nat) (h : k ≤ l.length) => And.intro (al_len l f h) (ag_len l f h))
  have haS : Hid (∀ k, alN l f (k + 1) = alN l f k ++ if ix f k < eC l k then [⟨eI l k, eF l k, eT l k, eC l k⟩] else []) := Lib.hid (fun _ => rfl)
  have hbS : Hid (∀ k, agN l f (k + 1) = agN l f k ++ if 0 < ix f k then [⟨eI l k, eF l k, eT l k, eC l k⟩] else []) := Lib.hid (fun _ => rfl)
  have hS0 : Hid (Rs l f s s) := Lib.hid .base
  generalize LeastPost w l f s = goal at *
  generalize Rs l f s = RR at *
  generalize turnL l f = TT at *
  have hz1 : Hid (alN l f 0 = []) := Lib.hid rfl
  have hz2 : Hid (agN l f 0 = []) := Lib.hid rfl
  generalize alN l f = AA at *
  generalize agN l f = GG at *
  clear hp hq hl hg hws hG1 hG2
  go_enter Try.func34, Try.ntmps34
  go_wp2
  go_loopw [7, 8, 15] (fun v7 v8 i wr => ∃ (k q1 q2 c1 c2 : Nat) (A1 A2 : Option Addr), k ≤ l.length ∧ i = .int .i64 k ∧ v7 = .slice A1 q1 c1 ∧ v8 = .slice A2 q2 c2 ∧ Hid (q1 = (AA k).length) ∧ Hid (q2 = (GG k).length) ∧ Hid (OwnE wr w.heap.size A1 c1 (AA k)) ∧ Hid (OwnE wr w.heap.size A2 c2 (GG k)) ∧ Hid (blk A1 = none ∨ blk A1 ≠ blk A2) ∧ Hid (Below w.heap.size w wr)) (fun _ _ i _ => l.length - (intOf i).toNat)
  case atStart => exact ⟨0, 0, 0, 0, 0, none, none, by omega, rfl, rfl, rfl, Lib.hid (by rw [hz1.out]; rfl), Lib.hid (by rw [hz2.out]; rfl), Lib.hid (by rw [hz1.out]; exact ownE_nil _ _), Lib.hid (by rw [hz2.out]; exact ownE_nil _ _), Lib.hid (.inl rfl), Lib.hid (Below.refl _ _)⟩
  case round =>
    clear hz1 hz2
    obtain ⟨k, q1, q2, c1, c2, A1, A2, hk, rfl, rfl, rfl, hq1, hq2, hO1, hO2, hD, hB⟩ := hrel
    by_cases hlt : k < l.length
    · obtain ⟨ad, rfl, hab, x0, x1, x2, x3⟩ := (hP.out.below hB.out).get hlt
      have hkf : k < f.length := by have := hLen.out; omega
      obtain ⟨bd, rfl, hbb, c0⟩ := (hQ.out).get (cellsI_ix hkf)
      obtain ⟨n1, n2⟩ := hal.out k hk
      have hsA := Lib.hid (haS.out k)
      have hsG := Lib.hid (hbS.out k)
      obtain rfl := hq1.out
      obtain rfl := hq2.out
      have hi1 : (k : Int) < (f.length : Int) := by omega
      have hi2 : (k : Int) < (l.length : Int) := by omega
      have hi3 : (0 : Int) ≤ (k : Int) := by omega
      clear hR hBk hWf hNl hRr hTr hTe hEnd hTd hal haS hbS hS0 hP hQ hq1 hq2
      generalize ix f k = x at *
      generalize eI l k = y0 at *
      generalize eF l k = y1 at *
      generalize eT l k = y2 at *
      generalize eC l k = y3 at *
      have hHx := heap_alloc_new wr (.cells #[.int .i64 y0, .int .i64 y1, .int .i64 y2, .int .i64 y3] 33)
      have hBx := Lib.hid (hB.out.alloc hB.out.size (.cells #[.int .i64 y0, .int .i64 y1, .int .i64 y2, .int .i64 y3] 33))
      have O1x := Lib.hid (World.ownsRow.alloc hO1.out (.cells #[.int .i64 y0, .int .i64 y1, .int .i64 y2, .int .i64 y3] 33))
      have O2x := Lib.hid (World.ownsRow.alloc hO2.out (.cells #[.int .i64 y0, .int .i64 y1, .int .i64 y2, .int .i64 y3] 33))
      have hc1 : Hid (∀ W : World, Below w.heap.size w W → W.cell? (bd.add k) = some (.int .i64 x)) := Lib.hid (fun W h => (h.cell (p := bd.add k) (by rw [block_of_add]; exact hbb)).trans c0)
      obtain ⟨wx, hwx⟩ : ∃ wx, wr.alloc (.cells #[.int .i64 y0, .int .i64 y1, .int .i64 y2, .int .i64 y3] 33) = wx := ⟨_, rfl⟩
      have hws : Hid (wx.heap.size = wr.heap.size + 1) := Lib.hid (by rw [← hwx]; simp)
      rw [hwx] at hHx hBx O1x O2x
      have O1x : Hid (OwnE wx w.heap.size A1 c1 (AA k)) := O1x
      have O2x : Hid (OwnE wx w.heap.size A2 c2 (GG k)) := O2x
      have hQ1 : Hid (∀ W : World, W.heap[wr.heap.size]? = wx.heap[wr.heap.size]? → W.cell? ⟨wr.heap.size, 0, none⟩ = some (.int .i64 y0) ∧ W.cell? ⟨wr.heap.size, 1, none⟩ = some (.int .i64 y1) ∧ W.cell? ⟨wr.heap.size, 2, none⟩ = some (.int .i64 y2) ∧ W.cell? ⟨wr.heap.size, 3, none⟩ = some (.int .i64 y3)) := Lib.hid (fun W hW => ⟨cell_lit (hW.trans hHx) 0 _ rfl, cell_lit (hW.trans hHx) 1 _ rfl, cell_lit (hW.trans hHx) 2 _ rfl, cell_lit (hW.trans hHx) 3 _ rfl⟩)
      have hbs : Hid (∀ o : Obj, w.heap.size ≤ ((wx.alloc o).drew).heap.size) := Lib.hid (fun o => by have := hBx.out.size; show _ ≤ (wx.alloc o).heap.size; simp; omega)
      have hbw : Hid (∀ o : Obj, wr.heap.size < ((wx.alloc o).drew).heap.size) := Lib.hid (fun o => by have := hws.out; show _ < (wx.alloc o).heap.size; simp; omega)
      have hbq : Hid (∀ o : Obj, ((wx.alloc o).drew).heap[wr.heap.size]? = wx.heap[wr.heap.size]?) := Lib.hid (fun o => Below.heap_alloc _ _ _ (by rw [hws.out]; exact Nat.lt_succ_self _))
      have hA1n : Hid (some wr.heap.size ≠ blk A1) := Lib.hid (fun e => by have := (own_ltE hO1.out _ e.symm).2; omega)
      have hDs : Hid (blk A2 = none ∨ blk A2 ≠ blk A1) := Lib.hid (by
        rcases hD.out with h | h
        · cases hA2 : blk A2 with
          | none => exact .inl rfl
          | some q => exact .inr (fun e => by rw [h] at e; cases e)
        · exact .inr (fun e => h e.symm))
      obtain ⟨z0, z1, z2, z3⟩ := hQ1.out wx rfl
      have c1' := hc1.out wx hBx.out
      clear hHx c0
      by_cases hk0 : k = 0
      all_goals
        first
          | (subst hk0; have x0 : wr.cell? ad = some (.int .i64 y0) := x0; have x1 : wr.cell? { block := ad.block, off := ad.off + 1 } = some (.int .i64 y1) := x1; have x2 : wr.cell? { block := ad.block, off := ad.off + 2 } = some (.int .i64 y2) := x2; have x3 : wr.cell? { block := ad.block, off := ad.off + 3 } = some (.int .i64 y3) := x3; have c1' : wx.cell? bd = some (.int .i64 x) := c1'; have hc1 : Hid (∀ W : World, Below w.heap.size w W → W.cell? bd = some (.int .i64 x)) := hc1)
          | skip
        by_cases h1 : x < y3
        · rw [if_pos h1] at hsA
          by_cases h2 : 0 < x
          · rw [if_pos h2] at hsG
            go_wp2
            clear x0 x1 x2 x3 hwx
            go_region
            go_wp2_with (first
              | (at_builtin; refine wpList_app_ed1 rfl (.tmp 27) (.tmp 29) rfl ⟨y0, y1, y2, y3⟩ (gx := wx.heap.size) rfl rfl (heap_alloc_new wx _) (World.ownsRow.alloc O1x.out _) (hbs.out _) (by omega) ?_; intro g5 c5 w5 h5 g6 l6; (obtain ⟨p5, b5, d5, q5⟩ := ed_two (wa := (wx.alloc (.cells #[.int .i64 y0, .int .i64 y1, .int .i64 y2, .int .i64 y3] 33)).drew) (World.ownsRow.alloc O1x.out _) (World.ownsRow.alloc O2x.out _) hD.out ((hBx.out.alloc hBx.out.size _).drew) (hbs.out (.cells #[.int .i64 y0, .int .i64 y1, .int .i64 y2, .int .i64 y3] 33)) g6 l6); (have O5 := Lib.hid h5); (have P5 := Lib.hid p5); (have B5 := Lib.hid b5); (have D5 := Lib.hid d5); (obtain ⟨v0, v1, v2, v3⟩ := hQ1.out w5 ((q5 wr.heap.size (hbw.out (.cells #[.int .i64 y0, .int .i64 y1, .int .i64 y2, .int .i64 y3] 33)) (hA1n.out)).trans (hbq.out (.cells #[.int .i64 y0, .int .i64 y1, .int .i64 y2, .int .i64 y3] 33)))); (have c5' := hc1.out w5 b5); (have L5 := Lib.hid (own_ltE h5)); clear h5 g6 l6 p5 b5 d5 q5)
              | (at_builtin; refine wpList_app_ed1 rfl (.tmp 36) (.tmp 38) rfl ⟨y0, y1, y2, y3⟩ (gx := w5.heap.size) rfl rfl (heap_alloc_new w5 _) (World.ownsRow.alloc P5.out _) (by have := B5.out.size; show _ ≤ (w5.alloc _).heap.size; simp; omega) (by omega) ?_; intro g7 c7 w7 h7 g8 l8; (obtain ⟨p7, b7, d7, _⟩ := ed_two (World.ownsRow.alloc P5.out _) (World.ownsRow.alloc O5.out _) (.inr D5.out) (B5.out.alloc B5.out.size _) (by have := B5.out.size; simp; omega) g8 l8); (have O7 := Lib.hid h7); (have P7 := Lib.hid p7); (have B7 := Lib.hid b7); (have D7 : Hid (blk (some (⟨g5, 0, none⟩ : Addr)) = none ∨ blk (some (⟨g5, 0, none⟩ : Addr)) ≠ blk (some (⟨g7, 0, none⟩ : Addr))) := Lib.hid (.inr d7)); clear h7 g8 l8 p7 b7 d7))
            first
              | exact ⟨⟨1, _, _, c5, c7, _, _, by omega, rfl, rfl, rfl, Lib.hid (by rw [hsA.out, List.length_append]; rfl), Lib.hid (by rw [hsG.out, List.length_append]; rfl), Lib.hid (by rw [hsA.out]; exact P7.out), Lib.hid (by rw [hsG.out]; exact O7.out), D7, B7⟩, by simp [intOf]; omega⟩
              | exact ⟨⟨k + 1, _, _, c5, c7, _, _, by omega, by go_num, rfl, rfl, Lib.hid (by rw [hsA.out, List.length_append]; rfl), Lib.hid (by rw [hsG.out, List.length_append]; rfl), Lib.hid (by rw [hsA.out]; exact P7.out), Lib.hid (by rw [hsG.out]; exact O7.out), D7, B7⟩, by simp [intOf]; omega⟩
          · rw [if_neg h2, List.append_nil] at hsG
            have h2' : ¬ x > 0 := h2
            go_wp2
            clear x0 x1 x2 x3 hwx
            go_region
            go_wp2_with (first
              | (at_builtin; refine wpList_app_ed1 rfl (.tmp 27) (.tmp 29) rfl ⟨y0, y1, y2, y3⟩ (gx := wx.heap.size) rfl rfl (heap_alloc_new wx _) (World.ownsRow.alloc O1x.out _) (hbs.out _) (by omega) ?_; intro g5 c5 w5 h5 g6 l6; (obtain ⟨p5, b5, d5, q5⟩ := ed_two (wa := (wx.alloc (.cells #[.int .i64 y0, .int .i64 y1, .int .i64 y2, .int .i64 y3] 33)).drew) (World.ownsRow.alloc O1x.out _) (World.ownsRow.alloc O2x.out _) hD.out ((hBx.out.alloc hBx.out.size _).drew) (hbs.out (.cells #[.int .i64 y0, .int .i64 y1, .int .i64 y2, .int .i64 y3] 33)) g6 l6); (have O5 := Lib.hid h5); (have P5 := Lib.hid p5); (have B5 := Lib.hid b5); (have D5 := Lib.hid d5); (obtain ⟨v0, v1, v2, v3⟩ := hQ1.out w5 ((q5 wr.heap.size (hbw.out (.cells #[.int .i64 y0, .int .i64 y1, .int .i64 y2, .int .i64 y3] 33)) (hA1n.out)).trans (hbq.out (.cells #[.int .i64 y0, .int .i64 y1, .int .i64 y2, .int .i64 y3] 33)))); (have c5' := hc1.out w5 b5); (have L5 := Lib.hid (own_ltE h5)); clear h5 g6 l6 p5 b5 d5 q5))
            have D9 : blk (some (⟨g5, 0, none⟩ : Addr)) = none ∨ blk (some (⟨g5, 0, none⟩ : Addr)) ≠ blk A2 := .inr (fun e => D5.out e.symm)
            first
              | exact ⟨⟨1, _, _, c5, c2, _, A2, by omega, rfl, rfl, rfl, Lib.hid (by rw [hsA.out, List.length_append]; rfl), Lib.hid (by rw [hsG.out]), Lib.hid (by rw [hsA.out]; exact O5.out), Lib.hid (by rw [hsG.out]; exact P5.out), Lib.hid D9, B5⟩, by simp [intOf]; omega⟩
              | exact ⟨⟨k + 1, _, _, c5, c2, _, A2, by omega, by go_num, rfl, rfl, Lib.hid (by rw [hsA.out, List.length_append]; rfl), Lib.hid (by rw [hsG.out]), Lib.hid (by rw [hsA.out]; exact O5.out), Lib.hid (by rw [hsG.out]; exact P5.out), Lib.hid D9, B5⟩, by simp [intOf]; omega⟩
        · rw [if_neg h1, List.append_nil] at hsA
          by_cases h2 : 0 < x
          · rw [if_pos h2] at hsG
            go_wp2
            clear x0 x1 x2 x3 hwx
            go_region
            go_wp2_with (first
              | (at_builtin; refine wpList_app_ed1 rfl (.tmp 36) (.tmp 38) rfl ⟨y0, y1, y2, y3⟩ (gx := wx.heap.size) rfl rfl (heap_alloc_new wx _) (World.ownsRow.alloc O2x.out _) (hbs.out _) (by omega) ?_; intro g7 c7 w7 h7 g8 l8; (obtain ⟨p7, b7, d7, _⟩ := ed_two (wa := (wx.alloc (.cells #[.int .i64 y0, .int .i64 y1, .int .i64 y2, .int .i64 y3] 33)).drew) (World.ownsRow.alloc O2x.out _) (World.ownsRow.alloc O1x.out _) (hDs.out) ((hBx.out.alloc hBx.out.size _).drew) (hbs.out (.cells #[.int .i64 y0, .int .i64 y1, .int .i64 y2, .int .i64 y3] 33)) g8 l8); (have O7 := Lib.hid h7); (have P7 := Lib.hid p7); (have B7 := Lib.hid b7); (have D7 : Hid (blk A1 = none ∨ blk A1 ≠ blk (some (⟨g7, 0, none⟩ : Addr))) := Lib.hid (.inr d7)); clear h7 g8 l8 p7 b7 d7))
            first
              | exact ⟨⟨1, _, _, c1, c7, A1, _, by omega, rfl, rfl, rfl, Lib.hid (by rw [hsA.out]), Lib.hid (by rw [hsG.out, List.length_append]; rfl), Lib.hid (by rw [hsA.out]; exact P7.out), Lib.hid (by rw [hsG.out]; exact O7.out), D7, B7⟩, by simp [intOf]; omega⟩
              | exact ⟨⟨k + 1, _, _, c1, c7, A1, _, by omega, by go_num, rfl, rfl, Lib.hid (by rw [hsA.out]), Lib.hid (by rw [hsG.out, List.length_append]; rfl), Lib.hid (by rw [hsA.out]; exact P7.out), Lib.hid (by rw [hsG.out]; exact O7.out), D7, B7⟩, by simp [intOf]; omega⟩
          · rw [if_neg h2, List.append_nil] at hsG
            go_wp2
            clear x0 x1 x2 x3 hwx
            go_region
            go_wp2
            first
              | exact ⟨⟨1, _, _, c1, c2, A1, A2, by omega, rfl, rfl, rfl, Lib.hid (by rw [hsA.out]), Lib.hid (by rw [hsG.out]), Lib.hid (by rw [hsA.out]; exact O1x.out), Lib.hid (by rw [hsG.out]; exact O2x.out), hD, Lib.hid hBx.out.drew⟩, by simp [intOf]; omega⟩
              | exact ⟨⟨k + 1, _, _, c1, c2, A1, A2, by omega, by go_num, rfl, rfl, Lib.hid (by rw [hsA.out]), Lib.hid (by rw [hsG.out]), Lib.hid (by rw [hsA.out]; exact O1x.out), Lib.hid (by rw [hsG.out]; exact O2x.out), hD, Lib.hid hBx.out.drew⟩, by simp [intOf]; omega⟩
    · obtain rfl : k = l.length := by omega
      obtain rfl := hq1.out
      obtain rfl := hq2.out
      have hOs := Lib.hid (own_one wr w.heap.size s hB.out.size)
      have hO1s := Lib.hid (OwnE.grown hO1.out (World.grownBy_alloc wr (.cells #[.int .i64 s] 3) none) (by cases hb : blk A1 with | none => exact .inl rfl | some g => exact .inr (fun e => by cases e)))
      have hO2s := Lib.hid (OwnE.grown hO2.out (World.grownBy_alloc wr (.cells #[.int .i64 s] 3) none) (by cases hb : blk A2 with | none => exact .inl rfl | some g => exact .inr (fun e => by cases e)))
      have hBs := Lib.hid (hB.out.alloc hB.out.size (.cells #[.int .i64 s] 3))
      have hIs : Hid (∀ x ∈ [s], RR x) := Lib.hid (fun x hx => by rw [List.mem_singleton.1 hx]; exact hS0.out)
      clear hO1 hO2 hB hD hP hQ haS hbS hal hLen hk hlt hq1 hq2
      go_wp2
      obtain ⟨wo, rfl⟩ : ∃ wo, wo = wr := ⟨wr, rfl⟩
      go_loopg [11] (2 * l.length + 2) (fun kx v11 w2 => ∃ (A3 : Option Addr) (c3 q : Nat) (I : List Int), v11 = .slice A3 q c3 ∧ Hid (q = I.length) ∧ Hid (2 * l.length + 2 ≤ kx + I.length) ∧ Hid (I.Nodup) ∧ Hid (s ∈ I) ∧ Hid (∀ x ∈ I, RR x) ∧ Hid (OwnI w2 w.heap.size A3 c3 I) ∧ Hid (OwnE w2 w.heap.size A1 c1 (AA l.length)) ∧ Hid (OwnE w2 w.heap.size A2 c2 (GG l.length)) ∧ Hid (Below w.heap.size w w2))
      case atStart => exact ⟨_, 1, 1, [s], rfl, Lib.hid rfl, Lib.hid (by omega), Lib.hid (by simp), Lib.hid (by simp), hIs, hOs, hO1s, hO2s, hBs⟩
      case round =>
        clear hOs hO1s hO2s hBs hIs hS0
        obtain ⟨A3, c3, q, I, rfl, hq, hkx, hnd, hsI, hI, hO3, hO1, hO2, hB⟩ := hrel
        obtain rfl := hq.out
        have hIl := hNl.out I hnd.out hI.out
        obtain ⟨hR1, hR2⟩ := hRr.out I hI.out
        have hRl := hNl.out _ hR2 hR1
        have hRw := Lib.hid (hWf.out _ hR1)
        obtain ⟨hT1, hT2, hT3⟩ := hTr.out I hI.out
        have hTl := Lib.hid (hNl.out _ hT2 hT1)
        have hTe1 := Lib.hid (hTe.out I hI.out hsI.out hnd.out)
        have hle := Lib.hid (nodup_len hnd.out hT3)
        have hsT := Lib.hid (hT3 s hsI.out)
        have hTd1 := Lib.hid (hTd.out I)
        have kR := Lib.hid (hR.out A1 A3 c1 c3 I wr hO1.out hO3.out.rd (by omega) (hWf.out I hI.out))
        have hTT1 := Lib.hid hT1
        have hTT2 := Lib.hid hT2
        have hWfI := hWf
        clear hR hRr hTr hTe hTd hR1 hR2 hT1 hT2 hT3 hq
        obtain ⟨R1, hR1⟩ : ∃ R1, reachL (AA l.length) I = R1 := ⟨_, rfl⟩
        rw [hR1] at kR hRw hTd1 hRl
        obtain ⟨T1, hT1⟩ : ∃ T1, TT I = T1 := ⟨_, rfl⟩
        rw [hT1] at hTl hTe1 hle hsT hTd1 hTT1 hTT2
        have kB := Lib.hid (fun (A4 : Option Addr) (c4 : Nat) (W : World) (h1 : OwnE W w.heap.size A2 c2 (GG l.length)) (h2 : Rd W W.heap.size A4 c4 (cellsI R1)) => hBk.out A2 A4 c2 c4 R1 W h1 h2 (by omega) hRw.out)
        rw [← hTd1.out] at kB
        clear hR1 hT1 hTd1 hBk hRw hNl hWf hWfI
        have hI1000 : Hid (I.length ≤ 1000) := Lib.hid (by omega)
        have hkk : Hid (T1.length ≠ I.length → 2 * l.length + 2 ≤ gk - 1 + T1.length ∧ gk - 1 < gk) := Lib.hid (fun h => by have h1 := hkx.out; have h2 := hle.out; omega)
        clear hIl hRl hkx
        by_cases hlen : T1.length = I.length
        · have hb : ((T1.length : Int) == (I.length : Int)) = true := beq_iff_eq.2 (by omega)
          have hR := Lib.hid (hTe1.out hlen)
          have hF := Lib.hid (fun (w' : World) (h1 : OwnI w' w.heap.size A3 c3 I) (h2 : Below w.heap.size w w') => hEnd.out A3 c3 I w' h1 hI1000.out hR.out h2)
          clear hlen hTe1 hEnd
          go_wp2_with (first
            | (go_at_call 23; (with_reducible refine (kR.out).mono ?_); rintro e w3 ⟨A4, c4, rfl, h4, b3⟩; (have H4 := Lib.hid h4.rd); (have B3 := Lib.hid (hB.out.trans (b3.mono hB.out.size))); (have P3 := Lib.hid (hO3.out.up b3)); (have P1 := Lib.hid (OwnE.up hO1.out b3)); (have P2 := Lib.hid (OwnE.up hO2.out b3)); clear h4 b3)
            | (go_at_call 48; (with_reducible refine (kB.out A4 c4 w3 P2.out H4.out).mono ?_); rintro e w4 ⟨A5, c5, rfl, h5, b4⟩; (have H5 := Lib.hid (h5.less B3.out.size)); (have B4 := Lib.hid (B3.out.trans (b4.mono B3.out.size))); (have Q3 := Lib.hid (P3.out.up b4)); (have Q1 := Lib.hid (OwnE.up P1.out b4)); (have Q2 := Lib.hid (OwnE.up P2.out b4)); clear h5 b4))
          exact hF.out _ Q3.out B4.out
        · have hb : ((T1.length : Int) == (I.length : Int)) = false := beq_eq_false_iff_ne.2 (by omega)
          have hK2 := Lib.hid (hkk.out hlen)
          clear hlen hTe1 hEnd hkk
          go_wp2_with (first
            | (go_at_call 23; (with_reducible refine (kR.out).mono ?_); rintro e w3 ⟨A4, c4, rfl, h4, b3⟩; (have H4 := Lib.hid h4.rd); (have B3 := Lib.hid (hB.out.trans (b3.mono hB.out.size))); (have P3 := Lib.hid (hO3.out.up b3)); (have P1 := Lib.hid (OwnE.up hO1.out b3)); (have P2 := Lib.hid (OwnE.up hO2.out b3)); clear h4 b3)
            | (go_at_call 48; (with_reducible refine (kB.out A4 c4 w3 P2.out H4.out).mono ?_); rintro e w4 ⟨A5, c5, rfl, h5, b4⟩; (have H5 := Lib.hid (h5.less B3.out.size)); (have B4 := Lib.hid (B3.out.trans (b4.mono B3.out.size))); (have Q3 := Lib.hid (P3.out.up b4)); (have Q1 := Lib.hid (OwnE.up P1.out b4)); (have Q2 := Lib.hid (OwnE.up P2.out b4)); clear h5 b4))
          go_roundg (gk - 1)
          case measure => exact hK2.out.2
          case rel => exact ⟨A5, c5, _, T1, rfl, Lib.hid rfl, Lib.hid hK2.out.1, hTT2, hsT, hTT1, H5, Q1, Q2, B4⟩
end Go.Proofs.Ytdemnbbofigcdaa
