/- The package's Order. -/
import Derived.Test.YtlaklfiodmnocaaKahn
import Derived.Test.YtlaklfiodmnocaaBinI
namespace Go.Proofs.Ytlaklfiodmnocaa
open Go.RowKit

theorem cntN_take {l : List Ed} {k : Nat} (h : k < l.length) (i : Int) : cntN (l.take (k + 1)) [] i = cntN (l.take k) [] i + if eT l k = i then 1 else 0 := by
  unfold cntN
  rw [List.take_succ_eq_append_getElem h, List.filter_append, List.length_append, e_eta h]
  congr 1
  by_cases hi : eT l k = i
  · simp [hi, hasB]
  · simp [hi]
theorem wm0_get (l : List Ed) (i : Int) : (wm l [] [] i).getD (.int .i64 0) = .int .i64 (cntN l [] i : Nat) := by
  unfold wm
  by_cases h : i ∈ nodesL l ∧ i ∉ ([] : List Int)
  · rw [if_pos h]
    rfl
  · rw [if_neg h, cntN_zero.2]
    · rfl
    · intro e he ht
      exact absurd ⟨mem_nodes.2 ⟨e, he, .inr ht.symm⟩, by simp⟩ h
theorem wm0_get2 (l : List Ed) (a b : Int) : (upd (wm l [] []) a (.int .i64 (cntN l [] a : Nat)) b).getD (.int .i64 0) = .int .i64 (cntN l [] b : Nat) := by
  unfold upd
  by_cases h : b = a
  · rw [if_pos h, h]
    rfl
  · rw [if_neg h, wm0_get]
theorem wm0_step {l : List Ed} {k : Nat} (h : k < l.length) : upd (upd (wm (l.take k) [] []) (eF l k) (.int .i64 (cntN (l.take k) [] (eF l k) : Nat))) (eT l k) (.int .i64 ((cntN (l.take k) [] (eT l k) : Nat) + 1 : Int)) = wm (l.take (k + 1)) [] [] := by
  funext i
  have hmem : i ∈ nodesL (l.take (k + 1)) ↔ i = eT l k ∨ i = eF l k ∨ i ∈ nodesL (l.take k) := by rw [nodes_step h, mem_ins, mem_ins]
  unfold upd
  by_cases h1 : i = eT l k
  · rw [if_pos h1, wm_in ⟨hmem.2 (.inl h1), by simp⟩, cntN_take h, h1, if_pos rfl]
    simp
  · rw [if_neg h1]
    by_cases h2 : i = eF l k
    · rw [if_pos h2, wm_in ⟨hmem.2 (.inr (.inl h2)), by simp⟩, cntN_take h, if_neg (fun e => h1 e.symm), h2]
      simp
    · rw [if_neg h2]
      unfold wm
      by_cases h3 : i ∈ nodesL (l.take k)
      · rw [if_pos ⟨h3, by simp⟩, if_pos ⟨hmem.2 (.inr (.inr h3)), by simp⟩, cntN_take h, if_neg (fun e => h1 e.symm)]
        rfl
      · rw [if_neg (fun hh => h3 hh.1), if_neg (fun hh => by rcases hmem.1 hh.1 with h4 | h4 | h4; exact h1 h4; exact h2 h4; exact h3 h4)]
theorem wm0_zero : wm [] [] [] = fun _ => none := by
  funext i
  unfold wm
  rw [if_neg]
  rintro ⟨h, _⟩
  cases h
def WaitsPost (W : World) (n : Nat) (m : Int → Option Value) (e : Ending) (w' : World) : Prop := ∃ b, e = .returned (.map (some b)) ∧ W.heap.size ≤ b ∧ MapV w' b n m ∧ Below W.heap.size W w'
set_option maxRecDepth 100000 in
set_option maxHeartbeats 4000000 in
theorem waits_any (A : Option Addr) (l : List Ed) (c : Nat) (w : World) (hp : Es w w.heap.size A l) (hmax : l.length ≤ 1000000) :
    Calls Try.prog 39 #[.slice A l.length c] w (WaitsPost w (2 * l.length) (wm l [] [])) := by
  have hP := Lib.hid hp
  have hmm := @run_makeMap Try.prog
  clear hp
  go_enter Try.func39, Try.ntmps39
  go_wp2
  clear hmm
  have hM0 : Hid (MapV (w.alloc (.map #[] 0)) w.heap.size (2 * 0) (wm (l.take 0) [] [])) := Lib.hid (by rw [List.take_zero, wm0_zero]; exact mapV_made w)
  have hB0 : Hid (Below w.heap.size w (w.alloc (.map #[] 0))) := Lib.hid ((Below.refl _ _).alloc (Nat.le_refl _) _)
  go_loopw [9] (fun i wr => ∃ k : Nat, k ≤ l.length ∧ i = .int .i64 k ∧ Hid (Below w.heap.size w wr) ∧ Hid (MapV wr w.heap.size (2 * k) (wm (l.take k) [] []))) (fun i _ => l.length - (intOf i).toNat)
  case atStart => exact ⟨0, by omega, rfl, hB0, hM0⟩
  case round =>
    obtain ⟨k, hk, rfl, hB, hM⟩ := hrel
    clear hM0 hB0
    by_cases hlt : k < l.length
    · obtain ⟨ad, rfl, hab, x0, x1, x2, x3⟩ := (hP.out.below hB.out).get hlt
      have hst := Lib.hid (wm0_step hlt)
      have hg1 := Lib.hid (wm0_get (l.take k) (eF l k))
      have hg2 := Lib.hid (wm0_get2 (l.take k) (eF l k) (eT l k))
      have hc1 : cntN (l.take k) [] (eF l k) ≤ 1000000 := Nat.le_trans (cntN_le _ _ _) (by rw [List.length_take]; omega)
      have hc2 : cntN (l.take k) [] (eT l k) ≤ 1000000 := Nat.le_trans (cntN_le _ _ _) (by rw [List.length_take]; omega)
      generalize cntN (l.take k) [] (eF l k) = c1 at *
      generalize cntN (l.take k) [] (eT l k) = c2 at *
      generalize eI l k = y0 at *
      generalize eF l k = y1 at *
      generalize eT l k = y2 at *
      generalize eC l k = y3 at *
      have hMx := Lib.hid (hM.out.alloc (.cells #[.int .i64 y0, .int .i64 y1, .int .i64 y2, .int .i64 y3] 42))
      have hBx := Lib.hid (hB.out.alloc hB.out.size (.cells #[.int .i64 y0, .int .i64 y1, .int .i64 y2, .int .i64 y3] 42))
      have hX := box_four (Below.refl (wr.alloc (.cells #[.int .i64 y0, .int .i64 y1, .int .i64 y2, .int .i64 y3] 42)).heap.size _)
      have hne : Hid (some wr.heap.size ≠ some w.heap.size) := Lib.hid (fun e => by injection e with e; have := hM.out.lt; omega)
      have hZs : Hid (wr.heap.size < (wr.alloc (.cells #[.int .i64 y0, .int .i64 y1, .int .i64 y2, .int .i64 y3] 42)).heap.size) := Lib.hid (by simp)
      obtain ⟨_, z1, z2, _⟩ := hX
      have hZ2 := Lib.hid z2
      clear hM hB hP
      go_wp2_with (first
        | (at_lookup; refine wpList_lookup_v rfl (.tmp 13) (.tmp 15) rfl Try.underlying59 Try.underlying3 (zeroI _) rfl rfl hMx.out ?_; rw [hg1.out])
        | (at_mapUpdate; refine wpList_mapUpdate_v (v := .int .i64 (c1 : Int)) rfl (.tmp 13) (.tmp 15) (.tmp 17) rfl Try.underlying59 Try.underlying3 rfl rfl rfl hMx.out ?_; intro w4 h4 g4 z4; (have M4 := Lib.hid h4); (have B4 := Lib.hid (hBx.out.grown g4 hBx.out.size (fun q hq => by cases hq; exact Nat.le_refl _))); (have z2 : w4.cell? ⟨wr.heap.size, 2, none⟩ = some (.int .i64 y2) := (World.cell?_of_block (a := ⟨wr.heap.size, 2, none⟩) (g4.block _ hZs.out hne.out)).trans hZ2.out); clear h4 g4 z4)
        | (at_lookup; refine wpList_lookup_v rfl (.tmp 18) (.tmp 20) rfl Try.underlying59 Try.underlying3 (zeroI _) rfl rfl M4.out ?_; rw [hg2.out])
        | (at_mapUpdate; refine wpList_mapUpdate_v (v := .int .i64 ((c2 : Int) + 1)) rfl (.tmp 18) (.tmp 20) (.tmp 22) rfl Try.underlying59 Try.underlying3 rfl rfl rfl M4.out ?_; intro w5 h5 g5 z5; (have M5 := Lib.hid h5); (have B5 := Lib.hid (B4.out.grown g5 B4.out.size (fun q hq => by cases hq; exact Nat.le_refl _))); clear h5 g5 z5))
      exact ⟨⟨k + 1, by omega, by go_num, B5, Lib.hid (by have := M5.out; rw [hst.out] at this; exact this)⟩, by simp [intOf]; omega⟩
    · obtain rfl : k = l.length := by omega
      have hE := Lib.hid hM.out
      clear hM hP
      go_wp2
      go_ret
      refine ⟨_, rfl, Nat.le_refl _, ?_, hB.out⟩
      have := hE.out
      rwa [List.take_length] at this

/-! ### The walk of Order -/
theorem wpList_app_one {w : World} {ops : Array Oper} {rest : List Oper} {o : Oper} {a : Act} {Q : Exit → Act → World → Prop} (hgd : o.guard = none) (s x : Operand)
    (ho : o.op = .call { callee := .builtin .append, args := #[s, x], argTypes := #[27, 27] }) {base c : Nat} {A : Option Addr} {l : List Int} (y : Int) {gx : Nat}
    (hs : a.eval s = .slice A l.length c) (hx : a.eval x = .slice (some ⟨gx, 0, none⟩) 1 1) (hnew : w.cell? ⟨gx, 0, none⟩ = some (.int .i64 y)) (hown : OwnI w base A c l) (hbase : base ≤ w.heap.size) (hl : l.length ≤ 1000000000)
    (h : ∀ g c' w', OwnI w' base (some ⟨g, 0, none⟩) c' (l ++ [y]) → w.grownBy w' (blk A) → (blk A = some g ∨ g = w.heap.size) → wpList Try.prog ops Q rest (a.put o.dst (.slice (some ⟨g, 0, none⟩) (l.length + 1) c')) w') : wpList Try.prog ops Q (o :: rest) a w := by
  obtain ⟨i0, hi, hz0, hz1, hz2⟩ := info_parts info_i64
  refine wpList_append_lies _ hgd s x 27 ho base 3 i0 (.int .i64 0) 1 8 Try.underlying27 hi hz0 hz1 hz2 rfl (by decide) _ l.length (cellsI l) hs hown ⟨gx, 0, none⟩ 1 1 [.int .i64 y] hx (by rfl) (fun j u hj => ?_) (fun u hu => one_i64 (x := y) hu) (by decide) (by unfold maxLen; omega) (by omega) hbase _ rfl ?_
  · match j, hj with
    | 0, hj =>
      have hj : Value.int .i64 y = u := by simpa using hj
      rw [← hj]
      exact hnew
    | j + 1, hj => simp at hj
  · intro g c' w' h1 h2 h3 _
    rw [own_block] at h2 h3
    refine h g c' w' ?_ h2 h3
    unfold OwnI
    rw [List.length_append, cellsI_append]
    exact h1
theorem Ow.head {w : World} {base n cap s : Nat} {e : TypeId} {A : Option Addr} {xs : List Value} (h : Ow w base e s A n cap xs) (hn : 0 < n) : ∃ g off, A = some ⟨g, off, none⟩ ∧ base ≤ g ∧ g < w.heap.size := by
  rcases h.2 with ⟨_, h0, _⟩ | ⟨g, off, pre, post, h1, h2, h3, _⟩
  · omega
  · exact ⟨g, off, h1, h2, (Array.getElem?_eq_some_iff.1 h3).1⟩
theorem ow_own_apart {w w' : World} {base c2 : Nat} {A1 A2 : Option Addr} {l : List Int} (h : OwnI w base A2 c2 l) (hg : w.grownBy w' (blk A1)) (hne : blk A1 = none ∨ blk A1 ≠ blk A2) : OwnI w' base A2 c2 l := by
  rcases hne with hne | hne
  · rw [hne] at hg
    cases A2 with
    | none => exact h.grown hg (.inr rfl)
    | some a => exact h.grown hg (.inl (fun e => by cases e))
  · exact h.grown hg (.inl (fun e => hne e.symm))
theorem upd_same (m : Int → Option Value) (i : Int) (v z : Value) : (upd m i v i).getD z = v := by unfold upd; rw [if_pos rfl]; rfl
theorem dj_lies {A : Option Addr} {a g h : Nat} {B : Option Nat} (hA : blk A = some a) (ha : a < h) (hDj : blk A = none ∨ blk A ≠ B) (hl : B = some g ∨ g = h) : blk A = none ∨ blk A ≠ some g := by
  right
  rcases hDj with hd | hd
  · rw [hA] at hd; cases hd
  · rcases hl with hl | hl
    · rw [← hl]; exact hd
    · rw [hA, hl]
      intro e
      injection e with e
      omega
theorem dj_new {A A' : Option Addr} {g h : Nat} (hg : g < h) (hDj : blk A = none ∨ blk A ≠ some g) (hl : blk A' = blk A ∨ ∃ a, blk A' = some a ∧ h ≤ a) : blk A' = none ∨ blk A' ≠ some g := by
  rcases hl with hl | ⟨a, ha, hle⟩
  · rw [hl]; exact hDj
  · right
    rw [ha]
    intro e
    injection e with e
    omega
theorem filt_step {N : List Int} {P : Int → Bool} {k : Nat} (h : k < N.length) : (N.take (k + 1)).filter P = (N.take k).filter P ++ if P (ix N k) = true then [ix N k] else [] := by
  rw [List.take_succ_eq_append_getElem h, List.filter_append, ix_at h]
  congr 1
  by_cases hp : P N[k] = true
  · simp [hp]
  · simp [hp]
theorem wm0_some (l : List Ed) (i : Int) : i ∈ nodesL l ↔ (wm l [] [] i).isSome = true := by
  unfold wm
  by_cases h : i ∈ nodesL l
  · simp [h]
  · simp [h]
theorem wm_wf {l : List Ed} (hg : Grph l) {i : Int} {v : Value} (h : wm l [] [] i = some v) : (Lit.int .i64 i).wf = true := by
  have h1 := (wm0_some l i).2 (by rw [h]; rfl)
  obtain ⟨e, he, hx⟩ := mem_nodes.1 h1
  obtain ⟨r1, r2, r3, r4, _⟩ := hg.2.1 e he
  rcases hx with rfl | rfl
  · exact wf_node r1 r2
  · exact wf_node r3 r4
theorem kahn_bound {l : List Ed} {o F T : List Int} (hg : Grph l) (h : Kahn l o F T) : F.length ≤ 400 ∧ o.length ≤ (nodesL l).length := by
  have h0 := nodes_len l
  have h1 := nodup_len (inc_nodup h.inc) (b := nodesL l) fun x hx => ((h.mem x).1 hx).1
  have h2 := nodup_len h.placed.1 (b := nodesL l) h.placed.2.1
  have := hg.1
  exact ⟨by omega, h2⟩

set_option maxRecDepth 100000 in
set_option maxHeartbeats 8000000 in
theorem gOrder_any (A : Option Addr) (l : List Ed) (c : Nat) (w : World) (hp : Es w w.heap.size A l) (hg : Grph l) :
    Calls Try.prog 20 #[.slice A l.length c] w (OrdPost w l) := by
  have hgl := hg.1
  have hNl : (nodesL l).length ≤ 400 := by have := nodes_len l; omega
  have k1 := Lib.hid (targets_any A l c w hp (by omega))
  have k2 := Lib.hid (fun (W : World) (b : Below w.heap.size w W) => waits_any A l c W (hp.up b) (by omega))
  have hWf := Lib.hid (fun (i : Int) (v : Value) (h : wm l [] [] i = some v) => wm_wf hg h)
  have hSome := Lib.hid (wm0_some l)
  have hInc := Lib.hid (nodes_inc l)
  have hGet := Lib.hid (wm0_get l)
  have hFs := Lib.hid (fun (k : Nat) (h : k < (nodesL l).length) => filt_step (P := fun n => decide (cntN l [] n = 0)) h)
  have hSt := Lib.hid (kahn_start l)
  have hc0 := Lib.hid (fun (i : Int) => cntN_le l [] i)
  have hDec : Hid (∀ (o F T : List Int) (t : Int), Kahn l o F (t :: T) → T.length ≤ 500 → ∃ p : Nat, wm l o (t :: T) t = some (.int .i64 ((p : Int) + 1)) ∧ upd (wm l o (t :: T)) t (.int .i64 (p : Int)) = wm l o T ∧ p ≤ 1000 ∧ (p = 0 → t ∉ F ∧ Kahn l o (ins t F) T) ∧ (¬ p = 0 → Kahn l o F T)) := Lib.hid (fun o F T t h hT => by
    obtain ⟨d1, d2⟩ := kahn_dec h
    refine ⟨cntN l o t + T.count t, ?_, d2, ?_, kahn_free h, kahn_wait h⟩
    · rw [d1]; rfl
    · have h1 := cntN_le l o t
      have h2 : T.count t ≤ T.length := List.count_le_length
      omega)
  have hNext := Lib.hid (fun (o F : List Int) (n : Int) (h : Kahn l o (n :: F) []) => kahn_next h)
  have hBd := Lib.hid (fun (o F T : List Int) (h : Kahn l o F T) => kahn_bound hg h)
  have hIn := Lib.hid (fun (o F T : List Int) (h : Kahn l o F T) => h.inc)
  have hAll := Lib.hid (fun (o : List Int) (h : Kahn l o [] []) => kahn_all h)
  have hTl := Lib.hid (fun (i : Int) => tgt_len l i)
  obtain ⟨GG, hGG⟩ : ∃ GG : List Int → Prop, GG = fun o => ordGo l (nodesL l) ((nodesL l).length - o.length) o = ordL l := ⟨_, rfl⟩
  have hG0 : Hid (GG []) := Lib.hid (by rw [hGG]; rfl)
  have hGs : Hid (∀ (o F : List Int) (n : Int), GG o → Kahn l o (n :: F) [] → GG (o ++ [n]) ∧ o.length < (nodesL l).length) := Lib.hid (fun o F n h1 h2 => by
    rw [hGG] at h1 ⊢
    refine ⟨?_, kahn_lt h2⟩
    have h1 : ordGo l (nodesL l) ((nodesL l).length - o.length) o = ordL l := h1
    rw [ordGo_some (kahn_lt h2) (kahn_pick h2)] at h1
    exact h1)
  have hNo : Hid (∀ (o : List Int), GG o → Kahn l o [] [] → ¬ (nodesL l).length ≤ o.length → ∀ w', Below w.heap.size w w' → OrdPost w l (.returned (.tuple #[.slice none 0 0, .int .i64 16])) w') := Lib.hid (fun o h1 h2 h3 w' hb => by
    rw [hGG] at h1
    have h1 : ordGo l (nodesL l) ((nodesL l).length - o.length) o = ordL l := h1
    exact ord_loop (h1.symm.trans (ordGo_none (by omega) (kahn_none h2))) hb)
  have hYes : Hid (∀ (o : List Int), GG o → (nodesL l).length ≤ o.length → ∀ (A' : Option Addr) (c' : Nat) (w' : World), OwnI w' w.heap.size A' c' o → Below w.heap.size w w' → OrdPost w l (.returned (.tuple #[.slice A' o.length c', .int .i64 0])) w') := Lib.hid (fun o h1 h2 A' c' w' ho hb => by
    rw [hGG] at h1
    have h1 : ordGo l (nodesL l) ((nodesL l).length - o.length) o = ordL l := h1
    exact ord_ok (h1.symm.trans (ordGo_end h2)) ho hb)
  obtain ⟨goal, hgo⟩ : ∃ goal, OrdPost w l = goal := ⟨_, rfl⟩
  rw [hgo] at hNo hYes ⊢
  generalize Kahn l = KK at *
  generalize wm l = WW at *
  generalize tgt l = TT at *
  generalize cntN l [] = C0 at *
  generalize nodesL l = N at *
  clear hp hg hGG hgo
  go_enter Try.func20, Try.ntmps20
  go_upto_region 4 with (first
    | (go_at_call 32; (with_reducible refine (k1.out).mono ?_); rintro e w1 ⟨bn, rfl, h1, b1⟩; (have G1 := Lib.hid h1); (have B1 := Lib.hid b1); clear h1 b1)
    | (go_at_call 39; (with_reducible refine (k2.out w1 B1.out).mono ?_); rintro e w2 ⟨bw, rfl, hbw, h2, b2⟩; (have M2 := Lib.hid h2); (have B2 := Lib.hid b2); (have hBw := Lib.hid hbw); clear h2 b2 hbw))
  have kK := Lib.hid (keysB_any bw w2)
  have kS := Lib.hid (sortedB_any bw (2 * l.length) (WW [] []) N w2 M2.out (by omega) hWf.out hInc.out hSome.out)
  go_wp2_with (first
    | (go_at_call 40; (with_reducible refine (kK.out).mono ?_); rintro e wq ⟨rfl, rfl⟩)
    | (go_at_call 34; (with_reducible refine (kS.out).mono ?_); rintro e w4 ⟨A4, c4, rfl, h4, b4⟩; (have O4 := Lib.hid h4.rd); (have B4 : Hid (Below w2.heap.size w2 w4) := Lib.hid (((Below.refl w2.heap.size w2).alloc (Nat.le_refl _) (.cells #[.map (some bw)] 59)).trans (b4.mono (by simp)))); clear h4 b4))
  have M4 := Lib.hid (M2.out.below B4.out M2.out.lt)
  have hB14 : Hid (Below w1.heap.size w1 w4) := Lib.hid (B2.out.trans (B4.out.mono B2.out.size))
  clear kK kS k1 k2 hWf hSome M2 hInc
  obtain ⟨FF, hFF⟩ : ∃ FF : Nat → List Int, FF = fun k => (N.take k).filter (fun n => decide (C0 n = 0)) := ⟨_, rfl⟩
  have hF0 : Hid (FF 0 = []) := Lib.hid (by rw [hFF]; rfl)
  have hFE : Hid (KK [] (FF N.length) []) := Lib.hid (by rw [hFF]; simp only; rw [List.take_length]; exact hSt.out)
  have hFS : Hid (∀ k, k < N.length → (C0 (ix N k) = 0 → FF (k + 1) = FF k ++ [ix N k]) ∧ (¬ C0 (ix N k) = 0 → FF (k + 1) = FF k)) := Lib.hid (fun k h => by
    have := hFs.out k h
    rw [hFF]
    simp only
    refine ⟨fun h0 => ?_, fun h0 => ?_⟩
    · rw [this, if_pos (by simp [h0])]
    · rw [this, if_neg (by simp [h0]), List.append_nil])
  have hFl : Hid (∀ k, (FF k).length ≤ 400) := Lib.hid (fun k => by
    rw [hFF]
    have h1 := List.length_filter_le (fun n => decide (C0 n = 0)) (N.take k)
    rw [List.length_take] at h1
    simp only
    omega)
  clear hFF hFs hSt
  obtain ⟨i0, hi, hz0, hz1, hz2⟩ := info_parts info_i64
  have hI := Lib.hid hi
  have hZ0 := Lib.hid hz0
  have hZ1 := Lib.hid hz1
  have hZ2 := Lib.hid hz2
  clear hi hz0 hz1 hz2
  go_loopw [6, 21] (fun v i wr => ∃ (k q : Nat) (A6 : Option Addr) (c6 : Nat), k ≤ N.length ∧ i = .int .i64 k ∧ v = .slice A6 q c6 ∧ Hid (q = (FF k).length) ∧ Hid (Ow wr w4.heap.size 3 1 A6 q c6 (cellsI (FF k))) ∧ Hid (Below w4.heap.size w4 wr)) (fun _ i _ => N.length - (intOf i).toNat)
  case atStart => exact ⟨0, 0, none, 0, by omega, rfl, rfl, Lib.hid (by rw [hF0.out]; rfl), Lib.hid (by rw [hF0.out]; exact ow_nil _ _ _ _), Lib.hid (Below.refl _ _)⟩
  case round =>
    obtain ⟨k, q, A6, c6, hk, rfl, rfl, hq, hO, hB⟩ := hrel
    clear hF0
    have hMr := Lib.hid (M4.out.below hB.out M4.out.lt)
    by_cases hlt : k < N.length
    · obtain ⟨ad, rfl, hab, x0⟩ := (O4.out.below hB.out).get (cellsI_ix hlt)
      have hg := Lib.hid (hGet.out (ix N k))
      have hs1 := Lib.hid (hFS.out k hlt).1
      have hs2 := Lib.hid (hFS.out k hlt).2
      have hfl := hFl.out k
      generalize ix N k = n at *
      generalize C0 n = cc at *
      generalize FF k = F0 at *
      have hql : q ≤ 400 := by have := hq.out; omega
      clear hFl hFE hFS hNext hDec hBd hIn hAll hGs hNo hYes hGet hfl
      by_cases hz : cc = 0
      · have hF := Lib.hid (hs1.out hz)
        subst hz
        have hO2 := Lib.hid (hO.out.alloc (.cells #[.int .i64 n] 3))
        have hB2 := Lib.hid (hB.out.alloc hB.out.size (.cells #[.int .i64 n] 3))
        by_cases hk0 : k = 0
        all_goals
          first
            | (subst hk0; have x0 : wr.cell? ad = some (.int .i64 n) := x0)
            | skip
          go_wp2_with (first
            | (at_lookup; refine wpList_lookup_v rfl (.tmp 25) (.tmp 26) rfl Try.underlying59 Try.underlying3 (zeroI _) rfl rfl hMr.out ?_; rw [hg.out])
            | (at_builtin; refine wpList_append_ow rfl (.tmp 29) (.tmp 31) 27 rfl w4.heap.size 3 i0 (.int .i64 0) 1 8 Try.underlying27 hI.out hZ0.out hZ1.out hZ2.out rfl A6 q c6 (cellsI F0) rfl hO2.out _ 1 _ rfl (feed_new (s := 1) (n := 1) (cs := #[.int .i64 n]) rfl) (fun u hu => one_i64 hu) (by unfold maxLen; omega) (by omega) hB2.out.size ?_; intro A7 c7 w7 h7 g7 l7; (have O7 := Lib.hid h7); (have B7 := Lib.hid (hB2.out.grown g7 hB2.out.size (fun q hq => (hO2.out.lt q hq).1))); clear h7 g7 l7))
          first
            | exact ⟨⟨1, _, A7, c7, by omega, rfl, rfl, Lib.hid (by rw [hF.out, List.length_append, hq.out]; rfl), Lib.hid (by rw [hF.out, cellsI_append]; exact O7.out), B7⟩, by simp [intOf]; omega⟩
            | exact ⟨⟨k + 1, _, A7, c7, by omega, by go_num, rfl, Lib.hid (by rw [hF.out, List.length_append, hq.out]; rfl), Lib.hid (by rw [hF.out, cellsI_append]; exact O7.out), B7⟩, by simp [intOf]; omega⟩
      · have hF := Lib.hid (hs2.out hz)
        have hzb : ((cc : Int) == 0) = false := beq_eq_false_iff_ne.2 (by omega)
        by_cases hk0 : k = 0
        all_goals
          first
            | (subst hk0; have x0 : wr.cell? ad = some (.int .i64 n) := x0)
            | skip
          go_wp2_with (at_lookup; refine wpList_lookup_v rfl (.tmp 25) (.tmp 26) rfl Try.underlying59 Try.underlying3 (zeroI _) rfl rfl hMr.out ?_; rw [hg.out])
          first
            | exact ⟨⟨1, q, A6, c6, by omega, rfl, rfl, Lib.hid (by rw [hF.out]; exact hq.out), Lib.hid (by rw [hF.out]; exact hO.out), hB⟩, by simp [intOf]; omega⟩
            | exact ⟨⟨k + 1, q, A6, c6, by omega, by go_num, rfl, Lib.hid (by rw [hF.out]; exact hq.out), Lib.hid (by rw [hF.out]; exact hO.out), hB⟩, by simp [intOf]; omega⟩
    · obtain rfl : k = N.length := by omega
      have hFK := Lib.hid hFE.out
      generalize FF N.length = F0 at *
      have hO5 := Lib.hid (hO.out.less (base' := w1.heap.size) hB14.out.size)
      have hB5 := Lib.hid (hB14.out.trans (hB.out.mono hB14.out.size))
      clear hFl hFE hFS hGet hO hB O4 M4 hB14
      go_wp2
      obtain ⟨w5, rfl⟩ : ∃ w5, w5 = wr := ⟨wr, rfl⟩
      go_loopg [6, 7] (N.length + 1) (fun kx v6 v7 wr => ∃ (A6 : Option Addr) (c6 q6 : Nat) (F : List Int) (A7 : Option Addr) (c7 q7 : Nat) (o : List Int) (nb : Nat), v6 = .slice A6 q6 c6 ∧ v7 = .slice A7 q7 c7 ∧ Hid (q6 = F.length) ∧ Hid (q7 = o.length) ∧ Hid (N.length - o.length + 1 ≤ kx) ∧ Hid (GG o) ∧ Hid (KK o F []) ∧ Hid (Ow wr w1.heap.size 3 1 A6 q6 c6 (cellsI F)) ∧ Hid (OwnI wr w1.heap.size A7 c7 o) ∧ Hid (blk A6 = none ∨ blk A6 ≠ blk A7) ∧ Hid (MapV wr bw nb (WW o [])) ∧ Hid (Below w1.heap.size w1 wr))
      case atStart => exact ⟨A6, c6, q, F0, none, 0, 0, [], 2 * l.length, rfl, rfl, hq, Lib.hid rfl, Lib.hid (by simp), hG0, hFK, hO5, Lib.hid (ownI_nil _ _), Lib.hid (by cases A6 with | none => exact .inl rfl | some a => exact .inr (fun e => by cases e)), hMr, hB5⟩
      case round =>
        clear hq hFK hO5 hMr hB5 hG0
        obtain ⟨A6, c6, q6, F, A7, c7, q7, o, nb, rfl, rfl, hq6, hq7, hkx, hG, hK, hO6, hO7, hDj, hM, hB⟩ := hrel
        cases F with
        | nil =>
          obtain rfl : q6 = 0 := hq6.out
          obtain rfl := hq7.out
          have hal := hAll.out o hK.out
          have hOw := Lib.hid (hO7.out.less B1.out.size)
          have hBw := Lib.hid (B1.out.trans (hB.out.mono B1.out.size))
          have hol := (hBd.out o [] [] hK.out).2
          by_cases hn : N.length ≤ o.length
          · have hE := Lib.hid (fun (W : World) => hYes.out o hG.out hn A7 c7 W)
            have hall := Lib.hid (hal.2 hn)
            clear hq6 hq7 hkx hG hK hO6 hO7 hDj hNo hYes hAll hNext hDec hBd hIn hGs hal hol hn
            go_wp2_with (at_len; refine wpList_len_v rfl (.tmp 68) rfl Try.underlying59 rfl hM.out ?_; intro s hs1 hs2; (obtain rfl : s = 0 := hs2.2 hall.out); clear hs1 hs2)
            exact hE.out _ hOw.out hBw.out
          · have hE := Lib.hid (hNo.out o hG.out hK.out hn)
            have hall := Lib.hid (fun h => hn (hal.1 h))
            clear hq6 hq7 hkx hG hK hO6 hO7 hDj hNo hYes hAll hNext hDec hBd hIn hGs hal hol hn
            go_wp2_with (at_len; refine wpList_len_v rfl (.tmp 68) rfl Try.underlying59 rfl hM.out ?_; intro s hs1 hs2; (have hs0 : (0 : Int) < (s : Int) := by have : s ≠ 0 := fun e => hall.out (hs2.1 e); omega); clear hs1 hs2)
            exact hE.out _ hBw.out
        | cons n F1 =>
          obtain rfl := hq7.out
          obtain ⟨hGn, holt⟩ := hGs.out o F1 n hG.out hK.out
          obtain ⟨hdel, hKn⟩ := hNext.out o F1 n hK.out
          obtain ⟨g6, off, rfl, hg6, hg6w⟩ := hO6.out.head (by rw [hq6.out]; simp)
          have c0 : wr.cell? ⟨g6, off, none⟩ = some (.int .i64 n) := hO6.out.cells (ad := ⟨g6, off, none⟩) rfl 0 (.int .i64 n) rfl
          have htl := hO6.out.tail (by rw [hq6.out]; simp)
          have hq61 : (1 : Int) ≤ (q6 : Int) := by have := hq6.out; simp only [List.length_cons] at this; omega
          have hq60 : (0 : Int) < (q6 : Int) := by omega
          have hqc : (q6 : Int) ≤ (c6 : Int) := by have := hO6.out.capp.1; omega
          have hqF : Hid (q6 - 1 = F1.length) := Lib.hid (by rw [hq6.out]; simp)
          have hkk : Hid (N.length - (o ++ [n]).length + 1 ≤ gk - 1 ∧ gk - 1 < gk) := Lib.hid (by have := hkx.out; rw [List.length_append, List.length_singleton]; omega)
          have hT1 : ∃ A6' : Option Addr, (if c6 = 1 then some (⟨g6, off, none⟩ : Addr) else some ⟨g6, off + 1, none⟩) = A6' := ⟨_, rfl⟩
          have hHid : Hid (Ow wr w1.heap.size 3 1 (if c6 = 1 then some (⟨g6, off, none⟩ : Addr) else some ⟨g6, off + 1, none⟩) (q6 - 1) (c6 - 1) (cellsI F1)) := Lib.hid (by
            have h := htl
            rw [Option.map_some, add_at] at h
            exact h)
          have hGN := Lib.hid hGn
          have hKN := Lib.hid hKn
          have hDl := Lib.hid hdel
          have hOl := Lib.hid holt
          have hol : o.length ≤ 400 := by omega
          obtain ⟨A5, c5, hat⟩ := grp_at G1.out n
          have hAt := Lib.hid hat
          have hbn := Lib.hid G1.out.lt
          have hTn : Hid ((TT n).length ≤ 200) := Lib.hid (Nat.le_trans (hTl.out n) hgl)
          have hOx := Lib.hid (World.ownsRow.alloc hO7.out (.cells #[.int .i64 n] 3))
          have hBx := Lib.hid (hB.out.alloc hB.out.size (.cells #[.int .i64 n] 3))
          have hMx := Lib.hid (hM.out.alloc (.cells #[.int .i64 n] 3))
          have h7m := Lib.hid (own_ne_map hO7.out hM.out)
          have h7l : Hid (∀ k, blk A7 = some k → w1.heap.size ≤ k ∧ k < wr.heap.size) := Lib.hid (fun k h => World.ownsRow.lt hO7.out k (by rw [own_block]; exact h))
          clear htl hT1 hGn hKn hdel holt hat hG hK hO6 hkx hq6 hNo hYes hAll hNext hGs
          by_cases hc1 : c6 = 1
          all_goals
            first
              | (subst hc1; have hT : Hid (Ow wr w1.heap.size 3 1 (some (⟨g6, off, none⟩ : Addr)) (q6 - 1) (1 - 1) (cellsI F1)) := Lib.hid (by have := hHid.out; rw [if_pos rfl] at this; exact this))
              | (have hT : Hid (Ow wr w1.heap.size 3 1 (some (⟨g6, off + 1, none⟩ : Addr)) (q6 - 1) (c6 - 1) (cellsI F1)) := Lib.hid (by have := hHid.out; rw [if_neg hc1] at this; exact this))
            clear hHid
            go_wp2_with (first
              | (at_builtin; refine wpList_app_one rfl (.tmp 42) (.tmp 44) rfl n rfl rfl (World.news_of_block (heap_alloc_new wr (.cells #[.int .i64 n] 3)) 0 _ rfl) hOx.out hBx.out.size (by omega) ?_; intro g7 c8 w3 h3 g3 l3; (have O3 := Lib.hid h3); (have B3 := Lib.hid (hBx.out.grown g3 hBx.out.size (fun k h => (h7l.out k h).1))); (have M3 := Lib.hid (hMx.out.grown g3 h7m.out)); (have T3 := Lib.hid ((hT.out.alloc (.cells #[.int .i64 n] 3)).kept g3 hDj.out)); (have D3 := Lib.hid (dj_lies (A := some ⟨g6, off, none⟩) (a := g6) (h := (wr.alloc (.cells #[.int .i64 n] 3)).heap.size) rfl (by simp; omega) hDj.out l3)); clear h3 g3 l3)
              | (at_delete; refine wpList_delete_v rfl (.tmp 46) (.tmp 47) rfl Try.underlying59 Try.underlying3 rfl rfl M3.out ?_; intro w4' h4 g4 z4; (have M5 := Lib.hid h4); (have B5' := Lib.hid (B3.out.grown g4 B3.out.size (fun k h => by cases h; exact hBw.out))); (have O5 := Lib.hid (OwnI.grown O3.out g4 (.inl (fun e => own_ne_map O3.out M3.out e.symm)))); (have T5 := Lib.hid (T3.out.kept g4 (.inr (fun e => T3.out.ne_map M3.out e.symm)))); (have hlk := hAt.out.2.1 w4' (B5'.out.block _ hbn.out)); clear h4 g4 z4))
            clear O3 B3 M3 T3 hB hM hDj hO7 hT hOx hBx hMx h7m h7l hqc hq60 hq61 c0 hg6 hg6w hOl
            have hM0 : Hid (MapV w4' bw nb (WW (o ++ [n]) ((TT n).drop 0))) := Lib.hid (by have := M5.out; rw [hDl.out] at this; exact this)
            have hK0 : Hid (KK (o ++ [n]) F1 ((TT n).drop 0)) := hKN
            clear M5 hDl hKN
            go_loopw [6, 52] (fun v6 i wr2 => ∃ (j q : Nat) (Ax : Option Addr) (cx : Nat) (F2 : List Int) (nb2 : Nat), j ≤ (TT n).length ∧ i = .int .i64 j ∧ v6 = .slice Ax q cx ∧ Hid (q = F2.length) ∧ Hid (KK (o ++ [n]) F2 ((TT n).drop j)) ∧ Hid (Ow wr2 w1.heap.size 3 1 Ax q cx (cellsI F2)) ∧ Hid (OwnI wr2 w1.heap.size (some ⟨g7, 0, none⟩) c8 (o ++ [n])) ∧ Hid (blk Ax = none ∨ blk Ax ≠ some g7) ∧ Hid (MapV wr2 bw nb2 (WW (o ++ [n]) ((TT n).drop j))) ∧ Hid (Below w1.heap.size w1 wr2)) (fun _ i _ => (TT n).length - (intOf i).toNat)
            case atStart => exact ⟨0, q6 - 1, _, _, F1, nb, Nat.zero_le _, rfl, rfl, hqF, hK0, T5, O5, D3, hM0, B5'⟩
            case round =>
              obtain ⟨j, q, Ax, cx, F2, nb2, hj, rfl, rfl, hq, hK, hO, hO7, hD, hM, hB⟩ := hrel
              clear hqF hK0 T5 O5 D3 hM0 B5'
              have hT2 := hTn.out
              by_cases hlt : j < (TT n).length
              · obtain ⟨ad, rfl, hab, x0⟩ := (hAt.out.1.up hB.out).rd.get (cellsI_ix hlt)
                have hdr := drop_ix hlt
                obtain ⟨p, d1, d2, d3, d4, d5⟩ := hDec.out (o ++ [n]) F2 ((TT n).drop (j + 1)) (ix (TT n) j) (by rw [← hdr]; exact hK.out) (by rw [List.length_drop]; have := hTn.out; omega)
                rw [← hdr] at d1 d2
                have hg1 : Hid ((WW (o ++ [n]) ((TT n).drop j) (ix (TT n) j)).getD (.int .i64 0) = .int .i64 ((p : Int) + 1)) := Lib.hid (by rw [d1]; rfl)
                have hD2 := Lib.hid d2
                have hD4 := Lib.hid d4
                have hD5 := Lib.hid d5
                have hi1 := Lib.hid (hIn.out _ _ _ hK.out)
                have hb1 := Lib.hid (hBd.out _ _ _ hK.out).1
                clear d1 d2 d4 d5 hdr hK
                generalize ix (TT n) j = t at *
                obtain rfl := hq.out
                by_cases hp : p = 0
                · subst hp
                  obtain ⟨htF, hK2⟩ := hD4.out rfl
                  have hK3 := Lib.hid hK2
                  have hli := Lib.hid (ins_longer htF)
                  have kI := Lib.hid (fun (W : World) (h : Ow W w1.heap.size 3 1 Ax F2.length cx (cellsI F2)) (hb : w1.heap.size ≤ W.heap.size) => insert_int Ax F2 cx w1.heap.size t W h hi1.out htF (by have := hb1.out; omega) hb)
                  clear hD4 hD5 hK2
                  go_wp2_with (first
                    | (at_lookup; refine wpList_lookup_v rfl (.tmp 56) (.tmp 57) rfl Try.underlying59 Try.underlying3 (zeroI _) rfl rfl hM.out ?_; rw [hg1.out])
                    | (at_mapUpdate; refine wpList_mapUpdate_v (v := .int .i64 ((0 : Nat) : Int)) rfl (.tmp 56) (.tmp 57) (.tmp 59) rfl Try.underlying59 Try.underlying3 rfl rfl rfl hM.out ?_; intro w5' h5 g5 z5; (have M6 := Lib.hid h5); (have B6 := Lib.hid (hB.out.grown g5 hB.out.size (fun k h => by cases h; exact hBw.out))); (have O6 := Lib.hid (OwnI.grown hO7.out g5 (.inl (fun e => own_ne_map hO7.out hM.out e.symm)))); (have T6 := Lib.hid (hO.out.kept g5 (.inr (fun e => hO.out.ne_map hM.out e.symm)))); clear h5 g5 z5)
                    | (at_lookup; refine wpList_lookup_v rfl (.tmp 60) (.tmp 61) rfl Try.underlying59 Try.underlying3 (zeroI _) rfl rfl M6.out ?_; rw [upd_same]))
                  (with_reducible refine (kI.out _ T6.out B6.out.size).mono ?_)
                  rintro e w6 ⟨A8, c8', rfl, h8, g8, l8⟩
                  have T8 := Lib.hid h8
                  have B8 := Lib.hid (B6.out.grown g8 B6.out.size (fun k h => (T6.out.lt k h).1))
                  have M8 := Lib.hid (M6.out.grown g8 (T6.out.ne_map M6.out))
                  have O8 := Lib.hid (ow_own_apart O6.out g8 hD.out)
                  have D8 := Lib.hid (dj_new ((World.ownsRow.lt O6.out g7 rfl).2) hD.out l8)
                  clear h8 g8 l8
                  go_wp2
                  exact ⟨⟨j + 1, _, A8, c8', ins t F2, _, by omega, by go_num, rfl, Lib.hid rfl, hK3, T8, O8, D8, Lib.hid (by have := M8.out; rw [hD2.out] at this; exact this), B8⟩, by simp [intOf]; omega⟩
                · have hK3 := Lib.hid (hD5.out hp)
                  have hpz : ((p : Int) == 0) = false := beq_eq_false_iff_ne.2 (by omega)
                  clear hD4 hD5
                  go_wp2_with (first
                    | (at_lookup; refine wpList_lookup_v rfl (.tmp 56) (.tmp 57) rfl Try.underlying59 Try.underlying3 (zeroI _) rfl rfl hM.out ?_; rw [hg1.out])
                    | (at_mapUpdate; refine wpList_mapUpdate_v (v := .int .i64 ((p : Nat) : Int)) rfl (.tmp 56) (.tmp 57) (.tmp 59) rfl Try.underlying59 Try.underlying3 rfl rfl rfl hM.out ?_; intro w5' h5 g5 z5; (have M6 := Lib.hid h5); (have B6 := Lib.hid (hB.out.grown g5 hB.out.size (fun k h => by cases h; exact hBw.out))); (have O6 := Lib.hid (OwnI.grown hO7.out g5 (.inl (fun e => own_ne_map hO7.out hM.out e.symm)))); (have T6 := Lib.hid (hO.out.kept g5 (.inr (fun e => hO.out.ne_map hM.out e.symm)))); clear h5 g5 z5)
                    | (at_lookup; refine wpList_lookup_v rfl (.tmp 60) (.tmp 61) rfl Try.underlying59 Try.underlying3 (zeroI _) rfl rfl M6.out ?_; rw [upd_same]))
                  exact ⟨⟨j + 1, _, Ax, cx, F2, _, by omega, by go_num, rfl, Lib.hid rfl, hK3, T6, O6, hD, Lib.hid (by have := M6.out; rw [hD2.out] at this; exact this), B6⟩, by simp [intOf]; omega⟩
              · obtain rfl : j = (TT n).length := by omega
                have hK3 := Lib.hid hK.out
                have hM3 := Lib.hid hM.out
                clear hK hM
                obtain rfl := hq.out
                have hK4 : Hid (KK (o ++ [n]) F2 []) := Lib.hid (by have := hK3.out; rw [List.drop_length] at this; exact this)
                have hM4 : Hid (MapV wr bw nb2 (WW (o ++ [n]) [])) := Lib.hid (by have := hM3.out; rw [List.drop_length] at this; exact this)
                go_wp2
                go_roundg (gk - 1)
                case measure => exact hkk.out.2
                case rel => exact ⟨Ax, cx, F2.length, F2, _, c8, (o ++ [n]).length, o ++ [n], nb2, rfl, by rw [List.length_append]; rfl, Lib.hid rfl, Lib.hid rfl, Lib.hid hkk.out.1, hGN, hK4, hO, hO7, Lib.hid hD.out, hM4, hB⟩
end Go.Proofs.Ytlaklfiodmnocaa
