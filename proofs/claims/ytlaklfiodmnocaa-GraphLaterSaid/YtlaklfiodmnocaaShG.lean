/- The package's Shortest. -/
import Derived.Test.YtlaklfiodmnocaaTrails
import Derived.Deep.QuietTactic
import Derived.BigQuiet
namespace Go.Proofs.Ytlaklfiodmnocaa
open Go.RowKit

theorem path_ids {l : List Ed} {t : Int} {m : TM} {N : Nat} (hg : Grph l) (h : Dj l t m [] [] N) {n c : Int} {k : Nat} (hb : Best l t n c k) (hn : n ≠ t) :
    ∃ (T : Tr) (p k' : Nat), m n = some T ∧ k = k' + 1 ∧ T.first = (p : Int) ∧ p < l.length ∧ Best l t (eT l p) (c - eC l p) k' ∧ path l t k n c = ⟨eI l p, eF l p, eT l p, eC l p⟩ :: path l t k' (eT l p) (c - eC l p) := by
  have hc := fun e he => (hg.2.1 e he).2.2.2.2.1
  cases hm : m n with
  | none => exact absurd (best_rch hb) (tj_done hc h hm)
  | some T =>
    obtain ⟨hTn, j, hj, hbT, hor⟩ := h.good _ _ hm
    rw [hTn] at hbT hor
    obtain ⟨e1, e2⟩ := hbT.unique hb
    subst e2
    rw [e1] at hor
    rcases hor with h0 | ⟨p, k', hk, hf, hpl, hpf, hbp, hmin⟩
    · subst h0
      obtain ⟨⟨q, q1, q2, q3, q4⟩, _⟩ := hb
      have hq : q = [] := List.length_eq_zero_iff.1 q4
      subst hq
      exact absurd q2 hn
    · refine ⟨T, p, k', rfl, hk, hf, hpl, hbp, ?_⟩
      rw [hk]
      have hx := nextE_at (l := l) (t := t) (x := n) (c := c) (k := k') hpl (fun e he => ?_) (by rw [Bool.and_eq_true, decide_eq_true_eq, isBest_iff]; exact ⟨hpf, hbp⟩)
      · exact path_step hx
      · obtain ⟨p', hp', rfl⟩ := List.mem_iff_getElem.1 he
        rw [List.length_take] at hp'
        have hno := hmin p' (by omega)
        rw [List.getElem_take, e_eta (by omega)]
        rw [Bool.eq_false_iff]
        intro hb2
        rw [Bool.and_eq_true, decide_eq_true_eq, isBest_iff] at hb2
        exact hno hb2
def ShAt (l : List Ed) (t : Int) (G : List Int) (o : List Int) (n : Int) (k : Nat) : Prop := ∃ c, Best l t n c k ∧ o ++ (path l t k n c).map Ed.id = G
theorem sh_next {l : List Ed} {t : Int} {m : TM} {N : Nat} {G : List Int} (hg : Grph l) (h : Dj l t m [] [] N) {o : List Int} {n : Int} {k : Nat} (hs : ShAt l t G o n k) (hn : n ≠ t) :
    ∃ (t0 t1 t2 : Int) (p : Nat), (tv m n).getD (.agg #[.int .i64 0, .int .i64 0, .int .i64 0, .int .i64 0]) = .agg #[.int .i64 t0, .int .i64 t1, .int .i64 t2, .int .i64 (p : Int)] ∧ p < l.length ∧ 1 ≤ k ∧ ShAt l t G (o ++ [eI l p]) (eT l p) (k - 1) := by
  obtain ⟨c, hb, ho⟩ := hs
  obtain ⟨T, p, k', hm, hk, hf, hpl, hbp, hp⟩ := path_ids hg h hb hn
  refine ⟨T.node, T.cost, T.edges, p, ?_, hpl, by omega, c - eC l p, ?_, ?_⟩
  · unfold tv
    rw [hm, ← hf]
    rfl
  · rw [hk]; exact hbp
  · rw [← ho, hp, hk, List.map_cons, List.append_assoc]
    rfl
theorem sh_last {l : List Ed} {t : Int} {G o : List Int} {k : Nat} (hg : Grph l) (hs : ShAt l t G o t k) : o = G := by
  obtain ⟨c, hb, ho⟩ := hs
  obtain ⟨_, e2⟩ := hb.unique (best_self (fun e he => (hg.2.1 e he).2.2.2.2.1) t)
  subst e2
  rw [← ho]
  simp [path]

theorem wpList_field3 {w : World} {ops : Array Oper} {rest : List Oper} {o : Oper} {a : Act} {Q : Exit → Act → World → Prop} {v0 v1 v2 v3 : Value} (hg : o.guard = none) (x : Operand) (hop : o.op = Op.field 69 x 3) (hx : a.eval x = .agg #[v0, v1, v2, v3])
    (hK : wpList Try.prog ops Q rest (a.put o.dst v3) w) : wpList Try.prog ops Q (o :: rest) a w := by
  refine wpList_plain hg fun K' hK' => ?_
  have hrun : (Instr.field 69 (.agg #[v0, v1, v2, v3]) 3).run Try.prog w = .ok v3 w := by kernel_rfl
  unfold Oper.wp
  simp [execOp, hop, hx, hrun, Result.andThen]
  exact hK' _ _ hK
set_option maxRecDepth 100000 in
set_option maxHeartbeats 8000000 in
theorem gShortest_any (A : Option Addr) (l : List Ed) (c : Nat) (fr tg : Int) (w : World) (hp : Es w w.heap.size A l) (hg : Grph l) :
    Calls Try.prog 22 #[.slice A l.length c, .int .i64 fr, .int .i64 tg] w (ShPost w l fr tg) := by
  have hgl := hg.1
  have k1 := Lib.hid (trails_any A l c tg w hp hg)
  have hP := Lib.hid hp
  have hNo := Lib.hid (fun (m : TM) (N : Nat) (h : Dj l tg m [] [] N) (hm : m fr = none) (w' : World) (hb : Below w.heap.size w w') => sh_no (W := w) (w' := w') (a := fr) (tj_done (fun e he => (hg.2.1 e he).2.2.2.2.1) h hm) hb)
  have hYes : Hid (∀ (m : TM) (N : Nat) (h : Dj l tg m [] [] N) (T : Tr) (hm : m fr = some T), ∃ (K : Nat) (G : List Int), K ≤ 401 ∧ G.length = K ∧ ShAt l tg G [] fr K ∧ ∀ (w' : World) (A' : Option Addr) (c' : Nat), OwnI w' w.heap.size A' c' G → Below w.heap.size w w' → ShPost w l fr tg (.returned (.tuple #[.slice A' G.length c', .int .i64 T.cost, .bool true])) w') := Lib.hid (fun m N h T hm => by
    obtain ⟨hn, hgd⟩ := h.good _ _ hm
    obtain ⟨K, hK, hb⟩ := good_has hgd
    rw [hn] at hb
    have h1 := tj_bound hg h hm
    refine ⟨K, (path l tg K fr T.cost).map Ed.id, by omega, ?_, ⟨T.cost, hb, rfl⟩, fun w' A' c' ho hw => sh_yes hb rfl ho hw⟩
    rw [List.length_map]
    exact (path_facts K hb).2.2.2)
  have hStp := Lib.hid (fun (m : TM) (N : Nat) (G : List Int) (h : Dj l tg m [] [] N) (o : List Int) (n : Int) (k : Nat) (hs : ShAt l tg G o n k) (hn : n ≠ tg) => sh_next hg h hs hn)
  have hEnd := Lib.hid (fun (G o : List Int) (k : Nat) (hs : ShAt l tg G o tg k) => sh_last hg hs)
  have hLen : Hid (∀ (G o : List Int) (n : Int) (k : Nat), ShAt l tg G o n k → o.length ≤ G.length) := Lib.hid (fun G o n k hs => by
    obtain ⟨_, _, ho⟩ := hs
    rw [← ho, List.length_append]
    omega)
  unfold TrsPost at k1
  obtain ⟨goal, hgo⟩ : ∃ goal, ShPost w l fr tg = goal := ⟨_, rfl⟩
  rw [hgo] at hNo hYes ⊢
  generalize Dj l tg = DD at *
  generalize ShAt l tg = SH at *
  clear hp hg hgo
  go_enter Try.func22, Try.ntmps22
  go_upto_region 2 with (go_at_call 45; (with_reducible refine (k1.out).mono ?_); rintro e w1 ⟨b, nb, m, N, rfl, h1, h2, b1⟩; (have M1 := Lib.hid h1); (have D1 := Lib.hid h2); (have B1 := Lib.hid b1); clear h1 h2 b1)
  clear k1
  cases hmn : m fr with
  | none =>
    have hF := Lib.hid (hNo.out m N D1.out hmn)
    have hL : Hid ((tv m fr).getD (.agg #[.int .i64 0, .int .i64 0, .int .i64 0, .int .i64 0]) = .agg #[.int .i64 0, .int .i64 0, .int .i64 0, .int .i64 0] ∧ (tv m fr).isSome = false) := Lib.hid (by unfold tv; rw [hmn]; exact ⟨rfl, rfl⟩)
    clear hNo hYes hStp hEnd hLen hmn hP
    go_wp2_with (at_lookup; refine wpList_lookup_ok_v rfl (.tmp 19) (.tmp 20) rfl Try.underlying66 Try.underlying3 (zeroT _) rfl rfl M1.out ?_; rw [hL.out.1, hL.out.2])
    go_ret3
    exact hF.out _ (B1.out.alloc B1.out.size _)
  | some T =>
    obtain ⟨K, G, hK, hGl, hS0, hfin⟩ := hYes.out m N D1.out T hmn
    have hS := Lib.hid hS0
    have hF := Lib.hid hfin
    obtain ⟨s0, s1, s2, s3⟩ := T
    have hL : Hid ((tv m fr).getD (.agg #[.int .i64 0, .int .i64 0, .int .i64 0, .int .i64 0]) = .agg #[.int .i64 s0, .int .i64 s1, .int .i64 s2, .int .i64 s3] ∧ (tv m fr).isSome = true) := Lib.hid (by unfold tv; rw [hmn]; exact ⟨rfl, rfl⟩)
    have hSt := Lib.hid (fun (o : List Int) (n : Int) (k : Nat) => hStp.out m N G D1.out o n k)
    have hEn := Lib.hid (fun (o : List Int) (k : Nat) => hEnd.out G o k)
    have hLe := Lib.hid (fun (o : List Int) (n : Int) (k : Nat) => hLen.out G o n k)
    clear hNo hYes hStp hEnd hLen hmn hS0 hfin
    go_wp2_with (at_lookup; refine wpList_lookup_ok_v rfl (.tmp 19) (.tmp 20) rfl Try.underlying66 Try.underlying3 (zeroT _) rfl rfl M1.out ?_; rw [hL.out.1, hL.out.2])
    have M3 := Lib.hid (M1.out.alloc (.cells #[.int .i64 s0, .int .i64 s1, .int .i64 s2, .int .i64 s3] 69))
    have B3 := Lib.hid (B1.out.alloc B1.out.size (.cells #[.int .i64 s0, .int .i64 s1, .int .i64 s2, .int .i64 s3] 69))
    have X3 := Lib.hid (box_four (Below.refl (w1.alloc (.cells #[.int .i64 s0, .int .i64 s1, .int .i64 s2, .int .i64 s3] 69)).heap.size _))
    have L3 : Hid (w1.heap.size < (w1.alloc (.cells #[.int .i64 s0, .int .i64 s1, .int .i64 s2, .int .i64 s3] 69)).heap.size) := Lib.hid (by simp)
    generalize w1.alloc (.cells #[.int .i64 s0, .int .i64 s1, .int .i64 s2, .int .i64 s3] 69) = w3 at *
    generalize w1.heap.size = g10 at *
    clear M1 B1 hL
    go_loopg [12, 13] (K + 1) (fun kx v12 v13 wr => ∃ (A7 : Option Addr) (c7 q7 : Nat) (o : List Int) (n : Int) (k : Nat), v12 = .slice A7 q7 c7 ∧ v13 = .int .i64 n ∧ Hid (q7 = o.length) ∧ Hid (k + 1 ≤ kx) ∧ Hid (SH G o n k) ∧ Hid (OwnI wr w3.heap.size A7 c7 o) ∧ Hid (Below w3.heap.size w3 wr))
    case atStart => exact ⟨none, 0, 0, [], fr, K, rfl, rfl, Lib.hid rfl, Lib.hid (Nat.le_refl _), hS, Lib.hid (ownI_nil _ _), Lib.hid (Below.refl _ _)⟩
    case round =>
      clear hS
      obtain ⟨A7, c7, q7, o, n, k, rfl, rfl, hq7, hkx, hSo, hO, hB⟩ := hrel
      obtain rfl := hq7.out
      by_cases hn : n = tg
      · subst hn
        obtain rfl := hEn.out o k hSo.out
        have y1 : wr.cell? ⟨g10, 1, none⟩ = some (.int .i64 s1) := (hB.out.cell (p := ⟨g10, 1, none⟩) L3.out).trans X3.out.2.1
        have hE := Lib.hid (fun nq => hF.out (wr.drewN nq) A7 c7 (show OwnI wr w.heap.size A7 c7 o from hO.out.less B3.out.size) (below_drewN (B3.out.trans (hB.out.mono B3.out.size)) nq))
        clear hSt hEn hLe hF hSo hO hP M3 X3
        go_wp2
        go_quiet (fail)
        go_wp2
        go_ret3
        rw [hGl] at hE
        exact hE.out _
      · obtain ⟨t0, t1, t2, p, ht, hpl, hk1, hS1⟩ := hSt.out o n k hSo.out hn
        have hSn := Lib.hid hS1
        have hT := Lib.hid ht
        have hol : o.length ≤ 401 := by have := hLe.out o n k hSo.out; omega
        obtain ⟨ad, rfl, hab, x0, x1, x2, x3⟩ := (hP.out.below (B3.out.trans (hB.out.mono B3.out.size))).get hpl
        have hMr := Lib.hid (M3.out.below hB.out M3.out.lt)
        have h7l : Hid (∀ k, blk A7 = some k → w3.heap.size ≤ k ∧ k < wr.heap.size) := Lib.hid (fun k h => World.ownsRow.lt hO.out k (by rw [own_block]; exact h))
        have hkk : Hid (k - 1 + 1 ≤ gk - 1 ∧ gk - 1 < gk) := Lib.hid (by have := hkx.out; omega)
        clear hF hSt hEn hLe hSo hS1 ht hkx
        generalize eI l p = y0 at *
        generalize eF l p = y1 at *
        generalize eT l p = y2 at *
        generalize eC l p = y3 at *
        have hX := Lib.hid (box_four (Below.refl (wr.alloc (.cells #[.int .i64 y0, .int .i64 y1, .int .i64 y2, .int .i64 y3] 42)).heap.size _))
        have hOa := Lib.hid (World.ownsRow.alloc (World.ownsRow.alloc hO.out (.cells #[.int .i64 y0, .int .i64 y1, .int .i64 y2, .int .i64 y3] 42)) (.cells #[.int .i64 y0] 3))
        have hBa := Lib.hid ((hB.out.alloc hB.out.size (.cells #[.int .i64 y0, .int .i64 y1, .int .i64 y2, .int .i64 y3] 42)).alloc (Nat.le_trans hB.out.size (by simp)) (.cells #[.int .i64 y0] 3))
        have hXa : Hid (At4 ((wr.alloc (.cells #[.int .i64 y0, .int .i64 y1, .int .i64 y2, .int .i64 y3] 42)).alloc (.cells #[.int .i64 y0] 3)) ⟨wr.heap.size, 0, none⟩ (.int .i64 y0) (.int .i64 y1) (.int .i64 y2) (.int .i64 y3)) := Lib.hid (at4_grown (row := none) hX.out (World.grownBy_alloc _ _ none) (by simp) (fun e => by cases e))
        have hne : Hid (some wr.heap.size ≠ blk A7) := Lib.hid (fun e => Nat.lt_irrefl _ (h7l.out _ e.symm).2)
        have hp0 : (0 : Int) ≤ (p : Int) := by omega
        have hp1 : (p : Int) < (l.length : Int) := by omega
        have hnw : Hid (((wr.alloc (.cells #[.int .i64 y0, .int .i64 y1, .int .i64 y2, .int .i64 y3] 42)).alloc (.cells #[.int .i64 y0] 3)).cell? ⟨wr.heap.size + 1, 0, none⟩ = some (.int .i64 y0)) := Lib.hid (by
          have h := World.news_of_block (heap_alloc_new (wr.alloc (.cells #[.int .i64 y0, .int .i64 y1, .int .i64 y2, .int .i64 y3] 42)) (.cells #[.int .i64 y0] 3)) 0 (.int .i64 y0) rfl
          have e : (wr.alloc (.cells #[.int .i64 y0, .int .i64 y1, .int .i64 y2, .int .i64 y3] 42)).heap.size = wr.heap.size + 1 := by simp
          rw [e] at h
          exact h)
        clear hO
        go_wp2_with (first
          | (at_lookup; refine wpList_lookup_v rfl (.tmp 31) (.tmp 32) rfl Try.underlying66 Try.underlying3 (zeroT _) rfl rfl hMr.out ?_; rw [hT.out])
          | (refine wpList_field3 rfl (.tmp 33) rfl rfl ?_)
          | (at_builtin; refine wpList_app_one rfl (.tmp 37) (.tmp 40) rfl y0 rfl rfl hnw.out hOa.out hBa.out.size (by omega) ?_; intro g7 c8 w4 h4 g4 l4; (have O4 := Lib.hid h4); (have B4 := Lib.hid (hBa.out.grown g4 hBa.out.size (fun k h => (h7l.out k h).1))); (have z2 : w4.cell? ⟨wr.heap.size, 2, none⟩ = some (.int .i64 y2) := (at4_grown hXa.out g4 (by simp <;> omega) hne.out).2.2.1); clear h4 g4 l4))
        go_roundg (gk - 1)
        case measure => exact hkk.out.2
        case rel => exact ⟨_, c8, _, o ++ [y0], y2, k - 1, rfl, rfl, Lib.hid (by rw [List.length_append]; rfl), Lib.hid hkk.out.1, hSn, O4, B4⟩
end Go.Proofs.Ytlaklfiodmnocaa
