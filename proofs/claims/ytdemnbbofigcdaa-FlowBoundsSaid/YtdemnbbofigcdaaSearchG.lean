/- The package's search. -/
import Derived.Test.YtdemnbbofigcdaaLinksG
import Derived.Test.YtdemnbbofigcdaaTwoRows
import Derived.Test.YtdemnbbofigcdaaSearchR
import Derived.Deep.LoopGhost
namespace Go.Proofs.Ytdemnbbofigcdaa
open Go.RowKit

/-- The flow, its links and their boxes, as they lie in memory. -/
structure Flm (w : World) (base B : Nat) (l : List Ed) (f : List Int) (A : Option Addr) (c af : Nat) (bi be : Nat → Nat) (b : Nat) : Prop where
  F : OwnF w base B A c f
  L : Lks l af bi be w b (2 * l.length) B (lkN l l.length)
  X : Bx w B l l.length af (.slice A f.length c) bi be
  le : base ≤ B
  lb : B ≤ b
section
variable {w w' : World} {base B : Nat} {l : List Ed} {f : List Int} {A : Option Addr} {c af : Nat} {bi be : Nat → Nat} {b : Nat}
theorem Flm.up (h : Flm w base B l f A c af bi be b) (hb : Below w.heap.size w w') : Flm w' base B l f A c af bi be b :=
  ⟨⟨h.F.1.up hb, h.F.2⟩, h.L.up hb, h.X.up hb, h.le, h.lb⟩
theorem Flm.step {f' : List Int} (h : Flm w base B l f A c af bi be b) (hF : OwnF w' base B A c f') (hg : w.grownBy w' (blk A)) (hl : f'.length = f.length) : Flm w' base B l f' A c af bi be b :=
  ⟨hF, h.L.grown hg h.lb (Nat.le_refl _) h.F.2, by rw [hl]; exact h.X.grown hg h.F.2, h.le, h.lb⟩
/-- A call of a link's step. -/
theorem step_call (h : Flm w base B l f A c af bi be b) (hl : f.length = l.length) (hbx : ∀ k, k < l.length → 0 ≤ ix f k ∧ ix f k ≤ eC l k ∧ eC l k ≤ 1000000) {x d : Int} (hx : idx x < l.length) (hx0 : x ≠ 0) (hd : 0 ≤ d ∧ d ≤ room l f x) :
    (∃ k : Nat, x = (k : Int) + 1 ∧ fvL af bi be x = .func (.func 46) #[] #[.pointer (some ⟨af, 0, none⟩), .pointer (some ⟨bi k, 0, none⟩), .pointer (some ⟨be k, 0, none⟩)] ∧ Calls Try.prog 46 #[.int .i64 d, .pointer (some ⟨af, 0, none⟩), .pointer (some ⟨bi k, 0, none⟩), .pointer (some ⟨be k, 0, none⟩)] w (StepPost l f x d base B A c w)) ∨
    (∃ k : Nat, x = -(k : Int) - 1 ∧ fvL af bi be x = .func (.func 47) #[] #[.pointer (some ⟨af, 0, none⟩), .pointer (some ⟨bi k, 0, none⟩)] ∧ Calls Try.prog 47 #[.int .i64 d, .pointer (some ⟨af, 0, none⟩), .pointer (some ⟨bi k, 0, none⟩)] w (StepPost l f x d base B A c w)) := by
  obtain ⟨b1, b2, b3⟩ := hbx _ hx
  by_cases hp : 0 < x
  · have e : x = (idx x : Int) + 1 := by unfold idx; omega
    refine .inl ⟨idx x, e, by unfold fvL; rw [if_pos hp], ?_⟩
    have hr : d ≤ eC l (idx x) - ix f (idx x) := by have := hd.2; unfold room at this; rw [if_pos hp] at this; exact this
    have k := along_any l f base B af c A bi be (idx x) d w hx hl h.F h.X ⟨b1, b2⟩ ⟨hd.1, hr⟩ b3
    rw [← e] at k
    exact k
  · have e : x = -(idx x : Int) - 1 := by unfold idx; omega
    refine .inr ⟨idx x, e, by unfold fvL; rw [if_neg hp], ?_⟩
    have hr : d ≤ ix f (idx x) := by have := hd.2; unfold room at this; rw [if_neg hp] at this; exact this
    have k := against_any l f base B af c A bi be (idx x) d w hx hl h.F h.X ⟨b1, b2⟩ ⟨hd.1, hr⟩ b3
    rw [← e] at k
    exact k
end
/-- A link by value; the zero link where there is none. -/
def lkV (l : List Ed) (af : Nat) (bi be : Nat → Nat) (x : Int) : Value := if x = 0 then .agg #[.int .i64 0, .int .i64 0, .nilFunc] else .agg #[.int .i64 (tlE l x), .int .i64 (hdE l x), fvL af bi be x]
def lkM (l : List Ed) (af : Nat) (bi be : Nat → Nat) (lf : Int → Option Int) : Int → Option Value := fun a => (lf a).map (lkV l af bi be)
theorem zeroLk (w : World) : (zeroValue 69).run Try.prog w = .ok (.agg #[.int .i64 0, .int .i64 0, .nilFunc]) w := by kernel_rfl
theorem lkM_upd (l : List Ed) (af : Nat) (bi be : Nat → Nat) (lf : Int → Option Int) (a x : Int) : upd (lkM l af bi be lf) a (lkV l af bi be x) = lkM l af bi be (updK lf a x) := by
  funext i
  unfold upd lkM updK
  split
  · rename_i h
    rfl
  · rfl
theorem lkV_agg (l : List Ed) (af : Nat) (bi be : Nat → Nat) (x : Int) : ∃ a b F, F.oneCell' = true ∧ lkV l af bi be x = .agg #[.int .i64 a, .int .i64 b, F] := by
  unfold lkV
  split
  · exact ⟨_, _, _, rfl, rfl⟩
  · exact ⟨_, _, _, fvL_one x, rfl⟩
def SearchPost (l : List Ed) (f : List Int) (s t : Int) (base B : Nat) (A : Option Addr) (c af : Nat) (bi be : Nat → Nat) (b : Nat) (W : World) (e : Ending) (w' : World) : Prop :=
  ((e = .returned (.tuple #[.map none, .bool false]) ∧ ¬ Rs l f s t) ∨ ∃ (bl n : Nat) (lf : Int → Option Int) (S V : List Int), e = .returned (.tuple #[.map (some bl), .bool true]) ∧ Srch l f s S V 0 0 ∧ Last S V lf ∧ t ∈ S ∧ W.heap.size ≤ bl ∧ MapV w' bl n (lkM l af bi be lf)) ∧
    Flm w' base B l f A c af bi be b ∧ Below base W w'

/-- From block B on, nothing that was there has turned. -/
def Mid (B : Nat) (w w' : World) : Prop := ∀ k, B ≤ k → k < w.heap.size → w'.heap[k]? = w.heap[k]?
theorem Mid.refl (B : Nat) (w : World) : Mid B w w := fun _ _ _ => rfl
theorem Mid.grown {B : Nat} {w w' w'' : World} {row : Option Nat} (h : Mid B w w') (hs : w.heap.size ≤ w'.heap.size) (hg : w'.grownBy w'' row) (hr : ∀ g, row = some g → g < B ∨ w.heap.size ≤ g) : Mid B w w'' := fun k h1 h2 =>
  (hg.block k (by omega) (fun e => by rcases hr _ e.symm with h | h <;> omega)).trans (h k h1 h2)
theorem Mid.cell {B : Nat} {w w' : World} (h : Mid B w w') {p : Addr} {v : Value} (h1 : B ≤ p.block) (h2 : w.cell? p = some v) : w'.cell? p = some v :=
  (World.cell?_of_block (h _ h1 (World.block_lt_of_cell? _ _ h2))).trans h2
theorem flm_mid {w w' : World} {base B : Nat} {l : List Ed} {f f' : List Int} {A : Option Addr} {c af : Nat} {bi be : Nat → Nat} {b : Nat} (h : Flm w base B l f A c af bi be b) (hF : OwnF w' base B A c f') (hl : f'.length = f.length) (hm : Mid B w w') : Flm w' base B l f' A c af bi be b := by
  refine ⟨hF, ?_, ?_, h.le, h.lb⟩
  · obtain ⟨mv, h1, h2, h3⟩ := h.L
    refine ⟨mv, h1.kept (hm b h.lb h1.lt), fun i => ?_, h3⟩
    rcases h2 i with h | ⟨g, c, e, ho⟩
    · exact .inl h
    · refine .inr ⟨g, c, e, ho.1, ?_⟩
      rcases ho.2 with h | ⟨g', cap, cu, hv, a1, a2, a3⟩
      · exact .inl h
      · exact .inr ⟨g', cap, cu, hv, a1, (hm g' a1 (Array.getElem?_eq_some_iff.1 a2).1).trans a2, a3⟩
  · rw [hl]
    exact h.X.kept fun k _ _ h1 h2 _ => hm k h1 (Array.getElem?_eq_some_iff.1 h2).1
theorem lk_cells {w w' : World} {B : Nat} {l : List Ed} {af : Nat} {bi be : Nat → Nat} {A5 : Option Addr} {c5 : Nat} {L : List Int} (h : OwnK l af bi be w B A5 c5 L) (hm : Mid B w w') {q : Nat} (hq : q < L.length) :
    ∃ g5, A5 = some ⟨g5, 0, none⟩ ∧ w'.cell? ⟨g5, q * 3, none⟩ = some (.int .i64 (tlE l (ix L q))) ∧ w'.cell? ⟨g5, q * 3 + 1, none⟩ = some (.int .i64 (hdE l (ix L q))) ∧ w'.cell? ⟨g5, q * 3 + 2, none⟩ = some (fvL af bi be (ix L q)) := by
  obtain ⟨g, rfl, hg, hlt⟩ := own_addr h (by omega)
  obtain ⟨a1, a2, a3⟩ := cellsK_at (l := l) (af := af) (bi := bi) (be := be) L q hq
  have hc := World.ownsRow.cells h (g := g) rfl
  have b1 := hc _ _ a1
  have b2 := hc _ _ a2
  have b3 := hc _ _ a3
  rw [add_pos] at b1 b2 b3
  exact ⟨g, rfl, hm.cell hg b1, hm.cell hg b2, hm.cell hg b3⟩
theorem Ow.head {w : World} {base n cap s : Nat} {e : TypeId} {A : Option Addr} {xs : List Value} (h : Ow w base e s A n cap xs) (hn : 0 < n) : ∃ g off, A = some ⟨g, off, none⟩ ∧ base ≤ g ∧ g < w.heap.size := by
  rcases h.2 with ⟨_, h0, _⟩ | ⟨g, off, pre, post, h1, h2, h3, _⟩
  · omega
  · exact ⟨g, off, h1, h2, (Array.getElem?_eq_some_iff.1 h3).1⟩
theorem lkM_look {l : List Ed} {af : Nat} {bi be : Nat → Nat} {lf : Int → Option Int} {w : World} {bl n : Nat} (h : MapV w bl n (lkM l af bi be lf)) (y : Int) :
    ∃ a0 b0 F0, F0.oneCell' = true ∧ ((lf y).isSome = false → a0 = 0 ∧ b0 = 0 ∧ F0 = .nilFunc) ∧ ∀ W : World, W.heap[bl]? = w.heap[bl]? → (Instr.lookup 45 (.map (some bl)) (.int .i64 y) true).run Try.prog W = .ok (.tuple #[.agg #[.int .i64 a0, .int .i64 b0, F0], .bool (lf y).isSome]) W := by
  rcases hy : lf y with _ | x
  · refine ⟨0, 0, .nilFunc, rfl, (fun _ => ⟨rfl, rfl, rfl⟩), fun W hW => ?_⟩
    have := (h.kept hW).look_ok (P := Try.prog) Try.underlying45 Try.underlying3 (zeroLk W) y
    unfold lkM at this
    rw [hy] at this
    exact this
  · obtain ⟨a0, b0, F0, h1, e⟩ := lkV_agg l af bi be x
    refine ⟨a0, b0, F0, h1, (fun h => by cases h), fun W hW => ?_⟩
    have := (h.kept hW).look_ok (P := Try.prog) Try.underlying45 Try.underlying3 (zeroLk W) y
    unfold lkM at this
    rw [hy, Option.map_some, e] at this
    exact this
theorem lkM_put {l : List Ed} {af : Nat} {bi be : Nat → Nat} {lf : Int → Option Int} {w : World} {bl n : Nat} (h : MapV w bl n (lkM l af bi be lf)) {x y1 y2 : Int} {F : Value} (hx : x ≠ 0) (h1 : tlE l x = y1) (h2 : hdE l x = y2) (h3 : fvL af bi be x = F) :
    ∃ w', (Instr.mapUpdate 45 (.map (some bl)) (.int .i64 y2) (.agg #[.int .i64 y1, .int .i64 y2, F])).run Try.prog w = .ok () w' ∧ MapV w' bl (n + 1) (lkM l af bi be (updK lf y2 x)) ∧ w.grownBy w' (some bl) ∧ w'.heap.size = w.heap.size := by
  have e : lkV l af bi be x = .agg #[.int .i64 y1, .int .i64 y2, F] := by unfold lkV; rw [if_neg hx, h1, h2, h3]
  have := h.put (P := Try.prog) Try.underlying45 Try.underlying3 y2 (lkV l af bi be x)
  rw [lkM_upd, e] at this
  exact this

theorem search_turn {w wr wb : World} {base B : Nat} {l : List Ed} {f : List Int} {A A6 : Option Addr} {c af q6 c6 nb : Nat} {bi be : Nat → Nat} {lf : Int → Option Int} {xs : List Value} {x y1 y2 : Int} {Fv : Value}
    (hW5 : ∀ w5 : World, OwnF w5 base B A c f → wb.grownBy w5 (blk A) → MapV w5 w.heap.size nb (lkM l af bi be lf) ∧ Ow w5 w.heap.size 3 1 A6 q6 c6 xs ∧ Mid B w w5 ∧ w5.cell? ⟨wr.heap.size, 0, none⟩ = some (.int .i64 y1) ∧ w5.cell? ⟨wr.heap.size, 1, none⟩ = some (.int .i64 y2) ∧ w5.cell? ⟨wr.heap.size, 2, none⟩ = some Fv ∧ wr.heap.size < w5.heap.size)
    (hpt : ∀ (W : World) (n : Nat) (y1 y2 : Int) (F : Value), MapV W w.heap.size n (lkM l af bi be lf) → tlE l x = y1 → hdE l x = y2 → fvL af bi be x = F → ∃ w', (Instr.mapUpdate 45 (.map (some w.heap.size)) (.int .i64 y2) (.agg #[.int .i64 y1, .int .i64 y2, F])).run Try.prog W = .ok () w' ∧ MapV w' w.heap.size (n + 1) (lkM l af bi be (updK lf y2 x)) ∧ W.grownBy w' (some w.heap.size) ∧ w'.heap.size = W.heap.size)
    (hY1 : tlE l x = y1) (hY2 : hdE l x = y2) (hFV : fvL af bi be x = Fv) (hAB : ∀ g, blk A = some g → g < B) (hB : B ≤ w.heap.size) (hwr : w.heap.size < wr.heap.size) (hbs : base ≤ w.heap.size) (hBl : Below base w wb)
    (w5 : World) (p1 : OwnF w5 base B A c f) (p2 : wb.grownBy w5 (blk A)) (p3 : Below base wb w5) :
    ∃ w6, (Instr.mapUpdate 45 (.map (some w.heap.size)) (.int .i64 y2) (.agg #[.int .i64 y1, .int .i64 y2, Fv])).run Try.prog w5 = .ok () w6 ∧ w5.cell? ⟨wr.heap.size, 0, none⟩ = some (.int .i64 y1) ∧ w5.cell? ⟨wr.heap.size, 1, none⟩ = some (.int .i64 y2) ∧ w5.cell? ⟨wr.heap.size, 2, none⟩ = some Fv ∧ w6.cell? ⟨wr.heap.size, 1, none⟩ = some (.int .i64 y2) ∧
      (MapV w6 w.heap.size (nb + 1) (lkM l af bi be (updK lf y2 x)) ∧ Ow w6 w.heap.size 3 1 A6 q6 c6 xs ∧ OwnF w6 base B A c f ∧ Mid B w w6 ∧ Below base w w6 ∧ wr.heap.size ≤ w6.heap.size) := by
  obtain ⟨mv5, o5, md5, z0, z1, z2, s5⟩ := hW5 w5 p1 p2
  obtain ⟨w6, hput, m6, gw6, s6⟩ := hpt w5 nb y1 y2 Fv mv5 hY1 hY2 hFV
  refine ⟨w6, hput, z0, z1, z2, ?_, m6, o5.kept gw6 (.inr (fun e => o5.ne_map mv5 e.symm)), ⟨World.ownsRow.kept p1.1 gw6 (.inr ?_), p1.2⟩, md5.grown (by omega) gw6 (fun g h => by cases h; exact .inr (Nat.le_refl _)), (hBl.trans p3).grown gw6 (by omega) (fun g h => by cases h; exact hbs), by omega⟩
  · exact (World.cell?_of_block (a := ⟨wr.heap.size, 1, none⟩) (gw6.block _ s5 (fun e => by injection e with e; have e : wr.heap.size = w.heap.size := e; omega))).trans z1
  · rw [own_block]
    intro e
    have h1 := hAB _ e
    omega
set_option maxRecDepth 100000 in
set_option maxHeartbeats 8000000 in
theorem gSearch_any (l : List Ed) (f : List Int) (s t : Int) (base B : Nat) (A : Option Addr) (c af : Nat) (bi be : Nat → Nat) (b : Nat) (w : World) (hM : Flm w base B l f A c af bi be b) (hl : f.length = l.length) (hmax : l.length ≤ 1000) (hst : s ≠ t) (hBw : B ≤ w.heap.size)
    (hbx : ∀ k, k < l.length → 0 ≤ ix f k ∧ ix f k ≤ eC l k ∧ eC l k ≤ 1000000) :
    Calls Try.prog 32 #[.map (some b), .int .i64 s, .int .i64 t] w (SearchPost l f s t base B A c af bi be b w) := by
  have hmm := @run_makeMap Try.prog
  obtain ⟨w1, hput, hM1, hg1, hz1⟩ := (mapV_made w).put (P := Try.prog) Try.underlying45 Try.underlying3 s (.agg #[.int .i64 0, .int .i64 0, .nilFunc])
  have hB0 : Hid (Below base w (w1.alloc (.cells #[.int .i64 s] 3))) := Lib.hid (((((Below.refl base w).alloc (Nat.le_trans hM.le hBw) (.map #[] 0))).grown hg1 (by have := hM.le; simp; omega) (fun k hk => by cases hk; exact Nat.le_trans hM.le hBw)).alloc (by have := hM.le; rw [hz1]; simp; omega) _)
  have hMd0 : Hid (Mid B w (w1.alloc (.cells #[.int .i64 s] 3))) := Lib.hid (((Mid.refl B w).grown (Nat.le_refl _) (World.grownBy_alloc w (.map #[] 0) none) (fun g h => by cases h)).grown (by simp) hg1 (fun g h => by cases h; exact .inr (Nat.le_refl _)) |>.grown (by rw [hz1]; simp) (World.grownBy_alloc w1 (.cells #[.int .i64 s] 3) none) (fun g h => by cases h))
  have hF0 : Hid (OwnF (w1.alloc (.cells #[.int .i64 s] 3)) base B A c f) := Lib.hid ⟨World.ownsRow.alloc (World.ownsRow.kept (World.ownsRow.alloc hM.F.1 _) hg1 (.inr (by
    rw [own_block]
    intro e
    have := hM.F.2 _ e
    omega))) _, hM.F.2⟩
  have hMv0 : Hid (MapV (w1.alloc (.cells #[.int .i64 s] 3)) w.heap.size 1 (lkM l af bi be (updK (fun _ => none) s 0))) := Lib.hid (by
    have h := hM1.alloc (.cells #[.int .i64 s] 3)
    have e := lkM_upd l af bi be (fun _ => none) s 0
    rw [← e]
    exact h)
  have hs1 : w1.heap.size = w.heap.size + 1 := by rw [hz1]; simp
  have hO0 : Hid (Ow (w1.alloc (.cells #[.int .i64 s] 3)) w.heap.size 3 1 (some ⟨w.heap.size + 1, 0, none⟩) 1 1 (cellsI ([s].drop 0))) := Lib.hid (by
    have h := own_one w1 w.heap.size s (by rw [hs1]; omega)
    rw [hs1] at h
    exact Ow.of_own h)
  have hLen := Lib.hid (fun (S V : List Int) (i q : Nat) (h : Bfs l f s S V i q) => srch_len h.b)
  have hVl := Lib.hid (fun (S V : List Int) (i q : Nat) (h : Bfs l f s S V i q) => h.b.len)
  have hSk := Lib.hid (fun (S V : List Int) (n : Int) (i q : Nat) (h : Bfs l f s S V i q) => bfs_skip (n := n) h)
  have hAd := Lib.hid (fun (S V : List Int) (n : Int) (i q : Nat) (h : Bfs l f s S V i q) => bfs_add (n := n) h)
  have hRo := Lib.hid (fun (S V : List Int) (n : Int) (i : Nat) (h : Bfs l f s S V i (lkN l l.length n).length) => bfs_row (n := n) h)
  have hMem := Lib.hid (fun (n x : Int) (h : x ∈ lkN l l.length n) => lk_mem h)
  have hLl := Lib.hid (fun (n : Int) => lk_len l n l.length)
  have hSt := Lib.hid (bfs_start l f s)
  have hNo : Hid (∀ (S V : List Int) (w' : World), Bfs l f s S V S.length 0 → t ∉ S → OwnF w' base B A c f → Mid B w w' → Below base w w' → SearchPost l f s t base B A c af bi be b w (.returned (.tuple #[.map none, .bool false])) w') := Lib.hid (fun S V w' h1 h2 h3 h4 h5 => ⟨.inl ⟨rfl, fun hr => h2 (bfs_end h1 hr)⟩, flm_mid hM h3 rfl h4, h5⟩)
  have hYes : Hid (∀ (S V : List Int) (lf : Int → Option Int) (nb i q : Nat) (w' : World), Bfs l f s S V i q → Last S V lf → t ∈ S → MapV w' w.heap.size nb (lkM l af bi be lf) → OwnF w' base B A c f → Mid B w w' → Below base w w' → SearchPost l f s t base B A c af bi be b w (.returned (.tuple #[.map (some w.heap.size), .bool true])) w') := Lib.hid (fun S V lf nb i q w' h1 h2 h3 h4 h5 h6 h7 => ⟨.inr ⟨_, nb, lf, S, V, rfl, h1.b, h2, h3, Nat.le_refl _, h4⟩, flm_mid hM h5 rfl h6, h7⟩)
  have hFlm := Lib.hid (fun (w' : World) (h1 : OwnF w' base B A c f) (h2 : Mid B w w') => flm_mid hM h1 rfl h2)
  have hCall := Lib.hid (fun (w' : World) (h1 : OwnF w' base B A c f) (h2 : Mid B w w') (x : Int) (hx : idx x < l.length) (hx0 : x ≠ 0) (hr : 0 ≤ room l f x) => step_call (flm_mid hM h1 rfl h2) hl hbx (d := 0) hx hx0 ⟨Int.le_refl _, hr⟩)
  have hRoom : Hid (∀ x, idx x < l.length → 0 ≤ room l f x ∧ room l f x ≤ 1000000) := Lib.hid (fun x hx => by
    have := hbx _ hx
    unfold room
    split <;> omega)
  have hP0 := Lib.hid (fun (x : Int) (hx : idx x < l.length) => put1_zero (f := f) (x := x) (by omega))
  have hAB := Lib.hid hM.F.2
  have hBb := Lib.hid (And.intro hM.lb hM.L.lt)
  have hbB := Lib.hid (And.intro hM.le hBw)
  have hAt := Lib.hid (fun (n : Int) => lks_at hM.L n)
  have hLa := Lib.hid (last_start s)
  have hts : Hid (t ∉ [s]) := Lib.hid (fun h => hst (List.mem_singleton.1 h).symm)
  clear hM hbx hst hM1 hg1 hs1 hBw
  generalize hgo : SearchPost l f s t base B A c af bi be b w = goal at *
  clear hgo
  go_enter Try.func32, Try.ntmps32
  go_wp2
  clear hmm hput hz1
  go_loopg [9] (2 * l.length + 2) (fun kx v wr => ∃ (S V : List Int) (lf : Int → Option Int) (i q6 c6 nb : Nat) (A6 : Option Addr), v = .slice A6 q6 c6 ∧ Hid (q6 = (S.drop i).length) ∧ Hid (i ≤ S.length) ∧ Hid (2 * l.length + 2 ≤ kx + i) ∧ Hid (Bfs l f s S V i 0) ∧ Hid (Last S V lf) ∧ Hid (t ∉ S) ∧ Hid (MapV wr w.heap.size nb (lkM l af bi be lf)) ∧ Hid (Ow wr w.heap.size 3 1 A6 q6 c6 (cellsI (S.drop i))) ∧ Hid (OwnF wr base B A c f) ∧ Hid (Mid B w wr) ∧ Hid (Below base w wr))
  case atStart => exact ⟨[s], [0], _, 0, 1, 1, 1, _, rfl, Lib.hid rfl, Lib.hid (by simp), Lib.hid (by omega), hSt, hLa, hts, hMv0, hO0, hF0, hMd0, hB0⟩
  case round =>
    clear hSt hLa hts hMv0 hO0 hF0 hMd0 hB0
    obtain ⟨S, V, lf, i, q6, c6, nb, A6, rfl, hq6, hi, hkx, hBf, hLst, htS, hMv, hO, hF, hMd, hB⟩ := hrel
    by_cases hlt : i < S.length
    · have hdr := drop_ix hlt
      have hq60 : 0 < q6 := by rw [hq6.out, List.length_drop]; omega
      obtain ⟨g6, off, rfl, hg6, hg6w⟩ := hO.out.head hq60
      have c0 : wr.cell? ⟨g6, off, none⟩ = some (.int .i64 (ix S i)) := hO.out.cells (ad := ⟨g6, off, none⟩) rfl 0 _ (by rw [hdr]; rfl)
      have htl := hO.out.tail hq60
      have hql : q6 ≤ 2 * l.length + 1 := by
        have h1 := hLen.out S V i 0 hBf.out
        rw [hq6.out, List.length_drop]
        omega
      have hqF : Hid (q6 - 1 = (S.drop (i + 1)).length) := Lib.hid (by rw [hq6.out, List.length_drop, List.length_drop]; omega)
      have hkk : Hid (2 * l.length + 2 ≤ gk - 1 + (i + 1) ∧ gk - 1 < gk) := Lib.hid (by
        have h1 := hLen.out S V i 0 hBf.out
        have := hkx.out
        omega)
      have hHid : Hid (Ow wr w.heap.size 3 1 (if c6 = 1 then some (⟨g6, off, none⟩ : Addr) else some ⟨g6, off + 1, none⟩) (q6 - 1) (c6 - 1) (cellsI (S.drop (i + 1)))) := Lib.hid (by
        have h := htl
        rw [Option.map_some, add_at, hdr] at h
        exact h)
      obtain ⟨n, hn⟩ : ∃ n, ix S i = n := ⟨_, rfl⟩
      rw [hn] at c0
      have hin : Hid (i < S.length ∧ ix S i = n) := Lib.hid ⟨hlt, hn⟩
      have hqc : (q6 : Int) ≤ (c6 : Int) := by have := hO.out.capp.1; omega
      have hq61 : (1 : Int) ≤ (q6 : Int) := by omega
      have hq6p : (0 : Int) < (q6 : Int) := by omega
      obtain ⟨A5, c5, hat⟩ := hAt.out n
      have hlk := hat.2.1 wr (hMd.out b hBb.out.1 hBb.out.2)
      have hOK := Lib.hid hat.1
      clear htl hdr hO hat hAt hq6 hn
      have hSk1 := Lib.hid (fun (S V : List Int) (q : Nat) => hSk.out S V n i q)
      have hAd1 := Lib.hid (fun (S V : List Int) (q : Nat) => hAd.out S V n i q)
      have hRo1 := Lib.hid (fun (S V : List Int) => hRo.out S V n i)
      have hMem1 := Lib.hid (hMem.out n)
      have hLl1 := Lib.hid (hLl.out n)
      clear hSk hAd hRo hMem hLl hNo
      generalize lkN l l.length n = L at *
      have hLb := hLl1.out
      by_cases hc1 : c6 = 1
      all_goals
        first
          | (subst hc1; have hT : Hid (Ow wr w.heap.size 3 1 (some (⟨g6, off, none⟩ : Addr)) (q6 - 1) (1 - 1) (cellsI (S.drop (i + 1)))) := Lib.hid (by have := hHid.out; rw [if_pos rfl] at this; exact this))
          | (have hT : Hid (Ow wr w.heap.size 3 1 (some (⟨g6, off + 1, none⟩ : Addr)) (q6 - 1) (c6 - 1) (cellsI (S.drop (i + 1)))) := Lib.hid (by have := hHid.out; rw [if_neg hc1] at this; exact this))
        clear hHid
        go_wp2
        clear c0 hlk
        obtain ⟨wo, rfl⟩ : ∃ wo, wo = wr := ⟨wr, rfl⟩
        go_loopw [9, 33] (fun v9 v33 w2 => ∃ (S V : List Int) (lf : Int → Option Int) (q q6 c6 nb : Nat) (A6 : Option Addr), q ≤ L.length ∧ v33 = .int .i64 q ∧ v9 = .slice A6 q6 c6 ∧ Hid (q6 = (S.drop (i + 1)).length) ∧ Hid (i < S.length ∧ ix S i = n) ∧ Hid (Bfs l f s S V i q) ∧ Hid (Last S V lf) ∧ Hid (t ∉ S) ∧ Hid (MapV w2 w.heap.size nb (lkM l af bi be lf)) ∧ Hid (Ow w2 w.heap.size 3 1 A6 q6 c6 (cellsI (S.drop (i + 1)))) ∧ Hid (OwnF w2 base B A c f) ∧ Hid (Mid B w w2) ∧ Hid (Below base w w2)) (fun _ v33 _ => L.length - (intOf v33).toNat)
        case atStart => exact ⟨S, V, lf, 0, _, _, nb, _, Nat.zero_le _, rfl, rfl, hqF, hin, hBf, hLst, htS, hMv, hT, hF, hMd, hB⟩
        case round =>
          clear hqF hin hBf hLst htS hMv hT hF hMd hB hi hkx
          obtain ⟨S, V, lf, q, q6, c6, nb, A6, hq, rfl, rfl, hq6, hin, hBf, hLst, htS, hMv, hO, hF, hMd, hB⟩ := hrel
          by_cases hql2 : q < L.length
          · obtain ⟨g5, rfl, e1, e2, e3⟩ := lk_cells hOK.out hMd.out hql2
            obtain ⟨m1, m2, m3⟩ := hMem1.out _ (ix_mem hql2)
            have hrm := hRoom.out _ m1
            have hP1 := Lib.hid (hP0.out _ m1)
            have hC1 := Lib.hid (fun (w' : World) (h1 : OwnF w' base B A c f) (h2 : Mid B w w') => hCall.out w' h1 h2 _ m1 m2 hrm.1)
            have hs1 := Lib.hid (hSk1.out S V q hBf.out hin.out.2 hql2)
            have ha1 := Lib.hid (hAd1.out S V q hBf.out hin.out.1 hin.out.2 hql2)
            have hls := Lib.hid (last_some hLst.out (hdE l (ix L q)))
            have hla := Lib.hid (fun (h : hdE l (ix L q) ∉ S) => last_add (v := ix L q) hLst.out (hVl.out S V i q hBf.out) h)
            have hpt := Lib.hid (fun (W : World) (n : Nat) (y1 y2 : Int) (F : Value) (h : MapV W w.heap.size n (lkM l af bi be lf)) (h1 : tlE l (ix L q) = y1) (h2 : hdE l (ix L q) = y2) (h3 : fvL af bi be (ix L q) = F) => lkM_put h m2 h1 h2 h3)
            have hSl := hLen.out S V i q hBf.out
            have hdl : (S.drop (i + 1)).length ≤ 2 * l.length + 1 := by rw [List.length_drop]; omega
            have hda : ∀ y, (S ++ [y]).drop (i + 1) = S.drop (i + 1) ++ [y] := fun y => List.drop_append_of_le_length (by have := hin.out.1; omega)
            have hDa := Lib.hid hda
            obtain ⟨a0, b0, F0, h01, hz, hlo⟩ := lkM_look hMv.out (hdE l (ix L q))
            have hFo : (fvL af bi be (ix L q)).oneCell' = true := fvL_one _
            obtain ⟨x, hx⟩ : ∃ x, ix L q = x := ⟨_, rfl⟩
            rw [hx] at hFo e1 e2 e3 m1 m2 m3 hrm hP1 hC1 hs1 ha1 hls hla hpt hz hlo
            obtain ⟨y1, hy1⟩ : ∃ y, tlE l x = y := ⟨_, rfl⟩
            obtain ⟨y2, hy2⟩ : ∃ y, hdE l x = y := ⟨_, rfl⟩
            obtain ⟨r, hr⟩ : ∃ r, room l f x = r := ⟨_, rfl⟩
            obtain ⟨Fv, hFv⟩ : ∃ F, fvL af bi be x = F := ⟨_, rfl⟩
            have hY1 := Lib.hid hy1
            have hY2 := Lib.hid hy2
            have hFV := Lib.hid hFv
            rw [hy1] at e1
            rw [hy2] at e2 hs1 ha1 hls hla hz hlo
            rw [hFv] at e3 hC1 hFo
            have hst1 : ∀ (a : Addr) (m : Mode) (W : World), (store a Fv m).run Try.prog W = stored Try.prog W a Fv m := fun a m W => run_store _ _ _ _ _ hFo
            have hst0 : ∀ (a : Addr) (m : Mode) (W : World), (store a F0 m).run Try.prog W = stored Try.prog W a F0 m := fun a m W => run_store _ _ _ _ _ h01
            rw [hr] at hrm hs1 ha1
            have hRr := Lib.hid hr
            have hi1 : (q : Int) < (L.length : Int) := by omega
            have hi0 : (0 : Int) ≤ (q : Int) := by omega
            have hq6b : q6 ≤ 2 * l.length + 1 := by rw [hq6.out]; exact hdl
            clear hx hFo h01 hy1 hy2 hr hFv hda m1 m2 m3 hdl hSk1 hAd1 hMem1
            have hla1 := hlo (wr.alloc (.cells #[.int .i64 y1, .int .i64 y2, Fv] 69)) (Below.heap_alloc _ _ _ hMv.out.lt)
            have hwr := Lib.hid hB.out.size
            have hMvb := Lib.hid ((hMv.out.alloc (.cells #[.int .i64 y1, .int .i64 y2, Fv] 69)).alloc (.cells #[.int .i64 a0, .int .i64 b0, F0] 69))
            have hOb := Lib.hid ((hO.out.alloc (.cells #[.int .i64 y1, .int .i64 y2, Fv] 69)).alloc (.cells #[.int .i64 a0, .int .i64 b0, F0] 69))
            have hFb : Hid (OwnF ((wr.alloc (.cells #[.int .i64 y1, .int .i64 y2, Fv] 69)).alloc (.cells #[.int .i64 a0, .int .i64 b0, F0] 69)) base B A c f) := Lib.hid ⟨World.ownsRow.alloc (World.ownsRow.alloc hF.out.1 _) _, hF.out.2⟩
            have hMdb := Lib.hid ((hMd.out.grown hwr.out (World.grownBy_alloc wr (.cells #[.int .i64 y1, .int .i64 y2, Fv] 69) none) (fun g h => by cases h)).grown (Nat.le_trans hwr.out (by simp)) (World.grownBy_alloc _ (.cells #[.int .i64 a0, .int .i64 b0, F0] 69) none) (fun g h => by cases h))
            have hbw : base ≤ wr.heap.size := Nat.le_trans (Nat.le_trans hbB.out.1 hbB.out.2) hwr.out
            have hBlb := Lib.hid ((hB.out.alloc hbw (.cells #[.int .i64 y1, .int .i64 y2, Fv] 69)).alloc (Nat.le_trans hbw (by simp)) (.cells #[.int .i64 a0, .int .i64 b0, F0] 69))
            have hbz : Hid (w.heap.size < wr.heap.size ∧ base ≤ w.heap.size) := Lib.hid ⟨hMv.out.lt, Nat.le_trans hbB.out.1 hbB.out.2⟩
            clear hMv hO hF hMd hB hbw
            by_cases hS : y2 ∈ S
            · have hi2 := hls.out.2 hS
              rw [hi2] at hla1
              have hB1 := Lib.hid (hs1.out (.inl hS))
              clear hs1 ha1 hls hla hpt hz hlo hi2 hYes hCall hC1 hBf hP0 hFlm
              go_wp2
              exact ⟨⟨S, V, lf, q + 1, q6, c6, nb, A6, by omega, by go_num, rfl, hq6, hin, hB1, hLst, htS, hMvb, hOb, hFb, hMdb, hBlb⟩, by simp [intOf]; omega⟩
            · have hi2 : (lf y2).isSome = false := by
                cases hh : (lf y2).isSome with
                | false => rfl
                | true => exact absurd (hls.out.1 hh) hS
              obtain ⟨rfl, rfl, rfl⟩ := hz hi2
              rw [hi2] at hla1
              have hNS := Lib.hid hS
              have hW5 : Hid (∀ w5 : World, OwnF w5 base B A c f → World.grownBy ((wr.alloc (.cells #[.int .i64 y1, .int .i64 y2, Fv] 69)).alloc (.cells #[.int .i64 0, .int .i64 0, .nilFunc] 69)) w5 (blk A) → MapV w5 w.heap.size nb (lkM l af bi be lf) ∧ Ow w5 w.heap.size 3 1 A6 q6 c6 (cellsI (S.drop (i + 1))) ∧ Mid B w w5 ∧
                  w5.cell? ⟨wr.heap.size, 0, none⟩ = some (.int .i64 y1) ∧ w5.cell? ⟨wr.heap.size, 1, none⟩ = some (.int .i64 y2) ∧ w5.cell? ⟨wr.heap.size, 2, none⟩ = some Fv ∧ wr.heap.size < w5.heap.size) := Lib.hid (fun w5 h1 h2 => by
                have hz1 : ((wr.alloc (.cells #[.int .i64 y1, .int .i64 y2, Fv] 69)).alloc (.cells #[.int .i64 0, .int .i64 0, .nilFunc] 69)).heap.size = wr.heap.size + 2 := by simp
                have hne : ∀ k, B ≤ k → ¬ some k = blk A := fun k hk e => by have := hAB.out _ e.symm; omega
                have hbx : w5.heap[wr.heap.size]? = some (.cells #[.int .i64 y1, .int .i64 y2, Fv] 69) :=
                  (h2.block wr.heap.size (by rw [hz1]; omega) (hne _ (Nat.le_trans hbB.out.2 hwr.out))).trans ((Below.heap_alloc _ _ _ (by simp)).trans (heap_alloc_new wr _))
                refine ⟨hMvb.out.grown h2 (hne _ hbB.out.2), hOb.out.kept h2 ?_, hMdb.out.grown (by rw [hz1]; have := hwr.out; omega) h2 (fun g h => .inl (hAB.out g h)), cell_lit hbx 0 _ rfl, cell_lit hbx 1 _ rfl, cell_lit hbx 2 _ rfl, by have := h2.size; rw [hz1] at this; omega⟩
                cases hb6 : blk A6 with
                | none => exact .inl rfl
                | some g => exact .inr (hne g (Nat.le_trans hbB.out.2 (hOb.out.lt g hb6).1)))
              have hcl := hC1.out _ hFb.out hMdb.out
              clear hC1 hCall hP0 hFlm hlo hi2 hz
              rcases hcl with ⟨kk, hxk, rfl, hcl⟩ | ⟨kk, hxk, rfl, hcl⟩
              all_goals
                have hK := Lib.hid (hcl.mono (R' := fun e w' => e = .returned (.int .i64 r) ∧ OwnF w' base B A c f ∧ World.grownBy _ w' (blk A) ∧ Below base _ w') (fun e w' ⟨h1, h2, h3, h4⟩ => ⟨by rw [h1, hRr.out, Int.sub_zero], by rw [hP1.out] at h2; exact h2, h3, h4⟩))
                clear hcl hxk
                by_cases hr0 : r ≤ 0
                · have hB1 := Lib.hid (hs1.out (.inr hr0))
                  clear hs1 ha1 hls hla hpt hYes hBf
                  go_wp2_with (first
                    | (go_at_call 46; (with_reducible refine (hK.out).mono ?_); rintro e w5 ⟨rfl, p1, p2, p3⟩; (have F5 := Lib.hid p1); (have W5 := Lib.hid (hW5.out w5 p1 p2)); (have B5 := Lib.hid (hBlb.out.trans p3)); clear p1 p2 p3)
                    | (go_at_call 47; (with_reducible refine (hK.out).mono ?_); rintro e w5 ⟨rfl, p1, p2, p3⟩; (have F5 := Lib.hid p1); (have W5 := Lib.hid (hW5.out w5 p1 p2)); (have B5 := Lib.hid (hBlb.out.trans p3)); clear p1 p2 p3))
                  exact ⟨⟨S, V, lf, q + 1, q6, c6, nb, A6, by omega, by go_num, rfl, hq6, hin, hB1, hLst, htS, Lib.hid W5.out.1, Lib.hid W5.out.2.1, F5, Lib.hid W5.out.2.2.1, B5⟩, by simp [intOf]; omega⟩
                · have hB1 := Lib.hid (ha1.out hS (by omega))
                  have hL1 := Lib.hid (hla.out hS)
                  have hr1 : 0 < r := by omega
                  have hr2 : ¬ r ≤ 0 := hr0
                  have hW6 := Lib.hid (fun (w5 : World) (p1 : OwnF w5 base B A c f) (p2 : World.grownBy _ w5 (blk A)) (p3 : Below base _ w5) => search_turn hW5.out hpt.out hY1.out hY2.out hFV.out hAB.out hbB.out.2 hbz.out.1 hbz.out.2 hBlb.out w5 p1 p2 p3)
                  by_cases hyt : y2 = t
                  · have ht : (y2 == t) = true := beq_iff_eq.2 hyt
                    have hR := Lib.hid (fun (w6 : World) => hYes.out (S ++ [y2]) (V ++ [x]) (updK lf y2 x) (nb + 1) i (q + 1) w6 hB1.out hL1.out (by rw [hyt]; exact List.mem_append_right _ (List.mem_singleton.2 rfl)))
                    clear hs1 ha1 hls hla hYes hBf hyt hB1 hL1
                    go_wp2_with (first
                      | (go_at_call 46; (with_reducible refine (hK.out).mono ?_); rintro e w5 ⟨rfl, p1, p2, p3⟩; (obtain ⟨w6, hput, z0, z1, z2, z1', q6'⟩ := hW6.out w5 p1 p2 p3); (have Q6 := Lib.hid q6'); clear p1 p2 p3 q6')
                      | (go_at_call 47; (with_reducible refine (hK.out).mono ?_); rintro e w5 ⟨rfl, p1, p2, p3⟩; (obtain ⟨w6, hput, z0, z1, z2, z1', q6'⟩ := hW6.out w5 p1 p2 p3); (have Q6 := Lib.hid q6'); clear p1 p2 p3 q6'))
                    exact hR.out _ Q6.out.1 Q6.out.2.2.1 Q6.out.2.2.2.1 Q6.out.2.2.2.2.1
                  · have ht : (y2 == t) = false := beq_eq_false_iff_ne.2 hyt
                    have htS2 : Hid (t ∉ S ++ [y2]) := Lib.hid (fun h => by
                      rcases List.mem_append.1 h with h | h
                      · exact htS.out h
                      · exact hyt (List.mem_singleton.1 h).symm)
                    have hq62 : Hid (q6 + 1 = ((S ++ [y2]).drop (i + 1)).length) := Lib.hid (by rw [hDa.out, List.length_append, hq6.out]; rfl)
                    have hin2 : Hid (i < (S ++ [y2]).length ∧ ix (S ++ [y2]) i = n) := Lib.hid ⟨by rw [List.length_append]; have := hin.out.1; omega, by rw [ix_left hin.out.1]; exact hin.out.2⟩
                    obtain ⟨i0, hi, hz0, hz1, hz2⟩ := info_parts info_i64
                    have hI := Lib.hid hi
                    have hZ0 := Lib.hid hz0
                    have hZ1 := Lib.hid hz1
                    have hZ2 := Lib.hid hz2
                    clear hs1 ha1 hls hla hYes hBf hyt hi hz0 hz1 hz2
                    go_wp2_with (first
                      | (go_at_call 46; (with_reducible refine (hK.out).mono ?_); rintro e w5 ⟨rfl, p1, p2, p3⟩; (obtain ⟨w6, hput, z0, z1, z2, z1', q6'⟩ := hW6.out w5 p1 p2 p3); (have Q6 := Lib.hid q6'); clear p1 p2 p3 q6')
                      | (go_at_call 47; (with_reducible refine (hK.out).mono ?_); rintro e w5 ⟨rfl, p1, p2, p3⟩; (obtain ⟨w6, hput, z0, z1, z2, z1', q6'⟩ := hW6.out w5 p1 p2 p3); (have Q6 := Lib.hid q6'); clear p1 p2 p3 q6')
                      | (at_builtin; refine wpList_append_ow rfl (.tmp 60) (.tmp 63) 23 rfl w.heap.size 3 i0 (.int .i64 0) 1 8 Try.underlying23 hI.out hZ0.out hZ1.out hZ2.out rfl A6 q6 c6 (cellsI (S.drop (i + 1))) rfl (Q6.out.2.1.alloc _) _ 1 _ rfl (feed_new (s := 1) (n := 1) (cs := #[.int .i64 y2]) rfl) (fun u hu => one_i64 hu) (by unfold maxLen; omega) (by omega) (by have h1 := Q6.out.2.2.2.2.2; have h2 := hbz.out.1; simp; omega) ?_; intro A7 c7 w7 h7 g7 l7; (have O7 := Lib.hid h7); (have G7 := Lib.hid g7); clear h7 g7 l7))
                    have hwx : w.heap.size ≤ (w6.alloc (.cells #[.int .i64 y2] 3)).heap.size := by have h1 := Q6.out.2.2.2.2.2; have h2 := hbz.out.1; simp; omega
                    have hgA : ∀ g, blk A6 = some g → w.heap.size ≤ g := fun g h => (Q6.out.2.1.lt g h).1
                    exact ⟨⟨S ++ [y2], V ++ [x], updK lf y2 x, q + 1, q6 + 1, c7, nb + 1, A7, by omega, by go_num, rfl, hq62, hin2, hB1, hL1, htS2, Lib.hid ((Q6.out.1.alloc _).grown G7.out (Q6.out.2.1.ne_map Q6.out.1)), Lib.hid (by rw [hDa.out, cellsI_append]; exact O7.out), Lib.hid ⟨World.ownsRow.kept (World.ownsRow.alloc Q6.out.2.2.1.1 _) G7.out (by rw [own_block]; cases hA : blk A with | none => exact .inl rfl | some g => exact .inr (fun e => by have h1 := hAB.out _ hA; have h2 := hgA g e.symm; have h3 := hbB.out.2; omega)), Q6.out.2.2.1.2⟩, Lib.hid ((Q6.out.2.2.2.1.grown (by have h1 := Q6.out.2.2.2.2.2; have h2 := hbz.out.1; omega) (World.grownBy_alloc w6 _ none) (fun g h => by cases h)).grown hwx G7.out (fun g h => .inr (hgA g h))), Lib.hid ((Q6.out.2.2.2.2.1.alloc (by have h1 := Q6.out.2.2.2.2.2; have h2 := hbz.out; omega) _).grown G7.out (Nat.le_trans hbz.out.2 hwx) (fun g h => Nat.le_trans hbz.out.2 (hgA g h)))⟩, by simp [intOf]; omega⟩
          · obtain rfl : q = L.length := by omega
            have hB1 := Lib.hid (hRo1.out S V hBf.out hin.out.2)
            have hi1 := hin.out.1
            clear hSk1 hAd1 hRo1 hMem1 hYes hCall hFlm hP0 hRoom hBf
            go_wp2
            go_roundg (gk - 1)
            case measure => exact hkk.out.2
            case rel => exact ⟨S, V, lf, i + 1, q6, c6, nb, A6, rfl, hq6, Lib.hid (by omega), hkk.out.1 |> Lib.hid, hB1, hLst, htS, hMv, hO, hF, hMd, hB⟩
    · obtain rfl : i = S.length := by have := hi.out; omega
      obtain rfl : q6 = 0 := by have := hq6.out; rw [List.drop_length] at this; exact this
      have hR := Lib.hid (hNo.out S V wr hBf.out htS.out hF.out hMd.out hB.out)
      clear hNo hYes hFlm hCall hRoom hP0 hAB hBb hbB hAt hLen hVl hSk hAd hRo hMem hLl hq6 hi hkx hBf hLst htS hMv hO hF hMd hB
      go_wp2
      exact hR.out
end Go.Proofs.Ytdemnbbofigcdaa
