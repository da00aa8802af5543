/- The links as they lie in memory; the package's steps. -/
import Derived.Test.YtdemnbbofigcdaaBfs
import Derived.Test.YtdemnbbofigcdaaGrp
import Derived.BigQuiet
import Derived.BigRegion
namespace Go.Proofs.Ytdemnbbofigcdaa
open Go.RowKit

/-- The step of a link: a closure over f, the index, and the edge where it leads along. -/
def fvL (af : Nat) (bi be : Nat → Nat) (x : Int) : Value :=
  if 0 < x then .func (.func 46) #[] #[.pointer (some ⟨af, 0, none⟩), .pointer (some ⟨bi (idx x), 0, none⟩), .pointer (some ⟨be (idx x), 0, none⟩)]
  else .func (.func 47) #[] #[.pointer (some ⟨af, 0, none⟩), .pointer (some ⟨bi (idx x), 0, none⟩)]
def cellsK (l : List Ed) (af : Nat) (bi be : Nat → Nat) : List Int → List Value
  | [] => []
  | x :: L => .int .i64 (tlE l x) :: .int .i64 (hdE l x) :: fvL af bi be x :: cellsK l af bi be L
section
variable {l : List Ed} {af : Nat} {bi be : Nat → Nat}
theorem cellsK_len : ∀ L : List Int, (cellsK l af bi be L).length = L.length * 3
  | [] => rfl
  | x :: L => by rw [cellsK, List.length_cons, List.length_cons, List.length_cons, cellsK_len L, List.length_cons]; omega
theorem cellsK_append : ∀ L M : List Int, cellsK l af bi be (L ++ M) = cellsK l af bi be L ++ cellsK l af bi be M
  | [], _ => rfl
  | x :: L, M => by rw [List.cons_append, cellsK, cellsK, cellsK_append L M]; rfl
theorem fvL_one (x : Int) : (fvL af bi be x).oneCell' = true := by unfold fvL; split <;> rfl
theorem cellsK_one : ∀ L : List Int, ∀ u ∈ cellsK l af bi be L, u.oneCell' = true
  | [], _, h => by cases h
  | x :: L, u, h => by
    rw [cellsK] at h
    simp only [List.mem_cons] at h
    rcases h with rfl | rfl | rfl | h
    · rfl
    · rfl
    · exact fvL_one x
    · exact cellsK_one L u h
theorem cellsK_at : ∀ (L : List Int) (i : Nat) (_ : i < L.length), (cellsK l af bi be L)[i * 3]? = some (.int .i64 (tlE l (ix L i))) ∧ (cellsK l af bi be L)[i * 3 + 1]? = some (.int .i64 (hdE l (ix L i))) ∧ (cellsK l af bi be L)[i * 3 + 2]? = some (fvL af bi be (ix L i))
  | x :: L, 0, _ => ⟨rfl, rfl, rfl⟩
  | x :: L, i + 1, h => by
    have k := cellsK_at L i (by simpa using h)
    have e : ix (x :: L) (i + 1) = ix L i := rfl
    rw [cellsK, show (i + 1) * 3 = i * 3 + 1 + 1 + 1 by omega, e]
    simpa using k
theorem cellsK_congr {bi' be' : Nat → Nat} : ∀ {L : List Int}, (∀ x ∈ L, bi (idx x) = bi' (idx x) ∧ be (idx x) = be' (idx x)) → cellsK l af bi be L = cellsK l af bi' be' L
  | [], _ => rfl
  | x :: L, h => by
    obtain ⟨h1, h2⟩ := h x (List.mem_cons_self ..)
    rw [cellsK, cellsK, cellsK_congr (fun y hy => h y (List.mem_cons_of_mem _ hy))]
    unfold fvL
    rw [h1, h2]
end
/-- The boxes that the steps read: f, the indices, the edges; none below block B. -/
structure Bx (w : World) (B : Nat) (l : List Ed) (n af : Nat) (F : Value) (bi be : Nat → Nat) : Prop where
  f0 : B ≤ af
  fb : w.heap[af]? = some (.cells #[F] 23 (0, 0))
  ib : ∀ k, k < n → B ≤ bi k ∧ w.heap[bi k]? = some (.cells #[.int .i64 k] 3 (0, 0))
  eb : ∀ k, k < n → B ≤ be k ∧ w.heap[be k]? = some (.cells #[.int .i64 (eI l k), .int .i64 (eF l k), .int .i64 (eT l k), .int .i64 (eC l k)] 33 (0, 0))
theorem cell_lit {w : World} {b : Nat} {cs : Array Value} {t : TypeId} {fz : Nat × Nat} (h : w.heap[b]? = some (.cells cs t fz)) (i : Nat) (u : Value) (hu : cs.toList[i]? = some u) : w.cell? ⟨b, i, none⟩ = some u := by
  have hu : cs[i]? = some u := by simpa using hu
  simp [World.cell?, h, hu]
section
variable {w w' : World} {B n af : Nat} {l : List Ed} {F : Value} {bi be : Nat → Nat}
theorem Bx.f (h : Bx w B l n af F bi be) : w.cell? ⟨af, 0, none⟩ = some F := cell_lit h.fb 0 _ rfl
theorem Bx.i (h : Bx w B l n af F bi be) : ∀ k, k < n → B ≤ bi k ∧ w.cell? ⟨bi k, 0, none⟩ = some (.int .i64 k) := fun k hk => ⟨(h.ib k hk).1, cell_lit (h.ib k hk).2 0 _ rfl⟩
theorem Bx.e (h : Bx w B l n af F bi be) : ∀ k, k < n → B ≤ be k ∧ w.cell? ⟨be k, 3, none⟩ = some (.int .i64 (eC l k)) := fun k hk => ⟨(h.eb k hk).1, cell_lit (h.eb k hk).2 3 _ rfl⟩
theorem Bx.kept (h : Bx w B l n af F bi be) (hk : ∀ b cs t, B ≤ b → w.heap[b]? = some (.cells cs t (0, 0)) → (t = 23 ∨ t = 3 ∨ t = 33) → w'.heap[b]? = w.heap[b]?) : Bx w' B l n af F bi be :=
  ⟨h.f0, (hk _ _ _ h.f0 h.fb (.inl rfl)).trans h.fb, fun k hn => ⟨(h.ib k hn).1, (hk _ _ _ (h.ib k hn).1 (h.ib k hn).2 (.inr (.inl rfl))).trans (h.ib k hn).2⟩, fun k hn => ⟨(h.eb k hn).1, (hk _ _ _ (h.eb k hn).1 (h.eb k hn).2 (.inr (.inr rfl))).trans (h.eb k hn).2⟩⟩
theorem Bx.grown {row : Option Nat} (h : Bx w B l n af F bi be) (hg : w.grownBy w' row) (hr : ∀ g, row = some g → g < B) : Bx w' B l n af F bi be :=
  h.kept fun b _ _ h1 h2 _ => hg.block _ (Array.getElem?_eq_some_iff.1 h2).1 (fun e => by have := hr _ e.symm; omega)
theorem Bx.up (h : Bx w B l n af F bi be) (hb : Below w.heap.size w w') : Bx w' B l n af F bi be :=
  h.kept fun _ _ _ _ h2 _ => hb.block _ (Array.getElem?_eq_some_iff.1 h2).1
/-- What grows is no box. -/
theorem Bx.row {row : Option Nat} (h : Bx w B l n af F bi be) (hg : w.grownBy w' row) (hr : ∀ g cs t, row = some g → w.heap[g]? = some (.cells cs t (0, 0)) → t = 69) : Bx w' B l n af F bi be :=
  h.kept fun b cs t _ h2 h3 => hg.block _ (Array.getElem?_eq_some_iff.1 h2).1 (fun e => by
    have := hr b cs t e.symm h2
    rw [this] at h3
    revert h3
    decide)
end

/-- f, of the call's own, in a block of its own below B. -/
def OwnF (w : World) (base B : Nat) (A : Option Addr) (c : Nat) (f : List Int) : Prop := OwnI w base A c f ∧ ∀ g, blk A = some g → g < B
/-- What a step leaves: d more along x. -/
def StepPost (l : List Ed) (f : List Int) (x d : Int) (base B : Nat) (A : Option Addr) (c : Nat) (W : World) (e : Ending) (w' : World) : Prop :=
  e = .returned (.int .i64 (room l f x - d)) ∧ OwnF w' base B A c (put1 f x d) ∧ W.grownBy w' (blk A) ∧ Below base W w'
theorem own_setI {w : World} {base c k g : Nat} {f : List Int} {v : Int} (h : OwnI w base (some ⟨g, 0, none⟩) c f) : OwnI (w.setCell ⟨g, k, none⟩ (.int .i64 v)) base (some ⟨g, 0, none⟩) c (f.set k v) := by
  unfold OwnI at h ⊢
  have e : cellsI (f.set k v) = (cellsI f).set k (.int .i64 v) := by unfold cellsI; rw [List.map_set]
  rw [e, List.length_set]
  exact (World.ownsRow.stored h k (.int .i64 v)).1
theorem own_headI {w : World} {base c : Nat} {A : Option Addr} {f : List Int} (h : OwnI w base A c f) (hn : 0 < f.length) : ∃ g, A = some ⟨g, 0, none⟩ ∧ base ≤ g ∧ g < w.heap.size := own_addr h hn

theorem step_post {l : List Ed} {f : List Int} {x d r : Int} {base B c g k : Nat} {w w' : World} {v : Int} (hF : OwnF w base B (some ⟨g, 0, none⟩) c f) (hg : base ≤ g) (hw : w' = w.setCell ⟨g, k, none⟩ (.int .i64 v) ∨ w' = (w.setCell ⟨g, k, none⟩ (.int .i64 v)).drew)
    (e1 : put1 f x d = f.set k v) (e2 : room l f x - d = r) : StepPost l f x d base B (some ⟨g, 0, none⟩) c w (.returned (.int .i64 r)) w' := by
  have hO := own_setI (k := k) (v := v) hF.1
  have hG := (World.ownsRow.stored hF.1 k (.int .i64 v)).2
  have hB : Below base w (w.setCell ⟨g, k, none⟩ (.int .i64 v)) := Below.setCell (Below.refl _ _) (p := ⟨g, k, none⟩) hg _
  refine ⟨by rw [e2], ?_, ?_, ?_⟩
  · rw [e1]
    rcases hw with rfl | rfl
    · exact ⟨hO, hF.2⟩
    · exact ⟨hO, hF.2⟩
  · rcases hw with rfl | rfl
    · exact hG
    · exact ⟨hG.os, hG.tape, hG.output, hG.size, hG.block⟩
  · rcases hw with rfl | rfl
    · exact hB
    · exact hB.drew
set_option maxRecDepth 100000 in
set_option maxHeartbeats 1000000 in
theorem along_any (l : List Ed) (f : List Int) (base B af c : Nat) (A : Option Addr) (bi be : Nat → Nat) (k : Nat) (d : Int) (w : World) (hk : k < l.length) (hl : f.length = l.length) (hF : OwnF w base B A c f) (hX : Bx w B l l.length af (.slice A f.length c) bi be)
    (hb : 0 ≤ ix f k ∧ ix f k ≤ eC l k) (hd : 0 ≤ d ∧ d ≤ eC l k - ix f k) (hC : eC l k ≤ 1000000) :
    Calls Try.prog 46 #[.int .i64 d, .pointer (some ⟨af, 0, none⟩), .pointer (some ⟨bi k, 0, none⟩), .pointer (some ⟨be k, 0, none⟩)] w (StepPost l f ((k : Int) + 1) d base B A c w) := by
  have hkf : k < f.length := by omega
  obtain ⟨g, rfl, hg1, hg2⟩ := own_headI hF.1 (by omega)
  have hp : (0 : Int) < (k : Int) + 1 := by omega
  have c0 : w.cell? ⟨g, k, none⟩ = some (.int .i64 (ix f k)) := by
    obtain ⟨ad, e, _, hc⟩ := hF.1.rd.get (cellsI_ix hkf)
    injection e with e
    subst e
    rw [add_pos] at hc
    simpa using hc
  have hfz : w.frozen? ⟨g, k, none⟩ = false := World.ownsRow.frozenAt hF.1 k
  have hgB : g < B := hF.2 g rfl
  have x1 := hX.f
  have x2 := (hX.i k hk).2
  have x3 := (hX.e k hk).2
  have n1 : ¬ g = af := by have := hX.f0; omega
  have n2 : ¬ g = bi k := by have := (hX.i k hk).1; omega
  have n3 : ¬ g = be k := by have := (hX.e k hk).1; omega
  have n1' : ¬ af = g := fun e => n1 e.symm
  have n2' : ¬ bi k = g := fun e => n2 e.symm
  have n3' : ¬ be k = g := fun e => n3 e.symm
  have hR : Hid (∀ w', w' = (w.setCell ⟨g, k, none⟩ (.int .i64 (ix f k + d))) ∨ w' = (w.setCell ⟨g, k, none⟩ (.int .i64 (ix f k + d))).drew → StepPost l f ((k : Int) + 1) d base B (some ⟨g, 0, none⟩) c w (.returned (.int .i64 (eC l k - (ix f k + d)))) w') := Lib.hid (fun w' hw => step_post hF hg1 hw (by unfold put1; rw [idx_f, if_pos hp]) (by unfold room; rw [if_pos hp, idx_f]; omega))
  have hi1 : (k : Int) < (f.length : Int) := by omega
  have hi0 : (0 : Int) ≤ (k : Int) := by omega
  generalize StepPost l f ((k : Int) + 1) d base B (some ⟨g, 0, none⟩) c w = Q at *
  clear hF hX
  generalize ix f k = y at *
  generalize eC l k = z at *
  generalize bi k = b1 at *
  generalize be k = b2 at *
  go_enter Try.func46, Try.ntmps46
  go_wp2
  go_region
  go_wp2
  exact hR.out _ (.inr rfl)
set_option maxRecDepth 100000 in
set_option maxHeartbeats 1000000 in
theorem against_any (l : List Ed) (f : List Int) (base B af c : Nat) (A : Option Addr) (bi be : Nat → Nat) (k : Nat) (d : Int) (w : World) (hk : k < l.length) (hl : f.length = l.length) (hF : OwnF w base B A c f) (hX : Bx w B l l.length af (.slice A f.length c) bi be)
    (hb : 0 ≤ ix f k ∧ ix f k ≤ eC l k) (hd : 0 ≤ d ∧ d ≤ ix f k) (hC : eC l k ≤ 1000000) :
    Calls Try.prog 47 #[.int .i64 d, .pointer (some ⟨af, 0, none⟩), .pointer (some ⟨bi k, 0, none⟩)] w (StepPost l f (-(k : Int) - 1) d base B A c w) := by
  have hkf : k < f.length := by omega
  obtain ⟨g, rfl, hg1, hg2⟩ := own_headI hF.1 (by omega)
  have hp : ¬ (0 : Int) < -(k : Int) - 1 := by omega
  have c0 : w.cell? ⟨g, k, none⟩ = some (.int .i64 (ix f k)) := by
    obtain ⟨ad, e, _, hc⟩ := hF.1.rd.get (cellsI_ix hkf)
    injection e with e
    subst e
    rw [add_pos] at hc
    simpa using hc
  have hfz : w.frozen? ⟨g, k, none⟩ = false := World.ownsRow.frozenAt hF.1 k
  have hgB : g < B := hF.2 g rfl
  have x1 := hX.f
  have x2 := (hX.i k hk).2
  have n1 : ¬ g = af := by have := hX.f0; omega
  have n2 : ¬ g = bi k := by have := (hX.i k hk).1; omega
  have n1' : ¬ af = g := fun e => n1 e.symm
  have n2' : ¬ bi k = g := fun e => n2 e.symm
  have hR : Hid (∀ w', w' = (w.setCell ⟨g, k, none⟩ (.int .i64 (ix f k - d))) ∨ w' = (w.setCell ⟨g, k, none⟩ (.int .i64 (ix f k - d))).drew → StepPost l f (-(k : Int) - 1) d base B (some ⟨g, 0, none⟩) c w (.returned (.int .i64 (ix f k - d))) w') := Lib.hid (fun w' hw => step_post hF hg1 hw (by unfold put1; rw [idx_b, if_neg hp]) (by unfold room; rw [if_neg hp, idx_b]))
  have hi1 : (k : Int) < (f.length : Int) := by omega
  have hi0 : (0 : Int) ≤ (k : Int) := by omega
  generalize StepPost l f (-(k : Int) - 1) d base B (some ⟨g, 0, none⟩) c w = Q at *
  clear hF hX
  generalize ix f k = y at *
  generalize eC l k = z at *
  generalize bi k = b1 at *
  go_enter Try.func47, Try.ntmps47
  go_wp2
  exact hR.out _ (.inl rfl)
theorem put1_zero {f : List Int} {x : Int} (h : idx x < f.length) : put1 f x 0 = f := by
  unfold put1
  have e : (if 0 < x then ix f (idx x) + 0 else ix f (idx x) - 0) = f[idx x] := by
    rw [ix_at h]
    split <;> omega
  rw [e]
  exact List.set_getElem_self ..
end Go.Proofs.Ytdemnbbofigcdaa
