/- sorted: the loop that keeps, and the sort behind it. -/
import Derived.Test.YtlkindlbllbmgaaSorted
namespace Go.Proofs.Ytlkindlbllbmgaa
open Go.RowKit Go.Sort

def kept (l : List Iv) (k : Nat) : List Iv := (l.take k).filter keepB
theorem kept_len (l : List Iv) (k : Nat) : (kept l k).length ≤ k := Nat.le_trans (List.length_filter_le _ _) (List.length_take_le _ _)
theorem kept_yes {l : List Iv} {k : Nat} (hk : k < l.length) (h : keepB (lx l k, ly l k) = true) : kept l (k + 1) = kept l k ++ [(lx l k, ly l k)] := by
  unfold kept
  rw [List.take_succ_eq_append_getElem hk, List.filter_append, ← lxy_at hk]
  simp [h]
theorem kept_no {l : List Iv} {k : Nat} (hk : k < l.length) (h : keepB (lx l k, ly l k) = false) : kept l (k + 1) = kept l k := by
  unfold kept
  rw [List.take_succ_eq_append_getElem hk, List.filter_append, ← lxy_at hk]
  simp [h]
theorem keep_mk {x y : Int} (hv : valB x y = true) (h : x < y) : keepB (x, y) = true := by
  have := valB_of hv
  exact decide_eq_true ⟨this.1, h, this.2.2⟩
theorem keep_val {x y : Int} (hv : valB x y = false) : keepB (x, y) = false := by
  have := valB_not hv
  exact decide_eq_false (fun h => by simp only at h; omega)
theorem keep_lt {x y : Int} (h : ¬ x < y) : keepB (x, y) = false := decide_eq_false (fun k => h k.2.1)

theorem new_cells2 {w : World} {x y : Value} {T : TypeId} {j : Nat} {u : Value} (h : [x, y][j]? = some u) : (w.alloc (.cells #[x, y] T)).cell? ((⟨w.heap.size, 0, none⟩ : Addr).add j) = some u := by
  rw [add_pos]
  match j, h with
  | 0, h => simpa [World.cell?_alloc_new] using h
  | 1, h => simpa [World.cell?_alloc_new] using h
  | n + 2, h => simp at h
theorem two_one {x y : Int} {u : Value} (h : u ∈ [Value.int .i64 x, Value.int .i64 y]) : u.oneCell' = true := by
  simp at h
  rcases h with rfl | rfl <;> rfl
theorem own_snoc {w : World} {base e n : Nat} {v : Value} {l : List Iv} {x y : Int} (h : w.ownsRow base e 2 v (n + 1) (cellsL l ++ [.int .i64 x, .int .i64 y])) : w.ownsRow base e 2 v (n + 1) (cellsL (l ++ [(x, y)])) := by
  rw [cellsL_append]; exact h
theorem below_append {W w w2 : World} {o : Obj} {base e size n : Nat} {v : Value} {xs : List Value} (h : Below W.heap.size W w) (hg : (w.alloc o).grownBy w2 v.ownBlock) (ho : w.ownsRow base e size v n xs) (hb : W.heap.size ≤ base) : Below W.heap.size W w2 :=
  (h.alloc h.size o).grown hg (Nat.le_trans h.size (by simp)) (fun k hk => Nat.le_trans hb (ho.lt k hk).1)

def SortedPost (W : World) (l : List Iv) (e : Ending) (w' : World) : Prop :=
  ∃ A cap s, e = .returned (.slice A s.length cap) ∧ Ivs w' w'.heap.size A s ∧ s.Perm (l.filter keepB) ∧ s.Pairwise (fun p q => p.1 ≤ q.1) ∧ Below W.heap.size W w'

set_option maxRecDepth 100000 in
set_option maxHeartbeats 2000000 in
theorem sorted_any (A : Option Addr) (l : List Iv) (cap : Nat) (w : World) (hp : Ivs w w.heap.size A l) (hmax : l.length ≤ 100000000) :
    Calls Try.prog 40 #[.slice A l.length cap] w (SortedPost w l) := by
  have hP := Lib.hid hp
  clear hp
  obtain ⟨i0, hi, hz0, hz1, hz2⟩ := info_parts info_iv
  have hI := Lib.hid (And.intro hi (And.intro hz0 (And.intro hz1 hz2)))
  clear hi hz0 hz1 hz2
  go_enter Try.func40, Try.ntmps40
  go_wp2
  go_loopw [3, 8] (fun v i wr => ∃ (k n : Nat), k ≤ l.length ∧ i = .int .i64 k ∧ wr.ownsRow w.heap.size 38 2 v n (cellsL (kept l k)) ∧ Below w.heap.size w wr) (fun _ i _ => l.length - (intOf i).toNat)
  case atStart => exact ⟨0, 0, by omega, rfl, World.ownsRow_nil _ _ _ _, Below.refl _ _⟩
  case round =>
    obtain ⟨k, n, hk, rfl, hown, hb⟩ := hrel
    have hOwn := Lib.hid hown
    have hnk : n ≤ l.length := by
      have := hown.1
      rw [cellsL_len] at this
      have := kept_len l k
      omega
    clear hown
    by_cases hlt : k < l.length
    · obtain ⟨ad, rfl, hc⟩ := hP.out.get hlt
      obtain ⟨hx0, hy0⟩ := hc wr hb
      have hb' := Lib.hid hb
      clear hb hc hP
      rcases hv : valB (lx l k) (ly l k) with _ | _
      · have hok' := Lib.hid (kept_no hlt (keep_val hv))
        go_wp2_with (go_at_call 41; refine (isValid_any _ _ _).mono ?_; rintro e w2 ⟨rfl, b⟩; (obtain ⟨z0, z1, z2⟩ := new_two b); (have zo := Lib.hid (own_below hOwn.out z2)); (have zb := Lib.hid (hb'.out.trans (z2.mono hb'.out.size))); clear b z2)
        exact ⟨⟨k + 1, n, hlt, by go_num, by rw [hok'.out]; exact zo.out, zb.out⟩, by simp [intOf]; omega⟩
      · by_cases hxy : lx l k < ly l k
        · have hok' := Lib.hid (kept_yes hlt (keep_mk hv hxy))
          go_wp2_with (first
            | (go_at_call 41; refine (isValid_any _ _ _).mono ?_; rintro e w2 ⟨rfl, b⟩; (obtain ⟨z0, z1, z2⟩ := new_two b); (have zo := Lib.hid (own_below hOwn.out z2)); (have zb := Lib.hid (hb'.out.trans (z2.mono hb'.out.size))); clear b z2)
            | (at_builtin; refine wpList_append_own _ rfl _ _ 30 rfl w.heap.size 38 i0 (.agg #[.int .i64 0, .int .i64 0]) 2 16 Try.underlying30 hI.out.1 hI.out.2.1 hI.out.2.2.1 hI.out.2.2.2 rfl (by decide) _ n _ rfl (zo.out.alloc _) ⟨w2.heap.size, 0, none⟩ 1 1 [.int .i64 (lx l k), .int .i64 (ly l k)] rfl rfl (fun j u hj => new_cells2 hj) (fun u hu => two_one hu) (by unfold maxLen; omega) (by omega) (by have := zb.out.size; simp; omega) ?_; intro v' w3 hown' hgrow _))
          have R1 := Lib.hid (own_snoc hown')
          have R2 := Lib.hid (below_append zb.out hgrow zo.out (Nat.le_refl _))
          clear hown' hgrow
          go_wp2
          exact ⟨⟨k + 1, n + 1, hlt, by go_num, by rw [hok'.out]; exact R1.out, R2.out⟩, by simp [intOf]; omega⟩
        · have hok' := Lib.hid (kept_no hlt (keep_lt hxy))
          have hdec : decide (lx l k < ly l k) = false := decide_eq_false hxy
          go_wp2_with (go_at_call 41; refine (isValid_any _ _ _).mono ?_; rintro e w2 ⟨rfl, b⟩; (obtain ⟨z0, z1, z2⟩ := new_two b); (have zo := Lib.hid (own_below hOwn.out z2)); (have zb := Lib.hid (hb'.out.trans (z2.mono hb'.out.size))); clear b z2)
          exact ⟨⟨k + 1, n, hlt, by go_num, by rw [hok'.out]; exact zo.out, zb.out⟩, by simp [intOf]; omega⟩
    · obtain rfl : k = l.length := by omega
      have hK : kept l l.length = l.filter keepB := by unfold kept; rw [List.take_length]
      rw [hK] at hOwn
      have hb' := Lib.hid hb
      clear hb hP
      rcases hOwn.out.2 with ⟨hv, h0⟩ | ⟨g, cap2, cur, hv, hbase, hg, _⟩
      · subst hv h0
        have hnil : l.filter keepB = [] := by
          have := hOwn.out.1
          rw [cellsL_len] at this
          exact List.length_eq_zero_iff.1 (by omega)
        have hfin := Lib.hid (show SortedPost w l (.returned (.slice none 0 0)) wr from ⟨none, 0, [], rfl, Ivs.none_, by rw [hnil], List.Pairwise.nil, hb'.out⟩)
        clear hnil hK hOwn
        go_wp2_with (go_at_call 46; refine (sortFunc_none _ _).mono ?_; rintro e w' ⟨rfl, rfl⟩)
        go_ret
        exact hfin.out
      · subst hv
        obtain ⟨hn, _⟩ := own_ivs hOwn.out
        subst hn
        have hH := holds_own hOwn.out
        have hgl : g < wr.heap.size := (Array.getElem?_eq_some_iff.1 hg).1
        have hS := sortFunc_any g cap2 (l.filter keepB).toArray wr hH hgl (by simp; omega)
        rw [List.size_toArray] at hS
        have hS := Lib.hid hS
        have hH := Lib.hid hH
        have hgl := Lib.hid hgl
        have hbase := Lib.hid hbase
        clear hOwn hg hK
        go_wp2_with (go_at_call 46; refine hS.out.mono ?_; rintro e w' ⟨rfl, d', nn, os, hp, hs, rfl⟩; (have hq := Lib.hid (perm_of (d := (l.filter keepB).toArray) hp)); (have hs := Lib.hid hs); clear hp)
        go_ret
        have e1 : d'.toList.length = (l.filter keepB).length := by rw [Array.length_toList]; exact hq.out.1
        exact ⟨some ⟨g, 0, none⟩, cap2, d'.toList, by rw [e1]; rfl, sorted_ivs hH.out hgl.out hq.out.1, hq.out.2, sorted_of (n := (l.filter keepB).length) (by rw [← e1, Array.length_toList]) hs.out, hb'.out.trans (sorted_below hbase.out hb'.out.size)⟩
end Go.Proofs.Ytlkindlbllbmgaa
