/- slices.Insert of one element. -/
import Derived.Test.YtlaklfiodmnocaaInsL
import Derived.Deep.RegionHeld3
import Derived.Deep.CutRange
import Derived.IntWalk
namespace Go.Proofs.Ytlaklfiodmnocaa
open Go.RowKit

theorem ins_infoT : (Try.prog.info? 69).map (fun i => (i.zero, i.size, i.bytes)) = some (some (.agg #[.int .i64 0, .int .i64 0, .int .i64 0, .int .i64 0]), 4, 32) := by kernel_rfl

set_option maxRecDepth 100000 in
set_option maxHeartbeats 2000000 in
/-- At the end. -/
theorem insert_endT (A : Option Addr) (n cap base gv : Nat) (xs v : List Value) (w : World) (ho : Ow w base 69 4 A n cap xs) (hv : w.heap[gv]? = some (.cells v.toArray 69 (0, 0))) (hvl : v.length = 4) (h1 : ∀ u ∈ v, u.oneCell' = true) (hn : n ≤ 1000000) (hb : base ≤ w.heap.size) :
    Calls Try.prog 71 #[.slice A n cap, .int .i64 (n : Int), .slice (some ⟨gv, 0, none⟩) 1 1] w (InsPost w base 69 4 A n (xs ++ v)) := by
  obtain ⟨i0, hi, hz0, hz1, hz2⟩ := info_parts ins_infoT
  have hF : Feed 4 w (.slice (some ⟨gv, 0, none⟩) 1 1) 1 v := ⟨by omega, .inr ⟨_, _, rfl, World.news_of_block hv⟩⟩
  have hc := ho.capp.1
  have hO := Lib.hid ho
  have H1 := Lib.hid h1
  have hFe := Lib.hid hF
  have hI := Lib.hid hi
  have hZ0 := Lib.hid hz0
  have hZ1 := Lib.hid hz1
  have hZ2 := Lib.hid hz2
  have hc2 := ho.capp.2
  have hcc : A = none ∨ ∃ ad, A = some ad := by cases A <;> simp
  clear ho h1 hF hi hz0 hz1 hz2 hv
  rcases hcc with rfl | ⟨ad, rfl⟩
  · have h0 := hc2 rfl
    subst h0
    obtain rfl : n = 0 := by omega
    clear hc2
    go_enter Try.func71, Try.ntmps71
    go_wp2_with (at_builtin; refine wpList_append_ow rfl (.tmp 23) (.tmp 24) 84 rfl base 69 i0 (.agg #[.int .i64 0, .int .i64 0, .int .i64 0, .int .i64 0]) 4 32 Try.underlying84 hI.out hZ0.out hZ1.out hZ2.out rfl none 0 0 xs rfl hO.out _ 1 v rfl hFe.out H1.out (by unfold maxLen; omega) (by omega) hb ?_; intro A' c' w' h2 h3 h4; (have H2 := Lib.hid h2); (have H3 := Lib.hid h3); (have H4 := Lib.hid h4); clear h2 h3 h4)
    go_ret
    exact ins_post rfl H2.out H3.out H4.out
  · clear hc2
    by_cases hcn : cap = n
    · subst hcn
      go_enter Try.func71, Try.ntmps71
      go_wp2_with (at_builtin; refine wpList_append_ow rfl (.tmp 23) (.tmp 24) 84 rfl base 69 i0 (.agg #[.int .i64 0, .int .i64 0, .int .i64 0, .int .i64 0]) 4 32 Try.underlying84 hI.out hZ0.out hZ1.out hZ2.out rfl _ _ _ xs rfl hO.out _ 1 v rfl hFe.out H1.out (by unfold maxLen; omega) (by omega) hb ?_; intro A' c' w' h2 h3 h4; (have H2 := Lib.hid h2); (have H3 := Lib.hid h3); (have H4 := Lib.hid h4); clear h2 h3 h4)
      go_ret
      exact ins_post rfl H2.out H3.out H4.out
    · go_enter Try.func71, Try.ntmps71
      go_wp2_with (at_builtin; refine wpList_append_ow rfl (.tmp 23) (.tmp 24) 84 rfl base 69 i0 (.agg #[.int .i64 0, .int .i64 0, .int .i64 0, .int .i64 0]) 4 32 Try.underlying84 hI.out hZ0.out hZ1.out hZ2.out rfl _ _ _ xs rfl hO.out _ 1 v rfl hFe.out H1.out (by unfold maxLen; omega) (by omega) hb ?_; intro A' c' w' h2 h3 h4; (have H2 := Lib.hid h2); (have H3 := Lib.hid h3); (have H4 := Lib.hid h4); clear h2 h3 h4)
      go_ret
      exact ins_post rfl H2.out H3.out H4.out

set_option maxRecDepth 100000 in
set_option maxHeartbeats 2000000 in
/-- Where there is no room. -/
theorem insert_growT (g off n base gv i : Nat) (xs v : List Value) (w : World) (ho : Ow w base 69 4 (some ⟨g, off, none⟩) n n xs) (hv : w.heap[gv]? = some (.cells v.toArray 69 (0, 0))) (hvl : v.length = 4) (h1 : ∀ u ∈ v, u.oneCell' = true) (h2 : ∀ u ∈ xs, u.oneCell' = true) (hn : n ≤ 1000000) (hb : base ≤ w.heap.size) (hi : i < n) :
    Calls Try.prog 71 #[.slice (some ⟨g, off, none⟩) n n, .int .i64 (i : Int), .slice (some ⟨gv, 0, none⟩) 1 1] w (InsPost w base 69 4 (some ⟨g, off, none⟩) n (xs.take (i * 4) ++ (v ++ xs.drop (i * 4)))) := by
  obtain ⟨i0, hin, hz0, hz1, hz2⟩ := info_parts ins_infoT
  have hxl := ho.1
  have holds : ∀ q u, (xs.take (i * 4))[q]? = some u → w.cell? ((⟨g, off, none⟩ : Addr).add q) = some u := fun q u hq => by
    rw [List.getElem?_take] at hq
    split at hq
    · exact ho.cells rfl q u hq
    · cases hq
  have hlo : (xs.take (i * 4)).length = i * i0.size := by rw [hz1, List.length_take, Nat.min_eq_left]; have : i * 4 ≤ n * 4 := Nat.mul_le_mul_right _ (by omega); omega
  obtain ⟨N, hN⟩ : ∃ N, N = n + 1 := ⟨_, rfl⟩
  obtain ⟨l, hl⟩ : ∃ l, l = n + 1 - i := ⟨_, rfl⟩
  obtain ⟨j, hj⟩ : ∃ j, j = i + 1 := ⟨_, rfl⟩
  have e1 : (n : Int) + 1 = (N : Int) := by omega
  have e2 : (N : Int) - (i : Int) = (l : Int) := by omega
  have e3 : (i : Int) + 1 = (j : Int) := by omega
  have hgt : ¬ (N : Int) ≤ (n : Int) := by omega
  have hgt2 : (n : Int) < (N : Int) := by omega
  have hne : ((i : Int) == (n : Int)) = false := beq_eq_false_iff_ne.2 (by omega)
  have hni : ¬ n = i := by omega
  have hil : (i : Int) ≤ (n : Int) := by omega
  have hiN : (i : Int) ≤ (N : Int) := by omega
  have hjN : (j : Int) ≤ (N : Int) := by omega
  have hO := Lib.hid ho
  have H1 := Lib.hid h1
  have hIn := Lib.hid hin
  have hZ0 := Lib.hid hz0
  have hZ1 := Lib.hid hz1
  have hZ2 := Lib.hid hz2
  have hwj : IntKind.i64.wrap (j : Int) = (j : Int) := IntWalk.i64_in _ (by omega)
  have hj0 : (0 : Int) ≤ (j : Int) := by omega
  have hGl : Hid (g < w.heap.size) := Lib.hid (ho.lt g rfl).2
  have hOd : Hid (∀ W : World, W.heap[g]? = w.heap[g]? → ∀ q u, (xs.drop (i * 4))[q]? = some u → W.cell? ((⟨g, off + (i * 4), none⟩ : Addr).add q) = some u) := Lib.hid (fun W hW q u hq => by
    rw [List.getElem?_drop] at hq
    have := ho.cells rfl _ u hq
    rw [add_at] at this ⊢
    rw [World.cell?_of_block (w := w) (w' := W) hW]
    have e0 : off + (i * 4 + q) = off + (i * 4) + q := by omega
    rw [← e0]
    exact this)
  have hVlt := Lib.hid (Array.getElem?_eq_some_iff.1 hv).1
  have hOl := Lib.hid holds
  have hLo := Lib.hid hlo
  have hV := Lib.hid hv
  have hNn := Lib.hid hN
  have hLn := Lib.hid hl
  have hJn := Lib.hid hj
  have hVl := Lib.hid hvl
  have hXl := Lib.hid hxl
  have H2 := Lib.hid h2
  clear ho h1 hin hz0 hz1 hz2 hv holds hlo hN hl hj hvl hxl h2
  go_enter Try.func71, Try.ntmps71
  go_wp2_with (first
    | (at_builtin; refine wpList_append_make _ rfl (.tmp 34) (.tmp 39) 84 3 69 rfl i0 (.agg #[.int .i64 0, .int .i64 0, .int .i64 0, .int .i64 0]) Try.underlying84 Try.underlying3 hIn.out hZ0.out ⟨g, off, none⟩ i n _ rfl hLo.out hOl.out (by rw [hZ1.out]; decide) l N (by have := hNn.out; have := hLn.out; omega) rfl (by have := hLn.out; omega) (by have := hNn.out; omega) (by have := hNn.out; omega) (by rw [hZ2.out]; have := hNn.out; omega) (by rw [hZ1.out]; rfl) ?_; intro c3 w3 h3 h4 h5 h6 h7; (obtain ⟨zs, rest, hz1, hz2, hz3⟩ := h5); (have H3 := Lib.hid h3); (have H4 := Lib.hid h4); (have hcj : ¬ c3 = j := by have := hNn.out; have := hJn.out; omega); (have hNc : (N : Int) ≤ (c3 : Int) := by omega); (have H5 := Lib.hid hz3); (have H6 := Lib.hid h6); (have H7 := Lib.hid h7); (have HZ := Lib.hid hz1); (have HR := Lib.hid hz2); clear h6 h7 hz1 hz2 hz3)
    | ((with_reducible refine wpList_copy_cells _ rfl (.tmp 43) (.tmp 44) 84 84 rfl 69 i0 Try.underlying84 hIn.out w.heap.size (i * 4) _ _ _ 69 ⟨gv, 0, none⟩ 1 1 1 rfl rfl H5.out ?_ v ?_ ?_ ?_ H1.out ?_); (have := hNn.out; show Nat.min 1 (N - i) = 1; exact Nat.min_eq_left (by omega)); (rw [hZ1.out, hVl.out]); (exact World.news_of_block ((H6.out.block gv hVlt.out (fun e => by cases e)).trans hV.out)); (have := hLo.out; have := HZ.out; have := hVl.out; have := hLn.out; rw [hZ1.out] at *; rw [List.length_append, List.length_append, hVl.out]; omega); intro w4 h8 h9 h10; (have H8 := Lib.hid h8); (have H9 := Lib.hid h9); (have H10 := Lib.hid h10); clear h8 h9 h10))
  go_region_held3 (fun _ => True) (trivial)
    ((refine step_copy_cells _ (by rfl) _ _ 84 84 (by rfl) 69 i0 Try.underlying84 hIn.out w.heap.size ((j * 4)) _ _ _ 69 ⟨g, off + (i * 4), none⟩ _ _ (n - i) (by rfl) (by rfl) H8.out (by have := hNn.out; have := hJn.out; exact Nat.min_eq_left (by omega)) (xs.drop (i * 4)) (by have := hXl.out; rw [hZ1.out, List.length_drop, hXl.out, Nat.sub_mul]) (hOd.out _ ((H9.out.block g (by rw [H7.out]; have := hGl.out; omega) (fun e => by injection e with e; have := hGl.out; omega)).trans (H6.out.block g hGl.out (fun e => by cases e)))) (by rw [length_splice _ _ _ (by have := hLo.out; have := HZ.out; have := hVl.out; have := hLn.out; rw [hZ1.out] at *; rw [List.length_append, List.length_append, hVl.out]; omega)]; have := hLo.out; have := HZ.out; have := hXl.out; have := hLn.out; have := hJn.out; rw [hZ1.out] at *; rw [List.length_append, List.length_append, List.length_drop]; omega) (fun u hu => H2.out u (List.mem_of_mem_drop hu)) ?_; intro w5 h11 h12 h13; (have H11 := Lib.hid h11); (have H12 := Lib.hid h12); (have H13 := Lib.hid h13); clear h11 h12 h13))
  go_wp2
  go_ret
  have hNe := hNn.out
  have hle := hLn.out
  have hje := hJn.out
  subst hNe hle hje
  refine ⟨_, c3, rfl, grow_ow hXl.out hVl.out (by have := HZ.out; rwa [hZ1.out] at this) (by have := HR.out; rwa [hZ1.out] at this) hi H3.out H4.out hb ?_, ?_, .inr ⟨_, rfl, Nat.le_refl _⟩⟩
  · have := H11.out
    simpa using this
  · exact grown_then (grown_drew (grown_then (grown_any H6.out) H9.out (Nat.le_refl _))) H12.out (Nat.le_refl _)

set_option maxRecDepth 100000 in
set_option maxHeartbeats 2000000 in
/-- Where there is room. -/
theorem insert_roomT (g off n cap base gv i : Nat) (xs v pre post : List Value) (w : World) (hxl : xs.length = n * 4) (hgb : base ≤ g) (hg : w.heap[g]? = some (.cells (pre ++ (xs ++ post)).toArray 69 (0, 0))) (hpl : pre.length = off) (hcm : cap ≤ maxLen) (hpo : (cap - n) * 4 ≤ post.length)
    (hv : w.heap[gv]? = some (.cells v.toArray 69 (0, 0))) (hvl : v.length = 4) (h1 : ∀ u ∈ v, u.oneCell' = true) (h2 : ∀ u ∈ xs, u.oneCell' = true) (hn : n ≤ 1000000) (hi : i < n) (hc : n + 1 ≤ cap) (hgv : gv ≠ g) :
    Calls Try.prog 71 #[.slice (some ⟨g, off, none⟩) n cap, .int .i64 (i : Int), .slice (some ⟨gv, 0, none⟩) 1 1] w (InsPost w base 69 4 (some ⟨g, off, none⟩) n (xs.take (i * 4) ++ (v ++ xs.drop (i * 4)))) := by
  obtain ⟨i0, hin, hz0, hz1, hz2⟩ := info_parts ins_infoT
  have ho : Ow w base 69 4 (some ⟨g, off, none⟩) n cap xs := ⟨hxl, .inr ⟨g, off, pre, post, rfl, hgb, hg, hpl, by omega, hcm, hpo⟩⟩
  obtain ⟨N, hN⟩ : ∃ N, N = n + 1 := ⟨_, rfl⟩
  obtain ⟨j, hj⟩ : ∃ j, j = i + 1 := ⟨_, rfl⟩
  have e1 : (n : Int) + 1 = (N : Int) := by omega
  have e3 : (i : Int) + 1 = (j : Int) := by omega
  have hgt : ¬ (cap : Int) < (N : Int) := by omega
  have hne : ((i : Int) == (n : Int)) = false := beq_eq_false_iff_ne.2 (by omega)
  have hni : ¬ cap = i := by omega
  have hcj : ¬ cap = j := by omega
  have hil : (i : Int) ≤ (n : Int) := by omega
  have hnc : (n : Int) ≤ (cap : Int) := by omega
  have hiN : (i : Int) ≤ (N : Int) := by omega
  have hjN : (j : Int) ≤ (N : Int) := by omega
  have hNc : (N : Int) ≤ (cap : Int) := by omega
  have hwj : IntKind.i64.wrap (j : Int) = (j : Int) := IntWalk.i64_in _ (by omega)
  have hj0 : (0 : Int) ≤ (j : Int) := by omega
  have hN0 : (0 : Int) ≤ (N : Int) := by omega
  have hm : N - j = n - i := by omega
  have hov : (callFunc 85 #[.slice (some ⟨gv, 0, none⟩) 1 1, .slice (some ⟨g, off + (j * 4), none⟩) (N - j) (cap - j)]).run Try.prog w = .ok (.value (.bool false)) w := by
    rw [run_callFunc_extern Try.func85 (by kernel_rfl) (by kernel_rfl) (by kernel_rfl) (e := Extern.SlicesOverlaps.overlaps #[84, 84] #[4]) (by rfl), run_overlaps Try.underlying84 hin hgv hv hg]
    rfl
  have hOd : Hid (∀ W : World, W.heap[g]? = w.heap[g]? → ∀ q u, (xs.drop (i * 4))[q]? = some u → W.cell? ((⟨g, off + (i * 4), none⟩ : Addr).add q) = some u) := Lib.hid (fun W hW q u hq => by
    rw [List.getElem?_drop] at hq
    have := ho.cells rfl _ u hq
    rw [add_at] at this ⊢
    rw [World.cell?_of_block (w := w) (w' := W) hW]
    have e0 : off + (i * 4 + q) = off + (i * 4) + q := by omega
    rw [← e0]
    exact this)
  have hVlt := Lib.hid (Array.getElem?_eq_some_iff.1 hv).1
  have hGl := Lib.hid (Array.getElem?_eq_some_iff.1 hg).1
  have H1 := Lib.hid h1
  have H2 := Lib.hid h2
  have hIn := Lib.hid hin
  have hZ1 := Lib.hid hz1
  have hV := Lib.hid hv
  have hG := Lib.hid hg
  have hNn := Lib.hid hN
  have hJn := Lib.hid hj
  have hM := Lib.hid hm
  have hVl := Lib.hid hvl
  have hXl := Lib.hid hxl
  have hPl := Lib.hid hpl
  have hPo := Lib.hid hpo
  have hGv := Lib.hid hgv
  clear ho h1 h2 hin hz0 hz1 hz2 hv hg hN hj hm hvl hxl hpl hpo hgv
  go_enter Try.func71, Try.ntmps71
  go_wp2
  clear hov
  have hcurl : Hid ((pre ++ (xs ++ post)).length = off + (n * 4 + post.length)) := Lib.hid (by have := hPl.out; have := hXl.out; rw [List.length_append, List.length_append]; omega)
  have hdl : Hid ((xs.drop (i * 4)).length = n * 4 - i * 4) := Lib.hid (by rw [List.length_drop, hXl.out])
  have hsp : Hid ((pre ++ (xs ++ post)).length = (splice (pre ++ (xs ++ post)) (off + (j * 4)) (xs.drop (i * 4))).length) := Lib.hid (by rw [length_splice _ _ _ (by rw [hcurl.out, hdl.out]; have := hPo.out; have := hJn.out; omega)])
  go_region_held3 (fun _ => True) (trivial)
    ((refine step_copy_cells _ (by rfl) _ _ 84 84 (by rfl) 69 i0 Try.underlying84 hIn.out g (off + (j * 4)) _ _ _ 69 ⟨g, off + (i * 4), none⟩ _ _ (n - i) (by rfl) (by rfl) hG.out (by have := hNn.out; have := hJn.out; exact (Nat.min_eq_right (by omega)).trans hM.out) (xs.drop (i * 4)) (by rw [hZ1.out, hdl.out, Nat.sub_mul]) (hOd.out _ rfl) (by rw [hcurl.out, hdl.out]; have := hPo.out; have := hJn.out; omega) (fun u hu => H2.out u (List.mem_of_mem_drop hu)) ?_; intro w5 h11 h12 h13; (have H11 := Lib.hid h11); (have H12 := Lib.hid h12); (have H13 := Lib.hid h13); clear h11 h12 h13))
  go_wp2_with ((with_reducible refine wpList_copy_cells _ rfl (.tmp 80) (.tmp 81) 84 84 rfl 69 i0 Try.underlying84 hIn.out g (off + (i * 4)) _ _ _ 69 ⟨gv, 0, none⟩ 1 1 1 rfl rfl H11.out ?_ v ?_ ?_ ?_ H1.out ?_); (have := hNn.out; show Nat.min 1 (N - i) = 1; exact Nat.min_eq_left (by omega)); (rw [hZ1.out, hVl.out]); (exact World.news_of_block ((H12.out.block gv hVlt.out (fun e => by injection e with e; exact hGv.out e)).trans hV.out)); (rw [← hsp.out, hcurl.out, hVl.out]; omega); intro w6 h8 h9 h10; (have H8 := Lib.hid h8); (have H9 := Lib.hid h9); (have H10 := Lib.hid h10); clear h8 h9 h10)
  go_ret
  have hNe := hNn.out
  have hje := hJn.out
  subst hNe hje
  refine ⟨_, cap, rfl, room_ow hXl.out hVl.out hPl.out hPo.out hi hc hcm hgb ?_, ?_, .inl rfl⟩
  · have := H8.out
    simpa using this
  · exact grown_two (grown_two (a := w.drew) ⟨rfl, rfl, rfl, Nat.le_refl _, fun _ _ _ => rfl⟩ H12.out) H9.out

/-- An element is put at index i. -/
theorem insert_anyT (A : Option Addr) (n cap base gv i : Nat) (xs v : List Value) (w : World) (ho : Ow w base 69 4 A n cap xs) (hv : w.heap[gv]? = some (.cells v.toArray 69 (0, 0))) (hvl : v.length = 4) (h1 : ∀ u ∈ v, u.oneCell' = true) (h2 : ∀ u ∈ xs, u.oneCell' = true)
    (hn : n ≤ 1000000) (hb : base ≤ w.heap.size) (hi : i ≤ n) (hgv : blk A ≠ some gv) :
    Calls Try.prog 71 #[.slice A n cap, .int .i64 (i : Int), .slice (some ⟨gv, 0, none⟩) 1 1] w (InsPost w base 69 4 A n (xs.take (i * 4) ++ (v ++ xs.drop (i * 4)))) := by
  have hxl := ho.1
  by_cases hin : i = n
  · subst hin
    have e1 : xs.take (i * 4) = xs := List.take_of_length_le (by omega)
    have e2 : xs.drop (i * 4) = [] := List.drop_eq_nil_of_le (by omega)
    rw [e1, e2, List.append_nil]
    exact insert_endT A i cap base gv xs v w ho hv hvl h1 hn hb
  · rcases ho.2 with ⟨_, h0, _⟩ | ⟨g, off, pre, post, rfl, hgb, hg, hpl, hnc, hcm, hpo⟩
    · omega
    · by_cases hc : n + 1 ≤ cap
      · exact insert_roomT g off n cap base gv i xs v pre post w hxl hgb hg hpl hcm hpo hv hvl h1 h2 hn (by omega) hc (fun e => hgv (by rw [e]; rfl))
      · obtain rfl : cap = n := by omega
        exact insert_growT g off cap base gv i xs v w ho hv hvl h1 h2 hn hb (by omega)
end Go.Proofs.Ytlaklfiodmnocaa
