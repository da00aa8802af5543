/- The reference's put: an increasing list with a number that it may have already. -/
import Derived.Test.YtlaklfiodmnocaaApp
namespace Go.Proofs.Ytlaklfiodmnocaa
open Go.RowKit

theorem ins_split {n : Int} : ∀ {a : List Int} (b : List Int), (∀ x ∈ a, x < n) → ins n (a ++ b) = a ++ ins n b
  | [], _, _ => rfl
  | x :: a, b, h => by
    have h1 : x < n := h x (List.mem_cons_self ..)
    rw [List.cons_append, ins, if_pos h1, ins_split b (fun y hy => h y (List.mem_cons_of_mem _ hy)), List.cons_append]
/-- While a number is being put: what stands there. -/
def PutAt (n : Int) (l : List Int) (k : Nat) (o : List Int) (b : Bool) : Prop :=
  o.length ≤ k + 1 ∧ (b = false → o = l.take k ∧ ∀ x ∈ l.take k, x < n) ∧ (b = true → o ++ l.drop k = ins n l)
theorem putAt_zero (n : Int) (l : List Int) : PutAt n l 0 [] false := ⟨by simp, fun _ => ⟨rfl, by simp⟩, fun h => by cases h⟩
theorem drop_ix {l : List Int} {k : Nat} (h : k < l.length) : l.drop k = ix l k :: l.drop (k + 1) := by
  rw [List.drop_eq_getElem_cons h, ix_at h]
theorem take_ix {l : List Int} {k : Nat} (h : k < l.length) : l.take (k + 1) = l.take k ++ [ix l k] := by
  rw [List.take_succ_eq_append_getElem h, ix_at h]
theorem putAt_done {n : Int} {l o : List Int} {k : Nat} (h : PutAt n l k o true) (hk : k < l.length) : PutAt n l (k + 1) (o ++ [ix l k]) true := by
  refine ⟨by rw [List.length_append]; have := h.1; simp only [List.length_singleton]; omega, (fun h => by cases h), fun _ => ?_⟩
  rw [← h.2.2 rfl, drop_ix hk, List.append_assoc]
  rfl
theorem putAt_small {n : Int} {l o : List Int} {k : Nat} (h : PutAt n l k o false) (hk : k < l.length) (hx : ix l k < n) : PutAt n l (k + 1) (o ++ [ix l k]) false := by
  obtain ⟨h1, h2⟩ := h.2.1 rfl
  refine ⟨by rw [List.length_append]; have := h.1; simp only [List.length_singleton]; omega, fun _ => ⟨by rw [h1, take_ix hk], fun x hm => ?_⟩, fun h => by cases h⟩
  rcases (mem_take_succ hk).1 hm with h3 | h3
  · exact h2 x h3
  · omega
theorem putAt_eq {n : Int} {l o : List Int} {k : Nat} (h : PutAt n l k o false) (hk : k < l.length) (hx : ix l k = n) : PutAt n l (k + 1) (o ++ [ix l k]) true := by
  obtain ⟨h1, h2⟩ := h.2.1 rfl
  refine ⟨by rw [List.length_append]; have := h.1; simp only [List.length_singleton]; omega, (fun h => by cases h), fun _ => ?_⟩
  have e : ins n l = ins n (l.take k ++ l.drop k) := by rw [List.take_append_drop]
  rw [e, ins_split _ h2, drop_ix hk, ins, if_neg (by omega), if_pos hx, h1, List.append_assoc]
  rfl
theorem putAt_great {n : Int} {l o : List Int} {k : Nat} (h : PutAt n l k o false) (hk : k < l.length) (hx : n < ix l k) : PutAt n l (k + 1) (o ++ [n] ++ [ix l k]) true := by
  obtain ⟨h1, h2⟩ := h.2.1 rfl
  have hl : o.length ≤ k := by rw [h1, List.length_take]; omega
  refine ⟨by simp only [List.length_append, List.length_singleton]; omega, (fun h => by cases h), fun _ => ?_⟩
  have e : ins n l = ins n (l.take k ++ l.drop k) := by rw [List.take_append_drop]
  rw [e, ins_split _ h2, drop_ix hk, ins, if_neg (by omega), if_neg (by omega), h1, List.append_assoc, List.append_assoc]
  rfl
theorem putAt_end {n : Int} {l o : List Int} {k : Nat} (h : PutAt n l k o true) (hk : k = l.length) : o = ins n l := by
  rw [← h.2.2 rfl, hk, List.drop_length, List.append_nil]
theorem putAt_last {n : Int} {l o : List Int} {k : Nat} (h : PutAt n l k o false) (hk : k = l.length) : o ++ [n] = ins n l := by
  obtain ⟨h1, h2⟩ := h.2.1 rfl
  rw [hk, List.take_length] at h1 h2
  have := ins_split (n := n) (a := l) [] h2
  rw [List.append_nil] at this
  rw [this, h1]
  rfl
/-- A row of the call's own that is handed back. -/
def MadeI' (W : World) (l : List Int) (e : Ending) (w' : World) : Prop := ∃ A c, e = .returned (.slice A l.length c) ∧ OwnI w' W.heap.size A c l ∧ Below W.heap.size W w'

set_option maxRecDepth 100000 in
set_option maxHeartbeats 2000000 in
theorem put_any (A : Option Addr) (l : List Int) (c : Nat) (n : Int) (w : World) (hp : Rd w w.heap.size A c (cellsI l)) (hmax : l.length ≤ 10000000) :
    Calls Try.prog 36 #[.slice A l.length c, .int .i64 n] w (MadeI' w (ins n l)) := by
  have hP := Lib.hid hp
  clear hp
  go_enter Try.func36, Try.ntmps36
  go_wp2
  go_loopw [5, 6, 7] (fun v d i wr => ∃ (k : Nat) (A' : Option Addr) (c' : Nat) (o : List Int) (b : Bool), k ≤ l.length ∧ i = .int .i64 k ∧ d = .bool b ∧ v = .slice A' o.length c' ∧ Hid (OwnI wr w.heap.size A' c' o) ∧ Hid (Below w.heap.size w wr) ∧ Hid (PutAt n l k o b)) (fun _ _ i _ => l.length - (intOf i).toNat)
  case atStart => exact ⟨0, none, 0, [], false, by omega, rfl, rfl, rfl, Lib.hid (ownI_nil _ _), Lib.hid (Below.refl _ _), Lib.hid (putAt_zero n l)⟩
  case round =>
    obtain ⟨k, A', c', o, b, hk, rfl, rfl, rfl, hO, hB, hT⟩ := hrel
    have hol := hT.out.1
    by_cases hlt : k < l.length
    · obtain ⟨ad, rfl, hab, c0⟩ := hP.out.get (cellsI_ix hlt)
      have hC := Lib.hid (fun (wr2 : World) (h : Below w.heap.size w wr2) => (h.cell (p := ad.add k) (by rw [block_of_add]; exact hab)).trans c0)
      have c1 := hC.out wr hB.out
      clear c0
      cases b with
      | true =>
        have hN := Lib.hid (putAt_done hT.out hlt)
        generalize ix l k = x at c1 hN hC
        clear hT hP
        by_cases hk0 : k = 0
        all_goals
          first
            | (subst hk0; have c1 : wr.cell? ad = some (.int .i64 x) := c1)
            | skip
          go_wp2_with (at_builtin; refine wpList_app_int rfl (.tmp 34) (.tmp 39) rfl rfl rfl hO.out hB.out (Nat.le_refl _) (by omega) ?_; intro A3 c3 w3 h3 d3; (have H3 := Lib.hid h3); (have D3 := Lib.hid d3); clear h3 d3)
          first
            | exact ⟨⟨1, A3, c3, _, true, by omega, rfl, rfl, by simp, H3, D3, hN⟩, by simp [intOf]; omega⟩
            | exact ⟨⟨k + 1, A3, c3, _, true, by omega, by go_num, rfl, by simp, H3, D3, hN⟩, by simp [intOf]; omega⟩
      | false =>
        have hNs := Lib.hid (fun h => putAt_small hT.out hlt h)
        have hNe := Lib.hid (fun h => putAt_eq hT.out hlt h)
        have hNg := Lib.hid (fun h => putAt_great hT.out hlt h)
        generalize ix l k = x at c1 hNs hNe hNg hC
        clear hT hP
        by_cases hk0 : k = 0
        all_goals
          first
            | (subst hk0; have c1 : wr.cell? ad = some (.int .i64 x) := c1; have hC : Hid (∀ wr2 : World, Below w.heap.size w wr2 → wr2.cell? ad = some (.int .i64 x)) := hC)
            | skip
          by_cases hx : x < n
          · have hN := Lib.hid (hNs.out hx)
            have hge : ¬ n ≤ x := by omega
            clear hNs hNe hNg
            go_wp2_with (at_builtin; refine wpList_app_int rfl (.tmp 34) (.tmp 39) rfl rfl rfl hO.out hB.out (Nat.le_refl _) (by omega) ?_; intro A3 c3 w3 h3 d3; (have H3 := Lib.hid h3); (have D3 := Lib.hid d3); clear h3 d3)
            first
              | exact ⟨⟨1, A3, c3, _, false, by omega, rfl, rfl, by simp, H3, D3, hN⟩, by simp [intOf]; omega⟩
              | exact ⟨⟨k + 1, A3, c3, _, false, by omega, by go_num, rfl, by simp, H3, D3, hN⟩, by simp [intOf]; omega⟩
          · by_cases hxe : x = n
            · have hN := Lib.hid (hNe.out hxe)
              subst hxe
              clear hNs hNe hNg hx
              go_wp2_with (at_builtin; refine wpList_app_int rfl (.tmp 34) (.tmp 39) rfl rfl rfl hO.out hB.out (Nat.le_refl _) (by omega) ?_; intro A3 c3 w3 h3 d3; (have H3 := Lib.hid h3); (have D3 := Lib.hid d3); clear h3 d3)
              first
                | exact ⟨⟨1, A3, c3, _, true, by omega, rfl, rfl, by simp, H3, D3, hN⟩, by simp [intOf]; omega⟩
                | exact ⟨⟨k + 1, A3, c3, _, true, by omega, by go_num, rfl, by simp, H3, D3, hN⟩, by simp [intOf]; omega⟩
            · have hN := Lib.hid (hNg.out (by omega))
              have hng : n < x := by omega
              have hge : n ≤ x := by omega
              have hon : (o ++ [n]).length = o.length + 1 := by simp
              have hB0 := Lib.hid hB.out.size
              clear hNs hNe hNg
              go_wp2_with (first
                | (at_builtin; refine wpList_app_int rfl (.tmp 30) (.tmp 32) rfl rfl rfl hO.out hB.out (Nat.le_refl _) (by omega) ?_; intro A2 c2 w2 h2 d2; (have H2 := Lib.hid h2); (have D2 := Lib.hid d2); (have c1 := hC.out w2 D2.out); clear h2 d2)
                | (at_builtin; refine wpList_app_int (l := o ++ [n]) rfl (.tmp 34) (.tmp 39) rfl (by rw [hon]; rfl) rfl H2.out D2.out (Nat.le_refl _) (by omega) ?_; intro A3 c3 w3 h3 d3; (have H3 := Lib.hid h3); (have D3 := Lib.hid d3); clear h3 d3))
              first
                | exact ⟨⟨1, A3, c3, _, true, by omega, rfl, rfl, by simp, H3, D3, hN⟩, by simp [intOf]; omega⟩
                | exact ⟨⟨k + 1, A3, c3, _, true, by omega, by go_num, rfl, by simp, H3, D3, hN⟩, by simp [intOf]; omega⟩
    · obtain rfl : k = l.length := by omega
      cases b with
      | true =>
        obtain rfl := putAt_end hT.out rfl
        clear hT hP
        go_wp2
        go_ret
        exact ⟨A', c', rfl, hO.out, hB.out⟩
      | false =>
        have hE := Lib.hid (putAt_last hT.out rfl)
        clear hT hP
        go_wp2_with (at_builtin; refine wpList_app_int rfl (.tmp 43) (.tmp 45) rfl rfl rfl hO.out hB.out (Nat.le_refl _) (by omega) ?_; intro A3 c3 w3 h3 d3; (have H3 := Lib.hid h3); (have D3 := Lib.hid d3); clear h3 d3)
        go_ret
        rw [← hE.out]
        exact ⟨A3, c3, by simp, H3.out, D3.out⟩
end Go.Proofs.Ytlaklfiodmnocaa
