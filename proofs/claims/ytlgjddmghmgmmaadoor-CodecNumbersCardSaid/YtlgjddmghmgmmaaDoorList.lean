/- PutList: the program's and the reference's. -/
import Derived.Test.YtlgjddmghmgmmaaDoorRefPut
import Derived.Test.YtlgjddmghmgmmaaDoorSame
namespace Go.Proofs.YtlgjddmghmgmmaaDoor
open Go.RowKit

/-- Ints of Go. -/
def ints (l : List Int) : Prop := ∀ n ∈ l, -9223372036854775808 ≤ n ∧ n ≤ 9223372036854775807
theorem ints_ix {l : List Int} (h : ints l) {k : Nat} (hk : k < l.length) : -9223372036854775808 ≤ ixI l k ∧ ixI l k ≤ 9223372036854775807 := by
  rw [ixI_at hk]
  exact h _ (List.getElem_mem hk)
theorem putL_take {l : List Int} {k : Nat} (hk : k < l.length) : putL (l.take (k + 1)) = putL (l.take k) ++ put (ixI l k).toNat := by
  rw [List.take_succ_eq_append_getElem hk, putL_append, ixI_at hk, putL, putL, List.append_nil, putI]
theorem putL_take_len {l : List Int} (h : ints l) (k : Nat) : (putL (l.take k)).length ≤ 9 * l.length := by
  have h1 := putL_len (l.take k) (fun n hn => (h n (List.mem_of_mem_take hn)).2)
  have h2 : (l.take k).length ≤ l.length := by rw [List.length_take]; omega
  omega
/-- While a list is being put. -/
def List1 (w : World) (base : Nat) (start : List UInt8) (l : List Int) (k : Nat) (b : Value) (wr : World) : Prop :=
  ∃ (A : Option Addr) (c : Nat) (g : List UInt8), b = .slice A g.length c ∧ start ++ putL (l.take k) = g ∧ wr.ownsRow base 5 1 (.slice A g.length c) g.length (cells8 g) ∧ Below base w wr
theorem List1.next {w wr : World} {base : Nat} {start g : List UInt8} {l : List Int} {k : Nat} {e : Ending} {w2 : World} (hk : k < l.length) (hg : start ++ putL (l.take k) = g) (hb : Below base w wr) (h : Made wr base (g ++ put (ixI l k).toNat) e w2) : ∃ v, e = .returned v ∧ List1 w base start l (k + 1) v w2 := by
  obtain ⟨A, c, rfl, h1, h2⟩ := h
  exact ⟨_, rfl, A, c, _, rfl, by rw [putL_take hk, ← List.append_assoc, hg], h1, hb.trans h2⟩

set_option maxRecDepth 100000 in
set_option maxHeartbeats 2000000 in
theorem putList_any (A B : Option Addr) (b : List UInt8) (l : List Int) (c d : Nat) (w : World) (hp : Rd w w.heap.size A c (cells8 b)) (hq : Rd w w.heap.size B d (cellsI l)) (hb : b.length ≤ 1000000) (hl : l.length ≤ 10000) (hi : ints l) :
    Calls Tryd.prog 23 #[.slice A b.length c, .slice B l.length d] w (Made w w.heap.size (b ++ putList l)) := by
  have k1 := Lib.hid (copied_any A b c (9 + (l.length : Int)) w hp (by omega) (by omega) (by omega))
  have k2 := fun A1 c1 w1 h1 h2 => appendNumber_any w.heap.size A1 b c1 (l.length : Int) w1 h1 h2 (by omega) (by omega) (by omega)
  rw [show ((l.length : Int)).toNat = l.length from rfl] at k2
  have hg : b ++ put l.length ++ putL l = b ++ putList l := by rw [putList, List.append_assoc]
  have hgl : (b ++ put l.length).length ≤ b.length + 9 := by rw [List.length_append]; have := put_nine (n := l.length) (by omega); omega
  generalize b ++ putList l = goal at hg ⊢
  generalize b ++ put l.length = start at k2 hg hgl
  have k3 := Lib.hid k2
  have hG := Lib.hid hg
  have hQ := Lib.hid hq
  have hIn := Lib.hid hi
  clear hp k2 hg hq hi
  go_enter Tryd.func23, Tryd.ntmps23
  go_wp2_with (first
    | (go_at_call 34; refine k1.out.mono ?_; rintro e w1 ⟨A1, c1, rfl, h1, b1⟩; (have H1 := Lib.hid h1); (have B1 := Lib.hid b1); clear h1 b1)
    | (go_at_call 33; refine (k3.out A1 c1 w1 H1.out B1.out.size).mono ?_; rintro e w2 ⟨A2, c2, rfl, h2, b2⟩; (have H2 := Lib.hid h2); (have B2 := Lib.hid (B1.out.trans b2)); clear h2 b2))
  go_loopw [5, 18] (fun v i wr => ∃ k : Nat, k ≤ l.length ∧ i = .int .i64 k ∧ List1 w w.heap.size start l k v wr) (fun _ i _ => l.length - (intOf i).toNat)
  case atStart => exact ⟨0, by omega, rfl, A2, c2, start, rfl, by simp [putL], H2.out, B2.out⟩
  case round =>
    clear H1 B1 H2 B2 k1 k3
    obtain ⟨k, hk, rfl, A', c', g, rfl, hg, hown, hbl⟩ := hrel
    have hgl2 : g.length ≤ start.length + 9 * l.length := by rw [← hg, List.length_append]; have := putL_take_len hIn.out k; omega
    have hOwn := Lib.hid hown
    have hBl := Lib.hid hbl
    by_cases hlt : k < l.length
    · obtain ⟨ad, rfl, _, c1⟩ := (hQ.out.below hbl).get (cellsI_ix hlt)
      have hx := ints_ix hIn.out hlt
      have hN := Lib.hid (fun (e : Ending) (w2 : World) (h : Made wr w.heap.size (g ++ put (ixI l k).toNat) e w2) => List1.next hlt hg hbl h)
      generalize ixI l k = x at c1 hx hN
      have kA := Lib.hid (appendNumber_any w.heap.size A' g c' x wr hown hbl.size (by omega) hx.1 hx.2)
      clear hg hown hbl hx hQ
      by_cases hk0 : k = 0
      · subst hk0
        have c1 : wr.cell? ad = some (.int .i64 x) := c1
        go_wp2_with (go_at_call 33; refine kA.out.mono ?_; intro e w3 hm; (obtain ⟨v3, rfl, hm3⟩ := hN.out e w3 hm); (have M3 := Lib.hid hm3); clear hm hm3)
        exact ⟨⟨1, by omega, rfl, M3.out⟩, by simp [intOf]; omega⟩
      · go_wp2_with (go_at_call 33; refine kA.out.mono ?_; intro e w3 hm; (obtain ⟨v3, rfl, hm3⟩ := hN.out e w3 hm); (have M3 := Lib.hid hm3); clear hm hm3)
        exact ⟨⟨k + 1, by omega, by go_num, M3.out⟩, by simp [intOf]; omega⟩
    · obtain rfl : k = l.length := by omega
      rw [List.take_length] at hg
      obtain rfl : g = goal := hg.symm.trans hG.out
      clear hg hown hbl hQ hG
      go_wp2
      go_ret
      exact ⟨A', c', rfl, hOwn.out, hBl.out⟩

set_option maxRecDepth 100000 in
set_option maxHeartbeats 2000000 in
theorem refPutList_any (A B : Option Addr) (b : List UInt8) (l : List Int) (c d : Nat) (w : World) (hp : Rd w w.heap.size A c (cells8 b)) (hq : Rd w w.heap.size B d (cellsI l)) (hb : b.length ≤ 1000000) (hl : l.length ≤ 10000) (hi : ints l) :
    Calls Tryd.prog 24 #[.slice A b.length c, .slice B l.length d] w (Made w w.heap.size (b ++ putList l)) := by
  have k2 := refPut_any A b c (l.length : Int) w hp (by omega) (by omega) (by omega)
  rw [show ((l.length : Int)).toNat = l.length from rfl] at k2
  have hg : b ++ put l.length ++ putL l = b ++ putList l := by rw [putList, List.append_assoc]
  have hgl : (b ++ put l.length).length ≤ b.length + 9 := by rw [List.length_append]; have := put_nine (n := l.length) (by omega); omega
  generalize b ++ putList l = goal at hg ⊢
  generalize b ++ put l.length = start at k2 hg hgl
  have k3 := Lib.hid k2
  have hG := Lib.hid hg
  have hQ := Lib.hid hq
  have hIn := Lib.hid hi
  clear hp k2 hg hq hi
  go_enter Tryd.func24, Tryd.ntmps24
  go_wp2_with (go_at_call 16; refine k3.out.mono ?_; rintro e w2 ⟨A2, c2, rfl, h2, b2⟩; (have H2 := Lib.hid h2); (have B2 := Lib.hid b2); clear h2 b2)
  go_loopw [5, 6] (fun v i wr => ∃ k : Nat, k ≤ l.length ∧ i = .int .i64 k ∧ List1 w w.heap.size start l k v wr) (fun _ i _ => l.length - (intOf i).toNat)
  case atStart => exact ⟨0, by omega, rfl, A2, c2, start, rfl, by simp [putL], H2.out, B2.out⟩
  case round =>
    clear H2 B2 k3
    obtain ⟨k, hk, rfl, A', c', g, rfl, hg, hown, hbl⟩ := hrel
    have hgl2 : g.length ≤ start.length + 9 * l.length := by rw [← hg, List.length_append]; have := putL_take_len hIn.out k; omega
    have hOwn := Lib.hid hown
    have hBl := Lib.hid hbl
    by_cases hlt : k < l.length
    · obtain ⟨ad, rfl, _, c1⟩ := (hQ.out.below hbl).get (cellsI_ix hlt)
      have hx := ints_ix hIn.out hlt
      have hN := Lib.hid (fun (e : Ending) (w2 : World) (h : Made wr w.heap.size (g ++ put (ixI l k).toNat) e w2) => List1.next hlt hg hbl h)
      generalize ixI l k = x at c1 hx hN
      have kA := Lib.hid (refPut_any A' g c' x wr (Rd.of_own hown) (by omega) hx.1 hx.2)
      have hSz := Lib.hid hbl.size
      clear hg hown hbl hx hQ
      by_cases hk0 : k = 0
      · subst hk0
        have c1 : wr.cell? ad = some (.int .i64 x) := c1
        go_wp2_with (go_at_call 16; refine kA.out.mono ?_; intro e w3 hm; (obtain ⟨v3, rfl, hm3⟩ := hN.out e w3 (hm.after (Below.refl _ _) hSz.out)); (have M3 := Lib.hid hm3); clear hm hm3)
        exact ⟨⟨1, by omega, rfl, M3.out⟩, by simp [intOf]; omega⟩
      · go_wp2_with (go_at_call 16; refine kA.out.mono ?_; intro e w3 hm; (obtain ⟨v3, rfl, hm3⟩ := hN.out e w3 (hm.after (Below.refl _ _) hSz.out)); (have M3 := Lib.hid hm3); clear hm hm3)
        exact ⟨⟨k + 1, by omega, by go_num, M3.out⟩, by simp [intOf]; omega⟩
    · obtain rfl : k = l.length := by omega
      rw [List.take_length] at hg
      obtain rfl : g = goal := hg.symm.trans hG.out
      clear hg hown hbl hQ hG
      go_wp2
      go_ret
      exact ⟨A', c', rfl, hOwn.out, hBl.out⟩
end Go.Proofs.YtlgjddmghmgmmaaDoor
