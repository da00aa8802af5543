/- PutText: the program's and the reference's. -/
import Derived.Test.YtlgjddmghmgmmaaDoorRefPut
namespace Go.Proofs.YtlgjddmghmgmmaaDoor
open Go.RowKit

theorem own_more {w : World} {base n m c : Nat} {A : Option Addr} {a b : List UInt8} (ha : n = a.length) (hb : m = b.length) (h : w.ownsRow base 5 1 (.slice A (n + m) c) (n + m) (cells8 a ++ cells8 b)) : w.ownsRow base 5 1 (.slice A (a ++ b).length c) (a ++ b).length (cells8 (a ++ b)) := by
  subst ha hb
  rw [List.length_append, cells8_append]
  exact h
theorem made_more {w w2 : World} {base n m c : Nat} {A : Option Addr} {a b g : List UInt8} (ha : n = a.length) (hb : m = b.length) (hg : a ++ b = g) (h : w2.ownsRow base 5 1 (.slice A (n + m) c) (n + m) (cells8 a ++ cells8 b)) (hB : Below base w w2) : Made w base g (.returned (.slice A (n + m) c)) w2 := by
  have h2 := own_more ha hb h
  subst ha hb hg
  exact ⟨A, c, by rw [List.length_append], h2, hB⟩

set_option maxRecDepth 100000 in
set_option maxHeartbeats 1000000 in
theorem putText_any (A : Option Addr) (l : List UInt8) (c : Nat) (s : ByteArray) (w : World) (hp : Rd w w.heap.size A c (cells8 l)) (hl : l.length ≤ 1000000) (hs : s.size ≤ 1000000) :
    Calls Tryd.prog 19 #[.slice A l.length c, .string s] w (Made w w.heap.size (l ++ putText s.data.toList)) := by
  obtain ⟨i0, hi, hz0, hz1, hz2⟩ := info_parts info_u8
  have hI := Lib.hid (And.intro hi (And.intro hz0 (And.intro hz1 hz2)))
  clear hi hz0 hz1 hz2
  have hsz : s.data.toList.length = s.size := by rw [Array.length_toList]; rfl
  have k1 := Lib.hid (copied_any A l c (9 + (s.size : Int)) w hp (by omega) (by omega) (by omega))
  have k2 := fun A1 c1 w1 h1 h2 => appendNumber_any w.heap.size A1 l c1 (s.size : Int) w1 h1 h2 (by omega) (by omega) (by omega)
  rw [show ((s.size : Int)).toNat = s.size from rfl] at k2
  have hg : l ++ put s.size ++ s.data.toList = l ++ putText s.data.toList := by rw [putText, hsz, List.append_assoc]
  have hgl : (l ++ put s.size).length ≤ l.length + 9 := by rw [List.length_append]; have := put_nine (n := s.size) (by omega); omega
  generalize l ++ putText s.data.toList = goal at hg ⊢
  generalize l ++ put s.size = g at k2 hg hgl
  have k3 := Lib.hid k2
  have hG := Lib.hid hg
  have hSz := Lib.hid hsz
  clear hp k2 hg hsz
  go_enter Tryd.func19, Tryd.ntmps19
  go_wp2_with (first
    | (go_at_call 34; refine k1.out.mono ?_; rintro e w1 ⟨A1, c1, rfl, h1, b1⟩; (have H1 := Lib.hid h1); (have B1 := Lib.hid b1); clear h1 b1)
    | (go_at_call 33; refine (k3.out A1 c1 w1 H1.out B1.out.size).mono ?_; rintro e w2 ⟨A2, c2, rfl, h2, b2⟩; (have H2 := Lib.hid h2); (have B2 := Lib.hid (B1.out.trans b2)); clear h2 b2)
    | (at_builtin; refine Lib.wpList_append_own_string _ rfl _ _ 22 9 rfl w.heap.size 5 i0 Tryd.underlying22 Tryd.underlying9 hI.out.1 hI.out.2.1 hI.out.2.2.1 hI.out.2.2.2 _ _ _ rfl H2.out s rfl (by unfold maxLen; omega) (by omega) B2.out.size ?_; intro v3 w3 h3 g3 _; (have H3 := Lib.hid h3); (have B3 := Lib.hid (below_grown B2.out H2.out g3 (Nat.le_refl _) B2.out.size)); clear h3 g3))
  obtain ⟨A3, c3, rfl, _⟩ := own_shape H3.out
  go_ret
  exact made_more rfl hSz.out.symm hG.out H3.out B3.out

set_option maxRecDepth 100000 in
set_option maxHeartbeats 1000000 in
theorem refPutText_any (A : Option Addr) (l : List UInt8) (c : Nat) (s : ByteArray) (w : World) (hp : Rd w w.heap.size A c (cells8 l)) (hl : l.length ≤ 1000000) (hs : s.size ≤ 1000000) :
    Calls Tryd.prog 20 #[.slice A l.length c, .string s] w (Made w w.heap.size (l ++ putText s.data.toList)) := by
  obtain ⟨i0, hi, hz0, hz1, hz2⟩ := info_parts info_u8
  have hI := Lib.hid (And.intro hi (And.intro hz0 (And.intro hz1 hz2)))
  clear hi hz0 hz1 hz2
  have hsz : s.data.toList.length = s.size := by rw [Array.length_toList]; rfl
  have k2 := refPut_any A l c (s.size : Int) w hp (by omega) (by omega) (by omega)
  rw [show ((s.size : Int)).toNat = s.size from rfl] at k2
  have hg : l ++ put s.size ++ s.data.toList = l ++ putText s.data.toList := by rw [putText, hsz, List.append_assoc]
  have hgl : (l ++ put s.size).length ≤ l.length + 9 := by rw [List.length_append]; have := put_nine (n := s.size) (by omega); omega
  generalize l ++ putText s.data.toList = goal at hg ⊢
  generalize l ++ put s.size = g at k2 hg hgl
  have k3 := Lib.hid k2
  have hG := Lib.hid hg
  have hSz := Lib.hid hsz
  clear hp k2 hg hsz
  go_enter Tryd.func20, Tryd.ntmps20
  go_wp2_with (first
    | (go_at_call 16; refine k3.out.mono ?_; rintro e w2 ⟨A2, c2, rfl, h2, b2⟩; (have H2 := Lib.hid h2); (have B2 := Lib.hid b2); clear h2 b2)
    | (at_builtin; refine Lib.wpList_append_own_string _ rfl _ _ 22 9 rfl w.heap.size 5 i0 Tryd.underlying22 Tryd.underlying9 hI.out.1 hI.out.2.1 hI.out.2.2.1 hI.out.2.2.2 _ _ _ rfl H2.out s rfl (by unfold maxLen; omega) (by omega) B2.out.size ?_; intro v3 w3 h3 g3 _; (have H3 := Lib.hid h3); (have B3 := Lib.hid (below_grown B2.out H2.out g3 (Nat.le_refl _) B2.out.size)); clear h3 g3))
  obtain ⟨A3, c3, rfl, _⟩ := own_shape H3.out
  go_ret
  exact made_more rfl hSz.out.symm hG.out H3.out B3.out
end Go.Proofs.YtlgjddmghmgmmaaDoor
