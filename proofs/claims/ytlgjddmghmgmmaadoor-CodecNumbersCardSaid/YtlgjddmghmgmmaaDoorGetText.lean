/- getBytes, GetText: the program's and the reference's. -/
import Derived.Test.YtlgjddmghmgmmaaDoorRefGet
namespace Go.Proofs.YtlgjddmghmgmmaaDoor
open Go.RowKit

/-- Get's contract with its numbers as letters. -/
theorem get_at {A : Option Addr} {l : List UInt8} {c : Nat} {w : World} (n : Nat) (hn : n = l.length) (hp : Rd w w.heap.size A c (cells8 l)) (hmax : c ≤ 9223372036854775807) :
    Calls Tryd.prog 12 #[.slice A n c] w fun e w' => e = .returned (.tuple #[.int .i64 (gN l : Nat), .int .i64 (gK l : Nat), .int .i64 (gE l : Nat)]) ∧ w = w' := by
  subst hn
  exact get_any A l c w hp hmax
theorem refGet_at {A : Option Addr} {l : List UInt8} {c : Nat} {w : World} (n : Nat) (hn : n = l.length) (hp : Rd w w.heap.size A c (cells8 l)) (hmax : c ≤ 9223372036854775807) :
    Calls Tryd.prog 13 #[.slice A n c] w fun e w' => e = .returned (.tuple #[.int .i64 (gN l : Nat), .int .i64 (gK l : Nat), .int .i64 (gE l : Nat)]) ∧ w = w' := by
  subst hn
  exact refGet_any A l c w hp hmax

/-- What getBytes hands back. -/
def BytesPost (w : World) (lim : Nat) (l : List UInt8) (cm : Nat) (e : Ending) (w' : World) : Prop :=
  ∃ A c, e = .returned (.tuple #[.slice A (bB lim l).length c, .int .i64 (bK lim l : Nat), .int .i64 (bE lim l : Nat)]) ∧ Rd w w.heap.size A c (cells8 (bB lim l)) ∧ c ≤ cm ∧ w = w'
theorem bytes_bad {w : World} {lim cm e : Nat} {l : List UInt8} (h : bE lim l = e) (he : ¬ e = 0) : BytesPost w lim l cm (.returned (.tuple #[.slice none 0 0, .int .i64 0, .int .i64 e])) w := by
  obtain ⟨h1, h2⟩ := bB_bad (lim := lim) (l := l) (by omega)
  refine ⟨none, 0, ?_, ?_, Nat.zero_le _, rfl⟩
  · rw [h1, h2, h]
    rfl
  · rw [h1]
    exact Rd.none_
theorem rd_mid {w : World} {B c k n : Nat} {A : Option Addr} {l : List UInt8} (h : Rd w B A c (cells8 l)) (hk : k + n ≤ l.length) : Rd w B (if c = k then A else A.map (·.add k)) (c - k) (cells8 ((l.drop k).take n)) := by
  have h1 := (h.drop (k := k) (by rw [cells8_len]; omega)).take n
  simpa [cells8, List.map_take, List.map_drop] using h1
theorem rd_from {w : World} {B c k : Nat} {A : Option Addr} {l : List UInt8} (h : Rd w B A c (cells8 l)) (hk : k ≤ l.length) : Rd w B (if c = k then A else A.map (·.add k)) (c - k) (cells8 (l.drop k)) := by
  have h1 := h.drop (k := k) (by rw [cells8_len]; omega)
  simpa [cells8, List.map_drop] using h1
theorem rd_upto {w : World} {B c : Nat} {A : Option Addr} {l : List UInt8} (h : Rd w B A c (cells8 l)) (k : Nat) : Rd w B A c (cells8 (l.take k)) := by
  have h1 := h.take k
  simpa [cells8, List.map_take] using h1

set_option maxRecDepth 100000 in
set_option maxHeartbeats 1000000 in
theorem getBytes_any (A : Option Addr) (l : List UInt8) (c lim : Nat) (w : World) (hp : Rd w w.heap.size A c (cells8 l)) (hll : l.length ≤ 1000000000) (hmax : c ≤ 9223372036854775807) (hlim : lim ≤ 1000000) :
    Calls Tryd.prog 35 #[.slice A l.length c, .int .i64 (lim : Nat)] w (BytesPost w lim l c) := by
  have hlc := hp.1
  rw [cells8_len] at hlc
  have hk := gK_le l
  have hn := gN_lt l
  have k1 := get_at _ rfl hp (by omega)
  by_cases he : gE l = 0
  · have hkp := gK_pos he
    by_cases h2 : lim < gN l
    · have hB := Lib.hid (bytes_bad (w := w) (cm := c) (bE_long he h2) (by omega))
      rw [he] at k1
      generalize gN l = n at *
      generalize gK l = k at *
      have k1 := Lib.hid k1
      clear he hp
      go_enter Tryd.func35, Tryd.ntmps35
      go_wp2_with (go_at_call 12; refine k1.out.mono ?_; rintro e w' ⟨rfl, rfl⟩)
      go_ret3
      exact hB.out
    · by_cases h3 : l.length < gK l + gN l
      · have hB := Lib.hid (bytes_bad (w := w) (cm := c) (bE_short (lim := lim) he (by omega) h3) (by omega))
        rw [he] at k1
        generalize gN l = n at *
        generalize gK l = k at *
        have k1 := Lib.hid k1
        clear he hp
        go_enter Tryd.func35, Tryd.ntmps35
        go_wp2_with (go_at_call 12; refine k1.out.mono ?_; rintro e w' ⟨rfl, rfl⟩)
        go_ret3
        exact hB.out
      · have hb0 := bE_of he (lim := lim) (by omega) (by omega)
        obtain ⟨q1, q2⟩ := bB_ok hb0
        have hR := rd_mid hp (k := gK l) (n := gN l) (by omega)
        have hBl := body_len (l := l) (by omega)
        have hB : Hid (∀ A' c', c' ≤ c → Rd w w.heap.size A' c' (cells8 ((l.drop (gK l)).take (gN l))) → ∀ q, q = gN l → BytesPost w lim l c (.returned (.tuple #[.slice A' q c', .int .i64 ((gK l : Int) + (gN l : Int)), .int .i64 0])) w) := Lib.hid (fun A' c' hc' h q hq => ⟨A', c', by rw [q1, q2, hb0, hBl, hq]; rfl, by rw [q1]; exact h, hc', rfl⟩)
        rw [he] at k1
        generalize gN l = n at *
        generalize gK l = k at *
        have k1 := Lib.hid k1
        have hR1 : Hid (c = k → Rd w w.heap.size A (c - k) (cells8 ((l.drop k).take n))) := Lib.hid (fun h => by rw [if_pos h] at hR; exact hR)
        have hR2 : Hid (¬ c = k → Rd w w.heap.size (A.map (·.add k)) (c - k) (cells8 ((l.drop k).take n))) := Lib.hid (fun h => by rw [if_neg h] at hR; exact hR)
        clear hR
        clear he hp hb0 q1 q2 hBl
        by_cases hck : c = k
        · have hR := Lib.hid (hB.out _ _ (Nat.sub_le _ _) (hR1.out hck))
          subst hck
          rw [Nat.sub_self] at hR
          go_enter Tryd.func35, Tryd.ntmps35
          go_wp2_with (go_at_call 12; refine k1.out.mono ?_; rintro e w' ⟨rfl, rfl⟩)
          go_ret3
          exact hR.out _ (by omega)
        · have hR := Lib.hid (hB.out _ _ (Nat.sub_le _ _) (hR2.out hck))
          go_enter Tryd.func35, Tryd.ntmps35
          go_wp2_with (go_at_call 12; refine k1.out.mono ?_; rintro e w' ⟨rfl, rfl⟩)
          go_ret3
          exact hR.out _ (by omega)
  · have hB := Lib.hid (bytes_bad (w := w) (cm := c) (bE_bad (lim := lim) he) he)
    rw [gN_bad he, gK_bad he] at k1
    generalize gE l = e at *
    have k1 := Lib.hid k1
    clear hp
    go_enter Tryd.func35, Tryd.ntmps35
    go_wp2_with (go_at_call 12; refine k1.out.mono ?_; rintro e w' ⟨rfl, rfl⟩)
    go_ret3
    exact hB.out

def textV (l : List UInt8) : Value := .tuple #[.string (strOf (bB 2000 l)), .int .i64 (bK 2000 l : Nat), .int .i64 (bE 2000 l : Nat)]
theorem getText_any (A : Option Addr) (l : List UInt8) (c : Nat) (w : World) (hp : Rd w w.heap.size A c (cells8 l)) (hll : l.length ≤ 1000000000) (hmax : c ≤ 9223372036854775807) :
    Calls Tryd.prog 17 #[.slice A l.length c] w fun e w' => e = .returned (textV l) ∧ w = w' := by
  have k1 := getBytes_any A l c 2000 w hp hll hmax (by omega)
  unfold BytesPost at k1
  unfold textV
  have kc := fun (W : World) (A2 : Option Addr) (c2 : Nat) (h : Rd W W.heap.size A2 c2 (cells8 (bB 2000 l))) => convert_rd h 22 9 5 Tryd.underlying22 Tryd.underlying5 Tryd.underlying9
  generalize bB 2000 l = b at *
  generalize bK 2000 l = k at *
  generalize bE 2000 l = e at *
  have K1 := Lib.hid k1
  have KC := Lib.hid kc
  clear hp k1 kc
  go_enter Tryd.func17, Tryd.ntmps17
  go_wp2_with (go_at_call 35; refine K1.out.mono ?_; rintro e w' ⟨A2, c2, rfl, hR, hc, rfl⟩; (have kc := KC.out _ _ _ hR))
  go_ret3
  exact ⟨rfl, rfl⟩

/-- GetText's answers. -/
theorem text_bad {l : List UInt8} {e : Nat} (h : bE 2000 l = e) (he : ¬ e = 0) : textV l = .tuple #[.string ⟨#[]⟩, .int .i64 0, .int .i64 e] := by
  obtain ⟨h1, h2⟩ := bB_bad (lim := 2000) (l := l) (by omega)
  unfold textV
  rw [h1, h2, h]
  rfl
set_option maxRecDepth 100000 in
set_option maxHeartbeats 1000000 in
theorem refGetText_any (A : Option Addr) (l : List UInt8) (c : Nat) (w : World) (hp : Rd w w.heap.size A c (cells8 l)) (hll : l.length ≤ 1000000000) (hmax : c ≤ 9223372036854775807) :
    Calls Tryd.prog 18 #[.slice A l.length c] w fun e w' => e = .returned (textV l) ∧ w = w' := by
  have hlc := hp.1
  rw [cells8_len] at hlc
  have hk := gK_le l
  have hn := gN_lt l
  have k1 := refGet_at _ rfl hp (by omega)
  by_cases he : gE l = 0
  · have hkp := gK_pos he
    by_cases h2 : 2000 < gN l
    · have hB := Lib.hid (text_bad (bE_long (lim := 2000) he h2) (by omega))
      rw [he] at k1
      generalize gN l = n at *
      generalize gK l = k at *
      have k1 := Lib.hid k1
      clear he hp
      go_enter Tryd.func18, Tryd.ntmps18
      go_wp2_with (go_at_call 13; refine k1.out.mono ?_; rintro e w' ⟨rfl, rfl⟩)
      go_ret3
      exact ⟨congrArg Ending.returned hB.out.symm, rfl⟩
    · by_cases h3 : l.length < gK l + gN l
      · have hB := Lib.hid (text_bad (bE_short (lim := 2000) he (by omega) h3) (by omega))
        rw [he] at k1
        generalize gN l = n at *
        generalize gK l = k at *
        have k1 := Lib.hid k1
        clear he hp
        go_enter Tryd.func18, Tryd.ntmps18
        go_wp2_with (go_at_call 13; refine k1.out.mono ?_; rintro e w' ⟨rfl, rfl⟩)
        go_ret3
        exact ⟨congrArg Ending.returned hB.out.symm, rfl⟩
      · have hb0 := bE_of he (lim := 2000) (by omega) (by omega)
        obtain ⟨q1, q2⟩ := bB_ok hb0
        have hR := rd_mid hp (k := gK l) (n := gN l) (by omega)
        have hBl := body_len (l := l) (by omega)
        have kc := fun (A2 : Option Addr) (c2 : Nat) (h : Rd w w.heap.size A2 c2 (cells8 ((l.drop (gK l)).take (gN l)))) => convert_rd h 22 9 5 Tryd.underlying22 Tryd.underlying5 Tryd.underlying9
        have hB : Hid (textV l = .tuple #[.string (strOf (bodyOf l)), .int .i64 ((gK l : Int) + (gN l : Int)), .int .i64 0]) := Lib.hid (by unfold textV; rw [q1, q2, hb0]; rfl)
        have hbl : ((l.drop (gK l)).take (gN l)).length = gN l := hBl
        rw [hbl] at kc
        have hbo : (l.drop (gK l)).take (gN l) = bodyOf l := rfl
        rw [hbo] at kc hR
        clear hbo hbl
        generalize bodyOf l = body at *
        rw [he] at k1
        generalize gN l = n at *
        generalize gK l = k at *
        have k1 := Lib.hid k1
        have hR1 : Hid (c = k → Rd w w.heap.size A (c - k) (cells8 body)) := Lib.hid (fun h => by rw [if_pos h] at hR; exact hR)
        have hR2 : Hid (¬ c = k → Rd w w.heap.size (A.map (·.add k)) (c - k) (cells8 body)) := Lib.hid (fun h => by rw [if_neg h] at hR; exact hR)
        have KC := Lib.hid kc
        clear he hp hb0 q1 q2 hBl hR kc
        by_cases hck : c = k
        · have kk := KC.out _ _ (hR1.out hck)
          subst hck
          rw [Nat.sub_self] at kk
          have hs : c + n - c = n := by omega
          go_enter Tryd.func18, Tryd.ntmps18
          go_wp2_with (go_at_call 13; refine k1.out.mono ?_; rintro e w' ⟨rfl, rfl⟩)
          go_ret3
          exact ⟨congrArg Ending.returned hB.out.symm, rfl⟩
        · have kk := KC.out _ _ (hR2.out hck)
          have hs : k + n - k = n := by omega
          go_enter Tryd.func18, Tryd.ntmps18
          go_wp2_with (go_at_call 13; refine k1.out.mono ?_; rintro e w' ⟨rfl, rfl⟩)
          go_ret3
          exact ⟨congrArg Ending.returned hB.out.symm, rfl⟩
  · have hB := Lib.hid (text_bad (bE_bad (lim := 2000) he) he)
    rw [gN_bad he, gK_bad he] at k1
    generalize gE l = e at *
    have k1 := Lib.hid k1
    clear hp
    go_enter Tryd.func18, Tryd.ntmps18
    go_wp2_with (go_at_call 13; refine k1.out.mono ?_; rintro e w' ⟨rfl, rfl⟩)
    go_ret3
    exact ⟨congrArg Ending.returned hB.out.symm, rfl⟩
end Go.Proofs.YtlgjddmghmgmmaaDoor
